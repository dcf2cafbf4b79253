/- Parts. -/
import Derived.Test.YtpeakfcbihoknaaGreatDoorUM3
open Go.ChangeShapes Go.WideShapes Go.ChangeAt Go.RowKit
set_option maxRecDepth 8000
set_option maxHeartbeats 8000000
namespace Go.Proofs.YtpeakfcbihoknaaGreatDoor
open Proofs.Tryz
open Gr (Nd ZH nd0 YT aS dJ bJ dV bS Y0 bN eX YS Wf jg GS fJ)
section
variable{M:Mx}{X:Nat->Prop}{q:Vs}{s:Sg}{left fr:Nat}{w:World}{v:V}{va:Option Addr}{vc:Nat}{n:Int}
theorem L8(H:MS M X q s left fr w)(hr:(bS s.ns s.os n).testBit 3=true)(hp:¬(YS s.ns n).plugin<0)(hf:(iD M.ms (YS s.ns n).plugin (YS s.ns n).func).isSome=true)(hfr:20<=(fr:Int)):Calls prog 300 #[.pointer (some ⟨M.mb,0,none⟩),.int .i64 n,.agg #[.int .i64 v.kind,.int .i64 v.n,.slice va v.l.length vc]] w fun e w'=>MQ M X q fr (bad 4 left s) w e w':=by
 have HT:=hid (jZ (H.quiet (jl w v va vc)) (.inr (.inr ⟨rfl,rfl⟩):nT 3 8) n hr);obtain⟨kk,hk⟩:=oh H.gs.2 hr;have hl1:=hk.l1;generalize YS s.ns n=tn at*;have HF:=hid (fun w=>jr tn w);rw[decide_eq_true (show 0<=tn.plugin by omega)]at HF;obtain⟨t0,t1,t2,t3,t4,t5⟩:=tn;simp only[Gr.Nd.agg]at HT HF hp hf hl1;obtain⟨j,rfl⟩:∃j:Nat,t4=j:=⟨t4.toNat,by omega⟩;have hj:j<4:=by omega
 have hj4:(j:Int)<4:=by omega
 have HH:=hid H;have HJ:=bC hj hf;have HFR:=hid hfr;clear H hr hp hk hl1 hf hj hfr;go_enter func300,ntmps300;go_wp2_with (first
  |(go_at_call 287;refine(fT _ _).mono ?_;rintro e w4 ⟨rfl,h4⟩;replace h4:=h4.symm;subst h4)
  |(go_at_call 308;refine(HF.out _).mono ?_;rintro e w3 ⟨rfl,q3⟩;have HS:=hid ((qj HH.out q2 t0 t1 t2 t3 j t5).quiet q3))
  |(go_at_call 307;refine HT.out.mono ?_;rintro e w2 ⟨rfl,q2⟩))
 obtain⟨x0,x1,x2,x3,x4,x5⟩:=Gr.six HS.out.b2;obtain⟨c0,c1,c2,c3⟩:=HS.out.m.cells;obtain⟨th,ao,pn,cap,y2,y3,y4,hP⟩:=HS.out.m.acv j HJ.out.1;obtain⟨p0,p1,p2,p3,p4,hhas,_⟩:=hP;have hb:(th&&decide (0<=t5)&&decide (t5<(pn:Int)))=true:=by rw[hhas t5];exact HJ.out.2
 have HB:=hid (fun w=>ql th ao pn cap y2 y3 y4 t5 w);rw[hb]at HB;generalize hk2:w2.heap.size=k2 at*;clear hhas hb q2 q3 hk2;go_still_tail 12,gD;go_wp2_with (first
  |(go_at_call 299;refine(xz (HS.out.m.quiet Q5.out) (by have:=HFR.out;omega)).mono ?_;rintro e w6 ⟨rfl,h6⟩;replace h6:=h6.symm;subst h6)
  |(go_at_call 287;refine(fT _ _).mono ?_;rintro e w4 ⟨rfl,h4⟩;replace h4:=h4.symm;subst h4)
  |(go_at_call 274;refine(HB.out _).mono ?_;rintro e w5 ⟨rfl,q5⟩;have Q5:=hid ((Kp.drew (F:=fun _=>False) w3).trans q5);clear q5))
 exact⟨rfl,MQ.Y9 (q':=q) (calls':=fr) rfl (dG.quiet M q (HS.out.q.trans Q5.out)) (HS.out.m.quiet Q5.out) rfl⟩
theorem Uu(H:MS M X q s left fr w)(hr:(bS s.ns s.os n).testBit 3=true)(hp:¬(YS s.ns n).plugin<0)(hf:(iD M.ms (YS s.ns n).plugin (YS s.ns n).func).isSome=true)(hfr:(fr:Int)<20)(hS:v.size<=500)(hI:bu (fun k=>M.own q k\/X k) (fun w=>Is w v va) w){c:Int}(hg:(fB v (bN s.ns n) left s).got= .error c):Calls prog 300 #[.pointer (some ⟨M.mb,0,none⟩),.int .i64 n,.agg #[.int .i64 v.kind,.int .i64 v.n,.slice va v.l.length vc]] w fun e w'=>MQ M X q fr (fB v (bN s.ns n) left s) w e w':=by
 have HT:=hid (jZ (H.quiet (jl w v va vc)) (.inr (.inr ⟨rfl,rfl⟩):nT 3 8) n hr);obtain⟨kk,hk⟩:=oh H.gs.2 hr;have hl1:=hk.l1;obtain⟨gs,hgs⟩:∃gs,gs=bN s.ns n:=⟨_,rfl⟩;have HG:=bC (Be H.gs.2 H.gs.1.ln n) (fun(w':World) (h:MS M X q s left fr w')=>Gr.ZU h.gs.1 h.gs.2 n);rw[<-hgs]at HG hg|-;clear hgs;have HV:=bC hS hI;clear hS hI;generalize YS s.ns n=tn at*;have HF:=hid (fun w=>jr tn w);rw[decide_eq_true (show 0<=tn.plugin by omega)]at HF;obtain⟨t0,t1,t2,t3,t4,t5⟩:=tn;simp only[Gr.Nd.agg]at HT HF hp hf hl1;obtain⟨j,rfl⟩:∃j:Nat,t4=j:=⟨t4.toNat,by omega⟩;have hj:j<4:=by omega
 have hj4:(j:Int)<4:=by omega
 have HH:=hid H;have HJ:=bC hj hf;have HFR:=hid hfr;clear H hr hp hk hl1 hf hj hfr;go_enter func300,ntmps300;go_wp2_with (first
  |(go_at_call 287;refine(fT _ _).mono ?_;rintro e w4 ⟨rfl,h4⟩;replace h4:=h4.symm;subst h4)
  |(go_at_call 308;refine(HF.out _).mono ?_;rintro e w3 ⟨rfl,q3⟩;have HS:=hid ((qj HH.out q2 t0 t1 t2 t3 j t5).quiet q3))
  |(go_at_call 307;refine HT.out.mono ?_;rintro e w2 ⟨rfl,q2⟩))
 obtain⟨x0,x1,x2,x3,x4,x5⟩:=Gr.six HS.out.b2;obtain⟨c0,c1,c2,c3⟩:=HS.out.m.cells;obtain⟨th,ao,pn,cap,y2,y3,y4,hP⟩:=HS.out.m.acv j HJ.out.1;obtain⟨p0,p1,p2,p3,p4,hhas,_⟩:=hP;have hb:(th&&decide (0<=t5)&&decide (t5<(pn:Int)))=true:=by rw[hhas t5];exact HJ.out.2
 have HB:=hid (fun w=>ql th ao pn cap y2 y3 y4 t5 w);rw[hb]at HB;generalize hk2:w2.heap.size=k2 at*;clear hhas hb q2 q3 hk2;go_still_tail 12,gD;go_wp2_with (first
  |(go_at_call 309;refine(HG.out.2 _ (HS.out.m.quiet Q5.out)).mono ?_;rintro e w6 ⟨sv,rfl,r6,q6⟩;obtain⟨ga,gc,rfl⟩:=YU r6;have H6:=bC (HS.out.quiet (Q5.out.trans q6)) (zL (F:=fun k=>M.own q k\/(X k\/k=w.heap.size+1)) r6 (Iy (HS.out.quiet Q5.out)));clear r6 q6)
  |(go_at_call 299;refine(mI (HS.out.m.quiet Q5.out) (by have:=HFR.out;omega)).mono ?_;rintro e w6 ⟨rfl,h6⟩;replace h6:=h6.symm;subst h6)
  |(go_at_call 287;refine(fT _ _).mono ?_;rintro e w4 ⟨rfl,h4⟩;replace h4:=h4.symm;subst h4)
  |(go_at_call 274;refine(HB.out _).mono ?_;rintro e w5 ⟨rfl,q5⟩;have Q5:=hid ((Kp.drew (F:=fun _=>False) w3).trans q5);have e0:=(HS.out.m.quiet Q5.out).cells.1;have e1:=(HS.out.m.quiet Q5.out).ZP.1;clear q5))
 have M6:=hid (HH.out.ext H6.out.1.q (w.heap.size+1) (by omega) (ae H6.out.1.b1));obtain⟨z0,z1,z2⟩:=aM H6.out.1.b0;obtain⟨n0,n1,n2,n3,n4,n5⟩:=Gr.six H6.out.1.b2;have z0a:=dZ z0 (.cells #[.int .i64 0,.int .i64 0,.slice none 0 0] 71);have z1a:=dZ z1 (.cells #[.int .i64 0,.int .i64 0,.slice none 0 0] 71);have z2a:=dZ z2 (.cells #[.int .i64 0,.int .i64 0,.slice none 0 0] 71);have n4a:=dZ n4 (.cells #[.int .i64 0,.int .i64 0,.slice none 0 0] 71);have n5a:=dZ n5 (.cells #[.int .i64 0,.int .i64 0,.slice none 0 0] 71);clear x0 x1 x2 x3 x4 x5 c0 c1 c2 c3 p0 p1 p2 p3 p4 n0 n1 n2 n3;have HA:=hid (fun(w':World) (z:aA w6 w')=>pV (M6.out.quiet z) v va vc gs ga gc HV.out.1 HG.out.1 (cu (qI HV.out.2 H6.out.1.q (by omega)) z) ((cu H6.out.2 z).mono fun i _ e=> .inl e));have HO:=hid hg;clear hg;go_region_dies;all_goals
  refine(HA.out _ ?_).mono ?_
  ·first|exact Kp.drew _|exact(Kp.alloc _ _).trans (Kp.drew _)|exact(Kp.drew _).trans (Kp.alloc _ _)
  ·intro e w7 x7;obtain⟨he,q7,c7,g7,m7⟩:=x7.bad HO.out;subst he;refine⟨rfl,MQ.Y9 (q':=q7) (calls':=c7) HO.out ?_ (m7.less (fun i e=> .inl e) HH.out.xm) rfl⟩;first
    |exact(dG.quiet M q (H6.out.1.q.trans (Kp.drew _))).trans g7
    |exact(dG.quiet M q (H6.out.1.q.trans ((Kp.alloc _ (.cells #[.int .i64 0,.int .i64 0,.slice none 0 0] 71)).trans (Kp.drew _)))).trans g7
end
