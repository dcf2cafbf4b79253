/- Parts. -/
import Derived.Test.YtpeakfcbihoknaaGreatDoorUM2
open Go.ChangeShapes Go.WideShapes Go.ChangeAt Go.RowKit
set_option maxRecDepth 8000
set_option maxHeartbeats 4000000
namespace Go.Proofs.YtpeakfcbihoknaaGreatDoor
open Proofs.Tryz
open Gr (Nd ZH nd0 YT aS dJ bJ dV bS Y0 bN eX YS Wf jg GS fJ)
section
variable{C:Cx}{q:Vs}{s:Sg}{left:Nat}{w:World}{g nn sc mm nc:Nat}{ps qs:List Kd}{a b:V}{aa ba na:Option Addr}{ac bc:Nat}
theorem y9(H:Zb C q s left ⟨some ⟨g,0,none⟩,nn+1,sc,ps++[(a,aa,ac)],na,mm,nc,qs⟩ w)(hn:nn<=1999)(hfr:20<=(C.fr:Int))(k n:Int):Calls prog 286 #[.pointer (some ⟨C.fb,0,none⟩),.agg #[.int .i64 18,.int .i64 k,.int .i64 n]] w fun e w'=>bU C ⟨some ⟨g,0,none⟩,nn,sc,ps,na,mm,nc,qs⟩ (bad 4 left s) e w':=by
 have H1:=dI H 18 k n;obtain⟨i0,i1,i2⟩:=eU H1;have HT:=hid (iJ H1 (by omega));have HH:=bC H hfr;unfold ZE at i0 i1 i2 HT;clear H H1 hfr;go_enter func286,ntmps286;go_wp2_with (first
  |(go_at_call 299;refine(xz (H2.out.fs.m.quiet (Kp.alloc _ (.cells #[.int .i64 a.kind,.int .i64 a.n,.slice aa a.l.length ac] 71))) (by have:=HH.out.2;show¬((C.fr:Nat):Int)<20;omega)).mono ?_;rintro e w4 ⟨rfl,h4⟩;replace h4:=h4.symm;subst h4)
  |(go_at_call 283;refine HT.out.mono ?_;rintro e w2 ⟨rfl,h2⟩;have d0:=dZ (eF h2.fs).1 (.cells #[.int .i64 a.kind,.int .i64 a.n,.slice aa a.l.length ac] 71);have H2:=hid h2;clear h2))
 exact⟨rfl,bU.Y9 rfl rfl (iW HH.out.1 (H2.out.fs.bad.quiet (Kp.alloc _ _)))⟩
theorem Ii(H:Zb C q s left ⟨some ⟨g,0,none⟩,nn+1,sc,ps++[(a,aa,ac)],na,mm,nc,qs⟩ w)(hn:nn<=1999)(hfr:(C.fr:Int)<20)(k n:Int)(hC:qy C.m C.fr)(hf:(iD C.m.ms C.j k).isSome=true)(hc:a.check=0)(hes:s.es.length+left<=902000):Calls prog 286 #[.pointer (some ⟨C.fb,0,none⟩),.agg #[.int .i64 18,.int .i64 k,.int .i64 n]] w fun e w'=>bU C ⟨some ⟨g,0,none⟩,nn,sc,ps,na,mm,nc,qs⟩ (cO C.m.ms C.fr C.j k a left s) e w':=by
 have H1:=dI H 18 k n;obtain⟨i0,i1,i2⟩:=eU H1;have HT:=hid (iJ H1 (by omega));obtain⟨o,ho⟩:∃o,o=cO C.m.ms C.fr C.j k a left s:=⟨_,rfl⟩;rw[<-ho];have HCL:=hid (fun(w2:World) (h:O7 (C.pl w 18 k n) q s left ⟨some ⟨g,0,none⟩,nn,sc,ps,na,mm,nc,qs⟩ a aa w2) (w':World) (z:aA w2 w')=>(show Calls prog 276 #[.pointer (some ⟨C.m.mb,0,none⟩),.int .i64 C.j,.int .i64 k,.agg #[.int .i64 a.kind,.int .i64 a.n,.slice aa a.l.length ac]] w' fun e w''=>MQ C.m ((C.pl w 18 k n).x ⟨some ⟨g,0,none⟩,nn,sc,ps,na,mm,nc,qs⟩) q C.fr o w' e w'' by rw[ho];exact hC _ q s left w' C.j k a aa ac (h.fs.m.quiet z) hf hc hes (cu h.safe z)));have HH:=bC H hfr;unfold ZE at i0 i1 i2 HT;clear H H1 hfr hf hc hes ho hC;go_enter func286,ntmps286;go_wp2_with (first
  |(go_at_call 299;refine(mI (H2.out.fs.m.quiet Q2.out) (by have:=HH.out.2;show((C.fr:Nat):Int)<20;omega)).mono ?_;rintro e w4 ⟨rfl,h4⟩;replace h4:=h4.symm;subst h4)
  |(go_at_call 283;refine HT.out.mono ?_;rintro e w2 ⟨rfl,h2⟩;have d0:=dZ (eF h2.fs).1 (.cells #[.int .i64 a.kind,.int .i64 a.n,.slice aa a.l.length ac] 71);have d1:=dZ (eF h2.fs).2.1 (.cells #[.int .i64 a.kind,.int .i64 a.n,.slice aa a.l.length ac] 71);obtain⟨j0,j1,j2⟩:=eU h2.fs;have j1a:=dZ j1 (.cells #[.int .i64 a.kind,.int .i64 a.n,.slice aa a.l.length ac] 71);obtain⟨y0,y1,y2⟩:=aM (ah w2 (.cells #[.int .i64 a.kind,.int .i64 a.n,.slice aa a.l.length ac] 71));have Q2:=hid (show aA w2 (w2.alloc (.cells #[.int .i64 a.kind,.int .i64 a.n,.slice aa a.l.length ac] 71))from Kp.alloc _ _);have H2:=hid h2;clear h2))
 obtain⟨W3,hW3⟩:∃W3,W3=w2.alloc (.cells #[.int .i64 a.kind,.int .i64 a.n,.slice aa a.l.length ac] 71):=⟨_,rfl⟩;rw[<-hW3]at d0 d1 j1a y0 y1 y2 Q2|-;clear hW3;go_still_tail 11,gD;cases hg:o.got with
 |error c=>
  have HO:=hid hg;clear hg;go_wp2_with (go_at_call 276;refine(HCL.out _ H2.out.toO7 _ (Q2.out.trans (Kp.drew _))).mono ?_;rintro e w5 x5;obtain⟨rfl,q5,c5,g5,m5⟩:=x5.bad HO.out;have H5:=bC g5 m5;clear x5 g5 m5);exact⟨rfl,bU.Y9 HO.out rfl (iW HH.out.1 ((H2.out.fs.quiet (Q2.out.trans (Kp.drew _))).acr H5.out.1 H5.out.2))⟩
 |ok v=>
  have HO:=hid hg;clear hg;go_wp2_with (go_at_call 276;refine(HCL.out _ H2.out.toO7 _ (Q2.out.trans (Kp.drew _))).mono ?_;rintro e w5 x5;obtain⟨q5,a5,c5,rfl,g5,m5,s5⟩:=x5.ok HO.out;have h5:=(H2.out.fs.quiet (Q2.out.trans (Kp.drew _))).abq g5 m5;have hb5:=gP h5;obtain⟨m0,m1,m2⟩:=aM hb5;obtain⟨f0,f1,f2⟩:=bI hb5;have hz:=ae hb5;have H5:=bC h5 s5;clear h5 g5 m5 s5 x5 hb5);refine au (v:= .agg #[.int .i64 v.kind,.int .i64 v.n,.slice a5 v.l.length c5]) (by simp[results,results286,go_sem,m0,m1,m2]) rfl ?_;exact pq HH.out.1 HO.out H5.out.1 H5.out.2
end
section
variable{M:Mx}{X:Nat->Prop}{q:Vs}{s:Sg}{left fr:Nat}{w:World}{v:V}{va:Option Addr}{vc:Nat}{n:Int}
theorem jl(w:World)(v:V)(va:Option Addr)(vc:Nat):aA w ((w.alloc (.cells #[.int .i64 v.kind,.int .i64 v.n,.slice va v.l.length vc] 71)).alloc (.cells #[.int .i64 0,.int .i64 0,.slice none 0 0] 71)):=(Kp.alloc _ _).trans (Kp.alloc _ _)
theorem JM(H:MS M X q s left fr w)(hr:(bS s.ns s.os n).testBit 3=false):Calls prog 300 #[.pointer (some ⟨M.mb,0,none⟩),.int .i64 n,.agg #[.int .i64 v.kind,.int .i64 v.n,.slice va v.l.length vc]] w fun e w'=>MQ M X q fr (bad 9 left s) w e w':=by
 have HT:=hid (Ab (H.quiet (jl w v va vc)) (.inr (.inr ⟨rfl,rfl⟩):nT 3 8) n hr);have HH:=bC H (jl w v va vc);clear H hr;go_enter func300,ntmps300;go_wp2_with (go_at_call 307;refine HT.out.mono ?_;rintro e w2 ⟨rfl,q2⟩);exact⟨rfl,MQ.Y9 (q':=q) (calls':=fr) rfl (dG.quiet M q (HH.out.2.trans q2)) (HH.out.1.quiet (HH.out.2.trans q2)) rfl⟩
theorem MR(H:MS M X q s left fr w)(hr:(bS s.ns s.os n).testBit 3=true)(hp:(YS s.ns n).plugin<0):Calls prog 300 #[.pointer (some ⟨M.mb,0,none⟩),.int .i64 n,.agg #[.int .i64 v.kind,.int .i64 v.n,.slice va v.l.length vc]] w fun e w'=>MQ M X q fr (bad 2 left s) w e w':=by
 have HT:=hid (jZ (H.quiet (jl w v va vc)) (.inr (.inr ⟨rfl,rfl⟩):nT 3 8) n hr);have HH:=bC H (jl w v va vc);generalize YS s.ns n=tn at*;have HF:=hid (fun w=>jr tn w);rw[decide_eq_false (show¬0<=tn.plugin by omega)]at HF;obtain⟨t0,t1,t2,t3,t4,t5⟩:=tn;simp only[Gr.Nd.agg]at HT HF;clear H hr hp;go_enter func300,ntmps300;go_wp2_with (first
  |(go_at_call 287;refine(jH _ _).mono ?_;rintro e w4 ⟨rfl,h4⟩;replace h4:=h4.symm;subst h4)
  |(go_at_call 308;refine(HF.out _).mono ?_;rintro e w3 ⟨rfl,q3⟩)
  |(go_at_call 307;refine HT.out.mono ?_;rintro e w2 ⟨rfl,q2⟩))
 have qz:=(HH.out.2.trans q2).trans ((Kp.alloc _ (.cells #[.int .i64 t0,.int .i64 t1,.int .i64 t2,.int .i64 t3,.int .i64 t4,.int .i64 t5] 207)).trans q3);exact⟨rfl,MQ.Y9 (q':=q) (calls':=fr) rfl (dG.quiet M q qz) (HH.out.1.quiet qz) rfl⟩
structure QZ(M:Mx)(X:Nat->Prop)(q:Vs)(s:Sg)(left fr:Nat)(v:V)(va:Option Addr)(vc k2:Nat)(t0 t1 t2 t3 t4 t5:Int)(w wx:World):Prop where
 m:MS M X q s left fr wx
 q:aA w wx
 b0:wx.heap[w.heap.size]?=some (.cells #[.int .i64 v.kind,.int .i64 v.n,.slice va v.l.length vc] 71 (0,0))
 b1:wx.heap[w.heap.size+1]?=some (.cells #[.int .i64 0,.int .i64 0,.slice none 0 0] 71 (0,0))
 b2:wx.heap[k2]?=some (.cells #[.int .i64 t0,.int .i64 t1,.int .i64 t2,.int .i64 t3,.int .i64 t4,.int .i64 t5] 207 (0,0))
 k2:w.heap.size+2<=k2
theorem QZ.quiet{k2:Nat}{t0 t1 t2 t3 t4 t5:Int}{wx wy:World}(H:QZ M X q s left fr v va vc k2 t0 t1 t2 t3 t4 t5 w wx)(k:aA wx wy):QZ M X q s left fr v va vc k2 t0 t1 t2 t3 t4 t5 w wy:=
 ⟨H.m.quiet k,H.q.trans k,(k.block _ (ae H.b0) fun e=>e).trans H.b0,(k.block _ (ae H.b1) fun e=>e).trans H.b1,(k.block _ (ae H.b2) fun e=>e).trans H.b2,H.k2⟩
theorem qj(H:MS M X q s left fr w){w2:World}(q2:aA ((w.alloc (.cells #[.int .i64 v.kind,.int .i64 v.n,.slice va v.l.length vc] 71)).alloc (.cells #[.int .i64 0,.int .i64 0,.slice none 0 0] 71)) w2)(t0 t1 t2 t3 t4 t5:Int):QZ M X q s left fr v va vc w2.heap.size t0 t1 t2 t3 t4 t5 w (w2.alloc (.cells #[.int .i64 t0,.int .i64 t1,.int .i64 t2,.int .i64 t3,.int .i64 t4,.int .i64 t5] 207)):=by
 have b0:((w.alloc (.cells #[.int .i64 v.kind,.int .i64 v.n,.slice va v.l.length vc] 71)).alloc (.cells #[.int .i64 0,.int .i64 0,.slice none 0 0] 71)).heap[w.heap.size]?=some (.cells #[.int .i64 v.kind,.int .i64 v.n,.slice va v.l.length vc] 71 (0,0)):=by rw[aB _ _ _ (by simp)];exact ah w _
 have b1:=Y2 w (.cells #[.int .i64 v.kind,.int .i64 v.n,.slice va v.l.length vc] 71) (.cells #[.int .i64 0,.int .i64 0,.slice none 0 0] 71);have q3:aA w2 (w2.alloc (.cells #[.int .i64 t0,.int .i64 t1,.int .i64 t2,.int .i64 t3,.int .i64 t4,.int .i64 t5] 207)):=Kp.alloc _ _;have qz:=q2.trans q3;refine⟨H.quiet ((jl w v va vc).trans qz),(jl w v va vc).trans qz,(qz.block _ (ae b0) fun e=>e).trans b0,(qz.block _ (ae b1) fun e=>e).trans b1,ah w2 _, ?_⟩;have:=q2.size;simp at this;omega
theorem OC(H:MS M X q s left fr w)(hr:(bS s.ns s.os n).testBit 3=true)(hp:¬(YS s.ns n).plugin<0)(hf:(iD M.ms (YS s.ns n).plugin (YS s.ns n).func).isSome=false):Calls prog 300 #[.pointer (some ⟨M.mb,0,none⟩),.int .i64 n,.agg #[.int .i64 v.kind,.int .i64 v.n,.slice va v.l.length vc]] w fun e w'=>MQ M X q fr (bad 8 left s) w e w':=by
 have HT:=hid (jZ (H.quiet (jl w v va vc)) (.inr (.inr ⟨rfl,rfl⟩):nT 3 8) n hr);obtain⟨kk,hk⟩:=oh H.gs.2 hr;have hl1:=hk.l1;generalize YS s.ns n=tn at*;have HF:=hid (fun w=>jr tn w);rw[decide_eq_true (show 0<=tn.plugin by omega)]at HF;obtain⟨t0,t1,t2,t3,t4,t5⟩:=tn;simp only[Gr.Nd.agg]at HT HF hp hf hl1;obtain⟨j,rfl⟩:∃j:Nat,t4=j:=⟨t4.toNat,by omega⟩;have hj:j<4:=by omega
 have hj4:(j:Int)<4:=by omega
 have HH:=hid H;have HJ:=bC hj hf;clear H hr hp hk hl1 hf hj;go_enter func300,ntmps300;go_wp2_with (first
  |(go_at_call 287;refine(fT _ _).mono ?_;rintro e w4 ⟨rfl,h4⟩;replace h4:=h4.symm;subst h4)
  |(go_at_call 308;refine(HF.out _).mono ?_;rintro e w3 ⟨rfl,q3⟩;have HS:=hid ((qj HH.out q2 t0 t1 t2 t3 j t5).quiet q3))
  |(go_at_call 307;refine HT.out.mono ?_;rintro e w2 ⟨rfl,q2⟩))
 obtain⟨x0,x1,x2,x3,x4,x5⟩:=Gr.six HS.out.b2;obtain⟨c0,c1,c2,c3⟩:=HS.out.m.cells;obtain⟨th,ao,pn,cap,y2,y3,y4,hP⟩:=HS.out.m.acv j HJ.out.1;obtain⟨p0,p1,p2,p3,p4,hhas,_⟩:=hP;have hb:(th&&decide (0<=t5)&&decide (t5<(pn:Int)))=false:=by rw[hhas t5];exact HJ.out.2
 have HB:=hid (fun w=>ql th ao pn cap y2 y3 y4 t5 w);rw[hb]at HB;clear hhas hb q2 q3;go_still_tail 12,gD;go_wp2_with (first
  |(go_at_call 287;refine(jH _ _).mono ?_;rintro e w4 ⟨rfl,h4⟩;replace h4:=h4.symm;subst h4)
  |(go_at_call 274;refine(HB.out _).mono ?_;rintro e w5 ⟨rfl,q5⟩))
 have qz:=(Kp.drew (F:=fun _=>False) w3).trans q5;exact⟨rfl,MQ.Y9 (q':=q) (calls':=fr) rfl (dG.quiet M q (HS.out.q.trans qz)) (HS.out.m.quiet qz) rfl⟩
end
section
variable{M:Mx}{X:Nat->Prop}{q:Vs}{s:Sg}{left fr:Nat}{w:World}{v:V}{va:Option Addr}{vc:Nat}{n:Int}
theorem JS{w:World}{B:Nat}{gs:List Int}{ga:Option Addr}{gc:Nat}(h:w.ownsRow B 3 1 (.slice ga gs.length gc) gs.length (rX gs)):fJ w ga gs:=by
 intro j hj;obtain⟨g,e,d⟩:=Zc h (by omega);refine⟨g,0,e, ?_⟩;rw[bP,d j (by omega)];simp[rX,hj]
theorem zL{w:World}{B:Nat}{gs:List Int}{ga:Option Addr}{gc:Nat}{F:Nat->Prop}(h:w.ownsRow B 3 1 (.slice ga gs.length gc) gs.length (rX gs))(hF:∀k,F k->k<B):bu F (fun w=>fJ w ga gs) w:=by
 intro w' k j hj;obtain⟨g,o,e,c⟩:=JS h j hj;subst e;obtain⟨g',e',_⟩:=Zc h (by omega);simp only[aT,eG,and_true]at e';obtain⟨rfl,rfl⟩:=e';have hb:=(h.lt g rfl).1;exact⟨g,0,rfl,k.cell c fun e=>by have:=hF _ e;simp only at this;omega⟩
theorem Be{ns:List Nd}{g:Nat}(hw:Wf ns g)(hl:ns.length<=80)(n:Int):(bN ns n).length<=100:=by
 have h1:=Gr.abb (Y0 ns n);have h2:=Gr.aaw hw n;simp only[bN];omega
theorem Iy{k2:Nat}{t0 t1 t2 t3 t4 t5:Int}{wx:World}(H:QZ M X q s left fr v va vc k2 t0 t1 t2 t3 t4 t5 w wx):∀k,M.own q k\/(X k\/k=w.heap.size+1)->k<wx.heap.size:=fun k e=>by
 rcases e with e|e|e;exact H.m.Z8 k (.inl e);exact H.m.Z8 k (.inr e);rw[e];exact ae H.b1
structure X0(M:Mx)(Y:Nat->Prop)(q q7:Vs)(s7:Sg)(aca fr:Nat)(k1 k2:Nat)(t0 t1 t2 t3 t4 t5:Int)(x:V)(xa:Option Addr)(W w7:World):Prop where
 m:MS M Y q7 s7 aca fr w7
 g:dG M q W q7 w7
 b1:w7.heap[k1]?=some (.cells #[.int .i64 0,.int .i64 0,.slice none 0 0] 71 (0,0))
 b2:w7.heap[k2]?=some (.cells #[.int .i64 t0,.int .i64 t1,.int .i64 t2,.int .i64 t3,.int .i64 t4,.int .i64 t5] 207 (0,0))
 safe:bu (fun k=>M.own q7 k\/Y k) (fun w=>Is w x xa) w7
theorem K8{Y:Nat->Prop}{q7:Vs}{s7:Sg}{aca k1 k2:Nat}{t0 t1 t2 t3 t4 t5:Int}{x:V}{xa:Option Addr}{W W' w7:World}(m0:MS M Y q s left fr W')(kW:aA W W')(b1:W.heap[k1]?=some (.cells #[.int .i64 0,.int .i64 0,.slice none 0 0] 71 (0,0)))(b2:W.heap[k2]?=some (.cells #[.int .i64 t0,.int .i64 t1,.int .i64 t2,.int .i64 t3,.int .i64 t4,.int .i64 t5] 207 (0,0)))(hn:¬M.own q k2)
 (m:MS M Y q7 s7 aca fr w7) (g:dG M q W' q7 w7) (hs:bu (fun k=>M.own q7 k\/Y k) (fun w=>Is w x xa) w7):X0 M Y q q7 s7 aca fr k1 k2 t0 t1 t2 t3 t4 t5 x xa W w7:=by
 have c1:=(kW.block _ (ae b1) fun e=>e).trans b1;have c2:=(kW.block _ (ae b2) fun e=>e).trans b2;refine⟨m,g.after kW,(g.block c1 (m0.apart c1).2 (m0.apart c1).1).1,(g.block c2 hn fun e=> ?_).1,hs⟩;rw[e,m0.ma]at c2;simp at c2
end
