/- Parts. -/
import Derived.Test.YtpeakfcbihoknaaGreatDoorUVmDo
open Go.ChangeShapes Go.WideShapes Go.ChangeAt Go.RowKit
set_option maxRecDepth 8000
set_option maxHeartbeats 4000000
namespace Go.Proofs.YtpeakfcbihoknaaGreatDoor
open Proofs.Tryz
open Gr (Nd ZH nd0 YT aS dJ bJ dV bS Y0 bN eX YS Wf jg GS fJ)
theorem Qr{x:Ex.V}{F:Int}(h:x.bad F 0=0):∀i∈Ex.Zj x,i.op=103\/i.op=104->0<=i.k:=by
 intro i hi hop;obtain⟨j,hj,rfl⟩:=bT hi;have:=(Ex.acu _ _ 0 0 (Ex.acR h).1 j hj).jump hop;omega
theorem SA{ms:fA}{p f:Int}(h:(iD ms p f).isSome=true):∃(j k:Nat) (l:List Ex.V) (x:Ex.V),p=j/\f=k/\ms.getD j none=some l/\l[k]?=some x/\iD ms p f=some x:=by
 unfold iD at h;by_cases hp:0<=p/\0<=f
 ·rw[ag hp]at h;cases hl:ms.getD p.toNat none with
  |none=>rw[hl]at h;simp at h
  |some l=>
   rw[hl]at h;simp only[Option.bind_some]at h;cases hx:l[f.toNat]? with
   |none=>rw[hx]at h;cases h
   |some x=>exact⟨p.toNat,f.toNat,l,x,by omega,by omega,hl,hx,by unfold iD;rw[ag hp,hl];exact hx⟩
 ·rw[af hp]at h;cases h
theorem Us{ms:fA}{j:Nat}{l:List Ex.V}(h:ms.getD j none=some l):∀k:Int,0<=k->k<(l.length:Nat)->(iD ms j k).isSome=true:=by
 intro k h0 h1;unfold iD;rw[ag ⟨by omega,h0⟩,Int.toNat_natCast,h];simp only[Option.bind_some];rw[aQ (by omega)];rfl
section
variable{M:Mx}{X:Nat->Prop}{q q':Vs}{s s':Sg}{left left':Nat}{w w':World}{v:V}{va:Option Addr}{vc fr j:Nat}
def cx0(M:Mx)(X:Nat->Prop)(q:Vs)(w:World)(fr j:Nat)(v:V)(va:Option Addr)(vc:Nat):Cx:=⟨M,w.heap.size+1+1,fr+1,j,v,va,vc,fun k=>X k\/k=w.heap.size+1,q,w,[(w.heap.size+1,#[.int .i64 0,.int .i64 0,.slice none 0 0],71)]⟩
def GU(M:Mx)(w:World)(fr j:Nat)(v:V)(va:Option Addr)(vc:Nat):World:=(((w.setCell ⟨M.mb,3,none⟩ (.int .i64 ((fr:Int)+1))).alloc (.cells #[.int .i64 v.kind,.int .i64 v.n,.slice va v.l.length vc] 71)).alloc (.cells #[.int .i64 0,.int .i64 0,.slice none 0 0] 71)).alloc (.cells #[.pointer (some ⟨M.mb,0,none⟩),.int .i64 j,.int .i64 v.kind,.int .i64 v.n,.slice va v.l.length vc,.slice none 0 0,.slice none 0 0] 355)
theorem LC(M:Mx)(w:World)(fr j:Nat)(v:V)(va:Option Addr)(vc:Nat):Kp (fun k=>k=M.mb) w (GU M w fr j v va vc):=
 (((bF _ M.mb 3 _).trans (Kp.alloc _ _)).trans (Kp.alloc _ _)).trans (Kp.alloc _ _)
theorem Bz(H:MS M X q s left fr w)(hI:bu (fun k=>M.own q k\/X k) (fun w=>Is w v va) w):Zb (cx0 M X q w fr j v va vc) q s left ⟨none,0,0,[],none,0,0,[]⟩ (GU M w fr j v va vc):=by
 have hk:=LC M w fr j v va vc;have k2:=bF w M.mb 3 (.int .i64 ((fr:Int)+1));obtain⟨H2,G2⟩:=H.put (left':=left) (calls':=(fr:Int)+1) k2 (by have h:=H.ma;simp[World.setCell,aR,h]) H.lf;have hs2:(w.setCell ⟨M.mb,3,none⟩ (.int .i64 ((fr:Int)+1))).heap.size=w.heap.size:=by simp[World.setCell]
 unfold GU at hk|-;generalize w.setCell ⟨M.mb,3,none⟩ (.int .i64 ((fr:Int)+1))=W2 at*;obtain⟨n0,n1,n2⟩:=jk W2 (.cells #[.int .i64 v.kind,.int .i64 v.n,.slice va v.l.length vc] 71) (.cells #[.int .i64 0,.int .i64 0,.slice none 0 0] 71) (.cells #[.pointer (some ⟨M.mb,0,none⟩),.int .i64 j,.int .i64 v.kind,.int .i64 v.n,.slice va v.l.length vc,.slice none 0 0,.slice none 0 0] 355);have q3:aA W2 (((W2.alloc (.cells #[.int .i64 v.kind,.int .i64 v.n,.slice va v.l.length vc] 71)).alloc (.cells #[.int .i64 0,.int .i64 0,.slice none 0 0] 71)).alloc (.cells #[.pointer (some ⟨M.mb,0,none⟩),.int .i64 j,.int .i64 v.kind,.int .i64 v.n,.slice va v.l.length vc,.slice none 0 0,.slice none 0 0] 355)):=((Kp.alloc _ _).trans (Kp.alloc _ _)).trans (Kp.alloc _ _);have hs3:(((W2.alloc (.cells #[.int .i64 v.kind,.int .i64 v.n,.slice va v.l.length vc] 71)).alloc (.cells #[.int .i64 0,.int .i64 0,.slice none 0 0] 71)).alloc (.cells #[.pointer (some ⟨M.mb,0,none⟩),.int .i64 j,.int .i64 v.kind,.int .i64 v.n,.slice va v.l.length vc,.slice none 0 0,.slice none 0 0] 355)).heap.size=w.heap.size+3:=by simp[hs2]
 rw[hs2]at n1 n2;generalize((W2.alloc (.cells #[.int .i64 v.kind,.int .i64 v.n,.slice va v.l.length vc] 71)).alloc (.cells #[.int .i64 0,.int .i64 0,.slice none 0 0] 71)).alloc (.cells #[.pointer (some ⟨M.mb,0,none⟩),.int .i64 j,.int .i64 v.kind,.int .i64 v.n,.slice va v.l.length vc,.slice none 0 0,.slice none 0 0] 355)=W3 at*;have hnb:∀k:Nat,¬blk none 0 0=some k:=fun k e=>by simp[Value.ownBlock]at e
 have hx:∀k,(cx0 M X q w fr j v va vc).x ⟨none,0,0,[],none,0,0,[]⟩ k->X k\/k=w.heap.size+1\/k=w.heap.size+2:=fun k e=>by
  rcases e with(e|e)|e|e|e;exact .inl e;exact .inr (.inl e);exact .inr (.inr e);exact absurd e (hnb k);exact absurd e (hnb k)
 refine⟨?_,n2,Two.nil _ _ _, ?_,.inl H.xm,fun k _=>⟨hnb k,hnb k⟩,by simp only[cx0];omega,G2.trans (dG.quiet M q q3),fun p hp=> ?_⟩
 ·have h:=H2.step (X':=(cx0 M X q w fr j v va vc).x ⟨none,0,0,[],none,0,0,[]⟩) q3 (fun k hk e=>by
   rcases hx k e with e|e|e;exact e;omega
   ·omega) (.inl (.inl H.xm)) (fun k e=>by
   rcases hx k e with e|e|e;have:=H.xo k e;omega;omega
   ·omega)
  exact h
 ·refine hI.step (hk.mono fun k _ e=> .inr (e▸H.xm)) fun k hk e=> ?_;rcases e with e|e
  ·exact .inl e
  ·rcases hx k e with e|e|e;exact .inr e;omega;omega
 ·simp only[cx0,bD]at hp;subst hp;exact⟨n1,.inr rfl,.inl rfl⟩
theorem NZ{o:Out}{R:Rw}{y:V}{ya:Option Addr}{yc:Nat}{w2 W4 W5:World}(hm:M.mb<w.heap.size)(ho:o.got= .ok y)(h:Zb (cx0 M X q w fr j v va vc) q' o.s o.left R w2)(hs:bu (fun k=>M.own q' k\/(cx0 M X q w fr j v va vc).x R k) (fun w=>Is w y ya) w2)(hx:X M.mb)
 (e4:W4=((((w2.setCell ⟨M.mb,3,none⟩ (.int .i64 fr)).setCell ⟨w.heap.size+1,0,none⟩ (.int .i64 y.kind)).setCell ⟨w.heap.size+1,1,none⟩ (.int .i64 y.n)).setCell ⟨w.heap.size+1,2,none⟩ (.slice ya y.l.length yc))) (q5:aA W4 W5):
 MQ M X q fr o w (.returned (.agg #[.int .i64 y.kind,.int .i64 y.n,.slice ya y.l.length yc])) W5:=by
 subst e4;have hm3:MS M ((cx0 M X q w fr j v va vc).x R) q' o.s o.left ((fr+1:Nat):Int) w2:=h.m;have k4:=bF w2 M.mb 3 (.int .i64 (fr:Int));obtain⟨H4,G4⟩:=hm3.put (left':=o.left) (calls':=(fr:Int)) k4 (by have h:=hm3.ma;simp[World.setCell,aR,h]) h.m.lf;have b2:=(h.st (w.heap.size+1,#[.int .i64 0,.int .i64 0,.slice none 0 0],71) (by simp[cx0])).1;have b4:=(k4.block _ (ae b2) fun e=>by simp only at e;omega).trans b2;have k5:=dE (w2.setCell ⟨M.mb,3,none⟩ (.int .i64 fr)) (w.heap.size+1) (.int .i64 y.kind) (.int .i64 y.n) (.slice ya y.l.length yc);have hs4:bu (fun k=>M.own q' k\/(cx0 M X q w fr j v va vc).x R k) (fun w=>Is w y ya) (w2.setCell ⟨M.mb,3,none⟩ (.int .i64 fr)):=hs.step (k4.mono fun k _ e=> .inr (.inl (.inl (e▸hx)))) fun k _ e=>e;have g4:dG M q w q' (w2.setCell ⟨M.mb,3,none⟩ (.int .i64 fr)):=h.went.trans G4;have hloc:=H4.loc b4 (.inl rfl);have hxx:∀k,X k->(cx0 M X q w fr j v va vc).x R k:=fun k e=> .inl (.inl e);refine MQ.ZZ ho ((g4.fresh (k5.mono fun k _ e=>by omega)).trans (dG.quiet M q' q5)) (MS.quiet ?_ q5) rfl (cu ?_ q5)
 ·exact H4.turn k5 (fun k e=> .inl (.inr e)) (fun e=>hloc.1 e.symm) (fun k hk e=>hloc.2 (e▸hk)) (fun k cs t hk ht e=>by
   rw[e,b4]at hk;simp at hk;rcases ht with ht|ht<;>rw[ht]at hk<;>exact absurd hk.2 (by decide)) (fun k _ e=>hxx k e) hx (fun k e=>az (H4.xo k (hxx k e)) k5.size)
 ·exact hs4.step (k5.mono fun k _ e=> .inr (.inl (.inr e))) fun k _ e=>by
   rcases e with e|e;exact .inl e;exact .inr (hxx k e)
theorem Ji{o:Out}{R:Rw}{w2:World}(h:Zb (cx0 M X q w fr j v va vc) q' o.s o.left R w2):w2.cell? ⟨M.mb,3,none⟩=some (.int .i64 ((fr:Int)+1))/\w2.frozen? ⟨M.mb,3,none⟩=false/\M.mb<w2.heap.size/\w2.heap[w.heap.size+1]?=some (.cells #[.int .i64 0,.int .i64 0,.slice none 0 0] 71 (0,0)):=
 ⟨h.m.cells.2.2.2,aG _ M.mb 3 _ _ h.m.ma,ae h.m.ma,(h.st (w.heap.size+1,#[.int .i64 0,.int .i64 0,.slice none 0 0],71) (by simp[cx0])).1⟩
theorem EP{w:World}{B:Nat}{e:TypeId}{sz n:Nat}{v:Value}{xs:List Value}(h:w.ownsRow B e sz v n xs){k:Nat}(hk:v.ownBlock=some k):∃cs,w.heap[k]?=some (.cells cs e (0,0)):=by
 rcases h.2 with⟨e1,_⟩|⟨g,cp,cur,e1,_,hg,_⟩;rw[e1]at hk;simp[Value.ownBlock]at hk;rw[e1]at hk;simp[Value.ownBlock]at hk;subst hk;exact⟨_,hg⟩
theorem MS.code{calls:Int}(H:MS M X q s left calls w){k:Nat}{cs:Array Value}{t:TypeId}(hk:w.heap[k]?=some (.cells cs t (0,0)))(ht:t=334\/t=328):¬M.own q k/\k≠M.mb:=by
 rcases ht with rfl|rfl;exact⟨H.free hk (by decide) (by decide) (by decide) (by decide) (by decide) (by decide),fun e=>by rw[e,H.ma]at hk;simp at hk⟩;exact⟨H.free hk (by decide) (by decide) (by decide) (by decide) (by decide) (by decide),fun e=>by rw[e,H.ma]at hk;simp at hk⟩
theorem MS.bne{calls:Int}(H:MS M X q s left calls w):M.bb≠M.mb:=by
 obtain⟨a,b,c,d,hb,_⟩:=H.box;intro e;have h:=hb.obj;rw[e,H.ma]at h;simp at h
theorem Fv(hM:Db M.ms)(hfr:fr<20)(hC:fr+1<20->qy M (fr+1)):qy M fr:=by
 intro X q s left w p f v va vc H hf hv hes hI;obtain⟨j,k,l,x,rfl,rfl,hl,hx,hfo⟩:=SA hf;have hj:j<4:=by
  have h1:=H.ae5;rcases dO j 4 with h|h;exact h;rw[aD,di (by omega)]at hl;cases hl
 obtain⟨th,ao,n,cap,y2,y3,y4,hP⟩:=H.acv j hj;obtain⟨hn,⟨ao',cap',ps,hsl,md,hmap⟩,hbad⟩:=hP.code l hl;have p1:=hP.c1;subst hn;simp only[aY,true_and]at hsl;obtain⟨rfl,rfl⟩:=hsl;obtain⟨g,fa,fc,rfl,hcell,hrow⟩:=md.get k (Ex.Zj x) (by rw[hmap,fe,hx];rfl);have hE:cO M.ms fr j k v left s=EvF M.ms (fr+1) j x v [] left s:=by unfold cO jY;rw[af (by omega),hfo]
 rw[hE];have hxm:=dx hx;have hl2:left<=2000:=by have:=H.lf;have:=H.fu;omega
 have hgb:g≠M.mb:=by
  obtain⟨cs,hg⟩:=EP md.row (k:=g) rfl;exact(H.code hg (.inr rfl)).2
 have HD:=hid (show Calls prog 280 #[.pointer (some ⟨w.heap.size+1+1,0,none⟩),.slice fa (Ex.Zj x).length fc] ((((w.setCell ⟨M.mb,3,none⟩ (.int .i64 ((fr:Int)+1))).alloc (.cells #[.int .i64 v.kind,.int .i64 v.n,.slice va v.l.length vc] 71)).alloc (.cells #[.int .i64 0,.int .i64 0,.slice none 0 0] 71)).alloc (.cells #[.pointer (some ⟨M.mb,0,none⟩),.int .i64 j,.int .i64 v.kind,.int .i64 v.n,.slice va v.l.length vc,.slice none 0 0,.slice none 0 0] 355)) fun e w'=>DoQ (cx0 M X q w fr j v va vc) (EvF M.ms (fr+1) j x v [] left s) e w' from
  UC (C:=cx0 M X q w fr j v va vc) (Bz H hI) hj (show fr+1<=20 by omega) hC x l.length (hbad x hxm) (Us hl) (hM j l hl x hxm) (Qr (hbad x hxm)) hv hes hl2 fa fc hrow (fun k hk=>by
   obtain⟨cs,hg⟩:=EP hrow hk;exact H.code hg (.inl rfl)))
 have hkl:(k:Int)<(l.length:Int):=by have:=(dn.1 hx).1;omega
 have hj4:(j:Int)<4:=by omega
 have hkp:=LC M w fr j v va vc;unfold GU at hkp;have hmw:=ae H.ma;have r1:=hkp.cell p1 H.bne;have r2:=hkp.cell hcell hgb;have qW:aA w ((w.alloc (.cells #[.int .i64 v.kind,.int .i64 v.n,.slice va v.l.length vc] 71)).alloc (.cells #[.int .i64 0,.int .i64 0,.slice none 0 0] 71)):=(Kp.alloc _ _).trans (Kp.alloc _ _);have c3:=(H.quiet qW).cells.2.2.2;have f3:=aG _ M.mb 3 _ _ (H.quiet qW).ma;have hz:=ae (H.quiet qW).ma;have r0:=(Bz (j:=j) (v:=v) (va:=va) (vc:=vc) H hI).m.cells.1;unfold GU at r0;simp only[cx0]at r0;have hw1:IntKind.i64.wrap ((fr:Int)+1)=(fr:Int)+1:=by rw[eQ];omega
 have hw2:IntKind.i64.wrap ((fr:Int)+1-1)=(fr:Int):=by rw[eQ];omega
 have HH:=bC H hmw;generalize EvF M.ms (fr+1) j x v [] left s=o at*;clear H hE hfo hx hl hM hC hbad hmap md hrow hP hcell p1 hI hes hv hf hxm hl2 hgb hkp qW;cases ho:o.got with
 |error c=>
  have HX:=hid (show Calls prog 280 #[.pointer (some ⟨w.heap.size+1+1,0,none⟩),.slice fa (Ex.Zj x).length fc] ((((w.setCell ⟨M.mb,3,none⟩ (.int .i64 ((fr:Int)+1))).alloc (.cells #[.int .i64 v.kind,.int .i64 v.n,.slice va v.l.length vc] 71)).alloc (.cells #[.int .i64 0,.int .i64 0,.slice none 0 0] 71)).alloc (.cells #[.pointer (some ⟨M.mb,0,none⟩),.int .i64 j,.int .i64 v.kind,.int .i64 v.n,.slice va v.l.length vc,.slice none 0 0,.slice none 0 0] 355)) fun e w'=>e= .panicked (lC c)/\mr (cx0 M X q w fr j v va vc) o.s o.left w' from by
   refine HD.out.mono ?_;intro e w' h;unfold DoQ at h;rw[ho]at h;exact h)
  have HO:=hid ho;clear ho HD;go_enter func276,ntmps276;go_wp2_with (go_at_call 280;refine HX.out.mono ?_;rintro e w5 ⟨rfl,b5⟩;have H5:=hid b5;clear b5);obtain⟨q5,c5,g5,m5⟩:=H5.out;exact⟨rfl,MQ.Y9 HO.out g5 (m5.less (fun _ e=> .inl e) HH.out.1.xm) rfl⟩
 |ok y=>
  have HX:=hid (show Calls prog 280 #[.pointer (some ⟨w.heap.size+1+1,0,none⟩),.slice fa (Ex.Zj x).length fc] ((((w.setCell ⟨M.mb,3,none⟩ (.int .i64 ((fr:Int)+1))).alloc (.cells #[.int .i64 v.kind,.int .i64 v.n,.slice va v.l.length vc] 71)).alloc (.cells #[.int .i64 0,.int .i64 0,.slice none 0 0] 71)).alloc (.cells #[.pointer (some ⟨M.mb,0,none⟩),.int .i64 j,.int .i64 v.kind,.int .i64 v.n,.slice va v.l.length vc,.slice none 0 0,.slice none 0 0] 355)) fun e w'=>∃q' R,Zb (cx0 M X q w fr j v va vc) q' o.s o.left R w'/\∃ao cap,e= .returned (.agg #[.int .i64 y.kind,.int .i64 y.n,.slice ao y.l.length cap])/\bu (fun k=>M.own q' k\/(cx0 M X q w fr j v va vc).x R k) (fun w=>Is w y ao) w' from by
   refine HD.out.mono ?_;intro e w' h;unfold DoQ at h;rw[ho]at h;exact h)
  have HO:=hid ho;clear ho HD;go_enter func276,ntmps276;go_wp2_with (go_at_call 280;refine HX.out.mono ?_;rintro e w5 ⟨q5,R,f5,ya,yc,rfl,s5⟩;obtain⟨x3,x4,x5,x6⟩:=Ji f5;obtain⟨m0,m1,m2⟩:=aM x6;obtain⟨z0,z1,z2⟩:=bI x6;have hz5:=ae x6;have H5:=gp f5 s5 x6;clear f5 s5 x6);have hb4:=kz ((((bF w5 M.mb 3 (.int .i64 (fr:Int))).block _ (ae H5.out.2.2) fun e=>by have:=HH.out.2;omega)).trans H5.out.2.2) (.int .i64 y.kind) (.int .i64 y.n) (.slice ya y.l.length yc);have HQ:=hid (NZ HH.out.2 HO.out H5.out.1 H5.out.2.1 HH.out.1.xm (yc:=yc) rfl (Kp.alloc _ (.cells #[.int .i64 y.kind,.int .i64 y.n,.slice ya y.l.length yc] 71)));generalize(((w5.setCell ⟨M.mb,3,none⟩ (.int .i64 (fr:Int))).setCell ⟨w.heap.size+1,0,none⟩ (.int .i64 y.kind)).setCell ⟨w.heap.size+1,1,none⟩ (.int .i64 y.n)).setCell ⟨w.heap.size+1,2,none⟩ (.slice ya y.l.length yc)=W6 at*;obtain⟨y0,y1,y2⟩:=aM ((aB W6 (.cells #[.int .i64 y.kind,.int .i64 y.n,.slice ya y.l.length yc] 71) _ (ae hb4)).trans hb4);exact au (v:= .agg #[.int .i64 y.kind,.int .i64 y.n,.slice ya y.l.length yc]) (by simp[results,results276,go_sem,y0,y1,y2]) rfl HQ.out
theorem Az(hM:Db M.ms)(d:Nat):∀fr,fr+d=19->qy M fr:=by
 induction d with
 |zero=>intro fr h;exact Fv hM (by omega) (fun h2=>absurd h2 (by omega))
 |succ d ih=>intro fr h;exact Fv hM (by omega) (fun _=>ih (fr+1) (by omega))
end
theorem Ud(w:World):(Instr.typeAssert .nilIface 20 348 true).run prog w= .ok (.tuple #[.int .i64 0,.bool false]) w:=by kernel_rfl
theorem TF(c:Int)(w:World):(Instr.typeAssert (.iface 348 (.int .i64 c)) 20 348 true).run prog w= .ok (.tuple #[.int .i64 c,.bool true]) w:=by kernel_rfl
theorem FJ(p:Addr)(w:World):
 CallsD prog 275 #[.pointer (some p)] .returning w fun e u' w'=>e= .returned (.tuple #[])/\u'= .returning/\w'=w:=by
 refine callsD_of_wpS func275 rfl fun c₀ cs hu=> ?_;apply wpS_seq;apply wpS_region;simp[wpOpsS,go_sem,recoverD,hu,ntmps275,Exit.thenS,Ud];apply wpS_seq;apply wpS_region;simp[wpOpsS,go_sem,Exit.thenS];refine wpS_cond (t:=false) (by simp[Act.eval,Array.replicate]) ?_;simp only[Bool.false_eq_true,if_false];refine wpS_of_wp (wp_skip ?_);cases c₀
 simp_all [bodyPostS,results,results275]
theorem yf(p:Nat)(x:Value)(c:Int)(t:TypeId)(older:List PanicEntry)(w:World)(hb:w.heap[p]?=some (.cells #[x] t (0,0))):
 CallsD prog 275 #[.pointer (some ⟨p,0,none⟩)] (.panicking ({v:= .iface 348 (.int .i64 c),recovered:=false}::older)) w fun e u' w'=>
  e= .returned (.tuple #[])/\u'= .panicking ({v:= .iface 348 (.int .i64 c),recovered:=true}::older)/\w'=w.setCell ⟨p,0,none⟩ (.int .i64 c):=by
 have hlt:=ae hb;obtain⟨c0,hf⟩:=uy hb;clear hb;refine callsD_of_wpS func275 rfl fun c₀ cs hu=> ?_;apply wpS_seq;apply wpS_region;simp[wpOpsS,go_sem,recoverD,hu,ntmps275,Exit.thenS,TF];apply wpS_seq;apply wpS_region;simp[wpOpsS,go_sem,Exit.thenS];refine wpS_cond (t:=true) (by simp[Act.eval,Array.replicate]) ?_;simp only[if_true];apply wpS_region;simp[wpOpsS,go_sem,c0,hf,bodyPostS,results,results275]
section
variable{M:Mx}{X:Nat->Prop}{q q':Vs}{s s':Sg}{left left':Nat}{w w':World}{v:V}{va:Option Addr}{vc:Nat}{p f:Int}
def Sl(M:Mx)(X:Nat->Prop)(q:Vs)(o:Out)(w:World)(e:Ending)(w':World):Prop:=
 ∃q' ya yc calls',e= .returned (.tuple #[.agg #[.int .i64 (iT o.got).kind,.int .i64 (iT o.got).n,.slice ya (iT o.got).l.length yc],.int .i64 (Ba o.got)])/\dG M q w q' w'/\MS M X q' o.s o.left calls' w'/\bu (fun k=>M.own q' k\/X k) (fun w=>Is w (iT o.got) ya) w'
def XR(X:Nat->Prop)(w:World)(k:Nat):Prop:=X k\/k=w.heap.size+1\/k=w.heap.size+1+1
theorem XR.old{k:Nat}(h:XR X w k)(hk:k<w.heap.size):X k:=by
 rcases h with h|h|h;exact h;omega;omega
theorem Fu{calls:Int}{x0 x1 x2 y0:Value}{w6 w7:World}(h:MS M (XR X w) q' s' left' calls w6)(b1:w6.heap[w.heap.size+1]?=some (.cells #[x0,x1,x2] 71 (0,0)))(b2:w6.heap[w.heap.size+1+1]?=some (.cells #[y0] 3 (0,0)))(n1:¬M.own q' (w.heap.size+1))(n2:¬M.own q' (w.heap.size+1+1))(hm:M.mb<w.heap.size)(hx:X M.mb)
 (k:Kp (fun k=>k=w.heap.size+1\/k=w.heap.size+1+1) w6 w7):MS M X q' s' left' calls w7:=by
 refine h.turn k (fun i e=> .inr e) (fun e=>by omega) (fun i hi e=> ?_) (fun i cs t hi ht e=> ?_) (fun i _ e=> .inl e) hx (fun i e=>az (h.xo i (.inl e)) k.size);rcases e with e|e;exact n1 (e▸hi);exact n2 (e▸hi);rcases e with e|e;rw[e,b1]at hi;simp at hi;rcases ht with ht|ht<;>rw[ht]at hi<;>exact absurd hi.2 (by decide);rw[e,b2]at hi;simp at hi;rcases ht with ht|ht<;>rw[ht]at hi<;>exact absurd hi.2 (by decide)
theorem RZ{P:World->Prop}{w6 w7:World}(h:bu (fun k=>M.own q' k\/XR X w k) P w6)(k:Kp (fun k=>k=w.heap.size+1\/k=w.heap.size+1+1) w6 w7):bu (fun k=>M.own q' k\/X k) P w7:=
 h.step (k.mono fun i _ e=> .inr (.inr e)) fun i _ e=>by
  rcases e with e|e;exact .inl e;exact .inr (.inl e)
theorem QQ(hM:Db M.ms)(H:MS M X q s left (0:Nat) w)(hf:(iD M.ms p f).isSome=true)(hv:v.check=0)(hes:s.es.length+left<=902000)(hI:bu (fun k=>M.own q k\/X k) (fun w=>Is w v va) w):
 Calls prog 254 #[.pointer (some ⟨M.mb,0,none⟩),.int .i64 p,.int .i64 f,.agg #[.int .i64 v.kind,.int .i64 v.n,.slice va v.l.length vc]] w fun e w'=>Sl M X q (cO M.ms 0 p f v left s) w e w':=by
 have hmf:∀(fn:Fn)(first cap:Array Value)(w:World),(Instr.makeFunc fn first cap).run prog w= .ok (.func fn first cap) w:=fun _ _ _ _=>rfl;obtain⟨W,hW⟩:∃W,W=((w.alloc (.cells #[.int .i64 v.kind,.int .i64 v.n,.slice va v.l.length vc] 71)).alloc (.cells #[.int .i64 0,.int .i64 0,.slice none 0 0] 71)).alloc (.cells #[.int .i64 0] 3):=⟨_,rfl⟩;have qW:aA w W:=by rw[hW];exact((Kp.alloc _ _).trans (Kp.alloc _ _)).trans (Kp.alloc _ _)
 have hB:=jk w (.cells #[.int .i64 v.kind,.int .i64 v.n,.slice va v.l.length vc] 71) (.cells #[.int .i64 0,.int .i64 0,.slice none 0 0] 71) (.cells #[.int .i64 0] 3);rw[<-hW]at hB;have hsW:W.heap.size=w.heap.size+3:=by rw[hW];simp
 have hmw:=ae H.ma;have H1:MS M (XR X w) q s left (0:Nat) W:=H.step qW (fun k hk e=>e.old hk) (.inl H.xm) (fun k e=>by
  rcases e with e|e|e;have:=H.xo k e;omega;omega
  ·omega)
 have hI1:bu (fun k=>M.own q k\/XR X w k) (fun w=>Is w v va) W:=hI.step (qW.mono fun _ _ e=>e.elim) fun k hk e=>by
  rcases e with e|e;exact .inl e;exact .inr (e.old hk)
 have adF:=wL M.ms 0 p f v left s hv H.inv;have HV:=hid adF.val;have HC:=hid (Az hM 19 0 rfl (XR X w) q s left W p f v va vc H1 hf hv hes hI1);have HB:=Dq (dX hB.2.1 hB.2.2) (H.new (w.heap.size+1) (by omega)) (H.new (w.heap.size+1+1) (by omega)) hmw H.xm qW;have HBX:=hid (fun(w':World) (q':Vs) (g:dG M q W q' w')=>dX (g.block HB.out.1.1 HB.out.2.1 (by have:=HB.out.2.2.2.1;omega)) (g.block HB.out.1.2 HB.out.2.2.1 (by have:=HB.out.2.2.2.1;omega)));have HW:=hid hW;rw[hW]at HC;clear hB H1 hI1 adF hI hes hv hf hM qW hsW hmw H hW;generalize cO M.ms 0 p f v left s=o at*;cases ho:o.got with
 |ok y=>
  have HS:=hid (show y.size<=500 from by have:=fV (HV.out y ho);omega);have HO:=hid ho;clear ho;go_enter_defers func254,ntmps254;go_wp2_with (first
   |(go_at_call 151;refine(zI (fun k=>M.own q5 k\/XR X w k) y ya yc w5 HF.out HQ.out.2.2 HS.out).mono ?_;rintro e w6 ⟨yb,yd,rfl,s6,q6⟩;have hb1:=(q6.block _ (ae HX.out.1.1) fun e=>e).trans HX.out.1.1;have hb2:=(q6.block _ (ae HX.out.2.1) fun e=>e).trans HX.out.2.1;obtain⟨d0,d1,d2⟩:=aM hb1;obtain⟨f0,f1,f2⟩:=bI hb1;obtain⟨c0,f3⟩:=uy hb2;have hz1:=ae hb1;have hz2:=ae hb2;have H6:=jR s6 q6 hb1 hb2;clear s6 q6 hb1 hb2)
   |(go_at_call 276;refine HC.out.mono ?_;rintro e w5 h5;rw[<-HW.out]at h5;obtain⟨q5,ya,yc,rfl,g5,m5,s5⟩:=h5.ok HO.out;have HX:=hid (HBX.out _ _ g5);have HF:=hid (show∀k,M.own q5 k\/XR X w k->k<w5.heap.size from fun k e=>by rcases e with e|e;exact(m5.Z8 k (.inl e));exact m5.xo k e);have HQ:=gp g5 m5 s5;clear g5 m5 s5 h5))
  refine leaves_cons (f:=275) (args:= #[.pointer (some ⟨w.heap.size+1+1,0,none⟩)]) (by simp) (by simp[go_sem]) ?_;refine(FJ _ _).mono ?_;rintro e' u' w'' ⟨rfl,rfl,rfl⟩;have HK:=hid (((dE w6 (w.heap.size+1) (.int .i64 y.kind) (.int .i64 y.n) (.slice yb y.l.length yd)).mono fun k _ e=>(Or.inl e:k=w.heap.size+1\/k=w.heap.size+1+1)).trans ((bF _ (w.heap.size+1+1) 0 (.int .i64 0)).mono fun k _ e=> .inr e));simp[Leaves,settle,results,results254,go_sem,d0,d1,d2,c0];obtain⟨g5,m5,_⟩:=HQ.out;obtain⟨s6,q6,hb1,hb2⟩:=H6.out;unfold Sl;rw[HO.out];exact⟨q5,yb,yd,(0:Nat),rfl,(((dG.after HB.out.2.2.2.2.2 g5).trans (dG.quiet M q5 q6)).fresh (HK.out.mono fun k _ e=>by omega)),Fu (m5.quiet q6) hb1 hb2 HX.out.1.2 HX.out.2.2 HB.out.2.2.2.1 HB.out.2.2.2.2.1 HK.out,RZ s6 HK.out⟩
 |error c=>
  have HO:=hid ho;clear ho;go_enter_defers func254,ntmps254;go_wp2_with (go_at_call 276;refine HC.out.mono ?_;rintro e w5 h5;rw[<-HW.out]at h5;obtain⟨rfl,hq5⟩:=h5.bad HO.out;have HQ:=hid hq5;clear hq5 h5);obtain⟨q5,abp,g5,m5⟩:=HQ.out;have HX:=HBX.out _ _ g5;refine leaves_cons (f:=275) (args:= #[.pointer (some ⟨w.heap.size+1+1,0,none⟩)]) (by simp) (by simp[go_sem]) ?_;refine(yf (w.heap.size+1+1) _ c 3 [] _ HX.2.1).mono ?_;rintro e' u' w'' ⟨rfl,rfl,rfl⟩;obtain⟨d0,d1,d2⟩:=aM HX.1.1;obtain⟨c0,f3⟩:=uy HX.2.1;simp[Leaves,settle,results,results254,go_sem,d0,d1,d2,c0];have HK:=(bF w5 (w.heap.size+1+1) 0 (.int .i64 c)).mono (G:=fun k=>k=w.heap.size+1\/k=w.heap.size+1+1) fun k _ e=> .inr e;unfold Sl;rw[HO.out];exact⟨q5,none,0,abp,rfl,(dG.after HB.out.2.2.2.2.2 g5).fresh (HK.mono fun k _ e=>by omega),Fu m5 HX.1.1 HX.2.1 HX.1.2 HX.2.2 HB.out.2.2.2.1 HB.out.2.2.2.2.1 HK,dY v0 iR rfl none⟩
end
section
variable{B bb g wd:Nat}{vn vo vl:Value}{ms:fA}{s:Sg}{a b c d:Pg}{w w':World}{v:V}{va:Option Addr}{vc:Nat}{p f fuel:Int}
theorem Qk(M:Mx)(hb:jm B w M.bb g wd vn vo vl M.ms s a b c d)(j:Nat)(hj:j<4):∃th ao n cap x y z,Kc M w j th ao n cap x y z:=by
 obtain⟨ma,mb,mc,md,e,ha,hb',hc,hd⟩:=hb.abn;have key:∀k x,(pI g wd a b c d)[k]?=some x->w.cell? ⟨M.bb,k,none⟩=some x:=fun k x hx=>by
  rw[<-hx];simp[World.cell?,hb.obj]
 obtain rfl|rfl|rfl|rfl:j=0\/j=1\/j=2\/j=3:=by omega
 ·exact p9 ha (by rw[e];rfl) (key _ _ rfl) (key _ _ rfl) (key _ _ rfl) (key _ _ rfl) (key _ _ rfl)
 ·exact p9 hb' (by rw[e];rfl) (key _ _ rfl) (key _ _ rfl) (key _ _ rfl) (key _ _ rfl) (key _ _ rfl)
 ·exact p9 hc (by rw[e];rfl) (key _ _ rfl) (key _ _ rfl) (key _ _ rfl) (key _ _ rfl) (key _ _ rfl)
 ·exact p9 hd (by rw[e];rfl) (key _ _ rfl) (key _ _ rfl) (key _ _ rfl) (key _ _ rfl) (key _ _ rfl)
def zk(ms:fA)(p f:Int)(v:V)(fuel:Int):Int:=if fuel<0\/2000<fuel\/p<0\/4<=p then 1 else if(iD ms p f).isNone then 8 else v.check
theorem Vp(h:fuel<0\/2000<fuel\/p<0\/4<=p):zk ms p f v fuel=1:=by unfold zk;rw[ag h]
theorem Io(w:World)(h:fuel<0\/2000<fuel\/p<0\/4<=p):Calls prog 253 #[.pointer (some ⟨bb,0,none⟩),.int .i64 p,.int .i64 f,.agg #[.int .i64 v.kind,.int .i64 v.n,.slice va v.l.length vc],.int .i64 fuel] w fun e w'=>e= .returned (.int .i64 1)/\aA w w':=by
 by_cases h1:fuel<0
 ·clear h;go_enter func253,ntmps253;go_wp2_with fail;go_ret;exact⟨rfl,Kp.alloc _ _⟩
 by_cases h2:2000<fuel
 ·clear h;go_enter func253,ntmps253;go_wp2_with fail;go_ret;exact⟨rfl,Kp.alloc _ _⟩
 by_cases h3:p<0
 ·clear h;go_enter func253,ntmps253;go_wp2_with fail;go_ret;exact⟨rfl,Kp.alloc _ _⟩
 have h4:4<=p:=by omega
 clear h;go_enter func253,ntmps253;go_wp2_with fail;go_ret;exact⟨rfl,Kp.alloc _ _⟩
theorem P9(H:yM B w bb g wd vn vo vl ms s)(hI:Is w v va)(hS:v.size<=500):Calls prog 253 #[.pointer (some ⟨bb,0,none⟩),.int .i64 p,.int .i64 f,.agg #[.int .i64 v.kind,.int .i64 v.n,.slice va v.l.length vc],.int .i64 fuel] w fun e w'=>e= .returned (.int .i64 (zk ms p f v fuel))/\aA w w':=by
 by_cases h:fuel<0\/2000<fuel\/p<0\/4<=p;rw[Vp h];exact Io w h;have h1:¬fuel<0:=fun e=>h (.inl e);have h2:¬2000<fuel:=fun e=>h (.inr (.inl e));have h3:¬p<0:=fun e=>h (.inr (.inr (.inl e)));have h4:¬4<=p:=fun e=>h (.inr (.inr (.inr e)));have hN:zk ms p f v fuel=if(iD ms p f).isNone then 8 else v.check:=by unfold zk;rw[af h]
 rw[hN];obtain⟨j,rfl⟩:∃j:Nat,p=j:=⟨p.toNat,by omega⟩;have hj:j<4:=by omega
 have q1:aA w (w.alloc (.cells #[.int .i64 v.kind,.int .i64 v.n,.slice va v.l.length vc] 71)):=Kp.alloc _ _;obtain⟨a,b,c,d,hB⟩:=H;obtain⟨th,ao,n,cap,y2,y3,y4,hP⟩:=Qk ⟨B,bb,g,wd,0,ms,0⟩ (hB.quiet q1) j hj;obtain⟨p0,p1,p2,p3,p4,hhas,_⟩:=hP;simp only at p0 p1 p2 p3 p4 hhas;have hj4:(j:Int)<4:=by omega
 have HB:=hid (fun w=>ql th ao n cap y2 y3 y4 f w);rw[hhas f]at HB;have HI:=hid (hI.quiet q1);have b0:=ah w (.cells #[.int .i64 v.kind,.int .i64 v.n,.slice va v.l.length vc] 71);have HBX:=hid (fun(w':World) (q:aA (w.alloc (.cells #[.int .i64 v.kind,.int .i64 v.n,.slice va v.l.length vc] 71)) w')=>aM ((q.block _ (ae b0) fun e=>e).trans b0));clear hhas hB hI h hN q1 b0 hj;cases hf:iD ms j f with
 |none=>
  rw[hf]at HB;simp only[Option.isSome_none,Option.isNone_none,if_true]at HB|-;go_enter func253,ntmps253;go_wp2_with (go_at_call 274;refine(HB.out _).mono ?_;rintro e w5 ⟨rfl,q5⟩);go_ret;exact⟨rfl,(Kp.alloc _ _).trans q5⟩
 |some x=>
  rw[hf]at HB;simp only[Option.isSome_some,Option.isNone_some,Bool.false_eq_true,if_false]at HB|-;go_enter func253,ntmps253;go_wp2_with (first
   |(go_at_call 148;refine(fQ v va vc w5 (HI.out.quiet q5) hS).mono ?_;rintro e w6 ⟨rfl,q6⟩)
   |(go_at_call 274;refine(HB.out _).mono ?_;rintro e w5 ⟨rfl,q5⟩;obtain⟨z0,z1,z2⟩:=HBX.out _ q5))
  go_ret;exact⟨rfl,((Kp.alloc _ _).trans q5).trans q6⟩
theorem Fz(H:yM B w bb g wd vn vo vl ms s)(k:aA w w'):yM B w' bb g wd vn vo vl ms s:=by
 obtain⟨a,b,c,d,h⟩:=H;exact⟨a,b,c,d,h.quiet k⟩
theorem Wu(h:zk ms p f v fuel≠0):gM ms p f v fuel s=(.error (zk ms p f v fuel),0,s):=by
 unfold zk at h|-;unfold gM;split at h;rename_i h1;rw[ag h1,ag h1]
 ·rename_i h1;rw[af h1,af h1];split at h;rename_i h2;rw[ag h2,ag h2];rename_i h2;rw[af h2,af h2,ag h]
theorem TH(h:zk ms p f v fuel=0):(iD ms p f).isSome=true/\v.check=0/\0<=fuel/\fuel<=2000/\gM ms p f v fuel s=((cO ms 0 p f v fuel.toNat s).got,fuel-((cO ms 0 p f v fuel.toNat s).left:Int),(cO ms 0 p f v fuel.toNat s).s):=by
 unfold zk at h;split at h;cases h
 ·rename_i h1;split at h;cases h
  ·rename_i h2;refine⟨?_,h,by omega,by omega, ?_⟩
   ·cases e:iD ms p f with
    |none=>rw[e]at h2;exact absurd rfl h2
    |some x=>rfl
   ·unfold gM;rw[af h1,af h2,af (by rw[h];exact fun e=>e rfl)];rfl
theorem SX{M:Mx}{q':Vs}(h:dG M ⟨vn,vo,vl⟩ w q' w')(hm:w.heap.size<=M.mb):kF M.bb M.g M.wd vn vo vl w q'.n q'.o q'.l w':=
 ⟨h.kp.mono fun k hk e=>by
  rcases e with e|e;exact e
  ·omega,h.own⟩
end
section
variable{B bb g wd:Nat}{vn vo vl:Value}{ms:fA}{s:Sg}{a b c d:Pg}{w w':World}{v:V}{va:Option Addr}{vc:Nat}{p f fuel:Int}{X:Nat->Prop}
theorem DK{c:Int}(hci:∀c∈s.cs,dH c)(H:lX X B w bb g wd vn vo vl ms s)(k:Kp (fun i=>w.heap.size<=i) w w'):yJ X B bb g wd vn vo vl ms (.error c,0,s) w (.returned (.tuple #[.agg #[.int .i64 0,.int .i64 0,.slice none 0 0],.int .i64 0,.int .i64 c])) w':=by
 have hq:aA w w':=⟨k.os,k.tape,k.output,k.size,fun i hi _=>k.block i hi (by omega)⟩;exact⟨none,0,vn,vo,vl,rfl,dY v0 iR rfl none,H.quiet hq,kF.quiet _ _ _ _ _ _ hq,hci⟩
theorem Na{X:Nat->Prop}{w2:World}{b1:Nat}(H:lX X B w bb g wd vn vo vl ms s)(hX:∀k,X k->k<w.heap.size)(k:aA w w2)(h1:w.heap.size<=b1)(h2:b1<w2.heap.size)(h0:0<=fuel)(hf:fuel<=2000)(hci:∀c∈s.cs,dH c):
 MS ⟨B,bb,g,wd,w2.heap.size,ms,fuel⟩ (fun k=>k=w2.heap.size\/k=b1\/X k) ⟨vn,vo,vl⟩ s fuel.toNat (0:Nat) (w2.alloc (.cells #[.pointer (some ⟨bb,0,none⟩),.int .i64 fuel,.int .i64 0,.int .i64 0] 337)):=by
 obtain⟨a,b,c,d,hB,hk⟩:=H;have q3:aA w (w2.alloc (.cells #[.pointer (some ⟨bb,0,none⟩),.int .i64 fuel,.int .i64 0,.int .i64 0] 337)):=k.trans (Kp.alloc _ _);have hsz:=k.size;refine⟨⟨a,b,c,d,hB.quiet q3,fun x hx=> ?_⟩, ?_,.inl rfl,fun i e=> ?_,hf,by show((fuel.toNat:Nat):Int)<=fuel;omega,hci⟩
 ·refine(hk x hx).step (q3.mono fun _ _ e=>e.elim) fun i hi e=> ?_;rcases e with e|e|e|e
  ·exact .inl e
  ·omega
  ·omega
  ·exact .inr e
 ·have h:=ah w2 (.cells #[.pointer (some ⟨bb,0,none⟩),.int .i64 fuel,.int .i64 0,.int .i64 0] 337);rw[show fuel-((fuel.toNat:Nat):Int)=0 by omega];exact h
 ·have:i<w2.heap.size+1:=by
   rcases e with e|e|e;omega;omega;have:=hX i e;omega
  simpa using this
theorem MK{X:Nat->Prop}{M:Mx}{q5:Vs}{o:Out}{calls:Int}{ya:Option Addr}{yc b1:Nat}{x0 x1 x2:Value}{W3 w5 w7:World}(hm:w.heap.size<=M.mb)(k3:aA w W3)(g5:dG M ⟨vn,vo,vl⟩ W3 q5 w5)(m5:MS M (fun k=>k=M.mb\/k=b1\/X k) q5 o.s o.left calls w5)(s5:bu (fun k=>M.own q5 k\/k=M.mb\/k=b1\/X k) (fun w=>Is w (iT o.got) ya) w5)
 (hb:w5.heap[b1]?=some (.cells #[x0,x1,x2] 71 (0,0))) (hn:¬M.own q5 b1) (hb1:w.heap.size<=b1) (hbm:b1≠M.mb) (k7:Kp (fun k=>k=b1) w5 w7):
 yJ X M.B M.bb M.g M.wd vn vo vl M.ms (o.got,M.fuel-(o.left:Int),o.s) w (.returned (.tuple #[.agg #[.int .i64 (iT o.got).kind,.int .i64 (iT o.got).n,.slice ya (iT o.got).l.length yc],.int .i64 (M.fuel-(o.left:Int)),.int .i64 (Ba o.got)])) w7:=by
 have m7:MS M (fun k=>k=M.mb\/X k) q5 o.s o.left calls w7:=m5.turn k7 (fun i e=> .inr (.inl e)) (fun e=>hbm e.symm) (fun i hi e=>hn (e▸hi)) (fun i cs t hi ht e=>by
  rw[e,hb]at hi;simp at hi;rcases ht with ht|ht<;>rw[ht]at hi<;>exact absurd hi.2 (by decide)) (fun i _ e=>by rcases e with e|e;exact .inl e;exact .inr (.inr e)) (.inl rfl) (fun i e=>az (m5.xo i (by rcases e with e|e;exact .inl e;exact .inr (.inr e))) k7.size)
 obtain⟨a,b,c,d,hB,hk⟩:=m7.box;refine⟨ya,yc,q5.n,q5.o,q5.l,rfl,s5.step (k7.mono fun i _ e=> .inr (.inr (.inl e))) (fun i _ e=>by rcases e with e|e;exact .inl e;exact .inr (.inr (.inr e))),⟨a,b,c,d,hB,fun x hx=>(hk x hx).mono fun i _ e=>by rcases e with e|e;exact .inl e;exact .inr (.inr e)⟩,SX ((dG.after k3 g5).fresh (k7.mono fun i _ e=>by omega)) hm,m7.ci⟩
theorem XF(X:Nat->Prop)(B bb g wd:Nat)(vn vo vl:Value)(ms:fA)(s:Sg)(p f fuel:Int)(v:V)(ao:Option Addr)(cap:Nat)(w:World)(H:lX X B w bb g wd vn vo vl ms s)(hX:∀k,X k->k<w.heap.size)(hM:Db ms)(hci:∀c∈s.cs,dH c)(hes:s.es.length<=900000)
 (hI:bu (fun k=>gX bb g wd vn vo vl k\/X k) (fun w=>Is w v ao) w) (hS:v.size<=500):
 Calls prog 225 #[.pointer (some ⟨bb,0,none⟩),.int .i64 p,.int .i64 f,.agg #[.int .i64 v.kind,.int .i64 v.n,.slice ao v.l.length cap],.int .i64 fuel] w fun e w'=>yJ X B bb g wd vn vo vl ms (gM ms p f v fuel s) w e w':=by
 have q1:aA w ((w.alloc (.cells #[.int .i64 v.kind,.int .i64 v.n,.slice ao v.l.length cap] 71)).alloc (.cells #[.int .i64 0,.int .i64 0,.slice none 0 0] 71)):=(Kp.alloc _ _).trans (Kp.alloc _ _);have b0:((w.alloc (.cells #[.int .i64 v.kind,.int .i64 v.n,.slice ao v.l.length cap] 71)).alloc (.cells #[.int .i64 0,.int .i64 0,.slice none 0 0] 71)).heap[w.heap.size]?=some (.cells #[.int .i64 v.kind,.int .i64 v.n,.slice ao v.l.length cap] 71 (0,0)):=by rw[aB _ _ _ (by simp)];exact ah w _
 have b1:=Y2 w (.cells #[.int .i64 v.kind,.int .i64 v.n,.slice ao v.l.length cap] 71) (.cells #[.int .i64 0,.int .i64 0,.slice none 0 0] 71);have HY:=hid (P9 (p:=p) (f:=f) (fuel:=fuel) (vc:=cap) (Fz H.is q1) (hI.now.quiet q1) hS);by_cases hm:zk ms p f v fuel=0
 ·obtain⟨y1,y2,y3,y4,y5⟩:=TH (s:=s) hm;rw[hm]at HY;rw[y5];have HH:=jR H q1 b1 hci;have HN:=hid (fun(w2:World) (k:aA ((w.alloc (.cells #[.int .i64 v.kind,.int .i64 v.n,.slice ao v.l.length cap] 71)).alloc (.cells #[.int .i64 0,.int .i64 0,.slice none 0 0] 71)) w2)=>Na (b1:=w.heap.size+1) H hX (q1.trans k) (by omega) (by have:=k.size;simp at this;omega) y3 y4 hci);have HR:=hid (fun(w2:World) (k:aA ((w.alloc (.cells #[.int .i64 v.kind,.int .i64 v.n,.slice ao v.l.length cap] 71)).alloc (.cells #[.int .i64 0,.int .i64 0,.slice none 0 0] 71)) w2)=>QQ (vc:=cap) (M:=⟨B,bb,g,wd,w2.heap.size,ms,fuel⟩) hM (HN.out w2 k) y1 y2 (by omega) (hI.step ((q1.trans k).trans (Kp.alloc _ (.cells #[.pointer (some ⟨bb,0,none⟩),.int .i64 fuel,.int .i64 0,.int .i64 0] 337))|>.mono fun _ _ e=>e.elim) fun i hi e=>by
   have h1:=k.size;simp at h1;rcases e with e|e|e|e;exact .inl e;omega;omega
   ·exact .inr e))
  have HB:=hid (fun(w2:World) (k:aA ((w.alloc (.cells #[.int .i64 v.kind,.int .i64 v.n,.slice ao v.l.length cap] 71)).alloc (.cells #[.int .i64 0,.int .i64 0,.slice none 0 0] 71)) w2)=>aM ((k.block _ (ae b0) fun e=>e).trans b0));simp only at HR;generalize cO ms 0 p f v fuel.toNat s=o at*;clear H q1 b0 b1 hI hS hM hci hes y1 y2 y5 hm hX;go_enter func225,ntmps225;go_wp2_with (first
   |(go_at_call 254;refine(HR.out w2 H2.out).mono ?_;rintro e w5 ⟨q5,ya,yc,abp,rfl,g5,m5,s5⟩;have hb5:=g5.block ((Kp.alloc (F:=fun _=>False) w2 (.cells #[.pointer (some ⟨bb,0,none⟩),.int .i64 fuel,.int .i64 0,.int .i64 0] 337)).block _ (ae HX.out) (fun e=>e)|>.trans HX.out) (HH.out.1.is.elim fun a h=>h.elim fun b h=>h.elim fun c h=>h.elim fun d h=>h.new _ (by omega)) (by show w.heap.size+1≠w2.heap.size;have:=ae HX.out;omega);obtain⟨d0,d1,d2⟩:=aM hb5.1;obtain⟨f0,f1,f2⟩:=bI hb5.1;have hz1:=ae hb5.1;have H5:=jR g5 m5 s5 hb5;clear g5 m5 s5 hb5)
   |(go_at_call 253;refine HY.out.mono ?_;rintro e w2 ⟨rfl,q2⟩;obtain⟨z0,z1,z2⟩:=HB.out _ (q2.trans (Kp.alloc w2 (.cells #[.pointer (some ⟨bb,0,none⟩),.int .i64 fuel,.int .i64 0,.int .i64 0] 337)));have H2:=hid q2;have HX:=hid ((q2.block _ (ae HH.out.2.2.1) fun e=>e).trans HH.out.2.2.1);clear q2))
  have b6:=kz H5.out.2.2.2.1 (.int .i64 (iT o.got).kind) (.int .i64 (iT o.got).n) (.slice ya (iT o.got).l.length yc);have k6:=dE w5 (w.heap.size+1) (.int .i64 (iT o.got).kind) (.int .i64 (iT o.got).n) (.slice ya (iT o.got).l.length yc);have hne:w2.heap.size≠w.heap.size+1:=by have:=ae HX.out;omega
  have r2:=k6.cell (H5.out.2.1.cells.2.2.1) hne;simp only at r2;generalize((w5.setCell ⟨w.heap.size+1,0,none⟩ (.int .i64 (iT o.got).kind)).setCell ⟨w.heap.size+1,1,none⟩ (.int .i64 (iT o.got).n)).setCell ⟨w.heap.size+1,2,none⟩ (.slice ya (iT o.got).l.length yc)=W6 at*;have HK:=bC k6 b6;obtain⟨t0,t1,t2⟩:=aM b6;obtain⟨j0,j1,j2⟩:=bI b6;have hz6:=ae b6;clear k6 b6 d0 d1 d2 f0 f1 f2 hz1 z0 z1 z2;go_region;go_wp2;have b7:=kz HK.out.2 (.int .i64 (iT o.got).kind) (.int .i64 (iT o.got).n) (.slice ya (iT o.got).l.length yc);have k7:=dE W6 (w.heap.size+1) (.int .i64 (iT o.got).kind) (.int .i64 (iT o.got).n) (.slice ya (iT o.got).l.length yc);generalize((W6.setCell ⟨w.heap.size+1,0,none⟩ (.int .i64 (iT o.got).kind)).setCell ⟨w.heap.size+1,1,none⟩ (.int .i64 (iT o.got).n)).setCell ⟨w.heap.size+1,2,none⟩ (.slice ya (iT o.got).l.length yc)=W7 at*;obtain⟨x0,x1,x2⟩:=aM b7;obtain⟨g5,m5,s5,hb5,hn5⟩:=H5.out;have hw2:=HX.out;refine au (v:= .tuple #[.agg #[.int .i64 (iT o.got).kind,.int .i64 (iT o.got).n,.slice ya (iT o.got).l.length yc],.int .i64 (fuel-(o.left:Int)),.int .i64 (Ba o.got)]) (by simp[results,results225,go_sem,x0,x1,x2]) rfl ?_;exact MK (M:=⟨B,bb,g,wd,w2.heap.size,ms,fuel⟩) (by have:=ae hw2;show w.heap.size<=w2.heap.size;omega) ((HH.out.2.1.trans H2.out).trans (Kp.alloc _ _)) g5 m5 s5 hb5 hn5 (by omega) (fun e=>hne e.symm) ((HK.out.1.trans k7).trans (Kp.drew _))
 ·rw[Wu hm];have HH:=bC H q1;have HB:=hid b1;generalize zk ms p f v fuel=c at*;clear H q1 b0 b1 hI hS hM hes;go_enter func225,ntmps225;go_wp2_with (go_at_call 253;refine HY.out.mono ?_;rintro e w2 ⟨rfl,q2⟩;have hb2:=(q2.block _ (ae HB.out) fun e=>e).trans HB.out;obtain⟨d0,d1,d2⟩:=aM hb2;obtain⟨f0,f1,f2⟩:=bI hb2;have hz1:=ae hb2;have H2:=bC q2 hb2;clear q2 hb2);have b3:=kz H2.out.2 (.int .i64 0) (.int .i64 0) (.slice none 0 0);have k3:=dE w2 (w.heap.size+1) (.int .i64 0) (.int .i64 0) (.slice none 0 0);generalize((w2.setCell ⟨w.heap.size+1,0,none⟩ (.int .i64 0)).setCell ⟨w.heap.size+1,1,none⟩ (.int .i64 0)).setCell ⟨w.heap.size+1,2,none⟩ (.slice none 0 0)=W3 at*;obtain⟨z0,z1,z2⟩:=aM b3;refine au (v:= .tuple #[.agg #[.int .i64 0,.int .i64 0,.slice none 0 0],.int .i64 0,.int .i64 c]) (by simp[results,results225,go_sem,z0,z1,z2]) rfl ?_;refine DK hci HH.out.1 (((HH.out.2.trans H2.out.1).mono fun _ _ e=>e.elim).trans (k3.mono fun k _ e=>by omega))
end
