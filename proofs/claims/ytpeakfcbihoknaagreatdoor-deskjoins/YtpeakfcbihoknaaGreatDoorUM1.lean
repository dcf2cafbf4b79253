/- Parts. -/
import Derived.Test.YtpeakfcbihoknaaGreatDoorUV6
open Go.ChangeShapes Go.WideShapes Go.ChangeAt Go.RowKit
set_option maxRecDepth 8000
set_option maxHeartbeats 4000000
namespace Go.Proofs.YtpeakfcbihoknaaGreatDoor
open Proofs.Tryz
open Gr (Nd ZH nd0 YT aS dJ bJ dV bS Y0 bN eX YS Wf jg GS fJ)
section
variable{M:Mx}{X:Nat->Prop}{calls:Int}{C:Cx}{q:Vs}{s:Sg}{left:Nat}{R:Rw}{w:World}
theorem Es(H:Zb C q s left R w)(v:V)(va:Option Addr)(vc:Nat)(hj:v.n≠C.j):Calls prog 293 #[.pointer (some ⟨C.fb,0,none⟩),.agg #[.int .i64 v.kind,.int .i64 v.n,.slice va v.l.length vc]] w fun e w'=>e= .panicked (lC 10)/\aA w w':=by
 obtain⟨W,hW⟩:∃W,W=(w.alloc (.cells #[.int .i64 v.kind,.int .i64 v.n,.slice va v.l.length vc] 71)).alloc (.cells #[.int .i64 0,.int .i64 0,.slice none 0 0] 71):=⟨_,rfl⟩;have qW:aA w W:=by rw[hW];exact(Kp.alloc _ _).trans (Kp.alloc _ _)
 have b0:W.heap[w.heap.size]?=some (.cells #[.int .i64 v.kind,.int .i64 v.n,.slice va v.l.length vc] 71 (0,0)):=by rw[hW,aB _ _ _ (by simp)];exact ah w _
 obtain⟨z0,z1,z2⟩:=aM b0;have c1:=(H.quiet qW).cells.2.1;have hb:(v.n==(C.j:Int))=false:=by simpa using hj
 clear H b0 hj;go_enter func293,ntmps293;go_wp2;rw[<-hW];clear hW;go_still_tail 7,gD;go_wp2_with (go_at_call 287;refine(jH _ _).mono ?_;rintro e w3 ⟨rfl,h3⟩;replace h3:=h3.symm;subst h3);exact⟨rfl,rfl,qW.trans (Kp.drew _)⟩
theorem BZ(F:Nat->Prop)(H:Zb C q s left R w)(v:V)(va:Option Addr)(vc:Nat)(hj:v.n=C.j)(hl:0<v.l.length)(hv:bu F (fun w=>Is w v va) w):Calls prog 293 #[.pointer (some ⟨C.fb,0,none⟩),.agg #[.int .i64 v.kind,.int .i64 v.n,.slice va v.l.length vc]] w fun e w'=>∃ca cc,e= .returned (.agg #[.int .i64 (v.l[0]).kind,.int .i64 (v.l[0]).n,.slice ca (v.l[0]).l.length cc])/\bu F (fun w=>Is w v.l[0] ca) w'/\aA w w':=by
 obtain⟨W,hW⟩:∃W,W=(w.alloc (.cells #[.int .i64 v.kind,.int .i64 v.n,.slice va v.l.length vc] 71)).alloc (.cells #[.int .i64 0,.int .i64 0,.slice none 0 0] 71):=⟨_,rfl⟩;have qW:aA w W:=by rw[hW];exact(Kp.alloc _ _).trans (Kp.alloc _ _)
 have b0:W.heap[w.heap.size]?=some (.cells #[.int .i64 v.kind,.int .i64 v.n,.slice va v.l.length vc] 71 (0,0)):=by rw[hW,aB _ _ _ (by simp)];exact ah w _
 have b1:W.heap[w.heap.size+1]?=some (.cells #[.int .i64 0,.int .i64 0,.slice none 0 0] 71 (0,0)):=by rw[hW];exact Y2 w _ _
 obtain⟨z0,z1,z2⟩:=aM b0;obtain⟨m0,m1,m2⟩:=aM b1;obtain⟨f0,f1,f2⟩:=bI b1;have hz:=ae b1;have c1:=(H.quiet qW).cells.2.1;have hb:(v.n==(C.j:Int))=true:=by simpa using hj
 obtain⟨bb,oo,ca,cc,rfl,_,⟨⟨j0,j1⟩,j2⟩,hk⟩:=hv.kid 0 hl;simp only[Nat.zero_mul,eD]at j0 j1 j2;have k0:=qW.cell j0 fun e=>e;have k1:=qW.cell j1 fun e=>e;have k2:=qW.cell j2 fun e=>e;clear j0 j1 j2;generalize v.l[0]=x at*;have hl0:(0:Int)<v.l.length:=by omega
 have HK:=bC hk qW;clear H b0 b1 hj hv hk qW;go_enter func293,ntmps293;go_wp2;rw[<-hW];clear hW;go_still_tail 7,gD;go_wp2_with (go_at_call 287;refine(fT _ _).mono ?_;rintro e w3 ⟨rfl,h3⟩;replace h3:=h3.symm;subst h3);refine au (v:= .agg #[.int .i64 x.kind,.int .i64 x.n,.slice ca x.l.length cc]) (by simp[results,results293,go_sem,m0,m1,m2]) rfl ?_;have hq:aA w (((W.setCell ⟨w.heap.size+1,0,none⟩ (.int .i64 x.kind)).setCell ⟨w.heap.size+1,1,none⟩ (.int .i64 x.n)).setCell ⟨w.heap.size+1,2,none⟩ (.slice ca x.l.length cc)).drew:=(HK.out.2.fresh ((dE W _ _ _ _).mono fun k _ e=>by omega)).trans (Kp.drew _);exact⟨ca,cc,rfl,cu HK.out.1 hq,hq⟩
theorem MS.ofs(H:MS M X q s left calls w)(j:Nat)(hj:j<4):∃ka kc,(w.cell? ⟨M.bb,2+j*5+2,none⟩=some (.int .i64 (s.ks.getD j v0).kind)/\w.cell? ⟨M.bb,2+j*5+3,none⟩=some (.int .i64 (s.ks.getD j v0).n)/\w.cell? ⟨M.bb,2+j*5+4,none⟩=some (.slice ka (s.ks.getD j v0).l.length kc))/\bu (fun k=>M.own q k\/X k) (fun w=>Is w (s.ks.getD j v0) ka) w/\M.bb<w.heap.size/\∀i,w.frozen? ⟨M.bb,i,none⟩=false:=by
 obtain⟨a,b,c,d,hb,hk⟩:=H.box;have hf:∀i,w.frozen? ⟨M.bb,i,none⟩=false:=fun i=>aG w M.bb i _ 145 hb.obj;rw[hb.ks];obtain rfl|rfl|rfl|rfl:j=0\/j=1\/j=2\/j=3:=by omega
 ·exact⟨a.ao,a.cap,⟨by simp[World.cell?,hb.obj,pI,Pg.cells],by simp[World.cell?,hb.obj,pI,Pg.cells],by simp[World.cell?,hb.obj,pI,Pg.cells]⟩,hk a (.inl rfl),hb.lt,hf⟩
 ·exact⟨b.ao,b.cap,⟨by simp[World.cell?,hb.obj,pI,Pg.cells],by simp[World.cell?,hb.obj,pI,Pg.cells],by simp[World.cell?,hb.obj,pI,Pg.cells]⟩,hk b (.inr (.inl rfl)),hb.lt,hf⟩
 ·exact⟨c.ao,c.cap,⟨by simp[World.cell?,hb.obj,pI,Pg.cells],by simp[World.cell?,hb.obj,pI,Pg.cells],by simp[World.cell?,hb.obj,pI,Pg.cells]⟩,hk c (.inr (.inr (.inl rfl))),hb.lt,hf⟩
 ·exact⟨d.ao,d.cap,⟨by simp[World.cell?,hb.obj,pI,Pg.cells],by simp[World.cell?,hb.obj,pI,Pg.cells],by simp[World.cell?,hb.obj,pI,Pg.cells]⟩,hk d (.inr (.inr (.inr rfl))),hb.lt,hf⟩
def yS(w:World)(bb j:Nat)(v:V)(ao:Option Addr)(cap:Nat):World:=((w.setCell ⟨bb,2+j*5+2,none⟩ (.int .i64 v.kind)).setCell ⟨bb,2+j*5+3,none⟩ (.int .i64 v.n)).setCell ⟨bb,2+j*5+4,none⟩ (.slice ao v.l.length cap)
theorem El{w:World}{b:Nat}{L:List Value}{t:TypeId}(h:w.heap[b]?=some (.cells L.toArray t (0,0)))(k:Nat)(x:Value):(w.setCell ⟨b,k,none⟩ x).heap[b]?=some (.cells (L.set k x).toArray t (0,0)):=by
 simp[World.setCell,aR,h]
theorem PgS.keep{F:Nat->Prop}{m:Option (List Ex.V)}{p:Pg}{v:V}{ao:Option Addr}{cap:Nat}(h:PgS w F m p)(hs:bu F (fun w=>Is w v ao) w)(hc:v.check=0):PgS w F m ⟨p.there,p.code,v,ao,cap⟩:=⟨h.there,h.code,h.shape,hs,hc⟩
theorem MS.ae3(H:MS M X q s left calls w)(j:Nat)(hj:j<4)(v:V)(ao:Option Addr)(cap:Nat)(hs:bu (fun k=>M.own q k\/X k) (fun w=>Is w v ao) w)(hc:v.check=0):
 MS M X q {s with ks:=s.ks.set j v} left calls (yS w M.bb j v ao cap)/\dG M q w q (yS w M.bb j v ao cap):=by
 obtain⟨a,b,c,d,hb,hk⟩:=H.box;obtain⟨ma,mb,mc,md,e,ha,hb',hc',hd⟩:=hb.abn;have hk1:Kp (fun k=>k=M.bb) w (yS w M.bb j v ao cap):=((bF _ _ _ _).trans (bF _ _ _ _)).trans (bF _ _ _ _);have aaQ:=El (El (El hb.obj (2+j*5+2) (.int .i64 v.kind)) (2+j*5+3) (.int .i64 v.n)) (2+j*5+4) (.slice ao v.l.length cap);have hs0:bu (gX M.bb M.g M.wd q.n q.o q.l) (fun w=>Is w v ao) w:=hs.mono fun k _ e=> .inl e;have hks:=hb.ks;have fin:∀a' b' c' d',jm M.B (yS w M.bb j v ao cap) M.bb M.g M.wd q.n q.o q.l M.ms {s with ks:=s.ks.set j v} a' b' c' d'->(∀x,x=a'\/x=b'\/x=c'\/x=d'->bu (fun k=>M.own q k\/X k) (fun w=>Is w x.kept x.ao) w)->MS M X q {s with ks:=s.ks.set j v} left calls (yS w M.bb j v ao cap)/\dG M q w q (yS w M.bb j v ao cap):=by
  intro a' b' c' d' hB hK;have G:dG M q w q (yS w M.bb j v ao cap):=⟨hk1.mono fun k _ e=> .inl (.inl e),fun k e=> .inl e⟩;exact⟨⟨⟨a',b',c',d',hB,fun x hx=>G.safe H.xm (hK x hx)⟩,(hk1.block _ (ae H.ma) fun e2=>H.abG (.inl e2)).trans H.ma,H.xm,fun i e=>az (H.xo i e) hk1.size,H.fu,H.lf,H.ci⟩,G⟩
 obtain rfl|rfl|rfl|rfl:j=0\/j=1\/j=2\/j=3:=by omega
 ·have h:=hb.put (a':=⟨a.there,a.code,v,ao,cap⟩) (b':=b) (c':=c) (d':=d) hk1 aaQ (s':={s with ks:=s.ks.set 0 v}) (by rw[hks];rfl) (ha.keep hs0 hc) hb' hc' hd;rw[<-e]at h;exact fin _ _ _ _ h.1 fun x hx=>by
   rcases hx with rfl|rfl|rfl|rfl;exact hs;exact hk _ (.inr (.inl rfl));exact hk _ (.inr (.inr (.inl rfl)));exact hk _ (.inr (.inr (.inr rfl)))
 ·have h:=hb.put (a':=a) (b':=⟨b.there,b.code,v,ao,cap⟩) (c':=c) (d':=d) hk1 aaQ (s':={s with ks:=s.ks.set 1 v}) (by rw[hks];rfl) ha (hb'.keep hs0 hc) hc' hd;rw[<-e]at h;exact fin _ _ _ _ h.1 fun x hx=>by
   rcases hx with rfl|rfl|rfl|rfl;exact hk _ (.inl rfl);exact hs;exact hk _ (.inr (.inr (.inl rfl)));exact hk _ (.inr (.inr (.inr rfl)))
 ·have h:=hb.put (a':=a) (b':=b) (c':=⟨c.there,c.code,v,ao,cap⟩) (d':=d) hk1 aaQ (s':={s with ks:=s.ks.set 2 v}) (by rw[hks];rfl) ha hb' (hc'.keep hs0 hc) hd;rw[<-e]at h;exact fin _ _ _ _ h.1 fun x hx=>by
   rcases hx with rfl|rfl|rfl|rfl;exact hk _ (.inl rfl);exact hk _ (.inr (.inl rfl));exact hs;exact hk _ (.inr (.inr (.inr rfl)))
 ·have h:=hb.put (a':=a) (b':=b) (c':=c) (d':=⟨d.there,d.code,v,ao,cap⟩) hk1 aaQ (s':={s with ks:=s.ks.set 3 v}) (by rw[hks];rfl) ha hb' hc' (hd.keep hs0 hc);rw[<-e]at h;exact fin _ _ _ _ h.1 fun x hx=>by
   rcases hx with rfl|rfl|rfl|rfl;exact hk _ (.inl rfl);exact hk _ (.inr (.inl rfl));exact hk _ (.inr (.inr (.inl rfl)));exact hs
theorem MS.ae4(H:MS M X q s left calls w){b:Nat}{cs:Array Value}(hb:w.heap[b]?=some (.cells cs 71 (0,0))):¬M.bb=b:=fun e=>(H.apart hb).2 (.inl e.symm)
theorem NL(H:Zb C q s left R w)(hj:C.j<4)(v:V)(va:Option Addr)(vc:Nat)(hv:bu (fun k=>C.m.own q k\/C.x R k) (fun w=>Is w v va) w)(hc:v.check=0)(hS:v.size<=500):
 Calls prog 301 #[.pointer (some ⟨C.fb,0,none⟩),.agg #[.int .i64 v.kind,.int .i64 v.n,.slice va v.l.length vc]] w fun e w'=>MQ C.m (C.x R) q C.fr (okV (s.ks.getD C.j v0) left {s with ks:=s.ks.set C.j v}) w e w':=by
 obtain⟨W,hW⟩:∃W,W=(w.alloc (.cells #[.int .i64 v.kind,.int .i64 v.n,.slice va v.l.length vc] 71)).alloc (.cells #[.int .i64 0,.int .i64 0,.slice none 0 0] 71):=⟨_,rfl⟩;have qW:aA w W:=by rw[hW];exact(Kp.alloc _ _).trans (Kp.alloc _ _)
 have b0:W.heap[w.heap.size]?=some (.cells #[.int .i64 v.kind,.int .i64 v.n,.slice va v.l.length vc] 71 (0,0)):=by rw[hW,aB _ _ _ (by simp)];exact ah w _
 have b1:W.heap[w.heap.size+1]?=some (.cells #[.int .i64 0,.int .i64 0,.slice none 0 0] 71 (0,0)):=by rw[hW];exact Y2 w _ _
 have H1:=H.quiet qW;have M1:=H.m.ext qW (w.heap.size+1) (by omega) (ae b1);obtain⟨s0,s1,s2,s3,s4⟩:=ja H1 (mK H1 (Kp.refl _ _));obtain⟨ka,kc,⟨k0,k1,k2⟩,hks,hbb,hbf⟩:=M1.ofs C.j hj;have hj4:(C.j:Int)<4:=by omega
 generalize s.ks.getD C.j v0=y at*;obtain⟨z0,z1,z2⟩:=aM b0;have HM:=Wp M1 qW b0 b1 hks H.m.xm hc hj;have HO:=hid (fun(w':World) (k:aA W w')=>zI (fun k=>C.m.own q k\/(C.x R k\/k=w.heap.size+1)) v va vc w' (M1.quiet k).Z8 (cu (qI hv qW (by omega)) k) hS);clear H H1 M1 qW b0 b1 hv hc hS hks hj;go_enter func301,ntmps301;go_wp2;rw[<-hW];clear hW;have hne1:¬C.m.bb=w.heap.size+1:=HM.out.1.ae4 HM.out.2.2.2.1;have hne2:¬w.heap.size+1=C.m.bb:=fun e=>hne1 e.symm;go_quiet (fail);have qz:aA W (W.drewN nq):=Kp.drewN _ _;generalize W.drewN nq=Wq at*;have j0:=qz.cell k0 (fun e=>e);have j1:=qz.cell k1 (fun e=>e);have j2:=qz.cell k2 (fun e=>e);have y0:=qz.cell z0 (fun e=>e);have y1:=qz.cell z1 (fun e=>e);have y2:=qz.cell z2 (fun e=>e);have hsz:=qz.size;have hw1:=ae HM.out.2.2.2.1;have aix:¬C.m.bb=Wq.heap.size:=by omega
 have aiy:¬Wq.heap.size=C.m.bb:=by omega
 have hne5:¬Wq.heap.size=w.heap.size+1:=by omega
 have aiz:¬w.heap.size=Wq.heap.size:=by omega
 have i0:=dZ y0 (.cells #[.int .i64 y.kind,.int .i64 y.n,.slice ka y.l.length kc] 71);have i1:=dZ y1 (.cells #[.int .i64 y.kind,.int .i64 y.n,.slice ka y.l.length kc] 71);have i2:=dZ y2 (.cells #[.int .i64 y.kind,.int .i64 y.n,.slice ka y.l.length kc] 71);have HZ:=bC hsz hw1;clear z0 z1 z2 hsz hw1 s0 s1 s2 s3 s4;go_wp2_with (go_at_call 151;refine(HO.out _ (qz.trans (Kp.alloc _ (.cells #[.int .i64 y.kind,.int .i64 y.n,.slice ka y.l.length kc] 71)))).mono ?_;rintro e w3 ⟨oa,oc,rfl,hs3,q3⟩;have Q3:=qz.trans ((Kp.alloc _ (.cells #[.int .i64 y.kind,.int .i64 y.n,.slice ka y.l.length kc] 71)).trans q3);have d0:=Q3.cell k0 (fun e=>e);have d1:=Q3.cell k1 (fun e=>e);have d2:=Q3.cell k2 (fun e=>e);have hb3:=az hbb Q3.size;obtain⟨_,_,_,_,_,hf3⟩:=(HM.out.1.quiet Q3).ofs C.j HM.out.2.2.2.2.2.2.2;have aiA:=hf3 (2+C.j*5+2);have aiB:=hf3 (2+C.j*5+3);have aiC:=hf3 (2+C.j*5+4);have hl3:=(q3.block _ (by simp) fun e=>e).trans (ah Wq (.cells #[.int .i64 y.kind,.int .i64 y.n,.slice ka y.l.length kc] 71));obtain⟨l0,l1,l2⟩:=aM hl3;have hm3:=(Q3.block _ (ae HM.out.2.2.2.1) fun e=>e).trans HM.out.2.2.2.1;obtain⟨m0,m1,m2⟩:=aM hm3;obtain⟨f0,f1,f2⟩:=bI hm3;have hz3:=ae hm3;have H3:=gp Q3 hs3 hm3;clear Q3 hs3 hm3 hl3 hf3 q3);refine au (v:= .agg #[.int .i64 y.kind,.int .i64 y.n,.slice ka y.l.length kc]) (by simp[results,results301,go_sem,m0,m1,m2]) rfl ?_;have hx:=(HM.out.1.quiet H3.out.1).ae3 C.j HM.out.2.2.2.2.2.2.2 v oa oc H3.out.2.1 HM.out.2.2.2.2.2.2.1;have hxb:=(hx.2.block H3.out.2.2 ((HM.out.1.quiet H3.out.1).apart H3.out.2.2).2 ((HM.out.1.quiet H3.out.1).apart H3.out.2.2).1).1;have hk:=dE (yS w3 C.m.bb C.j v oa oc) (w.heap.size+1) (.int .i64 y.kind) (.int .i64 y.n) (.slice ka y.l.length kc);refine MQ.ZZ (q':=q) (v:=y) (ao:=ka) (cap:=kc) rfl (((hx.2.after H3.out.1).after HM.out.2.1).fresh (hk.mono fun k _ e=>by omega)) (hx.1.aai hk hxb HM.out.2.2.2.2.2.1) rfl (pz (hx.2.safe HM.out.1.xm (cu HM.out.2.2.2.2.1 H3.out.1)) hk)
end
def bU(C:Cx)(R:Rw)(o:Out)(e:Ending)(w':World):Prop:=match o.got with
 | .ok v=>∃q',Zb C q' o.s o.left R w'/\∃ao cap,e= .returned (.agg #[.int .i64 v.kind,.int .i64 v.n,.slice ao v.l.length cap])/\bu (fun k=>C.m.own q' k\/C.x R k) (fun w=>Is w v ao) w'
 | .error c=>e= .panicked (lC c)/\mr C o.s o.left w'
def Cx.pl(C:Cx)(w:World)(op k n:Int):Cx:=(C.ext w.heap.size #[.int .i64 op,.int .i64 k,.int .i64 n] 334).ext (w.heap.size+1) #[.int .i64 0,.int .i64 0,.slice none 0 0] 71
def ZE(w:World)(op k n:Int):World:=(w.alloc (.cells #[.int .i64 op,.int .i64 k,.int .i64 n] 334)).alloc (.cells #[.int .i64 0,.int .i64 0,.slice none 0 0] 71)
section
variable{C:Cx}{q q':Vs}{s s':Sg}{left left':Nat}{R R':Rw}{w w5:World}{op k n:Int}
theorem dI(H:Zb C q s left R w)(op k n:Int):Zb (C.pl w op k n) q s left R (ZE w op k n):=by
 have h1:=H.ext (Kp.alloc w (.cells #[.int .i64 op,.int .i64 k,.int .i64 n] 334)) w.heap.size (aj _) (ah w _) (.inr rfl);refine h1.ext (Kp.alloc _ (.cells #[.int .i64 0,.int .i64 0,.slice none 0 0] 71)) (w.heap.size+1) (by simp) ?_ (.inl rfl);exact Y2 w _ _
theorem BB(w:World)(op k n:Int):aA w (ZE w op k n):=(Kp.alloc _ _).trans (Kp.alloc _ _)
theorem gP(H:Zb (C.pl w op k n) q s left R w5):w5.heap[w.heap.size+1]?=some (.cells #[.int .i64 0,.int .i64 0,.slice none 0 0] 71 (0,0)):=(H.st (w.heap.size+1,#[.int .i64 0,.int .i64 0,.slice none 0 0],71) (by simp[Cx.pl,Cx.ext])).1
theorem eU(H:Zb (C.pl w op k n) q s left R w5):w5.cell? ⟨w.heap.size,0,none⟩=some (.int .i64 op)/\w5.cell? ⟨w.heap.size,1,none⟩=some (.int .i64 k)/\w5.cell? ⟨w.heap.size,2,none⟩=some (.int .i64 n):=by
 have h:w5.heap[w.heap.size]?=some (.cells #[.int .i64 op,.int .i64 k,.int .i64 n] 334 (0,0)):=(H.st (w.heap.size,#[.int .i64 op,.int .i64 k,.int .i64 n],334) (by simp[Cx.pl,Cx.ext])).1;exact aM h
theorem Ki(H0:Zb C q s left R w)(H:Zb (C.pl w op k n) q' s' left' R' w5)(a b c:Value):Zb C q' s' left' R' (((w5.setCell ⟨w.heap.size+1,0,none⟩ a).setCell ⟨w.heap.size+1,1,none⟩ b).setCell ⟨w.heap.size+1,2,none⟩ c):=by
 have hb:=H0.abI;have hw:=H0.went.kp.size;have h1:=Zb.aai (C:=C.ext w.heap.size #[.int .i64 op,.int .i64 k,.int .i64 n] 334) H (dE w5 (w.heap.size+1) a b c) (.inl H0.xm) (show C.w0.heap.size<=w.heap.size+1 by omega) (fun p hp=>by
  rcases aU.1 hp with e|e;rw[e];exact Nat.lt_succ_self _
  ·have:=hb p e;omega)
 exact h1.unread H0.xm hb
theorem Uk{P:World->Prop}(h:bu (fun i=>C.m.own q' i\/(C.pl w op k n).x R' i) P w5)(a b c:Value):bu (fun i=>C.m.own q' i\/C.x R' i) P (((w5.setCell ⟨w.heap.size+1,0,none⟩ a).setCell ⟨w.heap.size+1,1,none⟩ b).setCell ⟨w.heap.size+1,2,none⟩ c):=
 (sM (C:=C.ext w.heap.size #[.int .i64 op,.int .i64 k,.int .i64 n] 334) h (dE w5 (w.heap.size+1) a b c)).mono fun i _ e=>by
   rcases e with e|e|e;exact .inl e;exact .inr (.inl (.inl e));exact .inr (.inr e)
theorem iW(H0:Zb C q s left R w)(h:mr (C.pl w op k n) s' left' w5):mr C s' left' w5:=
 mr.less (C:=C) (mr.less (C:=C.ext w.heap.size #[.int .i64 op,.int .i64 k,.int .i64 n] 334) h (.inl H0.xm)) H0.xm
theorem bU.ZZ{o:Out}{v:V}{e:Ending}{ao:Option Addr}{cap:Nat}{w':World}(ho:o.got= .ok v)(h:Zb C q' o.s o.left R w')(he:e= .returned (.agg #[.int .i64 v.kind,.int .i64 v.n,.slice ao v.l.length cap]))(hs:bu (fun i=>C.m.own q' i\/C.x R i) (fun w=>Is w v ao) w'):bU C R o e w':=by
 unfold bU;rw[ho];exact⟨q',h,ao,cap,he,hs⟩
theorem bU.Y9{o:Out}{c:Int}{e:Ending}{w':World}(ho:o.got= .error c)(he:e= .panicked (lC c))(h:mr C o.s o.left w'):bU C R o e w':=by
 unfold bU;rw[ho];exact⟨he,h⟩
theorem pq{o:Out}{v:V}{ao:Option Addr}{cap:Nat}(H0:Zb C q s left R w)(ho:o.got= .ok v)(H:Zb (C.pl w op k n) q' o.s o.left R' w5)(hs:bu (fun i=>C.m.own q' i\/(C.pl w op k n).x R' i) (fun w=>Is w v ao) w5):
 bU C R' o (.returned (.agg #[.int .i64 v.kind,.int .i64 v.n,.slice ao v.l.length cap])) (((w5.setCell ⟨w.heap.size+1,0,none⟩ (.int .i64 v.kind)).setCell ⟨w.heap.size+1,1,none⟩ (.int .i64 v.n)).setCell ⟨w.heap.size+1,2,none⟩ (.slice ao v.l.length cap)):=
 bU.ZZ ho (Ki H0 H _ _ _) rfl (Uk hs _ _ _)
theorem Pe(H:Zb C q s left R w)(hn:dH n)(k:Int):Calls prog 286 #[.pointer (some ⟨C.fb,0,none⟩),.agg #[.int .i64 2,.int .i64 k,.int .i64 n]] w fun e w'=>bU C R (okV (iX n) left s) e w':=by
 have H1:=dI H 2 k n;obtain⟨i0,i1,i2⟩:=eU H1;have HW:=hid (show ZE w 2 k n=(w.alloc (.cells #[.int .i64 2,.int .i64 k,.int .i64 n] 334)).alloc (.cells #[.int .i64 0,.int .i64 0,.slice none 0 0] 71)from rfl);have HH:=bC H H1;clear H H1;unfold ZE at i0 i1 i2;go_enter func286,ntmps286;go_wp2_with (go_at_call 289;refine(pR _ _).mono ?_;rintro e w5 ⟨rfl,q5⟩;have h5:=HH.out.2.quiet q5;have hb5:=gP h5;obtain⟨m0,m1,m2⟩:=aM hb5;obtain⟨f0,f1,f2⟩:=bI hb5;have hz:=ae hb5;have H5:=hid h5;clear h5 hb5 q5);refine au (v:= .agg #[.int .i64 1,.int .i64 n,.slice none 0 0]) (by simp[results,results286,go_sem,m0,m1,m2]) rfl ?_;exact pq (v:=iX n) (ao:=none) (cap:=0) HH.out.1 rfl H5.out (dY _ ⟨iP 1 (by decide),hn⟩ rfl none)
end
section
variable{C:Cx}{q:Vs}{s:Sg}{left:Nat}{R:Rw}{w:World}{k n:Int}
theorem Nk(H:Zb C q s left R w)(k n:Int):Calls prog 286 #[.pointer (some ⟨C.fb,0,none⟩),.agg #[.int .i64 1,.int .i64 k,.int .i64 n]] w fun e w'=>bU C R (okV v0 left s) e w':=by
 have HH:=hid H;clear H;go_enter func286,ntmps286;go_wp2;refine au (v:= .agg #[.int .i64 0,.int .i64 0,.slice none 0 0]) (by simp[results,results286,go_sem]) rfl ?_;exact bU.ZZ (v:=v0) (ao:=none) (cap:=0) rfl (HH.out.quiet ((Kp.alloc _ _).trans (Kp.alloc _ _))) rfl (dY v0 iR rfl none)
theorem L6(H:Zb C q s left R w)(k n:Int):Calls prog 286 #[.pointer (some ⟨C.fb,0,none⟩),.agg #[.int .i64 3,.int .i64 k,.int .i64 n]] w fun e w'=>bU C R (okV C.arg left s) e w':=by
 have H1:=H.quiet (BB w 3 k n);obtain⟨_,_,a2,a3,a4,_,_⟩:=H1.cells;unfold ZE at a2 a3 a4;have HH:=hid H;clear H H1;go_enter func286,ntmps286;go_wp2;refine au (v:= .agg #[.int .i64 C.arg.kind,.int .i64 C.arg.n,.slice C.aa C.arg.l.length C.ac]) (by simp[results,results286,go_sem]) rfl ?_;exact bU.ZZ (v:=C.arg) (ao:=C.aa) (cap:=C.ac) rfl (HH.out.quiet ((Kp.alloc _ _).trans (Kp.alloc _ _))) rfl (cu HH.out.arg ((Kp.alloc _ _).trans (Kp.alloc _ _)))
theorem NV{sa na:Option Addr}{nn sc mm nc:Nat}{ps qs:List Kd}(H:Zb C q s left ⟨sa,nn,sc,ps,na,mm,nc,qs⟩ w)(kn:Nat)(n:Int)(hk:kn<qs.length)(hm:mm<=2000):Calls prog 286 #[.pointer (some ⟨C.fb,0,none⟩),.agg #[.int .i64 4,.int .i64 kn,.int .i64 n]] w fun e w'=>bU C ⟨sa,nn,sc,ps,na,mm,nc,qs⟩ (okV ((qs.map (·.1)).getD (qs.length-1-kn) v0) left s) e w':=by
 obtain⟨W,hW⟩:∃W,W=ZE w 4 kn n:=⟨_,rfl⟩;have qW:aA w W:=by rw[hW];exact BB w 4 kn n
 have hst:=dI H 4 kn n;rw[<-hW]at hst;have hb:=gP hst;obtain⟨m0,m1,m2⟩:=aM hb;obtain⟨f0,f1,f2⟩:=bI hb;have hz:=ae hb;have H1:=H.quiet qW;obtain⟨_,_,_,_,_,a5,_⟩:=H1.cells;obtain⟨i0,i1,i2⟩:=eU hst;have hln:mm=qs.length:=H.two.ln;have hi:qs.length-1-kn<qs.length:=by omega
 obtain⟨g,hg,c⟩:=H1.two.swap.cells (qs.length-1-kn) (by simp only;omega);have c0:=c 0 (by decide);have c1:=c 1 (by decide);have c2:=c 2 (by decide);have aa3:=H.two.all _ (.inr (aI hi));have hv:(qs.map (·.1)).getD (qs.length-1-kn) v0=(qs[qs.length-1-kn]).1:=by simp[hi]
 simp only at hg a5;subst hg;rw[hv];simp only at c0 c1 c2 aa3;generalize hx:qs[qs.length-1-kn]=x at*;clear hx;obtain⟨xv,xa,xc⟩:=x;simp only[Zv,List.getElem?_cons_zero,List.getElem?_cons_succ,eD]at c0 c1 c2 aa3|-;obtain⟨j,hj⟩:∃j,j=qs.length-1-kn:=⟨_,rfl⟩;rw[<-hj]at c0 c1 c2;have hw1:IntKind.i64.wrap ((mm:Int)-1)=(mm:Int)-1:=by rw[eQ];omega
 have hw2:IntKind.i64.wrap ((mm:Int)-1-(kn:Int))=(j:Int):=by rw[eQ];omega
 have hjm:(j:Int)<(mm:Int):=by omega
 have acV:bu (fun i=>C.m.own q i\/C.x ⟨sa,nn,sc,ps,some ⟨g,0,none⟩,mm,nc,qs⟩ i) (fun w=>Is w xv xa) w:=aa3.mono fun i _ e=>by
  rcases e with e|e|e|e;exact .inl (.inl e);exact .inl (.inr (.inl e));exact .inl (.inr (.inr e));exact .inr e
 have HH:=jR H hst acV qW;clear H hst H1 aa3 acV qW hb c hln hi hv hk hm hj;unfold ZE at hW;go_enter func286,ntmps286;go_wp2;rw[<-hW];clear hW;go_region;all_goals
  go_wp2;refine au (v:= .agg #[.int .i64 xv.kind,.int .i64 xv.n,.slice xa xv.l.length xc]) (by simp[results,results286,go_sem,m0,m1,m2]) rfl ?_;exact bU.ZZ (v:=xv) (ao:=xa) (cap:=xc) rfl ((Ki HH.out.1 HH.out.2.1 _ _ _).quiet (Kp.drew _)) rfl (cu HH.out.2.2.1 ((HH.out.2.2.2.fresh ((dE W _ _ _ _).mono fun k _ e=>by omega)).trans (Kp.drew _)))
theorem Ie(H:Zb C q s left R w)(hj:C.j<4)(k n:Int):Calls prog 286 #[.pointer (some ⟨C.fb,0,none⟩),.agg #[.int .i64 21,.int .i64 k,.int .i64 n]] w fun e w'=>bU C R (okV (s.ks.getD C.j v0) left s) e w':=by
 obtain⟨W,hW⟩:∃W,W=ZE w 21 k n:=⟨_,rfl⟩;have qW:aA w W:=by rw[hW];exact BB w 21 k n
 have hst:=dI H 21 k n;rw[<-hW]at hst;have hb:=gP hst;obtain⟨m0,m1,m2⟩:=aM hb;obtain⟨f0,f1,f2⟩:=bI hb;have hz:=ae hb;have H1:=H.quiet qW;obtain⟨s0,s1,s2,s3,s4⟩:=ja H1 (mK H1 (Kp.refl _ _));obtain⟨ka,kc,⟨k0,k1,k2⟩,_,_,_⟩:=H1.m.ofs C.j hj;obtain⟨ka',kc',⟨k0',k1',k2'⟩,hks,_,_⟩:=H.m.ofs C.j hj;have e2:=qW.cell k2' fun e=>e;rw[k2]at e2;simp only[aT,aY,true_and]at e2;obtain⟨rfl,rfl⟩:=e2;have hj4:(C.j:Int)<4:=by omega
 generalize s.ks.getD C.j v0=y at*;have HH:=jR H hst hks qW;clear H hst H1 hks qW hb hj k0' k1' k2';unfold ZE at hW;go_enter func286,ntmps286;go_wp2;rw[<-hW];clear hW;go_region;all_goals
  go_wp2;refine au (v:= .agg #[.int .i64 y.kind,.int .i64 y.n,.slice ka y.l.length kc]) (by simp[results,results286,go_sem,m0,m1,m2]) rfl ?_;exact bU.ZZ (v:=y) (ao:=ka) (cap:=kc) rfl ((Ki HH.out.1 HH.out.2.1 _ _ _).quiet (Kp.drew _)) rfl (cu HH.out.2.2.1 ((HH.out.2.2.2.fresh ((dE W _ _ _ _).mono fun k _ e=>by omega)).trans (Kp.drew _)))
end
section
variable{C:Cx}{q:Vs}{s:Sg}{left:Nat}{R:Rw}{w:World}
theorem Ll{W w' w2:World}{Z4:Value}(H:Zb C q s left R W)(k:aA W w')(g:Wo.Goes C.m.wd q.l w' Z4 w2):wu C W w2:=by
 have h:=mK H k;have H2:=H.quiet k;obtain⟨a,b,c,d,hb,_⟩:=H2.m.box;have hn:∀x,Wo.Own C.m.wd q.l x->x≠C.fb/\x≠C.m.mb/\x≠C.m.bb:=fun x hx=>by
  refine⟨fun e=>H2.abH.1 (e▸ .inr (.inr hx)),fun e=>H2.m.abG (e▸ .inr (.inr hx)),(hb.apart.2 x hx).1⟩
 exact⟨(g.kp.block _ (ae H2.fr) fun e=>(hn _ e).1 rfl).trans h.f,(g.kp.block _ (ae H2.m.ma) fun e=>(hn _ e).2.1 rfl).trans h.m,(g.kp.block _ H2.aeR fun e=>(hn _ e).2.2 rfl).trans h.b⟩
theorem PH(H:Zb C q s left R w)(n c:Int)(hes:s.es.length<=1000000)(hc:iG s (iw n) 0= .ok c):Calls prog 294 #[.pointer (some ⟨C.fb,0,none⟩),.int .i64 n] w fun e w'=>MQ C.m (C.x R) q C.fr (okV (iX (s.cs.getD c.toNat 0)) left {s with es:=s.es++[⟨C.j,c,1,n⟩]}) w e w':=by
 obtain⟨W,hW⟩:∃W,W=w.alloc (.cells #[.int .i64 0,.int .i64 0,.slice none 0 0] 71):=⟨_,rfl⟩;have qW:aA w W:=by rw[hW];exact Kp.alloc _ _
 have bW:W.heap[w.heap.size]?=some (.cells #[.int .i64 0,.int .i64 0,.slice none 0 0] 71 (0,0)):=by rw[hW];exact ah w _
 have H1:=H.quiet qW;have M1:=H.m.ext qW w.heap.size (aj _) (ae bW);obtain⟨s0,s1,s2,s3,s4⟩:=ja H1 (mK H1 (Kp.refl _ _));have HC:=hid (fun(w':World) (k:aA W w')=>uA (H1.quiet k).m (.inl ⟨rfl,rfl⟩:nT 0 1) n);obtain⟨c0,c1⟩:=K9 H.m.gs.2 hc;have hb:Wo.hasB c=true:=by simp[Wo.hasB];omega
 have HR:=hid (fun(w':World) (k:aA W w')=>Wo.aag C.m.B w' C.m.wd s.cs q.l s.es (M1.quiet k).ws hes C.j c n);simp only[Wo.aaK,Wo.Zy,hb,if_true]at HR;rw[hc]at HC;have hv:dH (s.cs.getD c.toNat 0):=by
  have hlen:=H.m.ws.obj.len;rw[aD,aQ (by omega)];exact H.m.ci _ (aI _)
 generalize s.cs.getD c.toNat 0=y at*;have HH:=yY M1 qW bW H.m.xm hv;have HS:=hid H1;have ZW:=hid (fun(w':World) (z:wu C W w')=>ja H1 z);have zD:=wu.drew C W;clear H H1 M1 hc hb c0 c1 hes bW qW;go_enter func294,ntmps294;go_wp2;rw[<-hW];clear hW;go_region_held3 (fun w'=>w'.cell? ⟨C.fb,0,none⟩=some (.pointer (some ⟨C.m.mb,0,none⟩))/\w'.cell? ⟨C.fb,1,none⟩=some (.int .i64 C.j)/\w'.cell? ⟨C.m.mb,0,none⟩=some (.pointer (some ⟨C.m.bb,0,none⟩))/\w'.cell? ⟨C.m.bb,0,none⟩=some (.pointer (some ⟨C.m.g,0,none⟩))/\w'.cell? ⟨C.m.bb,1,none⟩=some (.pointer (some ⟨C.m.wd,0,none⟩))) ((refine ZW.out _ ?_;assumption)) (first
  |(go_at_call 303;refine(HR.out _ qz).mono ?_;rintro e w4 ⟨rfl,Z4,acW,go4⟩;have z4:=Ll HS.out qz go4;have H4:=bC acW go4;clear acW go4 zD)
  |(go_at_call 304;refine(HC.out _ (Kp.drew _)).mono ?_;rintro e w3 ⟨he,q3⟩;obtain rfl:e= .returned (.int .i64 c):=he;have qz:=(Kp.drew (F:=fun _=>False) W).trans q3;have z3:=mK HS.out qz;clear q3))
 have hx:=(HH.out.1.quiet qz).world H4.out.2 H4.out.1 HH.out.1.ci;have hb4:=(hx.2.block ((qz.block _ (ae HH.out.2.2.1) fun e=>e).trans HH.out.2.2.1) ((HH.out.1.quiet qz).apart ((qz.block _ (ae HH.out.2.2.1) fun e=>e).trans HH.out.2.2.1)).2 ((HH.out.1.quiet qz).apart ((qz.block _ (ae HH.out.2.2.1) fun e=>e).trans HH.out.2.2.1)).1).1;have HX:=bC hx hb4;clear hx hb4 z3 z4;go_wp2_with (go_at_call 289;refine(pR _ _).mono ?_;rintro e w5 ⟨rfl,q5⟩;have hb5:=(q5.block _ (ae HX.out.2) fun e=>e).trans HX.out.2;obtain⟨m0,m1,m2⟩:=aM hb5;obtain⟨f0,f1,f2⟩:=bI hb5;have hz:=ae hb5;have H5:=bC q5 hb5;clear q5 hb5);refine au (v:= .agg #[.int .i64 1,.int .i64 y,.slice none 0 0]) (by simp[results,results294,go_sem,m0,m1,m2]) rfl ?_;have hk:=dE w5 w.heap.size (.int .i64 1) (.int .i64 y) (.slice none 0 0);exact MQ.ZZ (q':=⟨q.n,q.o,Z4⟩) (v:=iX y) (ao:=none) (cap:=0) rfl (((HX.out.1.2.after (HH.out.2.1.trans qz)).trans (dG.quiet C.m _ H5.out.1)).fresh (hk.mono fun k _ e=>by omega)) ((HX.out.1.1.quiet H5.out.1).aai hk H5.out.2 HH.out.2.2.2.1) rfl (dY _ ⟨iP 1 (by decide),HH.out.2.2.2.2⟩ rfl none)
theorem LH(H:Zb C q s left R w)(n y c:Int)(hes:s.es.length<=1000000)(hv:dH y)(hc:iG s (iw n) 1= .ok c):Calls prog 296 #[.pointer (some ⟨C.fb,0,none⟩),.int .i64 n,.int .i64 y] w fun e w'=>MQ C.m (C.x R) q C.fr (okV (iX y) left {s with cs:=s.cs.set c.toNat y,es:=s.es++[⟨C.j,c,2,n⟩]}) w e w':=by
 obtain⟨W,hW⟩:∃W,W=w.alloc (.cells #[.int .i64 0,.int .i64 0,.slice none 0 0] 71):=⟨_,rfl⟩;have qW:aA w W:=by rw[hW];exact Kp.alloc _ _
 have bW:W.heap[w.heap.size]?=some (.cells #[.int .i64 0,.int .i64 0,.slice none 0 0] 71 (0,0)):=by rw[hW];exact ah w _
 have H1:=H.quiet qW;have M1:=H.m.ext qW w.heap.size (aj _) (ae bW);obtain⟨s0,s1,s2,s3,s4⟩:=ja H1 (mK H1 (Kp.refl _ _));have HC:=hid (fun(w':World) (k:aA W w')=>uA (H1.quiet k).m (.inr (.inl ⟨rfl,rfl⟩):nT 1 2) n);obtain⟨c0,c1⟩:=K9 H.m.gs.2 hc;have hb:Wo.hasB c=true:=by simp[Wo.hasB];omega
 have HR:=hid (fun(w':World) (k:aA W w')=>Wo.aaM C.m.B w' C.m.wd s.cs q.l s.es (M1.quiet k).ws hes C.j c n y);simp only[Wo.aaL,Wo.Zy,hb,if_true]at HR;rw[hc]at HC;have HH:=yY M1 qW bW H.m.xm hv;have HS:=hid H1;have ZW:=hid (fun(w':World) (z:wu C W w')=>ja H1 z);have zD:=wu.drew C W;clear H H1 M1 hc hb c0 c1 hes bW qW;go_enter func296,ntmps296;go_wp2;rw[<-hW];clear hW;go_region_held3 (fun w'=>w'.cell? ⟨C.fb,0,none⟩=some (.pointer (some ⟨C.m.mb,0,none⟩))/\w'.cell? ⟨C.fb,1,none⟩=some (.int .i64 C.j)/\w'.cell? ⟨C.m.mb,0,none⟩=some (.pointer (some ⟨C.m.bb,0,none⟩))/\w'.cell? ⟨C.m.bb,0,none⟩=some (.pointer (some ⟨C.m.g,0,none⟩))/\w'.cell? ⟨C.m.bb,1,none⟩=some (.pointer (some ⟨C.m.wd,0,none⟩))) ((refine ZW.out _ ?_;assumption)) (first
  |(go_at_call 305;refine(HR.out _ qz).mono ?_;rintro e w4 ⟨rfl,Z4,acW,go4⟩;have z4:=Ll HS.out qz go4;have H4:=bC acW go4;clear acW go4 zD)
  |(go_at_call 304;refine(HC.out _ (Kp.drew _)).mono ?_;rintro e w3 ⟨he,q3⟩;obtain rfl:e= .returned (.int .i64 c):=he;have qz:=(Kp.drew (F:=fun _=>False) W).trans q3;have z3:=mK HS.out qz;clear q3))
 have hx:=(HH.out.1.quiet qz).world H4.out.2 H4.out.1 (fun z hz=>by
  rcases List.mem_or_eq_of_mem_set hz with hz|hz;exact HH.out.1.ci z hz
  ·rw[hz];exact HH.out.2.2.2.2)
 have hb4:=(hx.2.block ((qz.block _ (ae HH.out.2.2.1) fun e=>e).trans HH.out.2.2.1) ((HH.out.1.quiet qz).apart ((qz.block _ (ae HH.out.2.2.1) fun e=>e).trans HH.out.2.2.1)).2 ((HH.out.1.quiet qz).apart ((qz.block _ (ae HH.out.2.2.1) fun e=>e).trans HH.out.2.2.1)).1).1;have HX:=bC hx hb4;clear hx hb4 z3 z4;go_wp2_with (go_at_call 289;refine(pR _ _).mono ?_;rintro e w5 ⟨rfl,q5⟩;have hb5:=(q5.block _ (ae HX.out.2) fun e=>e).trans HX.out.2;obtain⟨m0,m1,m2⟩:=aM hb5;obtain⟨f0,f1,f2⟩:=bI hb5;have hz:=ae hb5;have H5:=bC q5 hb5;clear q5 hb5);refine au (v:= .agg #[.int .i64 1,.int .i64 y,.slice none 0 0]) (by simp[results,results296,go_sem,m0,m1,m2]) rfl ?_;have hk:=dE w5 w.heap.size (.int .i64 1) (.int .i64 y) (.slice none 0 0);exact MQ.ZZ (q':=⟨q.n,q.o,Z4⟩) (v:=iX y) (ao:=none) (cap:=0) rfl (((HX.out.1.2.after (HH.out.2.1.trans qz)).trans (dG.quiet C.m _ H5.out.1)).fresh (hk.mono fun k _ e=>by omega)) ((HX.out.1.1.quiet H5.out.1).aai hk H5.out.2 HH.out.2.2.2.1) rfl (dY _ ⟨iP 1 (by decide),HH.out.2.2.2.2⟩ rfl none)
end
