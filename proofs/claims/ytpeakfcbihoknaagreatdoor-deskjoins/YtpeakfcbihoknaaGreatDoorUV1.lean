/- Parts. -/
import Derived.Test.YtpeakfcbihoknaaGreatDoorUK0
namespace Go.Proofs.YtpeakfcbihoknaaGreatDoor
open Gr (Nd ZH nd0 YT aS dJ bJ dV bS Y0 bN eX YS Wf jg Ak lZ mf mV fO Zx funcOf)
structure jD(K:List Nd->Int->Int->Prop)(W:Int->Prop):Prop where
 more:∀{ns ns':List Nd}{g:Nat}{p c:Int},Wf ns' g->ns<+:ns'->YT ns.length c=true->K ns p c->K ns' p c
 kid:∀{ns:List Nd}{g:Nat}{p x y:Int}{n:Nd},Wf ns g->YT ns.length x=true->Y0 ns y=n::Y0 ns x->K ns p x->K ns p y
 ask:∀{ns:List Nd}{g:Nat}{p a x y:Int},Wf ns g->YT ns.length a=true->K ns p a->0<=(YS ns a).plugin->vZ ns (bN ns a) x y->K ns p x->K ns (YS ns a).plugin y
 back:∀{ns:List Nd}{g:Nat}{p a x y:Int},Wf ns g->YT ns.length a=true->K ns p a->0<=(YS ns a).plugin->vZ ns (bN ns a) x y->K ns (YS ns a).plugin x->K ns p y
 who:∀{ns:List Nd}{p a:Int},YT ns.length a=true->K ns p a->W p->0<=(YS ns a).plugin->W (YS ns a).plugin
def Hd(K:List Nd->Int->Int->Prop)(ns:List Nd)(p:Int)(v:V):Prop:=∀c∈v.Zn,YT ns.length c=true/\K ns p c
theorem P6{l:List V}{x:V}(hx:x∈l){c:Int}(hc:c∈x.Zn):c∈gG (Zh l):=by
 induction l with
 |nil=>simp at hx
 |cons y l ih=>
  rw[gm,jb,aK];rcases aU.1 hx with rfl|hx;exact .inl hc;exact .inr (ih hx)
theorem EJ{l:List V}{c:Int}(hc:c∈gG (Zh l)):∃x∈l,c∈x.Zn:=by
 induction l with
 |nil=>rw[iI]at hc;simp[gG]at hc
 |cons y l ih=>
  rw[gm,jb,aK]at hc;rcases hc with hc|hc;exact⟨y,by simp,hc⟩;obtain⟨x,hx,h⟩:=ih hc;exact⟨x,by simp[hx],h⟩
section
variable{K:List Nd->Int->Int->Prop}{W:Int->Prop}{ns ns':List Nd}{g:Nat}{p:Int}{v x:V}
theorem Hd.kid(h:Hd K ns p v)(hx:x∈v.l):Hd K ns p x:=fun c hc=>h c (by rw[qc,aK];exact .inr (P6 hx hc))
theorem Hd.of{k n:Int}{l:List V}(hk:k≠4)(h:∀x∈l,Hd K ns p x):Hd K ns p ⟨k,n,l⟩:=fun c hc=>by
 rw[qc,af hk,dm]at hc;obtain⟨x,hx,h2⟩:=EJ hc;exact h x hx c h2
theorem Hd.leaf{k n:Int}(hk:k≠4):Hd K ns p ⟨k,n,[]⟩:=Hd.of hk (by simp)
theorem Hd.v0:Hd K ns p v0:=Hd.leaf (by decide)
theorem Hd.cap{n:Int}(h1:YT ns.length n=true)(h2:K ns p n):Hd K ns p (iw n):=fun c hc=>by
 rw[qc]at hc;simp[iw,iI,gG]at hc;rw[hc];exact⟨h1,h2⟩
theorem Hd.is(h:Hd K ns p v)(hk:v.kind=4):YT ns.length v.n=true/\K ns p v.n:=h v.n (by rw[qc,ag hk];simp)
theorem j4(hw:Wf ns' g)(hp:ns<+:ns'){c:Int}(hc:YT ns.length c=true):YS ns' c=YS ns c:=by unfold YS;rw[mg hw hp hc]
theorem yP(hw:Wf ns' g)(hp:ns<+:ns'){c:Int}(hc:YT ns.length c=true):bN ns' c=bN ns c:=by unfold bN;rw[mg hw hp hc]
theorem Hd.more(hK:jD K W)(h:Hd K ns p v)(hw:Wf ns' g)(hp:ns<+:ns'):Hd K ns' p v:=fun c hc=>by
 obtain⟨h1,h2⟩:=h c hc;exact⟨jM hp h1,hK.more hw hp h1 h2⟩
theorem Hd.getD(h:Hd K ns p v)(i:Nat):Hd K ns p (v.l.getD i Go.Proofs.YtpeakfcbihoknaaGreatDoor.v0):=by
 rcases dO i v.l.length with hi|hi;rw[aD,aQ hi];exact h.kid (aI hi);rw[aD,di hi];exact Hd.v0
end
def vO(K:List Nd->Int->Int->Prop)(W:Int->Prop)(ns:List Nd)(e:Wo.ZI):Prop:=W e.plugin/\∃bit:Nat,(e.right=1/\bit=0\/e.right=2/\bit=1)/\YT ns.length e.node=true/\(YS ns e.node).plugin<0/\(YS ns e.node).cell=e.cell/\K ns e.plugin e.node/\∀n∈Y0 ns e.node,n.Y1.toNat.testBit bit=true
theorem vO.more{K:List Nd->Int->Int->Prop}{W:Int->Prop}(hK:jD K W){ns ns':List Nd}{g:Nat}{e:Wo.ZI}(h:vO K W ns e)(hw:Wf ns' g)(hp:ns<+:ns'):vO K W ns' e:=by
 obtain⟨h0,bit,h1,h2,h3,h4,h5,h6⟩:=h;refine⟨h0,bit,h1,jM hp h2, ?_, ?_, ?_, ?_⟩;rw[j4 hw hp h2];exact h3;rw[j4 hw hp h2];exact h4;exact hK.more hw hp h2 h5;rw[mg hw hp h2];exact h6
structure Gs(K:List Nd->Int->Int->Prop)(s:Sg):Prop where
 wf:Wf s.ns s.os.length
 ln:s.ns.length<=80
 ks:s.ks.length=4
 kept:∀q:Nat,q<4->Hd K s.ns q (s.ks.getD q v0)
structure Gf(K:List Nd->Int->Int->Prop)(W:Int->Prop)(s:Sg)(p:Int)(o:Out):Prop where
 st:Gs K o.s
 pre:s.ns<+:o.s.ns
 val:∀v,o.got= .ok v->Hd K o.s.ns p v
 log:∃new,o.s.es=s.es++new/\∀e∈new,vO K W o.s.ns e
section
variable{K:List Nd->Int->Int->Prop}{W:Int->Prop}{s:Sg}{p:Int}{n:Nat}
theorem qh{s':Sg}(c:Int)(h:Gs K s')(hp:s.ns<+:s'.ns)(he:s'.es=s.es):Gf K W s p (bad c n s'):=⟨h,hp,fun v e=>by simp[bad]at e,[],by simp[bad,he],by simp⟩
theorem nM{s':Sg}{v:V}(h:Gs K s')(hp:s.ns<+:s'.ns)(hv:Hd K s'.ns p v)(he:s'.es=s.es):Gf K W s p (okV v n s'):=⟨h,hp,fun u e=>by simp only[okV,ed]at e;rw[<-e];exact hv,[],by simp[okV,he],by simp⟩
theorem Tq{s':Sg}{v:V}{e:Wo.ZI}(h:Gs K s')(hp:s.ns<+:s'.ns)(hv:Hd K s'.ns p v)(he:s'.es=s.es++[e])(hG:vO K W s'.ns e):Gf K W s p (okV v n s'):=⟨h,hp,fun u e=>by simp only[okV,ed]at e;rw[<-e];exact hv,[e],he,fun x hx=>by rw[bD.1 hx];exact hG⟩
theorem Gf.then(hK:jD K W){p':Int}{o:Out}{f:V->Nat->Sg->Out}(h:Gf K W s p' o)(hf:∀v m s',Gs K s'->s.ns<+:s'.ns->Hd K s'.ns p' v->Gf K W s' p (f v m s'))(hb:∀c,o.got= .error c->Gf K W s p o):Gf K W s p (o.then f):=by
 unfold Out.then
 cases e:o.got with
 |error c=>exact hb c e
 |ok v=>
  have k:=hf v o.left o.s h.st h.pre (h.val v e);obtain⟨n1,l1,g1⟩:=h.log;obtain⟨n2,l2,g2⟩:=k.log;simp only;refine⟨k.st,h.pre.trans k.pre,k.val,n1++n2,by rw[l2,l1,aV],fun e he=> ?_⟩;rcases aK.1 he with he|he;exact(g1 e he).more hK k.st.wf k.pre;exact g2 e he
theorem Gf.bad'{p':Int}{o:Out}{c:Int}(h:Gf K W s p' o)(e:o.got= .error c):Gf K W s p o:=⟨h.st,h.pre,fun v e2=>(by rw[e]at e2;cases e2),h.log⟩
theorem Gf.andThen(hK:jD K W){p':Int}{o:Out}{f:V->Nat->Sg->Out}(h:Gf K W s p' o)(hf:∀v m s',Gs K s'->s.ns<+:s'.ns->Hd K s'.ns p' v->Gf K W s' p (f v m s')):Gf K W s p (o.then f):=h.then hK hf fun _ e=>h.bad' e
end
theorem Qg{ns:List Nd}{gs:List Int}{v y:V}(h:Om ns gs v y){c:Int}(hc:c∈y.Zn):∃c'∈v.Zn,vZ ns gs c' c:=by
 obtain⟨i,hi,rfl⟩:=bT hc;have hi2:i<v.Zn.length:=by have:=h.Zn;omega
 exact⟨v.Zn[i],aI hi2,h.came i hi2⟩
theorem Al{b:Nat}:∀(ws:List Nd)(r:Nat),(lZ r ws).testBit b=true->r.testBit b=true/\∀n∈ws,n.Y1.toNat.testBit b=true:=by
 intro ws;induction ws with
 |nil=>intro r h;exact⟨h,by simp⟩
 |cons n ws ih=>
  intro r h;obtain⟨h1,h2⟩:=ih (r&&&n.Y1.toNat) h;rw[Nat.testBit_and,Bool.and_eq_true]at h1;refine⟨h1.1,fun m hm=> ?_⟩;rcases aU.1 hm with rfl|hm;exact h1.2;exact h2 m hm
theorem Bj{ns:List Nd}{os:List Bool}{c:Int}{b:Nat}(h:(bS ns os c).testBit b=true):∀n∈Y0 ns c,n.Y1.toNat.testBit b=true:=by
 unfold bS at h;split at h;exact(Al _ _ h).2;simp at h
theorem FR{s:Sg}{v:V}{bit:Nat}{c:Int}(h:iG s v bit= .ok c):v.kind=4/\(bS s.ns s.os v.n).testBit bit=true/\(YS s.ns v.n).plugin<0/\(YS s.ns v.n).cell=c:=by
 unfold iG at h;by_cases h1:v.kind=4;rw[ag h1]at h;by_cases h2:(bS s.ns s.os v.n).testBit bit=true;rw[ag h2]at h;by_cases h3:0<=(YS s.ns v.n).plugin;rw[ag h3]at h;cases h;rw[af h3]at h;exact⟨h1,h2,by omega,by injection h⟩;rw[af h2]at h;cases h;rw[af h1]at h;cases h
theorem Iu{ns:List Nd}{os:List Bool}{x r g:Int}(hw:Wf ns os.length)(hl:ns.length<=80)(h:(aS ns os x r g).code=0):YT ns.length x=true/\YT (aS ns os x r g).ns.length (aS ns os x r g).num=true/\∃n,Y0 (aS ns os x r g).ns (aS ns os x r g).num=n::Y0 (aS ns os x r g).ns x:=by
 have hw2:=(ow hw hl x r g).1;unfold aS at h hw2|-;by_cases hx:YT ns.length x=true
 ·rw[ag hx]at h hw2|-;unfold dJ at h hw2|-;by_cases h1:¬(0<=r/\r<=15);rw[ag h1]at h;cases h;rw[af h1]at h hw2|-;by_cases h2:g≠ -1/\YT os.length g=false;rw[ag h2]at h;cases h;rw[af h2]at h hw2|-;by_cases h3:ns.length=80;rw[ag h3]at h;cases h;rw[af h3]at hw2|-;simp only at hw2|-;refine⟨hx,by simp[YT];omega, ?_⟩;obtain⟨j,rfl,hj⟩:=Gr.Zg hx;have hlen:ns.length<(ns++[(⟨(j:Int),g,r,0, -1,0⟩:Nd)]).length:=by simp
  have e1:=Gr.Zp hw2.wf hlen;have e2:(ns++[(⟨(j:Int),g,r,0, -1,0⟩:Nd)])[ns.length]=⟨(j:Int),g,r,0, -1,0⟩:=by simp
  rw[e2]at e1;simp only at e1;exact⟨_,e1⟩
 ·rw[af hx]at h;cases h
section
variable{K:List Nd->Int->Int->Prop}{W:Int->Prop}
theorem GX{s:Sg}{p q:Int}(hK:jD K W)(h:Gs K s){v:V}(hv:Hd K s.ns p v)(gs:List Int)(hg:∀{ns:List Nd} {x y:Int},Wf ns s.os.length->s.ns<+:ns->vZ ns gs x y->K ns p x->K ns q y)(n:Nat):Gf K W s q (fB v gs n s):=by
 obtain⟨k1,_⟩:=qQ (gs:=gs) (v:=v) h.wf h.ln;have hs:Gs K {s with ns:=(fK s.ns s.os gs v).2.2}:=⟨k1.wf,k1.len,h.ks,fun q hq=>(h.kept q hq).more hK k1.wf k1.pre⟩;unfold fB;by_cases e:(fK s.ns s.os gs v).2.1=0
 ·rw[ag e];refine nM hs k1.pre ?_ rfl;have hm:lu s.ns s.os v=0:=by
   by_cases hm:lu s.ns s.os v=0;exact hm;unfold fK at e;rw[af hm]at e;exact absurd e hm
  have hc:v.check=0:=by
   unfold lu at hm;by_cases h1:v.check=0;exact h1;rw[af h1]at hm;exact absurd hm h1
  have ep:fK s.ns s.os gs v=v.handed s.os gs s.ns:=by unfold fK;rw[ag hm]
  rw[ep]at e k1|-;obtain⟨w1,p1,g1⟩:=EY (os:=s.os) (gs:=gs) v s.ns (v.handed s.os gs s.ns).2.2 (v.handed s.os gs s.ns).1 (by rw[<-e]) (jX hc) h.wf fun c hc=>(hv c hc).1;intro c hc;obtain⟨c',hc',hcm⟩:=Qg g1 hc;exact⟨hcm.ty,hg w1 p1 hcm (hK.more w1 p1 (hv c' hc').1 (hv c' hc').2)⟩
 ·rw[af e];exact qh _ hs k1.pre rfl
def Hr(K:List Nd->Int->Int->Prop)(W:Int->Prop)(call:eT):Prop:=∀fr p f v n s,0<=p->W p->Hd K s.ns p v->Gs K s->Gf K W s p (call fr p f v n s)
def EvG(K:List Nd->Int->Int->Prop)(W:Int->Prop)(ev:Evl):Prop:=∀fr p x arg names n s,0<=p->W p->Hd K s.ns p arg->(∀v∈names,Hd K s.ns p v)->Gs K s->Gf K W s p (ev fr p x arg names n s)
theorem WQ(hK:jD K W){call:eT}(hc:Hr K W call){s:Sg}{p:Int}(hW:W p)(h:Gs K s)(ms:fA)(fr:Nat){a b:V}(ha:Hd K s.ns p a)(hb:Hd K s.ns p b)(n:Nat):Gf K W s p (mU call ms fr a b n s):=by
 have hz:∀c,Gf K W s p (bad c n s):=fun c=>qh c h (bK _) rfl;unfold mU;by_cases h1:a.kind=4
 ·rw[ag h1];obtain⟨a1,a2⟩:=ha.is h1;split
  ·split;exact hz _
   ·rename_i h3;have hq:0<=(YS s.ns a.n).plugin:=(by omega);split;exact hz _
    ·split;exact hz _;refine Gf.andThen hK (p':=(YS s.ns a.n).plugin) (GX hK h hb _ (fun{ns x y} w pr cm hx=> ?_) _) fun x m s' hs' pr' hx=>(hc _ _ _ _ _ _ hq (hK.who a1 a2 hW hq) hx hs').andThen hK fun y m2 s2 hs2 pr2 hy=>GX hK hs2 hy _ (fun{ns x y} w pr cm hx=> ?_) _;rw[<-yP w pr a1]at cm;rw[<-j4 w pr a1]at hq|-;exact hK.ask w (jM pr a1) (hK.more w pr a1 a2) hq cm hx;have pr0:=(pr'.trans pr2).trans pr;rw[<-yP w pr0 a1]at cm;rw[<-j4 w pr0 a1]at hq hx;exact hK.back w (jM pr0 a1) (hK.more w pr0 a1 a2) hq cm hx
  ·exact hz _
 ·rw[af h1];exact hz _
theorem V3(hK:jD K W){call:eT}(hc:Hr K W call){s:Sg}{p:Int}(hW:W p)(h:Gs K s)(ms:fA)(fr:Nat)(op k:Int){a b:V}(ha:Hd K s.ns p a)(hb:Hd K s.ns p b)(n:Nat):Gf K W s p (jy call ms fr p op k a b n s):=by
 have hz:∀c,Gf K W s p (bad c n s):=fun c=>qh c h (bK _) rfl;unfold jy;by_cases h6:op=6
 ·rw[ag h6];split;exact nM h (bK _) (Hd.leaf (by decide)) rfl;exact hz _
 rw[af h6];by_cases h8:op=8
 ·rw[ag h8];split;refine nM h (bK _) (Hd.of (by decide) ?_) rfl;intro x hx;simp at hx;rcases hx with rfl|rfl;exact ha;exact hb;exact hz _
 rw[af h8];by_cases h14:op=14
 ·rw[ag h14];split
  ·cases e:iG s a 1 with
   |error c=>exact hz _
   |ok c=>
    obtain⟨e1,e2,e3,e4⟩:=FR e;obtain⟨a1,a2⟩:=ha.is e1;exact Tq (s:=s) (s':={s with cs:=s.cs.set c.toNat b.n,es:=s.es++[⟨p,c,2,a.n⟩]}) ⟨h.wf,h.ln,h.ks,h.kept⟩ (bK _) hb rfl ⟨hW,1,.inr ⟨rfl,rfl⟩,a1,e3,e4,a2,Bj e2⟩
  ·exact hz _
 rw[af h14];exact WQ hK hc hW h _ _ ha hb _
theorem Lc{s:Sg}(h:Gs K s){p:Int}(hp:0<=p):Hd K s.ns p (s.ks.getD p.toNat v0):=by
 rcases dO p.toNat 4 with hi|hi;have:=h.kept p.toNat hi;rwa[Int.toNat_of_nonneg hp]at this;rw[aD,di (by rw[h.ks];exact hi)];exact Hd.v0
theorem Le(hK:jD K W){s:Sg}{p:Int}{os':List Bool}(h:Gs K s)(ho:s.os.length<=os'.length){x:Int}(hx:K s.ns p x)(r g:Int)(n:Nat):Gf K W s p (jf (aS s.ns os' x r g) n {s with os:=os'}):=by
 have hw:=h.wf.more ho;obtain⟨k1,_,_⟩:=ow (os:=os') hw h.ln x r g;have e:(aS s.ns os' x r g).os=os':=vS _ _ _ _ _;have hi:Gs K {s with ns:=(aS s.ns os' x r g).ns,os:=(aS s.ns os' x r g).os}:=⟨by rw[e];exact k1.wf,k1.len,h.ks,fun q hq=>(h.kept q hq).more hK k1.wf k1.pre⟩;unfold jf;by_cases e:(aS s.ns os' x r g).code=0;rw[ag e];obtain⟨t1,t2,nd,t3⟩:=Iu hw h.ln e;exact nM (s:=s) hi k1.pre (Hd.cap t2 (hK.kid k1.wf (jM k1.pre t1) t3 (hK.more k1.wf k1.pre t1 hx))) rfl;rw[af e];exact qh (s:=s) _ hi k1.pre rfl
theorem VN(hK:jD K W){call:eT}(hc:Hr K W call){s:Sg}{p:Int}(hp:0<=p)(hW:W p)(h:Gs K s)(fr:Nat)(op k:Int){a:V}(ha:Hd K s.ns p a)(n:Nat):Gf K W s p (gQ call fr p op k a n s):=by
 have hb:∀c,Gf K W s p (bad c n s):=fun c=>qh c h (bK _) rfl;have hr:s.ns<+:s.ns:=bK _;unfold gQ;by_cases h9:op=9
 ·rw[ag h9];split;exact nM h hr (ha.getD 0) rfl;exact hb _
 rw[af h9];by_cases h10:op=10
 ·rw[ag h10];split;exact nM h hr (ha.getD 1) rfl;exact hb _
 rw[af h10];by_cases h11:op=11
 ·rw[ag h11];split;exact nM h hr (Hd.of (by decide) fun x hx=>by rw[bD.1 hx];exact ha) rfl;exact hb _
 rw[af h11];by_cases h12:op=12
 ·rw[ag h12];split
  ·split;exact nM h hr (ha.getD 0) rfl;exact hb _
  ·exact hb _
 rw[af h12];by_cases h13:op=13
 ·rw[ag h13];cases e:iG s a 0 with
  |error c=>exact hb _
  |ok c=>
   obtain⟨e1,e2,e3,e4⟩:=FR e;obtain⟨a1,a2⟩:=ha.is e1;exact Tq (s:=s) (s':={s with es:=s.es++[⟨p,c,1,a.n⟩]}) ⟨h.wf,h.ln,h.ks,h.kept⟩ hr (Hd.leaf (by decide)) rfl ⟨hW,0,.inl ⟨rfl,rfl⟩,a1,e3,e4,a2,Bj e2⟩
 rw[af h13];by_cases h15:op=15
 ·rw[ag h15];split;rename_i h4;exact Le hK (os':=s.os) h (aj _) (ha.is h4).2 _ _ _;exact hb _
 rw[af h15];by_cases h16:op=16
 ·rw[ag h16];split
  ·rename_i h4;split
   ·have ho:s.os.length<=(bJ s.ns s.os).os.length:=(by unfold bJ;split<;>simp);refine(Le hK h ho (ha.is h4).2 _ _ _).andThen hK fun v m s' hs' _ hv=> ?_;refine nM hs' (bK _) (Hd.of (by decide) fun x hx=> ?_) rfl;simp at hx;rcases hx with rfl|rfl
    ·exact hv
    ·exact Hd.leaf (by decide)
   ·exact hb _
  ·exact hb _
 rw[af h16];by_cases h17:op=17
 ·rw[ag h17];split;have e:(dV s.ns s.os a.n).os.length=s.os.length:=(by unfold dV;split<;>simp);have hi:Gs K {s with os:=(dV s.ns s.os a.n).os}:=⟨by rw[e];exact h.wf,h.ln,h.ks,h.kept⟩;exact nM (s:=s) hi hr Hd.v0 rfl;exact hb _
 rw[af h17];by_cases h18:op=18;rw[ag h18];exact hc _ _ _ _ _ _ hp hW ha h;rw[af h18];have hi:Gs K {s with ks:=s.ks.set p.toNat a}:=⟨h.wf,h.ln,by simp[h.ks],fun q hq=>by
  simp only;rw[aD,dw];by_cases e:p.toNat=q;have e2:q<s.ks.length:=(by rw[h.ks];exact hq);rw[ag e,ag (by omega)];have e3:(q:Int)=p:=(by omega);rw[e3];exact ha
  ·rw[af e,<-aD];exact h.kept q hq⟩
 exact nM (s:=s) hi hr (Lc h hp) rfl
theorem TU{s:Sg}{p:Int}(hp:0<=p)(h:Gs K s)(op k n:Int){arg:V}(ha:Hd K s.ns p arg){names:List V}(hn:∀v∈names,Hd K s.ns p v)(m:Nat):Gf K W s p (nD p op k n arg names m s):=by
 have hk:Hd K s.ns p (names.getD (names.length-1-k.toNat) v0):=by
  rcases dO (names.length-1-k.toNat) names.length with hi|hi;rw[aD,aQ hi];exact hn _ (aI hi);rw[aD,di hi];exact Hd.v0
 have hr:s.ns<+:s.ns:=bK _;unfold nD;repeat' split
 ·exact nM h hr Hd.v0 rfl
 ·exact nM h hr (Hd.leaf (by decide)) rfl
 ·exact nM h hr ha rfl
 ·exact nM h hr hk rfl
 ·exact nM h hr (Lc h hp) rfl
theorem K4{ev:Evl}(h:EvG K W ev)(ms:fA):Hr K W (jY ev ms):=by
 intro fr p f v n s hp hW hv hs;unfold jY;split;exact qh _ hs (bK _) rfl
 ·split;exact qh _ hs (bK _) rfl;exact h _ _ _ _ _ _ _ hp hW hv (by simp) hs
theorem U9(hK:jD K W){ev:Evl}(h:EvG K W ev){call:eT}(hc:Hr K W call)(ms:fA):EvG K W (j3 ev call ms):=by
 intro fr p x arg names n s hp hW ha hns hs;unfold j3;by_cases h0:n=0;rw[ag h0];exact qh _ hs (bK _) rfl;rw[af h0];split;exact TU hp hs _ _ _ ha hns _;exact(h _ _ _ _ _ _ _ hp hW ha hns hs).andThen hK fun v m s' hs' _ hv=>VN hK hc hp hW hs' _ _ _ hv _
 ·split
  ·exact(h _ _ _ _ _ _ _ hp hW ha hns hs).andThen hK fun v m s' hs' hpr hv=>h _ _ _ _ _ _ _ hp hW (ha.more hK hs'.wf hpr) (fun u hu=>by
    rcases aK.1 hu with hu|hu;exact(hns u hu).more hK hs'.wf hpr
    ·simp at hu;rw[hu];exact hv) hs'
  ·exact(h _ _ _ _ _ _ _ hp hW ha hns hs).andThen hK fun v m s' hs' hpr hv=>(h _ _ _ _ _ _ _ hp hW (ha.more hK hs'.wf hpr) (fun u hu=>(hns u hu).more hK hs'.wf hpr) hs').andThen hK fun u m2 s2 hs2 af5 hu=>V3 hK hc hW hs2 _ _ _ _ (hv.more hK hs2.wf af5) hu _
 ·refine(h _ _ _ _ _ _ _ hp hW ha hns hs).andThen hK fun v m s' hs' hpr hv=> ?_;split
  ·split;exact h _ _ _ _ _ _ _ hp hW (ha.more hK hs'.wf hpr) (fun u hu=>(hns u hu).more hK hs'.wf hpr) hs';exact h _ _ _ _ _ _ _ hp hW (ha.more hK hs'.wf hpr) (fun u hu=>(hns u hu).more hK hs'.wf hpr) hs'
  ·exact qh _ hs' (bK _) rfl
theorem RO(hK:jD K W)(ms:fA):∀d,EvG K W (evR ms d):=by
 intro d;induction d with
 |zero=>intro fr p x arg names n s _ _ _ _ hs;exact qh _ hs (bK _) rfl
 |succ d ih=>exact U9 hK ih (K4 ih ms) ms
theorem Ci(hK:jD K W)(ms:fA){s:Sg}(h:Gs K s)(p f:Int)(hW:W p){arg:V}(ha:Hd K s.ns p arg)(fuel:Int):Gs K (gM ms p f arg fuel s).2.2/\s.ns<+:(gM ms p f arg fuel s).2.2.ns/\(∀v,(gM ms p f arg fuel s).1= .ok v->Hd K (gM ms p f arg fuel s).2.2.ns p v)/\∃new,(gM ms p f arg fuel s).2.2.es=s.es++new/\∀e∈new,vO K W (gM ms p f arg fuel s).2.2.ns e:=by
 have hz:∀c:Int,Gs K s/\s.ns<+:s.ns/\(∀v,(Except.error c:Except Int V)= .ok v->Hd K s.ns p v)/\∃new,s.es=s.es++new/\∀e∈new,vO K W s.ns e:=fun c=>⟨h,bK _,fun v e=>(by cases e),[],by simp,by simp⟩;unfold gM;by_cases h1:fuel<0\/2000<fuel\/p<0\/4<=p;rw[ag h1];exact hz _;rw[af h1];split;exact hz _
 ·split;exact hz _;have k:=K4 (RO hK ms 2000) ms 0 p f arg fuel.toNat s (by omega) hW ha h;exact⟨k.st,k.pre,k.val,k.log⟩
end
def Cls(G:Int->Nd->Prop):Prop:=∀p r,G p r->0<=r.plugin->∀r',G p r'<->G r.plugin r'
def Giv(G:Int->Nd->Prop)(ns:List Nd)(p c:Int):Prop:=G p (YS ns c)
theorem lD{G:Int->Nd->Prop}(hC:Cls G):jD (Giv G) (fun _=>True) where
 more hw hp hc h:=by unfold Giv;rw[j4 hw hp hc];exact h
 kid hw hx e h:=by
  obtain⟨j,rfl,hj⟩:=Gr.Zg hx;unfold Giv YS at h|-;rw[e];rw[Gr.Zp hw hj]at h|-;rw[dD,List.getLast?_cons]at h;rw[dD,List.getLast?_cons,List.getLast?_cons];simpa using h
 ask hw ha ka hq cm h:=by unfold Giv;rw[cm.target hw];exact(hC _ _ ka hq _).1 h
 back hw ha ka hq cm h:=by unfold Giv;rw[cm.target hw];exact(hC _ _ ka hq _).2 h
 who _ _ _ _:=trivial
def Beh(p0:Int)(ns:List Nd)(p c:Int):Prop:=(p=p0->(0:Int)∈bN ns c)/\(YS ns c).plugin≠p0
def YM(os:List Bool):Prop:=os[0]?=some false
def Qt(s:Sg)(o:Out):Prop:=YM o.s.os/\o.s.es=s.es
section
variable{p:Int}
end
section
variable{P:List Bool->Prop}
def St(P:List Bool->Prop)(o:Out):Prop:=P o.s.os
def CG(P:List Bool->Prop)(call:eT):Prop:=∀fr p f v n s,P s.os->St P (call fr p f v n s)
def EvS(P:List Bool->Prop)(ev:Evl):Prop:=∀fr p x arg names n s,P s.os->St P (ev fr p x arg names n s)
end
structure Sp where
 kind:Int
 p:Int
 q:Int
 k:Int
 h:Int
 r:Int
 g:Int
 n:Int
 code:Int
 fs:List Ex.V
structure Evt where
 code:Int
 fuel:Int
 v:V
structure Hs where
 s:Sg
 ms:fA
 hs:List (List V)
def bY(p:Int):Bool:=decide (0<=p/\p<4)
def iB(h:Hs)(p:Int)(r:ZH):Evt×Hs:=
 if r.code=0 then(⟨0,0,iw r.num⟩,{h with s:={h.s with ns:=r.ns,os:=r.os},hs:=h.hs.set p.toNat (h.hs.getD p.toNat []++[iw r.num])})else(⟨r.code,0,v0⟩,h)
def RI(o:Except Int V×Int×Sg):Evt:=match o.1 with
 | .ok v=>⟨0,o.2.1,v⟩
 | .error c=>⟨c,o.2.1,v0⟩
def lM(h:Hs)(p k:Int)(v:V):Evt×Hs:=(RI (gM h.ms p k v 2000 h.s),{h with s:=(gM h.ms p k v 2000 h.s).2.2})
def iV(h:Hs)(x:Sp):Evt×Hs:=
 if bY x.p then(if x.code=0 then(⟨0,0,v0⟩,{h with ms:=h.ms.set x.p.toNat (some x.fs),s:={h.s with ks:=h.s.ks.set x.p.toNat v0}})else(⟨x.code,0,v0⟩,h))else(⟨1,0,v0⟩,h)
def kR(h:Hs)(x:Sp):Evt×Hs:=
 if 0<=x.h then(if bY x.p then(match(h.hs.getD x.p.toNat [])[x.h.toNat]? with
  |some v=>lM h x.p x.k v
  |none=>(⟨8,0,v0⟩,h))else(⟨8,0,v0⟩,h))else lM h x.p x.k (iX x.n)
def dL(h:Hs)(x:Sp):Evt×Hs:=
 if x.kind=1 then iV h x
 else if x.kind=2 then(if bY x.p then iB h x.p (fO h.s.ns h.s.os x.k x.r x.g)else(⟨1,0,v0⟩,h))
 else if x.kind=3 then(if bY x.p then iB h x.p (funcOf h.s.ns h.s.os x.q x.k x.r x.g)else(⟨1,0,v0⟩,h))
 else if x.kind=4 then kR h x
 else if x.kind=5 then(⟨(dV h.s.ns h.s.os x.g).code,0,v0⟩,{h with s:={h.s with os:=(dV h.s.ns h.s.os x.g).os}})
 else if x.kind=6 then(⟨(bJ h.s.ns h.s.os).code,0,if(bJ h.s.ns h.s.os).code=0 then iX (bJ h.s.ns h.s.os).num else v0⟩,{h with s:={h.s with os:=(bJ h.s.ns h.s.os).os}})
 else(⟨2,0,v0⟩,h)
def h00:Hs:=⟨⟨[],[],List.replicate 12 0,[],List.replicate 4 v0⟩,List.replicate 4 none,List.replicate 4 []⟩
structure kI(K:List Nd->Int->Int->Prop)(h:Hs):Prop where
 gs:Gs K h.s
 len:h.hs.length=4
 hand:∀q:Nat,q<4->∀v∈h.hs.getD q [],Hd K h.s.ns q v
theorem Hd.mono{K K':List Nd->Int->Int->Prop}(hm:∀ns p c,K ns p c->K' ns p c){ns:List Nd}{p:Int}{v:V}(h:Hd K ns p v):Hd K' ns p v:=fun c hc=>⟨(h c hc).1,hm _ _ _ (h c hc).2⟩
theorem kI.mono{K K':List Nd->Int->Int->Prop}(hm:∀ns p c,K ns p c->K' ns p c){h:Hs}(hi:kI K h):kI K' h:=⟨⟨hi.gs.wf,hi.gs.ln,hi.gs.ks,fun q hq=>(hi.gs.kept q hq).mono hm⟩,hi.len,fun q hq v hv=>(hi.hand q hq v hv).mono hm⟩
theorem He{ns:List Nd}{os:List Bool}{n:Nd}(hw:Wf ns os.length)(hl:ns.length<=80)(hp:n.parent= -1)(hc:0<=n.cell/\n.cell<12)(hq: -1<=n.plugin/\n.plugin<4)(hf:0<=n.func/\n.func<6)(h:(dJ ns os n).code=0):Nx os ns (dJ ns os n).ns/\(dJ ns os n).os=os/\YT (dJ ns os n).ns.length (dJ ns os n).num=true/\Y0 (dJ ns os n).ns (dJ ns os n).num=[n]:=by
 unfold dJ at h|-;by_cases h1:¬(0<=n.Y1/\n.Y1<=15);rw[ag h1]at h;cases h;rw[af h1]at h|-;by_cases h2:n.gate≠ -1/\YT os.length n.gate=false;rw[ag h2]at h;cases h;rw[af h2]at h|-;by_cases h3:ns.length=80;rw[ag h3]at h;cases h;rw[af h3];simp only;have hg:n.gate= -1\/YT os.length n.gate=true:=by
  by_cases e:n.gate= -1;exact .inl e;right;cases ht:YT os.length n.gate;exact absurd ⟨e,ht⟩ h2;rfl
 have hw2:Wf (ns++[n]) os.length:=hw.snoc ⟨by omega,by omega,hg,by omega,by omega,hc.1,hc.2,hq.1,hq.2,hf.1,hf.2⟩;refine⟨⟨hw2,⟨_,rfl⟩,by simp;omega⟩,trivial,by simp[YT];omega, ?_⟩;have hlen:ns.length<(ns++[n]).length:=by simp
 have e1:=Gr.Zp hw2 hlen;have e2:(ns++[n])[ns.length]=n:=by simp
 rw[e2,hp,Gr.ZJ (n:= -1) (by simp[YT])]at e1;exact e1
theorem kI.give{K:List Nd->Int->Int->Prop}{W:Int->Prop}(hK:jD K W){h:Hs}(hi:kI K h){p:Int}(hp:bY p=true){r:ZH}(hx:Nx h.s.os h.s.ns r.ns)(ho:r.os=h.s.os)(ht:YT r.ns.length r.num=true)(hk:K r.ns p r.num)(hc:r.code=0):kI K (iB h p r).2:=by
 unfold iB;rw[ag hc];have hpp:0<=p/\p<4:=by simpa [bY]using hp
 refine⟨⟨by simp only;rw[ho];exact hx.wf,hx.len,hi.gs.ks,fun q hq=>(hi.gs.kept q hq).more hK hx.wf hx.pre⟩,by simp[hi.len],fun q hq v hv=> ?_⟩;simp only at hv|-;rw[aD,dw]at hv;by_cases e:p.toNat=q
 ·have e2:q<h.hs.length:=by rw[hi.len];exact hq
  rw[ag e,ag (by omega)]at hv;simp only[Option.getD_some]at hv;rcases aK.1 hv with hv|hv;rw[e]at hv;exact(hi.hand q hq v hv).more hK hx.wf hx.pre;rw[bD.1 hv];have e3:(q:Int)=p:=(by omega);rw[e3];exact Hd.cap ht hk
 ·rw[af e,<-aD]at hv;exact(hi.hand q hq v hv).more hK hx.wf hx.pre
theorem kI.load{K:List Nd->Int->Int->Prop}{h:Hs}(hi:kI K h)(x:Sp):kI K (iV h x).2:=by
 unfold iV;split
 ·split;refine⟨⟨hi.gs.wf,hi.gs.ln,by simp[hi.gs.ks],fun q hq=> ?_⟩,hi.len,hi.hand⟩;simp only;rw[aD,dw];by_cases e:x.p.toNat=q;have e2:q<h.s.ks.length:=(by rw[hi.gs.ks];exact hq);rw[ag e,ag (by omega)];exact Hd.v0;rw[af e,<-aD];exact hi.gs.kept q hq;exact hi
 ·exact hi
theorem kI.run{K:List Nd->Int->Int->Prop}{W:Int->Prop}(hK:jD K W){h:Hs}(hi:kI K h){p:Int}(hW:W p)(k:Int){v:V}(hv:Hd K h.s.ns p v):kI K (lM h p k v).2/\∃new,(lM h p k v).2.s.es=h.s.es++new/\∀e∈new,vO K W (lM h p k v).2.s.ns e:=by
 obtain⟨k1,k2,_,k4⟩:=Ci hK h.ms hi.gs p k hW hv 2000;exact⟨⟨k1,hi.len,fun q hq v hv=>(hi.hand q hq v hv).more hK k1.wf k2⟩,k4⟩
theorem kI.call{K:List Nd->Int->Int->Prop}{W:Int->Prop}(hK:jD K W){h:Hs}(hi:kI K h)(x:Sp)(hW:W x.p):kI K (kR h x).2/\∃new,(kR h x).2.s.es=h.s.es++new/\∀e∈new,vO K W (kR h x).2.s.ns e:=by
 have hz:kI K h/\∃new,h.s.es=h.s.es++new/\∀e∈new,vO K W h.s.ns e:=⟨hi,[],by simp,by simp⟩;unfold kR;split
 ·split
  ·rename_i hp;have hpp:0<=x.p/\x.p<4:=(by simpa [bY]using hp);split;rename_i v e;have:=hi.hand x.p.toNat (by omega) v (dx e);rw[Int.toNat_of_nonneg hpp.1]at this;exact hi.run hK hW _ this;exact hz
  ·exact hz
 ·exact hi.run hK hW _ (Hd.leaf (by decide))
def vv(tr:List (Sp×Int))(p q:Int):Prop:=∀S:Int->Prop,S p->(∀y∈tr,y.1.kind=3->y.2=0->S y.1.p->S y.1.q)->(∀y∈tr,y.1.kind=3->y.2=0->S y.1.q->S y.1.p)->S q
theorem vv.refl{tr:List (Sp×Int)}{p:Int}:vv tr p p:=fun _ h _ _=>h
theorem vv.link{tr:List (Sp×Int)}{p:Int}{y:Sp×Int}(a:y∈tr)(b:y.1.kind=3)(c:y.2=0)(h:vv tr p y.1.p):vv tr p y.1.q:=fun S h0 h1 h2=>h1 y a b c (h S h0 h1 h2)
theorem vv.back{tr:List (Sp×Int)}{p:Int}{y:Sp×Int}(a:y∈tr)(b:y.1.kind=3)(c:y.2=0)(h:vv tr p y.1.q):vv tr p y.1.p:=fun S h0 h1 h2=>h2 y a b c (h S h0 h1 h2)
theorem vv.trans{tr:List (Sp×Int)}{p q r:Int}(h:vv tr p q)(k:vv tr q r):vv tr p r:=k (fun x=>vv tr p x) h (fun _ a b c ih=> .link a b c ih) fun _ a b c ih=> .back a b c ih
theorem vv.symm{tr:List (Sp×Int)}{p q:Int}(h:vv tr p q):vv tr q p:=h (fun x=>vv tr x p) .refl (fun _ a b c ih=>(vv.back a b c .refl).trans ih) fun _ a b c ih=>(vv.link a b c .refl).trans ih
theorem vv.mono{tr tr':List (Sp×Int)}(hs:∀y∈tr,y∈tr'){p q:Int}(h:vv tr p q):vv tr' p q:=h (fun x=>vv tr' p x) .refl (fun y a b c ih=> .link (hs y a) b c ih) fun y a b c ih=> .back (hs y a) b c ih
def Gvn(tr:List (Sp×Int))(p:Int)(r:Nd):Prop:=∃y∈tr,y.2=0/\vv tr p y.1.p/\(y.1.kind=2/\r=⟨-1,y.1.g,y.1.r,y.1.k, -1,0⟩\/y.1.kind=3/\0<=y.1.q/\r=⟨-1,y.1.g,y.1.r,0,y.1.q,y.1.k⟩)
theorem Gvn.mono{tr tr':List (Sp×Int)}(hs:∀y∈tr,y∈tr'){p:Int}{r:Nd}(h:Gvn tr p r):Gvn tr' p r:=by
 obtain⟨y,h1,h2,h3,h4⟩:=h;exact⟨y,hs y h1,h2,h3.mono hs,h4⟩
theorem uH(tr:List (Sp×Int)):Cls (Gvn tr):=by
 intro p r h hr r';obtain⟨y,h1,h2,h3,h4⟩:=h;rcases h4 with⟨_,rfl⟩|⟨h4,_,rfl⟩;simp at hr;have hl:vv tr p y.1.q:= .link h1 h4 h2 h3;constructor;rintro⟨z,k1,k2,k3,k4⟩;exact⟨z,k1,k2,hl.symm.trans k3,k4⟩;rintro⟨z,k1,k2,k3,k4⟩;exact⟨z,k1,k2,hl.trans k3,k4⟩
def TV(tr:List (Sp×Int))(p cell:Int)(bit:Nat):Prop:=∃y∈tr,y.2=0/\y.1.kind=2/\y.1.k=cell/\y.1.r.toNat.testBit bit=true/\vv tr p y.1.p
theorem Vv{tr:List (Sp×Int)}{ns:List Nd}{g:Nat}{W:Int->Prop}(hw:Wf ns g){e:Wo.ZI}(h:vO (Giv (Gvn tr)) W ns e):∃bit:Nat,(e.right=1/\bit=0\/e.right=2/\bit=1)/\TV tr e.plugin e.cell bit/\YT ns.length e.node=true/\(YS ns e.node).plugin<0/\(YS ns e.node).cell=e.cell/\∀n∈Y0 ns e.node,n.Y1.toNat.testBit bit=true:=by
 obtain⟨_,bit,h1,h2,h3,h4,h5,h6⟩:=h;refine⟨bit,h1, ?_,h2,h3,h4,h6⟩;have hmem:YS ns e.node∈Y0 ns e.node:=by
  obtain⟨j,e1,hj⟩:=Gr.Zg h2;unfold YS;rw[e1,Gr.Zp hw hj,dD,List.getLast?_eq_some_getLast (by simp)];exact List.getLast_mem _
 have hb:=h6 _ hmem;obtain⟨y,k1,k2,k3,k4⟩:=h5;rcases k4 with⟨k4,k5⟩|⟨_,k4,k5⟩;rw[k5]at hb h4;exact⟨y,k1,k2,k4,h4,hb,k3⟩;rw[k5]at h3;simp at h3;omega
theorem uO{ns:List Nd}{os:List Bool}{c r g:Int}(hw:Wf ns os.length)(hl:ns.length<=80)(h:(fO ns os c r g).code=0):Nx os ns (fO ns os c r g).ns/\(fO ns os c r g).os=os/\YT (fO ns os c r g).ns.length (fO ns os c r g).num=true/\Y0 (fO ns os c r g).ns (fO ns os c r g).num=[⟨-1,g,r,c, -1,0⟩]:=by
 unfold fO at h|-;by_cases h1:mV c=true;rw[ag h1]at h|-;exact He hw hl rfl (by simpa [mV]using h1) (by simp) (by simp) h;rw[af h1]at h;cases h
theorem uS{ns:List Nd}{os:List Bool}{p f r g:Int}(hw:Wf ns os.length)(hl:ns.length<=80)(h:(funcOf ns os p f r g).code=0):(0<=p/\p<4)/\Nx os ns (funcOf ns os p f r g).ns/\(funcOf ns os p f r g).os=os/\YT (funcOf ns os p f r g).ns.length (funcOf ns os p f r g).num=true/\Y0 (funcOf ns os p f r g).ns (funcOf ns os p f r g).num=[⟨-1,g,r,0,p,f⟩]:=by
 unfold funcOf at h|-;by_cases h1:Zx p f=true
 ·rw[ag h1]at h|-;have h2:0<=p/\p<4/\0<=f/\f<6:=by simpa [Zx]using h1
  exact⟨⟨h2.1,h2.2.1⟩,He hw hl rfl (by simp) ⟨by simp only;omega,h2.2.1⟩ h2.2.2 h⟩
 ·rw[af h1]at h;cases h
theorem Mw{h:Hs}{p:Int}{r:ZH}(hc:(iB h p r).1.code=0):r.code=0:=by
 unfold iB at hc;split at hc;assumption;exact hc
theorem G7{h:Hs}{p:Int}{r:ZH}(hc:r.code≠0):(iB h p r).2=h:=by unfold iB;rw[af hc]
theorem uM(h:Hs)(p:Int)(r:ZH):(iB h p r).2.s.es=h.s.es:=by unfold iB;split<;>rfl
theorem kI.os{K:List Nd->Int->Int->Prop}{h:Hs}(hi:kI K h){os:List Bool}(ho:h.s.os.length<=os.length):kI K {h with s:={h.s with os:=os}}:=⟨⟨hi.gs.wf.more ho,hi.gs.ln,hi.gs.ks,hi.gs.kept⟩,hi.len,hi.hand⟩
theorem kI.step{K:List Nd->Int->Int->Prop}{W:Int->Prop}(hK:jD K W){h:Hs}(hi:kI K h)(x:Sp)(hW:x.kind=4->W x.p)
 (h2:x.kind=2->∀ns c,YT ns.length c=true->Y0 ns c=[⟨-1,x.g,x.r,x.k, -1,0⟩]->K ns x.p c)
 (h3:x.kind=3->0<=x.q->∀ns c,YT ns.length c=true->Y0 ns c=[⟨-1,x.g,x.r,0,x.q,x.k⟩]->K ns x.p c):
 kI K (dL h x).2/\∃new,(dL h x).2.s.es=h.s.es++new/\∀e∈new,vO K W (dL h x).2.s.ns e:=by
 have hz:∀{h':Hs},kI K h'->h'.s.es=h.s.es->kI K h'/\∃new,h'.s.es=h.s.es++new/\∀e∈new,vO K W h'.s.ns e:=fun a b=>⟨a,[],by simp[b],by simp⟩;unfold dL;by_cases k1:x.kind=1
 ·rw[ag k1];refine hz (hi.load x) ?_;unfold iV;repeat' split
  all_goals rfl
 rw[af k1];by_cases k2:x.kind=2
 ·rw[ag k2];split;rename_i hp;by_cases hc:(fO h.s.ns h.s.os x.k x.r x.g).code=0;obtain⟨a1,a2,a3,a4⟩:=uO hi.gs.wf hi.gs.ln hc;exact hz (hi.give hK hp a1 a2 a3 (h2 k2 _ _ a3 a4) hc) (uM _ _ _);rw[G7 hc];exact hz hi rfl;exact hz hi rfl
 rw[af k2];by_cases k3:x.kind=3
 ·rw[ag k3];split;rename_i hp;by_cases hc:(funcOf h.s.ns h.s.os x.q x.k x.r x.g).code=0;obtain⟨a0,a1,a2,a3,a4⟩:=uS hi.gs.wf hi.gs.ln hc;exact hz (hi.give hK hp a1 a2 a3 (h3 k3 a0.1 _ _ a3 a4) hc) (uM _ _ _);rw[G7 hc];exact hz hi rfl;exact hz hi rfl
 rw[af k3];by_cases k4:x.kind=4;rw[ag k4];exact hi.call hK x (hW k4);rw[af k4];by_cases k5:x.kind=5;rw[ag k5];exact hz (hi.os (by unfold dV;split<;>simp)) rfl;rw[af k5];by_cases k6:x.kind=6;rw[ag k6];exact hz (hi.os (by unfold bJ;split<;>simp)) rfl;rw[af k6];exact hz hi rfl
theorem Ee{ns:List Nd}{c:Int}{n:Nd}(h:Y0 ns c=[n]):YS ns c=n:=by unfold YS;rw[h];rfl
theorem rA{tr:List (Sp×Int)}{h:Hs}(hi:kI (Giv (Gvn tr)) h)(x:Sp):kI (Giv (Gvn (tr++[(x,(dL h x).1.code)]))) (dL h x).2/\∃new,(dL h x).2.s.es=h.s.es++new/\∀e∈new,vO (Giv (Gvn tr)) (fun _=>True) (dL h x).2.s.ns e:=by
 have hsub:∀y∈tr,y∈tr++[(x,(dL h x).1.code)]:=fun y hy=>aK.2 (.inl hy);have hm:∀ns p c,Giv (Gvn tr) ns p c->Giv (Gvn (tr++[(x,(dL h x).1.code)])) ns p c:=fun ns p c k=>Gvn.mono hsub k;by_cases hk:(x.kind=2\/x.kind=3)/\(dL h x).1.code=0
 ·obtain⟨hk,hc⟩:=hk;have hmem:(x,(dL h x).1.code)∈tr++[(x,(dL h x).1.code)]:=by simp
  obtain⟨a,new,b,_⟩:=(hi.mono hm).step (lD (uH _)) x (fun _=>trivial) (fun k ns c _ e=>⟨_,hmem,hc,.refl,.inl ⟨k,Ee e⟩⟩) (fun k q ns c _ e=>⟨_,hmem,hc,.refl,.inr ⟨k,q,Ee e⟩⟩);have hes:(dL h x).2.s.es=h.s.es:=by
   unfold dL;rcases hk with k|k
   ·rw[af (by omega),ag k];split;exact uM _ _ _;rfl
   ·rw[af (by omega),af (by omega),ag k];split;exact uM _ _ _;rfl
  exact⟨a,[],by rw[hes];simp,by simp⟩
 ·by_cases k:x.kind=2\/x.kind=3
  ·have hsame:(dL h x).2=h:=by
    have hc:(dL h x).1.code≠0:=fun e=>hk ⟨k,e⟩;have gb:∀r:ZH,(iB h x.p r).1.code≠0->(iB h x.p r).2=h:=fun r hr=>by
     unfold iB at hr|-;split at hr;exact absurd rfl hr;rename_i e;rw[af e]
    unfold dL at hc|-;rcases k with k|k
    ·rw[af (by omega),ag k]at hc|-;split at hc;rename_i e;rw[ag e];exact gb _ hc;rename_i e;rw[af e]
    ·rw[af (by omega),af (by omega),ag k]at hc|-;split at hc;rename_i e;rw[ag e];exact gb _ hc;rename_i e;rw[af e]
   rw[hsame];exact⟨hi.mono hm,[],by simp,by simp⟩
  ·obtain⟨a,b⟩:=hi.step (lD (uH _)) x (fun _=>trivial) (fun e=>absurd (.inl e) k) (fun e=>absurd (.inr e) k);exact⟨a.mono hm,b⟩
structure Yp(p0:Int)(x:Sp):Prop where
 give:x.p=p0->x.kind=2\/x.kind=3->x.g=0
 link:x.kind=3->x.q≠p0
theorem L9{ev:Evl}(h:PQ ev){call:eT}(hc:vQ call)(ms:fA){fr:Nat}{p:Int}{x:Ex.V}{arg:V}{names:List V}{n:Nat}{s:Sg}(ha:arg.check=0)(hns:∀v∈names,v.check=0)(hs:Inv s)(h0:n≠0):(j3 ev call ms fr p x arg names n s).left<=n-1:=by
 have key:su s (n-1) (j3 ev call ms fr p x arg names n s):=by
  unfold j3;rw[af h0];split;exact(xV hs _ _ _ _ _ ha _ hns _).one;exact(h _ _ _ _ _ _ _ ha hns hs).abd fun v hv m s' hs'=>AO hc hs' _ _ _ _ _ hv _
  ·split
   ·exact((h _ _ _ _ _ _ _ ha hns hs).then fun v hv m s' hs'=>h _ _ _ _ _ _ _ ha (fun u hu=>by
     rcases aK.1 hu with hu|hu;exact hns u hu
     ·simp at hu;rw[hu];exact hv) hs').one
   ·exact(h _ _ _ _ _ _ _ ha hns hs).abd fun v _ m s' hs'=>(h _ _ _ _ _ _ _ ha hns hs').abd fun u hu m2 s2 hs2=>Bg hc hs2 _ _ _ _ _ _ _ hu _
  ·refine((h _ _ _ _ _ _ _ ha hns hs).then fun v _ m s' hs'=> ?_).one;split
   ·split;exact h _ _ _ _ _ _ _ ha hns hs';exact h _ _ _ _ _ _ _ ha hns hs'
   ·exact iO _ hs' (aj _) (aj _)
 exact key.left
theorem Sy(ms:fA){s:Sg}(hs:Inv s)(p f:Int)(arg:V)(fuel:Int)(hf:0<fuel):Inv (gM ms p f arg fuel s).2.2/\(∀v,(gM ms p f arg fuel s).1= .ok v->v.check=0)/\0<=(gM ms p f arg fuel s).2.1/\((gM ms p f arg fuel s).2.1=0->(gM ms p f arg fuel s).2.2=s/\∃c,c≠0/\(gM ms p f arg fuel s).1= .error c):=by
 have hz:∀c:Int,c≠0->Inv s/\(∀v,(Except.error c:Except Int V)= .ok v->v.check=0)/\(0:Int)<=0/\((0:Int)=0->s=s/\∃d,d≠0/\(Except.error c:Except Int V)= .error d):=fun c hc=>⟨hs,fun v e=>(by cases e),Int.le_refl _,fun _=>⟨rfl,c,hc,rfl⟩⟩;unfold gM;by_cases h1:fuel<0\/2000<fuel\/p<0\/4<=p;rw[ag h1];exact hz _ (by decide);rw[af h1];by_cases h2:(iD ms p f).isNone=true;rw[ag h2];exact hz _ (by decide);rw[af h2];by_cases h3:arg.check≠0;rw[ag h3];exact hz _ h3;rw[af h3];have h3':arg.check=0:=by
  by_cases e:arg.check=0;exact e;exact absurd e h3
 have k:=wz (Fa ms 2000) ms 0 p f arg fuel.toNat s h3' hs;have hl:(jY (evR ms 2000) ms 0 p f arg fuel.toNat s).left<=fuel.toNat-1:=by
  unfold jY;rw[af (by decide)];cases e:iD ms p f with
  |none=>rw[e]at h2;simp at h2
  |some x=>exact L9 (Fa ms 1999) (wz (Fa ms 1999) ms) ms h3' (by simp) hs (by omega)
 refine⟨k.inv,k.val, ?_,fun e=> ?_⟩;simp only;omega;simp only at e;omega
structure HOk(h:Hs):Prop where
 inv:Inv h.s
 ms:h.ms.length=4
 len:h.hs.length=4
 hand:∀q:Nat,q<4->∀v∈h.hs.getD q [],v.check=0
theorem HOk.give{h:Hs}(hi:HOk h)(p:Int){r:ZH}(hr:r.code=0->Nx h.s.os h.s.ns r.ns/\r.os=h.s.os/\0<=r.num):HOk (iB h p r).2:=by
 unfold iB;split;rename_i hc;obtain⟨hx,ho,hn⟩:=hr hc;refine⟨⟨by simp only;rw[ho];exact hx.wf,hx.len,by simp only;rw[ho];exact hi.inv.lg,hi.inv.cs,hi.inv.ks,hi.inv.good⟩,hi.ms,by simp[hi.len],fun q hq v hv=> ?_⟩;simp only at hv;rw[aD,dw]at hv;by_cases e:p.toNat=q;have e2:q<h.hs.length:=(by rw[hi.len];exact hq);rw[ag e,ag (by omega)]at hv;simp only[Option.getD_some]at hv;rcases aK.1 hv with hv|hv;rw[e]at hv;exact hi.hand q hq v hv;rw[bD.1 hv];exact C8 hn;rw[af e,<-aD]at hv;exact hi.hand q hq v hv;exact hi
theorem Df{n:Nat}{c:Int}(h:YT n c=true):0<=c:=by simp[YT]at h;omega
theorem HOk.run{h:Hs}(hi:HOk h)(p k:Int)(v:V):HOk (lM h p k v).2:=⟨(Sy h.ms hi.inv p k v 2000 (by decide)).1,hi.ms,hi.len,hi.hand⟩
theorem HOk.step{h:Hs}(hi:HOk h)(x:Sp):HOk (dL h x).2:=by
 unfold dL;by_cases k1:x.kind=1
 ·rw[ag k1];unfold iV;split
  ·split;refine⟨⟨hi.inv.wf,hi.inv.ln,hi.inv.lg,hi.inv.cs,by simp[hi.inv.ks],fun v hv=> ?_⟩,by simp[hi.ms],hi.len,hi.hand⟩;rcases List.mem_or_eq_of_mem_set hv with hv|hv;exact hi.inv.good v hv;rw[hv];exact iN;exact hi
  ·exact hi
 rw[af k1];by_cases k2:x.kind=2
 ·rw[ag k2];split
  ·exact hi.give _ fun e=>by
    obtain⟨a1,a2,a3,_⟩:=uO hi.inv.wf hi.inv.ln e;exact⟨a1,a2,Df a3⟩
  ·exact hi
 rw[af k2];by_cases k3:x.kind=3
 ·rw[ag k3];split
  ·exact hi.give _ fun e=>by
    obtain⟨_,a1,a2,a3,_⟩:=uS hi.inv.wf hi.inv.ln e;exact⟨a1,a2,Df a3⟩
  ·exact hi
 rw[af k3];by_cases k4:x.kind=4
 ·rw[ag k4];unfold kR;repeat' split
  all_goals first
   |exact hi
   |exact hi.run _ _ _
 rw[af k4];by_cases k5:x.kind=5
 ·rw[ag k5];have e:(dV h.s.ns h.s.os x.g).os.length=h.s.os.length:=by unfold dV;split<;>simp
  exact⟨⟨by simp only;rw[e];exact hi.inv.wf,hi.inv.ln,by simp only;rw[e];exact hi.inv.lg,hi.inv.cs,hi.inv.ks,hi.inv.good⟩,hi.ms,hi.len,hi.hand⟩
 rw[af k5];by_cases k6:x.kind=6
 ·rw[ag k6];have hl:=hi.inv.lg;have e:h.s.os.length<=(bJ h.s.ns h.s.os).os.length/\(bJ h.s.ns h.s.os).os.length<=20:=by
   unfold bJ;split;exact⟨aj _,hl⟩;simp;omega
  exact⟨⟨hi.inv.wf.more e.1,hi.inv.ln,e.2,hi.inv.cs,hi.inv.ks,hi.inv.good⟩,hi.ms,hi.len,hi.hand⟩
 rw[af k6];exact hi
theorem Yz:HOk h00:=by
 refine⟨⟨Gr.Wf.nil _,by simp[h00],by simp[h00],by simp[h00],by simp[h00],fun v hv=> ?_⟩,by simp[h00],by simp[h00],fun q hq v hv=> ?_⟩;rw[List.eq_of_mem_replicate hv];exact iN
 ·have:(h00.hs.getD q [])=[]:=by
   have:q=0\/q=1\/q=2\/q=3:=(by omega);rcases this with rfl|rfl|rfl|rfl<;>rfl
  rw[this]at hv;simp at hv
