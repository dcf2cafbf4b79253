/- Parts. -/
import Derived.Test.YtpeakfcbihoknaaGreatDoorUP0
import Derived.Test.YtpeakfcbihoknaaGreatDoorUE0
import Derived.Test.YtpeakfcbihoknaaGreatDoorUW0
open Go.ChangeShapes Go.WideShapes Go.ChangeAt Go.RowKit
namespace Go.Proofs.YtpeakfcbihoknaaGreatDoor
open Gr (Nd ZH nd0 YT aS dJ bJ dV bS Y0 bN eX YS Wf jg)
structure Sg where
 ns:List Nd
 os:List Bool
 cs:List Int
 es:List Wo.ZI
 ks:List V
structure Out where
 got:Except Int V
 left:Nat
 s:Sg
def bad(c:Int)(left:Nat)(s:Sg):Out:=⟨.error c,left,s⟩
def okV(v:V)(left:Nat)(s:Sg):Out:=⟨.ok v,left,s⟩
def iX(n:Int):V:=⟨1,n,[]⟩
def iw(n:Int):V:=⟨4,n,[]⟩
def nP(k a b:Int):Int:=
 if k=1 then wrap64 (a+b)else if k=2 then wrap64 (a-b)else if k=3 then wrap64 (a*b)
 else if k=4 then(if a<b then 1 else 0)else if k=5 then(if a=b then 1 else 0)else 0
abbrev fA:=List (Option (List Ex.V))
def iD(ms:fA)(p f:Int):Option Ex.V:=if 0<=p/\0<=f then((ms.getD p.toNat none).bind fun l=>l[f.toNat]?)else none
def iG(s:Sg)(v:V)(bit:Nat):Except Int Int:=
 if v.kind=4 then(if(bS s.ns s.os v.n).testBit bit then(if 0<=(YS s.ns v.n).plugin then .error 2 else .ok (YS s.ns v.n).cell)else .error 9)else .error 2
def jf(r:ZH)(left:Nat)(s:Sg):Out:=if r.code=0 then okV (iw r.num) left {s with ns:=r.ns,os:=r.os}else bad r.code left {s with ns:=r.ns,os:=r.os}
abbrev eT:=Nat->Int->Int->V->Nat->Sg->Out
def fB(v:V)(gs:List Int)(left:Nat)(s:Sg):Out:=
 if(fK s.ns s.os gs v).2.1=0 then okV (fK s.ns s.os gs v).1 left {s with ns:=(fK s.ns s.os gs v).2.2}else bad (fK s.ns s.os gs v).2.1 left {s with ns:=(fK s.ns s.os gs v).2.2}
def Out.then(o:Out)(f:V->Nat->Sg->Out):Out:=match o.got with
 | .ok v=>f v o.left o.s
 | .error _=>o
def mU(call:eT)(ms:fA)(fr:Nat)(a b:V)(left:Nat)(s:Sg):Out:=
 if a.kind=4 then
  (if(bS s.ns s.os a.n).testBit 3 then
    (if(YS s.ns a.n).plugin<0 then bad 2 left s
     else if(iD ms (YS s.ns a.n).plugin (YS s.ns a.n).func).isNone then bad 8 left s
     else if fr=20 then bad 4 left s
     else(fB b (bN s.ns a.n) left s).then fun x left' s'=>(call fr (YS s.ns a.n).plugin (YS s.ns a.n).func x left' s').then fun y ZO s2=>fB y (bN s.ns a.n) ZO s2)
   else bad 9 left s)
 else bad 2 left s
def jy(call:eT)(ms:fA)(fr:Nat)(p op k:Int)(a b:V)(left:Nat)(s:Sg):Out:=
 if op=6 then(if a.kind=1/\b.kind=1 then okV (iX (nP k a.n b.n)) left s else bad 2 left s)
 else if op=8 then(if(⟨2,0,[a,b]⟩:V).check=0 then okV ⟨2,0,[a,b]⟩ left s else bad 3 left s)
 else if op=14 then
  (if a.kind=4/\b.kind=1 then(match iG s a 1 with
    | .error c=>bad c left s
    | .ok c=>okV b left {s with cs:=s.cs.set c.toNat b.n,es:=s.es++[⟨p,c,2,a.n⟩]})
   else bad 2 left s)
 else mU call ms fr a b left s
def gQ(call:eT)(fr:Nat)(p op k:Int)(a:V)(left:Nat)(s:Sg):Out:=
 if op=9 then(if a.kind=2 then okV (a.l.getD 0 v0) left s else bad 2 left s)
 else if op=10 then(if a.kind=2 then okV (a.l.getD 1 v0) left s else bad 2 left s)
 else if op=11 then(if(⟨3,p,[a]⟩:V).check=0 then okV ⟨3,p,[a]⟩ left s else bad 3 left s)
 else if op=12 then(if a.kind=3 then(if a.n=p then okV (a.l.getD 0 v0) left s else bad 10 left s)else bad 2 left s)
 else if op=13 then(match iG s a 0 with
  | .error c=>bad c left s
  | .ok c=>okV (iX (s.cs.getD c.toNat 0)) left {s with es:=s.es++[⟨p,c,1,a.n⟩]})
 else if op=15 then(if a.kind=4 then jf (aS s.ns s.os a.n k (-1)) left s else bad 2 left s)
 else if op=16 then
  (if a.kind=4 then
    (if(bJ s.ns s.os).code=0 then(jf (aS s.ns (bJ s.ns s.os).os a.n 15 (bJ s.ns s.os).num) left {s with os:=(bJ s.ns s.os).os}).then fun v left' s'=>okV ⟨2,0,[v,⟨5,(bJ s.ns s.os).num,[]⟩]⟩ left' s'
     else bad (bJ s.ns s.os).code left s)
   else bad 2 left s)
 else if op=17 then(if a.kind=5 then okV v0 left {s with os:=(dV s.ns s.os a.n).os}else bad 2 left s)
 else if op=18 then call fr p k a left s
 else okV (s.ks.getD p.toNat v0) left {s with ks:=s.ks.set p.toNat a}
def nD(p op k n:Int)(arg:V)(names:List V)(left:Nat)(s:Sg):Out:=
 if op=1 then okV v0 left s
 else if op=2 then okV (iX n) left s
 else if op=3 then okV arg left s
 else if op=4 then okV (names.getD (names.length-1-k.toNat) v0) left s
 else okV (s.ks.getD p.toNat v0) left s
abbrev Evl:=Nat->Int->Ex.V->V->List V->Nat->Sg->Out
def j3(ev:Evl)(call:eT)(ms:fA):Evl:=fun fr p x arg names left s=>
 if left=0 then bad 12 0 s
 else match x.l with
  |[]=>nD p x.kind x.k x.n arg names (left-1) s
  |[a]=>(ev fr p a arg names (left-1) s).then fun v left' s'=>gQ call fr p x.kind x.k v left' s'
  |[a,b]=>
   if x.kind=5 then(ev fr p a arg names (left-1) s).then fun v left' s'=>ev fr p b arg (names++[v]) left' s'
   else(ev fr p a arg names (left-1) s).then fun v left' s'=>(ev fr p b arg names left' s').then fun u ZO s2=>jy call ms fr p x.kind x.k v u ZO s2
  |a::b::c::_=>(ev fr p a arg names (left-1) s).then fun v left' s'=>if v.kind=1 then(if v.n≠0 then ev fr p b arg names left' s' else ev fr p c arg names left' s')else bad 2 left' s'
def jY(ev:Evl)(ms:fA):eT:=fun fr p f arg left s=>
 if fr=20 then bad 4 left s else match iD ms p f with
  |none=>bad 8 left s
  |some x=>ev (fr+1) p x arg [] left s
def evR(ms:fA):Nat->Evl
 |0=>fun _ _ _ _ _ _ s=>bad 12 0 s
 |d+1=>j3 (evR ms d) (jY (evR ms d) ms) ms
def gM(ms:fA)(p f:Int)(arg:V)(fuel:Int)(s:Sg):Except Int V×Int×Sg:=
 if fuel<0\/2000<fuel\/p<0\/4<=p then(.error 1,0,s)
 else if(iD ms p f).isNone then(.error 8,0,s)
 else if arg.check≠0 then(.error arg.check,0,s)
 else((jY (evR ms 2000) ms 0 p f arg fuel.toNat s).got,fuel-(jY (evR ms 2000) ms 0 p f arg fuel.toNat s).left,(jY (evR ms 2000) ms 0 p f arg fuel.toNat s).s)
structure Nx(os:List Bool)(ns ns':List Nd):Prop where
 wf:Wf ns' os.length
 pre:ns<+:ns'
 len:ns'.length<=80
theorem Nx.refl{os:List Bool}{ns:List Nd}(h:Wf ns os.length)(hl:ns.length<=80):Nx os ns ns:=⟨h,bK _,hl⟩
theorem Nx.trans{os:List Bool}{a b c:List Nd}(h:Nx os a b)(k:Nx os b c):Nx os a c:=⟨k.wf,h.pre.trans k.pre,k.len⟩
theorem ow{os:List Bool}{ns:List Nd}(h:Wf ns os.length)(hl:ns.length<=80)(p r g:Int):Nx os ns (aS ns os p r g).ns/\((aS ns os p r g).code=0->0<=(aS ns os p r g).num)/\0<=(aS ns os p r g).code:=by
 unfold aS;by_cases h1:YT ns.length p
 ·rw[ag h1];unfold dJ;by_cases h2:¬(0<=r/\r<=15);rw[ag h2];exact⟨Nx.refl h hl,fun e=>by simp at e,by simp⟩
  ·rw[af h2];by_cases h3:g≠ -1/\YT os.length g=false;rw[ag h3];exact⟨Nx.refl h hl,fun e=>by simp at e,by simp⟩
   ·rw[af h3];by_cases h4:ns.length=80;rw[ag h4];exact⟨Nx.refl h hl,fun e=>by simp at e,by simp⟩
    ·rw[af h4];obtain⟨j,rfl,hj⟩:=Gr.Zg h1;refine⟨⟨Wf.snoc h ?_,⟨_,rfl⟩,by simp;omega⟩,fun _=>by simp,by simp⟩;constructor;simp only;omega;simp only;omega
     ·simp only;by_cases e:g= -1;exact .inl e
      ·right;cases e2:YT os.length g with
       |true=>rfl
       |false=>exact absurd ⟨e,e2⟩ h3
     all_goals first|(simp only;omega)|simp
 ·rw[af h1];exact⟨Nx.refl h hl,fun e=>by simp at e,by simp⟩
theorem Hy{os:List Bool}(gs:List Int):∀{ns:List Nd}(_:Wf ns os.length)(_:ns.length<=80)(x:Int),Nx os ns (fD os ns x gs).2.2/\(0<=x->(fD os ns x gs).2.1=0->0<=(fD os ns x gs).1):=by
 induction gs with
 |nil=>intro ns h hl x;exact⟨Nx.refl h hl,fun h _=>h⟩
 |cons g gs ih=>
  intro ns h hl x;obtain⟨h1,h2,_⟩:=ow h hl x 15 g;rw[fD];by_cases e:(aS ns os x 15 g).code=0;rw[ag e];obtain⟨k1,k2⟩:=ih h1.wf h1.len (aS ns os x 15 g).num;exact⟨h1.trans k1,fun _=>k2 (h2 e)⟩;rw[af e];exact⟨h1,fun _ e2=>absurd e2 e⟩
def Qy(os:List Bool)(gs:List Int)(v:V):Prop:=∀ns:List Nd,Wf ns os.length->ns.length<=80->v.fault=0->Nx os ns (v.handed os gs ns).2.2/\((v.handed os gs ns).2.1=0->(v.handed os gs ns).1.fault=0/\(v.handed os gs ns).1.size=v.size)
theorem Jt{os:List Bool}{gs:List Int}(l:List V):(∀x∈l,Qy os gs x)->∀ns:List Nd,Wf ns os.length->ns.length<=80->(∀x∈l,x.fault=0)->Nx os ns (YY os gs l ns).2.2/\((YY os gs l ns).2.1=0->(YY os gs l ns).1.length=l.length/\first (Zh (YY os gs l ns).1)=0/\sizes (YY os gs l ns).1=sizes l):=by
 induction l with
 |nil=>intro _ ns h hl _;rw[jv];exact⟨Nx.refl h hl,fun _=>⟨rfl,by rw[iI];rfl,rfl⟩⟩
 |cons x l ih=>
  intro hx ns h hl hf;obtain⟨h1,h2⟩:=hx x (by simp) ns h hl (hf x (by simp));rw[jE];by_cases e:(x.handed os gs ns).2.1=0
  ·rw[ag e];obtain⟨k1,k2⟩:=ih (fun y hy=>hx y (by simp[hy])) _ h1.wf h1.len (fun y hy=>hf y (by simp[hy]));obtain⟨h3,h4⟩:=h2 e;by_cases e2:(YY os gs l (x.handed os gs ns).2.2).2.1=0
   ·rw[ag e2];obtain⟨k3,k4,k5⟩:=k2 e2;refine⟨h1.trans k1,fun _=>⟨by simp[k3], ?_,by rw[YV,YV,h4,k5]⟩⟩;rw[gm,nX];have:first (x.handed os gs ns).1.pre=0:=h3
    rw[ag this];exact k4
   ·rw[af e2];exact⟨h1.trans k1,fun h=>absurd h e2⟩
  ·rw[af e];exact⟨h1,fun h=>absurd h e⟩
theorem wX{v:V}(h:v.fault=0):v.YW=0/\first (Zh v.l)=0:=by
 have h1:=xW h;rw[ny,ag h1]at h;exact⟨h1,h⟩
theorem Af{v:V}(h:v.fault=0):∀x∈v.l,x.fault=0:=fun x hx=>by
 obtain⟨i,hi,rfl⟩:=bT hx;exact ui h i hi
theorem GH{k n n':Int}{l l':List V}(h:(⟨k,n,l⟩:V).YW=0)(hl:l'.length=l.length)(hn:n'=n\/(k=4/\0<=n')):(⟨k,n',l'⟩:V).YW=0:=by
 unfold V.YW at h|-;simp only at h|-;rw[hl];cases hp:jc k with
 |none=>rw[hp]at h;simp at h
 |some m=>
  rw[hp]at h;simp only at h|-;rcases hn with rfl|⟨rfl,hn⟩;exact h;by_cases h1:l.length≠m;rw[ag h1]at h;cases h;rw[af h1];rw[af (by omega),af (by omega)]
theorem Vb{n:Int}{l:List V}(h:(⟨4,n,l⟩:V).YW=0):0<=n:=by
 unfold V.YW at h;rw[show jc (⟨4,n,l⟩:V).kind=some 0 from rfl]at h;simp only at h;by_cases h1:l.length≠0;rw[ag h1]at h;cases h;rw[af h1,af (by omega)]at h;by_cases h2:n<0;rw[ag ⟨by simp,h2⟩]at h;cases h;omega
theorem Wl(os:List Bool)(gs:List Int)(v:V):Qy os gs v:=by
 induction v using V.aan with
 |h v ih=>
  intro ns h hl hf;obtain⟨hf1,hf2⟩:=wX hf;have hk:=Af hf;rw[qH];obtain⟨kind,n,l⟩:=v;simp only at ih hk hf2|-;have hn:Nx os ns (kP os gs ⟨kind,n,l⟩ ns).2.2/\((kP os gs ⟨kind,n,l⟩ ns).2.1=0->(kP os gs ⟨kind,n,l⟩ ns).1=n\/(kind=4/\0<=(kP os gs ⟨kind,n,l⟩ ns).1)):=by
   unfold kP;by_cases h4:kind=4;subst h4;rw[ag rfl];obtain⟨t1,t2⟩:=Hy gs h hl n;exact⟨t1,fun e=> .inr ⟨rfl,t2 (Vb hf1) e⟩⟩;rw[af h4];exact⟨Nx.refl h hl,fun _=> .inl rfl⟩
  obtain⟨n1,n2⟩:=hn;generalize kP os gs ⟨kind,n,l⟩ ns=D at n1 n2|-;by_cases e:D.2.1=0;rw[ag e];obtain⟨k1,k2⟩:=Jt l ih D.2.2 n1.wf n1.len hk;by_cases e2:(YY os gs l D.2.2).2.1=0;rw[ag e2];obtain⟨k3,k4,k5⟩:=k2 e2;refine⟨n1.trans k1,fun _=>⟨?_,by rw[size_eq,size_eq];simp only;rw[k5]⟩⟩;rw[ny,ag (GH hf1 k3 (n2 e))];exact k4;rw[af e2];exact⟨n1.trans k1,fun h=>absurd h e2⟩;rw[af e];exact⟨n1,fun h=>absurd h e⟩
theorem tO{v:V}(h:v.fault=0)(hs:v.size<=40):v.check=0:=by unfold V.check;rw[af (by omega)];exact h
theorem qQ{os:List Bool}{gs:List Int}{ns:List Nd}{v:V}(h:Wf ns os.length)(hl:ns.length<=80):Nx os ns (fK ns os gs v).2.2/\((fK ns os gs v).2.1=0->(fK ns os gs v).1.check=0):=by
 unfold fK;by_cases hm:lu ns os v=0
 ·rw[ag hm];have hc:v.check=0:=by
   unfold lu at hm;by_cases h1:v.check=0;exact h1;rw[af h1]at hm;exact absurd hm h1
  obtain⟨k1,k2⟩:=Wl os gs v ns h hl (jX hc);exact⟨k1,fun e=>tO (k2 e).1 (by rw[(k2 e).2];exact fV hc)⟩
 ·rw[af hm];exact⟨Nx.refl h hl,fun e=>absurd e hm⟩
theorem vS(ns:List Nd)(os:List Bool)(p r g:Int):(aS ns os p r g).os=os:=by
 unfold aS dJ;repeat' split
 all_goals rfl
structure Inv(s:Sg):Prop where
 wf:Wf s.ns s.os.length
 ln:s.ns.length<=80
 lg:s.os.length<=20
 cs:s.cs.length=12
 ks:s.ks.length=4
 good:∀v∈s.ks,v.check=0
structure iU(s:Sg)(n:Nat)(o:Out):Prop where
 inv:Inv o.s
 val:∀v,o.got= .ok v->v.check=0
 left:o.left<=n
 log:o.s.es.length+o.left<=s.es.length+n
structure su(s:Sg)(n:Nat)(o:Out):Prop where
 inv:Inv o.s
 val:∀v,o.got= .ok v->v.check=0
 left:o.left<=n
 log:o.s.es.length+o.left<=s.es.length+n+1
theorem iU.one{s:Sg}{n:Nat}{o:Out}(h:iU s n o):su s n o:=⟨h.inv,h.val,h.left,by have:=h.log;omega⟩
theorem iO{s s':Sg}{n m:Nat}(c:Int)(h:Inv s')(hm:m<=n)(hl:s'.es.length+m<=s.es.length+n):iU s n (bad c m s'):=⟨h,fun v e=>by simp[bad]at e,hm,hl⟩
theorem jh{s s':Sg}{n m:Nat}{v:V}(hv:v.check=0)(h:Inv s')(hm:m<=n)(hl:s'.es.length+m<=s.es.length+n):iU s n (okV v m s'):=⟨h,fun u e=>by simp only[okV,ed]at e;rw[<-e];exact hv,hm,hl⟩
theorem FX{s s':Sg}{n m:Nat}{v:V}(hv:v.check=0)(h:Inv s')(hm:m<=n)(hl:s'.es.length+m<=s.es.length+n+1):su s n (okV v m s'):=⟨h,fun u e=>by simp only[okV,ed]at e;rw[<-e];exact hv,hm,hl⟩
theorem iU.then{s:Sg}{n:Nat}{o:Out}{f:V->Nat->Sg->Out}(h:iU s n o)(hf:∀v,v.check=0->∀m s',Inv s'->iU s' m (f v m s')):iU s n (o.then f):=by
 unfold Out.then
 cases e:o.got with
 |error c=>exact h
 |ok v=>
  have k:=hf v (h.val v e) o.left o.s h.inv;simp only;exact⟨k.inv,k.val,aF k.left h.left,by have:=k.log;have:=h.log;omega⟩
theorem iU.abd{s:Sg}{n:Nat}{o:Out}{f:V->Nat->Sg->Out}(h:iU s n o)(hf:∀v,v.check=0->∀m s',Inv s'->su s' m (f v m s')):su s n (o.then f):=by
 unfold Out.then
 cases e:o.got with
 |error c=>exact h.one
 |ok v=>
  have k:=hf v (h.val v e) o.left o.s h.inv;simp only;exact⟨k.inv,k.val,aF k.left h.left,by have:=k.log;have:=h.log;omega⟩
theorem rz{s:Sg}(h:Inv s)(v:V)(gs:List Int)(n:Nat):iU s n (fB v gs n s):=by
 obtain⟨k1,k2⟩:=qQ (gs:=gs) (v:=v) h.wf h.ln;have hi:Inv {s with ns:=(fK s.ns s.os gs v).2.2}:=⟨k1.wf,k1.len,h.lg,h.cs,h.ks,h.good⟩;unfold fB;by_cases e:(fK s.ns s.os gs v).2.1=0;rw[ag e];exact jh (k2 e) hi (aj _) (aj _);rw[af e];exact iO _ hi (aj _) (aj _)
theorem iN:v0.check=0:=by decide
theorem ym(n:Int):(iX n).check=0:=tO (by rw[ny];simp[iX,V.YW,jc,iI,first]) (by simp[iX,j6,YX])
theorem C8{n:Int}(h:0<=n):(iw n).check=0:=tO (by rw[ny];simp[iw,V.YW,jc,iI,first];omega) (by simp[iw,j6,YX])
theorem OI{v:V}(h:v.check=0)(x:V)(hx:x∈v.l):x.check=0:=tO (Af (jX h) x hx) (by have:=fV h;have:=uz hx;have:=size_eq v;omega)
theorem vJ{v:V}(h:v.check=0)(i:Nat):(v.l.getD i v0).check=0:=by
 rcases dO i v.l.length with hi|hi;rw[aD,aQ hi];exact OI h _ (aI hi);rw[aD,di hi];exact iN
theorem oP{s:Sg}(h:Inv s)(i:Nat):(s.ks.getD i v0).check=0:=by
 rcases dO i s.ks.length with hi|hi;rw[aD,aQ hi];exact h.good _ (aI hi);rw[aD,di hi];exact iN
def vQ(call:eT):Prop:=∀fr p f v n s,v.check=0->Inv s->iU s n (call fr p f v n s)
theorem MX{s:Sg}{os':List Bool}(h:Inv s)(ho:s.os.length<=os'.length)(hl:os'.length<=20)(p r g:Int)(n:Nat):iU s n (jf (aS s.ns os' p r g) n {s with os:=os'}):=by
 obtain⟨k1,k2,_⟩:=ow (os:=os') (h.wf.more ho) h.ln p r g;have e:(aS s.ns os' p r g).os=os':=vS _ _ _ _ _;have hi:Inv {s with ns:=(aS s.ns os' p r g).ns,os:=(aS s.ns os' p r g).os}:=⟨by rw[e];exact k1.wf,k1.len,by rw[e];exact hl,h.cs,h.ks,h.good⟩;unfold jf;by_cases e:(aS s.ns os' p r g).code=0;rw[ag e];exact jh (C8 (k2 e)) hi (aj _) (aj _);rw[af e];exact iO _ hi (aj _) (aj _)
theorem Ka{c g:Int}(hc:0<=c)(hg:0<=g):(⟨2,0,[⟨4,c,[]⟩,⟨5,g,[]⟩]⟩:V).check=0:=by
 have h4:(⟨4,c,[]⟩:V).YW=0:=by unfold V.YW;simp[jc];omega
 have h5:(⟨5,g,[]⟩:V).YW=0:=by unfold V.YW;simp[jc];omega
 refine tO ?_ (by simp[j6,YV,YX]);rw[ny,ag (by unfold V.YW;simp[jc]),gm,gm,iI,xS,xS];simp[iI,first,h4,h5]
theorem Pz{call:eT}(hc:vQ call){s:Sg}(h:Inv s)(ms:fA)(fr:Nat)(a b:V)(n:Nat):iU s n (mU call ms fr a b n s):=by
 unfold mU;repeat' split
 all_goals first
  |exact iO _ h (aj _) (aj _)
  |exact(rz h _ _ _).then fun x hx m s' hs'=>(hc _ _ _ _ _ _ hx hs').then fun y _ m2 s2 hs2=>rz hs2 _ _ _
theorem Bg{call:eT}(hc:vQ call){s:Sg}(h:Inv s)(ms:fA)(fr:Nat)(p op k:Int)(a b:V)(hb:b.check=0)(n:Nat):su s n (jy call ms fr p op k a b n s):=by
 unfold jy;by_cases h6:op=6
 ·rw[ag h6];split;exact(jh (ym _) h (aj _) (aj _)).one;exact(iO _ h (aj _) (aj _)).one
 rw[af h6];by_cases h8:op=8
 ·rw[ag h8];split;rename_i hk;exact(jh hk h (aj _) (aj _)).one;exact(iO _ h (aj _) (aj _)).one
 rw[af h8];by_cases h14:op=14
 ·rw[ag h14];split
  ·cases iG s a 1 with
   |error c=>exact(iO _ h (aj _) (aj _)).one
   |ok c=>
    have hi:Inv {s with cs:=s.cs.set c.toNat b.n,es:=s.es++[⟨p,c,2,a.n⟩]}:=⟨h.wf,h.ln,h.lg,by simp[h.cs],h.ks,h.good⟩;exact FX hb hi (aj _) (by simp;omega)
  ·exact(iO _ h (aj _) (aj _)).one
 rw[af h14];exact(Pz hc h _ _ _ _ _).one
theorem AO{call:eT}(hc:vQ call){s:Sg}(h:Inv s)(fr:Nat)(p op k:Int)(a:V)(ha:a.check=0)(n:Nat):su s n (gQ call fr p op k a n s):=by
 have hb:∀c,su s n (bad c n s):=fun c=>(iO c h (aj _) (aj _)).one;unfold gQ;by_cases h9:op=9
 ·rw[ag h9];split;exact(jh (vJ ha 0) h (aj _) (aj _)).one;exact hb _
 rw[af h9];by_cases h10:op=10
 ·rw[ag h10];split;exact(jh (vJ ha 1) h (aj _) (aj _)).one;exact hb _
 rw[af h10];by_cases h11:op=11
 ·rw[ag h11];split;rename_i hk;exact(jh hk h (aj _) (aj _)).one;exact hb _
 rw[af h11];by_cases h12:op=12
 ·rw[ag h12];split
  ·split;exact(jh (vJ ha 0) h (aj _) (aj _)).one;exact hb _
  ·exact hb _
 rw[af h12];by_cases h13:op=13
 ·rw[ag h13];cases iG s a 0 with
  |error c=>exact hb _
  |ok c=>
   have hi:Inv {s with es:=s.es++[⟨p,c,1,a.n⟩]}:=⟨h.wf,h.ln,h.lg,h.cs,h.ks,h.good⟩;exact FX (ym _) hi (aj _) (by simp;omega)
 rw[af h13];by_cases h15:op=15
 ·rw[ag h15];split;exact(MX (os':=s.os) h (aj _) h.lg _ _ _ _).one;exact hb _
 rw[af h15];by_cases h16:op=16
 ·rw[ag h16];split;unfold bJ;by_cases h20:s.os.length=20;simp only[h20,if_true];exact hb _;simp only[h20,if_false,if_true];obtain⟨k1,k2,_⟩:=ow (os:=s.os++[true]) (h.wf.more (by simp)) h.ln a.n 15 (s.os.length:Int);have e:(aS s.ns (s.os++[true]) a.n 15 (s.os.length:Int)).os=s.os++[true]:=vS _ _ _ _ _;have hlg:=h.lg;have hi:Inv {s with ns:=(aS s.ns (s.os++[true]) a.n 15 (s.os.length:Int)).ns,os:=(aS s.ns (s.os++[true]) a.n 15 (s.os.length:Int)).os}:=⟨by rw[e];exact k1.wf,k1.len,by rw[e];simp;omega,h.cs,h.ks,h.good⟩;unfold jf;by_cases e2:(aS s.ns (s.os++[true]) a.n 15 (s.os.length:Int)).code=0;rw[ag e2];exact(jh (s:=s) (n:=n) (m:=n) (Ka (k2 e2) (Int.natCast_nonneg s.os.length)) hi (aj _) (aj _)).one;rw[af e2];exact(iO (s:=s) (n:=n) (m:=n) (aS s.ns (s.os++[true]) a.n 15 (s.os.length:Int)).code hi (aj _) (aj _)).one;exact hb _
 rw[af h16];by_cases h17:op=17
 ·rw[ag h17];split;have e:(dV s.ns s.os a.n).os.length=s.os.length:=(by unfold dV;split<;>simp);have hi:Inv {s with os:=(dV s.ns s.os a.n).os}:=⟨by rw[e];exact h.wf,h.ln,by rw[e];exact h.lg,h.cs,h.ks,h.good⟩;exact(jh (s:=s) (n:=n) (m:=n) iN hi (aj _) (aj _)).one;exact hb _
 rw[af h17];by_cases h18:op=18;rw[ag h18];exact(hc _ _ _ _ _ _ ha h).one;rw[af h18];have hi:Inv {s with ks:=s.ks.set p.toNat a}:=⟨h.wf,h.ln,h.lg,h.cs,by simp[h.ks],fun v hv=>by
  rcases List.mem_or_eq_of_mem_set hv with hv|hv;exact h.good v hv
  ·rw[hv];exact ha⟩
 exact(jh (s:=s) (n:=n) (m:=n) (oP h _) hi (aj _) (aj _)).one
theorem xV{s:Sg}(h:Inv s)(p op k n:Int)(arg:V)(ha:arg.check=0)(names:List V)(hn:∀v∈names,v.check=0)(m:Nat):iU s m (nD p op k n arg names m s):=by
 have hk:(names.getD (names.length-1-k.toNat) v0).check=0:=by
  rcases dO (names.length-1-k.toNat) names.length with hi|hi;rw[aD,aQ hi];exact hn _ (aI hi);rw[aD,di hi];exact iN
 unfold nD;repeat' split
 ·exact jh iN h (aj _) (aj _)
 ·exact jh (ym _) h (aj _) (aj _)
 ·exact jh ha h (aj _) (aj _)
 ·exact jh hk h (aj _) (aj _)
 ·exact jh (oP h _) h (aj _) (aj _)
def PQ(ev:Evl):Prop:=∀fr p x arg names n s,arg.check=0->(∀v∈names,v.check=0)->Inv s->iU s n (ev fr p x arg names n s)
theorem wz{ev:Evl}(h:PQ ev)(ms:fA):vQ (jY ev ms):=by
 intro fr p f v n s hv hs;unfold jY;split;exact iO _ hs (aj _) (aj _)
 ·split;exact iO _ hs (aj _) (aj _);exact h _ _ _ _ _ _ _ hv (by simp) hs
theorem su.step{s:Sg}{n:Nat}{o:Out}(hn:n≠0)(h:su s (n-1) o):iU s n o:=⟨h.inv,h.val,by have:=h.left;omega,by have:=h.log;omega⟩
theorem Vq{ev:Evl}(h:PQ ev){call:eT}(hc:vQ call)(ms:fA):PQ (j3 ev call ms):=by
 intro fr p x arg names n s ha hns hs;unfold j3;by_cases h0:n=0;rw[ag h0];exact iO _ hs (by omega) (by omega);rw[af h0];refine su.step h0 ?_;split;exact(xV hs _ _ _ _ _ ha _ hns _).one;exact(h _ _ _ _ _ _ _ ha hns hs).abd fun v hv m s' hs'=>AO hc hs' _ _ _ _ _ hv _
 ·split
  ·exact((h _ _ _ _ _ _ _ ha hns hs).then fun v hv m s' hs'=>h _ _ _ _ _ _ _ ha (fun u hu=>by
    rcases aK.1 hu with hu|hu;exact hns u hu
    ·simp at hu;rw[hu];exact hv) hs').one
  ·exact(h _ _ _ _ _ _ _ ha hns hs).abd fun v _ m s' hs'=>(h _ _ _ _ _ _ _ ha hns hs').abd fun u hu m2 s2 hs2=>Bg hc hs2 _ _ _ _ _ _ _ hu _
 ·refine((h _ _ _ _ _ _ _ ha hns hs).then fun v _ m s' hs'=> ?_).one;split
  ·split;exact h _ _ _ _ _ _ _ ha hns hs';exact h _ _ _ _ _ _ _ ha hns hs'
  ·exact iO _ hs' (aj _) (aj _)
theorem Fa(ms:fA):∀d,PQ (evR ms d):=by
 intro d;induction d with
 |zero=>intro fr p x arg names n s _ _ hs;exact iO _ hs (aP _) (by omega)
 |succ d ih=>exact Vq ih (wz ih ms) ms
def GQ(ev:Evl):Prop:=∀fr p x arg names n s,(ev fr p x arg names n s).left<=n
def Fw(call:eT):Prop:=∀fr p f v n s,(call fr p f v n s).left<=n
theorem lh{o:Out}{f:V->Nat->Sg->Out}{n:Nat}(h:o.left<=n)(hf:∀v m s,(f v m s).left<=m):(o.then f).left<=n:=by
 unfold Out.then
 cases o.got with
 |error c=>exact h
 |ok v=>exact aF (hf _ _ _) h
theorem vN(v:V)(gs:List Int)(n:Nat)(s:Sg):(fB v gs n s).left<=n:=by unfold fB;split<;>exact aj _
theorem Cn(r:ZH)(n:Nat)(s:Sg):(jf r n s).left<=n:=by unfold jf;split<;>exact aj _
theorem Qq{call:eT}(hc:Fw call)(ms:fA)(fr:Nat)(a b:V)(n:Nat)(s:Sg):(mU call ms fr a b n s).left<=n:=by
 unfold mU;repeat' split
 all_goals first
  |exact aj _
  |exact lh (vN _ _ _ _) fun x m s'=>lh (hc _ _ _ _ _ _) fun y m2 s2=>vN _ _ _ _
theorem Tu{call:eT}(hc:Fw call)(ms:fA)(fr:Nat)(p op k:Int)(a b:V)(n:Nat)(s:Sg):(jy call ms fr p op k a b n s).left<=n:=by
 unfold jy;repeat' split
 all_goals first
  |exact aj _
  |exact Qq hc _ _ _ _ _ _
theorem Ps{call:eT}(hc:Fw call)(fr:Nat)(p op k:Int)(a:V)(n:Nat)(s:Sg):(gQ call fr p op k a n s).left<=n:=by
 unfold gQ;repeat' split
 all_goals first
  |exact aj _
  |exact Cn _ _ _
  |exact hc _ _ _ _ _ _
  |exact lh (Cn _ _ _) fun _ _ _=>aj _
theorem Mt(p op k n:Int)(arg:V)(names:List V)(m:Nat)(s:Sg):(nD p op k n arg names m s).left<=m:=by
 unfold nD;repeat' split
 all_goals exact aj _
theorem CV{ev:Evl}(h:GQ ev){call:eT}(hc:Fw call)(ms:fA):∀fr p x arg names n s,(j3 ev call ms fr p x arg names n s).left<=n/\(n≠0->(j3 ev call ms fr p x arg names n s).left<=n-1):=by
 intro fr p x arg names n s;unfold j3;by_cases h0:n=0;rw[ag h0];exact⟨aP _,fun e=>absurd h0 e⟩;rw[af h0];have key:∀o:Out,o.left<=n-1->o.left<=n/\(n≠0->o.left<=n-1):=fun o ho=>⟨by omega,fun _=>ho⟩;apply key;split;exact Mt _ _ _ _ _ _ _ _;exact lh (h _ _ _ _ _ _ _) fun v m s'=>Ps hc _ _ _ _ _ _ _
 ·split;exact lh (h _ _ _ _ _ _ _) fun v m s'=>h _ _ _ _ _ _ _;exact lh (h _ _ _ _ _ _ _) fun v m s'=>lh (h _ _ _ _ _ _ _) fun u m2 s2=>Tu hc _ _ _ _ _ _ _ _ _
 ·refine lh (h _ _ _ _ _ _ _) fun v m s'=> ?_;repeat' split
  all_goals first
   |exact h _ _ _ _ _ _ _
   |exact aj _
theorem Dg{ev:Evl}(h:GQ ev)(ms:fA):Fw (jY ev ms):=by
 intro fr p f v n s;unfold jY;repeat' split
 all_goals first
  |exact aj _
  |exact h _ _ _ _ _ _ _
theorem wC(ms:fA):∀d,GQ (evR ms d):=by
 intro d;induction d with
 |zero=>intro fr p x arg names n s;exact aP _
 |succ d ih=>intro fr p x arg names n s;exact(CV ih (Dg ih ms) ms _ _ _ _ _ _ _).1
def KF(d:Nat)(e e':Evl):Prop:=∀fr p x arg names n s,n<=d->e fr p x arg names n s=e' fr p x arg names n s
def EW(d:Nat)(e e':eT):Prop:=∀fr p f v n s,n<=d->e fr p f v n s=e' fr p f v n s
theorem oD{o:Out}{f f':V->Nat->Sg->Out}{d:Nat}(h:o.left<=d)(hf:∀v m s,m<=d->f v m s=f' v m s):o.then f=o.then f':=by
 unfold Out.then
 cases o.got with
 |error c=>rfl
 |ok v=>exact hf _ _ _ h
theorem Qn{c c':eT}{d:Nat}(h:EW d c c')(ms:fA)(fr:Nat)(a b:V)(n:Nat)(s:Sg)(hn:n<=d):mU c ms fr a b n s=mU c' ms fr a b n s:=by
 unfold mU;repeat' split
 all_goals first
  |rfl
  |exact oD (d:=d) (aF (vN _ _ _ _) hn) fun x m s' hm=>by rw[h _ _ _ _ _ _ hm]
theorem QL{c c':eT}{d:Nat}(h:EW d c c')(ms:fA)(fr:Nat)(p op k:Int)(a b:V)(n:Nat)(s:Sg)(hn:n<=d):jy c ms fr p op k a b n s=jy c' ms fr p op k a b n s:=by
 unfold jy;rw[Qn h ms fr a b n s hn]
theorem Tg{c c':eT}{d:Nat}(h:EW d c c')(fr:Nat)(p op k:Int)(a:V)(n:Nat)(s:Sg)(hn:n<=d):gQ c fr p op k a n s=gQ c' fr p op k a n s:=by
 unfold gQ;rw[h _ _ _ _ _ _ hn]
theorem Nw{e e':Evl}{d:Nat}(h:KF d e e')(ms:fA):EW d (jY e ms) (jY e' ms):=by
 intro fr p f v n s hn;unfold jY;repeat' split
 all_goals first
  |rfl
  |exact h _ _ _ _ _ _ _ hn
theorem NQ{e e':Evl}{d:Nat}(h:KF d e e')(hl:GQ e){c c':eT}(hc:EW d c c')(ms:fA):KF (d+1) (j3 e c ms) (j3 e' c' ms):=by
 intro fr p x arg names n s hn;unfold j3;by_cases h0:n=0;rw[ag h0,ag h0];rw[af h0,af h0];have hn1:n-1<=d:=by omega
 split;rfl;rw[<-h _ _ _ _ _ _ _ hn1];exact oD (d:=d) (aF (hl _ _ _ _ _ _ _) hn1) fun v m s' hm=>Tg hc _ _ _ _ _ _ _ hm
 ·split;rw[<-h _ _ _ _ _ _ _ hn1];exact oD (d:=d) (aF (hl _ _ _ _ _ _ _) hn1) fun v m s' hm=>h _ _ _ _ _ _ _ hm;rw[<-h _ _ _ _ _ _ _ hn1];refine oD (d:=d) (aF (hl _ _ _ _ _ _ _) hn1) fun v m s' hm=> ?_;rw[<-h _ _ _ _ _ _ _ hm];exact oD (d:=d) (aF (hl _ _ _ _ _ _ _) hm) fun u m2 s2 hm2=>QL hc _ _ _ _ _ _ _ _ _ hm2
 ·rw[<-h _ _ _ _ _ _ _ hn1];refine oD (d:=d) (aF (hl _ _ _ _ _ _ _) hn1) fun v m s' hm=> ?_;rw[h _ _ _ _ _ _ _ hm,h _ _ _ _ _ _ _ hm]
theorem TC(ms:fA):∀d,KF d (evR ms d) (evR ms (d+1)):=by
 intro d;induction d with
 |zero=>
  intro fr p x arg names n s hn;obtain rfl:n=0:=by omega
  simp[evR,j3]
 |succ d ih=>exact NQ ih (wC ms d) (Nw ih ms) ms
def EvF(ms:fA):Evl:=evR ms 2000
def cO(ms:fA):eT:=jY (EvF ms) ms
theorem Vo(ms:fA)(fr:Nat)(p:Int)(x:Ex.V)(arg:V)(names:List V)(n:Nat)(s:Sg)(hn:n<=2000):EvF ms fr p x arg names n s=j3 (EvF ms) (cO ms) ms fr p x arg names n s:=TC ms 2000 fr p x arg names n s hn
theorem SY(ms:fA):GQ (EvF ms):=wC ms 2000
def Out.pot(o:Out):Nat:=o.s.es.length+o.left
def Va(ev:Evl):Prop:=∀fr p x arg names n s,(ev fr p x arg names n s).pot<=s.es.length+n
def Rh(call:eT):Prop:=∀fr p f v n s,(call fr p f v n s).pot<=s.es.length+n
theorem mY{o:Out}{f:V->Nat->Sg->Out}{n k:Nat}(h:o.pot<=n)(hf:∀v m s,(f v m s).pot<=s.es.length+m+k):(o.then f).pot<=n+k:=by
 unfold Out.then
 cases o.got with
 |error c=>exact aF h (bQ _ _)
 |ok v=>have:=hf v o.left o.s;unfold Out.pot at h;show(f v o.left o.s).pot<=_;omega
theorem uw(v:V)(gs:List Int)(n:Nat)(s:Sg):(fB v gs n s).pot<=s.es.length+n:=by unfold fB;split<;>exact aj _
theorem GJ(r:ZH)(n:Nat)(s:Sg):(jf r n s).pot<=s.es.length+n:=by unfold jf;split<;>exact aj _
theorem TJ{call:eT}(hc:Rh call)(ms:fA)(fr:Nat)(a b:V)(n:Nat)(s:Sg):(mU call ms fr a b n s).pot<=s.es.length+n:=by
 unfold mU;repeat' split
 all_goals first
  |exact aj _
  |exact mY (k:=0) (uw _ _ _ _) fun x m s'=>mY (k:=0) (hc _ _ _ _ _ _) fun y m2 s2=>uw _ _ _ _
theorem TD{call:eT}(hc:Rh call)(ms:fA)(fr:Nat)(p op k:Int)(a b:V)(n:Nat)(s:Sg):(jy call ms fr p op k a b n s).pot<=s.es.length+n+1:=by
 unfold jy;repeat' split
 all_goals first
  |exact dA _
  |exact aF (TJ hc _ _ _ _ _ _) (dA _)
  |(simp only[Out.pot,okV,ak,aJ];omega)
theorem UZ{call:eT}(hc:Rh call)(fr:Nat)(p op k:Int)(a:V)(n:Nat)(s:Sg):(gQ call fr p op k a n s).pot<=s.es.length+n+1:=by
 unfold gQ;repeat' split
 all_goals first
  |exact dA _
  |exact aF (GJ _ _ _) (dA _)
  |exact aF (hc _ _ _ _ _ _) (dA _)
  |exact aF (mY (k:=0) (GJ _ _ _) fun _ _ _=>aj _) (dA _)
  |(simp only[Out.pot,okV,ak,aJ];omega)
theorem QD(p op k n:Int)(arg:V)(names:List V)(m:Nat)(s:Sg):(nD p op k n arg names m s).pot<=s.es.length+m:=by
 unfold nD;repeat' split
 all_goals exact aj _
theorem QN{ev:Evl}(h:Va ev){call:eT}(hc:Rh call)(ms:fA):Va (j3 ev call ms):=by
 intro fr p x arg names n s;unfold j3;by_cases h0:n=0;rw[ag h0,h0];exact aj _;rw[af h0];have e:s.es.length+n=s.es.length+(n-1)+1:=by omega
 rw[e];split;exact aF (QD _ _ _ _ _ _ _ _) (dA _);exact mY (h _ _ _ _ _ _ _) fun v m s'=>UZ hc _ _ _ _ _ _ _
 ·split;exact aF (mY (k:=0) (h _ _ _ _ _ _ _) fun v m s'=>h _ _ _ _ _ _ _) (dA _);exact mY (h _ _ _ _ _ _ _) fun v m s'=>mY (h _ _ _ _ _ _ _) fun u m2 s2=>TD hc _ _ _ _ _ _ _ _ _
 ·refine aF (mY (k:=0) (h _ _ _ _ _ _ _) fun v m s'=> ?_) (dA _);repeat' split
  all_goals first
   |exact h _ _ _ _ _ _ _
   |exact aj _
theorem SH{ev:Evl}(h:Va ev)(ms:fA):Rh (jY ev ms):=by
 intro fr p f v n s;unfold jY;repeat' split
 all_goals first
  |exact aj _
  |exact h _ _ _ _ _ _ _
theorem VW(ms:fA):∀d,Va (evR ms d):=by
 intro d;induction d with
 |zero=>intro fr p x arg names n s;simp only[evR,bad,Out.pot];omega
 |succ d ih=>exact QN ih (SH ih ms) ms
theorem TP(ms:fA)(d:Nat)(fr:Nat)(p:Int)(x:Ex.V)(arg:V)(names:List V)(n:Nat)(s:Sg)(v:V)(h:(evR ms d fr p x arg names n s).got= .ok v):(evR ms d fr p x arg names n s).left+1<=n:=by
 cases d with
 |zero=>simp[evR,bad]at h
 |succ d=>
  have hs:=CV (wC ms d) (Dg (wC ms d) ms) ms fr p x arg names n s;by_cases h0:n=0;exfalso;simp[evR,j3,h0,bad]at h;have:=hs.2 h0;show(j3 (evR ms d) (jY (evR ms d) ms) ms fr p x arg names n s).left+1<=n;omega
theorem rQ(ms:fA)(fr:Nat)(p:Int)(x:Ex.V)(arg:V)(names:List V)(n:Nat)(s:Sg):(EvF ms fr p x arg names n s).left<=n/\(EvF ms fr p x arg names n s).s.es.length+(EvF ms fr p x arg names n s).left<=s.es.length+n/\∀v,(EvF ms fr p x arg names n s).got= .ok v->(EvF ms fr p x arg names n s).left+1<=n:=
 ⟨wC ms 2000 _ _ _ _ _ _ _,VW ms 2000 _ _ _ _ _ _ _,TP ms 2000 _ _ _ _ _ _ _⟩
structure Fm where
 pc:Nat
 st:List V
 nm:List V
 left:Nat
 s:Sg
abbrev End:=Int×Nat×Sg
def JC(pc:Nat)(st nm:List V)(o:Out):Except End Fm:=match o.got with
 | .ok v=> .ok ⟨pc+1,st++[v],nm,o.left,o.s⟩
 | .error c=> .error (c,o.left,o.s)
def gu(call:eT)(ms:fA)(fr:Nat)(p:Int)(arg:V)(i:Ex.Ik)(x:Fm):Except End Fm:=
 if i.op=100 then(if x.left=0 then .error (12,0,x.s)else .ok {x with pc:=x.pc+1,left:=x.left-1})
 else if i.op=101 then .ok {x with pc:=x.pc+1,st:=x.st.dropLast,nm:=x.nm++[x.st.getLastD v0]}
 else if i.op=102 then .ok {x with pc:=x.pc+1,nm:=x.nm.dropLast}
 else if i.op=103 then(if(x.st.getLastD v0).kind=1 then .ok {x with pc:=if(x.st.getLastD v0).n=0 then i.k.toNat else x.pc+1,st:=x.st.dropLast}else .error (2,x.left,x.s))
 else if i.op=104 then .ok {x with pc:=i.k.toNat}
 else if Ex.Y5 i.op=0 then JC x.pc x.st x.nm (nD p i.op i.k i.n arg x.nm x.left x.s)
 else if Ex.Y5 i.op=1 then JC x.pc x.st.dropLast x.nm (gQ call fr p i.op i.k (x.st.getLastD v0) x.left x.s)
 else JC x.pc x.st.dropLast.dropLast x.nm (jy call ms fr p i.op i.k (x.st.dropLast.getLastD v0) (x.st.getLastD v0) x.left x.s)
structure pW(F M K:Nat)(i:Ex.Ik)(x:Fm):Prop where
 st:x.st.length+x.nm.length+x.left<=M
 log:x.s.es.length+x.left<=K
 one:i.op=101\/i.op=103->1<=x.st.length
 drop:i.op=102->1<=x.nm.length
 var:i.op=4->0<=i.k/\i.k<(x.nm.length:Int)
 parts:i.op<=21->Ex.Y5 i.op<=(x.st.length:Int)
 call:i.op=18->0<=i.k/\i.k<(F:Int)
 kind:(1<=i.op/\i.op<=21/\i.op≠5/\i.op≠7)\/(100<=i.op/\i.op<=104)
section
variable(call:eT)(ms:fA)(fr:Nat)(p:Int)(arg:V)(c:List Ex.Ik)
def qp:Nat->Fm->Except End Fm
 |0,x=> .ok x
 |n+1,x=>match c[x.pc]? with
  |none=> .error (0,x.left,x.s)
  |some i=>match gu call ms fr p arg i x with
   | .error e=> .error e
   | .ok y=>qp n y
def qU(F M K:Nat):Nat->Fm->Prop
 |0,_=>True
 |n+1,x=>∃i,c[x.pc]?=some i/\pW F M K i x/\∀y,gu call ms fr p arg i x= .ok y->qU F M K n y
def gz(F M K L:Nat)(x:Fm)(r:Except End Fm):Prop:=∃n,n<=L/\qp call ms fr p arg c n x=r/\qU call ms fr p arg c F M K n x
end
section
variable{call:eT}{ms:fA}{fr:Nat}{p:Int}{arg:V}{c:List Ex.Ik}{F M K:Nat}
theorem QU(n m:Nat)(x:Fm):qp call ms fr p arg c (n+m) x=match qp call ms fr p arg c n x with| .error e=> .error e| .ok y=>qp call ms fr p arg c m y:=by
 induction n generalizing x with
 |zero=>rw[bP];rfl
 |succ n ih=>
  rw[Nat.add_right_comm,qp,qp];cases c[x.pc]? with
  |none=>rfl
  |some i=>
   simp only;cases gu call ms fr p arg i x with
   |error e=>rfl
   |ok y=>exact ih y
theorem Qp(n m:Nat)(x y:Fm)(h:qp call ms fr p arg c n x= .ok y)(hx:qU call ms fr p arg c F M K n x)(hy:qU call ms fr p arg c F M K m y):qU call ms fr p arg c F M K (n+m) x:=by
 induction n generalizing x with
 |zero=>
  rw[qp]at h;cases h;rw[bP];exact hy
 |succ n ih=>
  rw[Nat.add_right_comm];obtain⟨i,hi,hs,hn⟩:=hx;refine⟨i,hi,hs,fun z hz=>ih z ?_ (hn z hz)⟩;rw[qp,hi]at h;simp only[hz]at h;exact h
theorem gz.mono{x:Fm}{r:Except End Fm}{L L':Nat}(h:gz call ms fr p arg c F M K L x r)(hl:L<=L'):gz call ms fr p arg c F M K L' x r:=by
 obtain⟨n,hn,hr⟩:=h;exact⟨n,aF hn hl,hr⟩
theorem gz.trans{x y:Fm}{r:Except End Fm}{L1 L2:Nat}(h:gz call ms fr p arg c F M K L1 x (.ok y))(k:gz call ms fr p arg c F M K L2 y r):gz call ms fr p arg c F M K (L1+L2) x r:=by
 obtain⟨n,ln,hn,sn⟩:=h;obtain⟨m,lm,hm,sm⟩:=k;exact⟨n+m,by omega,by rw[QU,hn];exact hm,Qp n m x y hn sn sm⟩
theorem gz.after{x y:Fm}{r:Except End Fm}{L:Nat}(h:gz call ms fr p arg c F M K 1 x (.ok y))(hl:1<=L)(k:gz call ms fr p arg c F M K (L-1) y r):gz call ms fr p arg c F M K L x r:=(h.trans k).mono (by omega)
theorem gz.one{x:Fm}{r:Except End Fm}{i:Ex.Ik}(hi:c[x.pc]?=some i)(h:gu call ms fr p arg i x=r)(hs:pW F M K i x):gz call ms fr p arg c F M K 1 x r:=by
 refine⟨1,aj _, ?_,i,hi,hs,fun _ _=>trivial⟩;rw[qp,hi];simp only;rw[h];cases r<;>rfl
end
def kD(pc:Nat)(st nm:List V)(o:Out):Except End Fm:=match o.got with
 | .ok v=> .ok ⟨pc,st++[v],nm,o.left,o.s⟩
 | .error e=> .error (e,o.left,o.s)
theorem Dt(pc:Nat)(st nm:List V)(o:Out):JC pc st nm o=kD (pc+1) st nm o:=by unfold JC kD;cases o.got<;>rfl
theorem oZ{call:eT}{ms:fA}{fr:Nat}{p:Int}{arg:V}{c:List Ex.Ik}{x:Fm}{F M K L1 L2 pc pc':Nat}{st nm st1 nm1:List V}{o:Out}{f:V->Nat->Sg->Out}(h:gz call ms fr p arg c F M K L1 x (kD pc st1 nm1 o))(hf:∀v,o.got= .ok v->gz call ms fr p arg c F M K L2 ⟨pc,st1++[v],nm1,o.left,o.s⟩ (kD pc' st nm (f v o.left o.s))):gz call ms fr p arg c F M K (L1+L2) x (kD pc' st nm (o.then f)):=by
 unfold Out.then
 cases e:o.got with
 |error e'=>
  have:kD pc' st nm o=kD pc st1 nm1 o:=by unfold kD;rw[e]
  simp only;rw[this];exact h.mono (by omega)
 |ok v=>
  have:kD pc st1 nm1 o= .ok ⟨pc,st1++[v],nm1,o.left,o.s⟩:=by unfold kD;rw[e]
  rw[this]at h;exact h.trans (hf v e)
theorem E9{call:eT}{ms:fA}{fr:Nat}{p:Int}{arg:V}{c:List Ex.Ik}{x:Fm}{F M K L1 L2 pc pc':Nat}{st nm nm1:List V}{o:Out}(h:gz call ms fr p arg c F M K L1 x (kD pc st nm1 o))(hf:∀v,o.got= .ok v->gz call ms fr p arg c F M K L2 ⟨pc,st++[v],nm1,o.left,o.s⟩ (.ok ⟨pc',st++[v],nm,o.left,o.s⟩)):gz call ms fr p arg c F M K (L1+L2) x (kD pc' st nm o):=by
 cases e:o.got with
 |error e'=>
  have:kD pc' st nm o=kD pc st nm1 o:=by unfold kD;rw[e]
  rw[this];exact h.mono (by omega)
 |ok v=>
  have h1:kD pc st nm1 o= .ok ⟨pc,st++[v],nm1,o.left,o.s⟩:=by unfold kD;rw[e]
  have h2:kD pc' st nm o= .ok ⟨pc',st++[v],nm,o.left,o.s⟩:=by unfold kD;rw[e]
  rw[h1]at h;rw[h2];exact h.trans (hf v e)
def Yl(ms:fA)(F:Nat)(x:Ex.V):Prop:=∀(fr:Nat)(p:Int)(arg:V)(A B c:List Ex.Ik)(st nm:List V)(n:Nat)(s:Sg)(M K:Nat),n<=2000->c=A++(x.code A.length++B)->x.bad F nm.length=0->st.length+nm.length+n<=M->s.es.length+n<=K->
 gz (cO ms) ms fr p arg c F M K (x.code A.length).length ⟨A.length,st,nm,n,s⟩ (kD (A.length+(x.code A.length).length) st nm (EvF ms fr p x arg nm n s))
theorem Et{k:Int}(h:1<=k/\k<=21):k≠100/\k≠101/\k≠102/\k≠103/\k≠104:=by omega
theorem Cj{call:eT}{ms:fA}{fr:Nat}{p:Int}{arg:V}{i:Ex.Ik}{x:Fm}(h:1<=i.op/\i.op<=21)(hp:Ex.Y5 i.op=0):gu call ms fr p arg i x=kD (x.pc+1) x.st x.nm (nD p i.op i.k i.n arg x.nm x.left x.s):=by
 obtain⟨h0,h1,h2,h3,h4⟩:=Et h;unfold gu;rw[af h0,af h1,af h2,af h3,af h4,ag hp,Dt]
theorem FQ{call:eT}{ms:fA}{fr:Nat}{p:Int}{arg:V}{i:Ex.Ik}{pc:Nat}{st nm:List V}{v:V}{n:Nat}{s:Sg}(h:1<=i.op/\i.op<=21)(hp:Ex.Y5 i.op=1):gu call ms fr p arg i ⟨pc,st++[v],nm,n,s⟩=kD (pc+1) st nm (gQ call fr p i.op i.k v n s):=by
 obtain⟨h0,h1,h2,h3,h4⟩:=Et h;unfold gu;rw[af h0,af h1,af h2,af h3,af h4,af (by omega),ag hp,Dt];simp
theorem FO{call:eT}{ms:fA}{fr:Nat}{p:Int}{arg:V}{i:Ex.Ik}{pc:Nat}{st nm:List V}{v u:V}{n:Nat}{s:Sg}(h:1<=i.op/\i.op<=21)(hp:Ex.Y5 i.op=2):gu call ms fr p arg i ⟨pc,st++[v]++[u],nm,n,s⟩=kD (pc+1) st nm (jy call ms fr p i.op i.k v u n s):=by
 obtain⟨h0,h1,h2,h3,h4⟩:=Et h;unfold gu;rw[af h0,af h1,af h2,af h3,af h4,af (by omega),af (by omega),Dt];simp
theorem sJ{A B c:List Ex.Ik}{i:Ex.Ik}{k:Nat}(hc:c=A++(i::B))(hk:k=A.length):c[k]?=some i:=by rw[hc,hk];simp
theorem TN{F:Int}{v:Ex.V}{o:Int}(h:Ex.YW F v o=0):(v.kind=4->0<=v.k/\v.k<o)/\(v.kind=18->0<=v.k/\v.k<F):=by
 unfold Ex.YW at h;by_cases h1:Ex.Y5 v.kind<0;rw[ag h1]at h;cases h;rw[af h1]at h;by_cases h2:(v.l.length:Int)≠Ex.Y5 v.kind;rw[ag h2]at h;cases h;rw[af h2]at h;by_cases h3:v.n≠0/\v.kind≠2;rw[ag h3]at h;cases h;rw[af h3]at h;by_cases h4:Ex.Y7 F v.kind v.k o≠0;rw[ag h4]at h;exact absurd h h4;unfold Ex.Y7 at h4;refine⟨fun e=> ?_,fun e=> ?_⟩;rw[ag e]at h4;by_cases e2:0<=v.k/\v.k<o;exact e2;rw[af e2]at h4;exact absurd (by decide) h4;rw[e,af (by decide),af (by decide),af (by decide),ag rfl]at h4;by_cases e2:0<=v.k/\v.k<F;exact e2;rw[af e2]at h4;exact absurd (by decide) h4
theorem tK{F M K:Nat}{op k:Int}{x:Fm}(h:100<=op/\op<=104)(hs:x.st.length+x.nm.length+x.left<=M)(hK:x.s.es.length+x.left<=K)(h1:op=101\/op=103->1<=x.st.length)(h2:op=102->1<=x.nm.length):pW F M K ⟨op,k,0⟩ x:=
 ⟨hs,hK,h1,h2,fun e=>by simp only at e;omega,fun e=>by simp only at e;omega,fun e=>by simp only at e;omega,.inr h⟩
theorem DR{F M K:Nat}{v:Ex.V}{x:Fm}(hf:Ex.YW F v x.nm.length=0)(h5:v.kind≠5)(h7:v.kind≠7)(hs:x.st.length+x.nm.length+x.left<=M)(hK:x.s.es.length+x.left<=K)(hp:Ex.Y5 v.kind<=(x.st.length:Int)):pW F M K ⟨v.kind,v.k,v.n⟩ x:=by
 obtain⟨hk,_,_,_⟩:=Ex.ZM hf;obtain⟨k1,k2⟩:=TN hf;exact⟨hs,hK,fun e=>by simp only at e;omega,fun e=>by simp only at e;omega,k1,fun _=>hp,k2,.inl ⟨hk.1,hk.2,h5,h7⟩⟩
theorem Sv(ms:fA)(F:Nat)(x:Ex.V):Yl ms F x:=by
 induction x using Ex.V.aan with
 |h x hk=>
  intro fr p arg A B c st nm n s M K hn hc hbad hM hK;have hx:Ex.Ok x:=⟨_,_,hbad⟩;obtain⟨hf1,hbs⟩:=Ex.aaz hbad;obtain⟨hkind,hlen,_,_⟩:=Ex.ZM hf1;have hsz:=Ex.size_eq x;rw[Vo ms fr p x arg nm n s hn];have hhead:c=A++(⟨100,0,0⟩::((x.code A.length).tail++B)):=by
   rw[hc,Ex.aaa];simp
  have hget:=sJ hhead rfl;have adz:pW F M K ⟨100,0,0⟩ ⟨A.length,st,nm,n,s⟩:=tK (by decide) hM hK (fun e=>by omega) (fun e=>by omega);unfold j3;by_cases h0:n=0;rw[ag h0];exact(gz.one hget (by unfold gu;simp[h0,kD,bad]) adz).mono (Ex.aaX x _);rw[af h0];have aeG:gz (cO ms) ms fr p arg c F M K 1 ⟨A.length,st,nm,n,s⟩ (.ok ⟨A.length+1,st,nm,n-1,s⟩):=gz.one hget (by unfold gu;simp[h0]) adz;refine aeG.after (Ex.aaX x _) ?_;have hn1:n-1<=2000:=by omega
  have hl1:=SY ms;by_cases h5:x.kind=5
  ·obtain⟨a,b,hab⟩:=hx.two h5;have hcode:=Ex.aaZ h5 hab A.length;unfold Ex.aaY at hcode;rw[hab]at hbs hsz|-;rw[Ex.YV,Ex.YV,Ex.YX]at hsz;obtain⟨ba,hbs⟩:=Ex.Zw hbs;obtain⟨bb,_⟩:=Ex.Zw hbs;rw[h5]at ba bb;have ea:Ex.opens 5 (nm.length:Int) 0=nm.length:=rfl;have eb:∀v:V,Ex.opens 5 (nm.length:Int) (0+1)=(nm++[v]).length:=fun v=>by simp[Ex.opens]
   rw[ea]at ba;have pa:=Ex.size_pos a;have pb:=Ex.size_pos b;simp only;rw[ag h5];have ha:=hk a (by rw[hab];simp) fr p arg (A++[⟨100,0,0⟩]) ([⟨101,0,0⟩]++(b.code (A.length+1+(a.code (A.length+1)).length+1)++([⟨102,0,0⟩]++B))) c st nm (n-1) s M K hn1 (by rw[hc,hcode];simp) ba (by omega) (by omega);rw[ak,aJ]at ha;refine gz.mono (oZ (L2:=1+((b.code (A.length+1+(a.code (A.length+1)).length+1)).length+1)) ha fun v hgv=> ?_) (by rw[hcode];simp;omega);obtain⟨hla,hlb,hlc⟩:=rQ ms fr p a arg nm (n-1) s;have hld:=hlc v hgv;clear hlc;generalize EvF ms fr p a arg nm (n-1) s=oa at hla hlb hld hgv|-;refine gz.trans (y:=⟨A.length+1+(a.code (A.length+1)).length+1,st,nm++[v],oa.left,oa.s⟩) (gz.one (i:=⟨101,0,0⟩) (sJ (A:=A++([⟨100,0,0⟩]++a.code (A.length+1))) (B:=b.code (A.length+1+(a.code (A.length+1)).length+1)++([⟨102,0,0⟩]++B)) (by rw[hc,hcode];simp) (by simp;omega)) (by unfold gu;simp) (tK (by decide) (by simp;omega) (by simp only;omega) (fun _=>by simp) (fun e=>by omega))) ?_;have hb:=hk b (by rw[hab];simp) fr p arg (A++([⟨100,0,0⟩]++(a.code (A.length+1)++[⟨101,0,0⟩]))) ([⟨102,0,0⟩]++B) c st (nm++[v]) oa.left oa.s M K (by omega) (by rw[hc,hcode];simp[Nat.add_assoc,Nat.add_comm 1]) (by rw[<-eb v];exact bb) (by simp;omega) (by omega);simp only[ak,aJ]at hb;rw[show A.length+(1+((a.code (A.length+1)).length+1))=A.length+1+(a.code (A.length+1)).length+1 by omega]at hb;refine E9 hb fun u hgu=> ?_;obtain⟨_,hq1,hq2⟩:=rQ ms fr p b arg (nm++[v]) oa.left oa.s;have hq3:=hq2 u hgu;refine gz.one (i:=⟨102,0,0⟩) (sJ (A:=A++([⟨100,0,0⟩]++(a.code (A.length+1)++([⟨101,0,0⟩]++b.code (A.length+1+(a.code (A.length+1)).length+1))))) (B:=B) (by rw[hc,hcode];simp) (by simp;omega)) ?_ (tK (by decide) (by simp;omega) (by simp only;omega) (fun e=>by omega) (fun _=>by simp));unfold gu;rw[hcode];simp;omega
  by_cases h7:x.kind=7
  ·obtain⟨a,b,d,acj⟩:=hx.three h7;have hcode:=Ex.abk h7 acj A.length;unfold Ex.ifC at hcode;rw[acj]at hbs hsz;rw[Ex.YV,Ex.YV,Ex.YV,Ex.YX]at hsz;obtain⟨ba,hbs⟩:=Ex.Zw hbs;obtain⟨bb,hbs⟩:=Ex.Zw hbs;obtain⟨bd,_⟩:=Ex.Zw hbs;rw[h7]at ba bb bd;have pa:=Ex.size_pos a;have eo:∀i:Nat,Ex.opens 7 (nm.length:Int) i=nm.length:=fun i=>by simp[Ex.opens]
   rw[eo]at ba bb bd;obtain⟨q,hq⟩:∃q,q=A.length+1:=⟨_,rfl⟩;obtain⟨la,hla⟩:∃k,k=(a.code q).length:=⟨_,rfl⟩;obtain⟨lb,hlb⟩:∃k,k=(b.code (q+la+1)).length:=⟨_,rfl⟩;obtain⟨e,he⟩:∃k,k=q+la+1+lb+1:=⟨_,rfl⟩;have heq:Ex.ZF a b q=e:=(by unfold Ex.ZF;rw[<-hla,<-hlb,he]);rw[<-hq,heq,<-hla]at hcode;have hend:A.length+(x.code A.length).length=e+(d.code e).length:=(by rw[hcode];simp only[ak,aJ];rw[<-hla,<-hlb];omega);rw[hend,acj];simp only;have ha:=hk a (by rw[acj];simp) fr p arg (A++[⟨100,0,0⟩]) ([⟨103,(e:Nat),0⟩]++(b.code (q+la+1)++([⟨104,(e+(d.code e).length:Nat),0⟩]++(d.code e++B)))) c st nm (n-1) s M K hn1 (by rw[hc,hcode,hq];simp) ba (by omega) (by omega);rw[ak,aJ,<-hq,<-hla]at ha;rw[<-hq];refine gz.mono (oZ (L2:=1+(lb+1+(d.code e).length)) ha fun v hgv=> ?_) (by rw[hcode];simp only[ak,aJ];omega);obtain⟨hlo,afV,hlc⟩:=rQ ms fr p a arg nm (n-1) s;have hld:=hlc v hgv;clear hlc;generalize EvF ms fr p a arg nm (n-1) s=oa at hlo afV hld hgv|-;have hg:=sJ (c:=c) (k:=q+la) (A:=A++([⟨100,0,0⟩]++a.code q)) (B:=b.code (q+la+1)++([⟨104,(e+(d.code e).length:Nat),0⟩]++(d.code e++B))) (i:=⟨103,(e:Nat),0⟩) (by rw[hc,hcode];simp) (by simp only[ak,aJ];omega);have adR:pW F M K ⟨103,(e:Nat),0⟩ ⟨q+la,st++[v],nm,oa.left,oa.s⟩:=tK (by decide) (by simp;omega) (by simp only;omega) (fun _=>by simp) (fun e=>by omega);by_cases hv:v.kind=1;rw[ag hv];by_cases hz:v.n≠0;rw[ag hz];refine gz.mono (gz.trans (y:=⟨q+la+1,st,nm,oa.left,oa.s⟩) (L2:=lb+1) (gz.one hg (by unfold gu;simp[hv,hz]) adR) ?_) (by omega);have h1:(A++([(⟨100,0,0⟩:Ex.Ik)]++(a.code q++[(⟨103,(e:Nat),0⟩:Ex.Ik)]))).length=q+la+1:=(by simp only[ak,aJ];omega);have hb:=hk b (by rw[acj];simp) fr p arg (A++([⟨100,0,0⟩]++(a.code q++[⟨103,(e:Nat),0⟩]))) ([⟨104,(e+(d.code e).length:Nat),0⟩]++(d.code e++B)) c st nm oa.left oa.s M K (by omega) (by rw[h1,hc,hcode];simp) bb (by omega) (by omega);rw[h1,<-hlb]at hb;refine E9 hb fun u hgu=> ?_;obtain⟨_,hq1,hq2⟩:=rQ ms fr p b arg nm oa.left oa.s;have hq3:=hq2 u hgu;refine gz.one (i:=⟨104,(e+(d.code e).length:Nat),0⟩) (sJ (A:=A++([⟨100,0,0⟩]++(a.code q++([⟨103,(e:Nat),0⟩]++b.code (q+la+1))))) (B:=d.code e++B) (by rw[hc,hcode];simp) (by simp only[ak,aJ];omega)) ?_ (tK (by decide) (by simp;omega) (by simp only;omega) (fun e=>by omega) (fun e=>by omega));unfold gu;simp;omega;rw[af hz];have hz0:v.n=0:=Decidable.not_not.1 hz;refine gz.mono (gz.trans (y:=⟨e,st,nm,oa.left,oa.s⟩) (L2:=(d.code e).length) (gz.one hg (by unfold gu;simp[hv,hz0]) adR) ?_) (by omega);have h1:(A++([(⟨100,0,0⟩:Ex.Ik)]++(a.code q++([(⟨103,(e:Nat),0⟩:Ex.Ik)]++(b.code (q+la+1)++[(⟨104,(e+(d.code e).length:Nat),0⟩:Ex.Ik)]))))).length=e:=(by simp only[ak,aJ];omega);have hd:=hk d (by rw[acj];simp) fr p arg (A++([⟨100,0,0⟩]++(a.code q++([⟨103,(e:Nat),0⟩]++(b.code (q+la+1)++[(⟨104,(e+(d.code e).length:Nat),0⟩:Ex.Ik)]))))) B c st nm oa.left oa.s M K (by omega) (by rw[h1,hc,hcode];simp) bd (by omega) (by omega);rw[h1]at hd;exact hd;rw[af hv];exact(gz.one hg (by unfold gu;simp[hv,kD,bad]) adR).mono (by omega)
  have hcode:=Ex.aap h5 h7 A.length;have eo:∀i:Nat,Ex.opens x.kind (nm.length:Int) i=nm.length:=fun i=>by simp[Ex.opens,h5]
  match hxl:x.l with
  |[]=>
   rw[hxl,Ex.ZA]at hcode;rw[hxl]at hlen;simp only;refine gz.mono (L:=1) ?_ (by rw[hcode];simp);refine gz.one (i:=⟨x.kind,x.k,x.n⟩) (sJ (A:=A++[⟨100,0,0⟩]) (B:=B) (by rw[hc,hcode];simp) (by simp)) ?_ (DR hf1 h5 h7 (by simp only;omega) (by simp only;omega) (by rw[<-hlen];simp));rw[Cj hkind (by rw[<-hlen];rfl),hcode];simp
  |[a]=>
   rw[hxl,Ex.Zq,Ex.ZA,dC]at hcode;rw[hxl]at hlen hbs hsz;rw[Ex.YV,Ex.YX]at hsz;obtain⟨ba,_⟩:=Ex.Zw hbs;rw[eo]at ba;simp only;have ha:=hk a (by rw[hxl];simp) fr p arg (A++[⟨100,0,0⟩]) ([⟨x.kind,x.k,x.n⟩]++B) c st nm (n-1) s M K hn1 (by rw[hc,hcode];simp) ba (by omega) (by omega);rw[ak,aJ]at ha;refine gz.mono (oZ (L2:=1) ha fun v hgv=> ?_) (by rw[hcode];simp);obtain⟨_,hq1,hq2⟩:=rQ ms fr p a arg nm (n-1) s;have hq3:=hq2 v hgv;have pa:=Ex.size_pos a;refine gz.one (i:=⟨x.kind,x.k,x.n⟩) (sJ (A:=A++([⟨100,0,0⟩]++a.code (A.length+1))) (B:=B) (by rw[hc,hcode];simp) (by simp;omega)) ?_ (DR hf1 h5 h7 (by simp;omega) (by simp only;omega) (by rw[<-hlen];simp;omega));rw[FQ hkind (by rw[<-hlen];rfl),hcode];simp only[ak,aJ];rw[show A.length+1+(a.code (A.length+1)).length+1=A.length+(1+((a.code (A.length+1)).length+1))by omega]
  |[a,b]=>
   rw[hxl,Ex.Zq,Ex.Zq,Ex.ZA,dC]at hcode;rw[hxl]at hlen hbs hsz;rw[Ex.YV,Ex.YV,Ex.YX]at hsz;obtain⟨ba,hbs⟩:=Ex.Zw hbs;obtain⟨bb,_⟩:=Ex.Zw hbs;rw[eo]at ba bb;simp only;rw[af h5];have pa:=Ex.size_pos a;have pb:=Ex.size_pos b;have ha:=hk a (by rw[hxl];simp) fr p arg (A++[⟨100,0,0⟩]) (b.code (A.length+1+(a.code (A.length+1)).length)++([⟨x.kind,x.k,x.n⟩]++B)) c st nm (n-1) s M K hn1 (by rw[hc,hcode];simp) ba (by omega) (by omega);rw[ak,aJ]at ha;refine gz.mono (oZ (L2:=(b.code (A.length+1+(a.code (A.length+1)).length)).length+1) ha fun v hgv=> ?_) (by rw[hcode];simp);obtain⟨hla,hlb,hlc⟩:=rQ ms fr p a arg nm (n-1) s;have hld:=hlc v hgv;clear hlc;generalize EvF ms fr p a arg nm (n-1) s=oa at hla hlb hld hgv|-;have hb:=hk b (by rw[hxl];simp) fr p arg (A++([⟨100,0,0⟩]++a.code (A.length+1))) ([⟨x.kind,x.k,x.n⟩]++B) c (st++[v]) nm oa.left oa.s M K (by omega) (by rw[hc,hcode];simp[Nat.add_assoc,Nat.add_comm 1]) bb (by simp;omega) (by omega);simp only[ak,aJ]at hb;rw[show A.length+(1+(a.code (A.length+1)).length)=A.length+1+(a.code (A.length+1)).length by omega]at hb;refine oZ hb fun u hgu=> ?_;obtain⟨_,hq1,hq2⟩:=rQ ms fr p b arg nm oa.left oa.s;have hq3:=hq2 u hgu;refine gz.one (i:=⟨x.kind,x.k,x.n⟩) (sJ (A:=A++([⟨100,0,0⟩]++(a.code (A.length+1)++b.code (A.length+1+(a.code (A.length+1)).length)))) (B:=B) (by rw[hc,hcode];simp) (by simp;omega)) ?_ (DR hf1 h5 h7 (by simp;omega) (by simp only;omega) (by rw[<-hlen];simp;omega));rw[FO hkind (by rw[<-hlen];rfl),hcode];simp only[ak,aJ];congr 1;omega
  |a::b::d::l=>
   exfalso;rw[hxl]at hlen;have hp:Ex.Y5 x.kind<=2:=by
    unfold Ex.Y5;rw[af h7];(repeat' split);all_goals omega
   simp only[aL]at hlen;omega
theorem Sz(ms:fA)(F:Nat)(x:Ex.V)(hx:x.bad F 0=0)(fr:Nat)(p:Int)(arg:V)(n:Nat)(s:Sg)(hn:n<=2000):
 gz (cO ms) ms fr p arg (Ex.Zj x) F n (s.es.length+n) (x.code 0).length ⟨0,[],[],n,s⟩ (kD (x.code 0).length [] [] (EvF ms fr p x arg [] n s))/\(Ex.Zj x)[(x.code 0).length]?=some ⟨105,0,0⟩:=by
 refine⟨?_,by unfold Ex.Zj;simp⟩;have h:=Sv ms F x fr p arg [] [⟨105,0,0⟩] (Ex.Zj x) [] [] n s n (s.es.length+n) hn (by unfold Ex.Zj;simp) hx (by simp) (aj _);simpa using h
structure Fi(x:Fm):Prop where
 inv:Inv x.s
 st:∀v∈x.st,v.check=0
 nm:∀v∈x.nm,v.check=0
theorem wL(ms:fA):vQ (cO ms):=wz (Fa ms 2000) ms
theorem vD{l:List V}(h:∀v∈l,v.check=0):(l.getLastD v0).check=0:=by
 cases e:l.getLast? with
 |none=>rw[dD,e];exact iN
 |some v=>rw[dD,e];exact h v (List.mem_of_getLast? e)
theorem mD{l:List V}(h:∀v∈l,v.check=0):∀v∈l.dropLast,v.check=0:=fun v hv=>h v (List.dropLast_subset l hv)
def QK(x:Fm):Except End Fm->Prop
 | .ok y=>Fi y/\y.left<=x.left/\y.s.es.length+y.left<=x.s.es.length+x.left+1
 | .error e=>Inv e.2.2/\e.2.1<=x.left/\e.2.2.es.length+e.2.1<=x.s.es.length+x.left+1
theorem Jp{x:Fm}{st:List V}{o:Out}(h:su x.s x.left o)(hst:∀v∈st,v.check=0)(hnm:∀v∈x.nm,v.check=0):QK x (JC x.pc st x.nm o):=by
 unfold JC;cases e:o.got with
 |ok v=>
  refine⟨⟨h.inv,fun u hu=> ?_,hnm⟩,h.left,h.log⟩;rcases aK.1 hu with hu|hu;exact hst u hu;simp at hu;rw[hu];exact h.val v e
 |error c=>exact⟨h.inv,h.left,h.log⟩
theorem UU{ms:fA}{fr:Nat}{p:Int}{arg:V}{i:Ex.Ik}{x:Fm}(ha:arg.check=0)(h:Fi x):QK x (gu (cO ms) ms fr p arg i x):=by
 unfold gu;by_cases h0:i.op=100
 ·rw[ag h0];split;exact⟨h.inv,aP _,by simp only;omega⟩;exact⟨⟨h.inv,h.st,h.nm⟩,by simp only;omega,by simp only;omega⟩
 rw[af h0];by_cases h1:i.op=101;rw[ag h1];refine⟨⟨h.inv,mD h.st,fun v hv=> ?_⟩,aj _,dA _⟩;rcases aK.1 hv with hv|hv;exact h.nm v hv;rw[bD.1 hv];exact vD h.st;rw[af h1];by_cases h2:i.op=102;rw[ag h2];exact⟨⟨h.inv,h.st,mD h.nm⟩,aj _,dA _⟩;rw[af h2];by_cases h3:i.op=103
 ·rw[ag h3];split;exact⟨⟨h.inv,mD h.st,h.nm⟩,aj _,dA _⟩;exact⟨h.inv,aj _,dA _⟩
 rw[af h3];by_cases h4:i.op=104;rw[ag h4];exact⟨⟨h.inv,h.st,h.nm⟩,aj _,dA _⟩;rw[af h4];split;exact Jp (xV h.inv _ _ _ _ _ ha _ h.nm _).one h.st h.nm
 ·split;exact Jp (AO (wL ms) h.inv _ _ _ _ _ (vD h.st) _) (mD h.st) h.nm;exact Jp (Bg (wL ms) h.inv _ _ _ _ _ _ _ (vD h.st) _) (mD (mD h.st)) h.nm
