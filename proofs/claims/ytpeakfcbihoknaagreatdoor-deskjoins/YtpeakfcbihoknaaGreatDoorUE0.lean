/- Parts. -/
import Derived.Test.YtpeakfcbihoknaaGreatDoorUV0
import Derived.Lib.OthersKept
import Derived.Deep.RegionLaw
import Derived.Laws.OwnMore
import Derived.StillTailTactics
import Derived.Laws.ResultCell
import Derived.MapKept
import Derived.WideKeyRuns
import Derived.LaidEql
import Derived.Laws.StructEq
open Go.ChangeShapes Go.WideShapes Go.ChangeAt Go.RowKit
set_option maxRecDepth 8000
set_option maxHeartbeats 4000000
namespace Go.Proofs.YtpeakfcbihoknaaGreatDoor
open Proofs.Tryz
namespace Ex
structure V where
 kind:Int
 k:Int
 n:Int
 l:List V
theorem V.aan{P:V->Prop}(h:∀v:V,(∀x∈v.l,P x)->P v)(v:V):P v:=
 V.rec (motive_1:=P) (motive_2:=fun l=>∀x∈l,P x) (fun k kk n l ih=>h ⟨k,kk,n,l⟩ ih) (by simp) (fun a l h1 h2=>by simp only[aU,forall_eq_or_imp];exact⟨h1,h2⟩) v
def V.size:V->Nat
 |⟨_,_,_,l⟩=>1+sizes l
 where sizes:List V->Nat
  |[]=>0
  |v::l=>V.size v+sizes l
abbrev sizes(l:List V):Nat:=V.size.sizes l
theorem size_eq(v:V):v.size=1+sizes v.l:=by cases v;rw[V.size]
theorem YX:sizes []=0:=by simp only[sizes,V.size.sizes]
theorem YV(v:V)(l:List V):sizes (v::l)=v.size+sizes l:=by simp only[sizes,V.size.sizes]
theorem iZ(a b:List V):sizes (a++b)=sizes a+sizes b:=by
 induction a with
 |nil=>simp[YX]
 |cons x a ih=>rw[bG,YV,YV,ih];omega
theorem size_pos(v:V):1<=v.size:=by rw[size_eq];omega
theorem ky(v:V):sizes [v]=v.size:=by rw[YV,YX];rfl
theorem fG(l:List V):l.length<=sizes l:=by
 induction l with
 |nil=>simp
 |cons x a ih=>rw[YV,aL];have:=size_pos x;omega
theorem uz{l:List V}{v:V}(h:v∈l):v.size<=sizes l:=by
 induction l with
 |nil=>simp at h
 |cons x a ih=>
  rw[YV];rcases aU.1 h with rfl|h;omega;have:=ih h;omega
theorem sO(l:List V)(i:Nat)(h:i<l.length):l[i].size<=sizes l:=uz (aI h)
theorem mo(l:List V)(i:Nat)(h:i<l.length):sizes (l.take (i+1))=sizes (l.take i)+l[i].size:=by
 rw[dQ,iZ,aQ h];simp[YV,YX]
theorem gy(l:List V)(i:Nat):sizes (l.take i)<=sizes l:=by
 have h:sizes l=sizes (l.take i++l.drop i):=by rw[dS]
 rw[h,iZ];omega
def V.same:V->V->Bool
 |⟨k,kk,n,l⟩,⟨k',kk',n',l'⟩=>k==k'&&kk==kk'&&n==n'&&aav l l'
 where aav:List V->List V->Bool
  |[],[]=>true
  |a::l,b::l'=>V.same a b&&aav l l'
  |[],_::_=>false
  |_::_,[]=>false
abbrev aav(a b:List V):Bool:=V.same.aav a b
theorem Ro{x y:V}:x=y<->(x.kind=y.kind/\x.k=y.k/\x.n=y.n)/\x.l=y.l:=by cases x;cases y;simp[and_assoc]
def V.deep:V->Nat
 |⟨_,_,_,l⟩=>Zl l
 where Zl:List V->Nat
  |[]=>0
  |v::l=>max (1+V.deep v) (Zl l)
abbrev Zl(l:List V):Nat:=V.deep.Zl l
theorem VB(v:V):v.deep=Zl v.l:=by cases v;rw[V.deep]
theorem qZ:Zl []=0:=by simp only[Zl,V.deep.Zl]
theorem oK(v:V)(l:List V):Zl (v::l)=max (1+v.deep) (Zl l):=by simp only[Zl,V.deep.Zl]
theorem Dz(a b:List V):Zl (a++b)=max (Zl a) (Zl b):=by
 induction a with
 |nil=>simp[qZ]
 |cons x a ih=>rw[bG,oK,oK,ih];omega
theorem J8(l:List V)(i:Nat)(h:i<l.length):Zl (l.take (i+1))=max (Zl (l.take i)) (1+Zl l[i].l):=by
 rw[dQ,Dz,aQ h];simp[oK,qZ,VB]
theorem Ou{l:List V}(h:l≠[]):1<=Zl l:=by
 cases l with
 |nil=>exact absurd rfl h
 |cons v l=>rw[oK];omega
theorem LX(v:V):Zl [v]=1+v.deep:=by rw[oK,qZ];omega
def Y5(k:Int):Int:=
 if k=7 then 3 else if k=5\/k=6\/k=8\/k=14\/k=19 then 2
 else if k=9\/k=10\/k=11\/k=12\/k=13\/k=15\/k=16\/k=17\/k=18\/k=20 then 1
 else if k=1\/k=2\/k=3\/k=4\/k=21 then 0 else -1
def Y7(F kind k o:Int):Int:=
 if kind=4 then(if 0<=k/\k<o then 0 else 1)
 else if kind=6 then(if 1<=k/\k<=5 then 0 else 1)
 else if kind=15 then(if 0<=k/\k<=15 then 0 else 1)
 else if kind=18 then(if 0<=k/\k<F then 0 else 1)
 else if k=0 then 0 else 5
def YW(F:Int)(v:V)(o:Int):Int:=
 if Y5 v.kind<0 then 2 else if(v.l.length:Int)≠Y5 v.kind then 5 else if v.n≠0/\v.kind≠2 then 5
 else if Y7 F v.kind v.k o≠0 then Y7 F v.kind v.k o else if v.kind=5/\12<=o then 3 else 0
def opens(kind o:Int)(i:Nat):Int:=if kind=5/\i=1 then o+1 else o
def V.bad(F:Int):V->Int->Int
 |⟨kind,k,n,l⟩,o=>if YW F ⟨kind,k,n,l⟩ o=0 then Z5 kind l 0 o else YW F ⟨kind,k,n,l⟩ o
 where Z5 (kind:Int):List V->Nat->Int->Int
  |[],_,_=>0
  |v::l,i,o=>if V.bad F v (opens kind o i)=0 then Z5 kind l (i+1) o else V.bad F v (opens kind o i)
abbrev Z5(F kind:Int)(l:List V)(i:Nat)(o:Int):Int:=V.bad.Z5 F kind l i o
theorem Ke(F:Int)(v:V)(o:Int):v.bad F o=if YW F v o=0 then Z5 F v.kind v.l 0 o else YW F v o:=by cases v;rw[V.bad]
theorem GD(F kind:Int)(i:Nat)(o:Int):Z5 F kind [] i o=0:=by simp only[Z5,V.bad.Z5]
theorem uU(F kind:Int)(v:V)(l:List V)(i:Nat)(o:Int):Z5 F kind (v::l) i o=if v.bad F (opens kind o i)=0 then Z5 F kind l (i+1) o else v.bad F (opens kind o i):=by simp only[Z5,V.bad.Z5]
def pK(F:Int)(v:V):Int:=if 30<v.deep then 4 else if 120<v.size then 3 else v.bad F 0
def ZR(F:Int):List V->Nat->Int×Int
 |[],_=>(0,0)
 |v::l,i=>if pK F v=0 then ZR F l (i+1)else(pK F v,(i:Int))
def Y6(l:List V):Int×Int:=if l.length<1\/6<l.length then(3, -1)else ZR (l.length:Int) l 0
def Ok(v:V):Prop:=∃F o,v.bad F o=0
theorem PI{F kind:Int}{l:List V}{i:Nat}{o:Int}(h:Z5 F kind l i o=0):∀x∈l,Ok x:=by
 induction l generalizing i with
 |nil=>intro x hx;simp at hx
 |cons v l ih=>
  rw[uU]at h;by_cases h0:v.bad F (opens kind o i)=0;rw[ag h0]at h;intro x hx;rcases aU.1 hx with rfl|hx;exact⟨F,_,h0⟩;exact ih h x hx;rw[af h0]at h;exact absurd h h0
theorem aaz{F:Int}{v:V}{o:Int}(h:v.bad F o=0):YW F v o=0/\Z5 F v.kind v.l 0 o=0:=by
 rw[Ke]at h;by_cases h0:YW F v o=0;rw[ag h0]at h;exact⟨h0,h⟩;rw[af h0]at h;exact absurd h h0
theorem Zw{F kind:Int}{v:V}{l:List V}{i:Nat}{o:Int}(h:Z5 F kind (v::l) i o=0):v.bad F (opens kind o i)=0/\Z5 F kind l (i+1) o=0:=by
 rw[uU]at h;by_cases h0:v.bad F (opens kind o i)=0;rw[ag h0]at h;exact⟨h0,h⟩;rw[af h0]at h;exact absurd h h0
theorem Ok.kids{v:V}(h:Ok v):∀x∈v.l,Ok x:=by
 obtain⟨F,o,h⟩:=h;exact PI (aaz h).2
theorem ZM{F:Int}{v:V}{o:Int}(h:YW F v o=0):(1<=v.kind/\v.kind<=21)/\(v.l.length:Int)=Y5 v.kind/\(v.kind=4->v.k<o)/\(v.kind=5->o<12):=by
 unfold YW at h;by_cases h1:Y5 v.kind<0;rw[ag h1]at h;cases h;rw[af h1]at h;by_cases h2:(v.l.length:Int)≠Y5 v.kind;rw[ag h2]at h;cases h;rw[af h2]at h;by_cases h3:v.n≠0/\v.kind≠2;rw[ag h3]at h;cases h;rw[af h3]at h;by_cases h4:Y7 F v.kind v.k o≠0;rw[ag h4]at h;exact absurd h h4;rw[af h4]at h;refine⟨?_,by omega,fun e=> ?_,fun e=> ?_⟩
 ·unfold Y5 at h1;generalize v.kind=x at h1;repeat' split at h1
  all_goals omega
 ·unfold Y7 at h4;rw[ag e]at h4;by_cases e2:0<=v.k/\v.k<o;exact e2.2;rw[af e2]at h4;exact absurd (by decide) h4
 ·by_cases e2:12<=o;rw[ag ⟨e,e2⟩]at h;cases h;omega
theorem Ok.two{v:V}(h:Ok v)(hk:v.kind=5):∃a b,v.l=[a,b]:=by
 obtain⟨F,o,h⟩:=h;have h1:=(ZM (aaz h).1).2.1;rw[hk,show Y5 5=2 by decide]at h1
 match h2:v.l with
 |[a,b]=>exact⟨a,b,rfl⟩
 |[]=>rw[h2]at h1;simp at h1
 |[_]=>rw[h2]at h1;simp at h1
 |_::_::_::_=>rw[h2]at h1;simp only[aL]at h1;omega
theorem Ok.three{v:V}(h:Ok v)(hk:v.kind=7):∃a b c,v.l=[a,b,c]:=by
 obtain⟨F,o,h⟩:=h;have h1:=(ZM (aaz h).1).2.1;rw[hk,show Y5 7=3 by decide]at h1
 match h2:v.l with
 |[a,b,c]=>exact⟨a,b,c,rfl⟩
 |[]=>rw[h2]at h1;simp at h1
 |[_]=>rw[h2]at h1;simp at h1
 |[_,_]=>rw[h2]at h1;simp at h1
 |_::_::_::_::_=>rw[h2]at h1;simp only[aL]at h1;omega
structure Ik where
 op:Int
 k:Int
 n:Int
def pG(kind:Int)(i:Nat):Nat:=if kind=5/\i=1\/kind=7/\(i=1\/i=2)then 1 else 0
def aa8(kind:Int)(i len p:Nat):List Ik:=
 if kind=5/\i=1 then[⟨101,0,0⟩]else if kind=7/\i=1 then[⟨103,(p+len+2:Nat),0⟩]else if kind=7/\i=2 then[⟨104,(p+len+1:Nat),0⟩]else[]
def postC(kind k n:Int):List Ik:=if kind=5 then[⟨102,0,0⟩]else if kind=7 then[]else[⟨kind,k,n⟩]
def V.code:V->Nat->List Ik
 |⟨kind,k,n,l⟩,p=>⟨100,0,0⟩::(codes kind l 0 (p+1)++postC kind k n)
 where codes (kind:Int):List V->Nat->Nat->List Ik
  |[],_,_=>[]
  |v::l,i,p=>aa8 kind i (V.code v (p+pG kind i)).length p++(V.code v (p+pG kind i)++codes kind l (i+1) (p+pG kind i+(V.code v (p+pG kind i)).length))
abbrev codes(kind:Int)(l:List V)(i p:Nat):List Ik:=V.code.codes kind l i p
theorem aaa(v:V)(p:Nat):v.code p=⟨100,0,0⟩::(codes v.kind v.l 0 (p+1)++postC v.kind v.k v.n):=by cases v;rw[V.code]
theorem ZC(kind:Int)(i p:Nat):codes kind [] i p=[]:=by simp only[codes,V.code.codes]
theorem Zk(kind:Int)(v:V)(l:List V)(i p:Nat):codes kind (v::l) i p=aa8 kind i (v.code (p+pG kind i)).length p++(v.code (p+pG kind i)++codes kind l (i+1) (p+pG kind i+(v.code (p+pG kind i)).length)):=by simp only[codes,V.code.codes]
theorem zw(kind:Int)(i len p:Nat):(aa8 kind i len p).length=pG kind i:=by
 unfold aa8 pG;by_cases h1:kind=5/\i=1;rw[ag h1,ag (.inl h1)];rfl;rw[af h1];by_cases h2:kind=7/\i=1;rw[ag h2,ag (.inr ⟨h2.1,.inl h2.2⟩)];rfl;rw[af h2];by_cases h3:kind=7/\i=2;rw[ag h3,ag (.inr ⟨h3.1,.inr h3.2⟩)];rfl;rw[af h3,af (by rintro(h|⟨h,h'|h'⟩);exact h1 h;exact h2 ⟨h,h'⟩;exact h3 ⟨h,h'⟩)];rfl
theorem Pp(kind:Int)(i:Nat):pG kind i<=1:=by unfold pG;split<;>omega
theorem Vk(kind k n:Int):(postC kind k n).length<=1:=by
 unfold postC;repeat' split
 all_goals simp
theorem nE(v:V):∀p,(v.code p).length+1<=3*v.size:=by
 induction v using V.aan with
 |h v ih=>
  have key:∀(l:List V),(∀x∈l,∀p,(x.code p).length+1<=3*x.size)->∀i p,(codes v.kind l i p).length<=3*sizes l:=by
   intro l;induction l with
   |nil=>intro _ i p;rw[ZC];simp
   |cons x l ihl=>
    intro hx i p;rw[Zk,ak,ak,zw,YV];have h1:=hx x (by simp) (p+pG v.kind i);have h2:=ihl (fun y hy=>hx y (by simp[hy])) (i+1) (p+pG v.kind i+(x.code (p+pG v.kind i)).length);have h3:=Pp v.kind i;omega
  intro p;rw[aaa,aL,ak,size_eq];have h1:=key v.l ih 0 (p+1);have h2:=Vk v.kind v.k v.n;omega
theorem aaX(v:V)(p:Nat):1<=(v.code p).length:=by rw[aaa,aL];omega
theorem Ml(kind:Int)(l:List V):∀i p,(codes kind l i p).length<=3*sizes l:=by
 induction l with
 |nil=>intro i p;rw[ZC];simp
 |cons x l ih=>
  intro i p;rw[Zk,ak,ak,zw,YV];have h1:=nE x (p+pG kind i);have h2:=ih (i+1) (p+pG kind i+(x.code (p+pG kind i)).length);have h3:=Pp kind i;omega
def aaY(a b:V)(p:Nat):List Ik:=a.code p++([⟨101,0,0⟩]++(b.code (p+(a.code p).length+1)++[⟨102,0,0⟩]))
theorem aaZ{v a b:V}(hk:v.kind=5)(hl:v.l=[a,b])(p:Nat):v.code p=[⟨100,0,0⟩]++aaY a b (p+1):=by
 rw[aaa,hl,hk,Zk,Zk,ZC];simp[aa8,pG,postC,aaY]
def ZF(a b:V)(p:Nat):Nat:=p+(a.code p).length+1+(b.code (p+(a.code p).length+1)).length+1
def ifC(a b c:V)(p:Nat):List Ik:=
 a.code p++([⟨103,(ZF a b p:Nat),0⟩]++(b.code (p+(a.code p).length+1)++([⟨104,(ZF a b p+(c.code (ZF a b p)).length:Nat),0⟩]++c.code (ZF a b p))))
theorem abk{v a b c:V}(hk:v.kind=7)(hl:v.l=[a,b,c])(p:Nat):v.code p=[⟨100,0,0⟩]++ifC a b c (p+1):=by
 rw[aaa,hl,hk,Zk,Zk,Zk,ZC];simp[aa8,pG,postC,ifC,ZF];omega
def iH(l:List V)(p:Nat):List Ik:=codes 0 l 0 p
theorem yG{kind:Int}(h5:kind≠5)(h7:kind≠7)(l:List V):∀i p,codes kind l i p=codes 0 l 0 p:=by
 have e:∀(x:Int),x≠5->x≠7->∀i len p,aa8 x i len p=[]/\pG x i=0:=by
  intro x h5 h7 i len p;unfold aa8 pG;rw[af (by omega),af (by omega),af (by omega),af (by omega)];exact⟨rfl,rfl⟩
 have key:∀l i j p,codes kind l i p=codes 0 l j p:=by
  intro l;induction l with
  |nil=>intro i j p;rw[ZC,ZC]
  |cons x l ih=>
   intro i j p;rw[Zk,Zk,(e kind h5 h7 i _ p).1,(e kind h5 h7 i 0 p).2,(e 0 (by decide) (by decide) j _ p).1,(e 0 (by decide) (by decide) j 0 p).2,ih (i+1) (j+1)]
 exact fun i p=>key l i 0 p
theorem ZA(p:Nat):iH [] p=[]:=by unfold iH;exact ZC _ _ _
theorem Zq(v:V)(l:List V)(p:Nat):iH (v::l) p=v.code p++iH l (p+(v.code p).length):=by
 unfold iH;rw[Zk,yG (by decide) (by decide) l 1];simp[aa8,pG]
theorem JF(a b:List V):∀p,iH (a++b) p=iH a p++iH b (p+(iH a p).length):=by
 induction a with
 |nil=>intro p;simp[ZA]
 |cons x a ih=>intro p;rw[bG,Zq,Zq,ih,aV,ak,Nat.add_assoc]
theorem EO(l:List V)(j:Nat)(h:j<l.length)(p:Nat):iH (l.take (j+1)) p=iH (l.take j) p++l[j].code (p+(iH (l.take j) p).length):=by
 rw[dQ,aQ h,JF];simp[Zq,ZA]
theorem Iq(l:List V)(p:Nat):(iH l p).length<=3*sizes l:=Ml 0 l 0 p
theorem aap{v:V}(h5:v.kind≠5)(h7:v.kind≠7)(p:Nat):v.code p=[⟨100,0,0⟩]++(iH v.l (p+1)++[⟨v.kind,v.k,v.n⟩]):=by
 rw[aaa,yG h5 h7,postC,af h5,af h7];rfl
def Zj(v:V):List Ik:=v.code 0++[⟨105,0,0⟩]
def V.fits(v:V):Prop:=dH v.kind/\dH v.k/\dH v.n
def V.head(w:World)(v:V)(b off:Nat):Prop:=w.cell? ⟨b,off,none⟩=some (.int .i64 v.kind)/\w.cell? ⟨b,off+1,none⟩=some (.int .i64 v.k)/\w.cell? ⟨b,off+2,none⟩=some (.int .i64 v.n)
def V.at(w:World):V->Nat->Nat->Prop
 |⟨k,kk,n,l⟩,b,off=>V.fits ⟨k,kk,n,l⟩/\V.head w ⟨k,kk,n,l⟩ b off/\
   ∃ao cap,w.cell? ⟨b,off+3,none⟩=some (.slice ao l.length cap)/\(l=[]\/∃b' off',ao=some ⟨b',off',none⟩/\ats l b' off')
 where ats:List V->Nat->Nat->Prop
  |[],_,_=>True
  |v::l,b,off=>V.at w v b off/\ats l b (off+4)
def Fo(w:World)(l:List V)(ao:Option Addr):Prop:=∀i (h:i<l.length),∃b off,ao=some ⟨b,off,none⟩/\l[i].at w b (off+i*4)
structure Is(w:World)(v:V)(ao:Option Addr):Prop where
 fit:v.fits
 fo:Fo w v.l ao
theorem wP(w:World)(l:List V)(b off:Nat):V.at.ats w l b off<->∀i (h:i<l.length),l[i].at w b (off+i*4):=by
 induction l generalizing off with
 |nil=>simp[V.at.ats]
 |cons v l ih=>
  rw[V.at.ats,ih];constructor
  ·rintro⟨h0,h1⟩ i hi;cases i with
   |zero=>simpa using h0
   |succ i=>have:=h1 i (by simpa using hi);rw[show off+4+i*4=off+(i+1)*4 by omega]at this;simpa using this
  ·intro h;refine⟨h 0 (by simp),fun i hi=> ?_⟩;have:=h (i+1) (by simpa using hi);rw[show off+4+i*4=off+(i+1)*4 by omega];simpa using this
theorem AU(w:World)(l:List V)(ao:Option Addr):Fo w l ao<->(l=[]\/∃b' off',ao=some ⟨b',off',none⟩/\V.at.ats w l b' off'):=by
 constructor
 ·intro h;cases l with
  |nil=>exact .inl rfl
  |cons v l=>
   obtain⟨b,off,e,_⟩:=h 0 (by simp);refine .inr ⟨b,off,e,(wP w _ b off).2 fun i hi=> ?_⟩;obtain⟨b',off',e',h'⟩:=h i hi;rw[e]at e';cases e';exact h'
 ·rintro(rfl|⟨b,off,e,h⟩);intro i hi;simp at hi;intro i hi;exact⟨b,off,e,(wP w l b off).1 h i hi⟩
theorem Zt(w:World)(v:V)(b off:Nat):v.at w b off<->v.head w b off/\∃ao cap,w.cell? ⟨b,off+3,none⟩=some (.slice ao v.l.length cap)/\Is w v ao:=by
 obtain⟨k,kk,n,l⟩:=v;rw[V.at];constructor;rintro⟨hf,hh,ao,cap,c2,h⟩;exact⟨hh,ao,cap,c2,hf,(AU w l ao).2 h⟩;rintro⟨hh,ao,cap,c2,hf,h⟩;exact⟨hf,hh,ao,cap,c2,(AU w l ao).1 h⟩
theorem Fo.nil(w:World)(ao:Option Addr):Fo w [] ao:=fun i hi=>by simp at hi
theorem Fo.get{w:World}{l:List V}{ao:Option Addr}(h:Fo w l ao)(i:Nat)(hi:i<l.length):
 ∃b off,ao=some ⟨b,off,none⟩/\l[i].head w b (off+i*4)/\∃ai cap,w.cell? ⟨b,off+i*4+3,none⟩=some (.slice ai l[i].l.length cap)/\Is w l[i] ai:=by
 obtain⟨b,off,e,h⟩:=h i hi;exact⟨b,off,e,(Zt w _ _ _).1 h⟩
theorem Is.get{w:World}{v:V}{ao:Option Addr}(h:Is w v ao)(i:Nat)(hi:i<v.l.length):
 ∃b off,ao=some ⟨b,off,none⟩/\v.l[i].head w b (off+i*4)/\∃ai cap,w.cell? ⟨b,off+i*4+3,none⟩=some (.slice ai v.l[i].l.length cap)/\Is w v.l[i] ai:=h.fo.get i hi
theorem gq{w w':World}(hk:∀(a:Addr) (x:Value),w.cell? a=some x->w'.cell? a=some x){v:V}{b off:Nat}(h:v.head w b off):v.head w' b off:=
 ⟨hk _ _ h.1,hk _ _ h.2.1,hk _ _ h.2.2⟩
theorem xq{w w':World}(hk:∀(a:Addr) (x:Value),w.cell? a=some x->w'.cell? a=some x)(v:V):∀b off,v.at w b off->v.at w' b off:=by
 induction v using V.aan with
 |h v ih=>
  intro b off h;rw[Zt]at h|-;obtain⟨c0,ao,cap,c2,i⟩:=h;refine⟨gq hk c0,ao,cap,hk _ _ c2,i.fit,fun j hj=> ?_⟩;obtain⟨b',off',e,h'⟩:=i.fo j hj;exact⟨b',off',e,ih _ (aI hj) _ _ h'⟩
theorem Fo.kept{w w':World}{l:List V}{ao:Option Addr}(h:Fo w l ao)(hk:∀(a:Addr) (x:Value),w.cell? a=some x->w'.cell? a=some x):Fo w' l ao:=
 fun j hj=>by obtain⟨b',off',e,h'⟩:=h j hj;exact⟨b',off',e,xq hk _ _ _ h'⟩
theorem Is.kept{w w':World}{v:V}{ao:Option Addr}(h:Is w v ao)(hk:∀(a:Addr) (x:Value),w.cell? a=some x->w'.cell? a=some x):Is w' v ao:=⟨h.fit,h.fo.kept hk⟩
theorem eZ{w w':World}(hb:Below w.heap.size w w'):∀(a:Addr)(x:Value),w.cell? a=some x->w'.cell? a=some x:=fun a _ hc=>(bz (hb.block a.block (aW w a hc))).trans hc
theorem Fo.low{w w':World}{l:List V}{ao:Option Addr}(h:Fo w l ao)(hb:Below w.heap.size w w'):Fo w' l ao:=h.kept (eZ hb)
theorem Is.low{w w':World}{v:V}{ao:Option Addr}(h:Is w v ao)(hb:Below w.heap.size w w'):Is w' v ao:=h.kept (eZ hb)
theorem Fo.quiet{w w':World}{l:List V}{ao:Option Addr}(h:Fo w l ao)(hq:aA w w'):Fo w' l ao:=h.low hq.low
theorem Is.quiet{w w':World}{v:V}{ao:Option Addr}(h:Is w v ao)(hq:aA w w'):Is w' v ao:=h.low hq.low
theorem Is.leaf(w:World)(v:V)(hf:v.fits)(hl:v.l=[])(ao:Option Addr):Is w v ao:=⟨hf,by rw[hl];exact Fo.nil w ao⟩
theorem jw{P:Program}{t:TypeId}{z:Value}{s b:Nat}(h:(P.info? t).map (fun i=>(i.zero,i.size,i.bytes))=some (some z,s,b)):∃i,P.info? t=some i/\i.zero=some z/\i.size=s/\i.bytes=b:=by
 cases hi:P.info? t with
 |none=>simp[hi]at h
 |some i=>simp[hi]at h;exact⟨i,rfl,h.1,h.2.1,h.2.2⟩
theorem kL:(prog.info? 3).map (fun i=>(i.zero,i.size,i.bytes))=some (some (.int .i64 0),1,8):=by kernel_rfl
theorem fM:(prog.info? 129).map (fun i=>(i.zero,i.size,i.bytes))=some (some (.agg #[.int .i64 0,.int .i64 0,.int .i64 0,.slice none 0 0]),4,48):=by kernel_rfl
theorem fE:prog.underlying 90=some (.slice 129):=by kernel_rfl
theorem kN:(prog.info? 90).map (fun i=>(i.zero,i.size,i.bytes))=some (some (.slice none 0 0),1,24):=by kernel_rfl
theorem lV:prog.underlying 319=some (.slice 90):=by kernel_rfl
theorem gT(w:World)(l:List Value)(t:TypeId):∀j u,l[j]?=some u->(w.alloc (.cells l.toArray t)).cell? ((⟨w.heap.size,0,none⟩:Addr).add j)=some u:=by
 intro j u hu;rw[Addr.add_lit,cell_of_row _ _ _ _ t (0,0) (ah w _)];simpa using hu
theorem Y2(w:World)(o1 o2:Obj):((w.alloc o1).alloc o2).heap[w.heap.size+1]?=some o2:=by
 have h:=ah (w.alloc o1) o2;rwa[World.size_alloc]at h
theorem kE{w:World}{x:Nat}{l:List Value}{t:TypeId}(h:w.heap[x]?=some (.cells l.toArray t (0,0))):∀j u,l[j]?=some u->w.cell? ((⟨x,0,none⟩:Addr).add j)=some u:=by
 intro j u hu;rw[Addr.add_lit,cell_of_row _ _ _ _ t (0,0) h];simpa using hu
theorem pO{w wr w1:World}{o:Obj}{e:TypeId}{size:Nat}{v:Value}{n:Nat}{xs:List Value}(hk:aA w wr)(hr:wr.ownsRow w.heap.size e size v n xs)(hg:(wr.alloc o).grownBy w1 v.ownBlock):aA w w1:=
 hk.fresh ((Kp.alloc _ o).trans (Kp.grown hg fun k _ e=>(hr.lt k e.symm).1))
def rX(l:List Int):List Value:=l.map (Value.int .i64)
theorem aM{w:World}{x:Nat}{a b c d:Value}{t:TypeId}(h:w.heap[x]?=some (.cells #[a,b,c,d] t (0,0))):w.cell? ⟨x,0,none⟩=some a/\w.cell? ⟨x,1,none⟩=some b/\w.cell? ⟨x,2,none⟩=some c/\w.cell? ⟨x,3,none⟩=some d:=by
 refine⟨?_, ?_, ?_, ?_⟩<;>simp[World.cell?,h]
theorem lU{w:World}{base:Nat}{e:TypeId}{size g n cap:Nat}{xs ys:List Value}(h:w.ownsRow base e size (.slice (some ⟨g,0,none⟩) (n+1) cap) (n+1) (xs++ys))(hy:ys.length=size):
 w.ownsRow base e size (.slice (some ⟨g,0,none⟩) n cap) n xs/\∀j,j<size->w.cell? ⟨g,n*size+j,none⟩=ys[j]?:=by
 have hl:xs.length=n*size:=by
  have:=h.1;rw[ak,hy,Nat.add_mul]at this;omega
 obtain⟨g',e',d⟩:=Zc h (by omega);cases e';refine⟨⟨hl, ?_⟩,fun j hj=> ?_⟩;rcases h.2 with⟨h',_⟩|⟨g',cap',cur,h',hb,hg,hc,hm,hs,ht⟩;simp at h';simp only[aY,aT,eG,true_and]at h';obtain⟨⟨rfl,_⟩,rfl⟩:=h';refine .inr ⟨g,cap,cur,rfl,hb,hg,by omega,hm,hs, ?_⟩;have h2:=aC (List.take (n*size)) ht;rw[List.take_take,Nat.min_eq_left (by rw[Nat.add_mul];omega),List.take_append_of_le_length (by omega),show xs.take (n*size)=xs from cz (by omega)]at h2;exact h2
 ·rw[d _ (by rw[Nat.add_mul];omega),bX (by omega)];congr 1;omega
theorem kQ{w:World}{base:Nat}{e:TypeId}{size g n cap:Nat}{xs:List Value}(h:w.ownsRow base e size (.slice (some ⟨g,0,none⟩) n cap) n xs):n<=cap:=by
 rcases h.2 with⟨h',_⟩|⟨g',cap',cur,h',hb,hg,hc,_⟩;simp at h';simp only[aY,aT,eG,true_and]at h';omega
theorem rq{B:Nat}{w w':World}(hb:Below B w w'){a:Addr}{x:Value}(hc:w.cell? a=some x)(ha:a.block<B):w'.cell? a=some x:=
 (bz (hb.block a.block ha)).trans hc
theorem sj{B:Nat}{W a b:World}(h:Below B W a)(q:aA a b)(hB:B<=a.heap.size):Below B W b:=h.trans (q.below hB fun _ e=>e.elim)
theorem xI(w:World)(t:TypeId)(x:Value):(w.alloc (.cells #[x] t)).ownsRow w.heap.size t 1 (.slice (some ⟨w.heap.size,0,none⟩) 1 1) 1 [x]:=
 ⟨by simp,.inr ⟨w.heap.size,1,#[x],rfl,aj _,ah w _,aj _,by decide,by simp,by simp⟩⟩
theorem iF{α:Type}(l:List α)(k:Nat)(hk:k<l.length):l.take (k+1)=l.take k++[l[k]]:=by
 rw[dQ];simp[hk]
theorem rW{w w1:World}{r:Option Nat}(h:w.drew.grownBy w1 r):w.grownBy w1 r:=⟨h.os,h.tape,h.output,h.size,h.block⟩
abbrev Pl:=List V×Option Addr×Nat
def Z0(x:Pl):Value:= .slice x.2.1 x.1.length x.2.2
def tsz(ts:List Pl):Nat:=(ts.map fun x=>1+sizes x.1).sum
theorem zx:tsz []=0:=rfl
theorem kC(a b:List Pl):tsz (a++b)=tsz a+tsz b:=by simp[tsz]
theorem mR(x:Pl):tsz [x]=1+sizes x.1:=by simp[tsz]
theorem wF(ts:List Pl):ts.length<=tsz ts:=by
 induction ts with
 |nil=>simp[tsz]
 |cons x ts ih=>simp[tsz]at ih|-;omega
def trs(ts:List Pl):Nat:=(ts.map fun x=>sizes x.1-x.1.length).sum
theorem wS:trs []=0:=rfl
theorem rU(a b:List Pl):trs (a++b)=trs a+trs b:=by simp[trs]
theorem rM(x:Pl):trs [x]=sizes x.1-x.1.length:=by simp[trs]
def Lie(w:World)(ts:List Pl):Prop:=∀x∈ts,Fo w x.1 x.2.1
theorem Lie.app{w:World}{a b:List Pl}(h:Lie w a)(k:Lie w b):Lie w (a++b):=by
 intro x hx;rcases aK.1 hx with h'|h';exact h x h';exact k x h'
theorem xD{W wr w1:World}{B n:Nat}{x:Pl}{ts:List Pl}{sv:Value}{g cap:Nat}{o:Obj}(hB:Below B W wr)(hBB:B<=wr.heap.size)(hr:wr.ownsRow B 90 1 sv n (ts.map Z0))(hn:n=ts.length)
 (hr1:w1.ownsRow B 90 1 (.slice (some ⟨g,0,none⟩) (n+1) cap) (n+1) (ts.map Z0++[Z0 x])) (hg:(wr.alloc o).grownBy w1 sv.ownBlock):
 w1.ownsRow B 90 1 (.slice (some ⟨g,0,none⟩) (n+1) cap) (ts++[x]).length ((ts++[x]).map Z0)/\Below B W w1:=by
 subst hn;refine⟨by simpa using hr1,hB.trans ?_⟩;refine((cK _ _).alloc hBB o).trans ?_;refine(Kp.grown (F:=fun k=>B<=k) hg fun k _ e=>(hr.lt k e.symm).1).below (by simp;omega) fun k hk=>hk
theorem ib(v:V)(ao:Option Addr)(cap:Nat)(w:World):Calls prog 217 #[.agg #[.int .i64 v.kind,.int .i64 v.k,.int .i64 v.n,.slice ao v.l.length cap]] w fun e w'=>e= .returned (.slice ao v.l.length cap)/\aA w w':=by
 go_enter func217,ntmps217;go_wp2;go_ret;exact⟨rfl,Kp.alloc _ _⟩
theorem bF(w:World)(b o:Nat)(y:Value):Kp (fun k=>k=b) w (w.setCell ⟨b,o,none⟩ y):=Kp.setCell w ⟨b,o,none⟩ y rfl
def Ik.cells(x:Ik):List Value:=[.int .i64 x.op,.int .i64 x.k,.int .i64 x.n]
def ZN(c:List Ik):List Value:=c.flatMap Ik.cells
theorem qY(a b:List Ik):ZN (a++b)=ZN a++ZN b:=by simp[ZN]
theorem wI(x:Ik):ZN [x]=x.cells:=by simp[ZN]
theorem Fy(c:List Ik):(ZN c).length=c.length*3:=by
 induction c with
 |nil=>rfl
 |cons x c ih=>rw[show x::c=[x]++c from rfl,qY,ak,ih,wI];simp[Ik.cells];omega
theorem Aq(c:List Ik)(i j:Nat)(hi:i<c.length)(hj:j<3):(ZN c)[i*3+j]?=c[i].cells[j]?:=by
 induction c generalizing i with
 |nil=>simp at hi
 |cons x c ih=>
  rw[show ZN (x::c)=x.cells++ZN c from rfl];have h3:x.cells.length=3:=rfl;cases i with
  |zero=>rw[dP (by omega)];simp
  |succ i=>
   rw[bX (by omega),h3,show(i+1)*3+j-3=i*3+j by omega];simpa using ih i (by simpa using hi)
theorem WN(x:Ik):∀u∈x.cells,u.oneCell'=true:=by
 intro u hu;simp only[Ik.cells,aU,dN,or_false]at hu;rcases hu with rfl|rfl|rfl<;>rfl
theorem acJ{w:World}{B:Nat}{e:TypeId}{ao:Option Addr}{n cap:Nat}{c:List Ik}(h:w.ownsRow B e 3 (.slice ao n cap) n (ZN c))(hn:c.length=n)(i:Nat)(hi:i<c.length):
 ∃g,ao=some ⟨g,0,none⟩/\w.cell? ⟨g,i*3,none⟩=some (.int .i64 c[i].op)/\w.cell? ⟨g,i*3+1,none⟩=some (.int .i64 c[i].k)/\w.cell? ⟨g,i*3+2,none⟩=some (.int .i64 c[i].n):=by
 subst hn;obtain⟨g,e,h⟩:=Zc h (by omega);refine⟨g,e, ?_, ?_, ?_⟩;rw[h (i*3) (by omega),show i*3=i*3+0 from rfl,Aq c i 0 hi (by omega)];rfl;rw[h _ (by omega),Aq c i 1 hi (by omega)];rfl;rw[h _ (by omega),Aq c i 2 hi (by omega)];rfl
structure KI(b:Nat)(w w':World):Prop where
 low:Below b w w'
 kept:Lib.OthersKept 334 (some b) w w'
theorem KI.refl(b:Nat)(w:World):KI b w w:=⟨cK _ _,dB _ _ _⟩
theorem KI.trans{b:Nat}{x y z:World}(h:KI b x y)(k:KI b y z):KI b x z:=⟨h.low.trans k.low,h.kept.trans k.kept⟩
theorem KI.quiet{b:Nat}{w w':World}(q:aA w w')(hb:b<=w.heap.size):KI b w w':=
 ⟨q.below hb fun _ h=>h.elim,fun k _ hk _ _=>(q.block k (Array.getElem?_eq_some_iff.1 hk).1 fun h=>h).trans hk⟩
theorem KI.box{b:Nat}{w w':World}(h:KI b w w'){x:Nat}{c:Array Value}{t:TypeId}(hx:w.heap[x]?=some (.cells c t (0,0)))(hb:x≠b)(ht:t≠334):w'.heap[x]?=some (.cells c t (0,0)):=
 h.kept x _ hx (fun e=>hb (eu e)) fun c fz e=>ht (by cases e;rfl)
def Lst(b:Nat)(c:List Ik)(w:World):Prop:=
 ∃ao cap,w.heap[b]?=some (.cells #[.slice ao c.length cap] 330 (0,0))/\w.ownsRow (b+1) 334 3 (.slice ao c.length cap) c.length (ZN c)
theorem Lst.lt{b:Nat}{c:List Ik}{w:World}(h:Lst b c w):b<w.heap.size:=by obtain⟨_,_,h,_⟩:=h;exact ae h
theorem Lst.quiet{b:Nat}{c:List Ik}{w w':World}(h:Lst b c w)(q:aA w w'):Lst b c w':=by
 obtain⟨ao,cap,h1,h2⟩:=h;exact⟨ao,cap,(q.block _ (ae h1) fun e=>e).trans h1,q.row h2 fun _ _ e=>e⟩
theorem Uy(w:World):Lst w.heap.size [] (w.alloc (.cells #[.slice none 0 0] 330)):=⟨none,0,ah w _,bq _ _ _ _⟩
theorem EU{b:Nat}{w w':World}{v:Value}{n:Nat}{xs:List Value}(hr:w.ownsRow (b+1) 334 3 v n xs)(hb:b<=w.heap.size)(hg:w.grownBy w' v.ownBlock):KI b w w':=by
 refine⟨(Kp.grown (F:=fun k=>b<=k) hg fun k _ e=>by have:=(hr.lt k e.symm).1;omega).below hb fun k hk=>hk,(dB _ _ _).grown hg fun g e=> ?_⟩;rcases hr.2 with⟨rfl,_⟩|⟨g',cap,cur,rfl,_,h,_⟩;simp[Value.ownBlock]at e;simp[Value.ownBlock]at e;subst e;exact⟨_,_,h⟩
theorem WY(b o:Nat)(w:World)(x:Value)(hb:b<=w.heap.size):KI b w (w.setCell ⟨b,o,none⟩ x):=
 ⟨(Kp.setCell (F:=fun k=>b<=k) w ⟨b,o,none⟩ x (aj b)).below hb fun _ h=>h,(dB _ _ _).setCell ⟨b,o,none⟩ rfl x⟩
theorem RX{b m g cap cap2:Nat}{c d:List Ik}{w w1 w2:World}{ao:Option Addr}(hm:c.length=m)(h1:w.heap[b]?=some (.cells #[.slice ao m cap] 330 (0,0)))(h2:w.ownsRow (b+1) 334 3 (.slice ao m cap) m (ZN c))(q:aA w w1)
 (hr:w2.ownsRow (b+1) 334 3 (.slice (some ⟨g,0,none⟩) (m+d.length) cap2) (m+d.length) (ZN c++ZN d)) (hg:w1.grownBy w2 (Value.slice ao m cap).ownBlock):
 (w2.cell? ⟨b,0,none⟩=some (.slice ao m cap)/\w2.frozen? ⟨b,0,none⟩=false)/\Lst b (c++d) (w2.setCell ⟨b,0,none⟩ (.slice (some ⟨g,0,none⟩) (m+d.length) cap2))/\KI b w (w2.setCell ⟨b,0,none⟩ (.slice (some ⟨g,0,none⟩) (m+d.length) cap2))/\b<w2.heap.size:=by
 have hb:=ae h1;have hb1:b<w1.heap.size:=az hb q.size;have hb2:b<w2.heap.size:=az hb1 hg.size;have hr1:=q.row h2 fun _ _ e=>e;have hbx:w2.heap[b]?=some (.cells #[.slice ao m cap] 330 (0,0)):=by
  rw[hg.block b hb1 (fun e=>by have:=(hr1.lt b e.symm).1;omega)];exact(q.block b hb fun e=>e).trans h1
 refine⟨⟨by simp[World.cell?,hbx],aG w2 b 0 _ _ hbx⟩, ?_,((KI.quiet q (by omega)).trans (EU hr1 (by omega) hg)).trans (WY b 0 w2 _ (by omega)),hb2⟩;refine⟨some ⟨g,0,none⟩,cap2, ?_, ?_⟩;rw[ak,hm];simp[World.setCell,aR,hbx];rw[ak,hm,qY];exact(Kp.setCell (F:=fun k=>k=b) w2 ⟨b,0,none⟩ _ rfl).row hr (fun k e=>by have:=(hr.lt k e).1;omega)
theorem yZ:(prog.info? 334).map (fun i=>(i.zero,i.size,i.bytes))=some (some (.agg #[.int .i64 0,.int .i64 0,.int .i64 0]),3,24):=by kernel_rfl
theorem zW:prog.underlying 328=some (.slice 334):=by kernel_rfl
theorem uN(w:World)(o1 o2:Obj):aA w ((w.alloc o1).alloc o2).drew:=((Kp.alloc w o1).trans (Kp.alloc _ o2)).trans (Kp.drew _)
theorem zC(w:World)(o1 o2:Obj):((w.alloc o1).alloc o2).drew.heap[w.heap.size+1]?=some o2:=Y2 w o1 o2
theorem lQ(b:Nat)(c:List Ik)(x:Ik)(w:World)(h:Lst b c w)(hl:c.length<=9000000):
 Calls prog 250 #[.pointer (some ⟨b,0,none⟩),.agg #[.int .i64 x.op,.int .i64 x.k,.int .i64 x.n]] w fun e w'=>e= .returned (.int .i64 c.length)/\Lst b (c++[x]) w'/\KI b w w':=by
 obtain⟨i0,hi,hz0,hz1,hz2⟩:=jw yZ;obtain⟨ao,cap,h1,h2⟩:=h;have hb:=ae h1;obtain⟨m,hm⟩:∃m,c.length=m:=⟨_,rfl⟩;rw[hm]at h1 h2 hl|-;obtain⟨xo,xk,xn⟩:=x;have c0:(w.alloc (.cells #[.int .i64 xo,.int .i64 xk,.int .i64 xn] 334)).cell? ⟨b,0,none⟩=some (.slice ao m cap):=by
  have:=(aB w (.cells #[.int .i64 xo,.int .i64 xk,.int .i64 xn] 334) b hb).trans h1;simp[World.cell?,this]
 have c1:((w.alloc (.cells #[.int .i64 xo,.int .i64 xk,.int .i64 xn] 334)).alloc (.cells #[.int .i64 xo,.int .i64 xk,.int .i64 xn] 334)).cell? ⟨b,0,none⟩=some (.slice ao m cap):=(Kp.alloc (F:=fun _=>False) _ _).cell c0 fun e=>e;have H1:=hid h1;have H2:=hid h2;have HM:=hid hm;clear h1 h2 hm;go_enter func250,ntmps250;go_wp2;go_region_law ((refine dM _ (by rfl) _ _ _ (by rfl) (b+1) 334 i0 _ 3 24 zW hi hz0 hz1 hz2 rfl (by omega) (.slice ao m cap) m (ZN c) (by rfl) (((H2.out.alloc _).alloc _).drew) ⟨w.heap.size+1,0,none⟩ 1 1 [.int .i64 xo,.int .i64 xk,.int .i64 xn] (by rfl) (by rfl) (kE (t:=334) (zC w _ _)) (WN ⟨xo,xk,xn⟩) (by omega) (by unfold maxLen;omega) (by omega) (by simp;omega) (w.heap.size+2) (by simp) ?_;intro gg cap2 w1 hown1 hgrow hat hlt;have hD0:=RX (d:=[⟨xo,xk,xn⟩]) HM.out H1.out H2.out (uN w _ _) (by rw[wI];exact hown1) hgrow;have cc:=hD0.1.1;have ff:=hD0.1.2;have ss:=hD0.2.2.2;have hD:=bC hD0.2.1 hD0.2.2.1;clear hown1 hgrow hat hlt hD0));all_goals
  go_wp2;go_ret;exact⟨by simp,hD.out.1,hD.out.2⟩
def qN(w0:World)(b:Nat)(v:V):Prop:=∀(ao:Option Addr)(cap:Nat)(c:List Ik)(w:World),Is w0 v ao->Ok v->Below w0.heap.size w0 w->w0.heap.size<=b->Lst b c w->c.length+3*v.size<=8000000->
 Calls prog 249 #[.pointer (some ⟨b,0,none⟩),.agg #[.int .i64 v.kind,.int .i64 v.k,.int .i64 v.n,.slice ao v.l.length cap]] w fun e w'=>e= .returned (.tuple #[])/\Lst b (c++v.code c.length) w'/\KI b w w'
theorem Lst.ex{b:Nat}{c:List Ik}{w:World}(h:Lst b c w):∃d,d=c/\Lst b d w:=⟨c,rfl,h⟩
theorem iC{w0 w w':World}{b:Nat}(h:Below w0.heap.size w0 w)(k:KI b w w')(hb:w0.heap.size<=b):Below w0.heap.size w0 w':=h.trans (k.low.mono hb)
theorem U1(w0:World)(b:Nat)(v u:V)(hv:qN w0 b v)(hu:qN w0 b u)(va ua:Option Addr)(vc uc:Nat)(c:List Ik)(w:World)(iv:Is w0 v va)(iu:Is w0 u ua)(ov:Ok v)(ou:Ok u)
 (hB:Below w0.heap.size w0 w) (hb:w0.heap.size<=b) (h:Lst b c w) (hl:c.length+3*v.size+3*u.size+2<=8000000):
 Calls prog 269 #[.pointer (some ⟨b,0,none⟩),.agg #[.int .i64 v.kind,.int .i64 v.k,.int .i64 v.n,.slice va v.l.length vc],.agg #[.int .i64 u.kind,.int .i64 u.k,.int .i64 u.n,.slice ua u.l.length uc]] w fun e w'=>e= .returned (.tuple #[])/\Lst b (c++aaY v u c.length) w'/\KI b w w':=by
 obtain⟨W,hW⟩:∃W,W=(w.alloc (.cells #[.int .i64 v.kind,.int .i64 v.k,.int .i64 v.n,.slice va v.l.length vc] 129)).alloc (.cells #[.int .i64 u.kind,.int .i64 u.k,.int .i64 u.n,.slice ua u.l.length uc] 129):=⟨_,rfl⟩;have q:aA w W:=by rw[hW];exact(Kp.alloc _ _).trans (Kp.alloc _ _)
 have hlt:=h.lt;have b1:W.heap[w.heap.size+1]?=some (.cells #[.int .i64 u.kind,.int .i64 u.k,.int .i64 u.n,.slice ua u.l.length uc] 129 (0,0)):=by rw[hW];exact Y2 w _ _
 have HBX:=hid (fun(w':World) (k:KI b W w')=>aM (k.box b1 (by omega) (by decide)));have HW:=bC hW (KI.quiet q (bL hlt));have HV:=hid (hv va vc c W iv ov (iC hB (KI.quiet q (bL hlt)) hb) hb (h.quiet q) (by omega));have HB:=hid (iC hB (KI.quiet q (bL hlt)) hb);have HU:=hid (fun(d:List Ik) (w':World) (k:Below w0.heap.size w0 w') (h:Lst b d w') (hd:d.length+3*u.size<=8000000)=>hu ua uc d w' iu ou k hb h hd);have hcl:=nE v c.length;have hcu:=nE u (c.length+(v.code c.length).length+1);have HE:=hid (show aaY v u c.length=_ from rfl);rw[hW]at HV;clear hv hu iv iu q b1 hW h;go_enter func269,ntmps269;go_wp2_with (first
  |(go_at_call 250;refine(lQ b c5 ⟨102,0,0⟩ _ h5 l5).mono ?_;rintro e w6 ⟨rfl,h6,k6⟩)
  |(go_at_call 249;refine(HU.out c4 w4 (iC HB.out k4 hb) h4 l4).mono ?_;rintro e w5 ⟨rfl,h5,k5⟩;replace k5:=k4.trans k5;obtain⟨c5,E5,h5⟩:=h5.ex;replace E5:=hid E5;have l5:c5.length<=9000000:=(by rw[E5.out,E4.out,E3.out];simp only[ak,aJ];omega))
  |(go_at_call 250;refine(lQ b c3 ⟨101,0,0⟩ _ h3 l3).mono ?_;rintro e w4 ⟨rfl,h4,k4⟩;replace k4:=k3.trans k4;obtain⟨c4,E4,h4⟩:=h4.ex;replace E4:=hid E4;obtain⟨z0,z9,z1,z2⟩:=HBX.out _ k4;have l4:c4.length+3*u.size<=8000000:=(by rw[E4.out,E3.out];simp only[ak,aJ];omega))
  |(go_at_call 249;refine HV.out.mono ?_;rintro e w3 ⟨rfl,h3,k3⟩;rw[<-HW.out.1]at k3;obtain⟨c3,E3,h3⟩:=h3.ex;replace E3:=hid E3;have l3:c3.length<=9000000:=(by rw[E3.out];simp only[ak];omega)))
 go_end0;refine⟨rfl, ?_,HW.out.2.trans (k5.trans k6)⟩;have e5:c5++[⟨102,0,0⟩]=c++aaY v u c.length:=by
  rw[E5.out,E4.out,E3.out];unfold aaY;simp only[ak,aJ,aV,Nat.add_assoc]
 rw[<-e5];exact h6
theorem Pt(A R:List Ik)(x:Ik)(z:Int):(ZN (A++([x]++R))).set (A.length*3+1) (.int .i64 z)=ZN (A++([⟨x.op,z,x.n⟩]++R)):=by
 rw[qY,qY,qY,qY,List.set_append_right _ _ (by rw[Fy];omega),Fy,show A.length*3+1-A.length*3=1 by omega,wI,wI];rfl
theorem KO{b:Nat}{A R:List Ik}{x:Ik}{w:World}(h:Lst b (A++([x]++R)) w):∃g cap,(w.cell? ⟨b,0,none⟩=some (.slice (some ⟨g,0,none⟩) (A++([x]++R)).length cap)/\w.frozen? ⟨g,A.length*3+1,none⟩=false/\w.cell? ⟨g,A.length*3+1,none⟩=some (.int .i64 x.k)/\g<w.heap.size)/\
 ∀z,Lst b (A++([⟨x.op,z,x.n⟩]++R)) (w.setCell ⟨g,A.length*3+1,none⟩ (.int .i64 z))/\KI b w (w.setCell ⟨g,A.length*3+1,none⟩ (.int .i64 z)):=by
 obtain⟨ao,cap,h1,h2⟩:=h;have hi:A.length<(A++([x]++R)).length:=by simp
 obtain⟨g,rfl,d0,d1,d2⟩:=acJ h2 rfl A.length hi;have e:(A++([x]++R))[A.length]=x:=by simp
 rw[e]at d1;refine⟨g,cap,⟨by simp[World.cell?,h1],h2.frozenAt _,d1,(h2.lt g rfl).2⟩,fun z=> ?_⟩;obtain⟨s1,s2⟩:=h2.stored (A.length*3+1) (.int .i64 z);have hb:=ae h1;have hl:(A++([(⟨x.op,z,x.n⟩:Ik)]++R)).length=(A++([x]++R)).length:=by simp
 have hk:=EU h2 (bL hb) s2;refine⟨⟨some ⟨g,0,none⟩,cap, ?_, ?_⟩,hk⟩;rw[hl];have hg:=(h2.lt g rfl).1;rw[s2.block b hb (fun e=>by have:=eu e;omega)];exact h1;rw[hl,<-Pt];exact s1
theorem Qh(w:World)(o1 o2 o3:Obj):(((w.alloc o1).alloc o2).alloc o3).heap[w.heap.size+1]?=some o2/\(((w.alloc o1).alloc o2).alloc o3).heap[w.heap.size+1+1]?=some o3:=by
 refine⟨?_, ?_⟩;rw[aB _ _ _ (by simp)];exact Y2 w o1 o2;have:=Y2 (w.alloc o1) o2 o3;simpa using this
theorem JI(w0:World)(b:Nat)(v u t:V)(hv:qN w0 b v)(hu:qN w0 b u)(ht:qN w0 b t)(va ua ta:Option Addr)(vc uc tc:Nat)(c:List Ik)(w:World)(iv:Is w0 v va)(iu:Is w0 u ua)(it:Is w0 t ta)(ov:Ok v)(ou:Ok u)(ot:Ok t)
 (hB:Below w0.heap.size w0 w) (hb:w0.heap.size<=b) (h:Lst b c w) (hl:c.length+3*v.size+3*u.size+3*t.size+2<=8000000):
 Calls prog 270 #[.pointer (some ⟨b,0,none⟩),.agg #[.int .i64 v.kind,.int .i64 v.k,.int .i64 v.n,.slice va v.l.length vc],.agg #[.int .i64 u.kind,.int .i64 u.k,.int .i64 u.n,.slice ua u.l.length uc],.agg #[.int .i64 t.kind,.int .i64 t.k,.int .i64 t.n,.slice ta t.l.length tc]] w fun e w'=>e= .returned (.tuple #[])/\Lst b (c++ifC v u t c.length) w'/\KI b w w':=by
 obtain⟨W,hW⟩:∃W,W=((w.alloc (.cells #[.int .i64 v.kind,.int .i64 v.k,.int .i64 v.n,.slice va v.l.length vc] 129)).alloc (.cells #[.int .i64 u.kind,.int .i64 u.k,.int .i64 u.n,.slice ua u.l.length uc] 129)).alloc (.cells #[.int .i64 t.kind,.int .i64 t.k,.int .i64 t.n,.slice ta t.l.length tc] 129):=⟨_,rfl⟩;have q:aA w W:=by rw[hW];exact(Kp.alloc _ _).trans ((Kp.alloc _ _).trans (Kp.alloc _ _))
 have hlt:=h.lt;have b12:=Qh w (.cells #[.int .i64 v.kind,.int .i64 v.k,.int .i64 v.n,.slice va v.l.length vc] 129) (.cells #[.int .i64 u.kind,.int .i64 u.k,.int .i64 u.n,.slice ua u.l.length uc] 129) (.cells #[.int .i64 t.kind,.int .i64 t.k,.int .i64 t.n,.slice ta t.l.length tc] 129);rw[<-hW]at b12;have HBU:=hid (fun(w':World) (k:KI b W w')=>aM (k.box b12.1 (by omega) (by decide)));have HBT:=hid (fun(w':World) (k:KI b W w')=>aM (k.box b12.2 (by omega) (by decide)));have HW:=bC hW (KI.quiet q (bL hlt));have HV:=hid (hv va vc c W iv ov (iC hB (KI.quiet q (bL hlt)) hb) hb (h.quiet q) (by omega));have HB:=hid (iC hB (KI.quiet q (bL hlt)) hb);have HU:=hid (fun(d:List Ik) (w':World) (k:Below w0.heap.size w0 w') (h:Lst b d w') (hd:d.length+3*u.size<=8000000)=>hu ua uc d w' iu ou k hb h hd);have HT:=hid (fun(d:List Ik) (w':World) (k:Below w0.heap.size w0 w') (h:Lst b d w') (hd:d.length+3*t.size<=8000000)=>ht ta tc d w' it ot k hb h hd);have hcl:=nE v c.length;have hcu:=nE u (c.length+(v.code c.length).length+1);rw[hW]at HV;clear hv hu ht iv iu it q b12 hW h;go_enter func270,ntmps270;go_wp2_with (first
  |(go_at_call 250;refine(lQ b c5 ⟨104,0,0⟩ _ h5 l5).mono ?_;rintro e w6 ⟨rfl,h6,k6⟩;replace k6:=k5.trans k6;obtain⟨c6,E6,h6⟩:=h6.ex;replace E6:=hid E6)
  |(go_at_call 249;refine(HU.out c4 w4 (iC HB.out k4 hb) h4 l4).mono ?_;rintro e w5 ⟨rfl,h5,k5⟩;replace k5:=k4.trans k5;obtain⟨c5,E5,h5⟩:=h5.ex;replace E5:=hid E5;have l5:c5.length<=9000000:=(by rw[E5.out,E4.out,E3.out];simp only[ak,aJ];omega))
  |(go_at_call 250;refine(lQ b c3 ⟨103,0,0⟩ _ h3 l3).mono ?_;rintro e w4 ⟨rfl,h4,k4⟩;replace k4:=k3.trans k4;obtain⟨c4,E4,h4⟩:=h4.ex;replace E4:=hid E4;obtain⟨z0,z9,z1,z2⟩:=HBU.out _ k4;have l4:c4.length+3*u.size<=8000000:=(by rw[E4.out,E3.out];simp only[ak,aJ];omega))
  |(go_at_call 249;refine HV.out.mono ?_;rintro e w3 ⟨rfl,h3,k3⟩;rw[<-HW.out.1]at k3;obtain⟨c3,E3,h3⟩:=h3.ex;replace E3:=hid E3;have l3:c3.length<=9000000:=(by rw[E3.out];simp only[ak];omega)))
 clear z0 z9 z1 z2;have e6:c6=c3++([⟨103,0,0⟩]++(u.code c4.length++[⟨104,0,0⟩])):=by rw[E6.out,E5.out,E4.out];simp only[aV]
 obtain⟨n6,hn6⟩:∃n,c6.length=n:=⟨_,rfl⟩;obtain⟨g,cap,⟨s0,s1,s2,s3⟩,hs⟩:=KO (e6▸h6);rw[<-e6,hn6]at s0;obtain⟨m3,hm3⟩:∃n,c3.length=n:=⟨_,rfl⟩;rw[hm3]at s1 s2 hs|-;have acg:m3<n6:=by rw[<-hn6,e6,<-hm3];simp
 have afT:n6+3*t.size<=8000000:=by
  have h1:=nE u c4.length;rw[<-hn6,E6.out,E5.out,ak,ak,aJ];rw[E4.out,E3.out]at h1|-;simp only[ak,aJ]at h1|-;omega
 have HS:=hid hs;have HN:=gp hn6 hm3 e6;have H6:=bC h6 k6;clear hs hn6 hm3 e6 h6 k6 h5 h4 h3;obtain⟨w7,hw7⟩:∃w7,w7=(w6.setCell ⟨g,m3*3+1,none⟩ (.int .i64 (n6:Int))).drew:=⟨_,rfl⟩;have h7:Lst b (c3++([⟨103,(n6:Int),0⟩]++(u.code c4.length++[⟨104,0,0⟩]))) w7:=by rw[hw7];exact(HS.out n6).1.quiet (Kp.drew _)
 have k7:KI b W w7:=by rw[hw7];exact H6.out.2.trans (((HS.out n6).2).trans (KI.quiet (Kp.drew (F:=fun _=>False) _) (by have:=H6.out.1.lt;simp;omega)))
 obtain⟨z0,z9,z1,z2⟩:=HBT.out _ k7;obtain⟨c7,E7,h7⟩:=h7.ex;replace E7:=hid E7;have l7:c7.length+3*t.size<=8000000:=by
  have:c7.length=c6.length:=by rw[E7.out,HN.out.2.2];simp
  rw[this,HN.out.1];exact afT
 have HH7:=hid h7;clear HS h7;go_region;rw[<-hw7];replace hw7:=hid hw7;clear s0 s1 s2 s3;go_wp2_with (go_at_call 249;refine(HT.out c7 w7 (iC HB.out k7 hb) HH7.out l7).mono ?_;rintro e w8 ⟨rfl,h8,k8⟩);replace k8:=k7.trans k8;clear z0 z9 z1 z2;have e8:c7++t.code c7.length=(c3++([(⟨103,(n6:Int),0⟩:Ik)]++u.code c4.length))++([(⟨104,0,0⟩:Ik)]++t.code n6):=by
  have:c7.length=n6:=by rw[E7.out,<-HN.out.1,HN.out.2.2];simp
  rw[this,E7.out];simp only[aV]
 have e5:(c3++([(⟨103,(n6:Int),0⟩:Ik)]++u.code c4.length)).length=c5.length:=by rw[E5.out,E4.out];simp only[aV,ak,aJ]
 have l8:(c7++t.code c7.length).length<=8000000:=by
  have:=nE t c7.length;rw[ak];omega
 rw[e8]at h8 l8;obtain⟨g8,ahR,⟨s0,s1,s2,s3⟩,hs⟩:=KO h8;obtain⟨n8,hn8⟩:∃n,((c3++([(⟨103,(n6:Int),0⟩:Ik)]++u.code c4.length))++([(⟨104,0,0⟩:Ik)]++t.code n6)).length=n:=⟨_,rfl⟩;have ahS:c5.length<n8:=by rw[<-hn8,ak,e5];simp
 rw[e5]at s1 s2 hs;rw[hn8]at s0 l8;have HS:=hid hs;have H8:=bC h8 k8;have HN8:=gp hn8 e8 e5;clear hs h8 k8 hn8 e8 e5;go_region;go_wp2;go_end0;refine⟨rfl, ?_,HW.out.2.trans (H8.out.2.trans (((HS.out n8).2).trans (KI.quiet (Kp.drew (F:=fun _=>False) _) (by have:=H8.out.1.lt;simp;omega))))⟩;have h9:=(HS.out n8).1.quiet (Kp.drew (F:=fun _=>False) _);have f3:c3.length=c.length+(v.code c.length).length:=by rw[E3.out,ak]
 have f4:c4.length=c.length+(v.code c.length).length+1:=by rw[E4.out,ak,f3];rfl
 have f6:n6=ZF v u c.length:=by
  rw[<-HN.out.1,HN.out.2.2];simp only[ak,aJ,f3,f4];unfold ZF;omega
 have f8:n8=ZF v u c.length+(t.code (ZF v u c.length)).length:=by
  rw[<-HN8.out.1];have h1:=HN8.out.2.2;have h2:=HN.out.1;rw[E6.out]at h2;simp only[ak,aJ]at h1 h2|-;rw[<-f6];omega
 have e9:(c3++([(⟨103,(n6:Int),0⟩:Ik)]++u.code c4.length))++([⟨104,(n8:Int),0⟩]++t.code n6)=c++ifC v u t c.length:=by
  unfold ifC;rw[f8,f6,f4,E3.out];simp only[aV]
 rw[<-e9];exact h9
theorem tZ:prog.follows .mixedOrders=true:=by kernel_rfl
theorem MP(w0:World)(b:Nat)(v:V)(ih:∀x∈v.l,qN w0 b x)(ao:Option Addr)(cap:Nat)(c:List Ik)(w:World)(hI:Is w0 v ao)(ho:Ok v)
 (hB:Below w0.heap.size w0 w) (hb:w0.heap.size<=b) (h:Lst b c w) (hl:c.length+3*sizes v.l+1<=8000000):
 Calls prog 271 #[.pointer (some ⟨b,0,none⟩),.agg #[.int .i64 v.kind,.int .i64 v.k,.int .i64 v.n,.slice ao v.l.length cap]] w fun e w'=>e= .returned (.tuple #[])/\Lst b (c++(iH v.l c.length++[⟨v.kind,v.k,v.n⟩])) w'/\KI b w w':=by
 obtain⟨W,hW⟩:∃W,W=w.alloc (.cells #[.int .i64 v.kind,.int .i64 v.k,.int .i64 v.n,.slice ao v.l.length cap] 129):=⟨_,rfl⟩;have q:aA w W:=by rw[hW];exact Kp.alloc _ _
 have hlt:=h.lt;have b0:W.heap[w.heap.size]?=some (.cells #[.int .i64 v.kind,.int .i64 v.k,.int .i64 v.n,.slice ao v.l.length cap] 129 (0,0)):=by rw[hW];exact ah w _
 have HBX:=hid (fun(w':World) (k:KI b W w')=>aM (k.box b0 (by omega) (by decide)));have HW:=gp hW (KI.quiet q (bL hlt)) (h.quiet q);have HB:=hid (iC hB (KI.quiet q (bL hlt)) hb);have HI:=gp hI ih ho.kids;have hvl:=fG v.l;have ahT:v.l.length<=8000000:=by omega
 clear hI ih ho q b0 h;go_enter func271,ntmps271;go_wp2;go_loopw [9] (fun i wr=>∃j:Nat,j<=v.l.length/\i= .int .i64 j/\Lst b (c++iH (v.l.take j) c.length) wr/\KI b W wr) (fun i _=>v.l.length-(intOf i).toNat);case atStart=>
  refine⟨0,aP _,rfl, ?_, ?_⟩;rw[List.take_zero,ZA,dC,<-hW];exact HW.out.2.2;rw[<-hW];exact KI.refl _ _
 case round=>
  obtain⟨j,hj,rfl,h,hk⟩:=hrel;have ahU:=gy v.l j;have hcj:=Iq (v.l.take j) c.length;obtain⟨z0,z9,z1,z2⟩:=HBX.out _ hk;by_cases hlt2:j<v.l.length
  ·obtain⟨bb,oo,rfl,dh,ca,cc,ds,hki⟩:=HI.out.1.get j hlt2;have hBr:=iC HB.out hk hb;obtain⟨d0,d1,d2⟩:=gq (eZ hBr) dh;have dsk:=eZ hBr _ _ ds;have HC:=hid (HI.out.2.1 v.l[j] (aI hlt2) ca cc);have HO:=hid (HI.out.2.2 v.l[j] (aI hlt2));have HN:=hid (EO v.l j hlt2 c.length);have hst:=mo v.l j hlt2;have ahV:=gy v.l (j+1);generalize v.l[j]=u at*;have qa:aA wr (wr.alloc (.cells #[.int .i64 u.kind,.int .i64 u.k,.int .i64 u.n,.slice ca u.l.length cc] 129)):=Kp.alloc _ _;have kq:=KI.quiet (b:=b) qa (bL h.lt);have HQ:=hid (HC.out (c++iH (v.l.take j) c.length) _ hki HO.out (iC hBr kq hb) hb (h.quiet qa) (by rw[ak];omega));have HK:=hid (hk.trans kq);clear h hk dh ds hki hBr qa kq HC HO hcj;go_wp2_with (go_at_call 249;refine HQ.out.mono ?_;rintro e w6 ⟨rfl,h6,k6⟩);refine⟨⟨j+1,by omega,by go_num, ?_,HK.out.trans k6⟩,by simp[intOf];omega⟩;rw[HN.out,<-aV];rw[ak]at h6;exact h6
  ·have hjl:j=v.l.length:=(by omega);subst hjl;rw[aZ]at h hcj;have HP:=hid (lQ b (c++iH v.l c.length) ⟨v.kind,v.k,v.n⟩ _ h (by rw[ak];omega));have HK:=hid hk;clear h hk hcj;go_wp2_with (go_at_call 250;refine HP.out.mono ?_;rintro e w6 ⟨rfl,h6,k6⟩);go_end0;refine⟨rfl, ?_,HW.out.2.1.trans (HK.out.trans k6)⟩;rw[<-aV];exact h6
theorem GZ{w w':World}{l:List V}{ao:Option Addr}(h:Fo w l ao)(hk:∀(a:Addr) (x:Value),w.cell? a=some x->w'.cell? a=some x)(i:Nat)(x:V)(hi:l[i]?=some x):
 ∃b off,ao=some ⟨b,off,none⟩/\∃ai cap,(w'.cell? ⟨b,off+i*4,none⟩=some (.int .i64 x.kind)/\w'.cell? ⟨b,off+i*4+1,none⟩=some (.int .i64 x.k)/\w'.cell? ⟨b,off+i*4+2,none⟩=some (.int .i64 x.n)/\w'.cell? ⟨b,off+i*4+3,none⟩=some (.slice ai x.l.length cap))/\Is w x ai:=by
 obtain⟨hi2,rfl⟩:=dn.1 hi;obtain⟨b,off,e,dh,ai,cap,ds,hI⟩:=h.get i hi2;obtain⟨d0,d1,d2⟩:=gq hk dh;exact⟨b,off,e,ai,cap,⟨d0,d1,d2,hk _ _ ds⟩,hI⟩
theorem Oe(w0:World)(b:Nat)(x y:V)(k n:Int)(hx:qN w0 b x)(hy:qN w0 b y)(ao:Option Addr)(cap:Nat)(c:List Ik)(w:World)(hI:Fo w0 [x,y] ao)(ox:Ok x)(oy:Ok y)
 (hB:Below w0.heap.size w0 w) (hb:w0.heap.size<=b) (h:Lst b c w) (hl:c.length+3+3*x.size+3*y.size<=8000000):
 Calls prog 249 #[.pointer (some ⟨b,0,none⟩),.agg #[.int .i64 5,.int .i64 k,.int .i64 n,.slice ao 2 cap]] w fun e w'=>e= .returned (.tuple #[])/\Lst b (c++([⟨100,0,0⟩]++aaY x y (c.length+1))) w'/\KI b w w':=by
 obtain⟨W,hW⟩:∃W,W=w.alloc (.cells #[.int .i64 5,.int .i64 k,.int .i64 n,.slice ao 2 cap] 129):=⟨_,rfl⟩;have q:aA w W:=by rw[hW];exact Kp.alloc _ _
 have hlt:=h.lt;have b0:W.heap[w.heap.size]?=some (.cells #[.int .i64 5,.int .i64 k,.int .i64 n,.slice ao 2 cap] 129 (0,0)):=by rw[hW];exact ah w _
 have HBX:=hid (fun(w':World) (k:KI b W w')=>aM (k.box b0 (by omega) (by decide)));have HW:=bC hW (KI.quiet q (bL hlt));have HB:=hid (iC hB (KI.quiet q (bL hlt)) hb);have HP:=hid (lQ b c ⟨100,0,0⟩ W (h.quiet q) (by omega));rw[hW]at HP;have HI:=hid (fun(w':World) (k:KI b W w')=>dX (GZ hI (eZ (iC (iC hB (KI.quiet q (bL hlt)) hb) k hb)) 0 x rfl) (GZ hI (eZ (iC (iC hB (KI.quiet q (bL hlt)) hb) k hb)) 1 y rfl));have HL:=hid (fun(xa ya:Option Addr) (xc yc:Nat) (d:List Ik) (w':World) (ix:Is w0 x xa) (iy:Is w0 y ya) (k:Below w0.heap.size w0 w') (h:Lst b d w') (hd:d.length+3*x.size+3*y.size+2<=8000000)=>U1 w0 b x y hx hy xa ya xc yc d w' ix iy ox oy k hb h hd);clear q b0 h hI hW hx hy;go_enter func249,ntmps249;go_wp2_with (go_at_call 250;refine HP.out.mono ?_;rintro e w3 ⟨rfl,h3,k3⟩;rw[<-HW.out.1]at k3;have H3:=bC h3 k3;obtain⟨z0,z9,z1,z2⟩:=HBX.out _ k3;obtain⟨⟨bb,oo,rfl,xa,xc,⟨d0,d1,d2,d3⟩,ix⟩,⟨bb',oo',eq,ya,yc,⟨f0,f1,f2,f3⟩,iy⟩⟩:=HI.out _ k3;simp only[aT,eG,and_true]at eq;obtain⟨rfl,rfl⟩:=eq;have HIX:=bC ix iy;clear h3 k3 ix iy);simp only[Nat.zero_mul,eD,Nat.one_mul]at d0 d1 d2 d3 f0 f1 f2 f3;have el:(c++[(⟨100,0,0⟩:Ik)]).length=c.length+1:=by simp
 have HC:=hid (HL.out xa ya xc yc (c++[⟨100,0,0⟩]) w3.drew HIX.out.1 HIX.out.2 (iC HB.out (H3.out.2.trans (KI.quiet (Kp.drew (F:=fun _=>False) _) (bL H3.out.1.lt))) hb) (H3.out.1.quiet (Kp.drew _)) (by rw[el];omega));rw[el]at HC;clear el;go_still_tail 9,tZ;go_wp2_with (go_at_call 269;refine HC.out.mono ?_;rintro e w5 ⟨rfl,h5,k5⟩);go_end0;refine⟨rfl, ?_,HW.out.2.trans (H3.out.2.trans ((KI.quiet (Kp.drew (F:=fun _=>False) _) (bL H3.out.1.lt)).trans k5))⟩;rw[show c++(⟨100,0,0⟩::aaY x y (c.length+1))=(c++[⟨100,0,0⟩])++aaY x y (c.length+1)by simp];exact h5
theorem Rc(w0:World)(b:Nat)(x y z:V)(k n:Int)(hx:qN w0 b x)(hy:qN w0 b y)(hz:qN w0 b z)(ao:Option Addr)(cap:Nat)(c:List Ik)(w:World)(hI:Fo w0 [x,y,z] ao)(ox:Ok x)(oy:Ok y)(oz:Ok z)
 (hB:Below w0.heap.size w0 w) (hb:w0.heap.size<=b) (h:Lst b c w) (hl:c.length+3+3*x.size+3*y.size+3*z.size<=8000000):
 Calls prog 249 #[.pointer (some ⟨b,0,none⟩),.agg #[.int .i64 7,.int .i64 k,.int .i64 n,.slice ao 3 cap]] w fun e w'=>e= .returned (.tuple #[])/\Lst b (c++([⟨100,0,0⟩]++ifC x y z (c.length+1))) w'/\KI b w w':=by
 obtain⟨W,hW⟩:∃W,W=w.alloc (.cells #[.int .i64 7,.int .i64 k,.int .i64 n,.slice ao 3 cap] 129):=⟨_,rfl⟩;have q:aA w W:=by rw[hW];exact Kp.alloc _ _
 have hlt:=h.lt;have b0:W.heap[w.heap.size]?=some (.cells #[.int .i64 7,.int .i64 k,.int .i64 n,.slice ao 3 cap] 129 (0,0)):=by rw[hW];exact ah w _
 have HBX:=hid (fun(w':World) (k:KI b W w')=>aM (k.box b0 (by omega) (by decide)));have HW:=bC hW (KI.quiet q (bL hlt));have HB:=hid (iC hB (KI.quiet q (bL hlt)) hb);have HP:=hid (lQ b c ⟨100,0,0⟩ W (h.quiet q) (by omega));rw[hW]at HP;have HI:=hid (fun(w':World) (k:KI b W w')=>dX (GZ hI (eZ (iC (iC hB (KI.quiet q (bL hlt)) hb) k hb)) 0 x rfl) (dX (GZ hI (eZ (iC (iC hB (KI.quiet q (bL hlt)) hb) k hb)) 1 y rfl) (GZ hI (eZ (iC (iC hB (KI.quiet q (bL hlt)) hb) k hb)) 2 z rfl)));have HL:=hid (fun(xa ya za:Option Addr) (xc yc zc:Nat) (d:List Ik) (w':World) (ix:Is w0 x xa) (iy:Is w0 y ya) (iz:Is w0 z za) (k:Below w0.heap.size w0 w') (h:Lst b d w') (hd:d.length+3*x.size+3*y.size+3*z.size+2<=8000000)=>JI w0 b x y z hx hy hz xa ya za xc yc zc d w' ix iy iz ox oy oz k hb h hd);clear q b0 h hI hW hx hy hz;go_enter func249,ntmps249;go_wp2_with (go_at_call 250;refine HP.out.mono ?_;rintro e w3 ⟨rfl,h3,k3⟩;rw[<-HW.out.1]at k3;have H3:=bC h3 k3;obtain⟨z0,z9,z1,z2⟩:=HBX.out _ k3;obtain⟨⟨bb,oo,rfl,xa,xc,⟨d0,d1,d2,d3⟩,ix⟩,⟨bb',oo',eq,ya,yc,⟨f0,f1,f2,f3⟩,iy⟩,⟨bb2,oo2,eq2,za,zc,⟨g0,g1,g2,g3⟩,iz⟩⟩:=HI.out _ k3;simp only[aT,eG,and_true]at eq eq2;obtain⟨rfl,rfl⟩:=eq;obtain⟨rfl,rfl⟩:=eq2;have HIX:=gp ix iy iz;clear h3 k3 ix iy iz);simp only[Nat.zero_mul,eD,Nat.one_mul,Nat.reduceMul]at d0 d1 d2 d3 f0 f1 f2 f3 g0 g1 g2 g3;have el:(c++[(⟨100,0,0⟩:Ik)]).length=c.length+1:=by simp
 have HC:=hid (HL.out xa ya za xc yc zc (c++[⟨100,0,0⟩]) w3.drew HIX.out.1 HIX.out.2.1 HIX.out.2.2 (iC HB.out (H3.out.2.trans (KI.quiet (Kp.drew (F:=fun _=>False) _) (bL H3.out.1.lt))) hb) (H3.out.1.quiet (Kp.drew _)) (by rw[el];omega));rw[el]at HC;clear el;go_still_tail 13,tZ;go_wp2_with (go_at_call 270;refine HC.out.mono ?_;rintro e w5 ⟨rfl,h5,k5⟩);go_end0;refine⟨rfl, ?_,HW.out.2.trans (H3.out.2.trans ((KI.quiet (Kp.drew (F:=fun _=>False) _) (bL H3.out.1.lt)).trans k5))⟩;rw[show c++(⟨100,0,0⟩::ifC x y z (c.length+1))=(c++[⟨100,0,0⟩])++ifC x y z (c.length+1)by simp];exact h5
theorem Ht(w0:World)(b:Nat)(v:V)(ih:∀x∈v.l,qN w0 b x)(h5:v.kind≠5)(h7:v.kind≠7)(ao:Option Addr)(cap:Nat)(c:List Ik)(w:World)(hI:Is w0 v ao)(ho:Ok v)
 (hB:Below w0.heap.size w0 w) (hb:w0.heap.size<=b) (h:Lst b c w) (hl:c.length+3*v.size<=8000000):
 Calls prog 249 #[.pointer (some ⟨b,0,none⟩),.agg #[.int .i64 v.kind,.int .i64 v.k,.int .i64 v.n,.slice ao v.l.length cap]] w fun e w'=>e= .returned (.tuple #[])/\Lst b (c++([⟨100,0,0⟩]++(iH v.l (c.length+1)++[⟨v.kind,v.k,v.n⟩]))) w'/\KI b w w':=by
 obtain⟨W,hW⟩:∃W,W=w.alloc (.cells #[.int .i64 v.kind,.int .i64 v.k,.int .i64 v.n,.slice ao v.l.length cap] 129):=⟨_,rfl⟩;have q:aA w W:=by rw[hW];exact Kp.alloc _ _
 have hlt:=h.lt;have b0:W.heap[w.heap.size]?=some (.cells #[.int .i64 v.kind,.int .i64 v.k,.int .i64 v.n,.slice ao v.l.length cap] 129 (0,0)):=by rw[hW];exact ah w _
 have HBX:=hid (fun(w':World) (k:KI b W w')=>aM (k.box b0 (by omega) (by decide)));have HW:=bC hW (KI.quiet q (bL hlt));have HB:=hid (iC hB (KI.quiet q (bL hlt)) hb);have HP:=hid (lQ b c ⟨100,0,0⟩ W (h.quiet q) (by omega));rw[hW]at HP;have hsz:=size_eq v;have el:(c++[(⟨100,0,0⟩:Ik)]).length=c.length+1:=by simp
 have HL:=hid (fun(w':World) (k:Below w0.heap.size w0 w') (h:Lst b (c++[⟨100,0,0⟩]) w')=>MP w0 b v ih ao cap (c++[⟨100,0,0⟩]) w' hI ho k hb h (by rw[el];omega));rw[el]at HL;have n5:(v.kind==5)=false:=by simpa using h5
 have n7:(v.kind==7)=false:=by simpa using h7
 clear q b0 h hI hW ih el;go_enter func249,ntmps249;go_wp2_with (first
  |(go_at_call 271;refine(HL.out w3 (iC HB.out k3 hb) h3).mono ?_;rintro e w4 ⟨rfl,h4,k4⟩)
  |(go_at_call 250;refine HP.out.mono ?_;rintro e w3 ⟨rfl,h3,k3⟩;rw[<-HW.out.1]at k3;obtain⟨z0,z9,z1,z2⟩:=HBX.out _ k3))
 go_end0;refine⟨rfl, ?_,HW.out.2.trans (k3.trans k4)⟩;rw[show c++(⟨100,0,0⟩::(iH v.l (c.length+1)++[⟨v.kind,v.k,v.n⟩]))=(c++[⟨100,0,0⟩])++(iH v.l (c.length+1)++[⟨v.kind,v.k,v.n⟩])by simp];exact h4
theorem Ni(w0:World)(b:Nat)(v:V):qN w0 b v:=by
 induction v using V.aan with
 |h v ih=>
  intro ao cap c w hI ho hB hb h hl;have hsz:=size_eq v;by_cases e5:v.kind=5;obtain⟨x,y,hxy⟩:=ho.two e5;have hx:x∈v.l:=(by simp[hxy]);have hy:y∈v.l:=(by simp[hxy]);have hsx:sizes v.l=x.size+y.size:=(by rw[hxy,YV,YV,YX];rfl);have hF:=hI.fo;rw[aaZ e5 hxy];rw[hxy]at hF;rw[hxy,e5];exact Oe w0 b x y v.k v.n (ih x hx) (ih y hy) ao cap c w hF (ho.kids x hx) (ho.kids y hy) hB hb h (by omega);by_cases e7:v.kind=7;obtain⟨x,y,z,hxy⟩:=ho.three e7;have hx:x∈v.l:=(by simp[hxy]);have hy:y∈v.l:=(by simp[hxy]);have hz:z∈v.l:=(by simp[hxy]);have hsx:sizes v.l=x.size+y.size+z.size:=(by rw[hxy,YV,YV,YV,YX];omega);have hF:=hI.fo;rw[abk e7 hxy];rw[hxy]at hF;rw[hxy,e7];exact Rc w0 b x y z v.k v.n (ih x hx) (ih y hy) (ih z hz) ao cap c w hF (ho.kids x hx) (ho.kids y hy) (ho.kids z hz) hB hb h (by omega);rw[aap e5 e7];exact Ht w0 b v ih e5 e7 ao cap c w hI ho hB hb h hl
def oU(a:Option Addr)(n:Nat):Value:= .agg #[.pointer (if n=0 then none else a),.int .i64 n]
theorem kV(a:Option Addr)(n cap:Nat)(w:World)(ha:0<n->∃b o,a=some ⟨b,o,none⟩):
 Calls prog 247 #[.slice a n cap] w fun e w'=>e= .returned (oU a n)/\aA w w':=by
 by_cases hn:n=0
 ·subst hn;go_enter func247,ntmps247;go_wp2;refine au (v:= .agg #[.pointer none,.int .i64 0]) (by simp[results,results247,go_sem]) rfl ?_;exact⟨rfl,Kp.alloc _ _⟩
 ·obtain⟨b,o,rfl⟩:=ha (by omega);have hn1:¬(n:Int)=0:=by omega
  have hn2:(0:Int)<(n:Int):=by omega
  have hE:=hid (show oU (some ⟨b,o,none⟩) n= .agg #[.pointer (some ⟨b,o,none⟩),.int .i64 n]by simp[oU,hn]);clear hn;go_enter func247,ntmps247;go_wp2;refine au (v:= .agg #[.pointer (some ⟨b,o,none⟩),.int .i64 n]) (by simp[results,results247,go_sem]) rfl ?_;exact⟨by rw[hE.out],Kp.alloc _ _⟩
theorem PK(p:Option Addr)(n:Int)(w:World):(part 323 #[.pointer p,.int .i64 n] 0).run prog w= .ok (.pointer p) w:=by
 simp[go_sem,part]
theorem Py(p:Option Addr)(n:Int)(w:World):(part 3 #[.pointer p,.int .i64 n] 1).run prog w= .ok (.int .i64 n) w:=by
 simp[go_sem,part]
theorem Pw(e:Bool)(p:Option Addr)(m:Nat)(w:World):(Instr.checkKey e (m+1) 323 (.pointer p)).run prog w= .ok () w:=by
 simp[Instr.checkKey,bR underlying323,go_sem]
theorem Rs(e:Bool)(n:Int)(m:Nat)(w:World):(Instr.checkKey e (m+1) 3 (.int .i64 n)).run prog w= .ok () w:=by
 simp[Instr.checkKey,bR underlying3,go_sem]
theorem Ej(e:Bool)(p:Option Addr)(n:Int)(m:Nat)(w:World):(Instr.checkKey e (m+1+1) 325 (.agg #[.pointer p,.int .i64 n])).run prog w= .ok () w:=by
 rw[Instr.checkKey];simp[bR underlying325,PK,Py,Pw,Rs,Result.andThen]
def cln(w:World):World:={w with heap:=w.heap.map fun o=>match o with| .cells c t (0,0)=> .cells c t (0,0)|_=> .cells #[] 0 (0,0)}
theorem xA{w:World}{k:Nat}{c:Array Value}{t:TypeId}(h:w.heap[k]?=some (.cells c t (0,0))):(cln w).heap[k]?=some (.cells c t (0,0)):=by
 simp[cln,h]
theorem nC{w:World}{a:Addr}{x:Value}(h:(cln w).cell? a=some x):w.cell? a=some x/\∃c t,w.heap[a.block]?=some (.cells c t (0,0)):=by
 cases hb:w.heap[a.block]? with
 |none=>simp[World.cell?,cln,hb]at h
 |some o=>
  by_cases ho:∃c t,o= .cells c t (0,0);obtain⟨c,t,rfl⟩:=ho;exact⟨(bz ((xA hb).trans hb.symm)).symm.trans h,c,t,rfl⟩
  ·exfalso;have e:(cln w).heap[a.block]?=some (.cells #[] 0 (0,0)):=by
    simp only[cln,Array.getElem?_map,hb,Option.map_some];congr 1;split;rename_i c t;exact absurd ⟨c,t,rfl⟩ ho;rfl
   simp[World.cell?,e]at h
theorem Cq{w w':World}(q:aA w w'):∀(a:Addr)(x:Value),(cln w).cell? a=some x->(cln w').cell? a=some x:=by
 intro a x h;obtain⟨h1,c,t,h2⟩:=nC h;have h3:=(q.block a.block (ae h2) fun e=>e).trans h2;rw[bz ((xA h3).trans h2.symm)];exact h1
theorem Fo.unclean{w:World}{l:List V}{ao:Option Addr}(h:Fo (cln w) l ao):Fo w l ao:=h.kept fun _ _ hc=>(nC hc).1
theorem Is.unclean{w:World}{v:V}{ao:Option Addr}(h:Is (cln w) v ao):Is w v ao:=h.kept fun _ _ hc=>(nC hc).1
theorem Fo.clean{w:World}{l:List V}{b o:Nat}(h:Fo (cln w) l (some ⟨b,o,none⟩))(hl:l≠[]):∃c t,w.heap[b]?=some (.cells c t (0,0)):=by
 have h0:0<l.length:=List.length_pos_iff.2 hl;obtain⟨b',o',e,hh,_⟩:=h.get 0 h0;cases e;exact(nC hh.1).2
theorem WX(a b:Option Addr)(d:Nat)(w:World)(ha:∀x,a=some x->∃c t,w.heap[x.block]?=some (.cells c t (0,0)))(hb:∀x,b=some x->∃c t,w.heap[x.block]?=some (.cells c t (0,0))):
 (Op.equalIn (d+1) 323 (.pointer a) (.pointer b)).run prog w= .ok (decide (a=b)) w:=by
 obtain⟨i0,hi,_,hz1,_⟩:=bM fM;cases a with
 |none=>cases b<;>simp[Op.equalIn,bR underlying323]
 |some a=>
  cases b with
  |none=>simp[Op.equalIn,bR underlying323]
  |some b=>
   by_cases e:a=b;subst e;simp[Op.equalIn,bR underlying323,sizeOf,typeInfo,hi,run_sameAddr_same];obtain⟨c1,t1,h1⟩:=ha a rfl;obtain⟨c2,t2,h2⟩:=hb b rfl;simp[Op.equalIn,bR underlying323,sizeOf,typeInfo,hi,hz1,run_sameAddr_other w e h1 h2,e]
theorem WU(a b:Option Addr)(n m:Int)(w:World)(ha:∀x,a=some x->∃c t,w.heap[x.block]?=some (.cells c t (0,0)))(hb:∀x,b=some x->∃c t,w.heap[x.block]?=some (.cells c t (0,0))):
 (Op.equalIn 10000 325 (.agg #[.pointer a,.int .i64 n]) (.agg #[.pointer b,.int .i64 m])).run prog w= .ok (decide (a=b)&&decide (n=m)) w:=by
 have hS:prog.underlying 325=some (.struct (prog.fieldsOf 325)):=by kernel_rfl
 have hp:prog.stoodInHeld 325=false:=by kernel_rfl
 have h1:=WX a b 9998 w ha hb;rw[show(10000:Nat)=9999+1 from rfl,run_equalIn_agg w 9999 325 _ _ hS hp];simp only[Program.fieldsOf,underlying325];rw[show(9999:Nat)=9998+1 from rfl];go_simp;by_cases e1:a=b<;>by_cases e2:n=m<;>simp[e1,e2]
def Cp(w:World)(a:Option Addr):Prop:=∀x,a=some x->∃c t,w.heap[x.block]?=some (.cells c t (0,0))
def Ks(w:World)(es:List MapEntry):Prop:=∀e∈es,e.val= .agg #[]/\∃b m,e.key= .agg #[.pointer b,.int .i64 m]/\Cp w b
def KW(a:Option Addr)(n:Int)(e:MapEntry):Bool:=match e.key with| .agg cs=>(match cs.toList with|[.pointer b,.int .i64 m]=>decide (a=b)&&decide (n=m)|_=>false)|_=>false
def lJ(es:List MapEntry)(a:Option Addr)(n:Int):Bool:=es.any (KW a n)
theorem Aj{e:MapEntry}{a b:Option Addr}{n m:Int}(h:e.key= .agg #[.pointer b,.int .i64 m]):KW a n e=(decide (a=b)&&decide (n=m)):=by simp[KW,h]
theorem Pk(a:Option Addr)(n:Int)(w:World)(ha:Cp w a)(es:List MapEntry):∀i,Ks w es->
 ∃j,(Instr.findAsking 325 (.agg #[.pointer a,.int .i64 n]) es i).run prog w= .ok (if lJ es a n=true then some (j,.agg #[])else none) w:=by
 induction es with
 |nil=>intro i _;exact⟨0,by simp[Instr.findAsking,lJ]⟩
 |cons e es ih=>
  intro i hk;obtain⟨hv,b,m,hek,hb⟩:=hk e (by simp);have h1:=WU a b n m w ha hb;rw[<-Aj (a:=a) (n:=n) hek]at h1;cases hs:KW a n e with
  |true=>
   refine⟨i, ?_⟩;rw[hs]at h1;have h2:lJ (e::es) a n=true:=(by simp[lJ,hs]);rw[Instr.findAsking,hek,Op.equal,Op.maxDepth,Sem.run_bind,h1,h2];simp[Result.andThen,hv]
  |false=>
   rw[hs]at h1;have h2:lJ (e::es) a n=lJ es a n:=(by simp[lJ,hs]);obtain⟨j,h3⟩:=ih (i+1) (fun e he=>hk e (by simp[he]));refine⟨j, ?_⟩;rw[Instr.findAsking,hek,Op.equal,Op.maxDepth,Sem.run_bind,h1,h2,<-h3];simp[Result.andThen]
theorem F7(a:Option Addr)(n:Int)(w:World)(r clock:Nat)(es:Array MapEntry)(ha:Cp w a)(hb:w.heap[r]?=some (.map es clock))(hk:Ks w es.toList):
 (Instr.lookup 320 (.map (some r)) (.agg #[.pointer a,.int .i64 n]) true).run prog w= .ok (.tuple #[.agg #[],.bool (lJ es.toList a n)]) w/\
   (lJ es.toList a n=false->(Instr.findKey 325 (.agg #[.pointer a,.int .i64 n]) es.toList).run prog w= .ok none w):=by
 have k:=Ej es.isEmpty a n 9998 w;have hz:=zeroValue321 w;have hf:=run_findKey_eq (P:=prog) (k:=325) w (by rw[underlying325]) (.agg #[.pointer a,.int .i64 n]) es.toList;obtain⟨j,h1⟩:=Pk a n w ha es.toList 0 hk;rw[h1]at hf;cases hh:lJ es.toList a n with
 |false=>
  rw[hh]at hf;refine⟨?_,fun _=>hf⟩;unfold Instr.lookup;simp only[Sem.run_bind,bR underlying320,MapKept.run_getObj_map hb,Result.andThen];rw[show(10000:Nat)=9998+1+1 from rfl];generalize(9998+1+1:Nat)=M at*;simp[k,hf,hz,Result.andThen]
 |true=>
  rw[hh]at hf;refine⟨?_,fun h=>by simp at h⟩;unfold Instr.lookup;simp only[Sem.run_bind,bR underlying320,MapKept.run_getObj_map hb,Result.andThen];rw[show(10000:Nat)=9998+1+1 from rfl];generalize(9998+1+1:Nat)=M at*;simp[k,hf]
def lT(w:World)(r:Nat)(es:Array MapEntry)(clock:Nat)(a:Option Addr)(n:Int):World:={w with heap:=w.heap.setIfInBounds r (.map (es.push {key:= .agg #[.pointer a,.int .i64 n],val:= .agg #[],born:=clock}) (clock+1))}
theorem UM(a:Option Addr)(n:Int)(w:World)(r clock:Nat)(es:Array MapEntry)(hb:w.heap[r]?=some (.map es clock))(hf:(Instr.findKey 325 (.agg #[.pointer a,.int .i64 n]) es.toList).run prog w= .ok none w):
 (Instr.mapUpdate 320 (.map (some r)) (.agg #[.pointer a,.int .i64 n]) (.agg #[])).run prog w= .ok () (lT w r es clock a n):=by
 have k:=Ej false a n 9998 w;unfold Instr.mapUpdate;simp only[Sem.run_bind,bR underlying320,MapKept.run_getObj_map hb,Result.andThen];rw[show(10000:Nat)=9998+1+1 from rfl];generalize(9998+1+1:Nat)=M at*;simp[k,hf,MapKept.run_setObj_map _ hb,lT]
theorem xe{w:World}{r clock:Nat}{es:Array MapEntry}{a:Option Addr}{n:Int}:Kp (fun k=>k=r) w (lT w r es clock a n):=
 ⟨rfl,rfl,rfl,by simp[lT],fun k _ hk=>by simp[lT,Ne.symm hk]⟩
theorem Og{w:World}{r clock:Nat}{es:Array MapEntry}{a:Option Addr}{n:Int}(hb:w.heap[r]?=some (.map es clock)):(lT w r es clock a n).heap[r]?=some (.map (es.push {key:= .agg #[.pointer a,.int .i64 n],val:= .agg #[],born:=clock}) (clock+1)):=by
 have:=ae hb;simp[lT,this]
def thw(w:World):World:={w with heap:=w.heap.map fun o=>match o with| .cells c t fz=> .cells (c.mapIdx fun i x=>if fz.1<=i/\i<fz.2 then .tuple #[]else x) t fz|o=>o}
def Cz(w:World)(a:Option Addr):Prop:=∀x,a=some x->w.frozen? x=false/\∃c t fz,w.heap[x.block]?=some (.cells c t fz)
section
variable{H:Type}{enc:TypeId×Value->H}{w:World}
end
def Kz(w:World)(es:List MapEntry):Prop:=∀e∈es,e.val= .agg #[]/\∃b m,e.key= .agg #[.pointer b,.int .i64 m]/\Cz w b
def Yg(w:World)(r:Nat)(es:Array MapEntry)(clock:Nat):World:={w with heap:=w.heap.setIfInBounds r (.map es clock)}
theorem wU(l:List V)(ao:Option Addr)(cap than:Nat)(w:World)(hF:Fo w l ao)(hS:sizes l<=20000)(hth:than<=67108864):
 Calls prog 218 #[.slice ao l.length cap,.int .i64 than,.func (.func 217) #[] #[]] w fun e w'=>e= .returned (.bool (decide (than<sizes l)))/\aA w w':=by
 obtain⟨i0,hi,hz0,hz1,hz2⟩:=bM kN;have hroot:=hid hF;have hll:=fG l;have acK:l.length<=20000:=by omega
 have hrow:=hid (xI w 90 (Z0 (l,ao,cap)));clear hF;go_enter func218,ntmps218;go_wp2;go_loopg [7,8] (1+sizes l) (fun gk p sv wr=>∃(P:Nat) (ts:List Pl),p= .int .i64 P/\wr.ownsRow w.heap.size 90 1 sv ts.length (ts.map Z0)/\Lie w ts/\tsz ts=gk/\gk<=1+sizes l/\P+trs ts=sizes l/\Below w.heap.size w wr);case atStart=>
  refine⟨l.length,[(l,ao,cap)],rfl,hrow.out, ?_,mR _,aj _,by rw[rM];simp only;omega,(cK _ _).alloc (aj _) _⟩;intro x hx;simp at hx;subst hx;exact hroot.out
 case round=>
  obtain⟨P,ts,rfl,hr,hL,hsz,hle,hP,hB⟩:=hrel;have hsB:=hB.size;by_cases hbig:than<P
  ·have hE:=hid (show decide (than<sizes l)=true by simp;omega);have hd:decide ((P:Int)<=(than:Int))=false:=(by simp;omega);have hd2:¬(P:Int)<=(than:Int):=(by omega);have hP5:P<=20000:=(by omega);clear hsz hP;go_wp2;go_ret;exact⟨by rw[hE.out];simp,gV hB⟩
  ·have hd2:(P:Int)<=(than:Int):=(by omega);rcases eH ts with rfl|⟨ts,⟨u,ua,uc⟩,rfl⟩
   ·obtain⟨av,cv,rfl⟩:=YU hr;have hE:=hid (show decide (than<sizes l)=false by simp[wS]at hP;simp;omega);have hP5:P<=20000:=(by omega);clear hsz hP;go_wp2;go_ret;exact⟨by rw[hE.out];simp,gV hB⟩
   ·rw[eO]at hr hL hsz hP;rw[bA,dz,List.map_nil,ak,aL,bf,bP]at hr;obtain⟨g,cp,hv⟩:=fP hr (by omega);subst hv;obtain⟨hr',hc'⟩:=lU hr rfl;have hc:=hc' 0 (by decide);simp only[Nat.mul_one,eD,List.getElem?_cons_zero,Z0]at hc;have hu:=hL (u,ua,uc) (by simp);simp only at hu;have hL':Lie w ts:=fun x hx=>hL x (by simp[hx]);rw[kC,mR]at hsz;rw[rU,rM]at hP;simp only at hsz hP;have htl:=wF ts;have hul:=fG u;have hcp:=kQ hr;have abz:u.length<=20000:=(by omega);have ach:ts.length<=20000:=(by omega);have hP5:P<=20000:=(by omega);have HL:=hid hL';have HU:=hid hu;have HX:=bC hsz hP;clear hc' hr hL hL' hu hsz hP;go_wp2;go_loopw [7,8,38] (fun p sv i w2=>∃(j Q:Nat) (ks:List Pl),j<=u.length/\i= .int .i64 j/\p= .int .i64 (P+Q:Nat)/\w2.ownsRow w.heap.size 90 1 sv (ts++ks).length ((ts++ks).map Z0)/\Lie w ks/\(Q+trs ks+j=sizes (u.take j)/\tsz ks<=sizes (u.take j)/\ks.length<=j)/\Below w.heap.size w w2) (fun _ _ i _=>u.length-(intOf i).toNat);case atStart=>exact⟨0,0,[],aP _,rfl,rfl,by simpa using hr',fun x hx=>by simp at hx,⟨by simp[wS,YX],by simp[zx],aj _⟩,hB⟩
    case round=>
     obtain⟨j,Q,ks,hj,rfl,rfl,rR,hLk,hks,hBk⟩:=hrel;have htt:=gy u j;have abA:(ts++ks).length<=40000:=(by have:=HX.out;simp only[ak];omega);have hQ5:Q<=20000:=(by have:=HX.out;omega);obtain⟨nk,hnk⟩:∃nk,nk=(ts++ks).length:=⟨_,rfl⟩;rw[<-hnk]at rR abA;have HNK:=hid hnk;clear hnk;obtain⟨av,cv,hsv⟩:=YU rR;by_cases hlt:j<u.length
     ·obtain⟨bb,oo,rfl,dh,ca,cc,ds,hci⟩:=HU.out.get j hlt;have hbb:=aW w _ ds;obtain⟨d0,d9,d1⟩:=gq (eZ hBk) dh;have dsk:=rq hBk ds hbb;have hnx:=mo u j hlt;generalize hcu:u[j]=c at*;have HC:=hid hci.fo;have HN:=bC hnx (size_eq c);have HK:=hid hks;have adO:c.l.length<=20000:=(by have:=fG c.l;have:=size_eq c;have:=gy u (j+1);have:=HX.out;omega);clear hcu hnx hks dh ds hci;by_cases hcl:c.l.length=0
      ·subst hsv;have hcl':¬(0:Int)<(c.l.length:Int):=(by omega);have HCL:=hid hcl;clear hcl;go_wp2_with (go_at_call 217;refine(ib c ca cc _).mono ?_;rintro e w3 ⟨rfl,q3⟩);refine⟨⟨j+1,Q,ks,by omega,by go_num,by go_num,HNK.out▸(q3.row (rR.alloc _) fun _ _ e=>e),hLk, ?_,sj (hBk.alloc hBk.size _) q3 (by have:=hBk.size;simp;omega)⟩,by simp[intOf];omega⟩;have h0:c.l=[]:=bB HCL.out;have h1:=HN.out;have h2:=HK.out;rw[h0,YX]at h1;exact⟨by omega,by omega,by omega⟩
      ·have hcl':(0:Int)<(c.l.length:Int):=(by omega);have HR:=hid rR;subst hsv;have hsk:=hBk.size;go_wp2_with (first
            |(at_builtin;refine aX _ rfl (.tmp 52) (.tmp 54) 319 rfl w.heap.size 90 i0 _ 1 24 lV hi hz0 hz1 hz2 rfl (by decide) _ nk ((ts++ks).map Z0) rfl (hr3.alloc _) ⟨w3.heap.size,0,none⟩ 1 1 [Z0 (c.l,ca,cc)] rfl rfl (gT w3 _ 90) (by simp[Value.oneCell',Z0]) (by decide) (by unfold maxLen;omega) (by omega) (by simp;omega) _ rfl ?_;intro g2 cap2 w1 hr1 hg1 hat hlt1;have hS:=hid (xD (x:=(c.l,ca,cc)) hB3 (by omega) hr3 HNK.out hr1 hg1);clear hr1 hg1 hat hlt1)
            |(go_at_call 217;refine(ib c ca cc _).mono ?_;rintro e w3 ⟨rfl,q3⟩;have hr3:=q3.row (HR.out.alloc _) (fun _ _ e=>e);have hB3:=sj (hBk.alloc hBk.size _) q3 (by simp;omega);have hs3:=hB3.size))
       refine⟨⟨j+1,Q+c.l.length,ks++[(c.l,ca,cc)],by omega,by go_num,by go_num, ?_,hLk.app ?_, ?_,hS.out.2⟩,by simp[intOf];omega⟩;rw[<-aV];exact hS.out.1;intro x hx;simp at hx;subst hx;exact HC.out;have h1:=HN.out;have h2:=HK.out;have h3:=fG c.l;rw[rU,rM,kC,mR,ak];simp only[aL,bf];exact⟨by omega,by omega,by omega⟩
     ·have hjl:j=u.length:=(by omega);subst hjl;have HK:=hid hks;clear hks;subst hsv;go_wp2;go_roundg (tsz (ts++ks));case measure=>
            have h2:=HK.out;have h3:=HX.out;rw[aZ]at h2;rw[kC];omega
      case rel=>
            refine⟨P+Q,ts++ks,by go_num,HNK.out▸rR,HL.out.app hLk,rfl, ?_, ?_,hBk⟩;have h2:=HK.out;have h3:=HX.out;rw[aZ]at h2;rw[kC];omega;have h2:=HK.out;have h3:=HX.out;rw[aZ]at h2;rw[rU];omega
theorem Ao{w:World}{v u:V}{b off:Nat}(h:v.head w b off)(h':u.head w b off):v.kind=u.kind/\v.k=u.k/\v.n=u.n:=by
 obtain⟨a1,a2,a3⟩:=h;obtain⟨b1,b2,b3⟩:=h';rw[a1]at b1;rw[a2]at b2;rw[a3]at b3;simp only[aT,Value.int.injEq,true_and]at b1 b2 b3;exact⟨b1,b2,b3⟩
theorem JR{w:World}(v:V):∀(u:V)(b off:Nat),v.at w b off->u.at w b off->v=u:=by
 induction v using V.aan with
 |h v ih=>
  intro u b off hv hu;rw[Zt]at hv hu;obtain⟨c0,ao,cap,c2,hI⟩:=hv;obtain⟨d0,ao',cap',d2,hU⟩:=hu;rw[c2]at d2;simp only[aT,aY]at d2;obtain⟨rfl,hlen,_⟩:=d2;rw[Ro];refine⟨Ao c0 d0, ?_⟩;refine List.ext_getElem hlen fun i h1 h2=> ?_;obtain⟨b1,o1,e1,k1⟩:=hI.fo i h1;obtain⟨b2,o2,e2,k2⟩:=hU.fo i h2;rw[e1]at e2;cases e2;exact ih _ (aI h1) _ _ _ k1 k2
def mx(ls:List Pl):Nat:=ls.foldr (fun x m=>max (Zl x.1) m) 0
theorem WL:mx []=0:=rfl
theorem Rf(a b:List Pl):mx (a++b)=max (mx a) (mx b):=by
 induction a with
 |nil=>simp[mx]
 |cons x a ih=>simp only[mx,bG,List.foldr_cons]at ih|-;rw[ih];omega
theorem SL(x:Pl):mx [x]=Zl x.1:=by simp[mx]
theorem Ru{ls:List Pl}{x:Pl}(h:x∈ls):Zl x.1<=mx ls:=by
 induction ls with
 |nil=>simp at h
 |cons y ls ih=>
  simp only[mx,List.foldr_cons]at ih|-;rcases aU.1 h with rfl|h;omega;have:=ih h;omega
theorem T9(ls:List Pl)(j:Nat)(h:j<ls.length):mx (ls.take (j+1))=max (mx (ls.take j)) (Zl ls[j].1):=by
 rw[dQ,Rf,aQ h];simp[mx]
def ssz(ts:List Pl):Nat:=(ts.map fun x=>sizes x.1).sum
theorem D7(a b:List Pl):ssz (a++b)=ssz a+ssz b:=by simp[ssz]
theorem Li(x:Pl):ssz [x]=sizes x.1:=by simp[ssz]
theorem Qc(ls:List Pl)(j:Nat)(h:j<ls.length):ssz (ls.take (j+1))=ssz (ls.take j)+sizes ls[j].1:=by
 rw[dQ,D7,aQ h];simp[ssz]
theorem FY(ls:List Pl)(j:Nat):ssz (ls.take j)<=ssz ls:=by
 have h:ssz ls=ssz (ls.take j++ls.drop j):=by rw[dS]
 rw[h,D7];omega
theorem Lv{ts:List Pl}(h:∀x∈ts,x.1≠[]):ts.length<=ssz ts:=by
 induction ts with
 |nil=>simp[ssz]
 |cons x ts ih=>
  have h1:=ih fun y hy=>h y (by simp[hy]);have h2:1<=sizes x.1:=by have:=fG x.1;have:=List.length_pos_iff.2 (h x (by simp));omega
  simp[ssz]at h1|-;omega
def Xv(w:World)(ts:List Pl):Prop:=∀x∈ts,Fo (cln w) x.1 x.2.1
def kv(x:Pl):Value:= .agg #[.pointer x.2.1,.int .i64 x.1.length]
structure DS(W Wr:World)(bl:Value)(ks:List Pl)(es:Array MapEntry)(clock:Nat)(w:World):Prop where
 row:w.ownsRow (Wr.heap.size+1) 90 1 bl ks.length (ks.map Z0)
 lie:Xv W ks
 ne:∀x∈ks,x.1≠[]
 map:w.heap[Wr.heap.size]?=some (.map es clock)
 keys:∀e∈es.toList,e.val= .agg #[]/\∃x∈ks,e.key=kv x
 low:Below Wr.heap.size Wr w
theorem VI{W w:World}{B:Nat}{x:Pl}(hl:Fo (cln W) x.1 x.2.1)(hn:x.1≠[])(hB:Below B W w)(hW:W.heap.size<=B):Cp w x.2.1:=by
 intro a ha;have h0:0<x.1.length:=List.length_pos_iff.2 hn;obtain⟨b,o,e,_⟩:=hl.get 0 h0;rw[e]at ha hl;cases ha;obtain⟨c,t,hc⟩:=hl.clean hn;exact⟨c,t,(hB.block b (by have:=ae hc;omega)).trans hc⟩
theorem DS.ks{W Wr w:World}{bl:Value}{ks:List Pl}{es:Array MapEntry}{clock:Nat}(H:DS W Wr bl ks es clock w)(hW:Below W.heap.size W Wr):Ks w es.toList:=by
 intro e he;obtain⟨hv,x,hx,hk⟩:=H.keys e he;exact⟨hv,_,_,hk,VI (H.lie x hx) (H.ne x hx) (hW.trans (H.low.mono hW.size)) (aj _)⟩
theorem DS.quiet{W Wr w w':World}{bl:Value}{ks:List Pl}{es:Array MapEntry}{clock:Nat}(H:DS W Wr bl ks es clock w)(q:aA w w'):DS W Wr bl ks es clock w':=
 ⟨q.row H.row fun _ _ e=>e,H.lie,H.ne,(q.block _ (ae H.map) fun e=>e).trans H.map,H.keys,H.low.trans (q.below (by have:=ae H.map;omega) fun _ e=>e.elim)⟩
theorem DS.met{W Wr w:World}{bl:Value}{ks:List Pl}{es:Array MapEntry}{clock:Nat}{x:Pl}(H:DS W Wr bl ks es clock w)(hx:Fo (cln W) x.1 x.2.1)(h:lJ es.toList x.2.1 x.1.length=true):Zl x.1<=mx ks:=by
 obtain⟨e,he,hk⟩:=dW.1 h;obtain⟨_,y,hy,hek⟩:=H.keys e he;rw[Aj hek]at hk;simp only[Bool.and_eq_true,decide_eq_true_eq]at hk;obtain⟨h1,h2⟩:=hk;have h2:x.1.length=y.1.length:=by omega
 have hl:x.1=y.1:=by
  refine List.ext_getElem h2 fun i i1 i2=> ?_;obtain⟨b1,o1,e1,k1⟩:=hx i i1;obtain⟨b2,o2,e2,k2⟩:=H.lie y hy i i2;rw[h1,e2]at e1;cases e1;exact JR _ _ _ _ k1 k2
 rw[hl];exact Ru hy
theorem DS.aeF{W Wr w:World}{bl:Value}{ks:List Pl}{es:Array MapEntry}{clock:Nat}(H:DS W Wr bl ks es clock w):lJ es.toList none 0=false:=by
 cases h:lJ es.toList none 0 with
 |false=>rfl
 |true=>
  obtain⟨e,he,hk⟩:=dW.1 h;obtain⟨_,y,hy,hek⟩:=H.keys e he;rw[Aj hek]at hk;simp only[Bool.and_eq_true,decide_eq_true_eq]at hk;obtain⟨_,h2⟩:=hk;exact absurd (List.length_eq_zero_iff.1 (by omega)) (H.ne y hy)
theorem DS.push{W Wr w w5 w1:World}{bl:Value}{ks:List Pl}{es:Array MapEntry}{clock:Nat}{x:Pl}{g cap n:Nat}{o:Obj}(H:DS W Wr bl ks es clock w)(q:aA w w5)(hx:Fo (cln W) x.1 x.2.1)(hne:x.1≠[])(hn:n=ks.length)
 (hr1:w1.ownsRow (Wr.heap.size+1) 90 1 (.slice (some ⟨g,0,none⟩) (n+1) cap) (n+1) (ks.map Z0++[Z0 x])) (hg:((lT w5 Wr.heap.size es clock x.2.1 x.1.length).alloc o).grownBy w1 bl.ownBlock):
 DS W Wr (.slice (some ⟨g,0,none⟩) (n+1) cap) (ks++[x]) (es.push {key:=kv x,val:= .agg #[],born:=clock}) (clock+1) w1:=by
 subst hn;have H5:=H.quiet q;have hz5:(lT w5 Wr.heap.size es clock x.2.1 x.1.length).heap.size=w5.heap.size:=by simp[lT]
 have hlt:=ae H5.map;refine⟨by simpa using hr1,fun y hy=> ?_,fun y hy=> ?_, ?_,fun e he=> ?_, ?_⟩;rcases aK.1 hy with hy|hy;exact H.lie y hy;simp at hy;subst hy;exact hx;rcases aK.1 hy with hy|hy;exact H.ne y hy;simp at hy;subst hy;exact hne;rw[hg.block Wr.heap.size (by simp;omega) (fun e=>by have:=(H5.row.lt _ e.symm).1;omega),aB _ _ _ (by omega)];exact Og H5.map;simp only[Array.toList_push,aK,bD]at he;rcases he with he|rfl;obtain⟨h1,y,hy,h2⟩:=H.keys e he;exact⟨h1,y,by simp[hy],h2⟩;exact⟨rfl,x,by simp,rfl⟩;refine⟨?_, ?_, ?_, ?_,fun k hk=> ?_⟩;exact(hg.os.trans rfl).trans H5.low.os;exact(hg.tape.trans rfl).trans H5.low.tape;exact(hg.output.trans rfl).trans H5.low.output;have:=hg.size;have:=H5.low.size;simp at*;omega;rw[hg.block k (by simp;omega) (fun e=>by have:=(H5.row.lt _ e.symm).1;omega),aB _ _ _ (by omega),xe.block k (by omega) (by omega)];exact H5.low.block k hk
