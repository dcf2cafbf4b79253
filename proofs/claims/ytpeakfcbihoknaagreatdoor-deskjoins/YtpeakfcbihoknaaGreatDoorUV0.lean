/- Parts. -/
import Derived.Test.YtpeakfcbihoknaaGreatDoorUA
import Derived.Lib.ItoaLen
import Derived.Test.YtpeakfcbihoknaaGreatDoorRows
import Derived.WalkKit
import Derived.ProofKit
import Derived.OpenShut
import Derived.ArgAppend
import Derived.OneCell
import Derived.BigQuiet
import Derived.Deep.AppendLies
import Derived.Deep.Slices
import Derived.Deep.LoopGhost
open Go.ChangeShapes Go.WideShapes Go.ChangeAt Go.RowKit
namespace Go.Proofs.YtpeakfcbihoknaaGreatDoor
open Proofs.Tryz
structure V where
 kind:Int
 n:Int
 l:List V
theorem V.ind{P:V->Prop}(h:∀k n l,(∀x∈l,P x)->P ⟨k,n,l⟩)(v:V):P v:=
 V.rec (motive_1:=P) (motive_2:=fun l=>∀x∈l,P x) (fun k n l ih=>h k n l ih) (by simp) (fun a l h1 h2=>by simp only[aU,forall_eq_or_imp];exact⟨h1,h2⟩) v
theorem V.aan{P:V->Prop}(h:∀v:V,(∀x∈v.l,P x)->P v)(v:V):P v:=V.ind (fun k n l ih=>h ⟨k,n,l⟩ ih) v
def V.size:V->Nat
 |⟨_,_,l⟩=>1+sizes l
 where sizes:List V->Nat
  |[]=>0
  |v::l=>V.size v+sizes l
abbrev sizes(l:List V):Nat:=V.size.sizes l
theorem j6(k n:Int)(l:List V):V.size ⟨k,n,l⟩=1+sizes l:=by rw[V.size]
theorem size_eq(v:V):v.size=1+sizes v.l:=by cases v;exact j6 _ _ _
theorem YX:sizes []=0:=by simp only[sizes,V.size.sizes]
theorem YV(v:V)(l:List V):sizes (v::l)=v.size+sizes l:=by simp only[sizes,V.size.sizes]
theorem iZ(a b:List V):sizes (a++b)=sizes a+sizes b:=by
 induction a with
 |nil=>simp[YX]
 |cons x a ih=>rw[bG,YV,YV,ih];omega
theorem size_pos(v:V):1<=v.size:=by rw[size_eq];omega
theorem ky(v:V):sizes [v]=v.size:=by rw[YV,YX];rfl
theorem fG(l:List V):l.length<=sizes l:=by
 induction l with
 |nil=>simp
 |cons x a ih=>rw[YV,aL];have:=size_pos x;omega
theorem uz{l:List V}{v:V}(h:v∈l):v.size<=sizes l:=by
 induction l with
 |nil=>simp at h
 |cons x a ih=>
  rw[YV];rcases aU.1 h with rfl|h;omega;have:=ih h;omega
theorem sO(l:List V)(i:Nat)(h:i<l.length):l[i].size<=sizes l:=uz (aI h)
theorem mo(l:List V)(i:Nat)(h:i<l.length):sizes (l.take (i+1))=sizes (l.take i)+l[i].size:=by
 rw[dQ,iZ,aQ h];simp[YV,YX]
theorem gy(l:List V)(i:Nat):sizes (l.take i)<=sizes l:=by
 have h:sizes l=sizes (l.take i++l.drop i):=by rw[dS]
 rw[h,iZ];omega
def V.same:V->V->Bool
 |⟨k,n,l⟩,⟨k',n',l'⟩=>k==k'&&n==n'&&aav l l'
 where aav:List V->List V->Bool
  |[],[]=>true
  |a::l,b::l'=>V.same a b&&aav l l'
  |[],_::_=>false
  |_::_,[]=>false
abbrev aav(a b:List V):Bool:=V.same.aav a b
theorem Ro{x y:V}:x=y<->(x.kind=y.kind/\x.n=y.n)/\x.l=y.l:=by cases x;cases y;simp[and_assoc]
def V.pre:V->List V
 |⟨k,n,l⟩=>⟨k,n,l⟩::Zh l
 where Zh:List V->List V
  |[]=>[]
  |v::l=>V.pre v++Zh l
abbrev Zh(l:List V):List V:=V.pre.Zh l
theorem I8(k n:Int)(l:List V):V.pre ⟨k,n,l⟩=⟨k,n,l⟩::Zh l:=by rw[V.pre]
theorem xS(v:V):v.pre=v::Zh v.l:=by cases v;exact I8 _ _ _
theorem iI:Zh []=[]:=by simp only[Zh,V.pre.Zh]
theorem gm(v:V)(l:List V):Zh (v::l)=v.pre++Zh l:=by simp only[Zh,V.pre.Zh]
theorem yH(a b:List V):Zh (a++b)=Zh a++Zh b:=by
 induction a with
 |nil=>simp[iI]
 |cons x a ih=>rw[bG,gm,gm,ih,aV]
theorem Qv(v:V):Zh [v]=v.pre:=by rw[gm,iI,dC]
theorem Il(l:List V)(i:Nat)(h:i<l.length):Zh l=Zh (l.take i)++(l[i].pre++Zh (l.drop (i+1))):=by
 rw[<-gm,<-yH,List.getElem_cons_drop,dS]
def jc(k:Int):Option Nat:=if k=2 then some 2 else if k=3 then some 1 else if k=0\/k=1\/k=4\/k=5 then some 0 else none
def V.YW(v:V):Int:=
 match jc v.kind with
 |none=>2
 |some p=>if v.l.length≠p then 5 else if(v.kind=0\/v.kind=2)/\v.n≠0 then 5 else if(v.kind=3\/v.kind=4\/v.kind=5)/\v.n<0 then 1 else 0
def first:List V->Int
 |[]=>0
 |v::l=>if v.YW=0 then first l else v.YW
def V.fault(v:V):Int:=first v.pre
def V.check(v:V):Int:=if 40<v.size then 3 else v.fault
theorem nX(a b:List V):first (a++b)=if first a=0 then first b else first a:=by
 induction a with
 |nil=>simp[first]
 |cons x a ih=>
  by_cases h:x.YW=0;have e:first (x::a)=first a:=(by rw[first,ag h]);rw[bG,first,ag h,ih,e]
  ·have e:first (x::a)=x.YW:=(by rw[first,af h]);rw[bG,first,af h,e,af h]
theorem ny(v:V):v.fault=if v.YW=0 then first (Zh v.l)else v.YW:=by rw[V.fault,xS,first]
theorem ui{v:V}(h:v.fault=0)(i:Nat)(hi:i<v.l.length):v.l[i].fault=0:=by
 rw[ny]at h;by_cases h1:v.YW=0
 ·rw[ag h1,Il v.l i hi,nX]at h;by_cases h2:first (Zh (v.l.take i))=0
  ·rw[ag h2,nX]at h;by_cases h3:first v.l[i].pre=0
   ·exact h3
   ·rw[af h3]at h;exact h
  ·rw[af h2]at h;exact absurd h h2
 ·rw[af h1]at h;exact absurd h h1
theorem xW{v:V}(h:v.fault=0):v.YW=0:=by
 rw[ny]at h;by_cases h1:v.YW=0;exact h1;rw[af h1]at h;exact h
theorem fV{v:V}(h:v.check=0):v.size<=40:=by
 unfold V.check at h;by_cases h1:40<v.size;rw[ag h1]at h;simp at h;omega
theorem jX{v:V}(h:v.check=0):v.fault=0:=by
 have h1:=fV h;unfold V.check at h;rwa[af (by omega)]at h
def gG(l:List V):List Int:=l.filterMap fun v=>if v.kind=4 then some v.n else none
def V.Zn(v:V):List Int:=gG v.pre
def mi(l:List V):Bool:=l.any fun v=>v.kind==5
def V.gate(v:V):Bool:=mi v.pre
theorem jb(a b:List V):gG (a++b)=gG a++gG b:=by simp[gG]
theorem vz(a b:List V):mi (a++b)=(mi a||mi b):=by simp[mi]
theorem qc(v:V):v.Zn=(if v.kind=4 then[v.n]else[])++gG (Zh v.l):=by
 rw[V.Zn,xS];by_cases h:v.kind=4<;>simp[gG,h]
theorem zq(v:V):v.gate=((v.kind==5)||mi (Zh v.l)):=by rw[V.gate,xS];simp[mi]
theorem zw(v:V):v.pre.length=v.size:=by
 induction v using V.ind with
 |h k n l ih=>
  rw[I8,j6];have key:∀l:List V,(∀x∈l,x.pre.length=x.size)->(Zh l).length=sizes l:=by
   intro l;induction l with
   |nil=>intro _;simp[iI,YX]
   |cons x l ihl=>intro hx;rw[gm,YV,ak,hx x (by simp),ihl fun y hy=>hx y (by simp[hy])]
  simp[key l ih];omega
theorem Gc(v:V):v.Zn.length<=v.size:=by
 rw[<-zw,V.Zn,gG];exact List.length_filterMap_le _ _
def V.text:V->List UInt8
 |⟨k,n,l⟩=>
  if k=1 then Lib.itoa n else if k=2 then 40::(texts l++[41])else if k=3 then 91::(Lib.itoa n++32::(texts l++[93]))else if k=4 then 35::Lib.itoa n else if k=5 then 33::Lib.itoa n else[110,105,108]
 where texts:List V->List UInt8
  |[]=>[]
  |v::l=>V.text v++match l with|[]=>[]|_::_=>32::texts l
abbrev texts(l:List V):List UInt8:=V.text.texts l
theorem rD(v:V):v.text=if v.kind=1 then Lib.itoa v.n else if v.kind=2 then 40::(texts v.l++[41])else if v.kind=3 then 91::(Lib.itoa v.n++32::(texts v.l++[93]))else if v.kind=4 then 35::Lib.itoa v.n else if v.kind=5 then 33::Lib.itoa v.n else[110,105,108]:=by cases v;rw[V.text]
theorem Ms:texts []=[]:=by simp only[texts,V.text.texts]
theorem yt(v:V):texts [v]=v.text:=by simp only[texts,V.text.texts,dC]
theorem Da(v u:V)(l:List V):texts (v::u::l)=v.text++32::texts (u::l):=by simp only[texts,V.text.texts]
theorem hid{p:Prop}(h:p):Hid p:=h
theorem bC{p0 p1:Prop}(h0:p0)(h1:p1):Hid (p0/\p1):=hid ⟨h0,h1⟩
theorem gp{p0 p1 p2:Prop}(h0:p0)(h1:p1)(h2:p2):Hid (p0/\p1/\p2):=hid ⟨h0,h1,h2⟩
theorem jR{p0 p1 p2 p3:Prop}(h0:p0)(h1:p1)(h2:p2)(h3:p3):Hid (p0/\p1/\p2/\p3):=hid ⟨h0,h1,h2,h3⟩
theorem yY{p0 p1 p2 p3 p4:Prop}(h0:p0)(h1:p1)(h2:p2)(h3:p3)(h4:p4):Hid (p0/\p1/\p2/\p3/\p4):=hid ⟨h0,h1,h2,h3,h4⟩
theorem Dq{p0 p1 p2 p3 p4 p5:Prop}(h0:p0)(h1:p1)(h2:p2)(h3:p3)(h4:p4)(h5:p5):Hid (p0/\p1/\p2/\p3/\p4/\p5):=hid ⟨h0,h1,h2,h3,h4,h5⟩
theorem Yd{p0 p1 p2 p3 p4 p5 p6:Prop}(h0:p0)(h1:p1)(h2:p2)(h3:p3)(h4:p4)(h5:p5)(h6:p6):Hid (p0/\p1/\p2/\p3/\p4/\p5/\p6):=hid ⟨h0,h1,h2,h3,h4,h5,h6⟩
theorem Wp{p0 p1 p2 p3 p4 p5 p6 p7:Prop}(h0:p0)(h1:p1)(h2:p2)(h3:p3)(h4:p4)(h5:p5)(h6:p6)(h7:p7):Hid (p0/\p1/\p2/\p3/\p4/\p5/\p6/\p7):=hid ⟨h0,h1,h2,h3,h4,h5,h6,h7⟩
theorem Xf{p0 p1 p2 p3 p4 p5 p6 p7 p8:Prop}(h0:p0)(h1:p1)(h2:p2)(h3:p3)(h4:p4)(h5:p5)(h6:p6)(h7:p7)(h8:p8):Hid (p0/\p1/\p2/\p3/\p4/\p5/\p6/\p7/\p8):=hid ⟨h0,h1,h2,h3,h4,h5,h6,h7,h8⟩
theorem gL{w:World}{base base':Nat}{e:TypeId}{size:Nat}{v:Value}{n:Nat}{xs:List Value}(h:w.ownsRow base e size v n xs)(hb:base'<=base):w.ownsRow base' e size v n xs:=by
 refine⟨h.1, ?_⟩;rcases h.2 with hn|⟨g,cap,cur,rfl,hg,rest⟩;exact .inl hn;exact .inr ⟨g,cap,cur,rfl,aF hb hg,rest⟩
theorem YU{w:World}{base:Nat}{e:TypeId}{size:Nat}{v:Value}{n:Nat}{xs:List Value}(h:w.ownsRow base e size v n xs):∃ao cap,v= .slice ao n cap:=by
 rcases h.2 with⟨rfl,rfl⟩|⟨g,cap,cur,rfl,_⟩;exact⟨none,0,rfl⟩;exact⟨_,cap,rfl⟩
theorem Zc{w:World}{base:Nat}{e:TypeId}{size:Nat}{ao:Option Addr}{cap n:Nat}{xs:List Value}(h:w.ownsRow base e size (.slice ao n cap) n xs)(hn:0<n):
 ∃g,ao=some ⟨g,0,none⟩/\∀j,j<n*size->w.cell? ⟨g,j,none⟩=xs[j]?:=by
 rcases h.2 with⟨h',h0⟩|⟨g,cap',cur,h',_⟩;omega;simp only[aY]at h';obtain⟨rfl,_,rfl⟩:=h';exact⟨g,rfl,fun j hj=>h.cellAt j hj⟩
theorem fP{w:World}{base:Nat}{e:TypeId}{size:Nat}{v:Value}{n:Nat}{xs:List Value}(h:w.ownsRow base e size v n xs)(hn:0<n):∃g cap,v= .slice (some ⟨g,0,none⟩) n cap:=by
 rcases h.2 with⟨_,h0⟩|⟨g,cap,cur,rfl,_⟩;omega;exact⟨g,cap,rfl⟩
structure Kp(F:Nat->Prop)(w w':World):Prop where
 os:w'.os=w.os
 tape:w'.tape=w.tape
 output:w'.output=w.output
 size:w.heap.size<=w'.heap.size
 block:∀k,k<w.heap.size->¬F k->w'.heap[k]?=w.heap[k]?
theorem Kp.refl(F:Nat->Prop)(w:World):Kp F w w:=⟨rfl,rfl,rfl,aj _,fun _ _ _=>rfl⟩
theorem Kp.trans{F:Nat->Prop}{a b c:World}(h:Kp F a b)(k:Kp F b c):Kp F a c:=
 ⟨k.os.trans h.os,k.tape.trans h.tape,k.output.trans h.output,aF h.size k.size,fun i hi hF=>(k.block i (az hi h.size) hF).trans (h.block i hi hF)⟩
theorem Kp.mono{F G:Nat->Prop}{w w':World}(h:Kp F w w')(hF:∀k,k<w.heap.size->F k->G k):Kp G w w':=
 ⟨h.os,h.tape,h.output,h.size,fun k hk hG=>h.block k hk fun hf=>hG (hF k hk hf)⟩
theorem Kp.grown{F:Nat->Prop}{w w':World}{row:Option Nat}(hg:w.grownBy w' row)(hF:∀k,k<w.heap.size->some k=row->F k):Kp F w w':=
 ⟨hg.os,hg.tape,hg.output,hg.size,fun k hk hf=>hg.block k hk fun e=>hf (hF k hk e)⟩
theorem Kp.setCell{F:Nat->Prop}(w:World)(a:Addr)(u:Value)(hF:F a.block):Kp F w (w.setCell a u):=
 ⟨rfl,rfl,rfl,by simp[World.setCell],fun _ _ hf=>Below.heap_setCell _ _ _ _ fun e=>hf (e▸hF)⟩
theorem Kp.alloc{F:Nat->Prop}(w:World)(o:Obj):Kp F w (w.alloc o):=
 ⟨rfl,rfl,rfl,by simp,fun _ hk _=>aB w o _ hk⟩
theorem Kp.drew{F:Nat->Prop}(w:World):Kp F w w.drew:=⟨rfl,rfl,rfl,aj _,fun _ _ _=>rfl⟩
theorem Kp.drewN{F:Nat->Prop}(w:World)(n:Nat):Kp F w (w.drewN n):=⟨rfl,rfl,rfl,aj _,fun _ _ _=>rfl⟩
theorem Kp.cell{F:Nat->Prop}{w w':World}(h:Kp F w w'){a:Addr}{v:Value}(hc:w.cell? a=some v)(hF:¬F a.block):w'.cell? a=some v:=
 (bz (h.block a.block (aW w a hc) hF)).trans hc
theorem Kp.row{F:Nat->Prop}{w w':World}(h:Kp F w w'){base:Nat}{e:TypeId}{size:Nat}{v:Value}{n:Nat}{xs:List Value}(ho:w.ownsRow base e size v n xs)(hF:∀k,v.ownBlock=some k->¬F k):w'.ownsRow base e size v n xs:=by
 refine⟨ho.1, ?_⟩;rcases ho.2 with hn|⟨g,cap,cur,rfl,hb,hgg,rest⟩;exact .inl hn;exact .inr ⟨g,cap,cur,rfl,hb,by rw[h.block g (ae hgg) (hF g rfl)];exact hgg,rest⟩
theorem Kp.below{F:Nat->Prop}{w w':World}{B:Nat}(h:Kp F w w')(hB:B<=w.heap.size)(hF:∀k,F k->B<=k):Below B w w':=
 ⟨h.os,h.tape,h.output,h.size,fun k hk=>h.block k (az hk hB) fun hf=>by have:=hF k hf;omega⟩
theorem Kp.fresh{F:Nat->Prop}{a b c:World}(h:Kp F a b)(k:Kp (fun i=>a.heap.size<=i) b c):Kp F a c:=
 ⟨k.os.trans h.os,k.tape.trans h.tape,k.output.trans h.output,aF h.size k.size,fun i hi hF=>(k.block i (az hi h.size) (by omega)).trans (h.block i hi hF)⟩
abbrev aA(w w':World):Prop:=Kp (fun _=>False) w w'
theorem gV{w w':World}(h:Below w.heap.size w w'):aA w w':=⟨h.os,h.tape,h.output,h.size,fun k hk _=>h.block k hk⟩
theorem Kp.low{w w':World}(h:aA w w'):Below w.heap.size w w':=h.below (aj _) fun _ h=>h.elim
def dH(z:Int):Prop:= -9223372036854775808<=z/\z<=9223372036854775807
def V.fits(v:V):Prop:=dH v.kind/\dH v.n
def V.head(w:World)(v:V)(b off:Nat):Prop:=w.cell? ⟨b,off,none⟩=some (.int .i64 v.kind)/\w.cell? ⟨b,off+1,none⟩=some (.int .i64 v.n)
def V.at(w:World):V->Nat->Nat->Prop
 |⟨k,n,l⟩,b,off=>V.fits ⟨k,n,l⟩/\V.head w ⟨k,n,l⟩ b off/\
   ∃ao cap,w.cell? ⟨b,off+2,none⟩=some (.slice ao l.length cap)/\(l=[]\/∃b' off',ao=some ⟨b',off',none⟩/\ats l b' off')
 where ats:List V->Nat->Nat->Prop
  |[],_,_=>True
  |v::l,b,off=>V.at w v b off/\ats l b (off+3)
def Fo(w:World)(l:List V)(ao:Option Addr):Prop:=∀i (h:i<l.length),∃b off,ao=some ⟨b,off,none⟩/\l[i].at w b (off+i*3)
structure Is(w:World)(v:V)(ao:Option Addr):Prop where
 fit:v.fits
 fo:Fo w v.l ao
theorem wP(w:World)(l:List V)(b off:Nat):V.at.ats w l b off<->∀i (h:i<l.length),l[i].at w b (off+i*3):=by
 induction l generalizing off with
 |nil=>simp[V.at.ats]
 |cons v l ih=>
  rw[V.at.ats,ih];constructor
  ·rintro⟨h0,h1⟩ i hi;cases i with
   |zero=>simpa using h0
   |succ i=>have:=h1 i (by simpa using hi);rw[show off+3+i*3=off+(i+1)*3 by omega]at this;simpa using this
  ·intro h;refine⟨h 0 (by simp),fun i hi=> ?_⟩;have:=h (i+1) (by simpa using hi);rw[show off+3+i*3=off+(i+1)*3 by omega];simpa using this
theorem AU(w:World)(l:List V)(ao:Option Addr):Fo w l ao<->(l=[]\/∃b' off',ao=some ⟨b',off',none⟩/\V.at.ats w l b' off'):=by
 constructor
 ·intro h;cases l with
  |nil=>exact .inl rfl
  |cons v l=>
   obtain⟨b,off,e,_⟩:=h 0 (by simp);refine .inr ⟨b,off,e,(wP w _ b off).2 fun i hi=> ?_⟩;obtain⟨b',off',e',h'⟩:=h i hi;rw[e]at e';cases e';exact h'
 ·rintro(rfl|⟨b,off,e,h⟩);intro i hi;simp at hi;intro i hi;exact⟨b,off,e,(wP w l b off).1 h i hi⟩
theorem Zt(w:World)(v:V)(b off:Nat):v.at w b off<->v.head w b off/\∃ao cap,w.cell? ⟨b,off+2,none⟩=some (.slice ao v.l.length cap)/\Is w v ao:=by
 obtain⟨k,n,l⟩:=v;rw[V.at];constructor;rintro⟨hf,hh,ao,cap,c2,h⟩;exact⟨hh,ao,cap,c2,hf,(AU w l ao).2 h⟩;rintro⟨hh,ao,cap,c2,hf,h⟩;exact⟨hf,hh,ao,cap,c2,(AU w l ao).1 h⟩
theorem Fo.nil(w:World)(ao:Option Addr):Fo w [] ao:=fun i hi=>by simp at hi
theorem Fo.get{w:World}{l:List V}{ao:Option Addr}(h:Fo w l ao)(i:Nat)(hi:i<l.length):
 ∃b off,ao=some ⟨b,off,none⟩/\l[i].head w b (off+i*3)/\∃ai cap,w.cell? ⟨b,off+i*3+2,none⟩=some (.slice ai l[i].l.length cap)/\Is w l[i] ai:=by
 obtain⟨b,off,e,h⟩:=h i hi;exact⟨b,off,e,(Zt w _ _ _).1 h⟩
theorem Is.get{w:World}{v:V}{ao:Option Addr}(h:Is w v ao)(i:Nat)(hi:i<v.l.length):
 ∃b off,ao=some ⟨b,off,none⟩/\v.l[i].head w b (off+i*3)/\∃ai cap,w.cell? ⟨b,off+i*3+2,none⟩=some (.slice ai v.l[i].l.length cap)/\Is w v.l[i] ai:=h.fo.get i hi
theorem gq{w w':World}(hk:∀(a:Addr) (x:Value),w.cell? a=some x->w'.cell? a=some x){v:V}{b off:Nat}(h:v.head w b off):v.head w' b off:=
 ⟨hk _ _ h.1,hk _ _ h.2⟩
theorem xq{w w':World}(hk:∀(a:Addr) (x:Value),w.cell? a=some x->w'.cell? a=some x)(v:V):∀b off,v.at w b off->v.at w' b off:=by
 induction v using V.aan with
 |h v ih=>
  intro b off h;rw[Zt]at h|-;obtain⟨c0,ao,cap,c2,i⟩:=h;refine⟨gq hk c0,ao,cap,hk _ _ c2,i.fit,fun j hj=> ?_⟩;obtain⟨b',off',e,h'⟩:=i.fo j hj;exact⟨b',off',e,ih _ (aI hj) _ _ h'⟩
theorem Fo.kept{w w':World}{l:List V}{ao:Option Addr}(h:Fo w l ao)(hk:∀(a:Addr) (x:Value),w.cell? a=some x->w'.cell? a=some x):Fo w' l ao:=
 fun j hj=>by obtain⟨b',off',e,h'⟩:=h j hj;exact⟨b',off',e,xq hk _ _ _ h'⟩
theorem Is.kept{w w':World}{v:V}{ao:Option Addr}(h:Is w v ao)(hk:∀(a:Addr) (x:Value),w.cell? a=some x->w'.cell? a=some x):Is w' v ao:=⟨h.fit,h.fo.kept hk⟩
theorem eZ{w w':World}(hb:Below w.heap.size w w'):∀(a:Addr)(x:Value),w.cell? a=some x->w'.cell? a=some x:=fun a _ hc=>(bz (hb.block a.block (aW w a hc))).trans hc
theorem Fo.low{w w':World}{l:List V}{ao:Option Addr}(h:Fo w l ao)(hb:Below w.heap.size w w'):Fo w' l ao:=h.kept (eZ hb)
theorem Is.low{w w':World}{v:V}{ao:Option Addr}(h:Is w v ao)(hb:Below w.heap.size w w'):Is w' v ao:=h.kept (eZ hb)
theorem Fo.quiet{w w':World}{l:List V}{ao:Option Addr}(h:Fo w l ao)(hq:aA w w'):Fo w' l ao:=h.low hq.low
theorem Is.quiet{w w':World}{v:V}{ao:Option Addr}(h:Is w v ao)(hq:aA w w'):Is w' v ao:=h.low hq.low
theorem Is.leaf(w:World)(v:V)(hf:v.fits)(hl:v.l=[])(ao:Option Addr):Is w v ao:=⟨hf,by rw[hl];exact Fo.nil w ao⟩
theorem jw{P:Program}{t:TypeId}{z:Value}{s b:Nat}(h:(P.info? t).map (fun i=>(i.zero,i.size,i.bytes))=some (some z,s,b)):∃i,P.info? t=some i/\i.zero=some z/\i.size=s/\i.bytes=b:=by
 cases hi:P.info? t with
 |none=>simp[hi]at h
 |some i=>simp[hi]at h;exact⟨i,rfl,h.1,h.2.1,h.2.2⟩
theorem kL:(prog.info? 3).map (fun i=>(i.zero,i.size,i.bytes))=some (some (.int .i64 0),1,8):=by kernel_rfl
theorem fM:(prog.info? 71).map (fun i=>(i.zero,i.size,i.bytes))=some (some (.agg #[.int .i64 0,.int .i64 0,.slice none 0 0]),3,40):=by kernel_rfl
theorem fE:prog.underlying 69=some (.slice 71):=by kernel_rfl
theorem kN:(prog.info? 69).map (fun i=>(i.zero,i.size,i.bytes))=some (some (.slice none 0 0),1,24):=by kernel_rfl
theorem lV:prog.underlying 280=some (.slice 69):=by kernel_rfl
theorem og:prog.underlying 223=some (.slice 3):=by kernel_rfl
theorem gT(w:World)(l:List Value)(t:TypeId):∀j u,l[j]?=some u->(w.alloc (.cells l.toArray t)).cell? ((⟨w.heap.size,0,none⟩:Addr).add j)=some u:=by
 intro j u hu;rw[Addr.add_lit,cell_of_row _ _ _ _ t (0,0) (ah w _)];simpa using hu
theorem Y2(w:World)(o1 o2:Obj):((w.alloc o1).alloc o2).heap[w.heap.size+1]?=some o2:=by
 have h:=ah (w.alloc o1) o2;rwa[World.size_alloc]at h
theorem kE{w:World}{x:Nat}{l:List Value}{t:TypeId}(h:w.heap[x]?=some (.cells l.toArray t (0,0))):∀j u,l[j]?=some u->w.cell? ((⟨x,0,none⟩:Addr).add j)=some u:=by
 intro j u hu;rw[Addr.add_lit,cell_of_row _ _ _ _ t (0,0) h];simpa using hu
theorem pO{w wr w1:World}{o:Obj}{e:TypeId}{size:Nat}{v:Value}{n:Nat}{xs:List Value}(hk:aA w wr)(hr:wr.ownsRow w.heap.size e size v n xs)(hg:(wr.alloc o).grownBy w1 v.ownBlock):aA w w1:=
 hk.fresh ((Kp.alloc _ o).trans (Kp.grown hg fun k _ e=>(hr.lt k e.symm).1))
def rX(l:List Int):List Value:=l.map (Value.int .i64)
theorem aM{w:World}{x:Nat}{a b c:Value}{t:TypeId}(h:w.heap[x]?=some (.cells #[a,b,c] t (0,0))):w.cell? ⟨x,0,none⟩=some a/\w.cell? ⟨x,1,none⟩=some b/\w.cell? ⟨x,2,none⟩=some c:=by
 refine⟨?_, ?_, ?_⟩<;>simp[World.cell?,h]
theorem lU{w:World}{base:Nat}{e:TypeId}{size g n cap:Nat}{xs ys:List Value}(h:w.ownsRow base e size (.slice (some ⟨g,0,none⟩) (n+1) cap) (n+1) (xs++ys))(hy:ys.length=size):
 w.ownsRow base e size (.slice (some ⟨g,0,none⟩) n cap) n xs/\∀j,j<size->w.cell? ⟨g,n*size+j,none⟩=ys[j]?:=by
 have hl:xs.length=n*size:=by
  have:=h.1;rw[ak,hy,Nat.add_mul]at this;omega
 obtain⟨g',e',d⟩:=Zc h (by omega);cases e';refine⟨⟨hl, ?_⟩,fun j hj=> ?_⟩;rcases h.2 with⟨h',_⟩|⟨g',cap',cur,h',hb,hg,hc,hm,hs,ht⟩;simp at h';simp only[aY,aT,eG,true_and]at h';obtain⟨⟨rfl,_⟩,rfl⟩:=h';refine .inr ⟨g,cap,cur,rfl,hb,hg,by omega,hm,hs, ?_⟩;have h2:=aC (List.take (n*size)) ht;rw[List.take_take,Nat.min_eq_left (by rw[Nat.add_mul];omega),List.take_append_of_le_length (by omega),show xs.take (n*size)=xs from cz (by omega)]at h2;exact h2
 ·rw[d _ (by rw[Nat.add_mul];omega),bX (by omega)];congr 1;omega
theorem kQ{w:World}{base:Nat}{e:TypeId}{size g n cap:Nat}{xs:List Value}(h:w.ownsRow base e size (.slice (some ⟨g,0,none⟩) n cap) n xs):n<=cap:=by
 rcases h.2 with⟨h',_⟩|⟨g',cap',cur,h',hb,hg,hc,_⟩;simp at h';simp only[aY,aT,eG,true_and]at h';omega
theorem rq{B:Nat}{w w':World}(hb:Below B w w'){a:Addr}{x:Value}(hc:w.cell? a=some x)(ha:a.block<B):w'.cell? a=some x:=
 (bz (hb.block a.block ha)).trans hc
theorem sj{B:Nat}{W a b:World}(h:Below B W a)(q:aA a b)(hB:B<=a.heap.size):Below B W b:=h.trans (q.below hB fun _ e=>e.elim)
theorem xI(w:World)(t:TypeId)(x:Value):(w.alloc (.cells #[x] t)).ownsRow w.heap.size t 1 (.slice (some ⟨w.heap.size,0,none⟩) 1 1) 1 [x]:=
 ⟨by simp,.inr ⟨w.heap.size,1,#[x],rfl,aj _,ah w _,aj _,by decide,by simp,by simp⟩⟩
theorem iF{α:Type}(l:List α)(k:Nat)(hk:k<l.length):l.take (k+1)=l.take k++[l[k]]:=by
 rw[dQ];simp[hk]
theorem rW{w w1:World}{r:Option Nat}(h:w.drew.grownBy w1 r):w.grownBy w1 r:=⟨h.os,h.tape,h.output,h.size,h.block⟩
abbrev Pl:=List V×Option Addr×Nat
def Z0(x:Pl):Value:= .slice x.2.1 x.1.length x.2.2
def tsz(ts:List Pl):Nat:=(ts.map fun x=>1+sizes x.1).sum
theorem zx:tsz []=0:=rfl
theorem kC(a b:List Pl):tsz (a++b)=tsz a+tsz b:=by simp[tsz]
theorem mR(x:Pl):tsz [x]=1+sizes x.1:=by simp[tsz]
theorem wF(ts:List Pl):ts.length<=tsz ts:=by
 induction ts with
 |nil=>simp[tsz]
 |cons x ts ih=>simp[tsz]at ih|-;omega
def trs(ts:List Pl):Nat:=(ts.map fun x=>sizes x.1-x.1.length).sum
theorem wS:trs []=0:=rfl
theorem rU(a b:List Pl):trs (a++b)=trs a+trs b:=by simp[trs]
theorem rM(x:Pl):trs [x]=sizes x.1-x.1.length:=by simp[trs]
def Lie(w:World)(ts:List Pl):Prop:=∀x∈ts,Fo w x.1 x.2.1
theorem Lie.app{w:World}{a b:List Pl}(h:Lie w a)(k:Lie w b):Lie w (a++b):=by
 intro x hx;rcases aK.1 hx with h'|h';exact h x h';exact k x h'
theorem xD{W wr w1:World}{B n:Nat}{x:Pl}{ts:List Pl}{sv:Value}{g cap:Nat}{o:Obj}(hB:Below B W wr)(hBB:B<=wr.heap.size)(hr:wr.ownsRow B 69 1 sv n (ts.map Z0))(hn:n=ts.length)
 (hr1:w1.ownsRow B 69 1 (.slice (some ⟨g,0,none⟩) (n+1) cap) (n+1) (ts.map Z0++[Z0 x])) (hg:(wr.alloc o).grownBy w1 sv.ownBlock):
 w1.ownsRow B 69 1 (.slice (some ⟨g,0,none⟩) (n+1) cap) (ts++[x]).length ((ts++[x]).map Z0)/\Below B W w1:=by
 subst hn;refine⟨by simpa using hr1,hB.trans ?_⟩;refine((cK _ _).alloc hBB o).trans ?_;refine(Kp.grown (F:=fun k=>B<=k) hg fun k _ e=>(hr.lt k e.symm).1).below (by simp;omega) fun k hk=>hk
theorem ib(v:V)(ao:Option Addr)(cap:Nat)(w:World):Calls prog 175 #[.agg #[.int .i64 v.kind,.int .i64 v.n,.slice ao v.l.length cap]] w fun e w'=>e= .returned (.slice ao v.l.length cap)/\aA w w':=by
 go_enter func175,ntmps175;go_wp2;go_ret;exact⟨rfl,Kp.alloc _ _⟩
theorem bF(w:World)(b o:Nat)(y:Value):Kp (fun k=>k=b) w (w.setCell ⟨b,o,none⟩ y):=Kp.setCell w ⟨b,o,none⟩ y rfl
def lY(lo:Nat)(row:Option Nat)(w:World)(v:V)(ao:Option Addr):Prop:=
 ∀w':World,(∀k c t,lo<=k->row≠some k->w.heap[k]?=some (.cells c t (0,0))->w'.heap[k]?=some (.cells c t (0,0)))->Is w' v ao
theorem lY.step{lo:Nat}{row row':Option Nat}{w w':World}{v:V}{ao:Option Addr}(h:lY lo row w v ao)(hk:∀k,lo<=k->k<w.heap.size->row≠some k->w'.heap[k]?=w.heap[k]?)
 (hr:row'=row\/∃g,row'=some g/\w.heap.size<=g):lY lo row' w' v ao:=by
 intro w2 h2;refine h w2 fun k c t h1 h4 hc=>h2 k c t h1 ?_ ((hk k h1 (ae hc) h4).trans hc);rcases hr with rfl|⟨g,rfl,hg⟩
 ·exact h4
 ·intro e;simp at e;have:=ae hc;omega
abbrev Kd:=V×Option Addr×Nat
def Zv(p:Kd):List Value:=[.int .i64 p.1.kind,.int .i64 p.1.n,.slice p.2.1 p.1.l.length p.2.2]
def eB(ps:List Kd):List Value:=ps.flatMap Zv
theorem mZ(ps:List Kd):(eB ps).length=ps.length*3:=by
 induction ps with
 |nil=>rfl
 |cons p ps ih=>simp only[eB,cB,ak]at ih|-;rw[ih];simp[Zv];omega
theorem jV(a b:List Kd):eB (a++b)=eB a++eB b:=by simp[eB]
theorem jI(p:Kd):eB [p]=Zv p:=by simp[eB]
theorem ru(ps:List Kd)(k j:Nat)(hk:k<ps.length)(hj:j<3):(eB ps)[k*3+j]?=(Zv ps[k])[j]?:=by
 induction ps generalizing k with
 |nil=>simp at hk
 |cons e es ih=>
  cases k with
  |zero=>simp only[eB,cB];rw[dP (by simp[Zv];omega)];simp
  |succ k=>
   simp only[eB,cB];rw[bX (by simp[Zv];omega)];have:=ih k (by simpa using hk);simp only[eB]at this;rw[show(k+1)*3+j-(Zv e).length=k*3+j by simp[Zv];omega,this];simp
theorem jO(p:Kd):∀u∈Zv p,u.oneCell'=true:=by
 intro u hu;simp only[Zv,aU,dN,or_false]at hu;rcases hu with rfl|rfl|rfl<;>rfl
theorem uB(ps:List Kd):∀u∈eB ps,u.oneCell'=true:=by
 intro u hu;simp only[eB,List.mem_flatMap]at hu;obtain⟨e,_,he⟩:=hu;exact jO e u he
theorem Dw{w:World}{g off:Nat}{p:Kd}(c:∀j,j<3->w.cell? ⟨g,off+j,none⟩=(Zv p)[j]?)(hp:Is w p.1 p.2.1):p.1.at w g off:=by
 rw[Zt];exact⟨⟨c 0 (by decide),c 1 (by decide)⟩,_,_,c 2 (by decide),hp⟩
theorem zZ{w:World}{B:Nat}{ao:Option Addr}{n cap:Nat}{ps:List Kd}(h:w.ownsRow B 71 3 (.slice ao n cap) n (eB ps))(hn:n=ps.length)(hp:∀p∈ps,Is w p.1 p.2.1):Fo w (ps.map (·.1)) ao:=by
 subst hn;intro i hi;have hi':i<ps.length:=by simpa using hi
 obtain⟨g,rfl,d⟩:=Zc h (by omega);refine⟨g,0,rfl, ?_⟩;have e:(ps.map (·.1))[i]=ps[i].1:=by simp
 rw[e,bP];exact Dw (fun j hj=>by rw[d _ (by omega),ru ps i j hi' hj]) (hp _ (aI hi'))
def nR(lo:Nat)(w:World)(l:List V)(ao:Option Addr):Prop:=
 ∀w':World,(∀k c t,lo<=k->w.heap[k]?=some (.cells c t (0,0))->w'.heap[k]?=some (.cells c t (0,0)))->Fo w' l ao
theorem uP{lo B:Nat}{w:World}{ao:Option Addr}{m cap:Nat}{ps:List Kd}(h:w.ownsRow B 71 3 (.slice ao m cap) m (eB ps))(hm:m=ps.length)(hB:lo<=B)(hp:∀p∈ps,lY lo (Value.slice ao m cap).ownBlock w p.1 p.2.1):
 nR lo w (ps.map (·.1)) ao:=by
 intro w2 h2;refine zZ (w:=w2) (B:=B) (n:=m) (cap:=cap) ?_ hm fun p hp'=>hp p hp' w2 fun k c t h1 _ hc=>h2 k c t h1 hc;refine⟨h.1, ?_⟩;rcases h.2 with hn|⟨g,cap',cur,e,hb,hg,rest⟩
 ·exact .inl hn
 ·exact .inr ⟨g,cap',cur,e,hb,h2 g _ _ (by omega) hg,rest⟩
theorem Gt{lo B:Nat}{w:World}{ao:Option Addr}{v:V}{m cap:Nat}{ps:List Kd}(hf:v.fits)(hv:ps.map (·.1)=v.l)(h:w.ownsRow B 71 3 (.slice ao m cap) m (eB ps))(hm:m=ps.length)(hB:lo<=B)(hp:∀p∈ps,lY lo (Value.slice ao m cap).ownBlock w p.1 p.2.1):
 lY lo none w v ao:=by
 intro w2 h2;exact⟨hf,hv▸uP h hm hB hp w2 fun k c t h1 hc=>h2 k c t h1 (by simp) hc⟩
