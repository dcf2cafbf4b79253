/- Parts. -/
import Derived.Test.YtpeakfcbihoknaaGreatDoorUG1
open Go.ChangeShapes Go.WideShapes Go.ChangeAt Go.RowKit
namespace Go.Proofs.YtpeakfcbihoknaaGreatDoor
open Gr (Nd ZH nd0 YT aS dJ bS Y0 bN eX YS Wf jg GS Goes Own ZL fJ Ak lZ Zp ZJ Zg um)
def fD(os:List Bool):List Nd->Int->List Int->Int×Int×List Nd
 |ns,x,[]=>(x,0,ns)
 |ns,x,g::gs=>if(aS ns os x 15 g).code=0 then fD os (aS ns os x 15 g).ns (aS ns os x 15 g).num gs else(0,(aS ns os x 15 g).code,(aS ns os x 15 g).ns)
def v0:V:=⟨0,0,[]⟩
def V.handed(os:List Bool)(gs:List Int):V->List Nd->V×Int×List Nd
 |⟨k,n,l⟩,ns=>
  let d:=if k=4 then fD os ns n gs else(n,0,ns)
  if d.2.1=0 then
   let h:=YY os gs l d.2.2
   if h.2.1=0 then(⟨k,d.1,h.1⟩,0,h.2.2)else(v0,h.2.1,h.2.2)
  else(v0,d.2.1,d.2.2)
 where YY (os:List Bool) (gs:List Int):List V->List Nd->List V×Int×List Nd
  |[],ns=>([],0,ns)
  |v::l,ns=>
   let a:=V.handed os gs v ns
   if a.2.1=0 then
    let b:=YY os gs l a.2.2
    if b.2.1=0 then(a.1::b.1,0,b.2.2)else([],b.2.1,b.2.2)
   else([],a.2.1,a.2.2)
abbrev YY(os:List Bool)(gs:List Int)(l:List V)(ns:List Nd):List V×Int×List Nd:=V.handed.YY os gs l ns
def kP(os:List Bool)(gs:List Int)(v:V)(ns:List Nd):Int×Int×List Nd:=if v.kind=4 then fD os ns v.n gs else(v.n,0,ns)
theorem qH(os:List Bool)(gs:List Int)(v:V)(ns:List Nd):v.handed os gs ns=
 if(kP os gs v ns).2.1=0 then
  (if(YY os gs v.l (kP os gs v ns).2.2).2.1=0 then(⟨v.kind,(kP os gs v ns).1,(YY os gs v.l (kP os gs v ns).2.2).1⟩,0,(YY os gs v.l (kP os gs v ns).2.2).2.2)
   else(v0,(YY os gs v.l (kP os gs v ns).2.2).2.1,(YY os gs v.l (kP os gs v ns).2.2).2.2))
 else(v0,(kP os gs v ns).2.1,(kP os gs v ns).2.2):=by cases v;rw[V.handed];rfl
theorem jv(os:List Bool)(gs:List Int)(ns:List Nd):YY os gs [] ns=([],0,ns):=by simp only[YY,V.handed.YY]
theorem jE(os:List Bool)(gs:List Int)(v:V)(l:List V)(ns:List Nd):YY os gs (v::l) ns=
 if(v.handed os gs ns).2.1=0 then(if(YY os gs l (v.handed os gs ns).2.2).2.1=0 then((v.handed os gs ns).1::(YY os gs l (v.handed os gs ns).2.2).1,0,(YY os gs l (v.handed os gs ns).2.2).2.2)
  else([],(YY os gs l (v.handed os gs ns).2.2).2.1,(YY os gs l (v.handed os gs ns).2.2).2.2))else([],(v.handed os gs ns).2.1,(v.handed os gs ns).2.2):=by simp only[YY,V.handed.YY]
theorem yV(os:List Bool)(gs:List Int)(a b:List V):∀ns,YY os gs (a++b) ns=
 if(YY os gs a ns).2.1=0 then(if(YY os gs b (YY os gs a ns).2.2).2.1=0 then((YY os gs a ns).1++(YY os gs b (YY os gs a ns).2.2).1,0,(YY os gs b (YY os gs a ns).2.2).2.2)
  else([],(YY os gs b (YY os gs a ns).2.2).2.1,(YY os gs b (YY os gs a ns).2.2).2.2))else([],(YY os gs a ns).2.1,(YY os gs a ns).2.2):=by
 induction a with
 |nil=>
  intro ns;rw[dm,jv];by_cases h:(YY os gs b ns).2.1=0;simp only[if_true,h,dm];rw[<-h]
  ·simp only[if_true,h,if_false];cases b with
   |nil=>rw[jv]at h;exact absurd rfl h
   |cons x b=>
    rw[jE]at h|-;split at h
    ·rename_i h1;rw[ag h1];split at h;exact absurd rfl h;rename_i h2;rw[af h2]
    ·rename_i h1;rw[af h1]
 |cons x a ih=>
  intro ns;rw[bG,jE,jE];by_cases h1:(x.handed os gs ns).2.1=0;rw[ag h1,ag h1,ih];by_cases h2:(YY os gs a (x.handed os gs ns).2.2).2.1=0;simp only[h2,if_true];by_cases h3:(YY os gs b (YY os gs a (x.handed os gs ns).2.2).2.2).2.1=0;simp only[h3,if_true,bG];simp only[h3,if_false];simp only[h2,if_false];simp only[h1,if_false]
theorem wR(os:List Bool)(gs:List Int)(l:List V)(ns:List Nd)(j:Nat)(h:j<l.length)(r:List V)(ns1:List Nd)(hr:YY os gs (l.take j) ns=(r,0,ns1)):
 YY os gs (l.take (j+1)) ns=if(l[j].handed os gs ns1).2.1=0 then(r++[(l[j].handed os gs ns1).1],0,(l[j].handed os gs ns1).2.2)else([],(l[j].handed os gs ns1).2.1,(l[j].handed os gs ns1).2.2):=by
 rw[dQ,aQ h,Option.toList_some,yV,hr];simp only[if_true];rw[jE,jv];by_cases h1:(l[j].handed os gs ns1).2.1=0;simp only[h1,if_true];simp only[h1,if_false]
theorem Eb(os:List Bool)(gs:List Int)(l:List V)(ns:List Nd)(j:Nat)(c:Int)(ns1:List Nd)(hc:c≠0)(hr:YY os gs (l.take j) ns=([],c,ns1)):YY os gs l ns=([],c,ns1):=by
 have h:=yV os gs (l.take j) (l.drop j) ns;rw[dS,hr]at h;simpa [hc]using h
def lu(ns:List Nd)(os:List Bool)(v:V):Int:=
 if v.check=0 then(if v.gate then 9 else if v.Zn.all fun c=>(bS ns os c).testBit 2 then 0 else 9)else v.check
def fK(ns:List Nd)(os:List Bool)(gs:List Int)(v:V):V×Int×List Nd:=if lu ns os v=0 then v.handed os gs ns else(v0,lu ns os v,ns)
def bu(F:Nat->Prop)(P:World->Prop)(w:World):Prop:=∀w',Kp F w w'->P w'
theorem bu.now{F:Nat->Prop}{P:World->Prop}{w:World}(h:bu F P w):P w:=h w (Kp.refl _ _)
theorem bu.step{F F':Nat->Prop}{P:World->Prop}{w w':World}(h:bu F P w)(k:Kp F w w')(hF:∀k,k<w.heap.size->F' k->F k):bu F' P w':=by
 intro w2 k2;refine h w2 ⟨k2.os.trans k.os,k2.tape.trans k.tape,k2.output.trans k.output,aF k.size k2.size,fun i hi hn=> ?_⟩;exact(k2.block i (az hi k.size) fun e=>hn (hF i hi e)).trans (k.block i hi hn)
theorem bu.mono{F F':Nat->Prop}{P:World->Prop}{w:World}(h:bu F P w)(hF:∀k,k<w.heap.size->F' k->F k):bu F' P w:=h.step (Kp.refl _ _) hF
theorem bu.goes{P:World->Prop}{b:Nat}{vn vo Y4 Y3:Value}{w w':World}(h:bu (Own b vn vo) P w)(g:Goes b vn vo w Y4 Y3 w'):bu (Own b Y4 Y3) P w':=
 h.step g.kp fun k hk e=>by
  rcases g.own k e with e|e;exact e;omega
def World.void(w:World)(b:Nat):World:={w with heap:=w.heap.setIfInBounds b (.cells #[] 0 (0,0))}
theorem UD{F:Nat->Prop}(w:World)(b:Nat)(h:F b):Kp F w (World.void w b):=
 ⟨rfl,rfl,rfl,by simp[World.void],fun k _ hk=>by
  have:b≠k:=fun e=>hk (e▸h);simp[World.void,this]⟩
theorem OO(w:World)(b o:Nat)(hb:b<w.heap.size):(World.void w b).cell? ⟨b,o,none⟩=none:=by
 simp[World.void,World.cell?,hb]
theorem bu.kid{F:Nat->Prop}{w:World}{v:V}{ao:Option Addr}(h:bu F (fun w=>Is w v ao) w)(j:Nat)(hj:j<v.l.length):
 ∃bb oo ca cc,ao=some ⟨bb,oo,none⟩/\¬F bb/\(v.l[j].head w bb (oo+j*3)/\w.cell? ⟨bb,oo+j*3+2,none⟩=some (.slice ca v.l[j].l.length cc))/\bu F (fun w=>Is w v.l[j] ca) w:=by
 obtain⟨bb,oo,rfl,dh,ca,cc,ds,_⟩:=h.now.get j hj;have hn:¬F bb:=fun hF=>by
  obtain⟨b2,o2,e2,dh2,_⟩:=(h _ (UD w bb hF)).get j hj;cases e2;have h1:=dh2.1;rw[OO w bb _ (aW w _ ds)]at h1;cases h1
 refine⟨bb,oo,ca,cc,rfl,hn,⟨dh,ds⟩,fun w2 k2=> ?_⟩;obtain⟨b2,o2,e2,_,ca2,cc2,ds2,i2⟩:=(h w2 k2).get j hj;cases e2;have:=k2.cell ds hn;rw[this]at ds2;simp at ds2;rw[ds2.1];exact i2
theorem Gr.Goes.fresh{b:Nat}{vn vo Y4 Y3:Value}{w w1 w2:World}(h:Goes b vn vo w Y4 Y3 w1)(k:Kp (fun i=>w.heap.size<=i) w1 w2):Goes b vn vo w Y4 Y3 w2:=⟨h.kp.fresh k,h.own⟩
theorem Gr.Goes.after{b:Nat}{vn vo Y4 Y3:Value}{w w0 w1:World}(q:aA w w0)(h:Goes b vn vo w0 Y4 Y3 w1):Goes b vn vo w Y4 Y3 w1:=
 ⟨(q.mono fun _ _ e=>e.elim).trans h.kp,fun k e=>by rcases h.own k e with e|e;exact .inl e;exact .inr (aF q.size e)⟩
theorem Gr.GS.aay{t:TypeId}{B:Nat}{w:World}{b:Nat}{vn vo:Value}{ns:List Nd}{os:List Bool}(h:GS t B w b vn vo ns os)(k:Nat)(hk:w.heap.size<=k):¬Own b vn vo k:=fun e=>by have:=(h.own k e).2;omega
theorem Gr.GS.Zi{t:TypeId}{B:Nat}{w:World}{b:Nat}{vn vo:Value}{ns:List Nd}{os:List Bool}(h:GS t B w b vn vo ns os){k:Nat}{c:Array Value}{t':TypeId}(hk:w.heap[k]?=some (.cells c t' (0,0)))(h1:t'≠t)(h2:t'≠207)(h3:t'≠4):¬Own b vn vo k:=by
 have key:∀{e:TypeId}{s n:Nat}{v:Value}{xs:List Value},w.ownsRow B e s v n xs->t'≠e->v.ownBlock≠some k:=by
  intro e s n v xs hr he hv;rcases hr.2 with⟨rfl,_⟩|⟨g,cap,cur,rfl,_,hg,_⟩;simp[Value.ownBlock]at hv;simp[Value.ownBlock]at hv;subst hv;rw[hk]at hg;simp at hg;exact he hg.2
 rintro(rfl|e|e);rw[h.obj]at hk;simp at hk;exact h1 hk.2.symm;exact key h.rn h2 e;exact key h.ro h3 e
theorem CE(ns:List Nd)(os:List Bool)(p r g:Int):(aS ns os p r g).os=os:=by
 unfold aS dJ;repeat' split
 all_goals rfl
theorem Ga{v:V}(h:v.fault=0)(hk:v.kind=4):v.l=[]:=by
 have h1:=xW h;unfold V.YW at h1;rw[hk,show jc 4=some 0 by decide]at h1;simp only at h1;by_cases e:v.l.length=0;exact List.length_eq_zero_iff.1 e;rw[ag e]at h1;cases h1
theorem Bo(os:List Bool)(gs:List Int){v:V}(ns:List Nd)(hk:v.kind=4)(hl:v.l=[]):v.handed os gs ns=if(fD os ns v.n gs).2.1=0 then(⟨4,(fD os ns v.n gs).1,[]⟩,0,(fD os ns v.n gs).2.2)else(v0,(fD os ns v.n gs).2.1,(fD os ns v.n gs).2.2):=by
 have hn:kP os gs v ns=fD os ns v.n gs:=by unfold kP;rw[ag hk]
 rw[qH,hn,hl,hk];simp only[jv,if_true]
theorem xC(os:List Bool)(gs:List Int){v:V}(ns:List Nd)(hk:v.kind≠4):v.handed os gs ns=if(YY os gs v.l ns).2.1=0 then(⟨v.kind,v.n,(YY os gs v.l ns).1⟩,0,(YY os gs v.l ns).2.2)else(v0,(YY os gs v.l ns).2.1,(YY os gs v.l ns).2.2):=by
 have hn:kP os gs v ns=(v.n,0,ns):=by unfold kP;rw[af hk]
 rw[qH,hn];simp only[if_true]
theorem Du(os:List Bool)(ns:List Nd)(x:Int)(gs:List Int)(k:Nat)(hk:k<gs.length):fD os ns x (gs.drop k)=if(aS ns os x 15 gs[k]).code=0 then fD os (aS ns os x 15 gs[k]).ns (aS ns os x 15 gs[k]).num (gs.drop (k+1))else(0,(aS ns os x 15 gs[k]).code,(aS ns os x 15 gs[k]).ns):=by
 rw[bO hk,fD]
theorem BA(ns:List Nd)(os:List Bool)(p r g:Int)(hl:ns.length<=80):dH (aS ns os p r g).num:=by
 unfold aS dJ dH;repeat' split
 all_goals(simp only;omega)
theorem WK{ns ns':List Nd}{g:Nat}(hw:Wf ns' g)(hp:ns<+:ns'):Wf ns g:=by
 intro k hk;obtain⟨t,rfl⟩:=hp;have:=hw k (by simp;omega);rwa[dU hk]at this
theorem U4{ns ns':List Nd}{g:Nat}(hw:Wf ns' g)(hp:ns<+:ns'):∀m j,j<m->j<ns.length->Y0 ns' (j:Int)=Y0 ns (j:Int):=by
 intro m;induction m with
 |zero=>intro j h _;omega
 |succ m ih=>
  intro j hm hj;have hw0:=WK hw hp;obtain⟨t,rfl⟩:=hp;have hj2:j<(ns++t).length:=by simp;omega
  rw[Zp hw hj2,Zp hw0 hj,dU hj];congr 1;have hk:=hw0 j hj;have p0:=hk.p0;have p1:=hk.p1;by_cases hq:ns[j].parent<0;have e:YT ns.length ns[j].parent=false:=(by simp[YT];omega);have e2:YT (ns++t).length ns[j].parent=false:=(by simp[YT];omega);rw[ZJ e,ZJ e2];obtain⟨q,hq⟩:∃q:Nat,ns[j].parent=q:=⟨ns[j].parent.toNat,by omega⟩;rw[hq]at p1|-;exact ih q (by omega) (by omega)
theorem mg{ns ns':List Nd}{g:Nat}(hw:Wf ns' g)(hp:ns<+:ns'){x:Int}(hx:YT ns.length x=true):Y0 ns' x=Y0 ns x:=by
 obtain⟨j,rfl,hj⟩:=Zg hx;exact U4 hw hp (j+1) j (by omega) hj
theorem jM{ns ns':List Nd}(hp:ns<+:ns'){x:Int}(hx:YT ns.length x=true):YT ns'.length x=true:=by
 have:=hp.length_le;simp[YT]at hx|-;omega
structure vZ(ns:List Nd)(gs:List Int)(x y:Int):Prop where
 tx:YT ns.length x=true
 ty:YT ns.length y=true
 way:∃ch:List Nd,Y0 ns y=ch++Y0 ns x/\ch.map Nd.gate=gs.reverse/\∀n∈ch,n.Y1=15
 ok:∀g∈gs,g= -1\/0<=g
theorem vZ.more{ns ns':List Nd}{gs:List Int}{x y:Int}{g:Nat}(h:vZ ns gs x y)(hw:Wf ns' g)(hp:ns<+:ns'):vZ ns' gs x y:=by
 refine⟨jM hp h.tx,jM hp h.ty, ?_,h.ok⟩;rw[mg hw hp h.tx,mg hw hp h.ty];exact h.way
theorem Hw{ns:List Nd}{os:List Bool}{x g:Int}(h:(aS ns os x 15 g).code=0):YT ns.length x=true/\(g= -1\/0<=g)/\(aS ns os x 15 g).num=(ns.length:Int)/\(aS ns os x 15 g).ns=ns++[⟨x,g,15,0, -1,0⟩]/\(Wf ns os.length->Wf (ns++[⟨x,g,15,0, -1,0⟩]) os.length):=by
 unfold aS at h|-;by_cases hx:YT ns.length x=true
 ·rw[ag hx]at h|-;unfold dJ at h|-;simp only at h|-;rw[af (by decide)]at h|-;by_cases h2:g≠ -1/\YT os.length g=false;rw[ag h2]at h;cases h;rw[af h2]at h|-;by_cases h3:ns.length=80;rw[ag h3]at h;cases h;rw[af h3];have hg:g= -1\/YT os.length g=true:=by
   by_cases e:g= -1;exact .inl e;right;cases ht:YT os.length g;exact absurd ⟨e,ht⟩ h2;rfl
  refine⟨hx, ?_,rfl,rfl,fun hw=>hw.snoc ?_⟩;rcases hg with e|e;exact .inl e;simp[YT]at e;right;omega;simp[YT]at hx;exact⟨by simp only;omega,by simp only;omega,hg,by simp,by simp,by simp,by simp,by simp,by simp,by simp,by simp⟩
 ·rw[af hx]at h;cases h
theorem DC{os:List Bool}(gs:List Int):∀{ns ns':List Nd}{x y:Int},fD os ns x gs=(y,0,ns')->Wf ns os.length->YT ns.length x=true->Wf ns' os.length/\ns<+:ns'/\vZ ns' gs x y:=by
 induction gs with
 |nil=>
  intro ns ns' x y h hw hx;rw[fD]at h;simp only[df,true_and]at h;obtain⟨rfl,rfl⟩:=h;exact⟨hw,bK _,hx,hx,⟨[],rfl,rfl,by simp⟩,by simp⟩
 |cons g gs ih=>
  intro ns ns' x y h hw hx;rw[fD]at h;by_cases hc:(aS ns os x 15 g).code=0
  ·rw[ag hc]at h;obtain⟨_,hg,hn,hns,hwf⟩:=Hw hc;rw[hn,hns]at h;have hw1:=hwf hw;have hl:ns.length<(ns++[(⟨x,g,15,0, -1,0⟩:Nd)]).length:=(by simp);obtain⟨w2,p2,c2⟩:=ih h hw1 (um hl);have p1:ns<+:ns':=(List.prefix_append ns _).trans p2;refine⟨w2,p1,jM p1 hx,c2.ty, ?_, ?_⟩
   ·obtain⟨ch,e1,e2,e3⟩:=c2.way;have ew:Y0 ns' (ns.length:Int)=⟨x,g,15,0, -1,0⟩::Y0 ns' x:=by
     have h1:=mg w2 p2 (um hl);rw[h1,Zp hw1 hl];simp only[List.getElem_append_right (aj _),Nat.sub_self,List.getElem_singleton];rw[<-mg w2 p2 (jM (List.prefix_append ns _) hx)]
    refine⟨ch++[⟨x,g,15,0, -1,0⟩], ?_, ?_, ?_⟩;rw[e1,ew];simp;rw[bA,e2];simp;intro n hn;rcases aK.1 hn with hn|hn;exact e3 n hn;simp at hn;rw[hn]
   ·intro a ha;rcases aU.1 ha with rfl|ha;exact hg;exact c2.ok a ha
  ·rw[af hc]at h;simp only[df]at h;exact absurd h.2.1 hc
def V.shape:V->V
 |⟨k,n,l⟩=>⟨k,if k=4 then 0 else n,shapes l⟩
 where shapes:List V->List V
  |[]=>[]
  |v::l=>V.shape v::shapes l
abbrev shapes(l:List V):List V:=V.shape.shapes l
theorem wo(v:V):v.shape=⟨v.kind,if v.kind=4 then 0 else v.n,shapes v.l⟩:=by cases v;rw[V.shape]
theorem yI(v:V)(l:List V):shapes (v::l)=v.shape::shapes l:=by simp only[shapes,V.shape.shapes]
structure Om(ns':List Nd)(gs:List Int)(v y:V):Prop where
 shape:y.shape=v.shape
 gate:y.gate=v.gate
 Zn:y.Zn.length=v.Zn.length
 came:∀i (h:i<v.Zn.length),vZ ns' gs v.Zn[i] (y.Zn[i]'(by omega))
structure KL(ns':List Nd)(gs:List Int)(l m:List V):Prop where
 shape:shapes m=shapes l
 gate:mi (Zh m)=mi (Zh l)
 Zn:(gG (Zh m)).length=(gG (Zh l)).length
 came:∀i (h:i<(gG (Zh l)).length),vZ ns' gs (gG (Zh l))[i] ((gG (Zh m))[i]'(by omega))
theorem RY{ns':List Nd}{gs:List Int}{a b c d:List Int}(h1:a.length=c.length)(h2:b.length=d.length)(k1:∀i (h:i<a.length),vZ ns' gs a[i] (c[i]'(by omega)))(k2:∀i (h:i<b.length),vZ ns' gs b[i] (d[i]'(by omega))):
 ∀i(h:i<(a++b).length),vZ ns' gs (a++b)[i] ((c++d)[i]'(by simp at h|-;omega)):=by
 intro i h;by_cases hi:i<a.length;rw[dU hi,dU (by omega)];exact k1 i hi
 ·have e:(c++d)[i]'(by simp at h|-;omega)=d[i-a.length]'(by simp at h;omega):=by
   rw[List.getElem_append_right (by omega)];simp only[h1]
  rw[e,List.getElem_append_right (by omega)];exact k2 _ (by simp at h;omega)
theorem Om.more{ns ns':List Nd}{gs:List Int}{v y:V}{g:Nat}(h:Om ns gs v y)(hw:Wf ns' g)(hp:ns<+:ns'):Om ns' gs v y:=⟨h.shape,h.gate,h.Zn,fun i hi=>(h.came i hi).more hw hp⟩
theorem OQ(ns:List Nd)(gs:List Int):KL ns gs [] []:=⟨rfl,rfl,rfl,fun i h=>by simp[iI,gG]at h⟩
theorem Ib{ns:List Nd}{gs:List Int}{v y:V}{l m:List V}(h:Om ns gs v y)(k:KL ns gs l m):KL ns gs (v::l) (y::m):=by
 refine⟨by rw[yI,yI,h.shape,k.shape], ?_, ?_, ?_⟩;have h1:=h.gate;unfold V.gate at h1;rw[gm,gm,vz,vz,h1,k.gate];have h1:=h.Zn;unfold V.Zn at h1;rw[gm,gm,jb,jb,ak,ak,h1,k.Zn]
 ·have e1:gG (Zh (v::l))=v.Zn++gG (Zh l):=by rw[gm,jb];rfl
  have e2:gG (Zh (y::m))=y.Zn++gG (Zh m):=by rw[gm,jb];rfl
  have key:=RY h.Zn.symm k.Zn.symm h.came k.came;simp only[e1,e2];exact key
def Gq(os:List Bool)(gs:List Int)(v:V):Prop:=∀(ns ns':List Nd)(y:V),v.handed os gs ns=(y,0,ns')->v.fault=0->Wf ns os.length->(∀c∈v.Zn,YT ns.length c=true)->Wf ns' os.length/\ns<+:ns'/\Om ns' gs v y
theorem Ec{os:List Bool}{gs:List Int}(l:List V):(∀x∈l,Gq os gs x)->∀(ns ns':List Nd)(m:List V),YY os gs l ns=(m,0,ns')->(∀x∈l,x.fault=0)->Wf ns os.length->(∀c∈gG (Zh l),YT ns.length c=true)->Wf ns' os.length/\ns<+:ns'/\KL ns' gs l m:=by
 induction l with
 |nil=>
  intro _ ns ns' m h _ hw _;rw[jv]at h;simp only[df,true_and]at h;obtain⟨rfl,rfl⟩:=h;exact⟨hw,bK _,OQ _ _⟩
 |cons x l ih=>
  intro hx ns ns' m h hf hw hc;rw[gm,jb]at hc;rw[jE]at h;by_cases h1:(x.handed os gs ns).2.1=0;rw[ag h1]at h;by_cases h2:(YY os gs l (x.handed os gs ns).2.2).2.1=0;rw[ag h2]at h;simp only[df,true_and]at h;obtain⟨e1,e2⟩:=h;obtain⟨w1,p1,g1⟩:=hx x (by simp) ns (x.handed os gs ns).2.2 (x.handed os gs ns).1 (by rw[<-h1]) (hf x (by simp)) hw (fun c hc'=>hc c (aK.2 (.inl hc')));obtain⟨w2,p2,g2⟩:=ih (fun y hy=>hx y (by simp[hy])) (x.handed os gs ns).2.2 ns' (YY os gs l (x.handed os gs ns).2.2).1 (by rw[<-e2,<-h2]) (fun y hy=>hf y (by simp[hy])) w1 (fun c hc'=>jM p1 (hc c (aK.2 (.inr hc'))));refine⟨w2,p1.trans p2, ?_⟩;rw[<-e1];exact Ib (g1.more w2 p2) g2;rw[af h2]at h;simp only[df]at h;exact absurd h.2.1 h2;rw[af h1]at h;simp only[df]at h;exact absurd h.2.1 h1
theorem EY{os:List Bool}{gs:List Int}(v:V):Gq os gs v:=by
 induction v using V.aan with
 |h v ih=>
  intro ns ns' y h hf hw hc;by_cases h4:v.kind=4;have hl:=Ga hf h4;rw[Bo os gs ns h4 hl]at h;have hcv:v.Zn=[v.n]:=(by rw[qc,ag h4,hl,iI];rfl);by_cases h1:(fD os ns v.n gs).2.1=0;rw[ag h1]at h;simp only[df,true_and]at h;obtain⟨e1,e2⟩:=h;obtain⟨w1,p1,c1⟩:=DC gs (ns:=ns) (ns':=ns') (x:=v.n) (y:=(fD os ns v.n gs).1) (by rw[<-e2,<-h1]) hw (hc _ (by rw[hcv];simp));have hcy:y.Zn=[(fD os ns v.n gs).1]:=(by rw[<-e1,qc,ag rfl,iI];rfl);refine⟨w1,p1, ?_, ?_, ?_, ?_⟩;rw[<-e1,wo,wo,h4,hl];rfl;rw[<-e1,zq,zq,h4,hl];rw[hcy,hcv];rfl;intro i hi;rw[hcv]at hi;obtain rfl:i=0:=(by simp at hi;omega);simp only[hcv,hcy];exact c1;rw[af h1]at h;simp only[df]at h;exact absurd h.2.1 h1
  ·rw[xC os gs ns h4]at h;by_cases h1:(YY os gs v.l ns).2.1=0
   ·rw[ag h1]at h;simp only[df,true_and]at h;obtain⟨e1,e2⟩:=h;have hcv:v.Zn=gG (Zh v.l):=(by rw[qc,af h4];rfl);have hfl:∀x∈v.l,x.fault=0:=fun x hx=>by
     obtain⟨i,hi,rfl⟩:=bT hx;exact ui hf i hi
    obtain⟨w1,p1,g1⟩:=Ec v.l ih ns ns' (YY os gs v.l ns).1 (by rw[<-e2,<-h1]) hfl hw (by rw[<-hcv];exact hc);have hcy:y.Zn=gG (Zh (YY os gs v.l ns).1):=(by rw[<-e1,qc,af h4];rfl);refine⟨w1,p1, ?_, ?_, ?_, ?_⟩;rw[<-e1,wo,wo];simp only;rw[g1.shape];rw[<-e1,zq,zq];simp only;rw[g1.gate];rw[hcy,hcv];exact g1.Zn;simp only[hcv,hcy];exact g1.came
   ·rw[af h1]at h;simp only[df]at h;exact absurd h.2.1 h1
theorem vZ.target{ns:List Nd}{gs:List Int}{x y:Int}{g:Nat}(h:vZ ns gs x y)(hw:Wf ns g):YS ns y=YS ns x:=by
 obtain⟨ch,e,_,_⟩:=h.way;obtain⟨j,rfl,hj⟩:=Zg h.tx;unfold YS;rw[e,Zp hw hj,dD,dD,List.getLast?_append,List.getLast?_cons];simp
