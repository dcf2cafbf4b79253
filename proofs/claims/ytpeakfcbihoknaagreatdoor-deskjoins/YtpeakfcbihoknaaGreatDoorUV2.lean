/- Parts. -/
import Derived.Test.YtpeakfcbihoknaaGreatDoorUB0
import Derived.Lib.Bytealg
import Derived.Lib.Join
import Derived.Lib.TrimByte
import Derived.Shelf.LaysM
import Derived.Shelf.LaysC
import Derived.Shelf.Strings.OnBuilder
import Derived.Shelf.Strings.Trim
import Derived.Shelf.Small.Wraps
import Derived.Shelf.Small.Strs
import Derived.Shelf.Strings.Search3
import Derived.Shelf.Strings.Prefix
import Derived.Shelf.Strconv.Itoa4
import Derived.Shelf.Strconv.Clone
import Derived.Shelf.Strconv.ErrVarParseInt
import Derived.Laws.Externs
open Go.ChangeShapes Go.WideShapes Go.ChangeAt Go.RowKit
set_option maxRecDepth 8000
set_option maxHeartbeats 2000000
namespace Go.Proofs.YtpeakfcbihoknaaGreatDoor
open Proofs.Tryz
section
open Gr (Nd ZH nd0 YT mf aS dJ bJ dV mV fO Zx funcOf bS Y0 bN eX YS Wf jg GS fJ Ak lZ)
structure Hx where
 B:Nat
 hb:Nat
 bb:Nat
 g:Nat
 wd:Nat
structure Hq where
 n:Value
 o:Value
 l:Value
 r:Nat->Option Addr×Nat
def gK(q:Hq)(h:Hs)(p:Nat):Value:= .slice (q.r p).1 (h.hs.getD p []).length (q.r p).2
def hd(l:List V):List Kd:=l.map fun v=>(v,none,0)
def wH(M:Hx)(q:Hq)(k:Nat):Prop:=k=M.hb\/∃p,p<4/\(Value.slice (q.r p).1 0 0).ownBlock=some k
def jC(M:Hx)(q:Hq)(k:Nat):Prop:=gX M.bb M.g M.wd q.n q.o q.l k\/wH M q k
theorem iQ(a:Option Addr)(n c n' c':Nat):(Value.slice a n c).ownBlock=(Value.slice a n' c').ownBlock:=by cases a<;>rfl
structure bH(X:Nat->Prop)(M:Hx)(q:Hq)(h:Hs)(w:World):Prop where
 box:lX (fun k=>wH M q k\/X k) M.B w M.bb M.g M.wd q.n q.o q.l h.ms h.s
 obj:w.heap[M.hb]?=some (.cells #[.pointer (some ⟨M.bb,0,none⟩),gK q h 0,gK q h 1,gK q h 2,gK q h 3] 106 (0,0))
 row:∀p,p<4->w.ownsRow M.B 71 3 (gK q h p) (h.hs.getD p []).length (eB (hd (h.hs.getD p [])))
 ap:∀p p',p<4->p'<4->p≠p'->∀k,(Value.slice (q.r p).1 0 0).ownBlock=some k->(Value.slice (q.r p').1 0 0).ownBlock≠some k
 leaf:∀p,p<4->∀v∈h.hs.getD p [],v.l=[]/\v.fits
 ok:HOk h
 fit:Db h.ms
 ci:∀c∈h.s.cs,dH c
 lo:M.B<=M.hb
 xo:∀k,X k->k<w.heap.size/\¬jC M q k
structure fZ(M:Hx)(q:Hq)(w:World)(q':Hq)(w':World):Prop where
 kp:Kp (jC M q) w w'
 own:∀k,jC M q' k->jC M q k\/w.heap.size<=k
section
variable{M:Hx}{q q' q2:Hq}{h h':Hs}{w w' w2:World}{X X':Nat->Prop}
theorem fZ.quiet(M:Hx)(q:Hq)(k:aA w w'):fZ M q w q w':=⟨k.mono fun _ _ e=>e.elim,fun _ e=> .inl e⟩
theorem fZ.trans(a:fZ M q w q' w')(b:fZ M q' w' q2 w2):fZ M q w q2 w2:=by
 refine⟨⟨b.kp.os.trans a.kp.os,b.kp.tape.trans a.kp.tape,b.kp.output.trans a.kp.output,aF a.kp.size b.kp.size,fun i hi hF=> ?_⟩,fun i hi=> ?_⟩;refine(b.kp.block i (az hi a.kp.size) fun e=> ?_).trans (a.kp.block i hi hF);rcases a.own i e with e|e;exact hF e;omega;rcases b.own i hi with e|e;exact a.own i e;exact .inr (aF a.kp.size e)
theorem fZ.fresh(a:fZ M q w q' w')(k:Kp (fun i=>w.heap.size<=i) w' w2):fZ M q w q' w2:=⟨a.kp.fresh k,a.own⟩
theorem fZ.block(a:fZ M q w q' w'){x:Nat}{o:Obj}(hx:w.heap[x]?=some o)(hn:¬jC M q x):w'.heap[x]?=some o/\¬jC M q' x:=by
 have hl:x<w.heap.size:=(Array.getElem?_eq_some_iff.1 hx).1;refine⟨(a.kp.block x hl hn).trans hx,fun e=> ?_⟩;rcases a.own x e with e|e;exact hn e;omega
theorem bH.own(H:bH X M q h w)(k:Nat)(hk:jC M q k):M.B<=k/\k<w.heap.size:=by
 rcases hk with e|e|⟨p,hp,e⟩;obtain⟨a,b,c,d,hb⟩:=H.box.is;exact hb.own k e;rw[e];exact⟨H.lo,ae H.obj⟩;exact(H.row p hp).lt k ((iQ _ _ _ _ _).trans e)
theorem bH.free(H:bH X M q h w){k:Nat}{cs:Array Value}{t:TypeId}(hk:w.heap[k]?=some (.cells cs t (0,0)))(h0:t≠145)(h1:t≠184)(h2:t≠207)(h3:t≠4)(h4:t≠187)(h5:t≠101)(h6:t≠106)(h7:t≠71):¬jC M q k:=by
 rintro(e|e|⟨p,hp,e⟩);obtain⟨a,b,c,d,hb⟩:=H.box.is;exact hb.free hk h0 h1 h2 h3 h4 h5 e;rw[e,H.obj]at hk;simp at hk;exact h6 hk.2.symm;obtain⟨cs',hc⟩:=Bl (H.row p hp) ((iQ _ _ _ _ _).trans e);rw[hc]at hk;simp at hk;exact h7 hk.2.symm
theorem bH.step(H:bH X M q h w)(k:aA w w')(hX:∀i,i<w.heap.size->X' i->X i)(xo:∀i,X' i->i<w'.heap.size):bH X' M q h w':=
 ⟨H.box.step k fun i hi e=>by
  rcases e with e|e;exact .inl e
  ·exact .inr (hX i hi e),(k.block _ (ae H.obj) fun e=>e).trans H.obj,fun p hp=>k.row (H.row p hp) fun _ _ e=>e,H.ap,H.leaf,H.ok,H.fit,H.ci,H.lo,fun i hi=>⟨xo i hi,fun e=>by
  have hl:=(H.own i e).2;exact(H.xo i (hX i hl hi)).2 e⟩⟩
theorem bH.quiet(H:bH X M q h w)(k:aA w w'):bH X M q h w':=H.step k (fun _ _ e=>e) fun i e=>az (H.xo i e).1 k.size
theorem bH.turn{F:Nat->Prop}(H:bH X M q h w)(k:Kp F w w')(hX:∀i,F i->X i)(hI:∀(i:Nat) (cs:Array Value) (t:TypeId),w.heap[i]?=some (.cells cs t (0,0))->t=334\/t=328->¬F i):bH X M q h w':=by
 have hn:∀i,jC M q i->¬F i:=fun i hi e=>(H.xo i (hX i e)).2 hi;exact⟨H.box.beside k (fun i e=> .inr (hX i e)) (fun i hi=>hn i (.inl hi)) hI,(k.block _ (ae H.obj) (hn _ (.inr (.inl rfl)))).trans H.obj,fun p hp=>k.row (H.row p hp) fun i e=>hn i (.inr (.inr ⟨p,hp,(iQ _ _ _ _ _).trans e⟩)),H.ap,H.leaf,H.ok,H.fit,H.ci,H.lo,fun i hi=>⟨az (H.xo i hi).1 k.size,(H.xo i hi).2⟩⟩
theorem bH.cells(H:bH X M q h w):w.cell? ⟨M.hb,0,none⟩=some (.pointer (some ⟨M.bb,0,none⟩))/\w.cell? ⟨M.bb,0,none⟩=some (.pointer (some ⟨M.g,0,none⟩))/\w.cell? ⟨M.bb,1,none⟩=some (.pointer (some ⟨M.wd,0,none⟩)):=by
 obtain⟨a,b,c,d,hb⟩:=H.box.is;exact⟨by simp[World.cell?,H.obj],by simp[World.cell?,hb.obj,pI],by simp[World.cell?,hb.obj,pI]⟩
theorem bH.gs(H:bH X M q h w):GS 184 M.B w M.g q.n q.o h.s.ns h.s.os:=by
 obtain⟨a,b,c,d,hb⟩:=H.box.is;exact hb.gs
theorem bH.ws(H:bH X M q h w):Wo.WS M.B w M.wd h.s.cs q.l h.s.es:=by
 obtain⟨a,b,c,d,hb⟩:=H.box.is;exact hb.ws
end
def fC(h:Hs)(p:Int):List V:=if 0<=p/\p<4 then h.hs.getD p.toNat []else[]
def fH(h:Hs)(p:Int):V:=if 0<=p/\p<4 then h.s.ks.getD p.toNat v0 else v0
structure Sx where
 kind:Int
 p:Int
 q:Int
 k:Int
 h:Int
 r:Int
 g:Int
 n:Int
 fs:List Ex.V
 fa:Option Addr
 fc:Nat
def Sx.vals(x:Sx):Array Value:= #[.int .i64 x.kind,.int .i64 x.p,.int .i64 x.q,.int .i64 x.k,.int .i64 x.h,.int .i64 x.r,.int .i64 x.g,.int .i64 x.n,.slice x.fa x.fs.length x.fc]
def Sx.sp(x:Sx)(code:Int):Sp:=⟨x.kind,x.p,x.q,x.k,x.h,x.r,x.g,x.n,code,x.fs⟩
structure Sx.Fit(x:Sx):Prop where
 kind:dH x.kind
 p:dH x.p
 q:dH x.q
 k:dH x.k
 h:dH x.h
 r:dH x.r
 g:dH x.g
 n:dH x.n
 ins:∀v∈x.fs,∀i∈Ex.Zj v,dH i.n
def tT(P:Int×Int->Prop)(x:Sx)(w:World):Prop:=(∀f,P f->f.1=0->∀v∈x.fs,v.bad x.fs.length 0=0)/\∀w1,aA w w1->Calls prog 223 #[.agg #[.slice x.fa x.fs.length x.fc]] w1 fun e w'=>Ex.ab6 P x.fs w1 e w'
def lW(X:Nat->Prop)(M:Hx)(q:Hq)(r:Evt×Hs)(w:World)(e:Ending)(w':World):Prop:=
 ∃q' ao cap,e= .returned (.agg #[.int .i64 r.1.code,.int .i64 r.1.fuel,.int .i64 r.1.v.kind,.int .i64 r.1.v.n,.slice ao r.1.v.l.length cap])/\bH X M q' r.2 w'/\fZ M q w q' w'/\bu (fun k=>jC M q' k\/X k) (fun w=>Is w r.1.v ao) w'
def BQ(h:Hs):Prop:=∀p,(h.hs.getD p []).length<=100000
theorem Wn{h:Hs}(hl:∀x∈h.hs,x.length<=100000):BQ h:=fun p=>by
 rw[aD];cases e:h.hs[p]? with
 |none=>simp
 |some x=>exact hl x (dx e)
def X9:Prop:=∀(X:Nat->Prop)(B:Nat)(w:World),(∀k,X k->k<w.heap.size)->B<=w.heap.size->Calls prog 19 #[] w fun e w'=>∃M q,M.B=B/\e= .returned (.pointer (some ⟨M.hb,0,none⟩))/\bH X M q h00 w'/\(∀k,jC M q k->w.heap.size<=k)/\aA w w'
def Yk:Prop:=∀(X:Nat->Prop)(M:Hx)(q:Hq)(h:Hs)(w:World)(x:Sx)(P:Int×Int->Prop),bH X M q h w->x.Fit->h.s.es.length<=900000->BQ h->tT P x w->
 Calls prog 172 #[.pointer (some ⟨M.hb,0,none⟩),.agg x.vals] w fun e w'=>∃c,(x.kind=1->bY x.p=true->∃f,P f/\f.1=c)/\lW X M q (dL h (x.sp c)) w e w'
def VX:Prop:=∀(X:Nat->Prop)(M:Hx)(q:Hq)(h:Hs)(w:World)(p:Int),bH X M q h w->BQ h->dH p->
 Calls prog 114 #[.pointer (some ⟨M.hb,0,none⟩),.int .i64 p] w fun e w'=>∃ao cap,e= .returned (.slice ao (fC h p).length cap)/\bu (fun k=>jC M q k\/X k) (fun w=>Fo w (fC h p) ao) w'/\aA w w'
def VM:Prop:=∀(X:Nat->Prop)(M:Hx)(q:Hq)(h:Hs)(w:World)(p:Int),bH X M q h w->dH p->
 Calls prog 116 #[.pointer (some ⟨M.hb,0,none⟩),.int .i64 p] w fun e w'=>∃ao cap,e= .returned (.agg #[.int .i64 (fH h p).kind,.int .i64 (fH h p).n,.slice ao (fH h p).l.length cap])/\bu (fun k=>jC M q k\/X k) (fun w=>Is w (fH h p) ao) w'/\aA w w'
def rd1:Ex.V:=⟨13,0,0,[⟨3,0,0,[]⟩]⟩
def hb1:Hs:=(dL h00 ⟨1,1,0,0,0,0,0,0,0,[rd1]⟩).2
def hb2:Hs:=(dL hb1 ⟨2,1,0,3,0,1, -1,0,0,[]⟩).2
def hb3:Hs:=(dL hb2 ⟨4,1,0,0,0,0,0,0,0,[]⟩).2
theorem VP(z:Int)(h: -1<=z/\z<=100):dH z:=⟨by omega,by omega⟩
section
variable{M:Hx}{q:Hq}{w:World}
theorem yw(w:World):∀w1,aA w w1->Calls prog 223 #[.agg #[.slice none 0 0]] w1 fun e w'=>Ex.ab6 (fun f=>f=Ex.Y6 []) [] w1 e w':=fun w1 _=>Ex.abD [] none 0 w1 (Ex.Fo.nil _ _) (by decide)
end
theorem Vt(ms:fA){s:Sg}(hs:Inv s)(p f:Int)(arg:V):(gM ms p f arg 2000 s).2.2.es.length<=s.es.length+2000:=by
 unfold gM;by_cases h1:(2000:Int)<0\/(2000:Int)<2000\/p<0\/4<=p;rw[ag h1];exact bQ _ _;rw[af h1];by_cases h2:(iD ms p f).isNone=true;rw[ag h2];exact bQ _ _;rw[af h2];by_cases h3:arg.check≠0;rw[ag h3];exact bQ _ _;rw[af h3];have h3':arg.check=0:=Decidable.not_not.1 h3;have k:=(wz (Fa ms 2000) ms 0 p f arg (2000:Int).toNat s h3' hs).log;have e:(2000:Int).toNat=2000:=rfl;simp only[e]at k|-;omega
def GN(h h':Hs):Prop:=h'.s.es.length<=h.s.es.length+2000/\∀p,(h'.hs.getD p []).length<=(h.hs.getD p []).length+1
theorem GN.refl(h:Hs):GN h h:=⟨bQ _ _,fun _=>bQ _ _⟩
theorem CQ{h:Hs}(hi:HOk h)(x:Sp):GN h (dL h x).2:=by
 have hg:∀(p:Int)(r:ZH),GN h (iB h p r).2:=fun p r=>by
  unfold iB;split;refine⟨bQ _ _,fun q=> ?_⟩;simp only;rw[aD,dw];by_cases e:p.toNat=q;rw[ag e];by_cases e2:p.toNat<h.hs.length;rw[ag e2];simp[e];rw[af e2];simp;rw[af e,<-aD];exact bQ _ _;exact GN.refl h
 have hr:∀(p k:Int)(v:V),GN h (lM h p k v).2:=fun p k v=>⟨Vt h.ms hi.inv p k v,fun _=>bQ _ _⟩;unfold dL;repeat' split
 all_goals first
  |exact hg _ _
  |exact GN.refl h
  |(unfold iV;repeat' split
    all_goals exact⟨bQ _ _,fun _=>bQ _ _⟩)
  |(unfold kR;repeat' split
    all_goals first
     |exact hr _ _ _
     |exact GN.refl h)
  |exact⟨bQ _ _,fun _=>bQ _ _⟩
def onB(S:List Bool)(p:Int):Bool:=S.getD p.toNat false
def nI(S:List Bool)(y:Sp×Int):List Bool:=if y.1.kind=3/\y.2=0/\(onB S y.1.p||onB S y.1.q)=true then(S.set y.1.p.toNat true).set y.1.q.toNat true else S
def rY(tr:List (Sp×Int))(S:List Bool):List Bool:=tr.foldl nI S
def LeB(S T:List Bool):Prop:=S.length=T.length/\∀i,S.getD i false=true->T.getD i false=true
theorem LeB.refl(S:List Bool):LeB S S:=⟨rfl,fun _ h=>h⟩
theorem LeB.trans{S T U:List Bool}(h:LeB S T)(k:LeB T U):LeB S U:=⟨h.1.trans k.1,fun i e=>k.2 i (h.2 i e)⟩
theorem D5:∀{S T:List Bool},LeB S T->S.count true<=T.count true/\(S.count true=T.count true->S=T):=by
 intro S;induction S with
 |nil=>
  rintro T ⟨h,_⟩;have:T=[]:=List.length_eq_zero_iff.1 h.symm;rw[this];exact⟨aj _,fun _=>rfl⟩
 |cons a S ih=>
  rintro T ⟨h,k⟩;cases T with
  |nil=>simp at h
  |cons b T=>
   obtain⟨h1,h2⟩:=ih (T:=T) ⟨by simpa using h,fun i e=>by have:=k (i+1);simp only[List.getD_cons_succ]at this;exact this e⟩;have h0:=k 0;simp only[List.getD_cons_zero]at h0;cases a with
   |true=>
    rw[h0 rfl];simp only[List.count_cons_self];exact⟨by omega,fun e=>by rw[h2 (by omega)]⟩
   |false=>
    cases b with
    |true=>
     simp only[List.count_cons_self];rw[List.count_cons_of_ne (by decide)];exact⟨by omega,fun e=>by omega⟩
    |false=>
     rw[List.count_cons_of_ne (by decide),List.count_cons_of_ne (by decide)];exact⟨h1,fun e=>by rw[h2 e]⟩
theorem LeB.af6{S T:List Bool}(h:LeB S T)(k:LeB T S):S=T:=(D5 h).2 (Nat.le_antisymm (D5 h).1 (D5 k).1)
theorem KA(S:List Bool)(j:Nat):LeB S (S.set j true):=⟨by simp,fun i h=>by
 rw[aD]at h|-;rw[dw];by_cases e:j=i;rw[ag e];by_cases e2:i<S.length;rw[ag (by omega)];rfl;rw[di (by omega)]at h;cases h
 ·rw[af e];exact h⟩
theorem J4{S:List Bool}{j:Nat}(h:j<S.length):(S.set j true).getD j false=true:=by
 rw[aD,dw,ag rfl,ag h];rfl
theorem KY(S:List Bool)(y:Sp×Int):LeB S (nI S y):=by
 unfold nI;split;exact(KA S _).trans (KA _ _);exact LeB.refl S
theorem Ei(tr:List (Sp×Int)):∀S,LeB S (rY tr S):=by
 induction tr with
 |nil=>intro S;exact LeB.refl S
 |cons y tr ih=>intro S;exact(KY S y).trans (ih (nI S y))
theorem Sn(tr:List (Sp×Int)):∀S,rY tr S=S->∀y∈tr,nI S y=S:=by
 induction tr with
 |nil=>intro S _ y hy;simp at hy
 |cons y tr ih=>
  intro S h z hz;have h1:rY tr (nI S y)=S:=h;have e:nI S y=S:=(LeB.af6 (KY S y) (by have:=Ei tr (nI S y);rw[h1]at this;exact this)).symm;rw[e]at h1;rcases aU.1 hz with rfl|hz;exact e;exact ih S h1 z hz
def kJ(tr:List (Sp×Int)):Nat->List Bool->List Bool
 |0,S=>S
 |n+1,S=>rY tr (kJ tr n S)
theorem KS(tr:List (Sp×Int)):∀n S,LeB S (kJ tr n S):=by
 intro n S;induction n with
 |zero=>exact LeB.refl S
 |succ n ih=>exact ih.trans (Ei tr _)
theorem Ty(tr:List (Sp×Int)):∀n S,rY tr (kJ tr n S)=kJ tr n S\/S.count true+n<=(kJ tr n S).count true:=by
 intro n S;induction n with
 |zero=>exact .inr (aj _)
 |succ n ih=>
  rcases ih with h|h;left;rw[kJ,h,h];by_cases e:rY tr (kJ tr n S)=kJ tr n S;left;rw[kJ,e,e];right;have k:=D5 (Ei tr (kJ tr n S));have:(kJ tr n S).count true≠(rY tr (kJ tr n S)).count true:=fun e2=>e (k.2 e2).symm;rw[kJ];have:=k.1;omega
def sN(p:Int):List Bool:=[false,false,false,false].set p.toNat true
def nL(tr:List (Sp×Int))(p:Int):List Bool:=kJ tr 4 (sN p)
theorem Qm{p:Int}(hp:bY p=true):(sN p).count true=1:=by
 have hpp:0<=p/\p<4:=by simpa [bY]using hp
 have:p=0\/p=1\/p=2\/p=3:=by omega
 rcases this with rfl|rfl|rfl|rfl<;>rfl
theorem KQ(tr:List (Sp×Int))(p:Int):(nL tr p).length=4:=by
 have:=(KS tr 4 (sN p)).1;unfold nL;rw[<-this];simp[sN]
theorem TG(tr:List (Sp×Int)){p:Int}(hp:bY p=true):rY tr (nL tr p)=nL tr p:=by
 rcases Ty tr 4 (sN p)with h|h;exact h;have h1:=Qm hp;have h2:(nL tr p).count true<=(nL tr p).length:=List.count_le_length;rw[KQ]at h2;unfold nL at h2;omega
def oI(tr:List (Sp×Int)):Prop:=∀y∈tr,(y.1.kind=2\/y.1.kind=3)->y.2=0->bY y.1.p=true/\(y.1.kind=3->bY y.1.q=true)
theorem VV{tr:List (Sp×Int)}(ht:oI tr){p q:Int}(hp:bY p=true)(h:vv tr p q):bY q=true/\onB (nL tr p) q=true:=by
 have hpp:∀{z:Int},bY z=true->z.toNat<4:=fun{z} h=>by have:0<=z/\z<4:=by simpa [bY]using h
                                                      omega
 have key:∀y∈tr,y.1.kind=3->y.2=0->(onB (nL tr p) y.1.p||onB (nL tr p) y.1.q)=true->onB (nL tr p) y.1.p=true/\onB (nL tr p) y.1.q=true:=by
  intro y hy h1 h2 h3;have hfix:=Sn tr _ (TG tr hp) y hy;have hl:=KQ tr p;obtain⟨t1,t2⟩:=ht y hy (.inr h1) h2;generalize nL tr p=S at*;unfold nI at hfix;rw[ag ⟨h1,h2,h3⟩]at hfix;have a1:onB ((S.set y.1.p.toNat true).set y.1.q.toNat true) y.1.q=true:=J4 (by rw[List.length_set,hl];exact hpp (t2 h1));have a2:onB ((S.set y.1.p.toNat true).set y.1.q.toNat true) y.1.p=true:=(KA (S.set y.1.p.toNat true) y.1.q.toNat).2 _ (J4 (by rw[hl];exact hpp t1));rw[hfix]at a1 a2;exact⟨a2,a1⟩
 refine h (fun q=>bY q=true/\onB (nL tr p) q=true) ?_ (fun y a b c ih=> ?_) fun y a b c ih=> ?_;refine⟨hp,(KS tr 4 (sN p)).2 _ ?_⟩;exact J4 (by simpa using hpp hp);exact⟨(ht _ a (.inr b) c).2 b,(key _ a b c (by rw[ih.2];rfl)).2⟩;exact⟨(ht _ a (.inr b) c).1,(key _ a b c (by rw[ih.2];simp)).1⟩
theorem UI{tr:List (Sp×Int)}(ht:oI tr)(h:Hs)(x:Sp):oI (tr++[(x,(dL h x).1.code)]):=by
 intro y hy hk hc;rcases aK.1 hy with hy|hy;exact ht y hy hk hc
 ·rw[bD.1 hy]at hk hc|-;simp only at hk hc|-;unfold dL at hc;rcases hk with k|k
  ·rw[af (by omega),ag k]at hc;split at hc;rename_i e;exact⟨e,fun k3=>by omega⟩;cases hc
  ·rw[af (by omega),af (by omega),ag k]at hc;split at hc;rename_i e;refine⟨e,fun _=> ?_⟩;have h1:=Mw hc;unfold Gr.funcOf at h1;by_cases h2:Gr.Zx x.q x.k=true;have h3:0<=x.q/\x.q<4/\0<=x.k/\x.k<6:=(by simpa [Gr.Zx]using h2);simp[bY];omega;rw[af h2]at h1;cases h1;cases hc
theorem X6(K:List Gr.Nd->Int->Int->Prop):kI K h00:=by
 refine⟨⟨Gr.Wf.nil _,by simp[h00],by simp[h00],fun q hq=> ?_⟩,by simp[h00],fun q hq v hv=> ?_⟩
 ·have:(h00.s.ks.getD q v0)=v0:=by
   have:q=0\/q=1\/q=2\/q=3:=(by omega);rcases this with rfl|rfl|rfl|rfl<;>rfl
  rw[this];exact Hd.v0
 ·have:(h00.hs.getD q [])=[]:=by
   have:q=0\/q=1\/q=2\/q=3:=(by omega);rcases this with rfl|rfl|rfl|rfl<;>rfl
  rw[this]at hv;simp at hv
def D8(tr:List (Sp×Int))(p cell:Int)(bit:Nat):Bool:=tr.any fun y=>decide (y.1.kind=2)&&decide (y.2=0)&&decide (y.1.k=cell)&&y.1.r.toNat.testBit bit&&(onB (nL tr p) y.1.p||decide (y.1.p=p))
theorem Dh{tr:List (Sp×Int)}(ht:oI tr){p cell:Int}{bit:Nat}(hp:bY p=true)(h:TV tr p cell bit):D8 tr p cell bit=true:=by
 obtain⟨y,h1,h2,h3,h4,h5,h6⟩:=h;refine dW.2 ⟨y,h1, ?_⟩;rw[(VV ht hp h6).2];simp[h2,h3,h4,h5]
theorem Nj{tr:List (Sp×Int)}(ht:oI tr):jD (Giv (Gvn tr)) (fun q=>bY q=true) where
 more:=(lD (uH tr)).more
 kid:=(lD (uH tr)).kid
 ask:=(lD (uH tr)).ask
 back:=(lD (uH tr)).back
 who {ns p a} _ ka _ hq:=by
  obtain⟨y,h1,h2,_,h4⟩:=ka;rcases h4 with⟨_,e⟩|⟨h4,_,e⟩;rw[e]at hq;simp at hq;show bY (Gr.YS ns a).plugin=true;rw[e];exact(ht y h1 (.inr h4) h2).2 h4
theorem F4{tr:List (Sp×Int)}(ht:oI tr){h:Hs}(hi:kI (Giv (Gvn tr)) h)(x:Sp):∃new,(dL h x).2.s.es=h.s.es++new/\∀e∈new,vO (Giv (Gvn tr)) (fun q=>bY q=true) (dL h x).2.s.ns e:=by
 by_cases k2:x.kind=2
 ·refine⟨[], ?_,by simp⟩;unfold dL;rw[af (by omega),ag k2];split;rw[uM];simp;simp
 by_cases k3:x.kind=3
 ·refine⟨[], ?_,by simp⟩;unfold dL;rw[af (by omega),af k2,ag k3];split;rw[uM];simp;simp
 by_cases k4:x.kind=4/\bY x.p=false
 ·refine⟨[], ?_,by simp⟩;obtain⟨k4,kp⟩:=k4;have hr:∀v,(lM h x.p x.k v).2.s.es=h.s.es:=fun v=>by
   unfold lM gM;have:x.p<0\/4<=x.p:=(by simp[bY]at kp;omega);rw[ag (by omega)]
  unfold dL;rw[af (by omega),af k2,af k3,ag k4];unfold kR;rw[kp];split;simp;rw[hr];simp
 exact(hi.step (Nj ht) x (fun k=>by
  cases e:bY x.p with
  |true=>rfl
  |false=>exact absurd ⟨k,e⟩ k4) (fun e=>absurd e k2) (fun e=>absurd e k3)).2
structure WT where
 P:Type
 Q:Type
 hx:P->Hx
 wb:P->Nat
 hq:Q->Hq
 own:P->Q->Nat->Prop
 S:(Nat->Prop)->P->Q->Hs->List (Sp×Int)->World->Prop
 house:∀{X p q h tr w},S X p q h tr w->∃Y,bH Y (hx p) (hq q) h w
 cell:∀{X p q h tr w},S X p q h tr w->w.cell? ⟨wb p,0,none⟩=some (.pointer (some ⟨(hx p).hb,0,none⟩))
 sub:∀{p q k},jC (hx p) (hq q) k->own p q k
 lt:∀{X p q h tr w k},S X p q h tr w->own p q k->(hx p).B<=k/\k<w.heap.size
 xo:∀{X p q h tr w k},S X p q h tr w->X k->k<w.heap.size/\¬own p q k
 step:∀{X X' p q h tr w w'},S X p q h tr w->aA w w'->(∀i,i<w.heap.size->X' i->X i)->(∀i,X' i->i<w'.heap.size)->S X' p q h tr w'
 turn:∀{X X' F p q h tr w w'},S X p q h tr w->Kp F w w'->(∀i,F i->X i)->(∀(i:Nat) (cs:Array Value) (t:TypeId),w.heap[i]?=some (.cells cs t (0,0))->t=334\/t=328->¬F i)->(∀i,i<w.heap.size->X' i->X i)->(∀i,X' i->i<w'.heap.size/\¬own p q i)->S X' p q h tr w'
structure VG(T:WT)(p:T.P)(q:T.Q)(w:World)(q':T.Q)(w':World):Prop where
 kp:Kp (T.own p q) w w'
 own:∀k,T.own p q' k->T.own p q k\/w.heap.size<=k
section
variable{T:WT}{p:T.P}{q q' q2:T.Q}{h h':Hs}{tr:List (Sp×Int)}{w w' w2:World}{X X':Nat->Prop}
theorem WT.ok(H:T.S X p q h tr w):HOk h:=by
 obtain⟨_,hh⟩:=T.house H;exact hh.ok
end
def WC(T:WT)(X:Nat->Prop)(p:T.P)(q:T.Q)(tr:List (Sp×Int))(y:Sp)(r:Evt×Hs)(w:World)(e:Ending)(w':World):Prop:=
 ∃q' ao cap,e= .returned (.tuple #[.agg #[.int .i64 r.1.code,.int .i64 r.1.fuel,.int .i64 r.1.v.kind,.int .i64 r.1.v.n,.slice ao r.1.v.l.length cap],.agg #[.int .i64 0,.int .i64 0]])/\T.S X p q' r.2 (tr++[(y,r.1.code)]) w'/\VG T p q w q' w'/\bu (fun k=>T.own p q' k\/X k) (fun w=>Is w r.1.v ao) w'
structure TrS(tr:List (Sp×Int))(h:Hs):Prop where
 ok:oI tr
 inv:kI (Giv (Gvn tr)) h
 Y1:∀y∈tr,y.1.kind=2->y.2=0->0<=y.1.r/\y.1.r<=15
def XH(T:WT):Prop:=∀(X:Nat->Prop)(B:Nat)(w:World),(∀k,X k->k<w.heap.size)->B<=w.heap.size->Calls prog 12 #[] w fun e w'=>∃p q,(T.hx p).B=B/\e= .returned (.pointer (some ⟨T.wb p,0,none⟩))/\T.S X p q h00 [] w'/\(∀k,T.own p q k->w.heap.size<=k)/\aA w w'
def Yo(T:WT):Prop:=∀(X:Nat->Prop)(p:T.P)(q:T.Q)(h:Hs)(tr:List (Sp×Int))(w:World)(x:Sx)(Pm:Int×Int->Prop),T.S X p q h tr w->TrS tr h->x.Fit->h.s.es.length<=800000->BQ h->tr.length<=400->tT Pm x w->
 Calls prog 145 #[.pointer (some ⟨T.wb p,0,none⟩),.agg x.vals] w fun e w'=>∃c,(x.kind=1->bY x.p=true->∃f,Pm f/\f.1=c)/\WC T X p q tr (x.sp c) (dL h (x.sp c)) w e w'
theorem YK:TrS [] h00:=⟨fun y hy=>by simp at hy,X6 _,fun y hy=>by simp at hy⟩
theorem Kj{ns:List Nd}{os:List Bool}{n:Nd}(h:(dJ ns os n).code=0):0<=n.Y1/\n.Y1<=15:=by
 unfold dJ at h;by_cases h1:¬(0<=n.Y1/\n.Y1<=15);rw[ag h1]at h;cases h;exact Classical.not_not.1 h1
theorem TrS.step{tr:List (Sp×Int)}{h:Hs}(H:TrS tr h)(x:Sp):TrS (tr++[(x,(dL h x).1.code)]) (dL h x).2:=by
 refine⟨UI H.ok h x,(rA H.inv x).1,fun y hy k c=> ?_⟩;rcases aK.1 hy with hy|hy;exact H.Y1 y hy k c
 ·rw[bD.1 hy]at k c|-;simp only at k c|-;unfold dL at c;rw[af (by omega),ag k]at c;split at c
  ·unfold iB at c;split at c
   ·rename_i hc;unfold fO at hc;split at hc;exact Kj hc;cases hc
   ·rename_i hc;exact absurd c hc
  ·cases c
end
namespace Rt
abbrev B64(a:Int):BitVec 64:=BitVec.ofInt 64 a
theorem U6(v:BitVec 64):IntKind.i64.wrap (v.toNat:Int)=v.toInt:=by
 have h:=v.isLt;have e:((v.toNat:Int)%2^64)=v.toNat:=by omega
 simp only[IntKind.wrap,IntKind.bits,IntKind.signed,BitVec.toInt,e];by_cases hc:2*v.toNat<2^64;rw[af (by simp;omega),ag hc];rw[ag (by simp;omega),af hc];rfl
theorem Iw(a b:Int):bits .and .i64 a b=(B64 a&&&B64 b).toInt:=U6 _
theorem LF(v:BitVec 64):B64 v.toInt=v:=by simp[B64]
theorem LP(a:Int)(h0: -9223372036854775808<=a)(h1:a<=9223372036854775807):(B64 a).toInt=a:=by
 simp only[B64,BitVec.toInt_ofInt];exact Int.bmod_eq_of_le (by omega) (by omega)
def hasB(a b:Int):Bool:=B64 a&&&B64 b==B64 b
theorem Vr(a b:Int)(h0: -9223372036854775808<=b)(h1:b<=9223372036854775807):(bits .and .i64 a b==b)=hasB a b:=by
 rw[Iw,hasB,Bool.eq_iff_iff];simp only[beq_iff_eq];constructor;intro h;have:=aC B64 h;rwa[LF]at this;intro h;rw[h,LP b h0 h1]
def NG(a:Int)(k:Nat):Bool:=(B64 a).getLsbD k
theorem UR(a:Int)(k:Nat)(hk:k<63):hasB a (2^k)=NG a k:=by
 have e1:B64 (2^k)=BitVec.twoPow 64 k:=by
  apply BitVec.eq_of_toNat_eq;simp only[B64,BitVec.toNat_ofInt,BitVec.toNat_twoPow];have:(2^k:Int)=((2^k:Nat):Int):=by simp
  rw[this];omega
 rw[hasB,e1,BitVec.and_twoPow];unfold NG;cases h:(B64 a).getLsbD k
 ·have:BitVec.twoPow 64 k≠0#64:=by
   intro hh;have:=aC (fun v=>BitVec.getLsbD v k) hh;simp[BitVec.getLsbD_twoPow]at this;omega
  simp[Ne.symm this]
 ·simp
def gJ(k:Nat):UInt8:=if k=0 then 114 else if k=1 then 119 else if k=2 then 112 else 97
def ic(a:Int):Nat->List UInt8
 |0=>[]
 |k+1=>ic a k++if NG a k then[gJ k]else[]
def textOf(a:Int):List UInt8:=if ic a 4=[]then[45]else ic a 4
def jF(c:UInt8):Nat:=if c=114 then 0 else if c=119 then 1 else if c=112 then 2 else if c=97 then 3 else 4
theorem Gu(c:UInt8):jF c<=4:=by
 unfold jF;repeat' split
 all_goals omega
def vI(c:UInt8):Int:=if jF c=4 then -1 else jF c
theorem Gj(c:UInt8):Lib.indexByte [114,119,112,97] c=vI c:=by
 have h:∀n:Fin 256,Lib.indexByte [114,119,112,97] (UInt8.ofNat n.val)=vI (UInt8.ofNat n.val):=by decide+kernel
 have h2:=h ⟨c.toNat,c.toNat_lt⟩;simpa using h2
theorem wJ(r m:Nat)(hr:r<16)(hm:m<16):bits .or .i64 (r:Int) (m:Int)=((r|||m:Nat):Int):=by
 have h:∀r:Fin 16,∀m:Fin 16,bits .or .i64 (r.val:Int) (m.val:Int)=((r.val|||m.val:Nat):Int):=by decide+kernel
 exact h ⟨r,hr⟩ ⟨m,hm⟩
theorem EM(r m:Nat)(hr:r<16)(hm:m<16):r|||m<16:=Nat.or_lt_two_pow (n:=4) hr hm
def iY:Nat->List UInt8->Nat×Bool
 |r,[]=>(r,r !=0)
 |r,c::l=>if jF c=4\/2^jF c<=r then(0,false)else iY (r|||2^jF c) l
def Zu(l:List UInt8):Nat×Bool:=if l=[45]then(0,true)else iY 0 l
theorem z8(r:Nat)(c:UInt8)(l:List UInt8)(h:jF c=4\/2^jF c<=r):iY r (c::l)=(0,false):=by simp[iY,h]
theorem SB(r:Nat)(c:UInt8)(l:List UInt8)(h1:jF c≠4)(h2:r<2^jF c):iY r (c::l)=iY (r|||2^jF c) l:=by
 have:¬(jF c=4\/2^jF c<=r):=by omega
 simp[iY,this]
theorem JD(l:List UInt8)(k:Nat)(hk:k<4):(ByteArray.mk l.toArray++(ByteArray.mk #[114,119,112,97]).extract k (k+1))=ByteArray.mk (l++[gJ k]).toArray:=by
 have e:(ByteArray.mk #[114,119,112,97]).extract k (k+1)=ByteArray.mk #[gJ k]:=by
  obtain rfl|rfl|rfl|rfl:k=0\/k=1\/k=2\/k=3:=by omega
  all_goals decide
 rw[e];apply ByteArray.ext;simp
theorem Gl{a:Int}{k:Nat}(h:NG a k=true):ic a (k+1)=ic a k++[gJ k]:=by simp[ic,h]
theorem I1{a:Int}{k:Nat}(h:NG a k=false):ic a (k+1)=ic a k:=by simp[ic,h]
theorem tu(a:Int):∀k,(ic a k).length<=k
 |0=>aj _
 |k+1=>by
  have:=tu a k;simp only[ic];split<;>simp<;>omega
theorem ZG(a:Int):(textOf a).length<=4:=by
 unfold textOf;split;simp;exact tu a 4
theorem RF(l:List UInt8):∀r,r<16->(iY r l).1<16:=by
 induction l with
 |nil=>intro r h;exact h
 |cons c l ih=>
  intro r h;unfold iY;split;simp
  ·have:=Gu c;exact ih _ (EM _ _ h (by
    have h4:jF c=0\/jF c=1\/jF c=2\/jF c=3:=(by omega);rcases h4 with e|e|e|e<;>rw[e]<;>decide))
theorem abY(l:List UInt8):(Zu l).1<16:=by
 unfold Zu;split;simp;exact RF l 0 (by omega)
end Rt
namespace Dk
structure Ds where
 txt:List UInt8
 h:Hs
def d00:Ds:=⟨[],h00⟩
def iK(ws:List (List UInt8)):List UInt8:=Lib.join ws [32]++[10]
def sH:List UInt8:=[121,101,115]
def noW:List UInt8:=[110,111]
def noD(ns:List Int):List UInt8:=iK (noW::ns.map Lib.itoa)
def kX:Nat->List UInt8->List (List UInt8)
 |0,_=>[]
 |n+1,l=>if l=[]then[]else l.takeWhile (· !=32)::kX n (Lib.trimLeftB (l.drop ((l.takeWhile (· !=32)).length+1)) 32)
def nY(l:List UInt8):List (List UInt8):=kX 7 (Lib.trimLeftB l 32)
def x00:Sx:=⟨0,0,0,0,0,0,0,0,[],none,0⟩
def XP(x:Sx)(c:Int)(n:Int):Sx:=
 if c=80 then{x with p:=n}else if c=81 then{x with q:=n}else if c=75 then{x with k:=n}else if c=72 then{x with h:=n}else if c=71 then{x with g:=n}else if c=78 then{x with n:=n}else x
def nQ(x:Sx)(c:Int)(t:List UInt8):Sx×Bool:=
 if c=82 then({x with r:=((Rt.Zu t).1:Int)},(Rt.Zu t).2)else(XP x c ((Ex.Za t).getD 0),(Ex.Za t).isSome)
def qi:List UInt8->List (List UInt8)->Sx->Option Sx
 |c::cs,t::ts,x=>if(nQ x c.toNat t).2 then qi cs ts (nQ x c.toNat t).1 else none
 |_,_,x=>some x
def o9(r:List UInt8×List UInt8)(first:List UInt8)(others:List (List UInt8)):Option Sx:=
 if first=r.1/\others.length=r.2.length then qi r.2 others x00 else none
def qL:List (List UInt8×List UInt8):=[([110,101,119],[]),([108,111,97,100],[80]),([103,114,97,110,116],[80,75,82,71]),([108,105,110,107],[80,81,75,82,71]),([99,117,116],[71]),([103,97,116,101],[]),([99,97,108,108],[80,75,72]),([118,97,108,117,101],[80,75,78]),([104,97,110,100],[80]),([107,101,112,116],[80]),([108,111,103],[]),([99,101,108,108,115],[])]
def wV(first:List UInt8)(others:List (List UInt8)):Nat->List (List UInt8×List UInt8)->Option (Nat×Sx)
 |_,[]=>none
 |i,r::rs=>match o9 r first others with
  |some x=>some (i,x)
  |none=>wV first others (i+1) rs
def BX(kind:Int)(e:Evt):List UInt8:=
 if e.code≠0 then noD [e.code]else if kind=4 then iK [sH,e.v.text,Lib.itoa e.fuel]else iK [sH,e.v.text]
def jQ(d:Ds)(y:Sp):Ds×List UInt8:=({d with h:=(dL d.h y).2},BX y.kind (dL d.h y).1)
def jq(d:Ds):List UInt8:=Lib.trimSuffix d.txt [10]
def yF(d:Ds)(x:Sx):Ds×List UInt8:=
 if(Ex.Zd (jq d)).2.1≠0 then(d,noD [(Ex.Zd (jq d)).2.1,(Ex.Zd (jq d)).2.2])
 else jQ d ⟨1,x.p,x.q,x.k,x.h,x.r,x.g,x.n,0,(Ex.Zd (jq d)).1⟩
def P8(e:Wo.ZI):List UInt8:=iK [Lib.itoa e.plugin,Rt.textOf e.right,Lib.itoa e.cell,35::Lib.itoa e.node]
def SE(es:List Wo.ZI):List UInt8:=(es.map P8).flatten++iK [[101,110,100]]
def Dy(i:Nat)(x:Sx)(d:Ds):Ds×List UInt8:=match i with
 |0=>({d with txt:=[]},[])
 |1=>yF d x
 |2=>jQ d ({x with kind:=2}.sp 0)
 |3=>jQ d ({x with kind:=3}.sp 0)
 |4=>jQ d ({x with kind:=5}.sp 0)
 |5=>jQ d ({x with kind:=6}.sp 0)
 |6=>jQ d ({x with kind:=4,h:=max x.h 0}.sp 0)
 |7=>jQ d ({x with kind:=4,h:= -1}.sp 0)
 |8=>(d,iK ([104,97,110,100]::(fC d.h x.p).map V.text))
 |9=>(d,iK [[107,101,112,116],(fH d.h x.p).text])
 |10=>(d,SE d.h.s.es)
 |_=>(d,iK ([99,101,108,108,115]::d.h.s.cs.map Lib.itoa))
def EF(d:Ds)(first:List UInt8)(others:List (List UInt8)):Ds×List UInt8:=match wV first others 0 qL with
 |some (i,x)=>Dy i x d
 |none=>(d,iK [[119,104,97,116]])
def Ed(t l:List UInt8):List UInt8:=if t.length<=6001 then t++(l.take 6001++[10])else t
def oL(d:Ds)(l:List UInt8):Ds×List UInt8:=
 if Lib.hasPrefix l [124]then({d with txt:=Ed d.txt (l.drop 1)},[])
 else match nY l with
  |[]=>(d,[])
  |first::others=>EF d first others
def fU:Ds->List (List UInt8)->Ds×List UInt8
 |d,[]=>(d,[])
 |d,l::ls=>((fU (oL d l).1 ls).1,(oL d l).2++(fU (oL d l).1 ls).2)
theorem Cw(a b:List (List UInt8)):∀d,fU d (a++b)=((fU (fU d a).1 b).1,(fU d a).2++(fU (fU d a).1 b).2):=by
 induction a with
 |nil=>intro d;simp[fU]
 |cons x a ih=>intro d;simp only[bG,fU];rw[ih];simp
def ve(l:List UInt8):Bool:=decide (0<=Lib.indexByte l 10)
def fw(ls:List (List UInt8)):Int×Int:=if 200<ls.length then(3, -1)else if ls.any ve then(13,(ls.findIdx ve:Int))else(0,0)
theorem zO{ls:List (List UInt8)}(h:ls.length<=200):(fw ls).1=0<->ls.any ve=false:=by
 unfold fw;rw[af (by omega)];cases ls.any ve<;>simp
end Dk
section
open Go.Shelf Go.RowKit
def SI:Go.Shelf.Ren:=⟨fun|169=>16|n=>n,fun|70=>47|9=>9|0=>0|72=>50|37=>48|127=>84|3=>3|5=>5|n=>n,fun|n=>n⟩
theorem Xx:Go.Proofs.Lays.n169 prog SI:={
 mixed:=by kernel_rfl
 f169:=func16.trans (aC some (by kernel_rfl))
 t0:=underlying0
 a0:=isAgg0
 z0:=sizeOf0
 v0:=zeroValue0
 t3:=underlying3
 a3:=isAgg3
 z3:=sizeOf3
 v3:=zeroValue3
 t9:=underlying9
 a9:=isAgg9
 z9:=sizeOf9
 v9:=zeroValue9
 t37:=underlying48
 a37:=isAgg48
 z37:=sizeOf48
 v37:=zeroValue48
 t70:=underlying47
 a70:=isAgg47
 z70:=sizeOf47
 v70:=zeroValue47
 t72:=underlying50
 a72:=isAgg50
 z72:=sizeOf50
 v72:=zeroValue50
 t127:=underlying84
 a127:=isAgg84
 z127:=sizeOf84
 v127:=zeroValue84}
theorem V7:Builder.Extra prog SI:={
 sizeBuilder:=by kernel_rfl
 liesBuilder:=by kernel_rfl
 t5:=underlying5
 a5:=isAgg5
 z5:=sizeOf5
 v5:=zeroValue5
 infoByte:=by kernel_rfl
 cellsByte:=by kernel_rfl
 sizeByte:=by kernel_rfl
 neB5:=by decide}
open Go.RowKit in
theorem II(B b:Nat)(l:List UInt8)(w:World)(h:Lib.IsBuilder 50 5 B b (Lib.byteCells l) w)(hBw:B<=w.heap.size):
 Calls prog 16 #[.pointer (some ⟨b,0,none⟩)] w fun e w'=>e= .returned (.string ⟨l.toArray⟩)/\Below B w w':=Any.Builder_String_any Xx V7 B b l w h hBw
def QC:Go.Shelf.Ren:=⟨fun|156=>76|165=>123|166=>75|169=>16|240=>122|241=>156|276=>155|277=>181|n=>n,fun|31=>22|9=>9|3=>3|4=>4|0=>0|20=>20|72=>50|76=>156|70=>47|37=>48|75=>119|127=>84|164=>230|5=>5|80=>54|n=>n,fun|n=>n⟩
theorem X5:Go.Proofs.Lays.n156 prog QC:={
 mixed:=by kernel_rfl
 f156:=func76.trans (aC some (by kernel_rfl))
 f165:=func123.trans (aC some (by kernel_rfl))
 f166:=func75.trans (aC some (by kernel_rfl))
 f169:=func16.trans (aC some (by kernel_rfl))
 f240:=func122.trans (aC some (by kernel_rfl))
 f241:=func156.trans (aC some (by kernel_rfl))
 f276:=func155.trans (aC some (by kernel_rfl))
 f277:=func181.trans (aC some (by kernel_rfl))
 t0:=underlying0
 a0:=isAgg0
 z0:=sizeOf0
 v0:=zeroValue0
 t3:=underlying3
 a3:=isAgg3
 z3:=sizeOf3
 v3:=zeroValue3
 t4:=underlying4
 a4:=isAgg4
 z4:=sizeOf4
 v4:=zeroValue4
 t9:=underlying9
 a9:=isAgg9
 z9:=sizeOf9
 v9:=zeroValue9
 t20:=underlying20
 a20:=isAgg20
 z20:=sizeOf20
 v20:=zeroValue20
 t31:=underlying22
 a31:=isAgg22
 z31:=sizeOf22
 v31:=zeroValue22
 t37:=underlying48
 a37:=isAgg48
 z37:=sizeOf48
 v37:=zeroValue48
 t70:=underlying47
 a70:=isAgg47
 z70:=sizeOf47
 v70:=zeroValue47
 t72:=underlying50
 a72:=isAgg50
 z72:=sizeOf50
 v72:=zeroValue50
 t75:=underlying119
 a75:=isAgg119
 z75:=sizeOf119
 v75:=zeroValue119
 t76:=underlying156
 a76:=isAgg156
 z76:=sizeOf156
 v76:=zeroValue156
 t127:=underlying84
 a127:=isAgg84
 z127:=sizeOf84
 v127:=zeroValue84
 t164:=underlying230
 a164:=isAgg230
 z164:=sizeOf230
 v164:=zeroValue230}
theorem WE:Builder.Extra prog QC:={
 sizeBuilder:=by kernel_rfl
 liesBuilder:=by kernel_rfl
 t5:=underlying5
 a5:=isAgg5
 z5:=sizeOf5
 v5:=zeroValue5
 infoByte:=by kernel_rfl
 cellsByte:=by kernel_rfl
 sizeByte:=by kernel_rfl
 neB5:=by decide}
open Go.RowKit in
open Go.RowKit in
theorem RQ(bk o c:Nat)(xs:List ByteArray)(sep:ByteArray)(w:World)(hcells:∀(j:Nat) x,xs[j]?=some x->w.cell? ⟨bk,o+j,none⟩=some (.string x))(hbk:bk<w.heap.size)(hN:xs.length<=140737488355328)(hcap:xs.length<=c)(hlen:(Lib.join (xs.map (·.data.toList)) sep.data.toList).length<=140737488355328):
 Calls prog 76 #[.slice (some ⟨bk,o,none⟩) xs.length c,.string sep] w fun e w'=>e= .returned (.string ⟨(Lib.join (xs.map (·.data.toList)) sep.data.toList).toArray⟩)/\Below w.heap.size w w':=Any.strings_Join X5 WE bk o c xs sep w hcells hbk hN hcap hlen
def We:Go.Shelf.Ren:=⟨fun|161=>41|231=>60|227=>61|233=>62|235=>63|228=>107|197=>108|151=>109|260=>141|152=>142|137=>154|119=>167|224=>105|225=>104|217=>103|266=>139|n=>n,fun|9=>9|4=>4|3=>3|5=>5|117=>149|116=>148|0=>0|124=>152|105=>189|21=>21|119=>241|46=>37|139=>244|138=>243|n=>n,fun|3=>4|4=>5|n=>n⟩
theorem Xr:Go.Proofs.Lays.n161 prog We:={
 mixed:=by kernel_rfl
 f119:=func167.trans (aC some (by kernel_rfl))
 f137:=func154.trans (aC some (by kernel_rfl))
 f151:=func109.trans (aC some (by kernel_rfl))
 f152:=func142.trans (aC some (by kernel_rfl))
 f161:=func41.trans (aC some (by kernel_rfl))
 f197:=func108.trans (aC some (by kernel_rfl))
 f217:=func103.trans (aC some (by kernel_rfl))
 f224:=func105.trans (aC some (by kernel_rfl))
 f225:=func104.trans (aC some (by kernel_rfl))
 f227:=func61.trans (aC some (by kernel_rfl))
 f228:=func107.trans (aC some (by kernel_rfl))
 f231:=func60.trans (aC some (by kernel_rfl))
 f233:=func62.trans (aC some (by kernel_rfl))
 f235:=func63.trans (aC some (by kernel_rfl))
 f260:=func141.trans (aC some (by kernel_rfl))
 f266:=func139.trans (aC some (by kernel_rfl))
 t0:=underlying0
 a0:=isAgg0
 z0:=sizeOf0
 v0:=zeroValue0
 t3:=underlying3
 a3:=isAgg3
 z3:=sizeOf3
 v3:=zeroValue3
 t4:=underlying4
 a4:=isAgg4
 z4:=sizeOf4
 v4:=zeroValue4
 t5:=underlying5
 a5:=isAgg5
 z5:=sizeOf5
 v5:=zeroValue5
 t9:=underlying9
 a9:=isAgg9
 z9:=sizeOf9
 v9:=zeroValue9
 t21:=underlying21
 a21:=isAgg21
 z21:=sizeOf21
 v21:=zeroValue21
 t46:=underlying37
 a46:=isAgg37
 z46:=sizeOf37
 v46:=zeroValue37
 t105:=underlying189
 a105:=isAgg189
 z105:=sizeOf189
 v105:=zeroValue189
 t116:=underlying148
 a116:=isAgg148
 z116:=sizeOf148
 t117:=underlying149
 a117:=isAgg149
 z117:=sizeOf149
 v117:=zeroValue149
 t119:=underlying241
 a119:=isAgg241
 z119:=sizeOf241
 t124:=underlying152
 a124:=isAgg152
 z124:=sizeOf152
 v124:=zeroValue152
 t138:=underlying243
 a138:=isAgg243
 z138:=sizeOf243
 v138:=zeroValue243
 t139:=underlying244
 a139:=isAgg244
 z139:=sizeOf244
 v139:=zeroValue244
 g3:=by kernel_rfl
 g4:=by kernel_rfl}
open Go.RowKit in
theorem Mq(s:ByteArray)(c:UInt8)(hc:c.toNat<128)(w:World):
 Calls prog 41 #[.string s,.string ⟨#[c]⟩] w fun e w'=>e= .returned (.string ⟨(Lib.trimLeftB s.data.toList c).toArray⟩)/\w'=w:=Any.strings_TrimLeft_one Xr s c hc w
def VO:Go.Shelf.Ren:=⟨fun|137=>154|217=>103|266=>139|n=>n,fun|9=>9|5=>5|3=>3|n=>n,fun|n=>n⟩
theorem XT:Go.Proofs.Lays.n137 prog VO:={
 mixed:=by kernel_rfl
 f137:=func154.trans (aC some (by kernel_rfl))
 f217:=func103.trans (aC some (by kernel_rfl))
 f266:=func139.trans (aC some (by kernel_rfl))
 t3:=underlying3
 a3:=isAgg3
 z3:=sizeOf3
 v3:=zeroValue3
 t5:=underlying5
 a5:=isAgg5
 z5:=sizeOf5
 v5:=zeroValue5
 t9:=underlying9
 a9:=isAgg9
 z9:=sizeOf9
 v9:=zeroValue9}
open Go.RowKit in
theorem JA(s:ByteArray)(c:Int)(w:World):
 Calls prog 154 #[.string s,.int .u8 c] w fun e w'=>e= .returned (.int .i64 (Lib.indexByte s.data.toList c.toNat.toUInt8))/\w'=w:=Any.strings_IndexByte XT s c w
def VL:Go.Shelf.Ren:=⟨fun|103=>23|210=>40|206=>59|n=>n,fun|9=>9|4=>4|24=>80|3=>3|n=>n,fun|n=>n⟩
theorem XY:Go.Proofs.Lays.n103 prog VL:={
 mixed:=by kernel_rfl
 f103:=func23.trans (aC some (by kernel_rfl))
 f206:=func59.trans (aC some (by kernel_rfl))
 f210:=func40.trans (aC some (by kernel_rfl))
 t3:=underlying3
 a3:=isAgg3
 z3:=sizeOf3
 v3:=zeroValue3
 t4:=underlying4
 a4:=isAgg4
 z4:=sizeOf4
 v4:=zeroValue4
 t9:=underlying9
 a9:=isAgg9
 z9:=sizeOf9
 v9:=zeroValue9
 t24:=underlying80
 a24:=isAgg80
 z24:=sizeOf80
 v24:=zeroValue80}
open Go.RowKit in
theorem R9(s p:ByteArray)(w:World):
 Calls prog 23 #[.string s,.string p] w fun e w'=>e= .returned (.tuple #[.string ⟨(Lib.trimPrefix s.data.toList p.data.toList).toArray⟩,.bool (Lib.hasPrefix s.data.toList p.data.toList)])/\w'=w:=Any.strings_CutPrefix XY s p w
def Vh:Go.Shelf.Ren:=⟨fun|171=>52|243=>91|246=>55|283=>99|284=>100|285=>101|286=>102|129=>135|317=>134|318=>136|319=>137|320=>138|337=>165|338=>166|n=>n,fun|3=>3|9=>9|2=>2|4=>4|171=>177|0=>0|53=>178|37=>48|5=>5|173=>181|212=>216|51=>217|20=>20|213=>218|46=>37|232=>263|233=>264|n=>n,fun|17=>1|18=>6|19=>7|n=>n⟩
theorem WW:Go.Proofs.LaysM.n171 prog Vh:={
 mixed:=by kernel_rfl
 f129:=func135.trans (aC some (by kernel_rfl))
 f171:=func52.trans (aC some (by kernel_rfl))
 f243:=func91.trans (aC some (by kernel_rfl))
 f246:=func55.trans (aC some (by kernel_rfl))
 f283:=func99.trans (aC some (by kernel_rfl))
 f284:=func100.trans (aC some (by kernel_rfl))
 f285:=func101.trans (aC some (by kernel_rfl))
 f286:=func102.trans (aC some (by kernel_rfl))
 f317:=func134.trans (aC some (by kernel_rfl))
 f318:=func136.trans (aC some (by kernel_rfl))
 f319:=func137.trans (aC some (by kernel_rfl))
 f320:=func138.trans (aC some (by kernel_rfl))
 f337:=func165.trans (aC some (by kernel_rfl))
 f338:=func166.trans (aC some (by kernel_rfl))
 t0:=underlying0
 a0:=isAgg0
 z0:=sizeOf0
 v0:=zeroValue0
 t2:=underlying2
 a2:=isAgg2
 z2:=sizeOf2
 v2:=zeroValue2
 t3:=underlying3
 a3:=isAgg3
 z3:=sizeOf3
 v3:=zeroValue3
 t4:=underlying4
 a4:=isAgg4
 z4:=sizeOf4
 v4:=zeroValue4
 t5:=underlying5
 a5:=isAgg5
 z5:=sizeOf5
 v5:=zeroValue5
 t9:=underlying9
 a9:=isAgg9
 z9:=sizeOf9
 v9:=zeroValue9
 t20:=underlying20
 a20:=isAgg20
 z20:=sizeOf20
 v20:=zeroValue20
 t37:=underlying48
 a37:=isAgg48
 z37:=sizeOf48
 v37:=zeroValue48
 t46:=underlying37
 a46:=isAgg37
 z46:=sizeOf37
 v46:=zeroValue37
 t51:=underlying217
 a51:=isAgg217
 z51:=sizeOf217
 v51:=zeroValue217
 t53:=underlying178
 a53:=isAgg178
 z53:=sizeOf178
 v53:=zeroValue178
 t171:=underlying177
 a171:=isAgg177
 z171:=sizeOf177
 v171:=zeroValue177
 t173:=underlying181
 a173:=isAgg181
 z173:=sizeOf181
 v173:=zeroValue181
 t212:=underlying216
 a212:=isAgg216
 z212:=sizeOf216
 v212:=zeroValue216
 t213:=underlying218
 a213:=isAgg218
 z213:=sizeOf218
 t232:=underlying263
 a232:=isAgg263
 z232:=sizeOf263
 v232:=zeroValue263
 t233:=underlying264
 a233:=isAgg264
 z233:=sizeOf264
 v233:=zeroValue264
 g17:=by kernel_rfl
 g18:=by kernel_rfl
 g19:=by kernel_rfl
 i0:=by kernel_rfl
 i2:=by kernel_rfl
 i3:=by kernel_rfl
 i4:=by kernel_rfl
 i5:=by kernel_rfl
 i9:=by kernel_rfl
 i20:=by kernel_rfl
 i37:=by kernel_rfl
 i46:=by kernel_rfl
 i51:=by kernel_rfl
 i53:=by kernel_rfl
 i171:=by kernel_rfl
 i173:=by kernel_rfl
 i212:=by kernel_rfl
 i232:=by kernel_rfl
 i233:=by kernel_rfl
 m17:=by kernel_rfl
 m18:=by kernel_rfl
 m19:=by kernel_rfl}
open Go.RowKit Go.Sort Go.Lib in
theorem LQ(n:Int)(h0: -9223372036854775808<=n)(h1:n<=9223372036854775807)(w:World)(htab:Lib.TabIs prog w "internal/strconv.uint64pow10" .u64 Lib.pow10Tab):
 Calls prog 52 #[.int .i64 n] w fun e w'=>e= .returned (.string ⟨(Lib.itoa n).toArray⟩)/\∃k os,w'=grow (w.drewN k) os:=Any.strconv_Itoa WW n h0 h1 w htab
def VA:Go.Shelf.Ren:=⟨fun|173=>37|246=>55|283=>99|284=>100|285=>101|286=>102|129=>135|317=>134|318=>136|319=>137|320=>138|337=>165|338=>166|n=>n,fun|2=>2|3=>3|9=>9|4=>4|171=>177|0=>0|53=>178|37=>48|5=>5|173=>181|212=>216|51=>217|20=>20|213=>218|46=>37|232=>263|233=>264|n=>n,fun|17=>1|18=>6|19=>7|n=>n⟩
theorem Ws:Go.Proofs.LaysM.n173 prog VA:={
 mixed:=by kernel_rfl
 f129:=func135.trans (aC some (by kernel_rfl))
 f173:=func37.trans (aC some (by kernel_rfl))
 f246:=func55.trans (aC some (by kernel_rfl))
 f283:=func99.trans (aC some (by kernel_rfl))
 f284:=func100.trans (aC some (by kernel_rfl))
 f285:=func101.trans (aC some (by kernel_rfl))
 f286:=func102.trans (aC some (by kernel_rfl))
 f317:=func134.trans (aC some (by kernel_rfl))
 f318:=func136.trans (aC some (by kernel_rfl))
 f319:=func137.trans (aC some (by kernel_rfl))
 f320:=func138.trans (aC some (by kernel_rfl))
 f337:=func165.trans (aC some (by kernel_rfl))
 f338:=func166.trans (aC some (by kernel_rfl))
 t0:=underlying0
 a0:=isAgg0
 z0:=sizeOf0
 v0:=zeroValue0
 t2:=underlying2
 a2:=isAgg2
 z2:=sizeOf2
 v2:=zeroValue2
 t3:=underlying3
 a3:=isAgg3
 z3:=sizeOf3
 v3:=zeroValue3
 t4:=underlying4
 a4:=isAgg4
 z4:=sizeOf4
 v4:=zeroValue4
 t5:=underlying5
 a5:=isAgg5
 z5:=sizeOf5
 v5:=zeroValue5
 t9:=underlying9
 a9:=isAgg9
 z9:=sizeOf9
 v9:=zeroValue9
 t20:=underlying20
 a20:=isAgg20
 z20:=sizeOf20
 v20:=zeroValue20
 t37:=underlying48
 a37:=isAgg48
 z37:=sizeOf48
 v37:=zeroValue48
 t46:=underlying37
 a46:=isAgg37
 z46:=sizeOf37
 v46:=zeroValue37
 t51:=underlying217
 a51:=isAgg217
 z51:=sizeOf217
 v51:=zeroValue217
 t53:=underlying178
 a53:=isAgg178
 z53:=sizeOf178
 v53:=zeroValue178
 t171:=underlying177
 a171:=isAgg177
 z171:=sizeOf177
 v171:=zeroValue177
 t173:=underlying181
 a173:=isAgg181
 z173:=sizeOf181
 v173:=zeroValue181
 t212:=underlying216
 a212:=isAgg216
 z212:=sizeOf216
 v212:=zeroValue216
 t213:=underlying218
 a213:=isAgg218
 z213:=sizeOf218
 t232:=underlying263
 a232:=isAgg263
 z232:=sizeOf263
 v232:=zeroValue263
 t233:=underlying264
 a233:=isAgg264
 z233:=sizeOf264
 v233:=zeroValue264
 g17:=by kernel_rfl
 g18:=by kernel_rfl
 g19:=by kernel_rfl
 i0:=by kernel_rfl
 i2:=by kernel_rfl
 i3:=by kernel_rfl
 i4:=by kernel_rfl
 i5:=by kernel_rfl
 i9:=by kernel_rfl
 i20:=by kernel_rfl
 i37:=by kernel_rfl
 i46:=by kernel_rfl
 i51:=by kernel_rfl
 i53:=by kernel_rfl
 i171:=by kernel_rfl
 i173:=by kernel_rfl
 i212:=by kernel_rfl
 i232:=by kernel_rfl
 i233:=by kernel_rfl
 m17:=by kernel_rfl
 m18:=by kernel_rfl
 m19:=by kernel_rfl}
open Go.RowKit Go.Sort Go.Lib in
theorem Av(n:Int)(h0: -9223372036854775808<=n)(h1:n<=9223372036854775807)(w:World)(htab:Lib.TabIs prog w "internal/strconv.uint64pow10" .u64 Lib.pow10Tab):
 Calls prog 37 #[.int .i64 n,.int .i64 10] w fun e w'=>e= .returned (.string ⟨(Lib.itoa n).toArray⟩)/\∃k os,w'=grow (w.drewN k) os:=Any.strconv_FormatInt_10 Ws n h0 h1 w htab
def UG:Go.Shelf.Ren:=⟨fun|316=>159|n=>n,fun|9=>9|3=>3|4=>4|37=>48|0=>0|127=>84|5=>5|n=>n,fun|n=>n⟩
theorem Xb:Go.Proofs.LaysM.n316 prog UG:={
 mixed:=by kernel_rfl
 f316:=func159.trans (aC some (by kernel_rfl))
 t0:=underlying0
 a0:=isAgg0
 z0:=sizeOf0
 v0:=zeroValue0
 t3:=underlying3
 a3:=isAgg3
 z3:=sizeOf3
 v3:=zeroValue3
 t4:=underlying4
 a4:=isAgg4
 z4:=sizeOf4
 v4:=zeroValue4
 t9:=underlying9
 a9:=isAgg9
 z9:=sizeOf9
 v9:=zeroValue9
 t37:=underlying48
 a37:=isAgg48
 z37:=sizeOf48
 v37:=zeroValue48
 t127:=underlying84
 a127:=isAgg84
 z127:=sizeOf84
 v127:=zeroValue84
 t5:=underlying5
 a5:=isAgg5
 z5:=sizeOf5
 v5:=zeroValue5
 i0:=by kernel_rfl
 i3:=by kernel_rfl
 i4:=by kernel_rfl
 i5:=by kernel_rfl
 i9:=by kernel_rfl
 i37:=by kernel_rfl
 i127:=by kernel_rfl}
open Go.RowKit in
theorem JV(s:ByteArray)(w:World)(hlim:s.size<=281474976710656):
 Calls prog 159 #[.string s] w fun e w'=>e= .returned (.string s)/\Below w.heap.size w w':=Any.stringslite_Clone Xb s w hlim
def VC:Go.Shelf.Ren:=⟨fun|174=>46|247=>77|245=>78|287=>124|279=>125|280=>126|281=>127|282=>128|321=>157|322=>158|316=>159|171=>52|205=>160|243=>91|246=>55|283=>99|284=>100|285=>101|286=>102|129=>135|317=>134|318=>136|319=>137|320=>138|337=>165|338=>166|n=>n,fun|9=>9|3=>3|2=>2|75=>119|85=>120|4=>4|167=>198|5=>5|53=>178|175=>199|46=>37|168=>201|37=>48|0=>0|210=>235|21=>21|127=>84|145=>261|143=>259|171=>177|173=>181|212=>216|51=>217|20=>20|213=>218|232=>263|233=>264|80=>54|n=>n,fun|15=>2|16=>3|17=>1|18=>6|19=>7|n=>n⟩
theorem Tx:Go.Proofs.LaysC.n174 prog VC:={
 mixed:=by kernel_rfl
 f129:=func135.trans (aC some (by kernel_rfl))
 f171:=func52.trans (aC some (by kernel_rfl))
 f174:=func46.trans (aC some (by kernel_rfl))
 f205:=func160.trans (aC some (by kernel_rfl))
 f243:=func91.trans (aC some (by kernel_rfl))
 f245:=func78.trans (aC some (by kernel_rfl))
 f246:=func55.trans (aC some (by kernel_rfl))
 f247:=func77.trans (aC some (by kernel_rfl))
 f279:=func125.trans (aC some (by kernel_rfl))
 f280:=func126.trans (aC some (by kernel_rfl))
 f281:=func127.trans (aC some (by kernel_rfl))
 f282:=func128.trans (aC some (by kernel_rfl))
 f283:=func99.trans (aC some (by kernel_rfl))
 f284:=func100.trans (aC some (by kernel_rfl))
 f285:=func101.trans (aC some (by kernel_rfl))
 f286:=func102.trans (aC some (by kernel_rfl))
 f287:=func124.trans (aC some (by kernel_rfl))
 f316:=func159.trans (aC some (by kernel_rfl))
 f317:=func134.trans (aC some (by kernel_rfl))
 f318:=func136.trans (aC some (by kernel_rfl))
 f319:=func137.trans (aC some (by kernel_rfl))
 f320:=func138.trans (aC some (by kernel_rfl))
 f321:=func157.trans (aC some (by kernel_rfl))
 f322:=func158.trans (aC some (by kernel_rfl))
 f337:=func165.trans (aC some (by kernel_rfl))
 f338:=func166.trans (aC some (by kernel_rfl))
 t0:=underlying0
 a0:=isAgg0
 z0:=sizeOf0
 v0:=zeroValue0
 t2:=underlying2
 a2:=isAgg2
 z2:=sizeOf2
 v2:=zeroValue2
 t3:=underlying3
 a3:=isAgg3
 z3:=sizeOf3
 v3:=zeroValue3
 t4:=underlying4
 a4:=isAgg4
 z4:=sizeOf4
 v4:=zeroValue4
 t5:=underlying5
 a5:=isAgg5
 z5:=sizeOf5
 v5:=zeroValue5
 t9:=underlying9
 a9:=isAgg9
 z9:=sizeOf9
 v9:=zeroValue9
 t20:=underlying20
 a20:=isAgg20
 z20:=sizeOf20
 v20:=zeroValue20
 t21:=underlying21
 a21:=isAgg21
 z21:=sizeOf21
 v21:=zeroValue21
 t37:=underlying48
 a37:=isAgg48
 z37:=sizeOf48
 v37:=zeroValue48
 t46:=underlying37
 a46:=isAgg37
 z46:=sizeOf37
 v46:=zeroValue37
 t51:=underlying217
 a51:=isAgg217
 z51:=sizeOf217
 v51:=zeroValue217
 t53:=underlying178
 a53:=isAgg178
 z53:=sizeOf178
 v53:=zeroValue178
 t75:=underlying119
 a75:=isAgg119
 z75:=sizeOf119
 v75:=zeroValue119
 t85:=underlying120
 a85:=isAgg120
 z85:=sizeOf120
 v85:=zeroValue120
 t127:=underlying84
 a127:=isAgg84
 z127:=sizeOf84
 v127:=zeroValue84
 t143:=underlying259
 a143:=isAgg259
 z143:=sizeOf259
 v143:=zeroValue259
 t145:=underlying261
 a145:=isAgg261
 z145:=sizeOf261
 v145:=zeroValue261
 t167:=underlying198
 a167:=isAgg198
 z167:=sizeOf198
 v167:=zeroValue198
 t168:=underlying201
 a168:=isAgg201
 z168:=sizeOf201
 v168:=zeroValue201
 t171:=underlying177
 a171:=isAgg177
 z171:=sizeOf177
 v171:=zeroValue177
 t173:=underlying181
 a173:=isAgg181
 z173:=sizeOf181
 v173:=zeroValue181
 t175:=underlying199
 a175:=isAgg199
 z175:=sizeOf199
 v175:=zeroValue199
 t210:=underlying235
 a210:=isAgg235
 z210:=sizeOf235
 v210:=zeroValue235
 t212:=underlying216
 a212:=isAgg216
 z212:=sizeOf216
 v212:=zeroValue216
 t213:=underlying218
 a213:=isAgg218
 z213:=sizeOf218
 t232:=underlying263
 a232:=isAgg263
 z232:=sizeOf263
 v232:=zeroValue263
 t233:=underlying264
 a233:=isAgg264
 z233:=sizeOf264
 v233:=zeroValue264
 g15:=by kernel_rfl
 g16:=by kernel_rfl
 g17:=by kernel_rfl
 g18:=by kernel_rfl
 g19:=by kernel_rfl
 t80:=underlying54
 a80:=isAgg54
 z80:=sizeOf54
 v80:=zeroValue54
 i0:=by kernel_rfl
 i2:=by kernel_rfl
 i3:=by kernel_rfl
 i4:=by kernel_rfl
 i5:=by kernel_rfl
 i9:=by kernel_rfl
 i20:=by kernel_rfl
 i21:=by kernel_rfl
 i37:=by kernel_rfl
 i46:=by kernel_rfl
 i51:=by kernel_rfl
 i53:=by kernel_rfl
 i75:=by kernel_rfl
 i80:=by kernel_rfl
 i85:=by kernel_rfl
 i127:=by kernel_rfl
 i143:=by kernel_rfl
 i145:=by kernel_rfl
 i167:=by kernel_rfl
 i168:=by kernel_rfl
 i171:=by kernel_rfl
 i173:=by kernel_rfl
 i175:=by kernel_rfl
 i210:=by kernel_rfl
 i212:=by kernel_rfl
 i232:=by kernel_rfl
 i233:=by kernel_rfl
 m15:=by kernel_rfl
 m16:=by kernel_rfl
 m17:=by kernel_rfl
 m18:=by kernel_rfl
 m19:=by kernel_rfl
 c0:=by kernel_rfl
 c2:=by kernel_rfl
 c3:=by kernel_rfl
 c4:=by kernel_rfl
 c5:=by kernel_rfl
 c9:=by kernel_rfl
 c20:=by kernel_rfl
 c21:=by kernel_rfl
 c37:=by kernel_rfl
 c46:=by kernel_rfl
 c51:=by kernel_rfl
 c53:=by kernel_rfl
 c75:=by kernel_rfl
 c80:=by kernel_rfl
 c85:=by kernel_rfl
 c127:=by kernel_rfl
 c143:=by kernel_rfl
 c145:=by kernel_rfl
 c167:=by kernel_rfl
 c168:=by kernel_rfl
 c171:=by kernel_rfl
 c173:=by kernel_rfl
 c175:=by kernel_rfl
 c210:=by kernel_rfl
 c212:=by kernel_rfl
 c213:=by kernel_rfl
 c232:=by kernel_rfl
 c233:=by kernel_rfl}
def WB:Go.Shelf.Ren:=⟨fun|219=>58|217=>103|225=>104|224=>105|267=>106|266=>139|314=>140|n=>n,fun|9=>9|3=>3|4=>4|5=>5|46=>37|146=>220|51=>217|n=>n,fun|1=>0|n=>n⟩
theorem Xh:Go.Proofs.Lays.n219 prog WB:={
 mixed:=by kernel_rfl
 f217:=func103.trans (aC some (by kernel_rfl))
 f219:=func58.trans (aC some (by kernel_rfl))
 f224:=func105.trans (aC some (by kernel_rfl))
 f225:=func104.trans (aC some (by kernel_rfl))
 f266:=func139.trans (aC some (by kernel_rfl))
 f267:=func106.trans (aC some (by kernel_rfl))
 f314:=func140.trans (aC some (by kernel_rfl))
 t3:=underlying3
 a3:=isAgg3
 z3:=sizeOf3
 v3:=zeroValue3
 t4:=underlying4
 a4:=isAgg4
 z4:=sizeOf4
 v4:=zeroValue4
 t5:=underlying5
 a5:=isAgg5
 z5:=sizeOf5
 v5:=zeroValue5
 t9:=underlying9
 a9:=isAgg9
 z9:=sizeOf9
 v9:=zeroValue9
 t46:=underlying37
 a46:=isAgg37
 z46:=sizeOf37
 v46:=zeroValue37
 t51:=underlying217
 a51:=isAgg217
 z51:=sizeOf217
 v51:=zeroValue217
 t146:=underlying220
 a146:=isAgg220
 z146:=sizeOf220
 v146:=zeroValue220
 g1:=by kernel_rfl}
open Go.RowKit Go.Lib in
theorem LG(s:ByteArray)(c:UInt8)(w:World):
 Calls prog 58 #[.string s,.string ⟨#[c]⟩] w fun e w'=>e= .returned (.int .i64 (Lib.indexByte s.data.toList c))/\w'=w:=Any.stringslite_Index_one Xh s c w
def Wm:Go.Shelf.Ren:=⟨fun|144=>22|143=>39|219=>58|217=>103|225=>104|224=>105|267=>106|266=>139|314=>140|n=>n,fun|9=>9|4=>4|3=>3|5=>5|46=>37|146=>220|51=>217|n=>n,fun|1=>0|n=>n⟩
theorem X8:Go.Proofs.Lays.n144 prog Wm:={
 mixed:=by kernel_rfl
 f143:=func39.trans (aC some (by kernel_rfl))
 f144:=func22.trans (aC some (by kernel_rfl))
 f217:=func103.trans (aC some (by kernel_rfl))
 f219:=func58.trans (aC some (by kernel_rfl))
 f224:=func105.trans (aC some (by kernel_rfl))
 f225:=func104.trans (aC some (by kernel_rfl))
 f266:=func139.trans (aC some (by kernel_rfl))
 f267:=func106.trans (aC some (by kernel_rfl))
 f314:=func140.trans (aC some (by kernel_rfl))
 t3:=underlying3
 a3:=isAgg3
 z3:=sizeOf3
 v3:=zeroValue3
 t4:=underlying4
 a4:=isAgg4
 z4:=sizeOf4
 v4:=zeroValue4
 t5:=underlying5
 a5:=isAgg5
 z5:=sizeOf5
 v5:=zeroValue5
 t9:=underlying9
 a9:=isAgg9
 z9:=sizeOf9
 v9:=zeroValue9
 t46:=underlying37
 a46:=isAgg37
 z46:=sizeOf37
 v46:=zeroValue37
 t51:=underlying217
 a51:=isAgg217
 z51:=sizeOf217
 v51:=zeroValue217
 t146:=underlying220
 a146:=isAgg220
 z146:=sizeOf220
 v146:=zeroValue220
 g1:=by kernel_rfl}
open Go.RowKit Go.Lib in
theorem Ef(s:ByteArray)(c:UInt8)(w:World):
 Calls prog 22 #[.string s,.string ⟨#[c]⟩] w fun e w'=>e= .returned (.bool (decide (0<=Lib.indexByte s.data.toList c)))/\w'=w:=Any.strings_Contains_one X8 s c w
def WR:Go.Shelf.Ren:=⟨fun|102=>144|209=>171|207=>189|n=>n,fun|9=>9|4=>4|3=>3|n=>n,fun|n=>n⟩
theorem XI:Go.Proofs.Lays.n102 prog WR:={
 mixed:=by kernel_rfl
 f102:=func144.trans (aC some (by kernel_rfl))
 f207:=func189.trans (aC some (by kernel_rfl))
 f209:=func171.trans (aC some (by kernel_rfl))
 t3:=underlying3
 a3:=isAgg3
 z3:=sizeOf3
 v3:=zeroValue3
 t4:=underlying4
 a4:=isAgg4
 z4:=sizeOf4
 v4:=zeroValue4
 t9:=underlying9
 a9:=isAgg9
 z9:=sizeOf9
 v9:=zeroValue9}
open Go.RowKit Go.Lib in
theorem O6(s p:ByteArray)(w:World)(hs:s.size<=9223372036854775807):
 Calls prog 144 #[.string s,.string p] w fun e w'=>e= .returned (.string ⟨(Lib.trimSuffix s.data.toList p.data.toList).toArray⟩)/\w'=w:=Any.strings_TrimSuffix XI s p w hs
def Tab(w:World):Prop:=Lib.TabIs prog w "internal/strconv.uint64pow10" .u64 Lib.pow10Tab
theorem Tab.low{w w':World}(h:Tab w)(hb:Below w.heap.size w w'):Tab w':=by
 unfold Tab Lib.TabIs World.var? at*;cases hg:prog.globalNamed "internal/strconv.uint64pow10" with
 |none=>simp[hg]at h
 |some g=>
  simp only[hg,Option.bind_some]at h|-;have hlt:g<w.heap.size:=by
   rcases dO g w.heap.size with h'|h';exact h';rw[Array.getElem?_eq_none h']at h;simp at h
  rw[hb.block g hlt];exact h
theorem aad(w:World)(k:Nat)(os:Array Obj):aA w (Go.Sort.grow (w.drewN k) os):=
 ⟨rfl,rfl,rfl,by simp,fun i hi _=>Go.Sort.heap_grow_old (w.drewN k) os hi⟩
theorem Zz(n:Int)(hn:dH n)(w:World)(ht:Tab w):Calls prog 37 #[.int .i64 n,.int .i64 10] w fun e w'=>e= .returned (.string ⟨(Lib.itoa n).toArray⟩)/\aA w w':=by
 refine(Av n hn.1 hn.2 w ht).mono ?_;rintro e w' ⟨rfl,k,os,rfl⟩;exact⟨rfl,aad w k os⟩
theorem qP:(prog.info? 5).map (fun i=>(i.zero,i.size,i.bytes))=some (some (.int .u8 0),1,1):=by kernel_rfl
theorem mP:(prog.info? 50).map (·.size)=some 2:=by kernel_rfl
theorem BF:liesAt prog prog.depth 50 (2/prog.cellsOf 50) 0 50 1=true:=by kernel_rfl
theorem LV(b:Nat)(w:World)(h0:w.cell? ⟨b,0,none⟩=some (.pointer (some ⟨b,0,none⟩))):
 Calls prog 122 #[.pointer (some ⟨b,0,none⟩)] w fun e w'=>e= .returned (.tuple #[])/\w'=w:=by
 obtain⟨j,hj,_⟩:=dF.1 mP;go_enter func122,ntmps122;go_wp2;rw[Lib.run_neq_ptr_same w _ underlying47 hj];go_wp2;go_end0;exact⟨rfl,rfl⟩
theorem Jb(b:Nat)(w:World)(h0:w.cell? ⟨b,0,none⟩=some (.pointer none))(hsh:w.shape? b=some (50,2))(hfz:w.frozen? ⟨b,0,none⟩=false):
 Calls prog 122 #[.pointer (some ⟨b,0,none⟩)] w fun e w'=>e= .returned (.tuple #[])/\w'=w.setCell ⟨b,0,none⟩ (.pointer (some ⟨b,0,none⟩)):=by
 obtain⟨j,hj,hjs⟩:=dF.1 mP;go_enter func122,ntmps122;go_wp2;rw[Lib.run_to_unsafe w ⟨b,0,none⟩ underlying47 underlying230 hj (by rw[hjs];decide) hsh (Nat.zero_lt_succ 1)];simp only[Result.andThen];rw[Oper.upon_value];go_wp2;rw[run_callFunc_extern func155 (by kernel_rfl) (by kernel_rfl) (by kernel_rfl) (e:=Extern.AbiNoEscape.same) (by kernel_rfl)];rw[Lib.run_noEscape];simp only[Result.andThen];rw[Oper.upon_value];go_wp2;rw[Lib.run_from_unsafe w ⟨b,0,none⟩ underlying230 underlying47 hj hsh BF];simp only[Result.andThen];rw[Oper.upon_value];go_wp2;go_end0;exact⟨rfl,rfl⟩
def Bld(B b:Nat)(l:List UInt8)(w:World):Prop:=Lib.IsBuilder 50 5 B b (Lib.byteCells l) w
theorem S9(B b:Nat)(l:List UInt8)(w:World)(h:Bld B b l w):
 Calls prog 122 #[.pointer (some ⟨b,0,none⟩)] w fun e w'=>e= .returned (.tuple #[])/\Lib.BuilderAt 50 5 B b (.pointer (some ⟨b,0,none⟩)) (Lib.byteCells l) w'/\Below B w w'/\Lib.OthersKept 5 (some b) w w':=by
 rcases h with h|h;refine(Jb b w h.cell0 h.shape h.frozen0).mono ?_;rintro e w' ⟨rfl,rfl⟩;exact⟨rfl,h.used _,(cK B w).setCell (p:=⟨b,0,none⟩) h.1 _,(dB _ _ _).setCell ⟨b,0,none⟩ rfl _⟩;refine(LV b w h.cell0).mono ?_;rintro e w' ⟨rfl,rfl⟩;exact⟨rfl,h,cK B _,dB _ _ _⟩
theorem Co(l:List UInt8):Lib.strCells ⟨l.toArray⟩=Lib.byteCells l:=rfl
theorem oC{w:World}{B:Nat}{e:TypeId}{v:Value}{n:Nat}{xs:List Value}(h:w.ownsRow B e 1 v n xs):∀g,v.ownBlock=some g->∃c fz,w.heap[g]?=some (.cells c e fz):=by
 intro g hg;rcases h.2 with⟨rfl,_⟩|⟨g',cap,cur,rfl,_,hh,_⟩;simp[Value.ownBlock]at hg;simp[Value.ownBlock]at hg;subst hg;exact⟨_,_,hh⟩
theorem PD(B b:Nat)(l s:List UInt8)(w:World)(h:Bld B b l w)(hlen:l.length+s.length<=140737488355328)(hBw:B<=w.heap.size):
 Calls prog 75 #[.pointer (some ⟨b,0,none⟩),.string ⟨s.toArray⟩] w fun e w'=>e= .returned (.tuple #[.int .i64 s.length,.nilIface])/\Bld B b (l++s) w'/\Below B w w'/\Lib.OthersKept 5 (some b) w w':=by
 obtain⟨i0,hi,hz0,hz1,hz2⟩:=bM qP;have hss:(ByteArray.mk s.toArray).size=s.length:=by simp[ByteArray.size]
 have HSS:=hid hss;clear hss;go_enter func75,ntmps75;go_wp2_with (go_at_call 122;refine(S9 B b l _ h).mono ?_);rintro e w1 ⟨rfl,h1,hb1,hk1⟩;obtain⟨hB,v,hbk,hown,hne⟩:=h1;have c0:w1.cell? ⟨b,0,none⟩=some (.pointer (some ⟨b,0,none⟩)):=by rw[Lib.cell_of_heap hbk];rfl
 have c1:w1.cell? ⟨b,1,none⟩=some v:=by rw[Lib.cell_of_heap hbk];rfl
 go_wp2_with (at_builtin;refine Lib.wpList_append_own_string _ rfl _ _ 48 9 rfl B 5 i0 underlying48 underlying9 hi hz0 hz1 hz2 _ _ _ rfl hown ⟨s.toArray⟩ rfl ?c3 ?c4 ?c5 ?_);case c3=>rw[Lib.byteCells_length,HSS.out];unfold maxLen;omega
 case c4=>rw[Lib.byteCells_length,HSS.out];omega
 case c5=>have:=hb1.size;omega
 intro v' w2 hown' hgrow _;have hlt:b<w1.heap.size:=ae hbk;have hb2:w2.heap[b]?=some (.cells #[.pointer (some ⟨b,0,none⟩),v] 50 (0,0)):=by
  rw[hgrow.block b hlt (fun e=>hne e.symm)];exact hbk
 have d0:w2.cell? ⟨b,0,none⟩=some (.pointer (some ⟨b,0,none⟩)):=by rw[Lib.cell_of_heap hb2];rfl
 have d1:w2.cell? ⟨b,1,none⟩=some v:=by rw[Lib.cell_of_heap hb2];rfl
 have f1:w2.frozen? ⟨b,1,none⟩=false:=Lib.frozen_of_heap hb2 1;obtain⟨ao,n',cap,rfl⟩:∃ao n' cap,v'= .slice ao n' cap:=by
  rcases hown'.2 with⟨hv,_⟩|⟨g,cap,cur,hv,_⟩;exact⟨_,_,_,hv⟩;exact⟨_,_,_,hv⟩
 go_wp2;go_ret2;refine⟨?_,.inr ?_, ?_,(hk1.grown hgrow (oC hown)).setCell ⟨b,1,none⟩ rfl _⟩;simp;exact Lib.BuilderAt.put (T:=50) (e:=5) hB hb2 (bs':=Lib.byteCells (l++s)) (by rw[Lib.byteCells_append];simpa [Lib.strCells_length,Co,Lib.byteCells_length]using hown') (by decide);exact(hb1.grown hgrow (by have:=hb1.size;omega) (fun k hk=>(hown.lt k hk).1)).setCell (p:=⟨b,1,none⟩) hB _
end
namespace Dk
structure TkS(B tb db:Nat)(v:Value)(l:List UInt8)(w:World):Prop where
 obj:∃a,(a= .pointer none\/a= .pointer (some ⟨tb,1,none⟩))/\w.heap[tb]?=some (.cells #[.pointer (some ⟨db,0,none⟩),a,v] 52 (0,0))
 row:w.ownsRow B 5 1 v l.length (Lib.byteCells l)
 lo:B<=tb
 nil:l=[]->v= .slice none 0 0
def nK(tb:Nat)(v:Value)(k:Nat):Prop:=k=tb\/v.ownBlock=some k
section
variable{B tb db:Nat}{v:Value}{l:List UInt8}{w w':World}
theorem TkS.ne(h:TkS B tb db v l w):v.ownBlock≠some tb:=fun e=>by
 obtain⟨a,_,hb⟩:=h.obj;obtain⟨c,fz,hc⟩:=oC h.row tb e;rw[hb]at hc;simp at hc
theorem TkS.lt(h:TkS B tb db v l w){k:Nat}(hk:nK tb v k):B<=k/\k<w.heap.size:=by
 rcases hk with rfl|e;obtain⟨a,_,hb⟩:=h.obj;exact⟨h.lo,ae hb⟩;exact h.row.lt k e
theorem TkS.kept{F:Nat->Prop}(h:TkS B tb db v l w)(k:Kp F w w')(hF:∀i,nK tb v i->¬F i):TkS B tb db v l w':=by
 obtain⟨a,ha,hb⟩:=h.obj;exact⟨⟨a,ha,(k.block _ (ae hb) (hF _ (.inl rfl))).trans hb⟩,k.row h.row fun i e=>hF i (.inr e),h.lo,h.nil⟩
theorem TkS.quiet(h:TkS B tb db v l w)(q:aA w w'):TkS B tb db v l w':=h.kept q fun _ _ e=>e
theorem TkS.Zm(h:TkS B tb db v l w):w.cell? ⟨tb,0,none⟩=some (.pointer (some ⟨db,0,none⟩)):=by
 obtain⟨a,_,hb⟩:=h.obj;simp[World.cell?,hb]
end
theorem EX{P:Program}(w:World)(base:Nat)(t u ty e:TypeId)(i:TypeInfo)(ht:P.underlying t=some (.slice e))(hu:P.underlying u=some .string)(hi:P.info? e=some i)(hz:i.zero=some (.int .u8 0))
 (hsize:i.size=1) (hby:i.bytes=1) (v:Value) (n:Nat) (xs:List Value) (hown:w.ownsRow base e 1 v n xs) (s:ByteArray) (h63:n+s.size<=maxLen) (hbytes:n+s.size<=140737488355328) (hbase:base<=w.heap.size):
 ∃v' w',(Builtin.append_ #[t,u] ty #[v,.string s]).run P w= .ok v' w'/\w'.ownsRow base e 1 v' (n+s.size) (xs++Lib.strCells s)/\w.grownBy w' v.ownBlock/\∀k,v'.ownBlock=some k->v.ownBlock=some k\/w.heap.size<=k:=by
 have hsmall:n+s.size<=9223372036854775807:=by simp only[maxLen]at h63;omega
 obtain⟨v',w',hr,h2,h3,h4⟩:=Lib.run_append_own_string (P:=P) w base t u ty e i ht hu hi hz hsize hby v n xs hown s h63 hbytes hbase;refine⟨v',w',hr,h2,h3,fun k hk=> ?_⟩;rcases hown.2 with⟨rfl,rfl⟩|⟨g,cap,cur,rfl,hbg,hg,hnc,hcm,hcs,htake⟩;obtain rfl:xs=[]:=bB (by simpa using hown.1);obtain⟨v2,w2,hr2,h5,_,_⟩:=Lib.run_append_own_string (P:=P) w w.heap.size t u ty e i ht hu hi hz hsize hby (.slice none 0 0) 0 [] (bq w _ e 1) s h63 hbytes (aj _);have:=hr.symm.trans hr2;injection this with e1 e2;subst e1;exact .inr (h5.lt k hk).1;by_cases hroom:n+s.size<=cap;have hcs':cur.size=cap:=(by simpa using hcs);have:=hr.symm.trans (Lib.run_append_room_string (P:=P) w t u ty e i ht hu hi hsize g n cap cur hg s hroom (by omega));injection this with e1 e2;subst e1;exact .inl (by simpa [Value.ownBlock]using hk);have holds:∀j u,xs[j]?=some u->w.cell? ((⟨g,0,none⟩:Addr).add j)=some u:=hown.cells (g:=g) rfl;have:=hr.symm.trans (Lib.run_append_grow_string (P:=P) w t u ty e i (.int .u8 0) ht hu hi hz ⟨g,0,none⟩ n cap xs (by rw[hsize];simpa using hown.1) holds s (by omega) (by omega) (by rw[hby];exact growslice_fits (by omega) (by omega)));injection this with e1 e2;subst e1;simp[Value.ownBlock]at hk;exact .inr (by omega)
theorem Kl{P:Program}(w:World){ops:Array Oper}{rest:List Oper}{o:Oper}{a:Act}{Q:Exit->Act->World->Prop}(hgd:o.guard=none)(sl x:Operand)(t u:TypeId)(ho:o.op= .call {callee:= .builtin .append,args:= #[sl,x],argTypes:= #[t,u]})
 (base:Nat) (e:TypeId) (i:TypeInfo) (ht:P.underlying t=some (.slice e)) (hu:P.underlying u=some .string) (hi:P.info? e=some i) (hz:i.zero=some (.int .u8 0)) (hsize:i.size=1) (hby:i.bytes=1)
 (v:Value) (n:Nat) (xs:List Value) (hs:a.eval sl=v) (hown:w.ownsRow base e 1 v n xs) (s:ByteArray) (hx:a.eval x= .string s) (h63:n+s.size<=maxLen) (hbytes:n+s.size<=140737488355328) (hbase:base<=w.heap.size)
 (h:∀v' w',w'.ownsRow base e 1 v' (n+s.size) (xs++Lib.strCells s)->w.grownBy w' v.ownBlock->(∀k,v'.ownBlock=some k->v.ownBlock=some k\/w.heap.size<=k)->wpList P ops Q rest (a.put o.dst v') w'):wpList P ops Q (o::rest) a w:=by
 refine wpList_plain hgd fun K hK=> ?_;obtain⟨v',w',hr,h2,h3,h4⟩:=EX (P:=P) w base t u o.type e i ht hu hi hz hsize hby v n xs hown s h63 hbytes hbase;unfold Oper.wp execOp;simp only[ho,resolve,invoke,builtin,Sem.run_bind,Sem.run_pure,Result.andThen_ok,List.map_toArray,dz,List.map_nil,hs,hx,hr];exact hK _ _ (h v' w' h2 h3 h4)
theorem Cb:liesAt prog prog.depth 52 (3/prog.cellsOf 52) 1 50 1=true:=by kernel_rfl
theorem JH(b:Nat)(w:World)(h0:w.cell? ⟨b,1,none⟩=some (.pointer (some ⟨b,1,none⟩))):
 Calls prog 122 #[.pointer (some ⟨b,1,none⟩)] w fun e w'=>e= .returned (.tuple #[])/\w'=w:=by
 obtain⟨j,hj,_⟩:=dF.1 mP;go_enter func122,ntmps122;go_wp2;rw[Lib.run_neq_ptr_same w _ underlying47 hj];go_wp2;go_end0;exact⟨rfl,rfl⟩
theorem Fp(b:Nat)(w:World)(h0:w.cell? ⟨b,1,none⟩=some (.pointer none))(hsh:w.shape? b=some (52,3))(hfz:w.frozen? ⟨b,1,none⟩=false):
 Calls prog 122 #[.pointer (some ⟨b,1,none⟩)] w fun e w'=>e= .returned (.tuple #[])/\w'=w.setCell ⟨b,1,none⟩ (.pointer (some ⟨b,1,none⟩)):=by
 obtain⟨j,hj,hjs⟩:=dF.1 mP;go_enter func122,ntmps122;go_wp2;rw[Lib.run_to_unsafe w ⟨b,1,none⟩ underlying47 underlying230 hj (by rw[hjs];decide) hsh (show 1<3 by decide)];simp only[Result.andThen];rw[Oper.upon_value];go_wp2;rw[run_callFunc_extern func155 (by kernel_rfl) (by kernel_rfl) (by kernel_rfl) (e:=Extern.AbiNoEscape.same) (by kernel_rfl)];rw[Lib.run_noEscape];simp only[Result.andThen];rw[Oper.upon_value];go_wp2;rw[Lib.run_from_unsafe w ⟨b,1,none⟩ underlying230 underlying47 hj hsh Cb];simp only[Result.andThen];rw[Oper.upon_value];go_wp2;go_end0;exact⟨rfl,rfl⟩
theorem Oo{B tb db:Nat}{v:Value}{l:List UInt8}{w:World}(h:TkS B tb db v l w):
 Calls prog 122 #[.pointer (some ⟨tb,1,none⟩)] w fun e w'=>e= .returned (.tuple #[])/\w'.heap[tb]?=some (.cells #[.pointer (some ⟨db,0,none⟩),.pointer (some ⟨tb,1,none⟩),v] 52 (0,0))/\Kp (fun k=>k=tb) w w':=by
 obtain⟨a,ha,hb⟩:=h.obj;rcases ha with rfl|rfl;refine(Fp tb w (by simp[World.cell?,hb]) (by simp[World.shape?,hb]) (aG w tb 1 _ _ hb)).mono ?_;rintro e w' ⟨rfl,rfl⟩;exact⟨rfl,by simp[World.setCell,aR,hb],bF _ _ _ _⟩;refine(JH tb w (by simp[World.cell?,hb])).mono ?_;rintro e w' ⟨rfl,rfl⟩;exact⟨rfl,hb,Kp.refl _ _⟩
def IU(B tb db:Nat)(v:Value)(l:List UInt8)(w w':World):Prop:=∃v',TkS B tb db v' l w'/\Kp (nK tb v) w w'/\∀k,nK tb v' k->nK tb v k\/w.heap.size<=k
theorem LY{B tb db:Nat}{v:Value}{l:List UInt8}{w:World}(h:TkS B tb db v l w)(s:List UInt8)(hs:s≠[])(hlen:l.length+s.length<=140737488355328)(hBw:B<=w.heap.size):
 Calls prog 75 #[.pointer (some ⟨tb,1,none⟩),.string ⟨s.toArray⟩] w fun e w'=>(∃r,e= .returned r)/\IU B tb db v (l++s) w w':=by
 obtain⟨i0,hi,hz0,hz1,hz2⟩:=bM qP;have hss:(ByteArray.mk s.toArray).size=s.length:=by simp[ByteArray.size]
 have HSS:=hid hss;have HC:=hid (Oo h);have HH:=hid h;have HS:=hid hs;clear hss h hs;go_enter func75,ntmps75;go_wp2_with (go_at_call 122;refine HC.out.mono ?_);rintro e w1 ⟨rfl,hbk,k1⟩;have hown:w1.ownsRow B 5 1 v l.length (Lib.byteCells l):=k1.row HH.out.row fun i e e2=>HH.out.ne (e2▸e);have c1:w1.cell? ⟨tb,2,none⟩=some v:=by simp[World.cell?,hbk]
 have hs1:=k1.size;have K1:=hid k1;clear k1;go_wp2_with (at_builtin;refine Kl _ rfl _ _ 48 9 rfl B 5 i0 underlying48 underlying9 hi hz0 hz1 hz2 _ _ _ rfl hown ⟨s.toArray⟩ rfl ?c3 ?c4 ?c5 ?_);case c3=>rw[HSS.out];unfold maxLen;omega
 case c4=>rw[HSS.out];omega
 case c5=>omega
 intro v' w2 hown' hgrow aa0;have hlt:tb<w1.heap.size:=ae hbk;have hne:=HH.out.ne;have hb2:w2.heap[tb]?=some (.cells #[.pointer (some ⟨db,0,none⟩),.pointer (some ⟨tb,1,none⟩),v] 52 (0,0)):=by
  rw[hgrow.block tb hlt (fun e=>hne e.symm)];exact hbk
 have d1:w2.cell? ⟨tb,2,none⟩=some v:=by simp[World.cell?,hb2]
 have f1:w2.frozen? ⟨tb,2,none⟩=false:=aG w2 tb 2 _ _ hb2;obtain⟨ao,n',cap,rfl⟩:∃ao n' cap,v'= .slice ao n' cap:=by
  rcases hown'.2 with⟨hv,_⟩|⟨g,cap,cur,hv,_⟩;exact⟨_,_,_,hv⟩;exact⟨_,_,_,hv⟩
 have HG:=yY hown' hgrow hb2 hown aa0;clear hown' hgrow hb2 hown aa0;go_wp2;go_ret2;obtain⟨hown',hgrow,hb2,hown,aa0⟩:=HG.out;have hb3:(w2.setCell ⟨tb,2,none⟩ (.slice ao n' cap)).heap[tb]?=some (.cells #[.pointer (some ⟨db,0,none⟩),.pointer (some ⟨tb,1,none⟩),.slice ao n' cap] 52 (0,0)):=by simp[World.setCell,aR,hb2]
 have hrow:w2.ownsRow B 5 1 (.slice ao n' cap) (l++s).length (Lib.byteCells (l++s)):=by
  rw[Lib.byteCells_append];simpa [Lib.strCells_length,Co,Lib.byteCells_length]using hown'
 have hk2:Kp (nK tb v) w w2:=(K1.out.mono fun i _ e=> .inl e).trans (Kp.grown hgrow fun k _ e=> .inr e.symm);have hnt:(Value.slice ao n' cap).ownBlock≠some tb:=fun e=>by
  obtain⟨c,fz,hc⟩:=oC hrow tb e;rw[hb2]at hc;simp at hc
 refine⟨⟨_,rfl⟩,.slice ao n' cap,⟨⟨_,.inr rfl,hb3⟩,(bF _ _ _ _).row hrow fun k e e2=>hnt (e2▸e),HH.out.lo,fun e=> ?_⟩,hk2.trans ((bF w2 tb 2 _).mono fun i _ e=> .inl e),fun k e=> ?_⟩;exact absurd (List.append_eq_nil_iff.1 e).2 HS.out;rcases e with e|e;exact .inl (.inl e);rcases aa0 k e with e|e;exact .inl (.inr e);exact .inr (by omega)
theorem IU.trans{B tb db:Nat}{v v1:Value}{l2:List UInt8}{w w1 w2:World}(k1:Kp (nK tb v) w w1)(o1:∀k,nK tb v1 k->nK tb v k\/w.heap.size<=k)(h2:IU B tb db v1 l2 w1 w2):IU B tb db v l2 w w2:=by
 obtain⟨v2,s2,k2,o2⟩:=h2;have hs:=k1.size;refine⟨v2,s2, ?_,fun k e=> ?_⟩;refine⟨k2.os.trans k1.os,k2.tape.trans k1.tape,k2.output.trans k1.output,aF hs k2.size,fun i hi hF=> ?_⟩;refine(k2.block i (by omega) fun e=> ?_).trans (k1.block i hi hF);rcases o1 i e with e|e;exact hF e;omega;rcases o2 k e with e|e;exact o1 k e;exact .inr (by omega)
theorem Oh(w:World)(g n:Nat):Kp (fun k=>k=g) w (w.freeze ⟨g,0,none⟩ n):=by
 unfold World.freeze;split;exact Kp.refl _ _
 ·exact⟨rfl,rfl,rfl,by simp,fun k hk hF=>by
   simp only[aR];rw[af fun e=>hF e.symm]⟩
theorem wT:prog.cellsOf 5=1:=by kernel_rfl
theorem EK{B tb db:Nat}{v:Value}{l:List UInt8}{w:World}(h:TkS B tb db v l w):
 Calls prog 16 #[.pointer (some ⟨tb,1,none⟩)] w fun e w'=>e= .returned (.string ⟨l.toArray⟩)/\Kp (nK tb v) w w':=by
 obtain⟨a,ha,hb⟩:=h.obj;by_cases hl:l=[]
 ·have hv:=h.nil hl;subst hv hl;have hUS:∀(W:World)(q:Option Addr),(Builtin.unsafeString_ #[84,3] 9 #[.pointer q,.int .i64 0]).run prog W= .ok (.string .empty) W:=fun W q=>Lib.run_unsafeString_none W _ _ _ q;have hSD:∀W:World,(Builtin.unsafeSliceData_ #[48] 84 #[.slice none 0 0]).run prog W= .ok (.pointer none) W:=fun W=>rfl;have c1:w.drew.cell? ⟨tb,2,none⟩=some (.slice none 0 0):=by
   have:w.drew.heap[tb]?=some (.cells #[.pointer (some ⟨db,0,none⟩),a,.slice none 0 0] 52 (0,0)):=hb;simp[World.cell?,this]
  clear ha hb h;go_enter func16,ntmps16;go_wp2;go_region;all_goals(go_wp2;go_ret;exact⟨rfl,Kp.drew _⟩)
 ·have hl0:l.length≠0:=by simpa using hl
  have hown:=h.row;obtain⟨g,cap,cur,rfl,hbg,hg,hnc,hcm,hcs,htake⟩:∃g cap cur,v= .slice (some ⟨g,0,none⟩) l.length cap/\B<=g/\w.heap[g]?=some (.cells cur 5 (0,0))/\l.length<=cap/\cap<=maxLen/\cur.size=cap*1/\cur.toList.take (l.length*1)=Lib.byteCells l:=by
   rcases hown.2 with⟨_,hz⟩|⟨g,cap,cur,hv,r⟩;exact absurd hz hl0;exact⟨g,cap,cur,hv,r⟩
  have c1:w.drew.cell? ⟨tb,2,none⟩=some (.slice (some ⟨g,0,none⟩) l.length cap):=by
   have:w.drew.heap[tb]?=some (.cells #[.pointer (some ⟨db,0,none⟩),a,.slice (some ⟨g,0,none⟩) l.length cap] 52 (0,0)):=hb;simp[World.cell?,this]
  have hSD:(Builtin.unsafeSliceData_ #[48] 84 #[.slice (some ⟨g,0,none⟩) l.length cap]).run prog w.drew= .ok (.pointer (some ⟨g,0,none⟩)) w.drew:=Lib.run_unsafeSliceData_row _ _ _ _ _ _ (by omega);have hUS:(Builtin.unsafeString_ #[84,3] 9 #[.pointer (some ⟨g,0,none⟩),.int .i64 l.length]).run prog w.drew= .ok (.string ⟨l.toArray⟩) (w.drew.freeze ⟨g,0,none⟩ l.length):=by
   refine Lib.run_unsafeString_row w.drew 84 3 9 5 underlying84 wT g cur.size (by have hg':w.drew.heap[g]?=some (.cells cur 5 (0,0)):=hg;simp[World.shape?,hg']) l hl (by omega) (by unfold maxLen at hcm;omega) ?_;intro j x hx;have:=hown.cells (g:=g) rfl j (.int .u8 x.toNat) (by simp[Lib.byteCells,hx]);exact this
  clear ha hb h hown hg hcs htake hl hl0;go_enter func16,ntmps16;go_wp2;go_region;all_goals(go_wp2;go_ret;exact⟨rfl,(Kp.drew w).trans ((Oh w.drew g _).mono fun k _ e=> .inr (by rw[e];rfl))⟩)
end Dk
namespace Rt
theorem jP(a b:Int)(h0: -9223372036854775808<=b)(h1:b<=9223372036854775807)(w:World):
 Calls prog 153 #[.int .i64 a,.int .i64 b] w fun e w'=>e= .returned (.bool (hasB a b))/\w'=w:=by
 have hE:=hid (Vr a b h0 h1);go_enter func153,ntmps153;go_wp2;go_ret;exact⟨by rw[<-hE.out];rfl,rfl⟩
theorem aah(a:Int)(w:World):
 Calls prog 118 #[.int .i64 a] w fun e w'=>e= .returned (.string ⟨(textOf a).toArray⟩)/\w'=w:=by
 go_enter func118,ntmps118;go_wp2;go_loop [3,5] (fun s i=>∃k:Nat,k<=4/\i= .int .i64 k/\s= .string ⟨(ic a k).toArray⟩) (fun _ i=>4-(intOf i).toNat);case atStart=>exact⟨0,aP _,rfl,rfl⟩
 case round=>
  obtain⟨k,hk,rfl,rfl⟩:=hrel;by_cases hlt:k<4
  ·have hp:=UR a k (by omega);have hl:=tu a k;obtain rfl|rfl|rfl|rfl:k=0\/k=1\/k=2\/k=3:=(by omega);all_goals
    simp only[Int.reducePow]at hp;rename_i hk;cases hb:NG a _<;>rw[hb]at hp<;>have HB:=hid hb<;>clear hb;all_goals
     go_wp2_with (go_at_call 153;refine(jP _ _ (by omega) (by omega) _).mono ?_;rintro e w' ⟨rfl,rfl⟩);go_round;case rel=>exact⟨_,by decide,rfl,by first|rw[I1 HB.out]|(rw[Gl HB.out,<-JD _ _ (by decide)])⟩
     case measure=>simp[intOf]
  ·obtain rfl:k=4:=(by omega);by_cases he:ic a 4=[]
   ·have ht:=hid (show textOf a=[45]by simp[textOf,he]);go_wp2;go_ret;exact⟨by rw[ht.out];rfl,rfl⟩
   ·have ht:=hid (show textOf a=ic a 4 by simp[textOf,he]);have hn:(ic a 4).isEmpty=false:=(by simp[he]);go_wp2;go_ret;exact⟨by rw[ht.out];rfl,rfl⟩
theorem Kq(c:UInt8)(w:World):
 Calls prog 154 #[.string ⟨#[114,119,112,97]⟩,.int .u8 c.toNat] w fun e w'=>e= .returned (.int .i64 (vI c))/\w'=w:=by
 refine(JA ⟨#[114,119,112,97]⟩ c.toNat w).mono ?_;rintro e w' ⟨rfl,rfl⟩;exact⟨by rw[<-Gj];simp,rfl⟩
theorem aaO(l:List UInt8)(hs:l.length<=9223372036854775807)(w:World):
 Calls prog 120 #[.string ⟨l.toArray⟩] w fun e w'=>e= .returned (.tuple #[.int .i64 (Zu l).1,.bool (Zu l).2])/\w'=w:=by
 by_cases hd:l=[45]
 ·subst hd;go_enter func120,ntmps120;go_wp2;go_ret2;exact⟨rfl,rfl⟩
 ·have hP:=hid (show Zu l=iY 0 l by
   unfold Zu;rw[af hd])
  have hb:(l==[45])=false:=by simpa using hd
  clear hd;go_enter func120,ntmps120;go_wp2;go_loop [4,11] (fun r i=>∃k x:Nat,k<=l.length/\x<16/\i= .int .i64 k/\r= .int .i64 x/\Hid (Zu l=iY x (l.drop k))) (fun _ i=>l.length-(intOf i).toNat);case atStart=>exact⟨0,0,aP _,by omega,rfl,rfl,hP⟩
  case round=>
   obtain⟨k,x,hk,hx,rfl,rfl,hR⟩:=hrel;clear hP;by_cases hlt:k<l.length
   ·have hsz:k<(ByteArray.mk l.toArray).size:=(by simpa [ByteArray.size]using hlt);have hDr:Hid (l.drop k=(ByteArray.mk l.toArray)[k]::l.drop (k+1)):=bO hlt;have hpl:=Gu (ByteArray.mk l.toArray)[k];by_cases h:jF (ByteArray.mk l.toArray)[k]=4
    ·have hI:vI (ByteArray.mk l.toArray)[k]= -1:=(by simp[vI,h]);have hT:=hid (z8 x (ByteArray.mk l.toArray)[k] (l.drop (k+1)) (.inl h));clear h hpl;go_wp2_with (go_at_call 154;refine(Kq _ _).mono ?_;rintro e w' ⟨rfl,rfl⟩);go_ret2;exact⟨by rw[hR.out,hDr.out,hT.out];rfl,rfl⟩
    ·have h5:jF (ByteArray.mk l.toArray)[k]=0\/jF (ByteArray.mk l.toArray)[k]=1\/jF (ByteArray.mk l.toArray)[k]=2\/jF (ByteArray.mk l.toArray)[k]=3:=(by omega);clear hpl h;rcases h5 with h|h|h|h;all_goals
      have hI:=show vI (ByteArray.mk l.toArray)[k]=(jF (ByteArray.mk l.toArray)[k]:Nat)by simp[vI,h]
      rw[h]at hI;by_cases hle:2^jF (ByteArray.mk l.toArray)[k]<=x
      ·have hT:=hid (z8 x (ByteArray.mk l.toArray)[k] (l.drop (k+1)) (.inr hle));rw[h]at hle;simp only[Nat.reducePow]at hle hI;clear h;go_wp2_with (go_at_call 154;refine(Kq _ _).mono ?_;rintro e w' ⟨rfl,rfl⟩);go_ret2;exact⟨by rw[hR.out,hDr.out,hT.out];rfl,rfl⟩
      ·have hT:=SB x (ByteArray.mk l.toArray)[k] (l.drop (k+1)) (by omega) (by omega);rw[h]at hT hle;simp only[Nat.reducePow]at hT hle hI;have HT:=hid hT;clear h hT;go_wp2_with (go_at_call 154;refine(Kq _ _).mono ?_;rintro e w' ⟨rfl,rfl⟩);first
             |exact⟨⟨k+1,x|||1,by omega,EM x 1 hx (by decide),by go_num,by rw[<-wJ x 1 hx (by decide)];rfl,hid (by rw[hR.out,hDr.out,HT.out])⟩,by simp[intOf];omega⟩
             |exact⟨⟨k+1,x|||2,by omega,EM x 2 hx (by decide),by go_num,by rw[<-wJ x 2 hx (by decide)];rfl,hid (by rw[hR.out,hDr.out,HT.out])⟩,by simp[intOf];omega⟩
             |exact⟨⟨k+1,x|||4,by omega,EM x 4 hx (by decide),by go_num,by rw[<-wJ x 4 hx (by decide)];rfl,hid (by rw[hR.out,hDr.out,HT.out])⟩,by simp[intOf];omega⟩
             |exact⟨⟨k+1,x|||8,by omega,EM x 8 hx (by decide),by go_num,by rw[<-wJ x 8 hx (by decide)];rfl,hid (by rw[hR.out,hDr.out,HT.out])⟩,by simp[intOf];omega⟩
   ·obtain rfl:k=l.length:=(by omega);have hT:=hid (show Zu l=(x,x !=0)by rw[hR.out];simp[iY]);by_cases h0:x=0
    ·subst h0;go_wp2;go_ret2;exact⟨by rw[hT.out];rfl,rfl⟩
    ·have h1:((x:Int) !=0)=true:=(by simpa using h0);have h2:(x !=0)=true:=(by simpa using h0);rw[h2]at hT;go_wp2;go_ret2;exact⟨by rw[hT.out];first|rfl|simp[h0],rfl⟩
end Rt
theorem wU(l:List V)(ao:Option Addr)(cap than:Nat)(w:World)(hF:Fo w l ao)(hS:sizes l<=20000)(hth:than<=67108864):
 Calls prog 174 #[.slice ao l.length cap,.int .i64 than,.func (.func 175) #[] #[]] w fun e w'=>e= .returned (.bool (decide (than<sizes l)))/\aA w w':=by
 obtain⟨i0,hi,hz0,hz1,hz2⟩:=bM kN;have hroot:=hid hF;have hll:=fG l;have acK:l.length<=20000:=by omega
 have hrow:=hid (xI w 69 (Z0 (l,ao,cap)));clear hF;go_enter func174,ntmps174;go_wp2;go_loopg [7,8] (1+sizes l) (fun gk p sv wr=>∃(P:Nat) (ts:List Pl),p= .int .i64 P/\wr.ownsRow w.heap.size 69 1 sv ts.length (ts.map Z0)/\Lie w ts/\tsz ts=gk/\gk<=1+sizes l/\P+trs ts=sizes l/\Below w.heap.size w wr);case atStart=>
  refine⟨l.length,[(l,ao,cap)],rfl,hrow.out, ?_,mR _,aj _,by rw[rM];simp only;omega,(cK _ _).alloc (aj _) _⟩;intro x hx;simp at hx;subst hx;exact hroot.out
 case round=>
  obtain⟨P,ts,rfl,hr,hL,hsz,hle,hP,hB⟩:=hrel;have hsB:=hB.size;by_cases hbig:than<P
  ·have hE:=hid (show decide (than<sizes l)=true by simp;omega);have hd:decide ((P:Int)<=(than:Int))=false:=(by simp;omega);have hd2:¬(P:Int)<=(than:Int):=(by omega);have hP5:P<=20000:=(by omega);clear hsz hP;go_wp2;go_ret;exact⟨by rw[hE.out];simp,gV hB⟩
  ·have hd2:(P:Int)<=(than:Int):=(by omega);rcases eH ts with rfl|⟨ts,⟨u,ua,uc⟩,rfl⟩
   ·obtain⟨av,cv,rfl⟩:=YU hr;have hE:=hid (show decide (than<sizes l)=false by simp[wS]at hP;simp;omega);have hP5:P<=20000:=(by omega);clear hsz hP;go_wp2;go_ret;exact⟨by rw[hE.out];simp,gV hB⟩
   ·rw[eO]at hr hL hsz hP;rw[bA,dz,List.map_nil,ak,aL,bf,bP]at hr;obtain⟨g,cp,hv⟩:=fP hr (by omega);subst hv;obtain⟨hr',hc'⟩:=lU hr rfl;have hc:=hc' 0 (by decide);simp only[Nat.mul_one,eD,List.getElem?_cons_zero,Z0]at hc;have hu:=hL (u,ua,uc) (by simp);simp only at hu;have hL':Lie w ts:=fun x hx=>hL x (by simp[hx]);rw[kC,mR]at hsz;rw[rU,rM]at hP;simp only at hsz hP;have htl:=wF ts;have hul:=fG u;have hcp:=kQ hr;have abz:u.length<=20000:=(by omega);have ach:ts.length<=20000:=(by omega);have hP5:P<=20000:=(by omega);have HL:=hid hL';have HU:=hid hu;have HX:=bC hsz hP;clear hc' hr hL hL' hu hsz hP;go_wp2;go_loopw [7,8,38] (fun p sv i w2=>∃(j Q:Nat) (ks:List Pl),j<=u.length/\i= .int .i64 j/\p= .int .i64 (P+Q:Nat)/\w2.ownsRow w.heap.size 69 1 sv (ts++ks).length ((ts++ks).map Z0)/\Lie w ks/\(Q+trs ks+j=sizes (u.take j)/\tsz ks<=sizes (u.take j)/\ks.length<=j)/\Below w.heap.size w w2) (fun _ _ i _=>u.length-(intOf i).toNat);case atStart=>exact⟨0,0,[],aP _,rfl,rfl,by simpa using hr',fun x hx=>by simp at hx,⟨by simp[wS,YX],by simp[zx],aj _⟩,hB⟩
    case round=>
     obtain⟨j,Q,ks,hj,rfl,rfl,rR,hLk,hks,hBk⟩:=hrel;have htt:=gy u j;have abA:(ts++ks).length<=40000:=(by have:=HX.out;simp only[ak];omega);have hQ5:Q<=20000:=(by have:=HX.out;omega);obtain⟨nk,hnk⟩:∃nk,nk=(ts++ks).length:=⟨_,rfl⟩;rw[<-hnk]at rR abA;have HNK:=hid hnk;clear hnk;obtain⟨av,cv,hsv⟩:=YU rR;by_cases hlt:j<u.length
     ·obtain⟨bb,oo,rfl,dh,ca,cc,ds,hci⟩:=HU.out.get j hlt;have hbb:=aW w _ ds;obtain⟨d0,d1⟩:=gq (eZ hBk) dh;have dsk:=rq hBk ds hbb;have hnx:=mo u j hlt;generalize hcu:u[j]=c at*;have HC:=hid hci.fo;have HN:=bC hnx (size_eq c);have HK:=hid hks;have adO:c.l.length<=20000:=(by have:=fG c.l;have:=size_eq c;have:=gy u (j+1);have:=HX.out;omega);clear hcu hnx hks dh ds hci;by_cases hcl:c.l.length=0
      ·subst hsv;have hcl':¬(0:Int)<(c.l.length:Int):=(by omega);have HCL:=hid hcl;clear hcl;go_wp2_with (go_at_call 175;refine(ib c ca cc _).mono ?_;rintro e w3 ⟨rfl,q3⟩);refine⟨⟨j+1,Q,ks,by omega,by go_num,by go_num,HNK.out▸(q3.row (rR.alloc _) fun _ _ e=>e),hLk, ?_,sj (hBk.alloc hBk.size _) q3 (by have:=hBk.size;simp;omega)⟩,by simp[intOf];omega⟩;have h0:c.l=[]:=bB HCL.out;have h1:=HN.out;have h2:=HK.out;rw[h0,YX]at h1;exact⟨by omega,by omega,by omega⟩
      ·have hcl':(0:Int)<(c.l.length:Int):=(by omega);have HR:=hid rR;subst hsv;have hsk:=hBk.size;go_wp2_with (first
            |(at_builtin;refine aX _ rfl (.tmp 52) (.tmp 54) 280 rfl w.heap.size 69 i0 _ 1 24 lV hi hz0 hz1 hz2 rfl (by decide) _ nk ((ts++ks).map Z0) rfl (hr3.alloc _) ⟨w3.heap.size,0,none⟩ 1 1 [Z0 (c.l,ca,cc)] rfl rfl (gT w3 _ 69) (by simp[Value.oneCell',Z0]) (by decide) (by unfold maxLen;omega) (by omega) (by simp;omega) _ rfl ?_;intro g2 cap2 w1 hr1 hg1 hat hlt1;have hS:=hid (xD (x:=(c.l,ca,cc)) hB3 (by omega) hr3 HNK.out hr1 hg1);clear hr1 hg1 hat hlt1)
            |(go_at_call 175;refine(ib c ca cc _).mono ?_;rintro e w3 ⟨rfl,q3⟩;have hr3:=q3.row (HR.out.alloc _) (fun _ _ e=>e);have hB3:=sj (hBk.alloc hBk.size _) q3 (by simp;omega);have hs3:=hB3.size))
       refine⟨⟨j+1,Q+c.l.length,ks++[(c.l,ca,cc)],by omega,by go_num,by go_num, ?_,hLk.app ?_, ?_,hS.out.2⟩,by simp[intOf];omega⟩;rw[<-aV];exact hS.out.1;intro x hx;simp at hx;subst hx;exact HC.out;have h1:=HN.out;have h2:=HK.out;have h3:=fG c.l;rw[rU,rM,kC,mR,ak];simp only[aL,bf];exact⟨by omega,by omega,by omega⟩
     ·have hjl:j=u.length:=(by omega);subst hjl;have HK:=hid hks;clear hks;subst hsv;go_wp2;go_roundg (tsz (ts++ks));case measure=>
            have h2:=HK.out;have h3:=HX.out;rw[aZ]at h2;rw[kC];omega
      case rel=>
            refine⟨P+Q,ts++ks,by go_num,HNK.out▸rR,HL.out.app hLk,rfl, ?_, ?_,hBk⟩;have h2:=HK.out;have h3:=HX.out;rw[aZ]at h2;rw[kC];omega;have h2:=HK.out;have h3:=HX.out;rw[aZ]at h2;rw[rU];omega
