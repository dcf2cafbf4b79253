/- Parts. -/
import Derived.Test.YtpeakfcbihoknaaGreatDoorUV0
import Derived.Deep.RegionLaw
open Go.ChangeShapes Go.WideShapes Go.ChangeAt Go.RowKit
set_option maxRecDepth 8000
set_option maxHeartbeats 4000000
namespace Go.Proofs.YtpeakfcbihoknaaGreatDoor
open Proofs.Tryz
namespace Gr
theorem hid{p:Prop}(h:p):Hid p:=h
theorem bC{p0 p1:Prop}(h0:p0)(h1:p1):Hid (p0/\p1):=hid ⟨h0,h1⟩
theorem gp{p0 p1 p2:Prop}(h0:p0)(h1:p1)(h2:p2):Hid (p0/\p1/\p2):=hid ⟨h0,h1,h2⟩
theorem jR{p0 p1 p2 p3:Prop}(h0:p0)(h1:p1)(h2:p2)(h3:p3):Hid (p0/\p1/\p2/\p3):=hid ⟨h0,h1,h2,h3⟩
theorem yY{p0 p1 p2 p3 p4:Prop}(h0:p0)(h1:p1)(h2:p2)(h3:p3)(h4:p4):Hid (p0/\p1/\p2/\p3/\p4):=hid ⟨h0,h1,h2,h3,h4⟩
theorem Dq{p0 p1 p2 p3 p4 p5:Prop}(h0:p0)(h1:p1)(h2:p2)(h3:p3)(h4:p4)(h5:p5):Hid (p0/\p1/\p2/\p3/\p4/\p5):=hid ⟨h0,h1,h2,h3,h4,h5⟩
theorem Yd{p0 p1 p2 p3 p4 p5 p6:Prop}(h0:p0)(h1:p1)(h2:p2)(h3:p3)(h4:p4)(h5:p5)(h6:p6):Hid (p0/\p1/\p2/\p3/\p4/\p5/\p6):=hid ⟨h0,h1,h2,h3,h4,h5,h6⟩
theorem Wp{p0 p1 p2 p3 p4 p5 p6 p7:Prop}(h0:p0)(h1:p1)(h2:p2)(h3:p3)(h4:p4)(h5:p5)(h6:p6)(h7:p7):Hid (p0/\p1/\p2/\p3/\p4/\p5/\p6/\p7):=hid ⟨h0,h1,h2,h3,h4,h5,h6,h7⟩
theorem Xf{p0 p1 p2 p3 p4 p5 p6 p7 p8:Prop}(h0:p0)(h1:p1)(h2:p2)(h3:p3)(h4:p4)(h5:p5)(h6:p6)(h7:p7)(h8:p8):Hid (p0/\p1/\p2/\p3/\p4/\p5/\p6/\p7/\p8):=hid ⟨h0,h1,h2,h3,h4,h5,h6,h7,h8⟩
structure Nd where
 parent:Int
 gate:Int
 Y1:Int
 cell:Int
 plugin:Int
 func:Int
def nd0:Nd:=⟨0,0,0,0,0,0⟩
def YT(n:Nat)(k:Int):Bool:=decide (0<=k/\k<n)
theorem Zg{n:Nat}{k:Int}(h:YT n k=true):∃j:Nat,k=j/\j<n:=by
 simp[YT]at h;exact⟨k.toNat,by omega,by omega⟩
theorem um{n j:Nat}(h:j<n):YT n j=true:=by simp[YT];omega
def mf(os:List Bool)(k:Int):Bool:=YT os.length k&&os.getD k.toNat false
structure jg(g k:Nat)(n:Nd):Prop where
 p0: -1<=n.parent
 p1:n.parent<k
 g0:n.gate= -1\/YT g n.gate=true
 r0:0<=n.Y1
 r1:n.Y1<=15
 c0:0<=n.cell
 c1:n.cell<12
 l0: -1<=n.plugin
 l1:n.plugin<4
 f0:0<=n.func
 f1:n.func<6
theorem jg.more{g g' k:Nat}{n:Nd}(h:jg g k n)(hg:g<=g'):jg g' k n:=by
 refine{h with g0:= ?_};rcases h.g0 with e|e;exact .inl e;simp[YT]at e|-;omega
def Wf(ns:List Nd)(g:Nat):Prop:=∀k (h:k<ns.length),jg g k ns[k]
theorem Wf.nil(g:Nat):Wf [] g:=fun k h=>absurd h (by simp)
theorem Wf.snoc{ns:List Nd}{g:Nat}(h:Wf ns g){n:Nd}(hn:jg g ns.length n):Wf (ns++[n]) g:=by
 intro k hk;by_cases e:k<ns.length;rw[dU e];exact h k e
 ·have:k=ns.length:=by simp at hk;omega
  subst this;simpa using hn
theorem Wf.more{ns:List Nd}{g g':Nat}(h:Wf ns g)(hg:g<=g'):Wf ns g':=fun k hk=>(h k hk).more hg
def DJ(ns:List Nd):Nat->Int->List Nd
 |0,_=>[]
 |f+1,n=>if YT ns.length n then ns.getD n.toNat nd0::DJ ns f (ns.getD n.toNat nd0).parent else[]
def Y0(ns:List Nd)(n:Int):List Nd:=DJ ns (n.toNat+1) n
theorem zB{ns:List Nd}{n:Int}(h:YT ns.length n=false)(f:Nat):DJ ns f n=[]:=by
 cases f<;>simp[DJ,h]
theorem ZJ{ns:List Nd}{n:Int}(h:YT ns.length n=false):Y0 ns n=[]:=zB h _
theorem Lp{ns:List Nd}{k:Nat}(h:k<ns.length):ns.getD k nd0=ns[k]:=by simp[h]
theorem Nz{ns:List Nd}{g:Nat}(hw:Wf ns g):∀f f' (n:Int),n.toNat<f->n.toNat<f'->DJ ns f n=DJ ns f' n:=by
 intro f;induction f with
 |zero=>intro f' n h _;omega
 |succ f ih=>
  intro f' n h1 h2;cases f' with
  |zero=>omega
  |succ f'=>
   simp only[DJ];cases ht:YT ns.length n with
   |false=>simp
   |true=>
    obtain⟨j,rfl,hj⟩:=Zg ht;simp only[Int.toNat_natCast,if_true]at h1 h2|-;have hk:=hw j hj;rw[Lp hj];congr 1;have p0:=hk.p0;have p1:=hk.p1;by_cases hp:ns[j].parent<0;have e:YT ns.length ns[j].parent=false:=(by simp[YT];omega);rw[zB e,zB e];exact ih f' _ (by omega) (by omega)
theorem Zp{ns:List Nd}{g:Nat}(hw:Wf ns g){j:Nat}(hj:j<ns.length):Y0 ns j=ns[j]::Y0 ns ns[j].parent:=by
 have hk:=hw j hj;have p0:=hk.p0;have p1:=hk.p1;have e:Y0 ns j=ns[j]::DJ ns j ns[j].parent:=by
  simp only[Y0,DJ,um hj,if_true,Int.toNat_natCast,Lp hj]
 rw[e];congr 1;by_cases hp:ns[j].parent<0
 ·have e:YT ns.length ns[j].parent=false:=by simp[YT];omega
  rw[zB e,ZJ e]
 ·exact Nz hw _ _ _ (by omega) (by omega)
theorem aaw{ns:List Nd}{g:Nat}(hw:Wf ns g)(n:Int):(Y0 ns n).length<=ns.length:=by
 cases ht:YT ns.length n with
 |false=>rw[ZJ ht];simp
 |true=>
  obtain⟨j,rfl,hj⟩:=Zg ht;have:∀m j,j<m->j<ns.length->(Y0 ns (j:Int)).length<=j+1:=by
   intro m;induction m with
   |zero=>intro j h _;omega
   |succ m ih=>
    intro j hm hj;rw[Zp hw hj];have hk:=hw j hj;have p0:=hk.p0;have p1:=hk.p1;by_cases hp:ns[j].parent<0;have e:YT ns.length ns[j].parent=false:=(by simp[YT];omega);rw[ZJ e];simp;obtain⟨q,hq⟩:∃q:Nat,ns[j].parent=q:=⟨ns[j].parent.toNat,by omega⟩;rw[hq]at p1|-;have:=ih q (by omega) (by omega);simp only[aL];omega
  have:=this (j+1) j (by omega) hj;omega
theorem Uj{ns:List Nd}{g:Nat}(hw:Wf ns g)(n:Int):∀x∈Y0 ns n,∃k,jg g k x:=by
 cases ht:YT ns.length n with
 |false=>rw[ZJ ht];simp
 |true=>
  obtain⟨j,rfl,hj⟩:=Zg ht;have:∀m j,j<m->j<ns.length->∀x∈Y0 ns (j:Int),∃k,jg g k x:=by
   intro m;induction m with
   |zero=>intro j h _;omega
   |succ m ih=>
    intro j hm hj x hx;rw[Zp hw hj]at hx;have hk:=hw j hj;have p0:=hk.p0;have p1:=hk.p1;rcases aU.1 hx with rfl|hx;exact⟨j,hk⟩;by_cases hp:ns[j].parent<0;have e:YT ns.length ns[j].parent=false:=(by simp[YT];omega);rw[ZJ e]at hx;simp at hx;obtain⟨q,hq⟩:∃q:Nat,ns[j].parent=q:=⟨ns[j].parent.toNat,by omega⟩;rw[hq]at p1 hx;exact ih q (by omega) (by omega) x hx
  exact this (j+1) j (by omega) hj
def Ak(os:List Bool)(n:Nd):Bool:=n.gate== -1||mf os n.gate
def lZ(r:Nat)(ws:List Nd):Nat:=ws.foldl (fun r n=>r&&&n.Y1.toNat) r
def bS(ns:List Nd)(os:List Bool)(n:Int):Nat:=if YT ns.length n&&(Y0 ns n).all (Ak os)then lZ 15 (Y0 ns n)else 0
def eX(ws:List Nd):List Int:=(ws.map Nd.gate).filter (· != -1)
def bN(ns:List Nd)(n:Int):List Int:=eX (Y0 ns n)
def YS(ns:List Nd)(n:Int):Nd:=(Y0 ns n).getLastD nd0
theorem Nv(a b:Nat)(ha:a<=15)(hb:b<=15):bits .and .i64 (a:Int) (b:Int)=((a&&&b:Nat):Int):=by
 have h:∀r:Fin 16,∀m:Fin 16,bits .and .i64 (r.val:Int) (m.val:Int)=((r.val&&&m.val:Nat):Int):=by decide+kernel
 exact h ⟨a,by omega⟩ ⟨b,by omega⟩
theorem QG(a b:Nat)(ha:a<=15):a&&&b<=15:=aF Nat.and_le_left ha
theorem DL:∀(ws:List Nd)(r:Nat),r<=15->lZ r ws<=15
 |[],_,h=>h
 |_::ws,_,h=>DL ws _ (QG _ _ h)
theorem aaI(ns:List Nd)(os:List Bool)(n:Int):bS ns os n<=15:=by
 unfold bS;split;exact DL _ _ (aj _);omega
theorem aba{ns:List Nd}{os:List Bool}{n:Int}(h:YT ns.length n=false):bS ns os n=0:=by simp[bS,h]
structure ZH where
 num:Int
 code:Int
 ns:List Nd
 os:List Bool
def dJ(ns:List Nd)(os:List Bool)(n:Nd):ZH:=
 if¬(0<=n.Y1/\n.Y1<=15)then⟨0,1,ns,os⟩
 else if n.gate≠ -1/\YT os.length n.gate=false then⟨0,8,ns,os⟩
 else if ns.length=80 then⟨0,11,ns,os⟩
 else⟨ns.length,0,ns++[n],os⟩
def bJ(ns:List Nd)(os:List Bool):ZH:=if os.length=20 then⟨0,11,ns,os⟩else⟨os.length,0,ns,os++[true]⟩
def dV(ns:List Nd)(os:List Bool)(k:Int):ZH:=if YT os.length k then⟨0,0,ns,os.set k.toNat false⟩else⟨0,8,ns,os⟩
def mV(c:Int):Bool:=decide (0<=c/\c<12)
def fO(ns:List Nd)(os:List Bool)(c r g:Int):ZH:=if mV c then dJ ns os ⟨-1,g,r,c, -1,0⟩else⟨0,1,ns,os⟩
def Zx(p f:Int):Bool:=decide (0<=p/\p<4/\0<=f/\f<6)
def funcOf(ns:List Nd)(os:List Bool)(p f r g:Int):ZH:=if Zx p f then dJ ns os ⟨-1,g,r,0,p,f⟩else⟨0,1,ns,os⟩
def aS(ns:List Nd)(os:List Bool)(p r g:Int):ZH:=if YT ns.length p then dJ ns os ⟨p,g,r,0, -1,0⟩else⟨0,8,ns,os⟩
structure YO(ns:List Nd)(os:List Bool)(ns':List Nd)(os':List Bool):Prop where
 nodes:ns'=ns\/∃n,ns'=ns++[n]
 agM:os.length<=os'.length
 shut:∀k:Nat,k<os.length->os.getD k false=false->os'.getD k false=false
 wf:Wf ns os.length->Wf ns' os'.length
theorem gL{w:World}{base base':Nat}{e:TypeId}{size:Nat}{v:Value}{n:Nat}{xs:List Value}(h:w.ownsRow base e size v n xs)(hb:base'<=base):w.ownsRow base' e size v n xs:=by
 refine⟨h.1, ?_⟩;rcases h.2 with hn|⟨g,cap,cur,rfl,hg,rest⟩;exact .inl hn;exact .inr ⟨g,cap,cur,rfl,aF hb hg,rest⟩
def Nd.cells(n:Nd):List Value:=[.int .i64 n.parent,.int .i64 n.gate,.int .i64 n.Y1,.int .i64 n.cell,.int .i64 n.plugin,.int .i64 n.func]
def Nd.agg(n:Nd):Value:= .agg #[.int .i64 n.parent,.int .i64 n.gate,.int .i64 n.Y1,.int .i64 n.cell,.int .i64 n.plugin,.int .i64 n.func]
def fI(ns:List Nd):List Value:=ns.flatMap Nd.cells
theorem Z9(ns:List Nd)(n:Nd):fI (ns++[n])=fI ns++n.cells:=by simp[fI]
theorem mh(ns:List Nd)(k j:Nat)(hk:k<ns.length)(hj:j<6):(fI ns)[k*6+j]?=(ns[k]).cells[j]?:=by
 induction ns generalizing k with
 |nil=>simp at hk
 |cons e es ih=>
  cases k with
  |zero=>simp only[fI,cB];rw[dP (by simp[Nd.cells];omega)];simp
  |succ k=>
   simp only[fI,cB];rw[bX (by simp[Nd.cells];omega)];have:=ih k (by simpa using hk);simp only[fI]at this;rw[show(k+1)*6+j-e.cells.length=k*6+j by simp[Nd.cells];omega,this];simp
theorem abj(n:Nd):∀u∈n.cells,u.oneCell'=true:=by
 intro u hu;simp only[Nd.cells,aU,dN,or_false]at hu;rcases hu with rfl|rfl|rfl|rfl|rfl|rfl<;>rfl
def yK(os:List Bool):List Value:=os.map Value.bool
theorem YU{w:World}{base:Nat}{e:TypeId}{size:Nat}{v:Value}{n:Nat}{xs:List Value}(h:w.ownsRow base e size v n xs):∃ao cap,v= .slice ao n cap:=by
 rcases h.2 with⟨rfl,rfl⟩|⟨g,cap,cur,rfl,_⟩;exact⟨none,0,rfl⟩;exact⟨_,cap,rfl⟩
theorem Zc{w:World}{base:Nat}{e:TypeId}{size:Nat}{ao:Option Addr}{cap n:Nat}{xs:List Value}(h:w.ownsRow base e size (.slice ao n cap) n xs)(hn:0<n):
 ∃g,ao=some ⟨g,0,none⟩/\∀j,j<n*size->w.cell? ⟨g,j,none⟩=xs[j]?:=by
 rcases h.2 with⟨h',h0⟩|⟨g,cap',cur,h',_⟩;omega;simp only[aY]at h';obtain⟨rfl,_,rfl⟩:=h';exact⟨g,rfl,fun j hj=>h.cellAt j hj⟩
theorem Mv{w:World}{base:Nat}{e:TypeId}{size g cap n:Nat}{xs:List Value}(h:w.ownsRow base e size (.slice (some ⟨g,0,none⟩) n cap) n xs)(j:Nat):w.frozen? ⟨g,j,none⟩=false:=by
 rcases h.2 with⟨h',_⟩|⟨g',cap',cur,h',_,hg,_⟩;simp at h';simp only[aY,aT,eG]at h';obtain⟨⟨rfl,_⟩,_,rfl⟩:=h';exact aG w _ j _ e hg
theorem PN{w:World}{g:Nat}{ns:List Nd}(h:∀j,j<ns.length*6->w.cell? ⟨g,j,none⟩=(fI ns)[j]?)(k:Nat)(hk:k<ns.length):
 w.cell? ⟨g,k*6,none⟩=some (.int .i64 ns[k].parent)/\w.cell? ⟨g,k*6+1,none⟩=some (.int .i64 ns[k].gate)/\w.cell? ⟨g,k*6+2,none⟩=some (.int .i64 ns[k].Y1)/\w.cell? ⟨g,k*6+3,none⟩=some (.int .i64 ns[k].cell)/\w.cell? ⟨g,k*6+4,none⟩=some (.int .i64 ns[k].plugin)/\w.cell? ⟨g,k*6+5,none⟩=some (.int .i64 ns[k].func):=by
 refine⟨?_, ?_, ?_, ?_, ?_, ?_⟩;rw[h _ (by omega),show k*6=k*6+0 from rfl,mh ns k 0 hk (by decide)];rfl;rw[h _ (by omega),mh ns k 1 hk (by decide)];rfl;rw[h _ (by omega),mh ns k 2 hk (by decide)];rfl;rw[h _ (by omega),mh ns k 3 hk (by decide)];rfl;rw[h _ (by omega),mh ns k 4 hk (by decide)];rfl;rw[h _ (by omega),mh ns k 5 hk (by decide)];rfl
theorem Lj{w:World}{g:Nat}{os:List Bool}(h:∀j,j<os.length*1->w.cell? ⟨g,j,none⟩=(yK os)[j]?)(k:Nat)(hk:k<os.length):w.cell? ⟨g,k,none⟩=some (.bool (os.getD k false)):=by
 rw[h k (by omega)];simp[yK,hk]
structure GS(t:TypeId)(B:Nat)(w:World)(b:Nat)(vn vo:Value)(ns:List Nd)(os:List Bool):Prop where
 obj:w.heap[b]?=some (.cells #[vn,vo] t (0,0))
 rn:w.ownsRow B 207 6 vn ns.length (fI ns)
 ro:w.ownsRow B 4 1 vo os.length (yK os)
 nb:vn.ownBlock≠some b
 ob:vo.ownBlock≠some b
 no:∀g,vn.ownBlock=some g->vo.ownBlock≠some g
 lo:B<=b
 ln:ns.length<=80
 lg:os.length<=20
def Own(b:Nat)(vn vo:Value)(k:Nat):Prop:=k=b\/vn.ownBlock=some k\/vo.ownBlock=some k
section
variable{t:TypeId}{B:Nat}{w w':World}{b:Nat}{vn vo:Value}{ns:List Nd}{os:List Bool}
theorem GS.lt(h:GS t B w b vn vo ns os):b<w.heap.size:=ae h.obj
theorem GS.size(h:GS t B w b vn vo ns os):B<=w.heap.size:=by have:=h.lt;have:=h.lo;omega
theorem GS.cell0(h:GS t B w b vn vo ns os):w.cell? ⟨b,0,none⟩=some vn:=by simp[World.cell?,h.obj]
theorem GS.cell1(h:GS t B w b vn vo ns os):w.cell? ⟨b,1,none⟩=some vo:=by simp[World.cell?,h.obj]
theorem GS.own(h:GS t B w b vn vo ns os)(k:Nat)(hk:Own b vn vo k):B<=k/\k<w.heap.size:=by
 rcases hk with rfl|e|e;exact⟨h.lo,h.lt⟩;exact h.rn.lt k e;exact h.ro.lt k e
theorem GS.kept{F:Nat->Prop}(h:GS t B w b vn vo ns os)(hk:Kp F w w')(hF:∀k,Own b vn vo k->¬F k):GS t B w' b vn vo ns os:=
 {h with obj:=(hk.block b h.lt (hF b (.inl rfl))).trans h.obj,rn:=hk.row h.rn fun k e=>hF k (.inr (.inl e)),ro:=hk.row h.ro fun k e=>hF k (.inr (.inr e))}
theorem GS.quiet(h:GS t B w b vn vo ns os)(hk:aA w w'):GS t B w' b vn vo ns os:=h.kept hk fun _ _ e=>e
structure Goes(b:Nat)(vn vo:Value)(w:World)(Y4 Y3:Value)(w':World):Prop where
 kp:Kp (Own b vn vo) w w'
 own:∀k,Own b Y4 Y3 k->Own b vn vo k\/w.heap.size<=k
theorem Goes.refl(b:Nat)(vn vo:Value)(w:World):Goes b vn vo w vn vo w:=⟨Kp.refl _ _,fun _ h=> .inl h⟩
theorem Goes.quiet(b:Nat)(vn vo:Value)(hk:aA w w'):Goes b vn vo w vn vo w':=⟨hk.mono fun _ _ h=>h.elim,fun _ h=> .inl h⟩
theorem Goes.trans{v1 o1 v2 o2 v3 o3:Value}{w1 w2 w3:World}(h:Goes b v1 o1 w1 v2 o2 w2)(k:Goes b v2 o2 w2 v3 o3 w3):Goes b v1 o1 w1 v3 o3 w3:=by
 refine⟨⟨k.kp.os.trans h.kp.os,k.kp.tape.trans h.kp.tape,k.kp.output.trans h.kp.output,aF h.kp.size k.kp.size,fun i hi hF=> ?_⟩,fun i hi=> ?_⟩;refine(k.kp.block i (az hi h.kp.size) fun e=> ?_).trans (h.kp.block i hi hF);rcases h.own i e with e|e;exact hF e;omega;rcases k.own i hi with e|e;exact h.own i e;exact .inr (aF h.kp.size e)
theorem Goes.block{Y4 Y3:Value}(hg:Goes b vn vo w Y4 Y3 w'){x:Nat}{o:Obj}(hx:w.heap[x]?=some o)(hn:¬Own b vn vo x):w'.heap[x]?=some o/\¬Own b Y4 Y3 x:=by
 refine⟨(hg.kp.block x (ae hx) hn).trans hx,fun e=> ?_⟩;rcases hg.own x e with e|e;exact hn e;have:=ae hx;omega
def YL(b:Nat)(vn vo:Value)(b2:Nat)(vn2 vo2:Value):Prop:=∀k,Own b vn vo k->¬Own b2 vn2 vo2 k
theorem GS.new{B:Nat}(w:World)(t:TypeId)(hB:B<=w.heap.size):GS t B (w.alloc (.cells #[.slice none 0 0,.slice none 0 0] t)) w.heap.size (.slice none 0 0) (.slice none 0 0) [] []:=
 ⟨ah w _,bq _ _ _ _,bq _ _ _ _,by simp[Value.ownBlock],by simp[Value.ownBlock],by simp[Value.ownBlock],hB,by simp,by simp⟩
theorem GS.aez{o:Obj}{w1:World}{g cap:Nat}{x:Bool}(h:GS t B w b vn vo ns os)(hl:os.length<20)(hr:w1.ownsRow B 4 1 (.slice (some ⟨g,0,none⟩) (os.length+1) cap) (os.length+1) (yK os++[.bool x]))(hg:(w.alloc o).grownBy w1 vo.ownBlock)(hat:vo.ownBlock=some g\/g=w.heap.size+1):
 w1.heap[b]?=some (.cells #[vn,vo] t (0,0))/\GS t B (w1.setCell ⟨b,1,none⟩ (.slice (some ⟨g,0,none⟩) (os.length+1) cap)) b vn (.slice (some ⟨g,0,none⟩) (os.length+1) cap) ns (os++[x])/\Goes b vn vo w vn (.slice (some ⟨g,0,none⟩) (os.length+1) cap) (w1.setCell ⟨b,1,none⟩ (.slice (some ⟨g,0,none⟩) (os.length+1) cap)):=by
 have k2:Kp (fun k=>vo.ownBlock=some k) w w1:=(Kp.alloc w o).trans (Kp.grown hg fun k _ e=>e.symm);have aaQ:w1.heap[b]?=some (.cells #[vn,vo] t (0,0)):=(k2.block b h.lt h.ob).trans h.obj;have hb:=h.lt;have hgb:g≠b:=by rintro rfl;rcases hat with e|e;exact h.ob e;omega
 have hng:∀k,vn.ownBlock=some k->k≠g:=by
  rintro k e rfl;rcases hat with e2|e2;exact h.no k e e2;have:=(h.rn.lt k e).2;omega
 refine⟨aaQ,⟨?_, ?_, ?_,h.nb,by simpa [Value.ownBlock]using hgb, ?_,h.lo,h.ln,by simp;omega⟩, ?_, ?_⟩;rw[heap_setCell_same w1 b 1 _ t _ aaQ];simp;exact ownsRow_setCell_other (k2.row h.rn fun k e e2=>h.no k e e2) (a:=⟨b,1,none⟩) h.nb _;have:=ownsRow_setCell_other hr (a:=⟨b,1,none⟩) (by simpa [Value.ownBlock]using hgb) (.slice (some ⟨g,0,none⟩) (os.length+1) cap);simpa [yK]using this;intro k e;simp only[Value.ownBlock,ne_eq,aT];exact fun e2=>hng k e e2.symm;exact(k2.mono fun k _ e=> .inr (.inr e)).trans (Kp.setCell _ _ _ (.inl rfl));intro k e;rcases e with e|e|e;exact .inl (.inl e);exact .inl (.inr (.inl e));simp only[Value.ownBlock,aT]at e;subst e;rcases hat with e|e;exact .inl (.inr (.inr e));right;omega
theorem GS.added{w0 w1:World}{g cap H:Nat}{n:Nd}(h:GS t B w b vn vo ns os)(hl:ns.length<80)(hq:aA w w0)(hr:w1.ownsRow B 207 6 (.slice (some ⟨g,0,none⟩) (ns.length+1) cap) (ns.length+1) (fI ns++n.cells))(hg:w0.grownBy w1 vn.ownBlock)(hat:vn.ownBlock=some g\/g=H)(hH:w.heap.size<=H):
 w1.heap[b]?=some (.cells #[vn,vo] t (0,0))/\GS t B (w1.setCell ⟨b,0,none⟩ (.slice (some ⟨g,0,none⟩) (ns.length+1) cap)) b (.slice (some ⟨g,0,none⟩) (ns.length+1) cap) vo (ns++[n]) os/\Goes b vn vo w (.slice (some ⟨g,0,none⟩) (ns.length+1) cap) vo (w1.setCell ⟨b,0,none⟩ (.slice (some ⟨g,0,none⟩) (ns.length+1) cap)):=by
 have k2:Kp (fun k=>vn.ownBlock=some k) w w1:=(hq.mono fun _ _ e=>e.elim).trans (Kp.grown hg fun k _ e=>e.symm);have aaQ:w1.heap[b]?=some (.cells #[vn,vo] t (0,0)):=(k2.block b h.lt h.nb).trans h.obj;have hb:=h.lt;have hgb:g≠b:=by rintro rfl;rcases hat with e|e;exact h.nb e;omega
 have hng:∀k,vo.ownBlock=some k->k≠g:=by
  rintro k e rfl;rcases hat with e2|e2;exact h.no k e2 e;have:=(h.ro.lt k e).2;omega
 refine⟨aaQ,⟨?_, ?_, ?_,by simpa [Value.ownBlock]using hgb,h.ob, ?_,h.lo,by simp;omega,h.lg⟩, ?_, ?_⟩;rw[heap_setCell_same w1 b 0 _ t _ aaQ];simp;have:=ownsRow_setCell_other hr (a:=⟨b,0,none⟩) (by simpa [Value.ownBlock]using hgb) (.slice (some ⟨g,0,none⟩) (ns.length+1) cap);rw[Z9];simpa using this;exact ownsRow_setCell_other (k2.row h.ro fun k e e2=>h.no k e2 e) (a:=⟨b,0,none⟩) h.ob _;intro k e;simp only[Value.ownBlock,aT]at e;subst e;intro e;exact hng _ e rfl;exact(k2.mono fun k _ e=> .inr (.inl e)).trans (Kp.setCell _ _ _ (.inl rfl));intro k e;rcases e with e|e|e;exact .inl (.inl e);simp only[Value.ownBlock,aT]at e;subst e;rcases hat with e|e;exact .inl (.inr (.inl e));right;omega;exact .inl (.inr (.inr e))
theorem PZ{w:World}{base:Nat}{e:TypeId}{g cap n:Nat}{xs:List Value}(h:w.ownsRow base e 1 (.slice (some ⟨g,0,none⟩) n cap) n xs)(k:Nat)(u:Value):(w.setCell ⟨g,k,none⟩ u).ownsRow base e 1 (.slice (some ⟨g,0,none⟩) n cap) n (xs.set k u):=by
 refine⟨by simpa using h.1, ?_⟩;rcases h.2 with⟨h',_⟩|⟨g',cap',cur,h',hb,hg,hnc,hcm,hcs,htake⟩;simp at h';simp only[aY,aT,eG]at h';obtain⟨⟨rfl,_⟩,_,rfl⟩:=h';refine .inr ⟨g,cap,cur.set! k u,rfl,hb, ?_,hnc,hcm,by simpa using hcs, ?_⟩;rw[heap_setCell_same w g k cur e u hg];simp;simp only[Array.set!_eq_setIfInBounds,Array.toList_setIfInBounds];rw[List.take_set,htake]
theorem GS.cut(h:GS t B w b vn vo ns os){g cap k:Nat}(hv:vo= .slice (some ⟨g,0,none⟩) os.length cap)(x:Bool):
 GS t B (w.setCell ⟨g,k,none⟩ (.bool x)) b vn vo ns (os.set k x)/\Goes b vn vo w vn vo (w.setCell ⟨g,k,none⟩ (.bool x)):=by
 have hgo:vo.ownBlock=some g:=by rw[hv];rfl
 have k1:Kp (fun i=>i=g) w (w.setCell ⟨g,k,none⟩ (.bool x)):=Kp.setCell _ _ _ rfl;have hgb:b≠g:=fun e=>h.ob (e▸hgo);refine⟨{h with obj:=(k1.block b h.lt hgb).trans h.obj,rn:=k1.row h.rn fun i e e2=>h.no i e (e2▸hgo),ro:= ?_,lg:=by simpa using h.lg},k1.mono fun i _ e=> .inr (.inr (e▸hgo)),fun _ e=> .inl e⟩;have hr:=h.ro;rw[hv]at hr|-;have:=PZ hr k (.bool x);simpa [yK,List.map_set]using this
end
theorem gW:(prog.info? 207).map (fun i=>(i.zero,i.size,i.bytes))=some (some (.agg #[.int .i64 0,.int .i64 0,.int .i64 0,.int .i64 0,.int .i64 0,.int .i64 0]),6,48):=by kernel_rfl
theorem BH:(prog.info? 4).map (fun i=>(i.zero,i.size,i.bytes))=some (some (.bool false),1,1):=by kernel_rfl
theorem kL:(prog.info? 3).map (fun i=>(i.zero,i.size,i.bytes))=some (some (.int .i64 0),1,8):=by kernel_rfl
theorem gB:prog.underlying 61=some (.slice 207):=by kernel_rfl
theorem Eo:prog.underlying 62=some (.slice 4):=by kernel_rfl
theorem og:prog.underlying 223=some (.slice 3):=by kernel_rfl
theorem gT(w:World)(l:List Value)(t:TypeId):∀j u,l[j]?=some u->(w.alloc (.cells l.toArray t)).cell? ((⟨w.heap.size,0,none⟩:Addr).add j)=some u:=by
 intro j u hu;rw[Addr.add_lit,cell_of_row _ _ _ _ t (0,0) (ah w _)];simpa using hu
theorem fQ(a:Int)(w:World):
 Calls prog 268 #[.int .i64 a] w fun e w'=>e= .returned (.bool (decide (0<=a/\a<=15)))/\w'=w:=by
 by_cases h0:0<=a
 ·by_cases h1:a<=15
  ·go_enter func268,ntmps268;go_wp2;go_ret;exact⟨by simp[*],rfl⟩
  ·go_enter func268,ntmps268;go_wp2;go_ret;exact⟨by simp[*],rfl⟩
 ·have hd:decide (0<=a)=false:=by simpa using h0
  go_enter func268,ntmps268;go_wp2;go_ret;exact⟨by simp[*],rfl⟩
theorem FH(a:Int)(w:World):
 Calls prog 273 #[.int .i64 a] w fun e w'=>e= .returned (.bool (mV a))/\w'=w:=by
 unfold mV;by_cases h0:0<=a
 ·by_cases h1:a<12
  ·go_enter func273,ntmps273;go_wp2;go_ret;exact⟨by simp[*],rfl⟩
  ·go_enter func273,ntmps273;go_wp2;go_ret;exact⟨by simp[*],rfl⟩
 ·have hd:decide (0<=a)=false:=by simpa using h0
  go_enter func273,ntmps273;go_wp2;go_ret;exact⟨by simp[*],rfl⟩
theorem EI(a b:Nat)(ha:a<=15)(hb:b<=15)(w:World):
 Calls prog 315 #[.int .i64 a,.int .i64 b] w fun e w'=>e= .returned (.int .i64 ((a&&&b:Nat):Int))/\w'=w:=by
 have hE:=hid (Nv a b ha hb);go_enter func315,ntmps315;go_wp2;go_ret;exact⟨by rw[<-hE.out];rfl,rfl⟩
theorem aax(B:Nat)(w:World)(hB:B<=w.heap.size):
 Calls prog 56 #[] w fun e w'=>e= .returned (.pointer (some ⟨w.heap.size,0,none⟩))/\GS 184 B w' w.heap.size (.slice none 0 0) (.slice none 0 0) [] []/\aA w w':=by
 have hw:=hid (GS.new w 184 hB);go_enter func56,ntmps56;go_wp2;go_ret;exact⟨rfl,hw.out,Kp.alloc w _⟩
section
variable{B:Nat}{w:World}{b:Nat}{vn vo:Value}{ns:List Nd}{os:List Bool}
theorem jP(h:GS 184 B w b vn vo ns os)(k:Int):
 Calls prog 226 #[.pointer (some ⟨b,0,none⟩),.int .i64 k] w fun e w'=>e= .returned (.bool (YT os.length k))/\w'=w:=by
 have c1:=h.cell1;obtain⟨ao,cap,rfl⟩:=YU h.ro;clear h;unfold YT;by_cases h0:0<=k
 ·by_cases h1:k<os.length
  ·go_enter func226,ntmps226;go_wp2;go_ret;exact⟨by simp[*],rfl⟩
  ·go_enter func226,ntmps226;go_wp2;go_ret;exact⟨by simp[*],rfl⟩
 ·have hd:decide (0<=k)=false:=by simpa using h0
  go_enter func226,ntmps226;go_wp2;go_ret;exact⟨by simp[*],rfl⟩
theorem oF(h:GS 184 B w b vn vo ns os)(k:Int):
 Calls prog 277 #[.pointer (some ⟨b,0,none⟩),.int .i64 k] w fun e w'=>e= .returned (.bool (YT ns.length k))/\w'=w:=by
 have c1:=h.cell0;obtain⟨ao,cap,rfl⟩:=YU h.rn;clear h;unfold YT;by_cases h0:0<=k
 ·by_cases h1:k<ns.length
  ·go_enter func277,ntmps277;go_wp2;go_ret;exact⟨by simp[*],rfl⟩
  ·go_enter func277,ntmps277;go_wp2;go_ret;exact⟨by simp[*],rfl⟩
 ·have hd:decide (0<=k)=false:=by simpa using h0
  go_enter func277,ntmps277;go_wp2;go_ret;exact⟨by simp[*],rfl⟩
theorem GI(h:GS 184 B w b vn vo ns os)(k:Int):
 Calls prog 314 #[.pointer (some ⟨b,0,none⟩),.int .i64 k] w fun e w'=>e= .returned (.bool (mf os k))/\w'=w:=by
 have c1:=h.cell1;cases ht:YT os.length k with
 |false=>
  have hE:=hid (show mf os k=false by simp[mf,ht]);go_enter func314,ntmps314;go_wp2_with (go_at_call 226;refine(jP h _).mono ?_;rintro e w' ⟨rfl,rfl⟩);go_ret;exact⟨by rw[hE.out];rfl,rfl⟩
 |true=>
  have hE:=hid (show mf os k=os.getD k.toNat false by simp[mf,ht]);obtain⟨j,rfl,hj⟩:=Zg ht;have hro:=h.ro;obtain⟨ao,cap,rfl⟩:=YU hro;obtain⟨g,rfl,d⟩:=Zc hro (by omega);have cj:=Lj d j hj;clear hro d;go_enter func314,ntmps314;go_wp2_with (go_at_call 226;refine(jP h _).mono ?_;rintro e w' ⟨rfl,rfl⟩);go_ret;exact⟨by rw[hE.out];simp[hj],rfl⟩
theorem ab4(h:GS 184 B w b vn vo ns os)(k:Int):
 Calls prog 193 #[.pointer (some ⟨b,0,none⟩),.int .i64 k] w fun e w'=>e= .returned (.int .i64 (dV ns os k).code)/\GS 184 B w' b vn vo (dV ns os k).ns (dV ns os k).os/\Goes b vn vo w vn vo w':=by
 have c1:=h.cell1;cases ht:YT os.length k with
 |false=>
  have hE:=hid (show dV ns os k=⟨0,8,ns,os⟩by simp[dV,ht]);go_enter func193,ntmps193;go_wp2_with (go_at_call 226;refine(jP h _).mono ?_;rintro e w' ⟨rfl,rfl⟩);go_ret;rw[hE.out];exact⟨rfl,h,Goes.refl _ _ _ _⟩
 |true=>
  have hE:=hid (show dV ns os k=⟨0,0,ns,os.set k.toNat false⟩by simp[dV,ht]);obtain⟨j,rfl,hj⟩:=Zg ht;have hro:=h.ro;obtain⟨ao,cap,rfl⟩:=YU hro;obtain⟨g,rfl,d⟩:=Zc hro (by omega);have cj:=Lj d j hj;have fj:=Mv hro j;have hD:=hid (h.cut rfl false (k:=j));clear hro d;go_enter func193,ntmps193;go_wp2_with (go_at_call 226;refine(jP h _).mono ?_;rintro e w' ⟨rfl,rfl⟩);go_ret;rw[hE.out];exact⟨rfl,hD.out.1,hD.out.2⟩
theorem aaU(h:GS 184 B w b vn vo ns os):
 Calls prog 194 #[.pointer (some ⟨b,0,none⟩)] w fun e w'=>e= .returned (.tuple #[.int .i64 (bJ ns os).num,.int .i64 (bJ ns os).code])/\∃Y3,GS 184 B w' b vn Y3 (bJ ns os).ns (bJ ns os).os/\Goes b vn vo w vn Y3 w':=by
 have c1:=h.cell1;have hB:=h.size;obtain⟨i0,hi,hz0,hz1,hz2⟩:=bM BH;by_cases hl:os.length=20
 ·have hE:=hid (show bJ ns os=⟨0,11,ns,os⟩by simp[bJ,hl]);have hro:=h.ro;obtain⟨ao,cap,rfl⟩:=YU hro;rw[hl]at c1;have hq:=hid h;clear h hro;go_enter func194,ntmps194;go_wp2;go_ret2;rw[hE.out];refine⟨rfl,_,hq.out,Goes.refl _ _ _ _⟩
 ·have hE:=hid (show bJ ns os=⟨os.length,0,ns,os++[true]⟩by simp[bJ,hl]);have hlg:=h.lg;have hl2:os.length<20:=by omega
  have hro:=h.ro;obtain⟨ao,cap,hv⟩:=YU hro;subst hv;go_enter func194,ntmps194;go_wp2_with (at_builtin;refine aX _ rfl (.tmp 14) (.tmp 15) 62 rfl B 4 i0 _ 1 1 Eo hi hz0 hz1 hz2 rfl (by decide) _ os.length (yK os) rfl (hro.alloc _) ⟨w.heap.size,0,none⟩ 1 1 [.bool true] rfl rfl (gT w _ 4) (by simp[Value.oneCell']) (by decide) (by unfold maxLen;omega) (by omega) (by simp;omega) (w.heap.size+1) (by simp) ?_;intro g cap2 w1 hr hg hat hlt;have hD0:=GS.aez h hl2 hr hg hat;have cc:w1.cell? ⟨b,1,none⟩=some (.slice ao os.length cap):=(by simp[World.cell?,hD0.1]);have ff:=aG w1 b 1 _ 184 hD0.1;have hD:=hid hD0.2;clear hr hg hat hlt hD0);go_ret2;rw[hE.out];exact⟨by simp,_,hD.out.1,hD.out.2⟩
end
section
variable{B:Nat}{w:World}{b:Nat}{vn vo:Value}{ns:List Nd}{os:List Bool}
theorem NU{n:Nd}(h:decide (0<=n.Y1/\n.Y1<=15)=false):dJ ns os n=⟨0,1,ns,os⟩:=by
 unfold dJ;rw[ag (by simpa using h)]
theorem SS{n:Nd}(h:decide (0<=n.Y1/\n.Y1<=15)=true)(h1:n.gate≠ -1)(h2:YT os.length n.gate=false):dJ ns os n=⟨0,8,ns,os⟩:=by
 have h':0<=n.Y1/\n.Y1<=15:=by simpa using h
 unfold dJ;rw[af (by simpa using h'),ag ⟨h1,h2⟩]
theorem FD{n:Nd}(h:decide (0<=n.Y1/\n.Y1<=15)=true)(h1:n.gate= -1\/YT os.length n.gate=true)(hl:ns.length=80):dJ ns os n=⟨0,11,ns,os⟩:=by
 have h':0<=n.Y1/\n.Y1<=15:=by simpa using h
 unfold dJ;rw[af (by simpa using h'),af (by rintro⟨a,c⟩;rcases h1 with e|e;exact a e;rw[c]at e;cases e),ag hl]
theorem Lb{n:Nd}(h:decide (0<=n.Y1/\n.Y1<=15)=true)(h1:n.gate= -1\/YT os.length n.gate=true)(hl:ns.length≠80):dJ ns os n=⟨ns.length,0,ns++[n],os⟩:=by
 have h':0<=n.Y1/\n.Y1<=15:=by simpa using h
 unfold dJ;rw[af (by simpa using h'),af (by rintro⟨a,c⟩;rcases h1 with e|e;exact a e;rw[c]at e;cases e),af hl]
theorem ZQ{w:World}{x:Nat}{l:List Value}{t:TypeId}(h:w.heap[x]?=some (.cells l.toArray t (0,0))):∀j u,l[j]?=some u->w.cell? ((⟨x,0,none⟩:Addr).add j)=some u:=by
 intro j u hu;rw[Addr.add_lit,cell_of_row _ _ _ _ t (0,0) h];simpa using hu
theorem zC(w:World)(o1 o2:Obj):((w.alloc o1).alloc o2).drew.heap[w.heap.size+1]?=some o2:=by
 have:=ah (w.alloc o1) o2;rw[show(w.alloc o1).heap.size=w.heap.size+1 by simp]at this;exact this
theorem uN(w:World)(o1 o2:Obj):aA w ((w.alloc o1).alloc o2).drew:=((Kp.alloc w o1).trans (Kp.alloc _ o2)).trans (Kp.drew _)
def Iz(t:TypeId)(B b:Nat)(vn vo:Value)(ns:List Nd)(os:List Bool)(n:Nd)(w:World)(e:Ending)(w':World):Prop:=
 e= .returned (.tuple #[.int .i64 (dJ ns os n).num,.int .i64 (dJ ns os n).code])/\∃Y4,GS t B w' b Y4 vo (dJ ns os n).ns (dJ ns os n).os/\Goes b vn vo w Y4 vo w'
theorem xE(h:GS 184 B w b vn vo ns os)(n:Nd):
 Calls prog 272 #[.pointer (some ⟨b,0,none⟩),n.agg] w (Iz 184 B b vn vo ns os n w):=by
 have q1:aA w (w.alloc (.cells n.cells.toArray 207)):=Kp.alloc w _;have h1:=h.quiet q1;have c0:=h1.cell0;obtain⟨i0,hi,hz0,hz1,hz2⟩:=bM gW;obtain⟨np,ng,nr,nc,nl,nf⟩:=n;simp only[Nd.agg,Nd.cells]at*;cases hr:decide (0<=nr/\nr<=15)with
 |false=>
  have hE:=hid (NU (ns:=ns) (os:=os) (n:=⟨np,ng,nr,nc,nl,nf⟩) hr);go_enter func272,ntmps272;go_wp2_with ((go_at_call 268;refine(fQ _ _).mono ?_;rintro e w' ⟨rfl,rfl⟩;rw[hr]));go_ret2;unfold Iz;rw[hE.out];exact⟨rfl,_,h1,Goes.quiet _ _ _ q1⟩
 |true=>
  by_cases hg:ng= -1
  ·subst hg;by_cases hl:ns.length=80
   ·have hE:=hid (FD (ns:=ns) (os:=os) (n:=⟨np, -1,nr,nc,nl,nf⟩) hr (.inl rfl) hl);obtain⟨ao,cap,rfl⟩:=YU h1.rn;rw[hl]at c0;go_enter func272,ntmps272;go_wp2_with (go_at_call 268;refine(fQ _ _).mono ?_;rintro e w' ⟨rfl,rfl⟩;rw[hr]);go_ret2;unfold Iz;rw[hE.out];exact⟨rfl,_,h1,Goes.quiet _ _ _ q1⟩
   ·have hE:=hid (Lb (ns:=ns) (os:=os) (n:=⟨np, -1,nr,nc,nl,nf⟩) hr (.inl rfl) hl);have hl2:ns.length<80:=(by have:=h1.ln;omega);have hrn:=h1.rn;obtain⟨ao,cap,hv⟩:=YU hrn;subst hv;go_enter func272,ntmps272;go_wp2_with (go_at_call 268;refine(fQ _ _).mono ?_;rintro e w' ⟨rfl,rfl⟩;rw[hr]);have c00:=(h1.quiet (Kp.alloc _ (.cells #[.int .i64 np,.int .i64 (-1),.int .i64 nr,.int .i64 nc,.int .i64 nl,.int .i64 nf] 207))).cell0;go_region_law ((refine dM _ (by rfl) _ _ _ (by rfl) B 207 i0 _ 6 48 gB hi hz0 hz1 hz2 rfl (by omega) (.slice ao ns.length cap) ns.length (fI ns) (by rfl) ((hrn.alloc _).drew) ⟨w.heap.size+1,0,none⟩ 1 1 [.int .i64 np,.int .i64 (-1),.int .i64 nr,.int .i64 nc,.int .i64 nl,.int .i64 nf] (by rfl) (by rfl) (ZQ (t:=207) (zC w _ _)) (abj ⟨np, -1,nr,nc,nl,nf⟩) (by omega) (by unfold maxLen;omega) (by omega) (by have:=h.size;simp;omega) (w.heap.size+2) (by simp) ?_;intro gg cap2 w1 hown1 hgrow hat hlt;have hD0:=GS.added (n:=⟨np, -1,nr,nc,nl,nf⟩) h hl2 (uN w _ _) hown1 hgrow hat (by omega);have cc:w1.cell? ⟨b,0,none⟩=some (.slice ao ns.length cap):=(by simp[World.cell?,hD0.1]);have ff:=aG w1 b 0 _ 184 hD0.1;have hD:=hid hD0.2;clear hown1 hgrow hat hlt hD0));all_goals(go_wp2;go_ret2;unfold Iz;rw[hE.out];exact⟨by simp,_,hD.out.1,hD.out.2⟩)
  ·have hgd:decide (ng= -1)=false:=(by simpa using hg);cases ht:YT os.length ng with
   |false=>
    have hE:=hid (SS (ns:=ns) (os:=os) (n:=⟨np,ng,nr,nc,nl,nf⟩) hr hg ht);go_enter func272,ntmps272;go_wp2_with (first|(go_at_call 268;refine(fQ _ _).mono ?_;rintro e w' ⟨rfl,rfl⟩;rw[hr])|(go_at_call 226;refine(jP h1 _).mono ?_;rintro e w' ⟨rfl,rfl⟩;rw[ht]));go_ret2;unfold Iz;rw[hE.out];exact⟨rfl,_,h1,Goes.quiet _ _ _ q1⟩
   |true=>
    by_cases hl:ns.length=80
    ·have hE:=hid (FD (ns:=ns) (os:=os) (n:=⟨np,ng,nr,nc,nl,nf⟩) hr (.inr ht) hl);obtain⟨ao,cap,rfl⟩:=YU h1.rn;rw[hl]at c0;go_enter func272,ntmps272;go_wp2_with (first|(go_at_call 268;refine(fQ _ _).mono ?_;rintro e w' ⟨rfl,rfl⟩;rw[hr])|(go_at_call 226;refine(jP h1 _).mono ?_;rintro e w' ⟨rfl,rfl⟩;rw[ht]));go_ret2;unfold Iz;rw[hE.out];exact⟨rfl,_,h1,Goes.quiet _ _ _ q1⟩
    ·have hE:=hid (Lb (ns:=ns) (os:=os) (n:=⟨np,ng,nr,nc,nl,nf⟩) hr (.inr ht) hl);have hl2:ns.length<80:=(by have:=h1.ln;omega);have hrn:=h1.rn;obtain⟨ao,cap,hv⟩:=YU hrn;subst hv;go_enter func272,ntmps272;go_wp2_with (first|(go_at_call 268;refine(fQ _ _).mono ?_;rintro e w' ⟨rfl,rfl⟩;rw[hr])|(go_at_call 226;refine(jP h1 _).mono ?_;rintro e w' ⟨rfl,rfl⟩;rw[ht]));have c00:=(h1.quiet (Kp.alloc _ (.cells #[.int .i64 np,.int .i64 ng,.int .i64 nr,.int .i64 nc,.int .i64 nl,.int .i64 nf] 207))).cell0;go_region_law ((refine dM _ (by rfl) _ _ _ (by rfl) B 207 i0 _ 6 48 gB hi hz0 hz1 hz2 rfl (by omega) (.slice ao ns.length cap) ns.length (fI ns) (by rfl) ((hrn.alloc _).drew) ⟨w.heap.size+1,0,none⟩ 1 1 [.int .i64 np,.int .i64 ng,.int .i64 nr,.int .i64 nc,.int .i64 nl,.int .i64 nf] (by rfl) (by rfl) (ZQ (t:=207) (zC w _ _)) (abj ⟨np,ng,nr,nc,nl,nf⟩) (by omega) (by unfold maxLen;omega) (by omega) (by have:=h.size;simp;omega) (w.heap.size+2) (by simp) ?_;intro gg cap2 w1 hown1 hgrow hat hlt;have hD0:=GS.added (n:=⟨np,ng,nr,nc,nl,nf⟩) h hl2 (uN w _ _) hown1 hgrow hat (by omega);have cc:w1.cell? ⟨b,0,none⟩=some (.slice ao ns.length cap):=(by simp[World.cell?,hD0.1]);have ff:=aG w1 b 0 _ 184 hD0.1;have hD:=hid hD0.2;clear hown1 hgrow hat hlt hD0));all_goals(go_wp2;go_ret2;unfold Iz;rw[hE.out];exact⟨by simp,_,hD.out.1,hD.out.2⟩)
end
section
variable{B:Nat}{w:World}{b:Nat}{vn vo:Value}{ns:List Nd}{os:List Bool}
end
def ZL(t:TypeId)(B b:Nat)(vn vo:Value)(R:ZH)(w:World)(e:Ending)(w':World):Prop:=
 e= .returned (.tuple #[.int .i64 R.num,.int .i64 R.code])/\∃Y4 Y3,GS t B w' b Y4 Y3 R.ns R.os/\Goes b vn vo w Y4 Y3 w'
section
variable{B:Nat}{w:World}{b:Nat}{vn vo:Value}{ns:List Nd}{os:List Bool}
theorem acF(h:GS 184 B w b vn vo ns os)(c r g:Int):
 Calls prog 252 #[.pointer (some ⟨b,0,none⟩),.int .i64 c,.int .i64 r,.int .i64 g] w (ZL 184 B b vn vo (fO ns os c r g) w):=by
 cases hc:mV c with
 |false=>
  have hE:=hid (show fO ns os c r g=⟨0,1,ns,os⟩by simp[fO,hc]);go_enter func252,ntmps252;go_wp2_with (go_at_call 273;refine(FH _ _).mono ?_;rintro e w' ⟨rfl,rfl⟩;rw[hc]);go_ret2;unfold ZL;rw[hE.out];exact⟨rfl,_,_,h,Goes.refl _ _ _ _⟩
 |true=>
  have hE:=hid (show fO ns os c r g=dJ ns os ⟨-1,g,r,c, -1,0⟩by simp[fO,hc]);go_enter func252,ntmps252;go_wp2_with (first|(go_at_call 273;refine(FH _ _).mono ?_;rintro e w' ⟨rfl,rfl⟩;rw[hc])|(go_at_call 272;refine(xE h ⟨-1,g,r,c, -1,0⟩).mono ?_;rintro e w1 ⟨rfl,Y4,h1,g1⟩;have HD:=bC h1 g1;clear h1 g1));go_ret2;unfold ZL;rw[hE.out];exact⟨rfl,_,_,HD.out.1,HD.out.2⟩
theorem acG(h:GS 184 B w b vn vo ns os)(p f r g:Int):
 Calls prog 251 #[.pointer (some ⟨b,0,none⟩),.int .i64 p,.int .i64 f,.int .i64 r,.int .i64 g] w (ZL 184 B b vn vo (funcOf ns os p f r g) w):=by
 cases hc:Zx p f with
 |false=>
  have hE:=hid (show funcOf ns os p f r g=⟨0,1,ns,os⟩by simp[funcOf,hc]);by_cases h0:p<0
  ·have d0:decide (p<0)=true:=(by simpa using h0);go_enter func251,ntmps251;go_wp2;go_ret2;unfold ZL;rw[hE.out];exact⟨rfl,_,_,h,Goes.refl _ _ _ _⟩
  ·have d0:decide (p<0)=false:=(by simpa using h0);by_cases h1:4<=p
   ·have d1:decide (4<=p)=true:=(by simpa using h1);go_enter func251,ntmps251;go_wp2;go_ret2;unfold ZL;rw[hE.out];exact⟨rfl,_,_,h,Goes.refl _ _ _ _⟩
   ·have d1:decide (4<=p)=false:=(by simpa using h1);by_cases h2:f<0
    ·have d2:decide (f<0)=true:=(by simpa using h2);go_enter func251,ntmps251;go_wp2;go_ret2;unfold ZL;rw[hE.out];exact⟨rfl,_,_,h,Goes.refl _ _ _ _⟩
    ·have d2:decide (f<0)=false:=(by simpa using h2);have h3:6<=f:=(by simp[Zx]at hc;omega);have d3:decide (6<=f)=true:=(by simpa using h3);go_enter func251,ntmps251;go_wp2;go_ret2;unfold ZL;rw[hE.out];exact⟨rfl,_,_,h,Goes.refl _ _ _ _⟩
 |true=>
  have hE:=hid (show funcOf ns os p f r g=dJ ns os ⟨-1,g,r,0,p,f⟩by simp[funcOf,hc]);have d0:decide (p<0)=false:=by simp[Zx]at hc;simp;omega
  have d1:decide (4<=p)=false:=by simp[Zx]at hc;simp;omega
  have d2:decide (f<0)=false:=by simp[Zx]at hc;simp;omega
  have d3:decide (6<=f)=false:=by simp[Zx]at hc;simp;omega
  go_enter func251,ntmps251;go_wp2_with (go_at_call 272;refine(xE h ⟨-1,g,r,0,p,f⟩).mono ?_;rintro e w1 ⟨rfl,Y4,h1,g1⟩;have HD:=bC h1 g1;clear h1 g1);go_ret2;unfold ZL;rw[hE.out];exact⟨rfl,_,_,HD.out.1,HD.out.2⟩
theorem aaV(h:GS 184 B w b vn vo ns os)(p r g:Int):
 Calls prog 306 #[.pointer (some ⟨b,0,none⟩),.int .i64 p,.int .i64 r,.int .i64 g] w (ZL 184 B b vn vo (aS ns os p r g) w):=by
 cases hc:YT ns.length p with
 |false=>
  have hE:=hid (show aS ns os p r g=⟨0,8,ns,os⟩by simp[aS,hc]);go_enter func306,ntmps306;go_wp2_with (go_at_call 277;refine(oF h _).mono ?_;rintro e w' ⟨rfl,rfl⟩;rw[hc]);go_ret2;unfold ZL;rw[hE.out];exact⟨rfl,_,_,h,Goes.refl _ _ _ _⟩
 |true=>
  have hE:=hid (show aS ns os p r g=dJ ns os ⟨p,g,r,0, -1,0⟩by simp[aS,hc]);go_enter func306,ntmps306;go_wp2_with (first|(go_at_call 277;refine(oF h _).mono ?_;rintro e w' ⟨rfl,rfl⟩;rw[hc])|(go_at_call 272;refine(xE h ⟨p,g,r,0, -1,0⟩).mono ?_;rintro e w1 ⟨rfl,Y4,h1,g1⟩;have HD:=bC h1 g1;clear h1 g1));go_ret2;unfold ZL;rw[hE.out];exact⟨rfl,_,_,HD.out.1,HD.out.2⟩
end
