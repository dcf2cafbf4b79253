/- Parts. -/
import Derived.Test.YtpeakfcbihoknaaGreatDoorUV6
open Go.ChangeShapes Go.WideShapes Go.ChangeAt Go.RowKit
namespace Go.Proofs.YtpeakfcbihoknaaGreatDoor
structure YQ(w:World)(xs:List Sx)(sa ea:Option Addr)(tr:List (Sp×Int)):Prop where
 st:Uo w xs sa
 le:tr.length<=xs.length
 same:∀i (h:i<tr.length) (h2:i<xs.length),∃c,tr[i].1=(xs[i]).sp c
 ev:∀i (h:i<tr.length),∃g,ea=some ⟨g,0,none⟩/\w.cell? ⟨g,i*5,none⟩=some (.int .i64 tr[i].2)
theorem VE{w:World}{g:Nat}{a b c d e f k l m:Value}{t:TypeId}(h:w.heap[g]?=some (.cells #[a,b,c,d,e,f,k,l,m] t (0,0))):w.cell? ⟨g,0,none⟩=some a/\w.cell? ⟨g,1,none⟩=some b/\w.cell? ⟨g,2,none⟩=some c/\w.cell? ⟨g,3,none⟩=some d/\w.cell? ⟨g,4,none⟩=some e/\w.cell? ⟨g,5,none⟩=some f/\w.cell? ⟨g,6,none⟩=some k/\w.cell? ⟨g,7,none⟩=some l/\w.cell? ⟨g,8,none⟩=some m:=by
 refine⟨?_, ?_, ?_, ?_, ?_, ?_, ?_, ?_, ?_⟩<;>simp[World.cell?,h]
def yK(S:List Bool):List Value:=S.map Value.bool
def JB(bit:Nat):Int:=if bit=0 then 1 else 2
def hw1:Hs:=(dL h00 ⟨2,1,0,3,0,1, -1,0,0,[]⟩).2
section
variable{T:WT}{p:T.P}{q:T.Q}{w:World}
end
theorem qo{w:World}{g:Nat}{a b:Value}{t:TypeId}(h:w.heap[g]?=some (.cells #[a,b] t (0,0))):w.cell? ⟨g,0,none⟩=some a/\w.cell? ⟨g,1,none⟩=some b:=by
 refine⟨?_, ?_⟩<;>simp[World.cell?,h]
def Ye(x:Int×Int×Kd):List Value:=[.int .i64 x.1,.int .i64 x.2.1]++Zv x.2.2
def evC(l:List (Int×Int×Kd)):List Value:=l.flatMap Ye
theorem Xp(x:Int×Int×Kd):(Ye x).length=5:=rfl
def XW(v:Value)(k:Nat):Prop:=v.ownBlock=some k
structure GvS(T:WT)(W:World)(xs:List Sx)(p:T.P)(q:T.Q)(h:Hs)(tr:List (Sp×Int))(ea:Option Addr)(ec:Nat)(evs:List (Int×Int×Kd))(w:World):Prop where
 s:T.S (XW (.slice ea evs.length ec)) p q h tr w
 low:Below W.heap.size W w
 hB:W.heap.size<=(T.hx p).B
 trs:TrS tr h
 len:tr.length=evs.length
 codes:∀i (h1:i<tr.length) (h2:i<evs.length),evs[i].1=tr[i].2
 same:∀i (h1:i<tr.length) (h2:i<xs.length),∃c,tr[i].1=(xs[i]).sp c
 row:w.ownsRow W.heap.size 133 5 (.slice ea evs.length ec) evs.length (evC evs)
section
variable{T:WT}{W w w3 w6:World}{xs:List Sx}{p:T.P}{q q3:T.Q}{h h3:Hs}{tr:List (Sp×Int)}{ea:Option Addr}{ec:Nat}{evs:List (Int×Int×Kd)}
structure GvM(T:WT)(W:World)(xs:List Sx)(p:T.P)(q:T.Q)(h:Hs)(tr:List (Sp×Int))(ea:Option Addr)(ec:Nat)(evs:List (Int×Int×Kd))(y:Sp×Int)(w:World):Prop where
 s:T.S (XW (.slice ea evs.length ec)) p q h (tr++[y]) w
 low:Below W.heap.size W w
 row:w.ownsRow W.heap.size 133 5 (.slice ea evs.length ec) evs.length (evC evs)
end
theorem LB{w:World}{B:Nat}{v:Value}{es:List Wo.ZI}(h:w.ownsRow B 101 4 v es.length (Wo.Ze es))(k:Nat)(hk:k<es.length):∃g cap,v= .slice (some ⟨g,0,none⟩) es.length cap/\w.cell? ⟨g,k*4,none⟩=some (.int .i64 es[k].plugin)/\w.cell? ⟨g,k*4+1,none⟩=some (.int .i64 es[k].cell)/\w.cell? ⟨g,k*4+2,none⟩=some (.int .i64 es[k].right)/\w.cell? ⟨g,k*4+3,none⟩=some (.int .i64 es[k].node):=by
 obtain⟨ao,cap,rfl⟩:=Gr.YU h;obtain⟨g,rfl,hc⟩:=Gr.Zc h (by omega);have key:∀j,j<4->w.cell? ⟨g,k*4+j,none⟩=(es[k]).cells[j]?:=fun j hj=>by rw[hc _ (by omega),Wo.abB es k j hk hj]
 exact⟨g,cap,rfl,key 0 (by decide),key 1 (by decide),key 2 (by decide),key 3 (by decide)⟩
theorem Ot{tr:List (Sp×Int)}(ht:oI tr){h:Hs}(hi:kI (Giv (Gvn tr)) h)(x:Sp):∃new,(dL h x).2.s.es=h.s.es++new/\∀e∈new,bY e.plugin=true/\∃bit:Nat,bit<=1/\e.right=JB bit/\D8 tr e.plugin e.cell bit=true/\Gr.YT (dL h x).2.s.ns.length e.node=true/\(Gr.YS (dL h x).2.s.ns e.node).plugin<0/\(Gr.YS (dL h x).2.s.ns e.node).cell=e.cell/\∀n∈Gr.Y0 (dL h x).2.s.ns e.node,n.Y1.toNat.testBit bit=true:=by
 obtain⟨new,e1,g⟩:=F4 ht hi x;refine⟨new,e1,fun e he=>⟨(g e he).1, ?_⟩⟩;have hw:=(rA hi x).1.gs.wf;obtain⟨bit,b1,b2,b3⟩:=Vv hw (g e he);refine⟨bit,by omega, ?_,Dh ht (g e he).1 b2,b3⟩;unfold JB;rcases b1 with⟨b1,b4⟩|⟨b1,b4⟩;rw[ag b4];exact b1;rw[af (by omega)];exact b1
theorem Re{w:World}{g:Nat}{x0 x1 x2 x3 x4 x5:Value}{t:TypeId}(h:w.heap[g]?=some (.cells #[x0,x1,x2,x3,x4,x5] t (0,0)))(t0 t1 t2 t3 t4 t5:Value):((((((w.setCell ⟨g,0,none⟩ t0).setCell ⟨g,1,none⟩ t1).setCell ⟨g,2,none⟩ t2).setCell ⟨g,3,none⟩ t3).setCell ⟨g,4,none⟩ t4).setCell ⟨g,5,none⟩ t5).heap[g]?=some (.cells #[t0,t1,t2,t3,t4,t5] t (0,0)):=by
 simp[World.setCell,aR,h]
theorem Vn(w:World)(x:Nat)(a b c d e f:Value):Kp (fun k=>k=x) w ((((((w.setCell ⟨x,0,none⟩ a).setCell ⟨x,1,none⟩ b).setCell ⟨x,2,none⟩ c).setCell ⟨x,3,none⟩ d).setCell ⟨x,4,none⟩ e).setCell ⟨x,5,none⟩ f):=(((((bF w x 0 a).trans (bF _ x 1 b)).trans (bF _ x 2 c)).trans (bF _ x 3 d)).trans (bF _ x 4 e)).trans (bF _ x 5 f)
theorem uL{w:World}{g:Nat}{a b c d e f:Value}{t:TypeId}(h:w.heap[g]?=some (.cells #[a,b,c,d,e,f] t (0,0))):(w.cell? ⟨g,0,none⟩=some a/\w.cell? ⟨g,1,none⟩=some b/\w.cell? ⟨g,2,none⟩=some c/\w.cell? ⟨g,3,none⟩=some d/\w.cell? ⟨g,4,none⟩=some e/\w.cell? ⟨g,5,none⟩=some f)/\w.frozen? ⟨g,0,none⟩=false/\w.frozen? ⟨g,1,none⟩=false/\w.frozen? ⟨g,2,none⟩=false/\w.frozen? ⟨g,3,none⟩=false/\w.frozen? ⟨g,4,none⟩=false/\w.frozen? ⟨g,5,none⟩=false:=by
 refine⟨⟨?_, ?_, ?_, ?_, ?_, ?_⟩,aG w g 0 _ t h,aG w g 1 _ t h,aG w g 2 _ t h,aG w g 3 _ t h,aG w g 4 _ t h,aG w g 5 _ t h⟩<;>simp[World.cell?,h]
