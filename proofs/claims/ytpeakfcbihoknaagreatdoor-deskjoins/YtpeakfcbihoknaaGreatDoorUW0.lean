/- Parts. -/
import Derived.Test.YtpeakfcbihoknaaGreatDoorUV0
open Go.ChangeShapes Go.WideShapes Go.ChangeAt Go.RowKit
set_option maxRecDepth 8000
set_option maxHeartbeats 1000000
namespace Go.Proofs.YtpeakfcbihoknaaGreatDoor
open Proofs.Tryz
namespace Wo
def G6(w:World)(v v':Value):Prop:=v'.ownBlock=v.ownBlock\/∀k,v'.ownBlock=some k->w.heap.size<=k
theorem ze{P:Program}(w:World)(base:Nat)(t ty e:TypeId)(i:TypeInfo)(z:Value)(size bytes:Nat)(ht:P.underlying t=some (.slice e))(hi:P.info? e=some i)(hz:i.zero=some z)
 (hsize:i.size=size) (hby:i.bytes=bytes) (hzs:z.cells.size=size) (hsz:0<size)
 (v:Value) (n:Nat) (xs:List Value) (hown:w.ownsRow base e size v n xs)
 (a:Addr) (m c:Nat) (news:List Value) (hl:news.length=m*size) (hnews:∀j u,news[j]?=some u->w.cell? (a.add j)=some u) (h1:∀u∈news,u.oneCell'=true)
 (h63:n+m<=maxLen) (hbytes:(n+m)*bytes<=140737488355328) (hbase:base<=w.heap.size):
 ∃v' w',(Builtin.append_ #[t,t] ty #[v,.slice (some a) m c]).run P w= .ok v' w'/\w'.ownsRow base e size v' (n+m) (xs++news)/\w.grownBy w' v.ownBlock/\G6 w v v':=by
 rcases hown.2 with⟨rfl,rfl⟩|⟨g,cap,cur,rfl,hbg,hg,hnc,hcm,hcs,htake⟩;obtain rfl:xs=[]:=bB (by simpa using hown.1);obtain⟨v',w',hr,h2,h3,_⟩:=run_append_own (P:=P) w w.heap.size t ty e i z size bytes ht hi hz hsize hby hzs hsz (.slice none 0 0) 0 [] (bq w _ e size) a m c news hl hnews h1 h63 hbytes (aj _);exact⟨v',w',hr,gL h2 hbase,h3,.inr fun k hk=>(h2.lt k hk).1⟩;by_cases hroom:n+m<=cap;obtain⟨w',hr,h2,h3⟩:=run_append_fits (P:=P) w base t ty e i size ht hi hsize g n cap xs hown a m c news hl hnews h1 hroom;exact⟨_,w',hr,h2,h3,.inl rfl⟩;obtain⟨v',w',hr,h2,h3⟩:=run_append_arg_grows (P:=P) w t ty e i z size bytes ht hi hz hsize hby hzs hsz ⟨g,0,none⟩ n cap xs hown.1 (hown.cells (g:=g) rfl) a m c news hl hnews (by omega) h63 hbytes;exact⟨v',w',hr,gL h2 hbase,⟨h3.os,h3.tape,h3.output,h3.size,fun k hk _=>h3.block k hk (by simp)⟩,.inr fun k hk=>(h2.lt k hk).1⟩
theorem vT{P:Program}(w:World){ops:Array Oper}{rest:List Oper}{o:Oper}{a:Act}{Q:Exit->Act->World->Prop}(hgd:o.guard=none)(s x:Operand)(t:TypeId)
 (ho:o.op= .call {callee:= .builtin .append,args:= #[s,x],argTypes:= #[t,t]})
 (base:Nat) (e:TypeId) (i:TypeInfo) (z:Value) (size bytes:Nat) (ht:P.underlying t=some (.slice e)) (hi:P.info? e=some i) (hz:i.zero=some z)
 (hsize:i.size=size) (hby:i.bytes=bytes) (hzs:z.cells.size=size) (hsz:0<size)
 (v:Value) (n:Nat) (xs:List Value) (hs:a.eval s=v) (hown:w.ownsRow base e size v n xs)
 (ad:Addr) (m c:Nat) (news:List Value) (hx:a.eval x= .slice (some ad) m c) (hl:news.length=m*size) (hnews:∀j u,news[j]?=some u->w.cell? (ad.add j)=some u) (h1:∀u∈news,u.oneCell'=true)
 (h63:n+m<=maxLen) (hbytes:(n+m)*bytes<=140737488355328) (hbase:base<=w.heap.size)
 (h:∀v' w',w'.ownsRow base e size v' (n+m) (xs++news)->w.grownBy w' v.ownBlock->G6 w v v'->wpList P ops Q rest (a.put o.dst v') w'):wpList P ops Q (o::rest) a w:=by
 refine wpList_plain hgd fun K hK=> ?_;obtain⟨v',w',hr,h2,h3,h4⟩:=ze (P:=P) w base t o.type e i z size bytes ht hi hz hsize hby hzs hsz v n xs hown ad m c news hl hnews h1 h63 hbytes hbase;unfold Oper.wp execOp;simp only[ho,resolve,invoke,builtin,Sem.run_bind,Sem.run_pure,Result.andThen_ok,List.map_toArray,dz,List.map_nil,hs,hx,hr];exact hK _ _ (h v' w' h2 h3 h4)
structure ZI where
 plugin:Int
 cell:Int
 right:Int
 node:Int
def ZI.cells(e:ZI):List Value:=[.int .i64 e.plugin,.int .i64 e.cell,.int .i64 e.right,.int .i64 e.node]
def Ze(es:List ZI):List Value:=es.flatMap ZI.cells
theorem BS(es:List ZI)(e:ZI):Ze (es++[e])=Ze es++e.cells:=by simp[Ze]
theorem En(es:List ZI):(Ze es).length=es.length*4:=by
 induction es with
 |nil=>rfl
 |cons e es ih=>simp only[Ze,cB,ak,aL]at ih|-;rw[ih];simp[ZI.cells];omega
theorem abB(es:List ZI)(k j:Nat)(hk:k<es.length)(hj:j<4):(Ze es)[k*4+j]?=(es[k]).cells[j]?:=by
 induction es generalizing k with
 |nil=>simp at hk
 |cons e es ih=>
  cases k with
  |zero=>simp only[Ze,cB];rw[dP (by simp[ZI.cells];omega)];simp
  |succ k=>
   simp only[Ze,cB];rw[bX (by simp[ZI.cells];omega)];have:=ih k (by simpa using hk);simp only[Ze]at this;rw[show(k+1)*4+j-e.cells.length=k*4+j by simp[ZI.cells];omega,this];simp
theorem wQ(es:List ZI):∀u∈Ze es,u.oneCell'=true:=by
 intro u hu;simp only[Ze,List.mem_flatMap]at hu;obtain⟨e,_,he⟩:=hu;simp only[ZI.cells,aU,dN,or_false]at he;rcases he with rfl|rfl|rfl|rfl<;>rfl
structure rO(w:World)(b:Nat)(cs:List Int)(v:Value):Prop where
 len:cs.length=12
 block:w.heap[b]?=some (.cells ((cs.map (Value.int .i64))++[v]).toArray 187 (0,0))
theorem rO.cell{w:World}{b:Nat}{cs:List Int}{v:Value}(h:rO w b cs v)(j:Nat)(hj:j<12):w.cell? ⟨b,j,none⟩=some (.int .i64 (cs.getD j 0)):=by
 have hl:=h.len;simp only[World.cell?,h.block];simp[List.getElem?_append,hl,hj]
theorem rO.log{w:World}{b:Nat}{cs:List Int}{v:Value}(h:rO w b cs v):w.cell? ⟨b,12,none⟩=some v:=by
 have hl:=h.len;simp only[World.cell?,h.block];simp[hl]
theorem rO.free{w:World}{b:Nat}{cs:List Int}{v:Value}(h:rO w b cs v)(j:Nat):w.frozen? ⟨b,j,none⟩=false:=aG w b j _ 187 h.block
theorem rO.lt{w:World}{b:Nat}{cs:List Int}{v:Value}(h:rO w b cs v):b<w.heap.size:=ae h.block
theorem rO.adP{w:World}{b:Nat}{cs:List Int}{v:Value}(h:rO w b cs v)(u:Value):rO (w.setCell ⟨b,12,none⟩ u) b cs u:=by
 refine⟨h.len, ?_⟩;have hl:=h.len;rw[heap_setCell_same w b 12 _ 187 u h.block];congr 2;apply Array.ext';simp[hl]
theorem rO.setAt{w:World}{b:Nat}{cs:List Int}{v:Value}(h:rO w b cs v)(j:Nat)(hj:j<12)(x:Int):rO (w.setCell ⟨b,j,none⟩ (.int .i64 x)) b (cs.set j x) v:=by
 have hl:=h.len;refine⟨by simp[hl], ?_⟩;rw[heap_setCell_same w b j _ 187 _ h.block];congr 2;apply Array.ext';simp[hl,hj,List.map_set]
theorem rO.kept{w w':World}{b:Nat}{cs:List Int}{v:Value}{F:Nat->Prop}(h:rO w b cs v)(hk:Kp F w w')(hF:¬F b):rO w' b cs v:=
 ⟨h.len,(hk.block b h.lt hF).trans h.block⟩
structure WS(B:Nat)(w:World)(b:Nat)(cs:List Int)(v:Value)(es:List ZI):Prop where
 obj:rO w b cs v
 row:w.ownsRow B 101 4 v es.length (Ze es)
 ne:v.ownBlock≠some b
 lo:B<=b
def Own(b:Nat)(v:Value)(k:Nat):Prop:=k=b\/v.ownBlock=some k
theorem WS.kept{B:Nat}{w w':World}{b:Nat}{cs:List Int}{v:Value}{es:List ZI}{F:Nat->Prop}(h:WS B w b cs v es)(hk:Kp F w w')(hF:∀k,Own b v k->¬F k):WS B w' b cs v es:=
 ⟨h.obj.kept hk (hF b (.inl rfl)),hk.row h.row (fun k e=>hF k (.inr e)),h.ne,h.lo⟩
theorem WS.acL{B:Nat}{w:World}{b:Nat}{cs:List Int}{v:Value}{es:List ZI}(h:WS B w b cs v es)(k:Nat)(hk:Own b v k):B<=k/\k<w.heap.size:=by
 rcases hk with rfl|e;exact⟨h.lo,h.obj.lt⟩;exact h.row.lt k e
structure Goes(b:Nat)(v:Value)(w:World)(v':Value)(w':World):Prop where
 kp:Kp (Own b v) w w'
 near:G6 w v v'
theorem Goes.own{b:Nat}{v v':Value}{w w':World}(h:Goes b v w v' w')(k:Nat)(hk:Own b v' k):Own b v k\/w.heap.size<=k:=by
 rcases hk with rfl|e;exact .inl (.inl rfl);rcases h.near with hn|hn;exact .inl (.inr (hn▸e));exact .inr (hn k e)
def hasB(c:Int):Bool:=decide (0<=c/\c<12)
theorem jP(c:Int)(w:World):
 Calls prog 273 #[.int .i64 c] w fun e w'=>e= .returned (.bool (hasB c))/\w'=w:=by
 unfold hasB;by_cases h0:0<=c
 ·by_cases h1:c<12
  ·go_enter func273,ntmps273;go_wp2;go_ret;exact⟨by simp[*],rfl⟩
  ·go_enter func273,ntmps273;go_wp2;go_ret;exact⟨by simp[*],rfl⟩
 ·have hd:decide (0<=c)=false:=by simpa using h0
  go_enter func273,ntmps273;go_wp2;go_ret;exact⟨by simp[*],rfl⟩
def zeros:List Int:=[0,0,0,0,0,0,0,0,0,0,0,0]
theorem aax(B:Nat)(w:World)(hB:B<=w.heap.size):
 Calls prog 57 #[] w fun e w'=>e= .returned (.pointer (some ⟨w.heap.size,0,none⟩))/\WS B w' w.heap.size zeros (.slice none 0 0) []/\Kp (fun _=>False) w w':=by
 have hw:=hid (show WS B (w.alloc (.cells ((zeros.map (Value.int .i64))++[Value.slice none 0 0]).toArray 187)) w.heap.size zeros (.slice none 0 0) []from
  ⟨⟨rfl,ah w _⟩,bq _ _ _ _,by simp[Value.ownBlock],hB⟩)
 go_enter func57,ntmps57;go_wp2;go_ret;exact⟨rfl,hw.out,Kp.alloc w _⟩
theorem sw:(prog.info? 101).map (fun i=>(i.zero,i.size,i.bytes))=some (some (.agg #[.int .i64 0,.int .i64 0,.int .i64 0,.int .i64 0]),4,32):=by kernel_rfl
theorem jW:prog.underlying 66=some (.slice 101):=by kernel_rfl
theorem YU{w:World}{base:Nat}{e:TypeId}{size:Nat}{v:Value}{n:Nat}{xs:List Value}(h:w.ownsRow base e size v n xs):∃ao cap,v= .slice ao n cap:=by
 rcases h.2 with⟨rfl,rfl⟩|⟨g,cap,cur,rfl,_⟩;exact⟨none,0,rfl⟩;exact⟨_,cap,rfl⟩
theorem gT(w:World)(l:List Value)(t:TypeId):∀j u,l[j]?=some u->(w.alloc (.cells l.toArray t)).cell? ((⟨w.heap.size,0,none⟩:Addr).add j)=some u:=by
 intro j u hu;rw[Addr.add_lit,cell_of_row _ _ _ _ t (0,0) (ah w _)];simpa using hu
theorem AA{w:World}{o:Obj}{v v':Value}(h:G6 (w.alloc o) v v'):G6 w v v':=by
 rcases h with h|h;exact .inl h;exact .inr fun k hk=>by have:=h k hk;simp at this;omega
theorem Cs{B:Nat}{w w1:World}{b:Nat}{cs:List Int}{v v':Value}{es:List ZI}{o:Obj}(h:WS B w b cs v es)(hg:(w.alloc o).grownBy w1 v.ownBlock):
 rO w1 b cs v/\Kp (Own b v) w w1/\(G6 (w.alloc o) v v'->G6 w v v'/\v'.ownBlock≠some b):=by
 have k1:Kp (Own b v) w w1:=(Kp.alloc w o).trans (Kp.grown hg fun k _ e=> .inr e.symm);have k2:Kp (fun k=>v.ownBlock=some k) w w1:=(Kp.alloc w o).trans (Kp.grown hg fun k _ e=>e.symm);refine⟨h.obj.kept k2 h.ne,k1,fun hn=>⟨AA hn,fun e=> ?_⟩⟩;rcases AA hn with hn|hn;exact h.ne (hn▸e);have:=hn b e;have:=h.obj.lt;omega
theorem IC{B:Nat}{w w1:World}{b:Nat}{cs:List Int}{v v':Value}{es:List ZI}{e:ZI}{o:Obj}(h:WS B w b cs v es)(hg:(w.alloc o).grownBy w1 v.ownBlock)
 (hr:w1.ownsRow B 101 4 v' (es.length+1) (Ze es++e.cells)) (hn:G6 (w.alloc o) v v'):
 WS B (w1.setCell ⟨b,12,none⟩ v') b cs v' (es++[e])/\Goes b v w v' (w1.setCell ⟨b,12,none⟩ v'):=by
 obtain⟨h1,h2,h3⟩:=Cs (v':=v') h hg;obtain⟨h3,h4⟩:=h3 hn;refine⟨⟨h1.adP v', ?_,h4,h.lo⟩,h2.trans (Kp.setCell _ _ _ (.inl rfl)),h3⟩;have:=ownsRow_setCell_other hr (a:=⟨b,12,none⟩) h4 v';rw[BS];simpa using this
theorem Ck(B:Nat)(w:World)(b:Nat)(cs:List Int)(v:Value)(es:List ZI)(h:WS B w b cs v es)(hn:es.length<=1000000)(p c r n:Int):
 Calls prog 311 #[.pointer (some ⟨b,0,none⟩),.int .i64 p,.int .i64 c,.int .i64 r,.int .i64 n] w fun e w'=>
  e= .returned (.tuple #[])/\∃v',WS B w' b cs v' (es++[⟨p,c,r,n⟩])/\Goes b v w v' w':=by
 have hl:=h.obj.log;have hB:B<=w.heap.size:=by have:=h.obj.lt;have:=h.lo;omega
 obtain⟨i0,hi,hz0,hz1,hz2⟩:=bM sw;go_enter func311,ntmps311;go_wp2_with (at_builtin;refine vT _ rfl (.tmp 14) (.tmp 20) 66 rfl B 101 i0 _ 4 32 jW hi hz0 hz1 hz2 rfl (by decide) v es.length (Ze es) rfl (h.row.alloc _) ⟨w.heap.size,0,none⟩ 1 1 (ZI.cells ⟨p,c,r,n⟩) rfl rfl (gT w _ 101) (by simpa [Ze]using wQ [⟨p,c,r,n⟩]) (by unfold maxLen;omega) (by omega) (by simp;omega) ?_;intro v' w1 hr hg aa0;have hD:=hid (IC h hg hr aa0);have hM:=(Cs (v':=v') h hg).1;have hc1:=hM.log;have hf1:=hM.free 12;obtain⟨ao,cap,rfl⟩:=YU hr;clear hr hg aa0);go_end0;exact⟨rfl,_,hD.out.1,hD.out.2⟩
theorem Goes.refl(b:Nat)(v:Value)(w:World):Goes b v w v w:=⟨Kp.refl _ _,.inl rfl⟩
def aaK(cs:List Int)(c:Int):Int:=if hasB c then cs.getD c.toNat 0 else 0
def aaL(cs:List Int)(c x:Int):List Int:=if hasB c then cs.set c.toNat x else cs
def Zy(es:List ZI)(p c r n:Int):List ZI:=if hasB c then es++[⟨p,c,r,n⟩]else es
theorem Gh{c:Int}(h:hasB c=true):∃k:Nat,c=k/\k<12:=by
 simp[hasB]at h;exact⟨c.toNat,by omega,by omega⟩
theorem aag(B:Nat)(w:World)(b:Nat)(cs:List Int)(v:Value)(es:List ZI)(h:WS B w b cs v es)(hn:es.length<=1000000)(p c n:Int):
 Calls prog 303 #[.pointer (some ⟨b,0,none⟩),.int .i64 p,.int .i64 c,.int .i64 n] w fun e w'=>
  e= .returned (.tuple #[.int .i64 (aaK cs c),.bool (hasB c)])/\∃v',WS B w' b cs v' (Zy es p c 1 n)/\Goes b v w v' w':=by
 cases hc:hasB c with
 |false=>
  have e1:=hid (show aaK cs c=0 by simp[aaK,hc]);have e2:=hid (show Zy es p c 1 n=es by simp[Zy,hc]);go_enter func303,ntmps303;go_wp2_with (go_at_call 273;refine(jP _ _).mono ?_;rintro e w' ⟨rfl,rfl⟩);go_ret2;exact⟨by rw[e1.out];rfl,v,by rw[e2.out];exact h,Goes.refl _ _ _⟩
 |true=>
  have e1:=hid (show aaK cs c=cs.getD c.toNat 0 by simp[aaK,hc]);have e2:=hid (show Zy es p c 1 n=es++[⟨p,c,1,n⟩]by simp[Zy,hc]);obtain⟨k,rfl,hk⟩:=Gh hc;go_enter func303,ntmps303;go_wp2_with (first
   |(go_at_call 273;refine(jP _ _).mono ?_;rintro e w' ⟨rfl,rfl⟩)
   |(go_at_call 311;refine(Ck B _ b cs v es h hn _ _ _ _).mono ?_;rintro e w1 ⟨rfl,v',h1,hg⟩;have hcell:=h1.obj.cell k hk))
  go_ret2;exact⟨by rw[e1.out];rfl,v',by rw[e2.out];exact h1,hg⟩
theorem JY{B:Nat}{w w1:World}{b:Nat}{cs:List Int}{v v':Value}{es:List ZI}{k:Nat}(h1:WS B w1 b cs v' es)(hg:Goes b v w v' w1)(hk:k<12)(x:Int):
 WS B (w1.setCell ⟨b,k,none⟩ (.int .i64 x)) b (cs.set k x) v' es/\Goes b v w v' (w1.setCell ⟨b,k,none⟩ (.int .i64 x)):=
 ⟨⟨h1.obj.setAt k hk x,ownsRow_setCell_other h1.row (a:=⟨b,k,none⟩) h1.ne _,h1.ne,h1.lo⟩,hg.kp.trans (Kp.setCell _ _ _ (.inl rfl)),hg.near⟩
theorem aaM(B:Nat)(w:World)(b:Nat)(cs:List Int)(v:Value)(es:List ZI)(h:WS B w b cs v es)(hn:es.length<=1000000)(p c n x:Int):
 Calls prog 305 #[.pointer (some ⟨b,0,none⟩),.int .i64 p,.int .i64 c,.int .i64 n,.int .i64 x] w fun e w'=>
  e= .returned (.bool (hasB c))/\∃v',WS B w' b (aaL cs c x) v' (Zy es p c 2 n)/\Goes b v w v' w':=by
 cases hc:hasB c with
 |false=>
  have e1:=hid (show aaL cs c x=cs by simp[aaL,hc]);have e2:=hid (show Zy es p c 2 n=es by simp[Zy,hc]);go_enter func305,ntmps305;go_wp2_with (go_at_call 273;refine(jP _ _).mono ?_;rintro e w' ⟨rfl,rfl⟩);go_ret;exact⟨rfl,v,by rw[e1.out,e2.out];exact h,Goes.refl _ _ _⟩
 |true=>
  have e1:=hid (show aaL cs c x=cs.set c.toNat x by simp[aaL,hc]);have e2:=hid (show Zy es p c 2 n=es++[⟨p,c,2,n⟩]by simp[Zy,hc]);obtain⟨k,rfl,hk⟩:=Gh hc;go_enter func305,ntmps305;go_wp2_with (first
   |(go_at_call 273;refine(jP _ _).mono ?_;rintro e w' ⟨rfl,rfl⟩)
   |(go_at_call 311;refine(Ck B _ b cs v es h hn _ _ _ _).mono ?_;rintro e w1 ⟨rfl,v',h1,hg⟩;have hcell:=h1.obj.cell k hk;have hfree:=h1.obj.free k))
  go_ret;have hD:=JY h1 hg hk x;exact⟨rfl,v',by rw[e1.out,e2.out];exact hD.1,hD.2⟩
def adx(cs:List Int):List Value:=cs.map (Value.int .i64)
theorem YA{cs:List Int}(h:cs.length=12):∃a0 a1 a2 a3 a4 a5 a6 a7 a8 a9 a10 a11,cs=[a0,a1,a2,a3,a4,a5,a6,a7,a8,a9,a10,a11]:=by
 match cs,h with
 |[a0,a1,a2,a3,a4,a5,a6,a7,a8,a9,a10,a11],_=>exact⟨a0,a1,a2,a3,a4,a5,a6,a7,a8,a9,a10,a11,rfl⟩
theorem aci(B:Nat)(w:World)(b:Nat)(cs:List Int)(v:Value)(es:List ZI)(h:WS B w b cs v es):
 Calls prog 119 #[.pointer (some ⟨b,0,none⟩)] w fun e w'=>
  e= .returned (.slice (some ⟨w.heap.size,0,none⟩) 12 12)/\w'.heap[w.heap.size]?=some (.cells (adx cs).toArray 185 (0,0))/\Kp (fun _=>False) w w':=by
 obtain⟨a0,a1,a2,a3,a4,a5,a6,a7,a8,a9,a10,a11,rfl⟩:=YA h.obj.len;have c0:=h.obj.cell 0 (by decide);have c1:=h.obj.cell 1 (by decide);have c2:=h.obj.cell 2 (by decide);have c3:=h.obj.cell 3 (by decide);have c4:=h.obj.cell 4 (by decide);have c5:=h.obj.cell 5 (by decide);have c6:=h.obj.cell 6 (by decide);have c7:=h.obj.cell 7 (by decide);have c8:=h.obj.cell 8 (by decide);have c9:=h.obj.cell 9 (by decide);have c10:=h.obj.cell 10 (by decide);have c11:=h.obj.cell 11 (by decide);simp only[List.getD_cons_zero,List.getD_cons_succ]at c0 c1 c2 c3 c4 c5 c6 c7 c8 c9 c10 c11;clear h;go_enter func119,ntmps119;go_wp2;go_ret;exact⟨rfl,ah w _,Kp.alloc w _⟩
theorem Pf(d:Nat)(a:Option Addr)(n c:Nat)(w:World):(Op.equalIn (d+1) 66 (.slice a n c) (.slice none 0 0)).run prog w= .ok a.isNone w:=by
 cases a<;>simp[Op.equalIn,bR jW]
theorem X7(a:Option Addr)(n c:Nat)(w:World):(binOp .eql 66 (.slice a n c) (.slice none 0 0)).run prog w= .ok (.bool a.isNone) w:=by
 simp only[binOp];simp[Op.equal,Op.maxDepth,Pf 9999 a n c w]
theorem Cv{B:Nat}{w:World}{g n cap:Nat}{xs:List Value}(h:w.ownsRow B 101 4 (.slice (some ⟨g,0,none⟩) n cap) n xs)(o:Obj):
 ∀j u,xs[j]?=some u->(w.alloc o).cell? ((⟨g,0,none⟩:Addr).add j)=some u:=(h.alloc o).cells rfl
theorem Bt{w w1:World}{o:Obj}{v':Value}{n:Nat}{xs:List Value}(hr:w1.ownsRow w.heap.size 101 4 v' (0+n) ([]++xs))(hg:(w.alloc o).grownBy w1 (Value.slice (some ⟨w.heap.size,0,none⟩) 0 0).ownBlock):
 w1.ownsRow w.heap.size 101 4 v' n xs/\Kp (fun _=>False) w w1:=by
 refine⟨by simpa using hr,hg.os,hg.tape,hg.output,aF (Kp.alloc (F:=fun _=>False) w o).size hg.size,fun k hk _=> ?_⟩;rw[hg.block k (by simp;omega) (by simp[Value.ownBlock];omega)];exact aB w o k hk
theorem xP(B:Nat)(w:World)(v:Value)(es:List ZI)(h:w.ownsRow B 101 4 v es.length (Ze es))(hn:es.length<=1000000):
 Calls prog 152 #[v] w fun e w'=>∃v',e= .returned v'/\w'.ownsRow w.heap.size 101 4 v' es.length (Ze es)/\Kp (fun _=>False) w w':=by
 obtain⟨i0,hi,hz0,hz1,hz2⟩:=bM sw;have q:=X7;rcases h.2 with⟨rfl,h0⟩|⟨g,cap,cur,rfl,_⟩
 ·have hN:=hid (show w.ownsRow w.heap.size 101 4 (.slice none 0 0) es.length (Ze es)from⟨h.1,.inl ⟨rfl,h0⟩⟩);clear h h0;go_enter func152,ntmps152;go_wp2;go_ret;exact⟨_,rfl,hN.out,Kp.refl _ _⟩
 ·have hlen:=En es;have acM:=hid (World.ownsRow_made (base:=w.heap.size) (e:=101) (size:=4) w #[] 0 (aj _) (by decide) (by simp));have hsrc:=hid (Cv h (.cells #[] 101));clear h;go_enter func152,ntmps152;go_wp2_with (at_builtin;refine wpList_append_own _ rfl (.tmp 5) (.tmp 6) 66 rfl w.heap.size 101 i0 _ 4 32 jW hi hz0 hz1 hz2 rfl (by decide) (.slice (some ⟨w.heap.size,0,none⟩) 0 0) 0 [] rfl acM.out ⟨g,0,none⟩ es.length cap (Ze es) rfl hlen hsrc.out (wQ es) (by unfold maxLen;omega) (by omega) (by simp) ?_;intro v' w1 hr hg _;have hD0:=Bt hr hg;clear hr hg;obtain⟨ao,cap',rfl⟩:=YU hD0.1;have hD:=hid hD0;clear hD0);go_ret;exact⟨_,rfl,hD.out.1,hD.out.2⟩
theorem aaA(B:Nat)(w:World)(b:Nat)(cs:List Int)(v:Value)(es:List ZI)(h:WS B w b cs v es)(hn:es.length<=1000000):
 Calls prog 117 #[.pointer (some ⟨b,0,none⟩)] w fun e w'=>∃v',e= .returned v'/\w'.ownsRow w.heap.size 101 4 v' es.length (Ze es)/\Kp (fun _=>False) w w':=by
 have hl:=h.obj.log;go_enter func117,ntmps117;go_wp2_with (go_at_call 152;refine(xP B _ v es h.row hn).mono ?_;rintro e w1 ⟨v',rfl,hr,hk⟩;obtain⟨ao,cap,rfl⟩:=YU hr);go_ret;exact⟨_,rfl,hr,hk⟩
theorem Kp.drewN{F:Nat->Prop}(w:World)(n:Nat):Kp F w (w.drewN n):=⟨rfl,rfl,rfl,aj _,fun _ _ _=>rfl⟩
theorem Zc{w:World}{base:Nat}{e:TypeId}{size:Nat}{ao:Option Addr}{cap n:Nat}{xs:List Value}(h:w.ownsRow base e size (.slice ao n cap) n xs)(hn:0<n):
 ∃g,ao=some ⟨g,0,none⟩/\∀j,j<n*size->w.cell? ⟨g,j,none⟩=xs[j]?:=by
 rcases h.2 with⟨h',h0⟩|⟨g,cap',cur,h',_⟩;omega;simp only[aY]at h';obtain⟨rfl,_,rfl⟩:=h';exact⟨g,rfl,fun j hj=>h.cellAt j hj⟩
