/- Parts. -/
import Derived.Test.YtpeakfcbihoknaaGreatDoorUB1
open Go.ChangeShapes Go.WideShapes Go.ChangeAt Go.RowKit
set_option maxRecDepth 8000
set_option maxHeartbeats 4000000
namespace Go.Proofs.YtpeakfcbihoknaaGreatDoor
open Proofs.Tryz
open Gr (Nd ZH nd0 YT aS dJ bJ dV bS Y0 bN eX YS Wf jg GS fJ)
def lC(c:Int):List PanicEntry:=[{v:= .iface 348 (.int .i64 c),recovered:=false}]
structure Mx where
 B:Nat
 bb:Nat
 g:Nat
 wd:Nat
 mb:Nat
 ms:fA
 fuel:Int
structure Vs where
 n:Value
 o:Value
 l:Value
def Mx.own(M:Mx)(q:Vs)(k:Nat):Prop:=gX M.bb M.g M.wd q.n q.o q.l k
structure dG(M:Mx)(q:Vs)(w:World)(q':Vs)(w':World):Prop where
 kp:Kp (fun k=>M.own q k\/k=M.mb) w w'
 own:∀k,M.own q' k->M.own q k\/w.heap.size<=k
section
variable{M:Mx}{q q' q2:Vs}{w w' w2:World}{X X':Nat->Prop}{s s':Sg}{left left':Nat}{calls calls':Int}
theorem dG.quiet(M:Mx)(q:Vs)(k:aA w w'):dG M q w q w':=⟨k.mono fun _ _ e=>e.elim,fun _ e=> .inl e⟩
theorem dG.tick(M:Mx)(q:Vs)(k:Kp (fun k=>k=M.mb) w w'):dG M q w q w':=⟨k.mono fun _ _ e=> .inr e,fun _ e=> .inl e⟩
theorem dG.trans(h:dG M q w q' w')(k:dG M q' w' q2 w2):dG M q w q2 w2:=by
 refine⟨⟨k.kp.os.trans h.kp.os,k.kp.tape.trans h.kp.tape,k.kp.output.trans h.kp.output,aF h.kp.size k.kp.size,fun i hi hF=> ?_⟩,fun i hi=> ?_⟩;refine(k.kp.block i (az hi h.kp.size) fun e=> ?_).trans (h.kp.block i hi hF);rcases e with e|e;rcases h.own i e with e|e;exact hF (.inl e);omega;exact hF (.inr e);rcases k.own i hi with e|e;exact h.own i e;exact .inr (aF h.kp.size e)
theorem dG.fresh(h:dG M q w q' w')(k:Kp (fun i=>w.heap.size<=i) w' w2):dG M q w q' w2:=⟨h.kp.fresh k,h.own⟩
theorem dG.after(k:aA w w2)(h:dG M q w2 q' w'):dG M q w q' w':=(dG.quiet M q k).trans h
theorem dG.box{vn vo vl:Value}(h:kF M.bb M.g M.wd q.n q.o q.l w vn vo vl w'):dG M q w ⟨vn,vo,vl⟩ w':=⟨h.kp.mono fun _ _ e=> .inl e,h.own⟩
theorem dG.safe{P:World->Prop}(h:dG M q w q' w')(hm:X M.mb)(hs:bu (fun k=>M.own q k\/X k) P w):bu (fun k=>M.own q' k\/X k) P w':=
 hs.step (h.kp.mono fun k _ e=>by rcases e with e|e;exact .inl e;exact .inr (e▸hm)) fun k hk e=>by
  rcases e with e|e;rcases h.own k e with e|e;exact .inl e;omega;exact .inr e
theorem dG.block(h:dG M q w q' w'){x:Nat}{o:Obj}(hx:w.heap[x]?=some o)(hn:¬M.own q x)(hm:x≠M.mb):w'.heap[x]?=some o/\¬M.own q' x:=by
 have hl:x<w.heap.size:=(Array.getElem?_eq_some_iff.1 hx).1;refine⟨(h.kp.block x hl fun e=>by rcases e with e|e;exact hn e;exact hm e).trans hx,fun e=> ?_⟩;rcases h.own x e with e|e;exact hn e;omega
theorem vL{F:Nat->Prop}{B bb g wd:Nat}{vn vo vl:Value}{ms:fA}{a b c d:Pg}(H:jm B w bb g wd vn vo vl ms s a b c d)
 (hk:∀x,x=a\/x=b\/x=c\/x=d->bu (fun k=>gX bb g wd vn vo vl k\/X k) (fun w=>Is w x.kept x.ao) w) (q:Kp F w w') (hX:∀k,F k->X k) (ho:∀k,gX bb g wd vn vo vl k->¬F k)
 (hI:∀(k:Nat) (cs:Array Value) (t:TypeId),w.heap[k]?=some (.cells cs t (0,0))->t=334\/t=328->¬F k):
 jm B w' bb g wd vn vo vl ms s a b c d/\∀x,x=a\/x=b\/x=c\/x=d->bu (fun k=>gX bb g wd vn vo vl k\/X k) (fun w=>Is w x.kept x.ao) w':=by
 have hs:∀x,x=a\/x=b\/x=c\/x=d->bu (fun k=>gX bb g wd vn vo vl k\/X k) (fun w=>Is w x.kept x.ao) w':=fun x hx=>(hk x hx).step (q.mono fun k _ e=> .inr (hX k e)) fun k _ e=>e;exact⟨H.kept q ho fun p hp m hm=>⟨hm.there,fun l hl=>⟨(hm.code l hl).1.kept q hI,(hm.code l hl).2⟩,hm.shape,(hs p hp).mono fun k _ e=> .inl e,hm.good⟩,hs⟩
structure MS(M:Mx)(X:Nat->Prop)(q:Vs)(s:Sg)(left:Nat)(calls:Int)(w:World):Prop where
 box:∃a b c d,jm M.B w M.bb M.g M.wd q.n q.o q.l M.ms s a b c d/\∀x,x=a\/x=b\/x=c\/x=d->bu (fun k=>M.own q k\/X k) (fun w=>Is w x.kept x.ao) w
 ma:w.heap[M.mb]?=some (.cells #[.pointer (some ⟨M.bb,0,none⟩),.int .i64 M.fuel,.int .i64 (M.fuel-(left:Int)),.int .i64 calls] 337 (0,0))
 xm:X M.mb
 xo:∀k,X k->k<w.heap.size
 fu:M.fuel<=2000
 lf:(left:Int)<=M.fuel
 ci:∀c∈s.cs,dH c
theorem MS.free(H:MS M X q s left calls w){k:Nat}{cs:Array Value}{t:TypeId}(hk:w.heap[k]?=some (.cells cs t (0,0)))(h0:t≠145)(h1:t≠184)(h2:t≠207)(h3:t≠4)(h4:t≠187)(h5:t≠101):¬M.own q k:=by
 obtain⟨a,b,c,d,hb,_⟩:=H.box;exact hb.free hk h0 h1 h2 h3 h4 h5
theorem MS.new(H:MS M X q s left calls w)(k:Nat)(hk:w.heap.size<=k):¬M.own q k:=by
 obtain⟨a,b,c,d,hb,_⟩:=H.box;exact hb.new k hk
theorem MS.abG(H:MS M X q s left calls w):¬M.own q M.mb:=H.free H.ma (by decide) (by decide) (by decide) (by decide) (by decide) (by decide)
theorem MS.cells(H:MS M X q s left calls w):w.cell? ⟨M.mb,0,none⟩=some (.pointer (some ⟨M.bb,0,none⟩))/\w.cell? ⟨M.mb,1,none⟩=some (.int .i64 M.fuel)/\w.cell? ⟨M.mb,2,none⟩=some (.int .i64 (M.fuel-(left:Int)))/\w.cell? ⟨M.mb,3,none⟩=some (.int .i64 calls):=by
 refine⟨?_, ?_, ?_, ?_⟩<;>simp[World.cell?,H.ma]
theorem MS.ZP(H:MS M X q s left calls w):w.cell? ⟨M.bb,0,none⟩=some (.pointer (some ⟨M.g,0,none⟩))/\w.cell? ⟨M.bb,1,none⟩=some (.pointer (some ⟨M.wd,0,none⟩)):=by
 obtain⟨a,b,c,d,hb,_⟩:=H.box;refine⟨?_, ?_⟩<;>simp[World.cell?,hb.obj,pI]
theorem MS.gs(H:MS M X q s left calls w):GS 184 M.B w M.g q.n q.o s.ns s.os/\Wf s.ns s.os.length:=by
 obtain⟨a,b,c,d,hb,_⟩:=H.box;exact⟨hb.gs,hb.wf⟩
theorem MS.ws(H:MS M X q s left calls w):Wo.WS M.B w M.wd s.cs q.l s.es:=by
 obtain⟨a,b,c,d,hb,_⟩:=H.box;exact hb.ws
theorem MS.step(H:MS M X q s left calls w)(k:aA w w')(hX:∀k,k<w.heap.size->X' k->X k)(xm:X' M.mb)(xo:∀k,X' k->k<w'.heap.size):MS M X' q s left calls w':=by
 obtain⟨a,b,c,d,hb,hk⟩:=H.box;refine⟨⟨a,b,c,d,hb.quiet k,fun x hx=>(hk x hx).step (k.mono fun _ _ e=>e.elim) fun i hi e=> ?_⟩,(k.block _ (ae H.ma) fun e=>e).trans H.ma,xm,xo,H.fu,H.lf,H.ci⟩;rcases e with e|e;exact .inl e;exact .inr (hX i hi e)
theorem MS.quiet(H:MS M X q s left calls w)(k:aA w w'):MS M X q s left calls w':=H.step k (fun _ _ e=>e) H.xm fun i e=>az (H.xo i e) k.size
theorem MS.less(H:MS M X q s left calls w)(hX:∀k,X' k->X k)(xm:X' M.mb):MS M X' q s left calls w:=H.step (Kp.refl _ _) (fun k _ e=>hX k e) xm fun k e=>H.xo k (hX k e)
theorem MS.beside{F:Nat->Prop}(H:MS M X q s left calls w)(k:Kp F w w')(hX:∀k,F k->X k)(hm:¬F M.mb)(ho:∀k,M.own q k->¬F k)(hI:∀(k:Nat) (cs:Array Value) (t:TypeId),w.heap[k]?=some (.cells cs t (0,0))->t=334\/t=328->¬F k):MS M X q s left calls w':=by
 obtain⟨a,b,c,d,hb,hk⟩:=H.box;obtain⟨h1,h2⟩:=vL hb hk k hX ho hI;exact⟨⟨a,b,c,d,h1,h2⟩,(k.block _ (ae H.ma) hm).trans H.ma,H.xm,fun i e=>az (H.xo i e) k.size,H.fu,H.lf,H.ci⟩
theorem MS.put(H:MS M X q s left calls w)(k:Kp (fun k=>k=M.mb) w w')(hb:w'.heap[M.mb]?=some (.cells #[.pointer (some ⟨M.bb,0,none⟩),.int .i64 M.fuel,.int .i64 (M.fuel-(left':Int)),.int .i64 calls'] 337 (0,0)))(hl:(left':Int)<=M.fuel):MS M X q s left' calls' w'/\dG M q w q w':=by
 obtain⟨a,b,c,d,hB,hk⟩:=H.box;obtain⟨h1,h2⟩:=vL hB hk k (fun i e=>e▸H.xm) (fun i hi e=>H.abG (e▸hi)) (fun i cs t hi ht e=>by
  rw[e,H.ma]at hi;simp at hi;rcases ht with ht|ht<;>rw[ht]at hi<;>exact absurd hi.2 (by decide))
 exact⟨⟨⟨a,b,c,d,h1,h2⟩,hb,H.xm,fun i e=>az (H.xo i e) k.size,H.fu,hl,H.ci⟩,dG.tick M q k⟩
theorem MS.graph{Y4 Y3:Value}{ns':List Nd}{os':List Bool}(H:MS M X q s left calls w)(hg:Gr.Goes M.g q.n q.o w Y4 Y3 w')(hgs:GS 184 M.B w' M.g Y4 Y3 ns' os')(hwf:Wf ns' os'.length):
 MS M X ⟨Y4,Y3,q.l⟩ {s with ns:=ns',os:=os'} left calls w'/\dG M q w ⟨Y4,Y3,q.l⟩ w':=by
 obtain⟨a,b,c,d,hb,hk⟩:=H.box;obtain⟨h1,h2⟩:=hb.graph hg hgs hwf;have G:dG M q w ⟨Y4,Y3,q.l⟩ w':=dG.box h2;exact⟨⟨⟨a,b,c,d,h1,fun x hx=>G.safe H.xm (hk x hx)⟩,(h2.block H.ma H.abG).1,H.xm,fun i e=>az (H.xo i e) h2.kp.size,H.fu,H.lf,H.ci⟩,G⟩
theorem MS.world{Z4:Value}{cs':List Int}{es':List Wo.ZI}(H:MS M X q s left calls w)(hg:Wo.Goes M.wd q.l w Z4 w')(hws:Wo.WS M.B w' M.wd cs' Z4 es')(hci:∀c∈cs',dH c):
 MS M X ⟨q.n,q.o,Z4⟩ {s with cs:=cs',es:=es'} left calls w'/\dG M q w ⟨q.n,q.o,Z4⟩ w':=by
 obtain⟨a,b,c,d,hb,hk⟩:=H.box;obtain⟨h1,h2⟩:=hb.world hg hws;have G:dG M q w ⟨q.n,q.o,Z4⟩ w':=dG.box h2;exact⟨⟨⟨a,b,c,d,h1,fun x hx=>G.safe H.xm (hk x hx)⟩,(h2.block H.ma H.abG).1,H.xm,fun i e=>az (H.xo i e) h2.kp.size,H.fu,H.lf,hci⟩,G⟩
def MQ(M:Mx)(X:Nat->Prop)(q:Vs)(calls:Int)(o:Out)(w:World)(e:Ending)(w':World):Prop:=
 ∃q',dG M q w q' w'/\match o.got with
  | .ok v=>MS M X q' o.s o.left calls w'/\∃ao cap,e= .returned (.agg #[.int .i64 v.kind,.int .i64 v.n,.slice ao v.l.length cap])/\bu (fun k=>M.own q' k\/X k) (fun w=>Is w v ao) w'
  | .error c=>(∃calls',MS M X q' o.s o.left calls' w')/\e= .panicked (lC c)
theorem MQ.ZZ{o:Out}{v:V}{e:Ending}{ao:Option Addr}{cap:Nat}(ho:o.got= .ok v)(g:dG M q w q' w')(h:MS M X q' o.s o.left calls w')(he:e= .returned (.agg #[.int .i64 v.kind,.int .i64 v.n,.slice ao v.l.length cap]))(hs:bu (fun k=>M.own q' k\/X k) (fun w=>Is w v ao) w'):MQ M X q calls o w e w':=by
 refine⟨q',g, ?_⟩;rw[ho];exact⟨h,ao,cap,he,hs⟩
theorem MQ.Y9{o:Out}{c:Int}{e:Ending}(ho:o.got= .error c)(g:dG M q w q' w')(h:MS M X q' o.s o.left calls' w')(he:e= .panicked (lC c)):MQ M X q calls o w e w':=by
 refine⟨q',g, ?_⟩;rw[ho];exact⟨⟨calls',h⟩,he⟩
theorem MQ.ok{o:Out}{v:V}{e:Ending}(H:MQ M X q calls o w e w')(ho:o.got= .ok v):∃q' ao cap,e= .returned (.agg #[.int .i64 v.kind,.int .i64 v.n,.slice ao v.l.length cap])/\dG M q w q' w'/\MS M X q' o.s o.left calls w'/\bu (fun k=>M.own q' k\/X k) (fun w=>Is w v ao) w':=by
 obtain⟨q',g,h⟩:=H;rw[ho]at h;obtain⟨h,ao,cap,he,hs⟩:=h;exact⟨q',ao,cap,he,g,h,hs⟩
theorem MQ.bad{o:Out}{c:Int}{e:Ending}(H:MQ M X q calls o w e w')(ho:o.got= .error c):e= .panicked (lC c)/\∃q' calls',dG M q w q' w'/\MS M X q' o.s o.left calls' w':=by
 obtain⟨q',g,h⟩:=H;rw[ho]at h;obtain⟨⟨calls',h⟩,he⟩:=h;exact⟨he,q',calls',g,h⟩
end
theorem fT(c:Int)(w:World):Calls prog 287 #[.bool true,.int .i64 c] w fun e w'=>e= .returned (.tuple #[])/\w'=w:=by
 go_enter func287,ntmps287;go_wp2;go_end0;exact⟨rfl,rfl⟩
theorem jH(c:Int)(w:World):Calls prog 287 #[.bool false,.int .i64 c] w fun e w'=>e= .panicked (lC c)/\w'=w:=by
 go_enter func287,ntmps287;go_wp2;exact⟨rfl,rfl,rfl⟩
theorem pR(n:Int)(w:World):Calls prog 289 #[.int .i64 n] w fun e w'=>e= .returned (.agg #[.int .i64 1,.int .i64 n,.slice none 0 0])/\aA w w':=by
 go_enter func289,ntmps289;go_wp2;refine au (v:= .agg #[.int .i64 1,.int .i64 n,.slice none 0 0]) (by simp[results,results289,go_sem]) rfl ⟨rfl, ?_⟩;exact Kp.alloc _ _
def Qd(b:Bool):Int:=if b then 1 else 0
theorem JG(b:Bool)(w:World):Calls prog 302 #[.bool b] w fun e w'=>e= .returned (.int .i64 (Qd b))/\w'=w:=by
 cases b;all_goals
  go_enter func302,ntmps302;go_wp2;go_ret;exact⟨rfl,rfl⟩
theorem TR{w:World}{g:Nat}{a b:V}{aa ba:Option Addr}{ac bc:Nat}(h:w.heap[g]?=some (.cells #[.int .i64 a.kind,.int .i64 a.n,.slice aa a.l.length ac,.int .i64 b.kind,.int .i64 b.n,.slice ba b.l.length bc] 71 (0,0)))(ha:Is w a aa)(hb:Is w b ba):Is w ⟨2,0,[a,b]⟩ (some ⟨g,0,none⟩):=by
 refine⟨⟨iP 2 (by decide),iP 0 (by decide)⟩,fun i hi=> ?_⟩;have hi2:i<2:=hi
 match i,hi2 with
 |0,_=>exact⟨g,0,rfl,(Zt _ _ _ _).2 ⟨⟨by simp[World.cell?,h],by simp[World.cell?,h]⟩,aa,ac,by simp[World.cell?,h],ha⟩⟩
 |1,_=>exact⟨g,0,rfl,(Zt _ _ _ _).2 ⟨⟨by simp[World.cell?,h],by simp[World.cell?,h]⟩,ba,bc,by simp[World.cell?,h],hb⟩⟩
theorem VT{w:World}{g:Nat}{a:V}{aa:Option Addr}{ac:Nat}(k n:Int)(hk:dH k)(hn:dH n)(h:w.heap[g]?=some (.cells #[.int .i64 a.kind,.int .i64 a.n,.slice aa a.l.length ac] 71 (0,0)))(ha:Is w a aa):Is w ⟨k,n,[a]⟩ (some ⟨g,0,none⟩):=by
 refine⟨⟨hk,hn⟩,fun i hi=> ?_⟩;obtain rfl:i=0:=by simp at hi;omega
 exact⟨g,0,rfl,(Zt _ _ _ _).2 ⟨⟨by simp[World.cell?,h],by simp[World.cell?,h]⟩,aa,ac,by simp[World.cell?,h],ha⟩⟩
theorem xM(F:Nat->Prop)(a b:V)(aa ba:Option Addr)(ac bc:Nat)(w:World)(hF:∀k,F k->k<w.heap.size)(ha:bu F (fun w=>Is w a aa) w)(hb:bu F (fun w=>Is w b ba) w):
 Calls prog 292 #[.agg #[.int .i64 a.kind,.int .i64 a.n,.slice aa a.l.length ac],.agg #[.int .i64 b.kind,.int .i64 b.n,.slice ba b.l.length bc]] w fun e w'=>∃ao,e= .returned (.agg #[.int .i64 2,.int .i64 0,.slice ao 2 2])/\bu F (fun w=>Is w ⟨2,0,[a,b]⟩ ao) w'/\aA w w':=by
 have HI:=gp hF ha hb;clear hF ha hb;go_enter func292,ntmps292;go_wp2;refine au (v:= .agg #[.int .i64 2,.int .i64 0,.slice (some ⟨w.heap.size+3,0,none⟩) 2 2]) (by simp[results,results292,go_sem]) rfl ?_;obtain⟨hF,ha,hb⟩:=HI.out;clear HI;have hq:∀o1 o2 o3 o4:Obj,aA w ((((w.alloc o1).alloc o2).alloc o3).alloc o4):=fun _ _ _ _=>(((Kp.alloc _ _).trans (Kp.alloc _ _)).trans (Kp.alloc _ _)).trans (Kp.alloc _ _);refine⟨_,rfl,fun w' k=> ?_,hq _ _ _ _⟩;have hb4:=(wY w (.cells #[.int .i64 a.kind,.int .i64 a.n,.slice aa a.l.length ac] 71) (.cells #[.int .i64 b.kind,.int .i64 b.n,.slice ba b.l.length bc] 71) (.cells #[.int .i64 2,.int .i64 0,.slice (some ⟨w.heap.size+1+1+1,0,none⟩) 2 2] 71) (.cells #[.int .i64 a.kind,.int .i64 a.n,.slice aa a.l.length ac,.int .i64 b.kind,.int .i64 b.n,.slice ba b.l.length bc] 71)).2.2.2;refine TR ((k.block _ (ae hb4) fun e=> ?_).trans hb4) (cu ha (hq _ _ _ _) w' k) (cu hb (hq _ _ _ _) w' k);have:=hF _ e;omega
theorem jr(n:Nd)(w:World):Calls prog 308 #[n.agg] w fun e w'=>e= .returned (.bool (decide (0<=n.plugin)))/\aA w w':=by
 go_enter func308,ntmps308;unfold Gr.Nd.agg;go_wp2;go_ret;exact⟨rfl,Kp.alloc _ _⟩
theorem ql(th:Bool)(ao:Option Addr)(n cap:Nat)(x y z:Value)(f:Int)(w:World):
 Calls prog 274 #[.agg #[.bool th,.slice ao n cap,x,y,z],.int .i64 f] w fun e w'=>e= .returned (.bool (th&&decide (0<=f)&&decide (f<(n:Int))))/\aA w w':=by
 cases th
 ·go_enter func274,ntmps274;go_wp2;go_ret;exact⟨rfl,Kp.alloc _ _⟩
 ·cases h1:decide (0<=f)
  ·go_enter func274,ntmps274;go_wp2;go_ret;exact⟨rfl,Kp.alloc _ _⟩
  ·go_enter func274,ntmps274;go_wp2;go_ret;exact⟨rfl,Kp.alloc _ _⟩
theorem Bw(v:V)(ao:Option Addr)(cap:Nat)(w:World)(hI:Is w v ao)(hS:v.size<=500)(hc:v.check=0):
 Calls prog 291 #[.agg #[.int .i64 v.kind,.int .i64 v.n,.slice ao v.l.length cap]] w fun e w'=>e= .returned (.agg #[.int .i64 v.kind,.int .i64 v.n,.slice ao v.l.length cap])/\aA w w':=by
 obtain⟨W,hW⟩:∃W,W=(w.alloc (.cells #[.int .i64 v.kind,.int .i64 v.n,.slice ao v.l.length cap] 71)).alloc (.cells #[.int .i64 0,.int .i64 0,.slice none 0 0] 71):=⟨_,rfl⟩;have qW:aA w W:=by rw[hW];exact(Kp.alloc _ _).trans (Kp.alloc _ _)
 have b0:W.heap[w.heap.size]?=some (.cells #[.int .i64 v.kind,.int .i64 v.n,.slice ao v.l.length cap] 71 (0,0)):=by rw[hW,aB _ _ _ (by simp)];exact ah w _
 have b1:W.heap[w.heap.size+1]?=some (.cells #[.int .i64 0,.int .i64 0,.slice none 0 0] 71 (0,0)):=by rw[hW];exact Y2 w _ _
 have HC:=hid (fQ v ao cap W (hI.quiet qW) hS);have HW:=jR hW qW b0 b1;rw[hc]at HC;rw[hW]at HC;clear hI hS hc qW b0 b1 hW;go_enter func291,ntmps291;go_wp2_with (first
  |(go_at_call 287;refine(fT _ _).mono ?_;rintro e w3 ⟨rfl,h3⟩;replace h3:=h3.symm;subst h3)
  |(go_at_call 148;refine HC.out.mono ?_;rintro e w2 ⟨rfl,q2⟩;rw[<-HW.out.1]at q2;obtain⟨z0,z1,z2⟩:=aM ((q2.block _ (ae HW.out.2.2.1) fun e=>e).trans HW.out.2.2.1);have hb2:=(q2.block _ (ae HW.out.2.2.2) fun e=>e).trans HW.out.2.2.2;obtain⟨m0,m1,m2⟩:=aM hb2;obtain⟨f0,f1,f2⟩:=bI hb2;have hz:=ae hb2;have Q2:=hid q2;clear q2 hb2))
 refine au (v:= .agg #[.int .i64 v.kind,.int .i64 v.n,.slice ao v.l.length cap]) (by simp[results,results291,go_sem,m0,m1,m2]) rfl ⟨rfl, ?_⟩;exact(HW.out.2.1.trans Q2.out).fresh ((dE _ _ _ _ _).mono fun k _ e=>by omega)
theorem Cu(v:V)(ao:Option Addr)(cap:Nat)(w:World)(hI:Is w v ao)(hS:v.size<=500)(hc:v.check≠0):
 Calls prog 291 #[.agg #[.int .i64 v.kind,.int .i64 v.n,.slice ao v.l.length cap]] w fun e w'=>e= .panicked (lC v.check)/\aA w w':=by
 obtain⟨W,hW⟩:∃W,W=(w.alloc (.cells #[.int .i64 v.kind,.int .i64 v.n,.slice ao v.l.length cap] 71)).alloc (.cells #[.int .i64 0,.int .i64 0,.slice none 0 0] 71):=⟨_,rfl⟩;have qW:aA w W:=by rw[hW];exact(Kp.alloc _ _).trans (Kp.alloc _ _)
 have HC:=hid (fQ v ao cap W (hI.quiet qW) hS);have HW:=bC hW qW;rw[hW]at HC;have hcb:(v.check==0)=false:=by simpa using hc
 generalize v.check=cd at*;clear hI hS qW hW hc;go_enter func291,ntmps291;go_wp2_with (first
  |(go_at_call 287;refine(jH _ _).mono ?_;rintro e w3 ⟨rfl,h3⟩;replace h3:=h3.symm;subst h3)
  |(go_at_call 148;refine HC.out.mono ?_;rintro e w2 ⟨rfl,q2⟩;rw[<-HW.out.1]at q2;have Q2:=hid q2;clear q2))
 exact⟨rfl,rfl,HW.out.2.trans Q2.out⟩
theorem Ub:Wv:=by
 intro k a b w ha hb;have ht:=hid (fun b=>JG b w);by_cases h1:k=1
 ·subst h1;go_enter func290,ntmps290;go_wp2;go_ret;exact⟨by simp[nP],Kp.refl _ _⟩
 by_cases h2:k=2
 ·subst h2;go_enter func290,ntmps290;go_wp2;go_ret;exact⟨by simp[nP],Kp.refl _ _⟩
 by_cases h3:k=3
 ·subst h3;go_enter func290,ntmps290;go_wp2;go_ret;exact⟨by simp[nP],Kp.refl _ _⟩
 by_cases h4:k=4
 ·subst h4;have HA:=hid (show nP 4 a b=Qd (decide (a<b))by simp[nP,Qd]);go_enter func290,ntmps290;go_wp2_with (go_at_call 302;refine(ht.out _).mono ?_;rintro e w3 ⟨rfl,h3⟩;replace h3:=h3.symm;subst h3);go_ret;exact⟨by rw[HA.out];rfl,Kp.refl _ _⟩
 by_cases h5:k=5
 ·subst h5;have HA:=hid (show nP 5 a b=Qd (a==b)by simp[nP,Qd]);go_enter func290,ntmps290;go_wp2_with (go_at_call 302;refine(ht.out _).mono ?_;rintro e w3 ⟨rfl,h3⟩;replace h3:=h3.symm;subst h3);go_ret;exact⟨by rw[HA.out];rfl,Kp.refl _ _⟩
 have e1:(k==1)=false:=by simpa using h1
 have e2:(k==2)=false:=by simpa using h2
 have e3:(k==3)=false:=by simpa using h3
 have e4:(k==4)=false:=by simpa using h4
 have e5:(k==5)=false:=by simpa using h5
 have HE:=hid (show nP k a b=0 by simp[nP,h1,h2,h3,h4,h5]);clear h1 h2 h3 h4 h5;go_enter func290,ntmps290;go_wp2;go_ret;exact⟨by rw[HE.out];rfl,Kp.refl _ _⟩
theorem wN{w:World}{F:Nat->Prop}:PgS w F none ⟨false,.slice none 0 0,v0,none,0⟩:=⟨rfl,fun l e=>(by cases e),⟨_,_,_,rfl⟩,dY v0 iR rfl none,show v0.check=0 by decide⟩
theorem XU:Yh:=by
 intro B w hB;have H1:=hid (Gr.aax B w hB);have H2:=hid (fun(w1:World) (h:B<=w1.heap.size)=>Wo.aax B w1 h);go_enter func38,ntmps38;go_wp2_with (first
  |(go_at_call 57;refine(H2.out _ (aF hB q1.size)).mono ?_;rintro e w2 ⟨rfl,h2,q2⟩)
  |(go_at_call 56;refine H1.out.mono ?_;rintro e w1 ⟨rfl,h1,q1⟩))
 go_ret;have q3:aA w2 (w2.alloc (.cells (pI w.heap.size w1.heap.size ⟨false,.slice none 0 0,v0,none,0⟩ ⟨false,.slice none 0 0,v0,none,0⟩ ⟨false,.slice none 0 0,v0,none,0⟩ ⟨false,.slice none 0 0,v0,none,0⟩).toArray 145)):=Kp.alloc _ _;refine⟨w2.heap.size,w.heap.size,w1.heap.size,_,_,_,rfl,⟨_,_,_,_,⟨ah w2 _,(h1.quiet q2).quiet q3, ?_,h2.kept q3 fun _ _ e=>e,rfl,aF hB (aF q1.size q2.size),none,none,none,none,rfl,wN,wN,wN,wN⟩⟩,aF q1.size q2.size,(q1.trans q2).trans q3⟩;exact Gr.Wf.nil _
theorem gD:prog.follows .mixedOrders=true:=by kernel_rfl
section
variable{M:Mx}{q:Vs}{w:World}{X:Nat->Prop}{s:Sg}{left:Nat}{calls:Int}
theorem RD(H:MS M X q s 0 calls w):Calls prog 282 #[.pointer (some ⟨M.mb,0,none⟩)] w fun e w'=>e= .panicked (lC 12)/\aA w w':=by
 obtain⟨c0,c1,c2,c3⟩:=H.cells;have hd:decide (M.fuel-((0:Nat):Int)<M.fuel)=false:=by simp
 generalize M.fuel-((0:Nat):Int)=u at*;go_enter func282,ntmps282;go_wp2;go_still_tail 9,gD;go_wp2_with (go_at_call 287;refine(jH _ _).mono ?_;rintro e w3 ⟨rfl,h3⟩;replace h3:=h3.symm;subst h3);exact⟨rfl,rfl,Kp.drew _⟩
theorem MU(H:MS M X q s (left+1) calls w):Calls prog 282 #[.pointer (some ⟨M.mb,0,none⟩)] w fun e w'=>e= .returned (.tuple #[])/\MS M X q s left calls w'/\dG M q w q w':=by
 have HD:=H.quiet (Kp.drew w);obtain⟨c0,c1,c2,c3⟩:=H.cells;obtain⟨d0,d1,d2,d3⟩:=HD.cells;have hd:decide (M.fuel-((left+1:Nat):Int)<M.fuel)=true:=by simp;omega
 have hf:=H.fu;have hl:=H.lf;have hfz:=fun j=>aG w.drew M.mb j _ 337 HD.ma;have hsz:=ae HD.ma;have HU:=hid (show M.fuel-((left+1:Nat):Int)+1=M.fuel-(left:Int)by omega);have hw:IntKind.i64.wrap (M.fuel-((left+1:Nat):Int)+1)=M.fuel-((left+1:Nat):Int)+1:=by rw[eQ];omega
 have HM:=hid HD.ma;have HH:=hid HD;generalize M.fuel-((left+1:Nat):Int)=u at*;clear HD H;go_enter func282,ntmps282;go_wp2;go_still_tail 9,gD;go_wp2_with (go_at_call 287;refine(fT _ _).mono ?_;rintro e w3 ⟨rfl,h3⟩;replace h3:=h3.symm;subst h3);go_end0;have hk:=bF w.drew M.mb 2 (.int .i64 (u+1));obtain⟨h1,h2⟩:=HH.out.put (left':=left) (calls':=calls) hk (by rw[<-HU.out];simp[World.setCell,aR,HM.out]) (by omega);exact⟨rfl,h1,(dG.quiet M q (Kp.drew w)).trans h2⟩
theorem mI(H:MS M X q s left calls w)(hc:calls<20):Calls prog 299 #[.pointer (some ⟨M.mb,0,none⟩)] w fun e w'=>e= .returned (.tuple #[])/\w'=w:=by
 obtain⟨c0,c1,c2,c3⟩:=H.cells;have hd:decide (calls<20)=true:=by simpa using hc
 clear hc;go_enter func299,ntmps299;go_wp2_with (go_at_call 287;refine(fT _ _).mono ?_;rintro e w3 ⟨rfl,h3⟩;replace h3:=h3.symm;subst h3);go_end0;exact⟨rfl,rfl⟩
theorem xz(H:MS M X q s left calls w)(hc:¬calls<20):Calls prog 299 #[.pointer (some ⟨M.mb,0,none⟩)] w fun e w'=>e= .panicked (lC 4)/\w'=w:=by
 obtain⟨c0,c1,c2,c3⟩:=H.cells;have hd:decide (calls<20)=false:=by simpa using hc
 clear hc;go_enter func299,ntmps299;go_wp2_with (go_at_call 287;refine(jH _ _).mono ?_;rintro e w3 ⟨rfl,h3⟩;replace h3:=h3.symm;subst h3);exact⟨rfl,rfl,rfl⟩
def nT(bit:Nat)(r:Int):Prop:=(bit=0/\r=1)\/(bit=1/\r=2)\/(bit=3/\r=8)
theorem Qz{bit:Nat}{r:Int}(h:nT bit r)(n:Nat)(hn:n<=15):(bits .and .i64 (n:Int) r==r)=n.testBit bit:=by
 have h0:∀q:Fin 16,(bits .and .i64 (q.val:Int) 1==1)=q.val.testBit 0:=by decide+kernel
 have h1:∀q:Fin 16,(bits .and .i64 (q.val:Int) 2==2)=q.val.testBit 1:=by decide+kernel
 have h3:∀q:Fin 16,(bits .and .i64 (q.val:Int) 8==8)=q.val.testBit 3:=by decide+kernel
 rcases h with⟨rfl,rfl⟩|⟨rfl,rfl⟩|⟨rfl,rfl⟩;exact h0 ⟨n,by omega⟩;exact h1 ⟨n,by omega⟩;exact h3 ⟨n,by omega⟩
theorem Bb{bit:Nat}{r:Int}(h:nT bit r)(n:Nat)(hn:n<=15)(w:World):Calls prog 153 #[.int .i64 n,.int .i64 r] w fun e w'=>e= .returned (.bool (n.testBit bit))/\w'=w:=by
 have hE:=hid (Qz h n hn);go_enter func153,ntmps153;go_wp2;go_ret;exact⟨by rw[<-hE.out];rfl,rfl⟩
theorem Ab{bit:Nat}{r:Int}(H:MS M X q s left calls w)(hb:nT bit r)(n:Int)(hr:(bS s.ns s.os n).testBit bit=false):Calls prog 307 #[.pointer (some ⟨M.mb,0,none⟩),.int .i64 n,.int .i64 r] w fun e w'=>e= .panicked (lC 9)/\aA w w':=by
 have q1:aA w (w.alloc (.cells nd0.cells.toArray 207)):=Kp.alloc w _;have H1:=H.quiet q1;obtain⟨c0,c1,c2,c3⟩:=H1.cells;obtain⟨b0,b1⟩:=H1.ZP;have HR:=hid (Gr.aao H1.gs.1 H1.gs.2 n);have HB:=hid (fun w=>Bb hb _ (Gr.aaI s.ns s.os n) w);rw[hr]at HB;simp only[Gr.Nd.cells,nd0]at q1 HR c0 c1 c2 c3 b0 b1;have Q1:=hid q1;generalize bS s.ns s.os n=rn at*;clear H1 H q1 hr;go_enter func307,ntmps307;go_wp2_with (first
  |(go_at_call 287;refine(jH _ _).mono ?_;rintro e w4 ⟨rfl,h4⟩;replace h4:=h4.symm;subst h4)
  |(go_at_call 153;refine(HB.out _).mono ?_;rintro e w3 ⟨rfl,h3⟩;replace h3:=h3.symm;subst h3)
  |(go_at_call 312;refine HR.out.mono ?_;rintro e w2 ⟨rfl,q2⟩))
 exact⟨rfl,rfl,Q1.out.trans q2⟩
theorem TQ{w:World}{g:Nat}{x0 x1 x2 x3 x4 x5:Value}{t:TypeId}(h:w.heap[g]?=some (.cells #[x0,x1,x2,x3,x4,x5] t (0,0)))(t0 t1 t2 t3 t4 t5:Value):
 ((((((w.setCell ⟨g,0,none⟩ t0).setCell ⟨g,1,none⟩ t1).setCell ⟨g,2,none⟩ t2).setCell ⟨g,3,none⟩ t3).setCell ⟨g,4,none⟩ t4).setCell ⟨g,5,none⟩ t5).heap[g]?=some (.cells #[t0,t1,t2,t3,t4,t5] t (0,0)):=by
 simp[World.setCell,aR,h]
theorem jZ{bit:Nat}{r:Int}(H:MS M X q s left calls w)(hb:nT bit r)(n:Int)(hr:(bS s.ns s.os n).testBit bit=true):Calls prog 307 #[.pointer (some ⟨M.mb,0,none⟩),.int .i64 n,.int .i64 r] w fun e w'=>e= .returned (YS s.ns n).agg/\aA w w':=by
 have q1:aA w (w.alloc (.cells nd0.cells.toArray 207)):=Kp.alloc w _;have B1:=ah w (.cells nd0.cells.toArray 207);have H1:=H.quiet q1;obtain⟨c0,c1,c2,c3⟩:=H1.cells;obtain⟨b0,b1⟩:=H1.ZP;have HR:=hid (Gr.aao H1.gs.1 H1.gs.2 n);have HT:=hid (fun(w':World) (k:aA _ w')=>dX (Gr.aaW (H1.quiet k).gs.1 (H1.quiet k).gs.2 n) (dX (H1.quiet k).cells.1 (dX (H1.quiet k).ZP.1 ((k.block _ (ae B1) fun e=>e).trans B1))));have HB:=hid (fun w=>Bb hb _ (Gr.aaI s.ns s.os n) w);rw[hr]at HB;simp only[Gr.Nd.cells,nd0]at q1 HR c0 c1 c2 c3 b0 b1 HT;have Q1:=hid q1;generalize bS s.ns s.os n=rn at*;generalize YS s.ns n=tn at*;obtain⟨t0,t1,t2,t3,t4,t5⟩:=tn;simp only[Gr.Nd.agg]at HT|-;generalize YT s.ns.length n=bt at*;clear H1 H q1 hr B1;go_enter func307,ntmps307;go_wp2_with (first
  |(go_at_call 227;refine(HT.out _ q2).1.mono ?_;rintro e w5 ⟨rfl,q5⟩;have hb5:=(HT.out _ (q2.trans q5)).2.2.2;obtain⟨z0,z1,z2,z3,z4,z5⟩:=Gr.six hb5;obtain⟨f0,f1,f2,f3,f4,f5⟩:=Gr.adM hb5;have hz:=ae hb5;have HB5:=hid hb5;clear hb5)
  |(go_at_call 287;refine(fT _ _).mono ?_;rintro e w4 ⟨rfl,h4⟩;replace h4:=h4.symm;subst h4)
  |(go_at_call 153;refine(HB.out _).mono ?_;rintro e w3 ⟨rfl,h3⟩;replace h3:=h3.symm;subst h3)
  |(go_at_call 312;refine HR.out.mono ?_;rintro e w2 ⟨rfl,q2⟩;have d0:=(HT.out _ q2).2.1;have d1:=(HT.out _ q2).2.2.1))
 have hb6:=TQ HB5.out (.int .i64 t0) (.int .i64 t1) (.int .i64 t2) (.int .i64 t3) (.int .i64 t4) (.int .i64 t5);have q6:=Gr.acI (Q1.out.trans (q2.trans q5)) (.int .i64 t0) (.int .i64 t1) (.int .i64 t2) (.int .i64 t3) (.int .i64 t4) (.int .i64 t5);generalize(((((w5.setCell ⟨w.heap.size,0,none⟩ (.int .i64 t0)).setCell ⟨w.heap.size,1,none⟩ (.int .i64 t1)).setCell ⟨w.heap.size,2,none⟩ (.int .i64 t2)).setCell ⟨w.heap.size,3,none⟩ (.int .i64 t3)).setCell ⟨w.heap.size,4,none⟩ (.int .i64 t4)).setCell ⟨w.heap.size,5,none⟩ (.int .i64 t5)=W6 at*;obtain⟨y0,y1,y2,y3,y4,y5⟩:=Gr.six ((aB W6 (.cells #[.int .i64 t0,.int .i64 t1,.int .i64 t2,.int .i64 t3,.int .i64 t4,.int .i64 t5] 207) _ (ae hb6)).trans hb6);refine au (v:= .agg #[.int .i64 t0,.int .i64 t1,.int .i64 t2,.int .i64 t3,.int .i64 t4,.int .i64 t5]) (by simp[results,results307,go_sem,y0,y1,y2,y3,y4,y5]) rfl ⟨rfl, ?_⟩;exact q6.trans (Kp.alloc _ _)
end
def XL(r:Except Int Int):Ending:=match r with
 | .ok c=> .returned (.int .i64 c)
 | .error c=> .panicked (lC c)
section
variable{M:Mx}{q:Vs}{w:World}{X:Nat->Prop}{s:Sg}{left:Nat}{calls:Int}
theorem uA{bit:Nat}{r:Int}(H:MS M X q s left calls w)(hb:nT bit r)(n:Int):Calls prog 304 #[.pointer (some ⟨M.mb,0,none⟩),.int .i64 n,.int .i64 r] w fun e w'=>e=XL (iG s (iw n) bit)/\aA w w':=by
 cases hr:(bS s.ns s.os n).testBit bit with
 |false=>
  have HE:=hid (show iG s (iw n) bit= .error 9 by simp[iG,iw,hr]);have HT:=hid (Ab H hb n hr);clear hr;go_enter func304,ntmps304;go_wp2_with (go_at_call 307;refine HT.out.mono ?_;rintro e w2 ⟨rfl,q2⟩);exact⟨rfl,by rw[HE.out];rfl,q2⟩
 |true=>
  have HT:=hid (jZ H hb n hr);by_cases hp:0<=(YS s.ns n).plugin
  ·have HE:=hid (show iG s (iw n) bit= .error 2 by simp[iG,iw,hr,hp]);generalize YS s.ns n=tn at*;have HF:=hid (fun w=>jr tn w);rw[decide_eq_true hp]at HF;obtain⟨t0,t1,t2,t3,t4,t5⟩:=tn;simp only[Gr.Nd.agg]at HT HF;clear hr hp;go_enter func304,ntmps304;go_wp2_with (first
    |(go_at_call 287;refine(jH _ _).mono ?_;rintro e w4 ⟨rfl,h4⟩;replace h4:=h4.symm;subst h4)
    |(go_at_call 308;refine(HF.out _).mono ?_;rintro e w3 ⟨rfl,q3⟩)
    |(go_at_call 307;refine HT.out.mono ?_;rintro e w2 ⟨rfl,q2⟩))
   exact⟨rfl,by rw[HE.out];rfl,(q2.trans (Kp.alloc _ _)).trans q3⟩
  ·have HE:=hid (show iG s (iw n) bit= .ok (YS s.ns n).cell by simp[iG,iw,hr,hp]);generalize YS s.ns n=tn at*;have HF:=hid (fun w=>jr tn w);rw[decide_eq_false hp]at HF;obtain⟨t0,t1,t2,t3,t4,t5⟩:=tn;simp only[Gr.Nd.agg]at HT HF;clear hr hp;go_enter func304,ntmps304;go_wp2_with (first
    |(go_at_call 287;refine(fT _ _).mono ?_;rintro e w4 ⟨rfl,h4⟩;replace h4:=h4.symm;subst h4)
    |(go_at_call 308;refine(HF.out _).mono ?_;rintro e w3 ⟨rfl,q3⟩;obtain⟨y0,y1,y2,y3,y4,y5⟩:=Gr.six ((q3.block _ (by simp) fun e=>e).trans (ah w2 (.cells #[.int .i64 t0,.int .i64 t1,.int .i64 t2,.int .i64 t3,.int .i64 t4,.int .i64 t5] 207))))
    |(go_at_call 307;refine HT.out.mono ?_;rintro e w2 ⟨rfl,q2⟩))
   go_ret;exact⟨by rw[HE.out];rfl,(q2.trans (Kp.alloc _ _)).trans q3⟩
theorem NR{ns:List Nd}{os:List Bool}(h:Wf ns os.length)(hl:ns.length<=80)(p r g:Int):Wf (aS ns os p r g).ns (aS ns os p r g).os.length:=by
 rw[CE];exact(ow h hl p r g).1.wf
theorem tF(H:MS M X q s left calls w)(n r g:Int):Calls prog 297 #[.pointer (some ⟨M.mb,0,none⟩),.int .i64 n,.int .i64 r,.int .i64 g] w fun e w'=>MQ M X q calls (jf (aS s.ns s.os n r g) left s) w e w':=by
 obtain⟨W,hW⟩:∃W,W=w.alloc (.cells #[.int .i64 0,.int .i64 0,.slice none 0 0] 71):=⟨_,rfl⟩;have qW:aA w W:=by rw[hW];exact Kp.alloc _ _
 have bW:W.heap[w.heap.size]?=some (.cells #[.int .i64 0,.int .i64 0,.slice none 0 0] 71 (0,0)):=by rw[hW];exact ah w _
 have H1:MS M (fun k=>X k\/k=w.heap.size) q s left calls W:=H.step qW (fun k hk e=>by rcases e with e|e;exact e;omega) (.inl H.xm) (fun k e=>by rcases e with e|e;exact az (H.xo k e) qW.size;rw[e];exact ae bW);obtain⟨c0,c1,c2,c3⟩:=H1.cells;obtain⟨b0,b1⟩:=H1.ZP;have HN:=hid (NR H1.gs.2 H1.gs.1.ln n r g);have HD:=hid (Gr.aaV H1.gs.1 n r g);have HH:=Dq H1 qW bW H.xm hW (H1.free bW (by decide) (by decide) (by decide) (by decide) (by decide) (by decide));have HO:=hid (show jf (aS s.ns s.os n r g) left s=jf (aS s.ns s.os n r g) left s from rfl);unfold Gr.ZL at HD;have abZ:=BA s.ns s.os n r g H1.gs.1.ln;generalize aS s.ns s.os n r g=R at*;obtain⟨rn,rc,rns,ros⟩:=R;simp only at HD HN abZ;rw[hW]at HD c0 c1 c2 c3 b0 b1;have hmb:w.heap.size≠M.mb:=fun e=>by have:=ae H.ma;omega
 clear H H1 qW bW hW;by_cases hc:rc=0
 ·subst hc;go_enter func297,ntmps297;go_wp2_with (first
   |(go_at_call 287;refine(fT _ _).mono ?_;rintro e w4 ⟨rfl,h4⟩;replace h4:=h4.symm;subst h4)
   |(go_at_call 306;refine HD.out.mono ?_;rintro e w2 ⟨rfl,Y4,Y3,hg2,go2⟩;rw[<-HH.out.2.2.2.2.1]at go2;have hx:=HH.out.1.graph go2 hg2 HN.out;have hb2:=hx.2.block HH.out.2.2.1 HH.out.2.2.2.2.2 hmb;obtain⟨m0,m1,m2⟩:=aM hb2.1;obtain⟨f0,f1,f2⟩:=bI hb2.1;have hz:=ae hb2.1;have HX:=bC hx hb2;clear hx hb2 hg2 go2))
  refine au (v:= .agg #[.int .i64 4,.int .i64 rn,.slice none 0 0]) (by simp[results,results297,go_sem,m0,m1,m2]) rfl ?_;obtain⟨⟨hx1,hx2⟩,hx3,hx4⟩:=HX.out;have hk:=dE w2 w.heap.size (.int .i64 4) (.int .i64 rn) (.slice none 0 0);refine MQ.ZZ (q':=⟨Y4,Y3,q.l⟩) (v:=iw rn) (ao:=none) (cap:=0) rfl ((hx2.after HH.out.2.1).fresh (hk.mono fun k _ e=>by omega)) ?_ rfl (dY _ ⟨iP 4 (by decide),abZ⟩ rfl none);refine MS.less (X:=fun k=>X k\/k=w.heap.size) (hx1.beside hk (fun k e=> .inr e) (fun e=>hmb e.symm) (fun k hk2 e=>hx4 (e▸hk2)) (fun k cs t hk2 ht e=> ?_)) (fun k e=> .inl e) HH.out.2.2.2.1;rw[e,hx3]at hk2;simp at hk2;rcases ht with ht|ht<;>rw[ht]at hk2<;>exact absurd hk2.2 (by decide)
 ·have hcb:(rc==0)=false:=by simpa using hc
  have HC:=hid hc;clear hc;go_enter func297,ntmps297;go_wp2_with (first
   |(go_at_call 287;refine(jH _ _).mono ?_;rintro e w4 ⟨rfl,h4⟩;replace h4:=h4.symm;subst h4)
   |(go_at_call 306;refine HD.out.mono ?_;rintro e w2 ⟨rfl,Y4,Y3,hg2,go2⟩;rw[<-HH.out.2.2.2.2.1]at go2;have hx:=HH.out.1.graph go2 hg2 HN.out;have HX:=hid hx;clear hx hg2 go2))
  have ho:jf ⟨rn,rc,rns,ros⟩ left s=bad rc left {s with ns:=rns,os:=ros}:=by unfold jf;rw[af HC.out]
  refine⟨rfl,MQ.Y9 (q':=⟨Y4,Y3,q.l⟩) (calls':=calls) (c:=rc) (by rw[ho];rfl) (HX.out.2.after HH.out.2.1) ?_ rfl⟩;rw[ho];exact HX.out.1.less (fun k e=> .inl e) HH.out.2.2.2.1
theorem MS.ext{w':World}(H:MS M X q s left calls w)(k:aA w w')(b:Nat)(hb:w.heap.size<=b)(hlt:b<w'.heap.size):MS M (fun k=>X k\/k=b) q s left calls w':=
 H.step k (fun k hk e=>by rcases e with e|e;exact e;omega) (.inl H.xm) fun i e=>by rcases e with e|e;exact az (H.xo i e) k.size;rw[e];exact hlt
theorem MS.apart(H:MS M X q s left calls w){b:Nat}{cs:Array Value}(hb:w.heap[b]?=some (.cells cs 71 (0,0))):b≠M.mb/\¬M.own q b:=
 ⟨fun e=>by rw[e,H.ma]at hb;simp at hb,H.free hb (by decide) (by decide) (by decide) (by decide) (by decide) (by decide)⟩
theorem MS.aai{w':World}{b:Nat}{cs:Array Value}(H:MS M (fun k=>X k\/k=b) q s left calls w)(k:Kp (fun k=>k=b) w w')(hb:w.heap[b]?=some (.cells cs 71 (0,0)))(hx:X M.mb):MS M X q s left calls w':=by
 obtain⟨h1,h2⟩:=H.apart hb;refine MS.less (X:=fun k=>X k\/k=b) (H.beside k (fun k e=> .inr e) (fun e=>h1 e.symm) (fun k hk e=>h2 (e▸hk)) (fun i cs' t hi ht e=> ?_)) (fun k e=> .inl e) hx;rw[e,hb]at hi;simp at hi;rcases ht with ht|ht<;>rw[ht]at hi<;>exact absurd hi.2 (by decide)
theorem pz{w':World}{b:Nat}{P:World->Prop}(h:bu (fun k=>M.own q k\/(X k\/k=b)) P w)(k:Kp (fun k=>k=b) w w'):bu (fun k=>M.own q k\/X k) P w':=
 h.step (k.mono fun k _ e=> .inr (.inr e)) fun k _ e=>by rcases e with e|e;exact .inl e;exact .inr (.inl e)
theorem qI{w':World}{b:Nat}{P:World->Prop}(h:bu (fun k=>M.own q k\/X k) P w)(k:aA w w')(hb:w.heap.size<=b):bu (fun k=>M.own q k\/(X k\/k=b)) P w':=
 h.step (k.mono fun _ _ e=>e.elim) fun k hk e=>by
  rcases e with e|e|e;exact .inl e;exact .inr e;omega
theorem MS.Z8(H:MS M X q s left calls w)(k:Nat)(hk:M.own q k\/X k):k<w.heap.size:=by
 rcases hk with hk|hk;obtain⟨a,b,c,d,hb,_⟩:=H.box;exact(hb.own k hk).2;exact H.xo k hk
def ug(n:Int)(left:Nat)(s:Sg):Out:=
 if(bJ s.ns s.os).code=0 then(jf (aS s.ns (bJ s.ns s.os).os n 15 (bJ s.ns s.os).num) left {s with os:=(bJ s.ns s.os).os}).then fun v left' s'=>okV ⟨2,0,[v,⟨5,(bJ s.ns s.os).num,[]⟩]⟩ left' s'
 else bad (bJ s.ns s.os).code left s
theorem Ue(ns:List Nd)(os:List Bool):(bJ ns os).ns=ns/\((bJ ns os).code≠0->(bJ ns os).os=os)/\os.length<=(bJ ns os).os.length/\(os.length<=20->dH (bJ ns os).num):=by
 unfold bJ dH;split;exact⟨rfl,fun _=>rfl,aj _,fun _=>by simp⟩;exact⟨rfl,fun h=>absurd rfl h,by simp,fun h=>by simp only;omega⟩
theorem Dp(H:MS M X q s left calls w)(n:Int):Calls prog 298 #[.pointer (some ⟨M.mb,0,none⟩),.int .i64 n] w fun e w'=>MQ M X q calls (ug n left s) w e w':=by
 obtain⟨W,hW⟩:∃W,W=w.alloc (.cells #[.int .i64 0,.int .i64 0,.slice none 0 0] 71):=⟨_,rfl⟩;have qW:aA w W:=by rw[hW];exact Kp.alloc _ _
 have bW:W.heap[w.heap.size]?=some (.cells #[.int .i64 0,.int .i64 0,.slice none 0 0] 71 (0,0)):=by rw[hW];exact ah w _
 have H1:=H.ext qW w.heap.size (aj _) (ae bW);obtain⟨c0,c1,c2,c3⟩:=H1.cells;obtain⟨b0,b1⟩:=H1.ZP;have HG:=hid (Gr.aaU H1.gs.1);obtain⟨g1,g2,g3,g4⟩:=Ue s.ns s.os;have abZ:=g4 H1.gs.1.lg;have HH:=Wp H1 qW bW H.xm hW g2 abZ (H1.gs.2.more g3);unfold ug;generalize hR:bJ s.ns s.os=R at*;obtain⟨rn,rc,rns,ros⟩:=R;simp only at g1;subst g1;simp only at HG HH|-;rw[hW]at HG c0 c1 c2 c3 b0 b1;clear H H1 qW bW hW g2 g3 g4 abZ hR;by_cases hc:rc=0
 ·subst hc;simp only[if_true];obtain⟨o,ho⟩:∃o,o=jf (aS s.ns ros n 15 rn) left {s with os:=ros}:=⟨_,rfl⟩;have HD:=hid (fun(w2:World) (q2:Vs) (h:MS M (fun k=>X k\/k=w.heap.size) q2 {s with ns:=s.ns,os:=ros} left calls w2)=>(show Calls prog 297 #[.pointer (some ⟨M.mb,0,none⟩),.int .i64 n,.int .i64 15,.int .i64 rn] w2 fun e w'=>MQ M (fun k=>X k\/k=w.heap.size) q2 calls o w2 e w' by rw[ho];exact tF h n 15 rn));rw[<-ho];clear ho;cases hg:o.got with
  |error c=>
   have HO:=hid hg;have HT:=hid (show(o.then fun v left' s'=>okV ⟨2,0,[v,⟨5,rn,[]⟩]⟩ left' s')=o by unfold Out.then;rw[hg]);clear hg;go_enter func298,ntmps298;go_wp2_with (first
    |(go_at_call 297;refine(HD.out _ _ HX.out.1).mono ?_;rintro e w5 h5;obtain⟨rfl,q5,abp,g5,m5⟩:=h5.bad HO.out;have H5:=bC g5 m5;clear h5 g5 m5)
    |(go_at_call 287;refine(fT _ _).mono ?_;rintro e w4 ⟨rfl,h4⟩;replace h4:=h4.symm;subst h4)
    |(go_at_call 194;refine HG.out.mono ?_;rintro e w2 ⟨rfl,Y3,hg2,go2⟩;rw[<-HH.out.2.2.2.2.1]at go2;have hx:=HH.out.1.graph go2 hg2 HH.out.2.2.2.2.2.2.2;have HX:=hid hx;clear hx hg2 go2))
   refine⟨rfl, ?_⟩;rw[HT.out];exact MQ.Y9 (q':=q5) (calls':=abp) HO.out ((HX.out.2.after HH.out.2.1).trans H5.out.1) (H5.out.2.less (fun k e=> .inl e) HH.out.2.2.2.1) rfl
  |ok v=>
   have HO:=hid hg;have HT:=hid (show(o.then fun v left' s'=>okV ⟨2,0,[v,⟨5,rn,[]⟩]⟩ left' s')=okV ⟨2,0,[v,⟨5,rn,[]⟩]⟩ o.left o.s by unfold Out.then;rw[hg]);clear hg;go_enter func298,ntmps298;go_wp2_with (first
    |(go_at_call 292;refine(xM (fun k=>M.own q5 k\/(X k\/k=w.heap.size)) v ⟨5,rn,[]⟩ a5 none c5 0 _ H5.out.2.1.Z8 H5.out.2.2 (dY _ ⟨iP 5 (by decide),HH.out.2.2.2.2.2.2.1⟩ rfl none)).mono ?_;rintro e w6 ⟨a6,rfl,h6,k6⟩;have hb6:=(k6.block _ (ae HB5.out) fun e=>e).trans HB5.out;obtain⟨m0,m1,m2⟩:=aM hb6;obtain⟨f0,f1,f2⟩:=bI hb6;have hz:=ae hb6;have H6:=gp h6 k6 hb6;clear h6 k6 hb6)
    |(go_at_call 297;refine(HD.out _ _ HX.out.1).mono ?_;rintro e w5 h5;obtain⟨q5,a5,c5,rfl,g5,m5,s5⟩:=h5.ok HO.out;have hb2:=(HX.out.2.block HH.out.2.2.1 (HH.out.1.apart HH.out.2.2.1).2 (HH.out.1.apart HH.out.2.2.1).1);have hb5:=g5.block hb2.1 hb2.2 (HH.out.1.apart HH.out.2.2.1).1;have HB5:=hid hb5.1;have H5:=gp g5 m5 s5;clear h5 g5 m5 s5 hb2 hb5)
    |(go_at_call 287;refine(fT _ _).mono ?_;rintro e w4 ⟨rfl,h4⟩;replace h4:=h4.symm;subst h4)
    |(go_at_call 194;refine HG.out.mono ?_;rintro e w2 ⟨rfl,Y3,hg2,go2⟩;rw[<-HH.out.2.2.2.2.1]at go2;have hx:=HH.out.1.graph go2 hg2 HH.out.2.2.2.2.2.2.2;have HX:=hid hx;clear hx hg2 go2))
   refine au (v:= .agg #[.int .i64 2,.int .i64 0,.slice a6 2 2]) (by simp[results,results298,go_sem,m0,m1,m2]) rfl ?_;have hk:=dE w6 w.heap.size (.int .i64 2) (.int .i64 0) (.slice a6 2 2);rw[HT.out];obtain⟨h6,k6,hb6⟩:=H6.out;refine MQ.ZZ (q':=q5) (v:=⟨2,0,[v,⟨5,rn,[]⟩]⟩) (ao:=a6) (cap:=2) rfl ((((HX.out.2.after HH.out.2.1).trans H5.out.1).trans (dG.quiet M q5 k6)).fresh (hk.mono fun k _ e=>by omega)) ?_ rfl (pz h6 hk);exact(H5.out.2.1.quiet k6).aai hk hb6 HH.out.2.2.2.1
 ·have hcb:(rc==0)=false:=by simpa using hc
  rw[af hc];have HC:=hid hc;clear hc;go_enter func298,ntmps298;go_wp2_with (first
   |(go_at_call 287;refine(jH _ _).mono ?_;rintro e w4 ⟨rfl,h4⟩;replace h4:=h4.symm;subst h4)
   |(go_at_call 194;refine HG.out.mono ?_;rintro e w2 ⟨rfl,Y3,hg2,go2⟩;rw[<-HH.out.2.2.2.2.1]at go2;have hx:=HH.out.1.graph go2 hg2 HH.out.2.2.2.2.2.2.2;have HX:=hid hx;clear hx hg2 go2))
  refine⟨rfl,MQ.Y9 (q':=⟨q.n,Y3,q.l⟩) (calls':=calls) rfl (HX.out.2.after HH.out.2.1) ?_ rfl⟩;have h1:=HX.out.1;rw[HH.out.2.2.2.2.2.1 HC.out]at h1;exact h1.less (fun k e=> .inl e) HH.out.2.2.2.1
end
theorem kz{w:World}{g:Nat}{x0 x1 x2:Value}{t:TypeId}(h:w.heap[g]?=some (.cells #[x0,x1,x2] t (0,0)))(t0 t1 t2:Value):(((w.setCell ⟨g,0,none⟩ t0).setCell ⟨g,1,none⟩ t1).setCell ⟨g,2,none⟩ t2).heap[g]?=some (.cells #[t0,t1,t2] t (0,0)):=by
 simp[World.setCell,aR,h]
theorem MS.turn{M:Mx}{X X' F:Nat->Prop}{q:Vs}{s:Sg}{left:Nat}{calls:Int}{w w':World}(H:MS M X q s left calls w)(k:Kp F w w')(hX:∀k,F k->X k)(hm:¬F M.mb)(ho:∀k,M.own q k->¬F k)(hI:∀(k:Nat) (cs:Array Value) (t:TypeId),w.heap[k]?=some (.cells cs t (0,0))->t=334\/t=328->¬F k)
 (hX':∀k,k<w.heap.size->X' k->X k) (xm:X' M.mb) (xo:∀k,X' k->k<w'.heap.size):MS M X' q s left calls w':=by
 obtain⟨a,b,c,d,hb,hk⟩:=H.box;obtain⟨h1,_⟩:=vL hb hk k hX ho hI;refine⟨⟨a,b,c,d,h1,fun x hx=>(hk x hx).step (k.mono fun i _ e=> .inr (hX i e)) fun i hi e=> ?_⟩,(k.block _ (ae H.ma) hm).trans H.ma,xm,xo,H.fu,H.lf,H.ci⟩;rcases e with e|e;exact .inl e;exact .inr (hX' i hi e)
structure Cx where
 m:Mx
 fb:Nat
 fr:Nat
 j:Nat
 arg:V
 aa:Option Addr
 ac:Nat
 X:Nat->Prop
 q0:Vs
 w0:World
 bs:List (Nat×Array Value×TypeId)
structure Rw where
 sa:Option Addr
 n:Nat
 sc:Nat
 ps:List Kd
 na:Option Addr
 m:Nat
 nc:Nat
 qs:List Kd
def Cx.x(C:Cx)(R:Rw)(k:Nat):Prop:=C.X k\/k=C.fb\/blk R.sa R.n R.sc=some k\/blk R.na R.m R.nc=some k
def Cx.ext(C:Cx)(b:Nat)(cs:Array Value)(t:TypeId):Cx:={C with X:=fun k=>C.X k\/k=b,bs:=(b,cs,t)::C.bs}
def R5(t:TypeId):Prop:=t=71\/t=334
theorem R5.ne{t:TypeId}(h:R5 t):t≠145/\t≠184/\t≠207/\t≠4/\t≠187/\t≠101/\t≠337/\t≠355:=by
 rcases h with rfl|rfl<;>decide
theorem MS.loc{M:Mx}{X:Nat->Prop}{q:Vs}{s:Sg}{left:Nat}{calls:Int}{w:World}(H:MS M X q s left calls w){b:Nat}{cs:Array Value}{t:TypeId}(hb:w.heap[b]?=some (.cells cs t (0,0)))(ht:R5 t):b≠M.mb/\¬M.own q b:=by
 obtain⟨h0,h1,h2,h3,h4,h5,h6,_⟩:=ht.ne;exact⟨fun e=>by rw[e,H.ma]at hb;simp at hb;exact h6 hb.2.symm,H.free hb h0 h1 h2 h3 h4 h5⟩
structure Zb(C:Cx)(q:Vs)(s:Sg)(left:Nat)(R:Rw)(w:World):Prop where
 m:MS C.m (C.x R) q s left C.fr w
 fr:w.heap[C.fb]?=some (.cells #[.pointer (some ⟨C.m.mb,0,none⟩),.int .i64 C.j,.int .i64 C.arg.kind,.int .i64 C.arg.n,.slice C.aa C.arg.l.length C.ac,.slice R.na R.m R.nc,.slice R.sa R.n R.sc] 355 (0,0))
 two:Two (fun k=>C.m.own q k\/C.X k\/k=C.fb) C.w0.heap.size w R.sa R.n R.sc R.ps R.na R.m R.nc R.qs
 arg:bu (fun k=>C.m.own q k\/C.x R k) (fun w=>Is w C.arg C.aa) w
 xm:C.X C.m.mb
 xr:∀k,C.X k->blk R.sa R.n R.sc≠some k/\blk R.na R.m R.nc≠some k
 lo:C.w0.heap.size<=C.fb
 went:dG C.m C.q0 C.w0 q w
 st:∀p∈C.bs,w.heap[p.1]?=some (.cells p.2.1 p.2.2 (0,0))/\C.X p.1/\R5 p.2.2
def mr(C:Cx)(s:Sg)(left:Nat)(w:World):Prop:=∃q' calls',dG C.m C.q0 C.w0 q' w/\MS C.m C.X q' s left calls' w
section
variable{C:Cx}{q q':Vs}{s s':Sg}{left left':Nat}{R R':Rw}{w w':World}
theorem Zb.abH(H:Zb C q s left R w):¬C.m.own q C.fb/\C.fb≠C.m.mb:=by
 refine⟨H.m.free H.fr (by decide) (by decide) (by decide) (by decide) (by decide) (by decide),fun e=> ?_⟩;have h1:=H.fr;rw[e,H.m.ma]at h1;simp at h1
theorem Zb.Zr(H:Zb C q s left R w)(k:Nat)(hk:blk R.sa R.n R.sc=some k\/blk R.na R.m R.nc=some k):¬C.m.own q k/\k≠C.m.mb/\k≠C.fb/\¬C.X k/\C.w0.heap.size<=k/\k<w.heap.size/\∃cs,w.heap[k]?=some (.cells cs 71 (0,0)):=by
 have hc:∃cs,w.heap[k]?=some (.cells cs 71 (0,0)):=by
  rcases hk with hk|hk;exact wB H.two.rs hk;exact wB H.two.rn hk
 have hl:C.w0.heap.size<=k/\k<w.heap.size:=by
  rcases hk with hk|hk;exact H.two.rs.lt k hk;exact H.two.rn.lt k hk
 obtain⟨cs,hc'⟩:=hc;refine⟨(H.m.apart hc').2,(H.m.apart hc').1,fun e=> ?_,fun e=> ?_,hl.1,hl.2,cs,hc'⟩;rw[e,H.fr]at hc';simp at hc';rcases hk with hk|hk;exact(H.xr k e).1 hk;exact(H.xr k e).2 hk
theorem Zb.bad(H:Zb C q s left R w):mr C s left w:=⟨q,C.fr,H.went,H.m.less (fun _ e=> .inl e) H.xm⟩
theorem Zb.quiet(H:Zb C q s left R w)(k:aA w w'):Zb C q s left R w':=
 ⟨H.m.quiet k,(k.block _ (ae H.fr) fun e=>e).trans H.fr,H.two.quiet k,cu H.arg k,H.xm,H.xr,H.lo,H.went.trans (dG.quiet C.m q k),fun p hp=>⟨(k.block _ (ae (H.st p hp).1) fun e=>e).trans (H.st p hp).1,(H.st p hp).2⟩⟩
theorem Zb.abq(H:Zb C q s left R w)(g:dG C.m q w q' w')(h:MS C.m (C.x R) q' s' left' C.fr w'):Zb C q' s' left' R w':=by
 refine⟨h,(g.block H.fr H.abH.1 H.abH.2).1,H.two.goes (g.kp.mono fun _ _ e=> ?_) (fun k hk e=> ?_) (fun k e=> ?_),g.safe (.inl H.xm) H.arg,H.xm,H.xr,H.lo,H.went.trans g,fun p hp=>⟨(g.block (H.st p hp).1 (H.m.loc (H.st p hp).1 (H.st p hp).2.2).2 (H.m.loc (H.st p hp).1 (H.st p hp).2.2).1).1,(H.st p hp).2⟩⟩;rcases e with e|e;exact .inl e;exact .inr (.inl (e▸H.xm));obtain⟨h1,h2,h3,h4,_⟩:=H.Zr k hk;rcases e with e|e|e;exact h1 e;exact h4 e;exact h3 e;rcases e with e|e;rcases g.own k e with e|e;exact .inl (.inl e);exact .inr e;exact .inl (.inr e)
theorem Zb.acr{calls':Int}(H:Zb C q s left R w)(g:dG C.m q w q' w')(h:MS C.m (C.x R) q' s' left' calls' w'):mr C s' left' w':=
 ⟨q',calls',H.went.trans g,h.less (fun _ e=> .inl e) H.xm⟩
theorem Zb.turn(H:Zb C q s left R w)(k:Kp (fun k=>k=C.fb\/blk R.sa R.n R.sc=some k\/blk R.na R.m R.nc=some k) w w')
 (hf:w'.heap[C.fb]?=some (.cells #[.pointer (some ⟨C.m.mb,0,none⟩),.int .i64 C.j,.int .i64 C.arg.kind,.int .i64 C.arg.n,.slice C.aa C.arg.l.length C.ac,.slice R'.na R'.m R'.nc,.slice R'.sa R'.n R'.sc] 355 (0,0)))
 (ht:Two (fun k=>C.m.own q k\/C.X k\/k=C.fb) C.w0.heap.size w' R'.sa R'.n R'.sc R'.ps R'.na R'.m R'.nc R'.qs)
 (hr:∀k,blk R'.sa R'.n R'.sc=some k\/blk R'.na R'.m R'.nc=some k->(blk R.sa R.n R.sc=some k\/blk R.na R.m R.nc=some k)\/w.heap.size<=k):Zb C q s left R' w':=by
 have hX:∀i,i<w.heap.size->C.x R' i->C.x R i:=fun i hi e=>by
  rcases e with e|e|e;exact .inl e;exact .inr (.inl e);rcases hr i e with e|e;exact .inr (.inr e);omega
 have hxo:∀i,C.x R' i->i<w'.heap.size:=fun i e=>by
  rcases e with e|e|e;exact az (H.m.xo i (.inl e)) k.size;rw[e];exact ae hf;rcases e with e|e;exact(ht.rs.lt i e).2;exact(ht.rn.lt i e).2
 have hm:=H.m.turn (X':=C.x R') k (fun i e=> .inr e) (fun e=>by
  rcases e with e|e;exact H.abH.2 e.symm
  ·exact(H.Zr _ e).2.1 rfl) (fun i hi e=>by
  rcases e with e|e;exact H.abH.1 (e▸hi)
  ·exact(H.Zr _ e).1 hi) (fun i cs t hi ht e=>by
  rcases e with e|e;rw[e,H.fr]at hi;simp at hi;rcases ht with ht|ht<;>rw[ht]at hi<;>exact absurd hi.2 (by decide)
  ·obtain⟨_,_,_,_,_,_,cs',hc'⟩:=H.Zr i e;rw[hc']at hi;simp at hi;rcases ht with ht|ht<;>rw[ht]at hi<;>exact absurd hi.2 (by decide)) hX (.inl H.xm) hxo
 refine⟨hm,hf,ht, ?_,H.xm,fun i hi=> ?_,H.lo,H.went.fresh (k.mono fun i _ e=> ?_),fun p hp=>⟨(k.block _ (ae (H.st p hp).1) fun e=> ?_).trans (H.st p hp).1,(H.st p hp).2⟩⟩
 ·exact H.arg.step (k.mono fun i _ e=> .inr (.inr e)) fun i hi e=>by
   rcases e with e|e;exact .inl e;exact .inr (hX i hi e)
 ·refine⟨fun e=> ?_,fun e=> ?_⟩;rcases hr i (.inl e)with e|e;exact(H.Zr i e).2.2.2.1 hi;have:=H.m.xo i (.inl hi);omega;rcases hr i (.inr e)with e|e;exact(H.Zr i e).2.2.2.1 hi;have:=H.m.xo i (.inl hi);omega
 ·rcases e with e|e;rw[e];exact H.lo;exact(H.Zr i e).2.2.2.2.1
 ·rcases e with e|e;have h1:=(H.st p hp).1;rw[e,H.fr]at h1;simp at h1;exact(H.st p hp).2.2.ne.2.2.2.2.2.2.2 h1.2.symm;exact(H.Zr _ e).2.2.2.1 (H.st p hp).2.1
theorem Zb.pop{g n sc m nc:Nat}{ps qs:List Kd}{p:Kd}{na:Option Addr}(H:Zb C q s left ⟨some ⟨g,0,none⟩,n+1,sc,ps++[p],na,m,nc,qs⟩ w)(k:Kp (fun k=>k=C.fb) w w')
 (hf:w'.heap[C.fb]?=some (.cells #[.pointer (some ⟨C.m.mb,0,none⟩),.int .i64 C.j,.int .i64 C.arg.kind,.int .i64 C.arg.n,.slice C.aa C.arg.l.length C.ac,.slice na m nc,.slice (some ⟨g,0,none⟩) n sc] 355 (0,0))):
 Zb C q s left ⟨some ⟨g,0,none⟩,n,sc,ps,na,m,nc,qs⟩ w'/\bu (fun k=>C.m.own q k\/C.x ⟨some ⟨g,0,none⟩,n,sc,ps,na,m,nc,qs⟩ k) (fun w=>Is w p.1 p.2.1) w':=by
 have hb:∀k:Nat,blk (some ⟨g,0,none⟩) n sc=some k<->blk (some ⟨g,0,none⟩) (n+1) sc=some k:=fun k=>by simp[Value.ownBlock]
 have ht:=H.two.goes (F':=fun k=>C.m.own q k\/C.X k\/k=C.fb) (k.mono fun i _ e=> .inr (.inr e)) (fun i hi e=>by
  obtain⟨h1,h2,h3,h4,_⟩:=H.Zr i hi;rcases e with e|e|e;exact h1 e;exact h4 e
  ·exact h3 e) (fun i e=> .inl e)
 obtain⟨t1,t2,_⟩:=ht.pop;refine⟨H.turn (k.mono fun i _ e=> .inl e) hf t1 fun i e=> .inl ?_,t2.mono fun i _ e=> ?_⟩;rcases e with e|e;exact .inl ((hb i).1 e);exact .inr e;rcases e with e|e|e|e;exact .inl (.inl e);exact .inl (.inr (.inl e));exact .inl (.inr (.inr e));exact .inr e
theorem Zb.top{g n sc m nc:Nat}{ps qs:List Kd}{p:Kd}{na:Option Addr}(H:Zb C q s left ⟨some ⟨g,0,none⟩,n+1,sc,ps++[p],na,m,nc,qs⟩ w):w.cell? ⟨g,n*3,none⟩=some (.int .i64 p.1.kind)/\w.cell? ⟨g,n*3+1,none⟩=some (.int .i64 p.1.n)/\w.cell? ⟨g,n*3+2,none⟩=some (.slice p.2.1 p.1.l.length p.2.2):=by
 obtain⟨_,_,c⟩:=H.two.pop;exact⟨c 0 (by decide),c 1 (by decide),c 2 (by decide)⟩
theorem Zb.cells(H:Zb C q s left R w):w.cell? ⟨C.fb,0,none⟩=some (.pointer (some ⟨C.m.mb,0,none⟩))/\w.cell? ⟨C.fb,1,none⟩=some (.int .i64 C.j)/\w.cell? ⟨C.fb,2,none⟩=some (.int .i64 C.arg.kind)/\w.cell? ⟨C.fb,3,none⟩=some (.int .i64 C.arg.n)/\w.cell? ⟨C.fb,4,none⟩=some (.slice C.aa C.arg.l.length C.ac)/\w.cell? ⟨C.fb,5,none⟩=some (.slice R.na R.m R.nc)/\w.cell? ⟨C.fb,6,none⟩=some (.slice R.sa R.n R.sc):=by
 refine⟨?_, ?_, ?_, ?_, ?_, ?_, ?_⟩<;>simp[World.cell?,H.fr]
theorem Zb.shape{ps:List Kd}{p:Kd}(H:Zb C q s left R w)(h:R.ps=ps++[p]):∃g,R=⟨some ⟨g,0,none⟩,ps.length+1,R.sc,ps++[p],R.na,R.m,R.nc,R.qs⟩:=by
 obtain⟨sa,n,sc,ps',na,m,nc,qs⟩:=R;simp only at h;subst h;have hn:n=ps.length+1:=by simpa using H.two.ls
 subst hn;obtain⟨g,cap,e⟩:=fP H.two.rs (Nat.succ_pos _);simp only[aY,true_and]at e;obtain⟨rfl,rfl⟩:=e;exact⟨g,rfl⟩
theorem Eu{lo g n cap:Nat}{ps:List Kd}(p z:Kd)(hn:n=ps.length)(h:w.ownsRow lo 71 3 (.slice (some ⟨g,0,none⟩) (n+1) cap) (n+1) (eB ps++Zv z)):
 (((w.setCell ⟨g,n*3,none⟩ (.int .i64 p.1.kind)).setCell ⟨g,n*3+1,none⟩ (.int .i64 p.1.n)).setCell ⟨g,n*3+2,none⟩ (.slice p.2.1 p.1.l.length p.2.2)).ownsRow lo 71 3 (.slice (some ⟨g,0,none⟩) (n+1) cap) (n+1) (eB ps++Zv p)/\
 w.grownBy (((w.setCell ⟨g,n*3,none⟩ (.int .i64 p.1.kind)).setCell ⟨g,n*3+1,none⟩ (.int .i64 p.1.n)).setCell ⟨g,n*3+2,none⟩ (.slice p.2.1 p.1.l.length p.2.2)) (some g):=by
 obtain⟨a1,b1⟩:=h.stored (n*3) (.int .i64 p.1.kind);obtain⟨a2,b2⟩:=a1.stored (n*3+1) (.int .i64 p.1.n);obtain⟨a3,b3⟩:=a2.stored (n*3+2) (.slice p.2.1 p.1.l.length p.2.2);have hl:(eB ps).length=n*3:=by rw[mZ,hn]
 have e:(((eB ps++Zv z).set (n*3) (.int .i64 p.1.kind)).set (n*3+1) (.int .i64 p.1.n)).set (n*3+2) (.slice p.2.1 p.1.l.length p.2.2)=eB ps++Zv p:=by
  rw[<-hl];simp[Zv,List.set_append_right]
 rw[e]at a3;refine⟨a3,⟨by rw[b3.os,b2.os,b1.os],by rw[b3.tape,b2.tape,b1.tape],by rw[b3.output,b2.output,b1.output],aF b1.size (aF b2.size b3.size),fun k hk hne=> ?_⟩⟩;rw[b3.block k (az hk (aF b1.size b2.size)) hne,b2.block k (az hk b1.size) hne,b1.block k hk hne]
theorem Jz{W w3 w4:World}{row:Option Nat}{g:Nat}(h:W.grownBy w3 row)(k:w3.grownBy w4 (some g))(hat:row=some g\/g=W.heap.size):W.grownBy w4 row:=by
 refine⟨by rw[k.os,h.os],by rw[k.tape,h.tape],by rw[k.output,h.output],aF h.size k.size,fun i hi hne=> ?_⟩;rw[k.block i (az hi h.size) (fun e=> ?_),h.block i hi hne];simp only[aT]at e;rcases hat with e2|e2;exact hne (by rw[e2,e]);omega
theorem Zb.push{W w4:World}{o:Obj}{g cap:Nat}{p:Kd}(H:Zb C q s left R w)(kW:aA w W)(hv:bu (fun k=>C.m.own q k\/C.x R k) (fun w=>Is w p.1 p.2.1) w)
 (hr:w4.ownsRow C.w0.heap.size 71 3 (.slice (some ⟨g,0,none⟩) (R.n+1) cap) (R.n+1) (eB R.ps++Zv p)) (hg:(W.alloc o).grownBy w4 (blk R.sa R.n R.sc)) (hat:blk R.sa R.n R.sc=some g\/g=W.heap.size+1):
 Zb C q s left ⟨some ⟨g,0,none⟩,R.n+1,cap,R.ps++[p],R.na,R.m,R.nc,R.qs⟩ (w4.setCell ⟨C.fb,6,none⟩ (.slice (some ⟨g,0,none⟩) (R.n+1) cap))/\
 w4.cell? ⟨C.fb,6,none⟩=some (.slice R.sa R.n R.sc)/\w4.frozen? ⟨C.fb,6,none⟩=false/\C.fb<w4.heap.size:=by
 have HW:=H.quiet kW;obtain⟨t1,k1⟩:=HW.two.push (p:=p) ((cu hv kW).mono fun i _ e=>by
  rcases e with(e|e|e)|e;exact .inl e;exact .inr (.inl e);exact .inr (.inr (.inl e))
  ·exact .inr (.inr (.inr e))) hr hg hat
 have hfr:∀i,blk R.sa R.n R.sc=some i\/blk R.na R.m R.nc=some i->i≠C.fb:=fun i e=>(HW.Zr i e).2.2.1;have hb4:w4.heap[C.fb]?=some (.cells #[.pointer (some ⟨C.m.mb,0,none⟩),.int .i64 C.j,.int .i64 C.arg.kind,.int .i64 C.arg.n,.slice C.aa C.arg.l.length C.ac,.slice R.na R.m R.nc,.slice R.sa R.n R.sc] 355 (0,0)):=(k1.block _ (ae HW.fr) fun e=>hfr _ (.inl e) rfl).trans HW.fr;have k2:=bF w4 C.fb 6 (.slice (some ⟨g,0,none⟩) (R.n+1) cap);have hgn:(Value.slice (some ⟨g,0,none⟩) (R.n+1) cap).ownBlock=some g:=rfl;have hgf:g≠C.fb:=by
  rcases hat with e|e;exact hfr _ (.inl e);have:=ae HW.fr;omega
 have ht:=t1.goes (F':=fun k=>C.m.own q k\/C.X k\/k=C.fb) (k2.mono fun i _ e=> .inr (.inr e)) (fun i hi e=>by
  have hx:¬C.m.own q i/\¬C.X i/\i≠C.fb:=by
   rcases hi with hi|hi;simp only[blk,hgn,aT]at hi;subst hi;rcases hat with e|e;obtain⟨h1,_,h3,h4,_⟩:=HW.Zr _ (.inl e);exact⟨h1,h4,h3⟩;refine⟨fun h=> ?_,fun h=> ?_,hgf⟩;have:=HW.m.Z8 _ (.inl h);omega;have:=HW.m.xo _ (.inl h);omega;obtain⟨h1,_,h3,h4,_⟩:=HW.Zr _ (.inr hi);exact⟨h1,h4,h3⟩
  rcases e with e|e|e;exact hx.1 e;exact hx.2.1 e
  ·exact hx.2.2 e) (fun i e=> .inl e)
 refine⟨HW.turn ((k1.mono fun i _ e=> .inr (.inl e)).trans (k2.mono fun i _ e=> .inl e)) (by simp[World.setCell,aR,hb4]) ht fun i e=> ?_,by simp[World.cell?,hb4],aG w4 _ 6 _ _ hb4,ae hb4⟩;rcases e with e|e;simp only[blk,hgn,aT]at e;subst e;rcases hat with e|e;exact .inl (.inl e);right;omega;exact .inl (.inr e)
theorem Zb.bind{W w4:World}{o:Obj}{g cap:Nat}{p:Kd}(H:Zb C q s left R w)(kW:aA w W)(hv:bu (fun k=>C.m.own q k\/C.x R k) (fun w=>Is w p.1 p.2.1) w)
 (hr:w4.ownsRow C.w0.heap.size 71 3 (.slice (some ⟨g,0,none⟩) (R.m+1) cap) (R.m+1) (eB R.qs++Zv p)) (hg:(W.alloc o).grownBy w4 (blk R.na R.m R.nc)) (hat:blk R.na R.m R.nc=some g\/g=W.heap.size+1):
 Zb C q s left ⟨R.sa,R.n,R.sc,R.ps,some ⟨g,0,none⟩,R.m+1,cap,R.qs++[p]⟩ (w4.setCell ⟨C.fb,5,none⟩ (.slice (some ⟨g,0,none⟩) (R.m+1) cap))/\
 w4.cell? ⟨C.fb,5,none⟩=some (.slice R.na R.m R.nc)/\w4.frozen? ⟨C.fb,5,none⟩=false/\C.fb<w4.heap.size:=by
 have HW:=H.quiet kW;obtain⟨t1,k1⟩:=HW.two.swap.push (p:=p) ((cu hv kW).mono fun i _ e=>by
  rcases e with(e|e|e)|e;exact .inl e;exact .inr (.inl e);exact .inr (.inr (.inl e))
  ·exact .inr (.inr (.inr e.symm))) hr hg hat
 replace t1:=t1.swap;have hfr:∀i,blk R.sa R.n R.sc=some i\/blk R.na R.m R.nc=some i->i≠C.fb:=fun i e=>(HW.Zr i e).2.2.1;have hb4:w4.heap[C.fb]?=some (.cells #[.pointer (some ⟨C.m.mb,0,none⟩),.int .i64 C.j,.int .i64 C.arg.kind,.int .i64 C.arg.n,.slice C.aa C.arg.l.length C.ac,.slice R.na R.m R.nc,.slice R.sa R.n R.sc] 355 (0,0)):=(k1.block _ (ae HW.fr) fun e=>hfr _ (.inr e) rfl).trans HW.fr;have k2:=bF w4 C.fb 5 (.slice (some ⟨g,0,none⟩) (R.m+1) cap);have hgn:(Value.slice (some ⟨g,0,none⟩) (R.m+1) cap).ownBlock=some g:=rfl;have hgf:g≠C.fb:=by
  rcases hat with e|e;exact hfr _ (.inr e);have:=ae HW.fr;omega
 have ht:=t1.goes (F':=fun k=>C.m.own q k\/C.X k\/k=C.fb) (k2.mono fun i _ e=> .inr (.inr e)) (fun i hi e=>by
  have hx:¬C.m.own q i/\¬C.X i/\i≠C.fb:=by
   rcases hi.symm with hi|hi;simp only[blk,hgn,aT]at hi;subst hi;rcases hat with e|e;obtain⟨h1,_,h3,h4,_⟩:=HW.Zr _ (.inr e);exact⟨h1,h4,h3⟩;refine⟨fun h=> ?_,fun h=> ?_,hgf⟩;have:=HW.m.Z8 _ (.inl h);omega;have:=HW.m.xo _ (.inl h);omega;obtain⟨h1,_,h3,h4,_⟩:=HW.Zr _ (.inl hi);exact⟨h1,h4,h3⟩
  rcases e with e|e|e;exact hx.1 e;exact hx.2.1 e
  ·exact hx.2.2 e) (fun i e=> .inl e)
 refine⟨HW.turn ((k1.mono fun i _ e=> .inr (.inr e)).trans (k2.mono fun i _ e=> .inl e)) (by simp[World.setCell,aR,hb4]) ht fun i e=> ?_,by simp[World.cell?,hb4],aG w4 _ 5 _ _ hb4,ae hb4⟩;rcases e.symm with e|e;simp only[blk,hgn,aT]at e;subst e;rcases hat with e|e;exact .inl (.inr e);right;omega;exact .inl (.inl e)
theorem Zb.drop{g n sc m nc:Nat}{ps qs:List Kd}{p:Kd}{sa:Option Addr}(H:Zb C q s left ⟨sa,n,sc,ps,some ⟨g,0,none⟩,m+1,nc,qs++[p]⟩ w)(k:Kp (fun k=>k=C.fb) w w')
 (hf:w'.heap[C.fb]?=some (.cells #[.pointer (some ⟨C.m.mb,0,none⟩),.int .i64 C.j,.int .i64 C.arg.kind,.int .i64 C.arg.n,.slice C.aa C.arg.l.length C.ac,.slice (some ⟨g,0,none⟩) m nc,.slice sa n sc] 355 (0,0))):
 Zb C q s left ⟨sa,n,sc,ps,some ⟨g,0,none⟩,m,nc,qs⟩ w':=by
 have hb:∀k:Nat,blk (some ⟨g,0,none⟩) m nc=some k<->blk (some ⟨g,0,none⟩) (m+1) nc=some k:=fun k=>by simp[Value.ownBlock]
 have ht:=H.two.goes (F':=fun k=>C.m.own q k\/C.X k\/k=C.fb) (k.mono fun i _ e=> .inr (.inr e)) (fun i hi e=>by
  obtain⟨h1,h2,h3,h4,_⟩:=H.Zr i hi;rcases e with e|e|e;exact h1 e;exact h4 e
  ·exact h3 e) (fun i e=> .inl e)
 obtain⟨t1,_,_⟩:=ht.swap.pop;refine H.turn (k.mono fun i _ e=> .inl e) hf t1.swap fun i e=> .inl ?_;rcases e with e|e
 ·exact .inl e
 ·exact .inr ((hb i).1 e)
theorem Zb.adZ{qs:List Kd}{p:Kd}(H:Zb C q s left R w)(h:R.qs=qs++[p]):∃g,R=⟨R.sa,R.n,R.sc,R.ps,some ⟨g,0,none⟩,qs.length+1,R.nc,qs++[p]⟩:=by
 obtain⟨sa,n,sc,ps',na,m,nc,qs'⟩:=R;simp only at h;subst h;have hn:m=qs.length+1:=by simpa using H.two.ln
 subst hn;obtain⟨g,cap,e⟩:=fP H.two.rn (Nat.succ_pos _);simp only[aY,true_and]at e;obtain⟨rfl,rfl⟩:=e;exact⟨g,rfl⟩
end
structure O7(C:Cx)(q:Vs)(s:Sg)(left:Nat)(R:Rw)(v:V)(va:Option Addr)(w':World):Prop where
 fs:Zb C q s left R w'
 safe:bu (fun k=>C.m.own q k\/C.x R k) (fun w=>Is w v va) w'
structure Oc(C:Cx)(q:Vs)(s:Sg)(left:Nat)(R:Rw)(v:V)(va:Option Addr)(w w':World):Prop extends O7 C q s left R v va w' where
 kp:Kp (fun k=>k=C.fb) w w'
section
variable{C:Cx}{q:Vs}{s:Sg}{left:Nat}{R:Rw}{w:World}{g n sc m nc:Nat}{ps qs:List Kd}{v:V}{va:Option Addr}{vc:Nat}{na:Option Addr}
theorem iJ(H:Zb C q s left ⟨some ⟨g,0,none⟩,n+1,sc,ps++[(v,va,vc)],na,m,nc,qs⟩ w)(hn:n<=2000):Calls prog 283 #[.pointer (some ⟨C.fb,0,none⟩)] w fun e w'=>e= .returned (.agg #[.int .i64 v.kind,.int .i64 v.n,.slice va v.l.length vc])/\Oc C q s left ⟨some ⟨g,0,none⟩,n,sc,ps,na,m,nc,qs⟩ v va w w':=by
 have q1:aA w (w.alloc (.cells #[.int .i64 0,.int .i64 0,.slice none 0 0] 71)):=Kp.alloc _ _;have q2:aA w ((w.alloc (.cells #[.int .i64 0,.int .i64 0,.slice none 0 0] 71)).alloc (.cells #[.int .i64 v.kind,.int .i64 v.n,.slice va v.l.length vc] 71)):=q1.trans (Kp.alloc _ _);have H1:=H.quiet q1;have H2:=H.quiet q2;obtain⟨_,_,_,_,_,_,c6⟩:=H1.cells;obtain⟨_,_,_,_,_,_,d6⟩:=H2.cells;obtain⟨t0,t1,t2⟩:=H1.top;have f6:=aG _ C.fb 6 _ _ H2.fr;have hz:=ae H2.fr;have hw:IntKind.i64.wrap ((n:Int)+1-1)=n:=by rw[eQ];omega
 have B1:((w.alloc (.cells #[.int .i64 0,.int .i64 0,.slice none 0 0] 71)).alloc (.cells #[.int .i64 v.kind,.int .i64 v.n,.slice va v.l.length vc] 71)).heap[w.heap.size]?=some (.cells #[.int .i64 0,.int .i64 0,.slice none 0 0] 71 (0,0)):=by rw[aB _ _ _ (by simp)];exact ah w _
 have B2:=Y2 w (.cells #[.int .i64 0,.int .i64 0,.slice none 0 0] 71) (.cells #[.int .i64 v.kind,.int .i64 v.n,.slice va v.l.length vc] 71);have hcp:=kQ H2.two.rs;have HF:=hid H2.fr;have HH:=hid H;obtain⟨m0,m1,m2⟩:=aM B1;have hfw:¬C.fb=w.heap.size:=fun e=>by have:=ae H.fr;omega
 have HB:=hid q2;simp only at c6 d6 t0 t1 t2 hcp;clear H H1 H2 q1 q2 B1 B2;go_enter func283,ntmps283;go_wp2;refine au (v:= .agg #[.int .i64 v.kind,.int .i64 v.n,.slice va v.l.length vc]) (by simp[results,results283,go_sem,m0,m1,m2]) rfl ?_;have k1:=bF ((w.alloc (.cells #[.int .i64 0,.int .i64 0,.slice none 0 0] 71)).alloc (.cells #[.int .i64 v.kind,.int .i64 v.n,.slice va v.l.length vc] 71)) C.fb 6 (.slice (some ⟨g,0,none⟩) n sc);have hb1:(((w.alloc (.cells #[.int .i64 0,.int .i64 0,.slice none 0 0] 71)).alloc (.cells #[.int .i64 v.kind,.int .i64 v.n,.slice va v.l.length vc] 71)).setCell ⟨C.fb,6,none⟩ (.slice (some ⟨g,0,none⟩) n sc)).heap[C.fb]?=some (.cells #[.pointer (some ⟨C.m.mb,0,none⟩),.int .i64 C.j,.int .i64 C.arg.kind,.int .i64 C.arg.n,.slice C.aa C.arg.l.length C.ac,.slice na m nc,.slice (some ⟨g,0,none⟩) n sc] 355 (0,0)):=by
  have h:=HF.out;simp[World.setCell,aR,h]
 generalize((w.alloc (.cells #[.int .i64 0,.int .i64 0,.slice none 0 0] 71)).alloc (.cells #[.int .i64 v.kind,.int .i64 v.n,.slice va v.l.length vc] 71)).setCell ⟨C.fb,6,none⟩ (.slice (some ⟨g,0,none⟩) n sc)=W3 at*;have k2:=dE W3 w.heap.size (.int .i64 v.kind) (.int .i64 v.n) (.slice va v.l.length vc);have kf:=((HB.out.mono fun _ _ e=>e.elim).trans k1).fresh (k2.mono fun k _ e=>by omega);obtain⟨x1,x2⟩:=HH.out.pop kf ((k2.block _ (ae hb1) hfw).trans hb1);exact⟨rfl,⟨x1,x2⟩,kf⟩
theorem Zb.ext{w':World}{cs:Array Value}{t:TypeId}(H:Zb C q s left R w)(k:aA w w')(b:Nat)(hb:w.heap.size<=b)(hbk:w'.heap[b]?=some (.cells cs t (0,0)))(ht:R5 t):Zb (C.ext b cs t) q s left R w':=by
 have hlt:=ae hbk;have hX:∀i,i<w.heap.size->(C.ext b cs t).x R i->C.x R i:=fun i hi e=>by
  rcases e with(e|e)|e;exact .inl e;omega;exact .inr e
 refine⟨H.m.step k hX (.inl (.inl H.xm)) (fun i e=> ?_),(k.block _ (ae H.fr) fun e=>e).trans H.fr,H.two.goes (k.mono fun _ _ e=>e.elim) (fun i hi e=> ?_) (fun i e=> ?_),H.arg.step (k.mono fun _ _ e=>e.elim) (fun i hi e=> ?_),.inl H.xm,fun i hi=> ?_,H.lo,H.went.trans (dG.quiet C.m q k),fun p hp=> ?_⟩;rcases e with(e|e)|e;exact az (H.m.xo i (.inl e)) k.size;rw[e];exact hlt;exact az (H.m.xo i (.inr e)) k.size;obtain⟨h1,h2,h3,h4,_⟩:=H.Zr i hi;rcases e with e|e|e;exact h1 e;exact h4 e;exact h3 e;rcases e with e|(e|e)|e;exact .inl (.inl e);exact .inl (.inr (.inl e));right;rw[e];exact hb;exact .inl (.inr (.inr e));rcases e with e|e;exact .inl e;exact .inr (hX i hi e);rcases hi with hi|hi;exact H.xr i hi;refine⟨fun e=> ?_,fun e=> ?_⟩;have:=(H.two.rs.lt i e).2;omega;have:=(H.two.rn.lt i e).2;omega;rcases aU.1 hp with e|e;rw[e];exact⟨hbk,.inr rfl,ht⟩;exact⟨(k.block _ (ae (H.st p e).1) fun e=>e).trans (H.st p e).1,.inl (H.st p e).2.1,(H.st p e).2.2⟩
theorem Zb.aai{w':World}{b:Nat}{cs:Array Value}(H:Zb (C.ext b cs 71) q s left R w)(k:Kp (fun k=>k=b) w w')(hx:C.X C.m.mb)(hlo:C.w0.heap.size<=b)(hbs:∀p∈C.bs,p.1<b):Zb C q s left R w':=by
 have hb:w.heap[b]?=some (.cells cs 71 (0,0)):=(H.st (b,cs,71) (by simp[Cx.ext])).1;obtain⟨h1,h2⟩:=H.m.apart hb;have hfb:b≠C.fb:=fun e=>by
  have h:=H.fr;rw[show(C.ext b cs 71).fb=b from e.symm,hb]at h;simp at h
 have hX:∀i,C.x R i->(C.ext b cs 71).x R i:=fun i e=>by
  rcases e with e|e;exact .inl (.inl e);exact .inr e
 refine⟨H.m.turn k (fun i e=> .inl (.inr e)) (fun e=>h1 e.symm) (fun i hi e=>h2 (e▸hi)) (fun i cs' t hi ht e=> ?_) (fun i _ e=>hX i e) (.inl hx) (fun i e=>az (H.m.xo i (hX i e)) k.size),(k.block _ (ae H.fr) fun e=>hfb e.symm).trans H.fr,H.two.goes (k.mono fun i _ e=> .inr (.inl (.inr e))) (fun i hi e=> ?_) (fun i e=> .inl ?_),H.arg.step (k.mono fun i _ e=> .inr (.inl (.inr e))) (fun i _ e=> ?_),hx,fun i hi=>H.xr i (.inl hi),H.lo,H.went.fresh (k.mono fun i _ e=>by rw[e];exact hlo),fun p hp=> ?_⟩;rw[e,hb]at hi;simp at hi;rcases ht with ht|ht<;>rw[ht]at hi<;>exact absurd hi.2 (by decide);obtain⟨g1,g2,g3,g4,_⟩:=H.Zr i hi;rcases e with e|e|e;exact g1 e;exact g4 e;exact g3 e;rcases e with e|e|e;exact .inl e;exact .inr (.inl (.inl e));exact .inr (.inr e);rcases e with e|e;exact .inl e;exact .inr (hX i e);have h1:=(H.st p (by simp[Cx.ext,hp])).1;have h2:=hbs p hp;refine⟨(k.block _ (ae h1) fun e=> ?_).trans h1, ?_⟩;omega;refine⟨?_,(H.st p (by simp[Cx.ext,hp])).2.2⟩;rcases(H.st p (by simp[Cx.ext,hp])).2.1 with e|e;exact e;omega
theorem Zb.unread{b:Nat}{cs:Array Value}{t:TypeId}(H:Zb (C.ext b cs t) q s left R w)(hx:C.X C.m.mb)(hbs:∀p∈C.bs,p.1<b):Zb C q s left R w:=by
 have hX:∀i,C.x R i->(C.ext b cs t).x R i:=fun i e=>by
  rcases e with e|e;exact .inl (.inl e);exact .inr e
 refine⟨H.m.less hX (.inl hx),H.fr,H.two.goes (Kp.refl _ _) (fun i hi e=> ?_) (fun i e=> .inl ?_),H.arg.mono fun i _ e=> ?_,hx,fun i hi=>H.xr i (.inl hi),H.lo,H.went,fun p hp=> ?_⟩;obtain⟨g1,g2,g3,g4,_⟩:=H.Zr i hi;rcases e with e|e|e;exact g1 e;exact g4 e;exact g3 e;rcases e with e|e|e;exact .inl e;exact .inr (.inl (.inl e));exact .inr (.inr e);rcases e with e|e;exact .inl e;exact .inr (hX i e);have h2:=hbs p hp;refine⟨(H.st p (by simp[Cx.ext,hp])).1, ?_,(H.st p (by simp[Cx.ext,hp])).2.2⟩;rcases(H.st p (by simp[Cx.ext,hp])).2.1 with e|e;exact e;omega
theorem sM{w':World}{b:Nat}{cs:Array Value}{t:TypeId}{P:World->Prop}(h:bu (fun k=>C.m.own q k\/(C.ext b cs t).x R k) P w)(k:Kp (fun k=>k=b) w w'):bu (fun k=>C.m.own q k\/C.x R k) P w':=
 h.step (k.mono fun i _ e=> .inr (.inl (.inr e))) fun i _ e=>by
  rcases e with e|e|e;exact .inl e;exact .inr (.inl (.inl e));exact .inr (.inr e)
theorem Zb.abI(H:Zb C q s left R w):∀p∈C.bs,p.1<w.heap.size:=fun p hp=>ae (H.st p hp).1
theorem mr.less{b:Nat}{cs:Array Value}{t:TypeId}(h:mr (C.ext b cs t) s left w)(hx:C.X C.m.mb):mr C s left w:=by
 obtain⟨q',calls',g,m⟩:=h;exact⟨q',calls',g,m.less (fun _ e=> .inl e) hx⟩
theorem mr.quiet{w':World}(h:mr C s left w)(k:aA w w'):mr C s left w':=by
 obtain⟨q',calls',g,m⟩:=h;exact⟨q',calls',g.trans (dG.quiet C.m q' k),m.quiet k⟩
theorem mF(k:Int)(H:Zb C q s left ⟨some ⟨g,0,none⟩,n+1,sc,ps++[(v,va,vc)],na,m,nc,qs⟩ w)(hn:n<=2000)(hk:v.kind=k):Calls prog 288 #[.pointer (some ⟨C.fb,0,none⟩),.int .i64 k] w fun e w'=>e= .returned (.agg #[.int .i64 v.kind,.int .i64 v.n,.slice va v.l.length vc])/\Oc C q s left ⟨some ⟨g,0,none⟩,n,sc,ps,na,m,nc,qs⟩ v va w w':=by
 have q1:aA w (w.alloc (.cells #[.int .i64 0,.int .i64 0,.slice none 0 0] 71)):=Kp.alloc _ _;have B1:=ah w (.cells #[.int .i64 0,.int .i64 0,.slice none 0 0] 71);have H1:=H.ext q1 w.heap.size (aj _) (ah w (.cells #[.int .i64 0,.int .i64 0,.slice none 0 0] 71)) (.inl rfl);have HP:=hid (iJ H1 hn);have HH:=gp H q1 B1;have hkb:(v.kind==k)=true:=by simpa using hk
 clear H H1 q1 B1 hk;go_enter func288,ntmps288;go_wp2_with (first
  |(go_at_call 287;refine(fT _ _).mono ?_;rintro e w4 ⟨rfl,h4⟩;replace h4:=h4.symm;subst h4)
  |(go_at_call 283;refine HP.out.mono ?_;rintro e w2 ⟨rfl,h2⟩;have hb2:=(h2.fs.st (w.heap.size,#[.int .i64 0,.int .i64 0,.slice none 0 0],71) (by simp[Cx.ext])).1;obtain⟨m0,m1,m2⟩:=aM hb2;obtain⟨f0,f1,f2⟩:=bI hb2;have hz:=ae hb2;have H2:=bC h2 hb2;clear h2 hb2))
 have k1:=dE w2 w.heap.size (.int .i64 v.kind) (.int .i64 v.n) (.slice va v.l.length vc);have b3:=kz H2.out.2 (.int .i64 v.kind) (.int .i64 v.n) (.slice va v.l.length vc);generalize((w2.setCell ⟨w.heap.size,0,none⟩ (.int .i64 v.kind)).setCell ⟨w.heap.size,1,none⟩ (.int .i64 v.n)).setCell ⟨w.heap.size,2,none⟩ (.slice va v.l.length vc)=W3 at*;obtain⟨y0,y1,y2⟩:=aM ((aB W3 (.cells #[.int .i64 v.kind,.int .i64 v.n,.slice va v.l.length vc] 71) _ (ae b3)).trans b3);refine au (v:= .agg #[.int .i64 v.kind,.int .i64 v.n,.slice va v.l.length vc]) (by simp[results,results288,go_sem,y0,y1,y2]) rfl ⟨rfl, ?_⟩;have q4:aA W3 (W3.alloc (.cells #[.int .i64 v.kind,.int .i64 v.n,.slice va v.l.length vc] 71)):=Kp.alloc _ _;obtain⟨h,hq1,_⟩:=HH.out;exact⟨⟨(H2.out.1.fs.aai k1 h.xm h.went.kp.size h.abI).quiet q4,cu (sM H2.out.1.safe k1) q4⟩,(((hq1.mono fun _ _ e=>e.elim).trans H2.out.1.kp).fresh (k1.mono fun k _ e=>by omega)).trans (q4.mono fun _ _ e=>e.elim)⟩
theorem qJ(k:Int)(H:Zb C q s left ⟨some ⟨g,0,none⟩,n+1,sc,ps++[(v,va,vc)],na,m,nc,qs⟩ w)(hn:n<=2000)(hk:v.kind≠k):Calls prog 288 #[.pointer (some ⟨C.fb,0,none⟩),.int .i64 k] w fun e w'=>e= .panicked (lC 2)/\mr C s left w':=by
 have q1:aA w (w.alloc (.cells #[.int .i64 0,.int .i64 0,.slice none 0 0] 71)):=Kp.alloc _ _;have H1:=H.ext q1 w.heap.size (aj _) (ah w (.cells #[.int .i64 0,.int .i64 0,.slice none 0 0] 71)) (.inl rfl);have HP:=hid (iJ H1 hn);have HH:=bC H q1;have hkb:(v.kind==k)=false:=by simpa using hk
 clear H H1 q1 hk;go_enter func288,ntmps288;go_wp2_with (first
  |(go_at_call 287;refine(jH _ _).mono ?_;rintro e w4 ⟨rfl,h4⟩;replace h4:=h4.symm;subst h4)
  |(go_at_call 283;refine HP.out.mono ?_;rintro e w2 ⟨rfl,h2⟩;have H2:=hid h2;clear h2))
 exact⟨rfl,rfl,(H2.out.fs.bad.less HH.out.1.xm).quiet (Kp.alloc _ _)⟩
theorem Bq(x y z:Value)(w:World):(Instr.field 71 (.agg #[x,y,z]) 1).run prog w= .ok y w:=by kernel_rfl
theorem Rp(x y z:Value)(w:World):(Instr.field 71 (.agg #[x,y,z]) 2).run prog w= .ok z w:=by kernel_rfl
theorem jA(H:Zb C q s left ⟨some ⟨g,0,none⟩,n+1,sc,ps++[(v,va,vc)],na,m,nc,qs⟩ w)(hn:n<=2000)(hk:v.kind=1):Calls prog 284 #[.pointer (some ⟨C.fb,0,none⟩)] w fun e w'=>e= .returned (.int .i64 v.n)/\Oc C q s left ⟨some ⟨g,0,none⟩,n,sc,ps,na,m,nc,qs⟩ v va w w':=by
 have HP:=hid (mF 1 H hn hk);have hfd:=Bq;clear H hk;go_enter func284,ntmps284;go_wp2_with (go_at_call 288;refine HP.out.mono ?_;rintro e w2 ⟨rfl,h2⟩;have H2:=hid h2;clear h2);go_ret;exact⟨rfl,H2.out⟩
theorem pM(H:Zb C q s left ⟨some ⟨g,0,none⟩,n+1,sc,ps++[(v,va,vc)],na,m,nc,qs⟩ w)(hn:n<=2000)(hk:v.kind≠1):Calls prog 284 #[.pointer (some ⟨C.fb,0,none⟩)] w fun e w'=>e= .panicked (lC 2)/\mr C s left w':=by
 have HP:=hid (qJ 1 H hn hk);clear H hk;go_enter func284,ntmps284;go_wp2_with (go_at_call 288;refine HP.out.mono ?_;rintro e w2 ⟨rfl,h2⟩;have H2:=hid h2;clear h2);exact⟨rfl,rfl,H2.out⟩
theorem il(H:Zb C q s left ⟨some ⟨g,0,none⟩,n+1,sc,ps++[(v,va,vc)],na,m,nc,qs⟩ w)(hn:n<=2000)(hk:v.kind=4):Calls prog 295 #[.pointer (some ⟨C.fb,0,none⟩)] w fun e w'=>e= .returned (.int .i64 v.n)/\Oc C q s left ⟨some ⟨g,0,none⟩,n,sc,ps,na,m,nc,qs⟩ v va w w':=by
 have HP:=hid (mF 4 H hn hk);have hfd:=Bq;clear H hk;go_enter func295,ntmps295;go_wp2_with (go_at_call 288;refine HP.out.mono ?_;rintro e w2 ⟨rfl,h2⟩;have H2:=hid h2;clear h2);go_ret;exact⟨rfl,H2.out⟩
theorem nA(H:Zb C q s left ⟨some ⟨g,0,none⟩,n+1,sc,ps++[(v,va,vc)],na,m,nc,qs⟩ w)(hn:n<=2000)(hk:v.kind≠4):Calls prog 295 #[.pointer (some ⟨C.fb,0,none⟩)] w fun e w'=>e= .panicked (lC 2)/\mr C s left w':=by
 have HP:=hid (qJ 4 H hn hk);clear H hk;go_enter func295,ntmps295;go_wp2_with (go_at_call 288;refine HP.out.mono ?_;rintro e w2 ⟨rfl,h2⟩;have H2:=hid h2;clear h2);exact⟨rfl,rfl,H2.out⟩
end
theorem yN{ns:List Nd}{g:Nat}(hw:Wf ns g):∀m j,j<m->j<ns.length->∃k,jg g k (YS ns (j:Int)):=by
 intro m;induction m with
 |zero=>intro j h _;omega
 |succ m ih=>
  intro j hm hj;have hk:=hw j hj;have p0:=hk.p0;have p1:=hk.p1;by_cases hp:ns[j].parent<0;have e:YT ns.length ns[j].parent=false:=(by simp[YT];omega);have:YS ns j=ns[j]:=(by simp[YS,Gr.Zp hw hj,Gr.ZJ e]);rw[this];exact⟨j,hk⟩
  ·obtain⟨q,hq⟩:∃q:Nat,ns[j].parent=q:=⟨ns[j].parent.toNat,by omega⟩;rw[hq]at p1;have hql:q<ns.length:=(by omega);have:YS ns j=YS ns q:=by
    unfold YS;rw[Gr.Zp hw hj,hq,Gr.Zp hw hql];simp
   rw[this];exact ih q (by omega) hql
theorem oh{ns:List Nd}{os:List Bool}(hw:Wf ns os.length){n:Int}{b:Nat}(h:(bS ns os n).testBit b=true):∃k,jg os.length k (YS ns n):=by
 cases ht:YT ns.length n with
 |false=>rw[Gr.aba ht]at h;simp at h
 |true=>
  obtain⟨j,rfl,hj⟩:=Gr.Zg ht;exact yN hw (j+1) j (by omega) hj
theorem K9{s:Sg}(hw:Wf s.ns s.os.length){v:V}{b:Nat}{c:Int}(h:iG s v b= .ok c):0<=c/\c<12:=by
 unfold iG at h;split at h
 ·split at h
  ·split at h;cases h;cases h;rename_i hr _;obtain⟨k,hk⟩:=oh hw hr;exact⟨hk.c0,hk.c1⟩
  ·cases h
 ·cases h
structure wu(C:Cx)(W w':World):Prop where
 f:w'.heap[C.fb]?=W.heap[C.fb]?
 m:w'.heap[C.m.mb]?=W.heap[C.m.mb]?
 b:w'.heap[C.m.bb]?=W.heap[C.m.bb]?
section
variable{C:Cx}{q:Vs}{s:Sg}{left:Nat}{R:Rw}{w:World}
theorem wu.drew(C:Cx)(W:World):wu C W W.drew:=⟨rfl,rfl,rfl⟩
theorem Zb.aeR(H:Zb C q s left R w):C.m.bb<w.heap.size:=by
 obtain⟨a,b,c,d,hb,_⟩:=H.m.box;exact hb.lt
theorem mK{W w':World}(H:Zb C q s left R W)(k:aA W w'):wu C W w':=
 ⟨k.block _ (ae H.fr) fun e=>e,k.block _ (ae H.m.ma) fun e=>e,k.block _ H.aeR fun e=>e⟩
theorem ja{W w':World}(H:Zb C q s left R W)(h:wu C W w'):w'.cell? ⟨C.fb,0,none⟩=some (.pointer (some ⟨C.m.mb,0,none⟩))/\w'.cell? ⟨C.fb,1,none⟩=some (.int .i64 C.j)/\w'.cell? ⟨C.m.mb,0,none⟩=some (.pointer (some ⟨C.m.bb,0,none⟩))/\w'.cell? ⟨C.m.bb,0,none⟩=some (.pointer (some ⟨C.m.g,0,none⟩))/\w'.cell? ⟨C.m.bb,1,none⟩=some (.pointer (some ⟨C.m.wd,0,none⟩)):=
 ⟨(bz h.f).trans H.cells.1,(bz h.f).trans H.cells.2.1,(bz h.m).trans H.m.cells.1,(bz h.b).trans H.m.ZP.1,(bz h.b).trans H.m.ZP.2⟩
end
