/- Parts. -/
import Derived.Test.YtpeakfcbihoknaaGreatDoorUV10
import Derived.Deep.Strs
import Derived.SizedLaws
open Go.ChangeShapes Go.WideShapes Go.ChangeAt Go.RowKit
set_option maxRecDepth 8000
set_option maxHeartbeats 4000000
namespace Go.Proofs.YtpeakfcbihoknaaGreatDoor
open Proofs.Tryz
namespace Dk
theorem vG{P:Program}{f:FuncId}{a:Array Value}{w:World}{R:Ending->World->Prop}(h:Calls P f a w R):∃e w',R e w':=by
 obtain⟨e,w',_,r,_⟩:=h [];exact⟨e,w',r⟩
theorem oq(ws:List (List UInt8))(m:Nat)(h:∀t∈ws,t.length<=m):(iK ws).length<=(m+1)*ws.length+1:=by
 have:=nW ws m h;simp only[iK,ak,aJ];omega
theorem KJ(ns:List Int)(hl:ns.length<=2)(hi:∀z∈ns,dH z):(noD ns).length<=100:=by
 have:=oq (noW::ns.map Lib.itoa) 21 fun t ht=>by
  rcases aU.1 ht with rfl|ht;simp[noW];obtain⟨z,hz,rfl⟩:=List.mem_map.1 ht;exact rZ (hi z hz)
 unfold noD;simp only[aL,bE]at this|-;omega
theorem Fh{e:Evt}(k:Int)(h:zU e)(hv:e.v.text.length<=1300):(BX k e).length<=5000:=by
 have hc:=h.code;have hf:=h.fuel;have hfl:(Lib.itoa e.fuel).length<=21:=rZ ⟨by omega,by omega⟩;unfold BX;split;have:=KJ [e.code] (by simp) (by simp;exact⟨by unfold Sc at hc;omega,by unfold Sc at hc;omega⟩);omega;split;have:=oq [sH,e.v.text,Lib.itoa e.fuel] 1300 (by simp[sH];omega);simp only[aL,bf]at this;omega;have:=oq [sH,e.v.text] 1300 (by simp[sH];omega);simp only[aL,bf]at this;omega
section
variable{X:Nat->Prop}{K:Kx}{q:Qx}{v:Value}{n:Nat}{d:Ds}{l:List UInt8}{w:World}
theorem IE{w:World}{u:V}{ao:Option Addr}(hi:Is w u ao)(hc:u.check=0):u.text.length<=1300:=by
 have h1:=ZG w u ao hi;have h2:=fV hc;omega
theorem RB(H:TS X K q v n d l w)(hn:n+1<=400)(x:Sx)(hx:rE x)(hk:dH x.kind)(hk1:x.kind≠1):(jQ d (x.sp 0)).2.length<=5000:=by
 obtain⟨e,w3,q',ao,cap,_,B⟩:=vG (VH H hn x (hx.fit hk) _ (yw hx) (fun e=>absurd e hk1) (Mid.refl w));exact Fh _ B.e (IE B.f.now B.e.val)
theorem Sd(H:TS X K q v n d l w)(x:Sx):(yF d x).2.length<=5000:=by
 have hp:=yL (jq d) (yz H.inv.txt);have hok:=fun h=>(Ex.abf (l:=jq d) h).2.2.1;unfold yF;split;have:=KJ [(Ex.Zd (jq d)).2.1,(Ex.Zd (jq d)).2.2] (by simp) (by simpa using hp);simp only;omega
 ·refine Fh 1 (FZ H.y.s.ok _ (by simp[Sc])) ?_;unfold dL;rw[ag rfl];unfold iV;repeat' split
  all_goals simp[v0,V.text]
theorem Ry(H:TS X K q v n d l w)(hn:n<=400)(p:Int)(hp:dH p):(iK (jo::(fC d.h p).map V.text)).length<=600000:=by
 obtain⟨e,w1,ao,cap,_,s1,_⟩:=vG (DF _ K.p.h q.q d.h w p H.house (fun p=>by have:=H.inv.few p;omega) hp);have hl:(fC d.h p).length<=400:=by
  unfold fC;split;have:=H.inv.few p.toNat;omega;simp
 have:=oq (jo::(fC d.h p).map V.text) 1300 fun t ht=>by
  rcases aU.1 ht with rfl|ht;simp[jo];obtain⟨u,hu,rfl⟩:=List.mem_map.1 ht;obtain⟨i,hi,rfl⟩:=bT hu;obtain⟨b,off,_,_,ca,cc,_,hci⟩:=s1.now.get i hi;exact IE hci (zR H.y.s.ok p _ hu)
 simp only[aL,bE]at this|-;omega
theorem Tf(H:TS X K q v n d l w)(p:Int)(hp:dH p):(iK [vk,(fH d.h p).text]).length<=5000:=by
 obtain⟨e,w1,ao,cap,_,s1,_⟩:=vG (K5 _ K.p.h q.q d.h w p H.house hp);have h1:=IE s1.now (oP H.y.s.ok p);have:=oq [vk,(fH d.h p).text] 1300 (by simp[vk];omega);simp only[aL,bf]at this;omega
theorem UJ(H:TS X K q v n d l w)(hn:n+1<=400)(x:Sx)(hx:rE x)(k:Nat)(hk:k<12):(Dy k x d).2.length<=100000000:=by
 have st:∀kd h:Int,dH kd->kd≠1->dH h->(jQ d ({x with kind:=kd,h:=h}.sp 0)).2.length<=100000000:=fun kd h k1 k2 k3=>by
  have:=RB H hn {x with kind:=kd,h:=h} ⟨hx.p,hx.q,hx.k,k3,hx.r,hx.g,hx.n,hx.fs⟩ k1 k2;omega
 have hmx:dH (max x.h 0):=by have:=hx.h;unfold dH at*;omega
 rcases uJ hk with rfl|rfl|rfl|rfl|rfl|rfl|rfl|rfl|rfl|rfl|rfl|rfl;simp[Dy];have:=Sd H x;show(yF d x).2.length<=_;omega;exact st 2 x.h ⟨by simp,by simp⟩ (by simp) hx.h;exact st 3 x.h ⟨by simp,by simp⟩ (by simp) hx.h;exact st 5 x.h ⟨by simp,by simp⟩ (by simp) hx.h;exact st 6 x.h ⟨by simp,by simp⟩ (by simp) hx.h;exact st 4 (max x.h 0) ⟨by simp,by simp⟩ (by simp) hmx;exact st 4 (-1) ⟨by simp,by simp⟩ (by simp) ⟨by simp,by simp⟩;have:=Ry H (by omega) x.p hx.p;show(iK (jo::(fC d.h x.p).map V.text)).length<=_;omega;have:=Tf H x.p hx.p;show(iK [vk,(fH d.h x.p).text]).length<=_;omega
 ·have h1:=CZ d.h.s.es H.inv.ent d.h.s.es.length;have h2:=H.inv.es;show(SE d.h.s.es).length<=_;rw[<-Cr,ak];have h3:(iK [IZ]).length<=10:=by simp[iK,IZ,Lib.join]
  omega
 ·show(iK (kZ::d.h.s.cs.map Lib.itoa)).length<=_;have hcl:=H.house.ws.obj.len;have:=oq (kZ::d.h.s.cs.map Lib.itoa) 21 fun t ht=>by
   rcases aU.1 ht with rfl|ht;simp[kZ];obtain⟨z,hz,rfl⟩:=List.mem_map.1 ht;exact rZ (H.house.ci z hz)
  simp only[aL,bE]at this;omega
end
theorem Mj(first:List UInt8)(others:List (List UInt8)):∀(rs:List (List UInt8×List UInt8))(k i:Nat)(x:Sx),wV first others k rs=some (i,x)->rE x/\i<k+rs.length:=by
 intro rs;induction rs with
 |nil=>intro k i x h;cases h
 |cons r rs ih=>
  intro k i x h;unfold wV at h;split at h;rename_i y hy;cases h;exact⟨FV hy,by simp⟩;have:=ih _ _ _ h;exact⟨this.1,by have:=this.2;simp;omega⟩
theorem QO{X:Nat->Prop}{K:Kx}{q:Qx}{v:Value}{n:Nat}{d:Ds}{l:List UInt8}{w:World}(H:TS X K q v n d l w)(hn:n+1<=400)(s:List UInt8):(oL d s).2.length<=100000000:=by
 unfold oL;split;simp;split;simp
 ·rename_i first others _
  unfold EF;split
  ·rename_i i x h;obtain⟨hx,hi⟩:=Mj first others _ _ _ _ h
   exact UJ H hn x hx i (by simpa [qL]using hi)
  ·have:(iK [[119,104,97,116]]:List UInt8).length<=10:=(by simp[iK,Lib.join]);simp only;omega
def nG(P:Yx)(db:Nat)(q:Qx)(k:Nat):Prop:=mq P q.q k\/k=db
structure DS(X:Nat->Prop)(P:Yx)(db:Nat)(q:Qx)(n:Nat)(d:Ds)(w:World):Prop where
 y:YN (fun k=>k=db\/X k) P q.q d.h q.tr q.tr.length w
 Zm:w.heap[db]?=some (.cells #[.pointer (some ⟨P.wb,0,none⟩),.string ⟨d.txt.toArray⟩] 42 (0,0))
 lz:Lz P.h.B w
 inv:U2 n q.tr d
 lo:P.h.B<=db
 xo:∀k,X k->k<w.heap.size/\¬nG P db q k
structure qC(P:Yx)(db:Nat)(q:Qx)(w:World)(q':Qx)(w':World):Prop where
 kp:Kp (nG P db q) w w'
 own:∀k,nG P db q' k->nG P db q k\/w.heap.size<=k
section
variable{X X':Nat->Prop}{P:Yx}{db:Nat}{q q':Qx}{v v':Value}{n:Nat}{d:Ds}{l:List UInt8}{w w':World}
theorem DS.lt(H:DS X P db q n d w){k:Nat}(hk:nG P db q k):P.h.B<=k/\k<w.heap.size:=by
 rcases hk with e|e;exact H.y.lt e;rw[e];exact⟨H.lo,ae H.Zm⟩
theorem DS.step(H:DS X P db q n d w)(k:aA w w')(hX:∀i,i<w.heap.size->X' i->X i)(xo:∀i,X' i->i<w'.heap.size):DS X' P db q n d w':=
 ⟨H.y.step k (fun i hi e=>by
  rcases e with e|e;exact .inl e
  ·exact .inr (hX i hi e)) (fun i e=>by
  rcases e with e|e;rw[e];exact az (ae H.Zm) k.size
  ·exact xo i e),(k.block _ (ae H.Zm) fun e=>e).trans H.Zm,H.lz.low (k.below (by have:=ae H.Zm;have:=H.lo;omega) fun i e=>e.elim),H.inv,H.lo,fun i e=>⟨xo i e,fun e2=>(H.xo i (hX i (H.lt e2).2 e)).2 e2⟩⟩
theorem DS.quiet(H:DS X P db q n d w)(k:aA w w'):DS X P db q n d w':=H.step k (fun _ _ e=>e) fun i e=>az (H.xo i e).1 k.size
theorem DS.abK(H:DS X P db q n d w)(i:Nat)(cs:Array Value)(t:TypeId)(hi:w.heap[i]?=some (.cells cs t (0,0)))(ht:t=334\/t=328):¬nG P db q i:=by
 rintro(e|e);rcases e with e|e;rcases ht with ht|ht<;>rw[ht]at hi<;>exact H.y.s.free hi (by decide) (by decide) (by decide) (by decide) (by decide) (by decide) (by decide) (by decide) e;rw[e,H.y.obj]at hi;simp at hi;rcases ht with ht|ht<;>rw[ht]at hi<;>simp at hi;rw[e,H.Zm]at hi;simp at hi;rcases ht with ht|ht<;>rw[ht]at hi<;>simp at hi
theorem DS.turn{F:Nat->Prop}(H:DS X P db q n d w)(k:Kp F w w')(hF:∀i,F i->X i)(hB:∀i,F i->P.h.B<=i)(hI:∀(i:Nat) (cs:Array Value) (t:TypeId),w.heap[i]?=some (.cells cs t (0,0))->t=334\/t=328->¬F i)(hX:∀i,i<w.heap.size->X' i->X i)(xo:∀i,X' i->i<w'.heap.size/\¬nG P db q i):DS X' P db q n d w':=
 have hdb:¬F db:=fun e=>(H.xo db (hF _ e)).2 (.inr rfl)
 ⟨H.y.turn k (fun i e=> .inr (hF i e)) hI (fun i hi e=>by
  rcases e with e|e;exact .inl e
  ·exact .inr (hX i hi e)) (fun i e=>by
  rcases e with e|e;rw[e];exact⟨az (ae H.Zm) k.size,(H.y.xo (.inl rfl)).2⟩
  ·exact⟨(xo i e).1,fun e2=>(xo i e).2 (.inl e2)⟩),(k.block _ (ae H.Zm) hdb).trans H.Zm,H.lz.low (k.below (by have:=ae H.Zm;have:=H.lo;omega) fun i e=>hB i e),H.inv,H.lo,xo⟩
theorem DS.begin(H:DS X P db q n d w):TS X ⟨P,db,w.heap.size⟩ q (.slice none 0 0) n d [] (w.alloc (.cells #[.pointer (some ⟨db,0,none⟩),.pointer none,.slice none 0 0] 52)):=by
 have k:aA w (w.alloc (.cells #[.pointer (some ⟨db,0,none⟩),.pointer none,.slice none 0 0] 52)):=Kp.alloc _ _;have hs:(w.alloc (.cells #[.pointer (some ⟨db,0,none⟩),.pointer none,.slice none 0 0] 52)).heap.size=w.heap.size+1:=by simp
 have hld:=ae H.Zm;have hot:∀i,nK w.heap.size (.slice none 0 0) i->i=w.heap.size:=fun i e=>by
  rcases e with e|e;exact e;simp[Value.ownBlock]at e
 refine⟨H.y.step k (fun i hi e=> ?_) (fun i e=> ?_),(k.block _ hld fun e=>e).trans H.Zm,⟨⟨_,.inl rfl,ah w _⟩,bq _ _ _ _,by have:=H.lo;show P.h.B<=w.heap.size;omega,fun _=>rfl⟩,H.lz.low (k.below (by have:=H.lo;show P.h.B<=w.heap.size;omega) fun i e=>e.elim),H.inv,H.lo,fun i e=>⟨az (H.xo i e).1 k.size,fun e2=> ?_⟩⟩;rcases e with(e|e)|e;exact .inl e;have:=hot i e;omega;exact .inr e;rcases e with(e|e)|e;simp only at e;omega;have:=hot i e;omega;have:=(H.xo i e).1;omega;rcases e2 with e2|e2|e2;exact(H.xo i e).2 (.inl e2);exact(H.xo i e).2 (.inr e2);have h1:=hot i e2;have h2:=(H.xo i e).1;omega
theorem TS.done{tb:Nat}(H:TS X ⟨P,db,tb⟩ q v n d l w)(k:Kp (nK tb v) w w'):DS X P db q n d w':=by
 have g:gH ⟨P,db,tb⟩ q v w q v w':=⟨k.mono fun i _ e=> .inr (.inr e),fun _ e=> .inl e⟩;have hld:=ae H.Zm;refine⟨H.y.turn k (fun i e=> .inl (.inr e)) (fun i cs t hi ht e=>H.abK i cs t hi ht (.inr e)) (fun i hi e=> ?_) (fun i e=> ?_),(k.block _ hld H.ad2).trans H.Zm,H.lz.low (H.low g),H.inv,H.lo,fun i e=>⟨az (H.xo i e).1 k.size,fun e2=>(H.xo i e).2 ?_⟩⟩;rcases e with e|e;exact .inl (.inl e);exact .inr e;rcases e with e|e;rw[e];exact⟨az hld k.size,(H.y.xo (.inl (.inl rfl))).2⟩;exact⟨az (H.xo i e).1 k.size,fun e2=>(H.xo i e).2 (.inl e2)⟩;rcases e2 with e2|e2;exact .inl e2;exact .inr (.inl e2)
theorem DS.goes{tb:Nat}{w0:World}(k0:aA w0 w)(htb:w0.heap.size<=tb)(hv:∀k,v.ownBlock=some k->w0.heap.size<=k)(g:gH ⟨P,db,tb⟩ q v w q' v' w'):qC P db q w0 q' w':=by
 have hs:=k0.size;refine⟨⟨g.kp.os.trans k0.os,g.kp.tape.trans k0.tape,g.kp.output.trans k0.output,aF k0.size g.kp.size,fun i hi hF=> ?_⟩,fun i e=> ?_⟩;refine(g.kp.block i (by omega) fun e=> ?_).trans (k0.block i hi fun e=>e);rcases e with e|e|e|e;exact hF (.inl e);exact hF (.inr e);simp only at e;omega;have:=hv i e;omega
 ·rcases g.own i (by
   rcases e with e|e;exact .inl e
   ·exact .inr (.inl e))with e|e
  ·rcases e with e|e|e|e;exact .inl (.inl e);exact .inl (.inr e);simp only at e;exact .inr (by omega);exact .inr (hv i e)
  ·exact .inr (by omega)
theorem qC.quiet(P:Yx)(db:Nat)(q:Qx)(k:aA w w'):qC P db q w q w':=⟨k.mono fun _ _ e=>e.elim,fun _ e=> .inl e⟩
end
theorem qC.then{P:Yx}{db:Nat}{q q2:Qx}{w w2 w3:World}{F:Nat->Prop}(g:qC P db q w q2 w2)(k:Kp F w2 w3)(hF:∀i,F i->nG P db q i\/w.heap.size<=i):qC P db q w q2 w3:=
 ⟨⟨k.os.trans g.kp.os,k.tape.trans g.kp.tape,k.output.trans g.kp.output,aF g.kp.size k.size,fun i hi hn=>(k.block i (az hi g.kp.size) fun e=>by
  rcases hF i e with e|e;exact hn e
  ·omega).trans (g.kp.block i hi hn)⟩,g.own⟩
theorem Js(d:Ds)(ls:List (List UInt8))(k:Nat)(hk:k<ls.length):fU d (ls.take (k+1))=((oL (fU d (ls.take k)).1 ls[k]).1,(fU d (ls.take k)).2++(oL (fU d (ls.take k)).1 ls[k]).2):=by
 rw[iF ls k hk,Cw];simp[fU]
def DoQ(X:Nat->Prop)(P:Yx)(db:Nat)(q:Qx)(n:Nat)(d:Ds)(ls:List (List UInt8))(w:World)(e:Ending)(w':World):Prop:=
 ∃q',e= .returned (.tuple #[.string ⟨(if(fw ls).1=0 then(fU d ls).2 else[]).toArray⟩,.agg #[.int .i64 (fw ls).1,.int .i64 (fw ls).2]])/\DS X P db q' (n+ls.length) (if(fw ls).1=0 then(fU d ls).1 else d) w'/\qC P db q w q' w'/\(if(fw ls).1=0 then(fU d ls).2 else[]).length<=100000000*ls.length
theorem DS.more{X:Nat->Prop}{P:Yx}{db:Nat}{q:Qx}{n:Nat}{d:Ds}{w:World}(H:DS X P db q n d w)(m:Nat)(hm:n<=m):DS X P db q m d w:=
 ⟨H.y,H.Zm,H.lz,⟨H.inv.trs,by have:=H.inv.tr;omega,by have:=H.inv.es;omega,fun p=>by have:=H.inv.few p;omega,H.inv.txt,H.inv.ent⟩,H.lo,H.xo⟩
theorem JZ{ls:List (List UInt8)}(h:(fw ls).1=0):fw ls=(0,0):=by
 unfold fw at h|-;by_cases h1:200<ls.length;rw[ag h1]at h;cases h
 ·rw[af h1]at h|-;cases h2:ls.any ve with
  |true=>rw[h2,ag rfl]at h;cases h
  |false=>simp
theorem Ob{ls:List (List UInt8)}(h:(fw ls).1=0):ls.length<=200:=by
 unfold fw at h;by_cases h1:200<ls.length;rw[ag h1]at h;cases h;omega
theorem Bn{X:Nat->Prop}{P:Yx}{db:Nat}{q:Qx}{n:Nat}{d:Ds}{w:World}(H:DS X P db q n d w)(ls:List (List UInt8))(ao:Option Addr)(cap:Nat)(ha:fF w ls ao)(hl:ls.length<=100000)(hc:(fw ls).1≠0):
 Calls prog 9 #[.pointer (some ⟨db,0,none⟩),.slice ao ls.length cap] w (DoQ X P db q n d ls w):=by
 have HC:=hid (fun(w1:World) (q1:aA w w1)=>fQ ls ao cap w1 (ha.quiet q1) (by omega));have HH:=hid H;unfold DoQ;rw[af hc,af hc];generalize fw ls=ck at*;obtain⟨c,a⟩:=ck;simp only at HC hc|-;have hcb:(c !=0)=true:=by simpa using hc
 clear H ha hc;go_enter func9,ntmps9;go_wp2_with (go_at_call 14;refine(HC.out _ (Kp.alloc _ _)).mono ?_;rintro e w1 ⟨rfl,q1⟩;have hb:=(q1.block _ (ae (ah w _)) fun e=>e).trans (ah w _);obtain⟨b0,b1⟩:=qo hb;have hlb:=ae hb;have f0:=aG w1 w.heap.size 0 _ _ hb;have f1:=aG w1 w.heap.size 1 _ _ hb;have Q1:=hid ((Kp.alloc (F:=fun _=>False) w _).trans q1);clear q1 hb);go_region;go_wp2;have k9:Kp (fun i=>i=w.heap.size) w1 (((w1.setCell ⟨w.heap.size,0,none⟩ (.int .i64 c)).setCell ⟨w.heap.size,1,none⟩ (.int .i64 a)).alloc (.cells #[.int .i64 c,.int .i64 a] 31)).drew:=(((bF w1 _ _ _).trans (bF _ _ _ _)).trans (Kp.alloc _ _)).trans (Kp.drew _);have q9:=Q1.out.fresh (k9.mono fun i _ e=>by omega);exact au (v:= .tuple #[.string ⟨#[]⟩,.agg #[.int .i64 c,.int .i64 a]]) (by simp[results,results9,go_sem,b0,b1,hlb]) rfl ⟨q,rfl,(HH.out.quiet q9).more _ (by omega),qC.quiet P db q q9,aP _⟩
theorem Vf{X:Nat->Prop}{P:Yx}{db:Nat}{q:Qx}{n:Nat}{d:Ds}{w:World}(H:DS X P db q n d w)(ls:List (List UInt8))(ao:Option Addr)(cap:Nat)(ha:fF w ls ao)(hx:∀a,ao=some a->0<ls.length->¬nG P db q a.block)(hll:∀t∈ls,t.length<=20000)(hn:n+ls.length<=400)(hc:(fw ls).1=0):
 Calls prog 9 #[.pointer (some ⟨db,0,none⟩),.slice ao ls.length cap] w (DoQ X P db q n d ls w):=by
 have ajb:=Ob hc;have HC:=hid (fun(w1:World) (q1:aA w w1)=>fQ ls ao cap w1 (ha.quiet q1) (by omega));unfold DoQ;rw[ag hc,ag hc];rw[JZ hc]at HC|-;simp only at HC|-
 -- what stays:beside X the cell of the result
 have k1:aA w (w.alloc (.cells #[.int .i64 0,.int .i64 0] 31)):=Kp.alloc _ _;have HX:=hid (H.step (X':=fun k=>X k\/k=w.heap.size) k1 (fun i hi e=>by
  rcases e with e|e;exact e
  ·omega) (fun i e=>by
  have h2:(w.alloc (.cells #[.int .i64 0,.int .i64 0] 31)).heap.size=w.heap.size+1:=by simp
  rcases e with e|e;have:=(H.xo i e).1;omega
  ·omega))
 have HH:=hid H;have HA:=gp ha hx hll;clear H ha hx hll hc k1;go_enter func9,ntmps9;go_wp2_with (go_at_call 14;refine(HC.out _ (Kp.alloc _ _)).mono ?_;rintro e w1 ⟨rfl,q1⟩;have hb:=(q1.block _ (ae (ah w _)) fun e=>e).trans (ah w _);have HB:=hid hb;have Q1:=hid q1;clear q1 hb);obtain⟨W2,hW2⟩:∃W2,W2=w1.alloc (.cells #[.int .i64 0,.int .i64 0] 31):=⟨_,rfl⟩;rw[<-hW2];have hs2:W2.heap.size=w1.heap.size+1:=by rw[hW2];simp
 have k2:aA w1 W2:=by rw[hW2];exact Kp.alloc _ _
 have T0:=((HX.out.quiet Q1.out).quiet k2).begin;obtain⟨W3,hW3⟩:∃W3,W3=W2.alloc (.cells #[.pointer (some ⟨db,0,none⟩),.pointer none,.slice none 0 0] 52):=⟨_,rfl⟩;rw[<-hW3]at T0|-;rw[hs2]at T0;have k3:aA w W3:=((Kp.alloc (F:=fun _=>False) w _).trans Q1.out).trans (k2.trans (by rw[hW3];exact Kp.alloc _ _));have hb3:W3.heap[w.heap.size]?=some (.cells #[.int .i64 0,.int .i64 0] 31 (0,0)):=((k2.trans (by rw[hW3];exact Kp.alloc _ _:aA W2 W3)).block _ (ae HB.out) fun e=>e).trans HB.out;have hsz1:w.heap.size<w1.heap.size:=ae HB.out;have HT0:=gp T0 k3 hb3;clear T0 k3 hb3 k2 hW3 hW2 hs2;go_loopw [20] (fun i wr=>∃k:Nat,i= .int .i64 k/\k<=ls.length/\Hid (∃q2 v2,TS (fun k=>X k\/k=w.heap.size) ⟨P,db,w1.heap.size+1⟩ q2 v2 (n+k) (fU d (ls.take k)).1 (fU d (ls.take k)).2 wr/\gH ⟨P,db,w1.heap.size+1⟩ q (.slice none 0 0) W3 q2 v2 wr)/\Hid ((fU d (ls.take k)).2.length<=100000000*k)) (fun i _=>ls.length-(intOf i).toNat);case atStart=>exact⟨0,rfl,aP _,hid ⟨q,_,HT0.out.1,gH.quiet _ _ _ (Kp.refl _ _)⟩,hid (by simp[fU])⟩
 case round=>
  rename World=>wr;obtain⟨k,rfl,hk,D,HL⟩:=hrel;obtain⟨q2,v2,T,G⟩:=D.out;clear D;have hW:=HT0.out.2.1.size;by_cases hlt:k<ls.length
  ·obtain⟨b,off,rfl,hc⟩:=HA.out.1 k hlt;have hlb:=aW w _ hc;simp only at hlb;have hnb:¬yn ⟨P,db,w1.heap.size+1⟩ q (.slice none 0 0) b:=fun e=>by
    have hx:=HA.out.2.1 _ rfl (by omega);rcases e with e|e|e|e;exact hx (.inl e);exact hx (.inr e);simp only at e;omega;simp[Value.ownBlock]at e
   replace hc:=G.kp.cell (HT0.out.2.1.cell hc fun e=>e) hnb;have HLI:=hid (Sa T (by omega) ls[k] (HA.out.2.2 _ (aI hlt)) (by have:=HL.out;omega));have HLL:=hid (QO T (by omega) ls[k]);have HS:=hid (Js d ls k hlt);have GG:=hid G;clear T G hnb;generalize ls[k]=s at*;generalize fU d (ls.take k)=r at*;generalize oL r.1 s=r2 at*;go_wp2_with (go_at_call 15;refine HLI.out.mono ?_;intro e w4 h4;have H4:=hid h4;obtain⟨rfl,_⟩:=h4);obtain⟨_,q3,v3,t3,g3⟩:=H4.out;refine⟨⟨k+1,by go_num,by omega,hid ⟨q3,v3,by rw[HS.out];exact t3,GG.out.trans g3⟩,hid ?_⟩,by simp[intOf];omega⟩;have h1:=HL.out;have h2:=HLL.out;rw[HS.out];simp only[ak];omega
  ·obtain rfl:k=ls.length:=(by omega);rw[aZ]at T;have HST:=hid (EK T.ZY);have TT:=bC T G;have hb4:=(G.kp.block _ (ae HT0.out.2.2) (HT0.out.1.xo _ (.inr rfl)).2).trans HT0.out.2.2;have hn4:¬nK (w1.heap.size+1) v2 w.heap.size:=fun e=>(T.xo _ (.inr rfl)).2 (.inr (.inr e));have HB4:=bC hb4 hn4;clear T G hb4 hn4;generalize hr:fU d ls=r at*;have HR:=hid hr;clear hr;go_wp2_with (go_at_call 16;refine HST.out.mono ?_;rintro e w4 ⟨rfl,k4⟩;have hb:=(k4.block _ (ae HB4.out.1) HB4.out.2).trans HB4.out.1;obtain⟨b0,b1⟩:=qo hb;have hlb:=ae hb;have f0:=aG w4 w.heap.size 0 _ _ hb;have f1:=aG w4 w.heap.size 1 _ _ hb;have H4:=bC k4 hb;clear k4 hb);have k9:Kp (fun i=>i=w.heap.size) w4 ((w4.setCell ⟨w.heap.size,0,none⟩ (.int .i64 0)).setCell ⟨w.heap.size,1,none⟩ (.int .i64 0)):=(bF w4 _ 0 _).trans (bF _ _ 1 _);obtain⟨T,G⟩:=TT.out;have D4:=T.done H4.out.1;have hlo:=HH.out.lo;have hld:=ae HH.out.Zm;have D9:=D4.turn (X':=X) k9 (fun i e=> .inr e) (fun i e=>by omega) (fun i cs t hi ht e=>by
    rw[e,H4.out.2]at hi;simp at hi;rcases ht with ht|ht<;>rw[ht]at hi<;>simp at hi) (fun i _ e=> .inl e) (fun i e=>⟨az (D4.xo i (.inl e)).1 k9.size,(D4.xo i (.inl e)).2⟩)
   have g1:=DS.goes HT0.out.2.1 (by omega) (fun k e=>by simp[Value.ownBlock]at e) G;have g2:=g1.then H4.out.1 (fun i e=>by
    rcases e with e|e;exact .inr (by omega)
    ·rcases G.own i (.inr (.inr (.inr e)))with(e|e|e|e)|e;exact .inl (.inl e);exact .inl (.inr e);simp only at e;exact .inr (by omega);simp[Value.ownBlock]at e
     ·exact .inr (by omega))
   have g3:=g2.then k9 (fun i e=> .inr (by omega));exact au (v:= .tuple #[.string ⟨r.2.toArray⟩,.agg #[.int .i64 0,.int .i64 0]]) (by simp[results,results9,go_sem,b0,b1]) rfl ⟨q2,by rw[HR.out],by rw[HR.out];exact D9,g3,by have:=HL.out;rw[aZ,HR.out]at this;rw[HR.out];exact this⟩
theorem Tn{X:Nat->Prop}{P:Yx}{db:Nat}{q:Qx}{n:Nat}{d:Ds}{w:World}(H:DS X P db q n d w)(ls:List (List UInt8))(ao:Option Addr)(cap:Nat)(ha:fF w ls ao)(hx:∀a,ao=some a->0<ls.length->¬nG P db q a.block)(hll:∀t∈ls,t.length<=20000)(hn:n+ls.length<=400):
 Calls prog 9 #[.pointer (some ⟨db,0,none⟩),.slice ao ls.length cap] w (DoQ X P db q n d ls w):=by
 by_cases hc:(fw ls).1=0;exact Vf H ls ao cap ha hx hll hn hc;exact Bn H ls ao cap ha (by omega) hc
theorem Xt:U2 0 [] d00:=⟨YK,aj _,aP _,fun p=>by
 have:∀p,(h00.hs.getD p []).length=0:=fun p=>by
  rw[aD];cases e:h00.hs[p]? with
  |none=>rfl
  |some v=>have:=dx e;simp[h00]at this;rw[this];rfl
 rw[show d00.h=h00 from rfl,this p];omega,by simp[d00],fun e he=>by cases he⟩
theorem nz(X:Nat->Prop)(B:Nat)(w:World)(hX:∀k,X k->k<w.heap.size)(hB:B<=w.heap.size)(hz:Lz B w):
 Calls prog 7 #[] w fun e w'=>∃P db q,P.h.B=B/\e= .returned (.pointer (some ⟨db,0,none⟩))/\DS X P db q 0 d00 w'/\(∀k,nG P db q k->w.heap.size<=k)/\aA w w':=by
 have HN:=hid (WO X B w hX hB);have HX:=gp hX hB hz;clear hX hB hz;go_enter func7,ntmps7;go_wp2_with (go_at_call 12;refine HN.out.mono ?_;rintro e w1 ⟨p,q,hb,rfl,s1,o1,q1⟩;have H1:=jR hb s1 o1 q1;clear hb s1 o1 q1);go_ret;obtain⟨hb,s1,o1,q1⟩:=H1.out;obtain⟨hX,hB,hz⟩:=HX.out;have k2:aA w1 (w1.alloc (.cells #[.pointer (some ⟨p.wb,0,none⟩),.string ⟨#[]⟩] 42)):=Kp.alloc _ _;have hs1:=q1.size;have y1:YN X p q h00 [] 0 w1:=s1;have hsz:(w1.alloc (.cells #[.pointer (some ⟨p.wb,0,none⟩),.string ⟨#[]⟩] 42)).heap.size=w1.heap.size+1:=by simp
 have hb':p.h.B=B:=hb;refine⟨p,w1.heap.size,⟨q,[]⟩,hb,rfl,⟨y1.step k2 (fun i hi e=> ?_) (fun i e=> ?_),ah w1 _, ?_,Xt, ?_,fun i e=>⟨?_,fun e2=> ?_⟩⟩,fun k e=> ?_,q1.trans k2⟩;rcases e with e|e;omega;exact e;have hm:=k2.size;rcases e with e|e;rw[e];exact hsz▸Nat.lt_succ_self _;exact az (hX i e) (aF hs1 hm);rw[hb'];exact hz.low ((q1.trans k2).below hB fun i e=>e.elim);rw[hb'];omega;exact az (hX i e) (aF hs1 k2.size);rcases e2 with e2|e2;have:=o1 i e2;have:=hX i e;omega;have:=hX i e;omega;rcases e with e|e;exact o1 k e;omega
def E8:List (List UInt8):=[[124,102,117,110,32,40,114,101,97,100,32,40,97,114,103,41,41],[108,111,97,100,32,49],[103,114,97,110,116,32,49,32,51,32,114,32,45,49],[99,97,108,108,32,49,32,48,32,48],[118,97,108,117,101,32,49,32,48,32,53],[108,111,103],[104,97,110,100,32,49],[120]]
def YD:List UInt8:=[121,101,115,32,110,105,108,10,121,101,115,32,35,48,10,121,101,115,32,48,32,50,10,110,111,32,50,10,49,32,114,32,51,32,35,48,10,101,110,100,10,104,97,110,100,32,35,48,10,119,104,97,116,10]
theorem O4:fw E8=(0,0):=by decide+kernel
theorem OU:(fU d00 E8).2=YD:=by kernel_rfl
theorem PO{P:Yx}{db:Nat}{q:Qx}{w:World}(H:DS (fun _=>False) P db q 0 d00 w):Calls prog 9 #[.pointer (some ⟨db,0,none⟩),.slice (some ⟨w.heap.size,0,none⟩) 8 8] (w.alloc (.cells (lK E8).toArray 9)) fun e w'=>e= .returned (.tuple #[.string ⟨#[121,101,115,32,110,105,108,10,121,101,115,32,35,48,10,121,101,115,32,48,32,50,10,110,111,32,50,10,49,32,114,32,51,32,35,48,10,101,110,100,10,104,97,110,100,32,35,48,10,119,104,97,116,10]⟩,.agg #[.int .i64 0,.int .i64 0]])/\Kp (nG P db q) w w':=by
 have k:aA w (w.alloc (.cells (lK E8).toArray 9)):=Kp.alloc _ _;have h:=Tn (H.quiet k) E8 (some ⟨w.heap.size,0,none⟩) 8 (oQ w E8 (by simp[E8])) (fun a e _ e2=>by
  cases e;have:=(H.lt e2).2;simp only at this;omega) (by decide+kernel) (by simp[E8])
 refine h.mono ?_;rintro e w' ⟨q',rfl,_,g,_⟩;rw[O4];simp only[if_true];rw[OU];exact⟨rfl,(k.mono fun _ _ e=>e.elim).trans g.kp⟩
theorem OZ(B:Nat)(w:World)(hB:B<=w.heap.size)(hz:Lz B w):Calls prog 5 #[] w fun e w'=>e= .returned (.bool true)/\aA w w':=by
 have HN:=hid (nz (fun _=>False) B w (fun _ e=>e.elim) hB hz);clear hz;go_enter func5,ntmps5;go_wp2_with (first
  |(go_at_call 9;refine(PO H1.out.1).mono ?_;rintro e w2 ⟨rfl,k2⟩;have Q2:=hid (H1.out.2.2.fresh (k2.mono fun i _ e=>H1.out.2.1 i e));clear k2)
  |(go_at_call 7;refine HN.out.mono ?_;rintro e w1 ⟨P,db,q,_,rfl,s1,o1,q1⟩;have H1:=gp s1 o1 q1;clear s1 o1 q1))
 go_ret;exact⟨rfl,Q2.out.trans (Kp.alloc _ _)⟩
def wG:Nat->List (List UInt8)->Bool
 |_,[]=>false
 |n,l::ls=>decide (12000<n+l.length)||wG (n+l.length) ls
theorem OV:∀(ls:List (List UInt8))(n:Nat),wG n ls=false->∀l∈ls,l.length<=12000:=by
 intro ls;induction ls with
 |nil=>intro n _ l hl;cases hl
 |cons x ls ih=>
  intro n h l hl;simp only[wG,Bool.or_eq_false_iff,decide_eq_false_iff_not]at h;rcases aU.1 hl with rfl|hl;omega;exact ih _ h.2 l hl
theorem Rj(ls:List (List UInt8))(ao:Option Addr)(cap:Nat)(w:World)(ha:fF w ls ao)(hl:ls.length<=100000)(hs:∀l∈ls,l.length<=140737488355328):
 Calls prog 6 #[.slice ao ls.length cap] w fun e w'=>e= .returned (.bool (wG 0 ls))/\w'=w:=by
 have HA:=bC ha hs;obtain⟨b,hb⟩:∃b,b=wG 0 ls:=⟨_,rfl⟩;rw[<-hb];have HE:=hid hb;clear ha hs hb;go_enter func6,ntmps6;go_wp2;go_loop [3,4] (fun m i=>∃(k n:Nat),i= .int .i64 k/\m= .int .i64 n/\k<=ls.length/\n<=12000/\Hid (b=wG n (ls.drop k))) (fun _ i=>ls.length-(intOf i).toNat);case atStart=>exact⟨0,0,rfl,rfl,aP _,aP _,hid (by rw[List.drop_zero];exact HE.out)⟩
 case round=>
  clear HE;obtain⟨k,n,rfl,rfl,hk,hn,E⟩:=hrel;by_cases hlt:k<ls.length
  ·obtain⟨bb,off,rfl,hc⟩:=HA.out.1 k hlt;have hsz:=HA.out.2 ls[k] (aI hlt);have E2:=hid (show b=(decide (12000<n+ls[k].length)||wG (n+ls[k].length) (ls.drop (k+1)))by rw[E.out,bO hlt];rfl);have hz:=Ex.Y8 ls[k];generalize ls[k]=t at*;by_cases hg:12000<n+t.length
   ·have E3:=hid (show b=true by rw[E2.out];simp[hg]);have hg':(12000:Int)<((n+t.length:Nat):Int):=(by omega);go_wp2;go_ret;exact⟨by rw[E3.out];rfl,rfl⟩
   ·have E3:=hid (show b=wG (n+t.length) (ls.drop (k+1))by rw[E2.out];simp[hg]);have hg':¬(12000:Int)<((n+t.length:Nat):Int):=(by omega);go_wp2;exact⟨⟨k+1,n+t.length,by go_num,by simp,by omega,by omega,E3⟩,by simp[intOf];omega⟩
  ·obtain rfl:k=ls.length:=(by omega);have E3:=hid (show b=false by rw[E.out,List.drop_length];rfl);go_wp2;go_ret;exact⟨by rw[E3.out];rfl,rfl⟩
theorem Ma(a:Addr)(n k cap:Nat)(h1:(k:Int)<=(n:Int))(h3:k<cap)(W:World):(Instr.slice 22 (.slice (some a) n cap) (some (.int .i64 (k:Int))) none none).run prog W= .ok (.slice (some (a.add k)) (n-k) (cap-k)) W:=by
 have h0:(0:Int)<=(k:Int):=by omega
 have h4:(k:Int)<=(cap:Int):=by omega
 have h5:¬cap=k:=by omega
 have h6:¬cap-k=0:=by omega
 go_simp
theorem R7(a:Addr)(n:Nat)(W:World):(Instr.slice 22 (.slice (some a) n n) (some (.int .i64 (n:Int))) none none).run prog W= .ok (.slice (some a) (n-n) (n-n)) W:=by
 have h0:(0:Int)<=(n:Int):=by omega
 go_simp
theorem O3(W:World):(Instr.slice 22 (.slice none 0 0) (some (.int .i64 ((0:Nat):Int))) none none).run prog W= .ok (.slice none (0-0) (0-0)) W:=by
 go_simp
theorem PR{w:World}{l:List (List UInt8)}{ao:Option Addr}{cap k:Nat}(ha:fF w l ao)(hk:k<=l.length)(hcap:l.length<=cap)(hn:ao=none->cap=0):
 ∃ao2,(∀W:World,(Instr.slice 22 (.slice ao l.length cap) (some (.int .i64 (k:Int))) none none).run prog W= .ok (.slice ao2 (l.length-k) (cap-k)) W)/\fF w (l.drop k) ao2:=by
 cases ao with
 |none=>
  have h0:=hn rfl;obtain rfl:cap=0:=h0;obtain rfl:l=[]:=bB (by omega);obtain rfl:k=0:=by simpa using hk
  exact⟨none,O3,fun i hi=>by simp at hi⟩
 |some a=>
  by_cases h:k<cap;refine⟨some (a.add k),Ma a l.length k cap (by omega) h,fun i hi=> ?_⟩;have h1:k+i<l.length:=(by rw[eP]at hi;omega);obtain⟨b,off,e,c⟩:=ha (k+i) h1;cases e;exact⟨b,off+k,by simp[Addr.add],by rw[List.getElem_drop,Nat.add_assoc];exact c⟩;obtain rfl:cap=l.length:=(by omega);obtain rfl:k=l.length:=(by omega);exact⟨some a,R7 a l.length,fun i hi=>by rw[List.drop_length]at hi;simp at hi⟩
theorem Xy{X:Nat->Prop}{P:Yx}{db:Nat}{q:Qx}{n:Nat}{d d':Ds}{w:World}{s:List UInt8}{c a:Int}(H:DS X P db q n d w)(ls:List (List UInt8))(ao:Option Addr)(m cap:Nat)(hm:m=ls.length)(ha:fF w ls ao)(hx:∀a,ao=some a->0<ls.length->¬nG P db q a.block)(hll:∀t∈ls,t.length<=20000)(hn:n+ls.length<=400)
 (hs:s=if(fw ls).1=0 then(fU d ls).2 else[]) (hc:fw ls=(c,a)) (hd:d'=if(fw ls).1=0 then(fU d ls).1 else d):
 Calls prog 9 #[.pointer (some ⟨db,0,none⟩),.slice ao m cap] w fun e w'=>∃q',e= .returned (.tuple #[.string ⟨s.toArray⟩,.agg #[.int .i64 c,.int .i64 a]])/\DS X P db q' (n+ls.length) d' w'/\qC P db q w q' w'/\s.length<=100000000*ls.length:=by
 subst hm hs hd;have h:=Tn H ls ao cap ha hx hll hn;unfold DoQ at h;rw[hc]at h|-;exact h
structure wD(W:World)(P:Yx)(db:Nat)(q:Qx)(n:Nat)(d:Ds)(P':Yx)(db':Nat)(q':Qx)(n':Nat)(d':Ds)(w:World):Prop where
 a:DS (nG P' db' q') P db q n d w
 b:DS (nG P db q) P' db' q' n' d' w
 k:aA W w
 o1:∀k,nG P db q k->W.heap.size<=k
 o2:∀k,nG P' db' q' k->W.heap.size<=k
 b1:P.h.B=W.heap.size
 b2:P'.h.B=W.heap.size
section
variable{W w w':World}{P P':Yx}{db db':Nat}{q q' q2:Qx}{n n' n2:Nat}{d d' d2:Ds}
theorem wD.swap(T:wD W P db q n d P' db' q' n' d' w):wD W P' db' q' n' d' P db q n d w:=⟨T.b,T.a,T.k,T.o2,T.o1,T.b2,T.b1⟩
theorem wD.quiet(T:wD W P db q n d P' db' q' n' d' w)(k:aA w w'):wD W P db q n d P' db' q' n' d' w':=⟨T.a.quiet k,T.b.quiet k,T.k.trans k,T.o1,T.o2,T.b1,T.b2⟩
theorem wD.first(T:wD W P db q n d P' db' q' n' d' w)(s:DS (nG P' db' q') P db q2 n2 d2 w')(g:qC P db q w q2 w'):wD W P db q2 n2 d2 P' db' q' n' d' w':=by
 have hs:=T.k.size;refine⟨s,T.b.turn g.kp (fun i e=>e) (fun i e=>by rw[T.b2];exact T.o1 i e) (fun i cs t hi ht e=>T.a.abK i cs t hi ht e) (fun i hi e=>(g.own i e).resolve_right (by omega)) (fun i e=>⟨(s.lt e).2,fun e2=>(s.xo i e2).2 e⟩),T.k.fresh (g.kp.mono fun i _ e=>T.o1 i e),fun i e=> ?_,T.o2,T.b1,T.b2⟩;rcases g.own i e with e|e;exact T.o1 i e;omega
theorem wD.begin(a:DS (fun _=>False) P db q n d w)(oa:∀k,nG P db q k->W.heap.size<=k)(ka:aA W w)(ha:P.h.B=W.heap.size)(b:DS (nG P db q) P' db' q' n' d' w')(ob:∀k,nG P' db' q' k->w.heap.size<=k)(k:aA w w')(hb:P'.h.B=W.heap.size):wD W P db q n d P' db' q' n' d' w':=by
 have hs:=ka.size;exact⟨a.step k (fun i hi e=>by have:=ob i e;omega) fun i e=>(b.lt e).2,b,ka.trans k,oa,fun i e=>by have:=ob i e;omega,ha,hb⟩
end
theorem Wi{c:Int}{n:Nat}(hn:n<=200):∃k:Nat,k<=n/\wrap64 ((IntKind.u64.wrap c).tmod ((n:Int)+1))=(k:Int):=by
 have h0:0<=IntKind.u64.wrap c:=by
  have e:IntKind.u64.wrap c=c%18446744073709551616:=by simp[IntKind.wrap,IntKind.signed,IntKind.bits]
  omega
 have h1:=Int.tmod_nonneg ((n:Int)+1) h0;have h2:=Int.tmod_lt_of_pos (IntKind.u64.wrap c) (show(0:Int)<(n:Int)+1 by omega);refine⟨((IntKind.u64.wrap c).tmod ((n:Int)+1)).toNat,by omega, ?_⟩;generalize(IntKind.u64.wrap c).tmod ((n:Int)+1)=x at*;unfold wrap64;omega
theorem qC.kept{P:Yx}{db:Nat}{q q':Qx}{w w':World}{i:Nat}{o:Obj}(g:qC P db q w q' w')(h:w.heap[i]?=some o)(hn:¬nG P db q i):w'.heap[i]?=some o:=(g.kp.block _ (ae h) hn).trans h
theorem qO{w:World}{i:Nat}{o o':Obj}(h:w.heap[i]?=some o):(w.alloc o').heap[i]?=some o:=(aB w o' i (ae h)).trans h
theorem Ij{W w:World}{X:Nat->Prop}{P:Yx}{db:Nat}{q:Qx}{n m cap:Nat}{d d':Ds}{ls:List (List UInt8)}{ao:Option Addr}{s:List UInt8}{c a:Int}(ha:fF W ls ao)(hll:∀t∈ls,t.length<=12000)(hm:m=ls.length)(hn:n+ls.length<=400)
 (hs:s=if(fw ls).1=0 then(fU d ls).2 else[]) (hc:fw ls=(c,a)) (hd:d'=if(fw ls).1=0 then(fU d ls).1 else d) (k:aA W w) (H:DS X P db q n d w) (ho:∀k,nG P db q k->W.heap.size<=k):
 Calls prog 9 #[.pointer (some ⟨db,0,none⟩),.slice ao m cap] w fun e w'=>∃q',e= .returned (.tuple #[.string ⟨s.toArray⟩,.agg #[.int .i64 c,.int .i64 a]])/\DS X P db q' (n+ls.length) d' w'/\qC P db q w q' w'/\s.length<=100000000*ls.length:=
 Xy H ls ao m cap hm (ha.quiet k) (fun x e h0 e2=>by
  obtain⟨b,off,e3,hc⟩:=ha 0 h0;rw[e]at e3;cases e3;have h1:=aW W _ hc;have h2:=ho _ e2;simp only at h1 h2;omega) (fun t ht=>aF (hll t ht) (by decide)) hn hs hc hd
theorem Oy{w:World}{l:List (List UInt8)}{ao:Option Addr}(h:fF w l ao)(k:Nat):fF w (l.take k) ao:=fun i hi=>by
 have h1:i<l.length:=by rw[dK]at hi;omega
 obtain⟨b,off,e,c⟩:=h i h1;exact⟨b,off,e,by rw[List.getElem_take];exact c⟩
theorem ET{l:List (List UInt8)}(k:Nat)(hl:l.length<=200):((fw (l.take k)).1=0/\(fw (l.drop k)).1=0)<->(fw l).1=0:=by
 rw[zO hl,zO (by rw[dK];omega),zO (by rw[eP];omega)];conv=>rhs;rw[<-dS k l,List.any_append]
 rw[Bool.or_eq_false_iff]
theorem Sj(W:World)(l:List (List UInt8))(ao:Option Addr)(cap:Nat)(cut:Int)(ha:fF W l ao)(hcap:l.length<=cap)(hno:ao=none->cap=0)(hlen:∀t∈l,t.length<=140737488355328)(hz:Lz W.heap.size W):
 Calls prog 4 #[.slice ao l.length cap,.int .i64 cut] W fun e w'=>e= .returned (.bool true)/\aA W w':=by
 have HB:=hid (OZ W.heap.size W (aj _) hz);by_cases ajd:200<l.length
 ·have adK:(200:Int)<(l.length:Int):=by omega
  clear ha hlen;go_enter func4,ntmps4;go_wp2_with (go_at_call 5;refine HB.out.mono ?_;rintro e w1 ⟨rfl,q1⟩;have Q1:=hid q1;clear q1);go_ret;exact⟨rfl,Q1.out⟩
 ·have adK:¬(200:Int)<(l.length:Int):=by omega
  have HS:=hid (fun(w1:World) (q1:aA W w1)=>Rj l ao cap w1 (ha.quiet q1) (by omega) hlen);cases hsl:wG 0 l with
  |true=>
   rw[hsl]at HS;clear ha hlen hsl;go_enter func4,ntmps4;go_wp2_with (first
    |(go_at_call 6;refine(HS.out _ Q1.out).mono ?_;rintro e w2 ⟨rfl,h2⟩;replace h2:=h2.symm;subst h2)
    |(go_at_call 5;refine HB.out.mono ?_;rintro e w1 ⟨rfl,q1⟩;have Q1:=hid q1;clear q1))
   go_ret;exact⟨rfl,Q1.out⟩
  |false=>
   rw[hsl]at HS;have hll:=OV l 0 hsl;obtain⟨kk,hk,hkk⟩:=Wi (c:=cut) (n:=l.length) (by omega);have HA:=gp ha hll hcap;have HZ:=hid (fun(w1:World) (q1:aA W w1)=>hz.low (q1.below (aj _) fun i e=>e.elim));have k0:(0:Int)<=(kk:Int):=(by omega);have k1:(kk:Int)<=(l.length:Int):=(by omega);have k2:(kk:Int)<=(cap:Int):=(by omega);have k3:(l.length:Int)<=(cap:Int):=(by omega);have ahH:decide ((200:Int)<(l.length:Int))=false:=(by simpa using adK);obtain⟨l1,hl1⟩:∃l1,l1=l.take kk:=⟨_,rfl⟩;obtain⟨c1,a1,hc1⟩:∃c a,fw l1=(c,a):=⟨_,_,rfl⟩;obtain⟨c0,a0,hc0⟩:∃c a,fw l=(c,a):=⟨_,_,rfl⟩;obtain⟨s1,hs1⟩:∃s,s=if(fw l1).1=0 then(fU d00 l1).2 else[]:=⟨_,rfl⟩
   obtain⟨d1,hd1⟩:∃d,d=if(fw l1).1=0 then(fU d00 l1).1 else d00:=⟨_,rfl⟩
   obtain⟨s0,hs0⟩:∃s,s=if(fw l).1=0 then(fU d00 l).2 else[]:=⟨_,rfl⟩
   obtain⟨d0,hd0⟩:∃d,d=if(fw l).1=0 then(fU d00 l).1 else d00:=⟨_,rfl⟩
   have hm1:kk=l1.length:=(by rw[hl1,dK];omega);have hn1:0+l1.length<=400:=(by omega);have A1:fF W l1 ao:=(by rw[hl1];exact Oy ha kk);have L1:∀t∈l1,t.length<=12000:=fun t ht=>hll t (by rw[hl1]at ht;exact List.mem_of_mem_take ht);obtain⟨ao2,hrun,A2⟩:=PR ha hk hcap hno;obtain⟨l2,hl2⟩:∃l2,l2=l.drop kk:=⟨_,rfl⟩;rw[<-hl2]at A2;obtain⟨c2,a2,hc2⟩:∃c a,fw l2=(c,a):=⟨_,_,rfl⟩;obtain⟨s2,hs2⟩:∃s,s=if(fw l2).1=0 then(fU d1 l2).2 else[]:=⟨_,rfl⟩
   obtain⟨d2,hd2⟩:∃d,d=if(fw l2).1=0 then(fU d1 l2).1 else d1:=⟨_,rfl⟩
   have hm2:l.length-kk=l2.length:=(by rw[hl2,eP]);have hn2:0+l1.length+l2.length<=400:=(by omega);have L2:∀t∈l2,t.length<=12000:=fun t ht=>hll t (by rw[hl2]at ht;exact List.mem_of_mem_drop ht);have D2:=hid (fun(w:World) (X:Nat->Prop) (P:Yx) (db:Nat) (q:Qx)=>Ij (w:=w) (X:=X) (P:=P) (db:=db) (q:=q) (cap:=cap-kk) A2 L2 hm2 hn2 hs2 hc2 hd2);have D1:=hid (fun(w:World) (X:Nat->Prop) (P:Yx) (db:Nat) (q:Qx)=>Ij (w:=w) (X:=X) (P:=P) (db:=db) (q:=q) (cap:=cap) A1 L1 hm1 hn1 hs1 hc1 hd1);have D0:=hid (fun(w:World) (X:Nat->Prop) (P:Yx) (db:Nat) (q:Qx)=>Ij (w:=w) (X:=X) (P:=P) (db:=db) (q:=q) (cap:=cap) ha hll (rfl:l.length=l.length) (show 0+l.length<=400 by omega) hs0 hc0 hd0);have key:(c0≠0/\c1≠0)\/(c0≠0/\c1=0/\c2≠0)\/(c0=0/\c1=0/\c2=0):=by
    have h:=ET (l:=l) kk (by omega);rw[<-hl1,<-hl2,hc0,hc1,hc2]at h;by_cases e1:c1=0;by_cases e2:c2=0;exact .inr (.inr ⟨h.1 ⟨e1,e2⟩,e1,e2⟩);exact .inr (.inl ⟨fun e0=>e2 (h.2 e0).2,e1,e2⟩);exact .inl ⟨fun e0=>e1 (h.2 e0).1,e1⟩
   have adL:c0=0->c1=0->c2=0->s0=s1++s2:=fun e0 e1 e2=>by
    rw[hs0,hs1,hs2,hd1,hc0,hc1,hc2,ag e0,ag e1,ag e1,ag e2,hl1,hl2];have h:=Cw (l.take kk) (l.drop kk) d00;rw[dS]at h;rw[h]
   have hle1:l1.length<=200:=(by omega);have hle2:l2.length<=200:=(by omega);have HLE:=bC hle1 hle2;clear ha hll hsl hlen hz hl1 hm1 hc1 hc0 hs1 hd1 hs0 hd0 A1 L1 hn1 hl2 hc2 hs2 hd2 A2 L2 hn2 hm2 hle1 hle2 HA;have HJ:=hid adL;clear adL;rcases key with⟨e0,e1⟩|⟨e0,e1,e2⟩|⟨e0,e1,e2⟩
   ·have f0:(c0 !=0)=true:=(by simpa using e0);have f1:(c1 !=0)=true:=(by simpa using e1);clear e0 e1 HJ;go_enter func4,ntmps4;go_wp2_with (first
     |(go_at_call 9;refine(D2.out _ _ _ _ _ (T5.out.k.trans (Kp.alloc _ _)) (T5.out.quiet (Kp.alloc _ _)).a T5.out.o1).mono ?_;rintro e w6 ⟨p5,rfl,s6,g6,n6⟩;have T6:=hid ((T5.out.quiet (Kp.alloc _ _)).first s6 g6);have F6:=bC (g6.kept (qO F5.out) (fun e=>by have:=(T4.out.a.lt e).2;omega)) (g6.kept (ah w5 _) (fun e=>by have:=(T5.out.a.lt e).2;omega));obtain⟨a4,b4⟩:=qo F6.out.1;obtain⟨a5,b5⟩:=qo F6.out.2;have l4:=ae F6.out.1;have l5:=ae F6.out.2;have afp:¬9223372036854775807<s1.length+s2.length:=(by have:=N4.out;have:=HLE.out;omega);clear s6 g6 n6)
     |(go_at_call 9;refine(D0.out _ _ _ _ _ (T4.out.k.trans (Kp.alloc _ _)) (T4.out.quiet (Kp.alloc _ _)).b T4.out.o2).mono ?_;rintro e w5 ⟨p4,rfl,s5,g5,n5⟩;have T5:=hid ((T4.out.quiet (Kp.alloc _ _)).swap.first s5 g5).swap;have F5:=hid (g5.kept (ah w4 _) fun e=>by have:=(T4.out.b.lt e).2;omega);clear s5 g5 n5)
     |(go_at_call 9;refine(D1.out _ _ _ _ _ T3.out.k T3.out.a T3.out.o1).mono ?_;rintro e w4 ⟨p3,rfl,s4,g4,n4⟩;have T4:=hid (T3.out.first s4 g4);have N4:=hid n4;clear s4 g4 n4)
     |(go_at_call 7;refine(nz (nG P1 db1 p1) W.heap.size _ (fun i e=>(N1.out.2.1.lt e).2) N1.out.2.2.2.size (HZ.out _ N1.out.2.2.2)).mono ?_;rintro e w3 ⟨P2,db2,p2,hb2,rfl,y2,o2,q2⟩;have T3:=hid (wD.begin N1.out.2.1 N1.out.2.2.1 N1.out.2.2.2 N1.out.1 y2 o2 q2 hb2);clear hb2 y2 o2 q2)
     |(go_at_call 7;refine(nz (fun _=>False) W.heap.size _ (fun _ e=>e.elim) Q1.out.size (HZ.out _ Q1.out)).mono ?_;rintro e w2 ⟨P1,db1,p1,hb1,rfl,y1,o1,q2⟩;have N1:=jR hb1 y1 (fun k e=>aF Q1.out.size (o1 k e)) (Q1.out.trans q2);clear hb1 y1 o1 q2)
     |(go_at_call 6;refine(HS.out _ Q1.out).mono ?_;rintro e w2 ⟨rfl,h2⟩;replace h2:=h2.symm;subst h2)
     |(go_at_call 5;refine HB.out.mono ?_;rintro e w1 ⟨rfl,q1⟩;have Q1:=hid q1;clear q1))
    go_ret;exact⟨rfl,T6.out.k.trans (Kp.alloc _ _)⟩
   ·subst e1;have f0:(c0 !=0)=true:=(by simpa using e0);have f1:(c2 !=0)=true:=(by simpa using e2);clear e0 e2 HJ;go_enter func4,ntmps4;go_wp2_with (first
     |(go_at_call 9;refine(D2.out _ _ _ _ _ (T5.out.k.trans (Kp.alloc _ _)) (T5.out.quiet (Kp.alloc _ _)).a T5.out.o1).mono ?_;rintro e w6 ⟨p5,rfl,s6,g6,n6⟩;have T6:=hid ((T5.out.quiet (Kp.alloc _ _)).first s6 g6);have F6:=bC (g6.kept (qO F5.out) (fun e=>by have:=(T4.out.a.lt e).2;omega)) (g6.kept (ah w5 _) (fun e=>by have:=(T5.out.a.lt e).2;omega));obtain⟨a4,b4⟩:=qo F6.out.1;obtain⟨a5,b5⟩:=qo F6.out.2;have l4:=ae F6.out.1;have l5:=ae F6.out.2;have afp:¬9223372036854775807<s1.length+s2.length:=(by have:=N4.out;have:=HLE.out;omega);clear s6 g6 n6)
     |(go_at_call 9;refine(D0.out _ _ _ _ _ (T4.out.k.trans (Kp.alloc _ _)) (T4.out.quiet (Kp.alloc _ _)).b T4.out.o2).mono ?_;rintro e w5 ⟨p4,rfl,s5,g5,n5⟩;have T5:=hid ((T4.out.quiet (Kp.alloc _ _)).swap.first s5 g5).swap;have F5:=hid (g5.kept (ah w4 _) fun e=>by have:=(T4.out.b.lt e).2;omega);clear s5 g5 n5)
     |(go_at_call 9;refine(D1.out _ _ _ _ _ T3.out.k T3.out.a T3.out.o1).mono ?_;rintro e w4 ⟨p3,rfl,s4,g4,n4⟩;have T4:=hid (T3.out.first s4 g4);have N4:=hid n4;clear s4 g4 n4)
     |(go_at_call 7;refine(nz (nG P1 db1 p1) W.heap.size _ (fun i e=>(N1.out.2.1.lt e).2) N1.out.2.2.2.size (HZ.out _ N1.out.2.2.2)).mono ?_;rintro e w3 ⟨P2,db2,p2,hb2,rfl,y2,o2,q2⟩;have T3:=hid (wD.begin N1.out.2.1 N1.out.2.2.1 N1.out.2.2.2 N1.out.1 y2 o2 q2 hb2);clear hb2 y2 o2 q2)
     |(go_at_call 7;refine(nz (fun _=>False) W.heap.size _ (fun _ e=>e.elim) Q1.out.size (HZ.out _ Q1.out)).mono ?_;rintro e w2 ⟨P1,db1,p1,hb1,rfl,y1,o1,q2⟩;have N1:=jR hb1 y1 (fun k e=>aF Q1.out.size (o1 k e)) (Q1.out.trans q2);clear hb1 y1 o1 q2)
     |(go_at_call 6;refine(HS.out _ Q1.out).mono ?_;rintro e w2 ⟨rfl,h2⟩;replace h2:=h2.symm;subst h2)
     |(go_at_call 5;refine HB.out.mono ?_;rintro e w1 ⟨rfl,q1⟩;have Q1:=hid q1;clear q1))
    go_ret;exact⟨rfl,T6.out.k.trans (Kp.alloc _ _)⟩
   ·subst e0 e1 e2;have aje:ByteArray.mk s1.toArray++ByteArray.mk s2.toArray=ByteArray.mk s0.toArray:=(by rw[HJ.out rfl rfl rfl,zA]);clear HJ;go_enter func4,ntmps4;go_wp2_with (first
     |(go_at_call 9;refine(D0.out _ _ _ _ _ N7.out.2.1 N7.out.1 N7.out.2.2.1).mono ?_;rintro e w8 ⟨p8,rfl,s8,g8,n8⟩;have F8:=bC (g8.kept N7.out.2.2.2.1 (fun e=>by have:=N7.out.2.2.2.2.2 _ e;have:=ae F6.out.1;omega)) (g8.kept N7.out.2.2.2.2.1 (fun e=>by have:=N7.out.2.2.2.2.2 _ e;omega));obtain⟨a8,b8⟩:=qo F8.out.1;obtain⟨a9,b9⟩:=qo F8.out.2;have l8:=ae F8.out.1;have l9:=ae F8.out.2;have H8:=hid (N7.out.2.1.fresh (g8.kp.mono fun i _ e=>N7.out.2.2.1 i e));clear s8 g8 n8)
     |(go_at_call 7;refine(nz (fun _=>False) W.heap.size _ (fun _ e=>e.elim) (T6.out.k.trans (Kp.alloc _ _)).size (HZ.out _ (T6.out.k.trans (Kp.alloc _ _)))).mono ?_;rintro e w7 ⟨P3,db3,p7,hb3,rfl,s7,o7,q7⟩;have N7:=Dq s7 ((T6.out.k.trans (Kp.alloc _ _)).trans q7) (fun k e=>aF (T6.out.k.trans (Kp.alloc _ _)).size (o7 k e)) ((q7.block _ (ae (qO F6.out.1)) fun e=>e).trans (qO F6.out.1)) ((q7.block _ (ae (ah w6 _)) fun e=>e).trans (ah w6 _)) (fun k e=>az (ae (ah w6 _)) (o7 k e));clear hb3 s7 o7 q7)
     |(go_at_call 9;refine(D2.out _ _ _ _ _ (T5.out.k.trans (Kp.alloc _ _)) (T5.out.quiet (Kp.alloc _ _)).a T5.out.o1).mono ?_;rintro e w6 ⟨p5,rfl,s6,g6,n6⟩;have T6:=hid ((T5.out.quiet (Kp.alloc _ _)).first s6 g6);have F6:=bC (g6.kept (qO F5.out) (fun e=>by have:=(T4.out.a.lt e).2;omega)) (g6.kept (ah w5 _) (fun e=>by have:=(T5.out.a.lt e).2;omega));obtain⟨a4,b4⟩:=qo F6.out.1;obtain⟨a5,b5⟩:=qo F6.out.2;have l4:=ae F6.out.1;have l5:=ae F6.out.2;have afp:¬9223372036854775807<s1.length+s2.length:=(by have:=N4.out;have:=HLE.out;omega);clear s6 g6 n6)
     |(go_at_call 9;refine(D0.out _ _ _ _ _ (T4.out.k.trans (Kp.alloc _ _)) (T4.out.quiet (Kp.alloc _ _)).b T4.out.o2).mono ?_;rintro e w5 ⟨p4,rfl,s5,g5,n5⟩;have T5:=hid ((T4.out.quiet (Kp.alloc _ _)).swap.first s5 g5).swap;have F5:=hid (g5.kept (ah w4 _) fun e=>by have:=(T4.out.b.lt e).2;omega);clear s5 g5 n5)
     |(go_at_call 9;refine(D1.out _ _ _ _ _ T3.out.k T3.out.a T3.out.o1).mono ?_;rintro e w4 ⟨p3,rfl,s4,g4,n4⟩;have T4:=hid (T3.out.first s4 g4);have N4:=hid n4;clear s4 g4 n4)
     |(go_at_call 7;refine(nz (nG P1 db1 p1) W.heap.size _ (fun i e=>(N1.out.2.1.lt e).2) N1.out.2.2.2.size (HZ.out _ N1.out.2.2.2)).mono ?_;rintro e w3 ⟨P2,db2,p2,hb2,rfl,y2,o2,q2⟩;have T3:=hid (wD.begin N1.out.2.1 N1.out.2.2.1 N1.out.2.2.2 N1.out.1 y2 o2 q2 hb2);clear hb2 y2 o2 q2)
     |(go_at_call 7;refine(nz (fun _=>False) W.heap.size _ (fun _ e=>e.elim) Q1.out.size (HZ.out _ Q1.out)).mono ?_;rintro e w2 ⟨P1,db1,p1,hb1,rfl,y1,o1,q2⟩;have N1:=jR hb1 y1 (fun k e=>aF Q1.out.size (o1 k e)) (Q1.out.trans q2);clear hb1 y1 o1 q2)
     |(go_at_call 6;refine(HS.out _ Q1.out).mono ?_;rintro e w2 ⟨rfl,h2⟩;replace h2:=h2.symm;subst h2)
     |(go_at_call 5;refine HB.out.mono ?_;rintro e w1 ⟨rfl,q1⟩;have Q1:=hid q1;clear q1))
    go_ret;exact⟨rfl,H8.out.trans (Kp.alloc _ _)⟩
theorem jS:prog.cellsOf 9=1:=by kernel_rfl
theorem Em:prog.underlying 9=some .string:=by kernel_rfl
section
variable{H:Type}{enc:TypeId×Value->H}{W:World}
theorem Hm{P:Program}{e:TypeId}{n:Nat}{d:DataW H}:∀{l:List (DataW H)},d∈l->n∈d.weights P e->n∈DataW.weightsAll P e l:=by
 intro l;induction l with
 |nil=>intro h;cases h
 |cons x l ih=>
  intro h hn;rw[DataW.weightsAll,aK];rcases aU.1 h with rfl|h;exact .inl hn;exact .inr (ih h hn)
theorem N9{ao:Option Addr}{n cap:Nat}{d:DataW H}{ps:List MemPlace}(h:DataW.Trod enc prog W 0 (fun _=>true) true 22 (.slice ao n cap) d ps)(hr:∀k∈d.weights prog 22,k<=reachBytes):
 n<=cap/\(ao=none->cap=0)/\∃l:List (List UInt8),l.length=n/\fF W l ao/\∀t∈l,t.length<=140737488355328:=by
 obtain⟨fuel,hf⟩:=h;rcases Deep.open_strs jB Em jS hf with⟨h0,_⟩|⟨a,len',cap',m,Sx,h0,hb,hl,hm,hmm,hx,hc⟩;simp only[Value.cells,List.cons.injEq,aY,and_true]at h0;obtain⟨rfl,rfl,rfl⟩:=h0;exact⟨aj _,fun _=>rfl,[],rfl,fun i hi=>by simp at hi,fun t ht=>by cases ht⟩
 ·simp only[Value.cells,List.cons.injEq,aY,and_true]at h0;obtain⟨rfl,rfl,rfl⟩:=h0;rw[ag rfl]at hmm;subst hmm;refine⟨hl,fun e=>(by cases e),(List.range n).map fun i=>(Sx i).data.toList,by simp,fun i hi=> ?_,fun t ht=> ?_⟩;simp only[bE,List.length_range]at hi;obtain⟨b,off,spot⟩:=a;have hspot:spot=none:=(by simpa [Addr.add]using World.cell?_spot (hc 0 (by omega)).1);subst hspot;refine⟨b,off,rfl, ?_⟩;have h1:=(hc i (by omega)).1;rw[show(⟨b,off,none⟩:Addr).add i=⟨b,off+i,none⟩by simp[Addr.add]]at h1;rw[h1];simp
  ·obtain⟨i,hi,rfl⟩:=List.mem_map.1 ht;have hd:d= .slice ((List.range n).map fun i=> .lit (.string (Sx i).data.toList)) ((List.range (m-n)).map fun j=> .lit (.string (Sx (n+j)).data.toList)):=aC Prod.fst hx;have h1:=hr (Sx i).data.toList.length (by
    rw[hd,DataW.weights,jB];refine List.mem_cons_of_mem _ (List.mem_append_left _ (Hm (List.mem_map.2 ⟨i,hi,rfl⟩) ?_));rw[DataW.weights];simp)
   have h2:=reachBytes_lt;omega
end
