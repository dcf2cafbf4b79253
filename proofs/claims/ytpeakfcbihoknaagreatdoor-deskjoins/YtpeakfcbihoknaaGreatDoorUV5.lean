/- Parts. -/
import Derived.Test.YtpeakfcbihoknaaGreatDoorUM0
import Derived.Deep.CutRange
import Derived.Deep.RegionWith
open Go.ChangeShapes Go.WideShapes Go.ChangeAt Go.RowKit
set_option maxRecDepth 8000
set_option maxHeartbeats 4000000
namespace Go.Proofs.YtpeakfcbihoknaaGreatDoor
open Proofs.Tryz
section
open Gr (Nd ZH nd0 YT mf aS dJ bJ dV mV fO Zx funcOf bS Y0 bN eX YS Wf jg GS fJ fI ku fP YU Zc)
theorem yR(n:Nd)(w:World):Calls prog 234 #[n.agg] w fun e w'=>e= .returned (.bool (decide (0<=n.plugin)))/\aA w w':=by
 obtain⟨a,b,c,d,p,f⟩:=n;simp only[Gr.Nd.agg];go_enter func234,ntmps234;go_wp2;go_ret;exact⟨rfl,Kp.alloc _ _⟩
def ofB(q:Int)(n:Nd):Bool:=decide (0<=n.plugin)&&decide (n.plugin=q)
theorem EG(n:Nd)(b:Nat)(q:Int)(w:World)(hc:w.cell? ⟨b,0,none⟩=some (.int .i64 q)):Calls prog 281 #[n.agg,.pointer (some ⟨b,0,none⟩)] w fun e w'=>e= .returned (.bool (ofB q n))/\aA w w':=by
 have HF:=hid (fun w=>yR n w);obtain⟨x,y,c,d,p,f⟩:=n;simp only[Gr.Nd.agg]at*;have q1:aA w (w.alloc (.cells #[.int .i64 x,.int .i64 y,.int .i64 c,.int .i64 d,.int .i64 p,.int .i64 f] 207)):=Kp.alloc _ _;have b1:=ah w (.cells #[.int .i64 x,.int .i64 y,.int .i64 c,.int .i64 d,.int .i64 p,.int .i64 f] 207);have c1:=q1.cell hc fun e=>e;have HB:=bC q1 b1;clear q1 b1;by_cases h0:0<=p
 ·have hE:=hid (show ofB q ⟨x,y,c,d,p,f⟩=decide (p=q)by simp[ofB,h0]);go_enter func281,ntmps281;go_wp2_with (go_at_call 234;refine(HF.out _).mono ?_;rintro e w2 ⟨rfl,q2⟩;have c2:=q2.cell c1 (fun e=>e);have d2:=(q2.block _ (ae HB.out.2) (fun e=>e)).trans HB.out.2;obtain⟨m0,m1,m2,m3,m4,m5⟩:=Gr.six d2;have Q2:=hid (HB.out.1.trans q2);clear q2 d2);go_ret;exact⟨by rw[hE.out];simp;rfl,Q2.out⟩
 ·have hE:=hid (show ofB q ⟨x,y,c,d,p,f⟩=false by simp[ofB,h0]);have hd:decide (0<=p)=false:=by simpa using h0
  go_enter func281,ntmps281;go_wp2_with (go_at_call 234;refine(HF.out _).mono ?_;rintro e w2 ⟨rfl,q2⟩;have Q2:=hid (HB.out.1.trans q2);clear q2);go_ret;exact⟨by rw[hE.out];rfl,Q2.out⟩
def kT(cell:Int)(bit:Nat)(n:Nd):Bool:= !decide (0<=n.plugin)&&decide (n.cell=cell)&&n.Y1.toNat.testBit bit
theorem Ip(n:Nd)(b1 b2:Nat)(cell rt:Int)(bit:Nat)(w:World)(hb:nT bit rt)(hn:n.plugin<0->0<=n.Y1/\n.Y1<=15)(hc1:w.cell? ⟨b1,0,none⟩=some (.int .i64 cell))(hc2:w.cell? ⟨b2,0,none⟩=some (.int .i64 rt)):Calls prog 233 #[n.agg,.pointer (some ⟨b1,0,none⟩),.pointer (some ⟨b2,0,none⟩)] w fun e w'=>e= .returned (.bool (kT cell bit n))/\aA w w':=by
 have HF:=hid (fun w=>yR n w);obtain⟨x,y,r,d,p,f⟩:=n;simp only[Gr.Nd.agg]at*;have q1:aA w (w.alloc (.cells #[.int .i64 x,.int .i64 y,.int .i64 r,.int .i64 d,.int .i64 p,.int .i64 f] 207)):=Kp.alloc _ _;have b1:=ah w (.cells #[.int .i64 x,.int .i64 y,.int .i64 r,.int .i64 d,.int .i64 p,.int .i64 f] 207);have e1:=q1.cell hc1 fun e=>e;have e2:=q1.cell hc2 fun e=>e;have HB:=bC q1 b1;clear q1 b1;by_cases h0:0<=p
 ·have hE:=hid (show kT cell bit ⟨x,y,r,d,p,f⟩=false by simp[kT,h0]);go_enter func233,ntmps233;go_wp2_with (go_at_call 234;refine(HF.out _).mono ?_;rintro e w2 ⟨rfl,q2⟩;have Q2:=hid (HB.out.1.trans q2);clear q2);go_ret;exact⟨by rw[hE.out];rfl,Q2.out⟩
 ·have hd:decide (0<=p)=false:=by simpa using h0
  obtain⟨hr0,hr1⟩:=hn (by omega);obtain⟨rn,rfl⟩:∃rn:Nat,r=rn:=⟨r.toNat,by omega⟩;have HH:=hid (fun w=>Bb hb rn (by omega) w);clear hr0 hr1 hn;by_cases h1:d=cell
  ·have hE:=hid (show kT cell bit ⟨x,y,rn,d,p,f⟩=rn.testBit bit by simp[kT,h0,h1]);subst h1;go_enter func233,ntmps233;go_wp2_with (first
    |(go_at_call 153;refine(HH.out _).mono ?_;rintro e w3 ⟨rfl,h3⟩;replace h3:=h3.symm;subst h3)
    |(go_at_call 234;refine(HF.out _).mono ?_;rintro e w2 ⟨rfl,q2⟩;have g1:=q2.cell e1 (fun e=>e);have g2:=q2.cell e2 (fun e=>e);have d2:=(q2.block _ (ae HB.out.2) (fun e=>e)).trans HB.out.2;obtain⟨m0,m1,m2,m3,m4,m5⟩:=Gr.six d2;have Q2:=hid (HB.out.1.trans q2);clear q2 d2))
   go_ret;exact⟨by rw[hE.out];simp,Q2.out⟩
  ·have hE:=hid (show kT cell bit ⟨x,y,rn,d,p,f⟩=false by simp[kT,h1]);have hd2:(d==cell)=false:=(by simpa using h1);go_enter func233,ntmps233;go_wp2_with (first
    |(go_at_call 234;refine(HF.out _).mono ?_;rintro e w2 ⟨rfl,q2⟩;have g1:=q2.cell e1 (fun e=>e);have g2:=q2.cell e2 (fun e=>e);have d2:=(q2.block _ (ae HB.out.2) (fun e=>e)).trans HB.out.2;obtain⟨m0,m1,m2,m3,m4,m5⟩:=Gr.six d2;have Q2:=hid (HB.out.1.trans q2);clear q2 d2))
   go_ret;exact⟨by rw[hE.out];rfl,Q2.out⟩
theorem zS{α:Type}{f:α->Bool}{l:List α}{k:Nat}(hk:k<l.length)(h:(l.take k).any f=false):(l.take (k+1)).any f=f l[k]:=by
 rw[List.take_succ_eq_append_getElem hk,List.any_append,h];simp
theorem Ky{α:Type}{f:α->Bool}{l:List α}{k:Nat}(hk:k<l.length)(h:f l[k]=true):l.any f=true:=dW.2 ⟨_,aI hk,h⟩
theorem Hu(ns:List Nd)(B:Nat)(ao:Option Addr)(cap b:Nat)(q:Int)(w:World)(h:w.ownsRow B 207 6 (.slice ao ns.length cap) ns.length (fI ns))(hl:ns.length<=100000)(hc:w.cell? ⟨b,0,none⟩=some (.int .i64 q)):
 Calls prog 259 #[.slice ao ns.length cap,.func (.func 281) #[] #[.pointer (some ⟨b,0,none⟩)]] w fun e w'=>∃r:Int,e= .returned (.int .i64 r)/\decide (0<=r)=ns.any (ofB q)/\aA w w':=by
 have HR:=hid h;have HC:=hid hc;clear h hc;go_enter func259,ntmps259;go_wp2;go_loopw [8] (fun i wr=>∃k:Nat,i= .int .i64 k/\k<=ns.length/\Hid ((ns.take k).any (ofB q)=false/\aA w wr)) (fun i _=>ns.length-(intOf i).toNat);case atStart=>exact⟨0,rfl,aP _,hid ⟨by simp,Kp.refl _ _⟩⟩
 case round=>
  rename World=>wr;obtain⟨k,rfl,hk,D⟩:=hrel;by_cases hlt:k<ns.length
  ·have hr:=D.out.2.row HR.out fun _ _ e=>e;obtain⟨g,cp,hv⟩:=fP hr (by omega);cases hv;obtain⟨y0,y1,y2,y3,y4,y5⟩:=ku hr k hlt;have HK:=hid (EG ns[k] b q wr (D.out.2.cell HC.out fun e=>e));have HT:=hid (zS hlt D.out.1);have HA:=hid (fun e=>Ky (f:=ofB q) hlt e);clear hr;generalize ns[k]=n at*;obtain⟨x,y,c,d,p,f⟩:=n;simp only[Gr.Nd.agg]at*;cases hb:ofB q ⟨x,y,c,d,p,f⟩with
   |true=>
    rw[hb]at HK;go_wp2_with (go_at_call 281;refine HK.out.mono ?_;rintro e w2 ⟨rfl,q2⟩;have Q2:=hid (D.out.2.trans q2);clear q2);go_ret;exact⟨_,rfl,by rw[HA.out hb];simp,Q2.out⟩
   |false=>
    rw[hb]at HK;go_wp2_with (go_at_call 281;refine HK.out.mono ?_;rintro e w2 ⟨rfl,q2⟩;have Q2:=hid (D.out.2.trans q2);clear q2);refine⟨⟨k+1,by go_num,by omega,hid ⟨HT.out.trans hb,Q2.out⟩⟩,by simp[intOf];omega⟩
  ·obtain rfl:k=ns.length:=(by omega);have hnl:¬((ns.length:Int)<(ns.length:Int)):=(by omega);go_wp2;go_ret;refine⟨-1,rfl, ?_,D.out.2⟩;have:=D.out.1;rw[aZ]at this;rw[this];rfl
theorem FC(ns:List Nd)(B:Nat)(ao:Option Addr)(cap b:Nat)(q:Int)(w:World)(h:w.ownsRow B 207 6 (.slice ao ns.length cap) ns.length (fI ns))(hl:ns.length<=100000)(hc:w.cell? ⟨b,0,none⟩=some (.int .i64 q)):
 Calls prog 232 #[.slice ao ns.length cap,.func (.func 281) #[] #[.pointer (some ⟨b,0,none⟩)]] w fun e w'=>e= .returned (.bool (ns.any (ofB q)))/\aA w w':=by
 have HI:=hid (Hu ns B ao cap b q w h hl hc);clear h hc;go_enter func232,ntmps232;go_wp2_with (go_at_call 259;refine HI.out.mono ?_;rintro e w2 ⟨r,rfl,hr,q2⟩;have H2:=bC hr q2;clear hr q2);go_ret;exact⟨by rw[<-H2.out.1];rfl,H2.out.2⟩
theorem JP(ns:List Nd)(B:Nat)(ao:Option Addr)(cap b1 b2:Nat)(cell rt:Int)(bit:Nat)(w:World)(hb:nT bit rt)(hn:∀n∈ns,n.plugin<0->0<=n.Y1/\n.Y1<=15)(h:w.ownsRow B 207 6 (.slice ao ns.length cap) ns.length (fI ns))(hl:ns.length<=100000)(hc1:w.cell? ⟨b1,0,none⟩=some (.int .i64 cell))(hc2:w.cell? ⟨b2,0,none⟩=some (.int .i64 rt)):
 Calls prog 259 #[.slice ao ns.length cap,.func (.func 233) #[] #[.pointer (some ⟨b1,0,none⟩),.pointer (some ⟨b2,0,none⟩)]] w fun e w'=>∃r:Int,e= .returned (.int .i64 r)/\decide (0<=r)=ns.any (kT cell bit)/\aA w w':=by
 have HR:=hid h;have HC:=gp hc1 hc2 hn;clear h hc1 hc2 hn;go_enter func259,ntmps259;go_wp2;go_loopw [8] (fun i wr=>∃k:Nat,i= .int .i64 k/\k<=ns.length/\Hid ((ns.take k).any (kT cell bit)=false/\aA w wr)) (fun i _=>ns.length-(intOf i).toNat);case atStart=>exact⟨0,rfl,aP _,hid ⟨by simp,Kp.refl _ _⟩⟩
 case round=>
  rename World=>wr;obtain⟨k,rfl,hk,D⟩:=hrel;by_cases hlt:k<ns.length
  ·have hr:=D.out.2.row HR.out fun _ _ e=>e;obtain⟨g,cp,hv⟩:=fP hr (by omega);cases hv;obtain⟨y0,y1,y2,y3,y4,y5⟩:=ku hr k hlt;have HK:=hid (Ip ns[k] b1 b2 cell rt bit wr hb (HC.out.2.2 _ (aI hlt)) (D.out.2.cell HC.out.1 fun e=>e) (D.out.2.cell HC.out.2.1 fun e=>e));have HT:=hid (zS hlt D.out.1);have HA:=hid (fun e=>Ky (f:=kT cell bit) hlt e);clear hr;generalize ns[k]=n at*;obtain⟨x,y,c,d,p,f⟩:=n;simp only[Gr.Nd.agg]at*;cases hbb:kT cell bit ⟨x,y,c,d,p,f⟩with
   |true=>
    rw[hbb]at HK;go_wp2_with (go_at_call 233;refine HK.out.mono ?_;rintro e w2 ⟨rfl,q2⟩;have Q2:=hid (D.out.2.trans q2);clear q2);go_ret;exact⟨_,rfl,by rw[HA.out hbb];simp,Q2.out⟩
   |false=>
    rw[hbb]at HK;go_wp2_with (go_at_call 233;refine HK.out.mono ?_;rintro e w2 ⟨rfl,q2⟩;have Q2:=hid (D.out.2.trans q2);clear q2);refine⟨⟨k+1,by go_num,by omega,hid ⟨HT.out.trans hbb,Q2.out⟩⟩,by simp[intOf];omega⟩
  ·obtain rfl:k=ns.length:=(by omega);have hnl:¬((ns.length:Int)<(ns.length:Int)):=(by omega);go_wp2;go_ret;refine⟨-1,rfl, ?_,D.out.2⟩;have:=D.out.1;rw[aZ]at this;rw[this];rfl
theorem Jc(ns:List Nd)(B:Nat)(ao:Option Addr)(cap b1 b2:Nat)(cell rt:Int)(bit:Nat)(w:World)(hb:nT bit rt)(hn:∀n∈ns,n.plugin<0->0<=n.Y1/\n.Y1<=15)(h:w.ownsRow B 207 6 (.slice ao ns.length cap) ns.length (fI ns))(hl:ns.length<=100000)(hc1:w.cell? ⟨b1,0,none⟩=some (.int .i64 cell))(hc2:w.cell? ⟨b2,0,none⟩=some (.int .i64 rt)):
 Calls prog 232 #[.slice ao ns.length cap,.func (.func 233) #[] #[.pointer (some ⟨b1,0,none⟩),.pointer (some ⟨b2,0,none⟩)]] w fun e w'=>e= .returned (.bool (ns.any (kT cell bit)))/\aA w w':=by
 have HI:=hid (JP ns B ao cap b1 b2 cell rt bit w hb hn h hl hc1 hc2);clear h hc1 hc2 hn;go_enter func232,ntmps232;go_wp2_with (go_at_call 259;refine HI.out.mono ?_;rintro e w2 ⟨r,rfl,hr,q2⟩;have H2:=bC hr q2;clear hr q2);go_ret;exact⟨by rw[<-H2.out.1];rfl,H2.out.2⟩
def ZK(a:Nat->Option Addr×Nat)(g:Nat->List Nd)(p:Nat):Value:= .slice (a p).1 (g p).length (a p).2
def gfC(a:Nat->Option Addr×Nat)(g:Nat->List Nd):Array Value:= #[ZK a g 0,ZK a g 1,ZK a g 2,ZK a g 3]
structure GfS(B:Nat)(a:Nat->Option Addr×Nat)(g:Nat->List Nd)(w:World):Prop where
 row:∀p,p<4->w.ownsRow B 207 6 (ZK a g p) (g p).length (fI (g p))
 few:∀p,p<4->(g p).length<=100000
section
variable{B:Nat}{a:Nat->Option Addr×Nat}{g:Nat->List Nd}{w w':World}
theorem GfS.quiet(H:GfS B a g w)(k:aA w w'):GfS B a g w':=⟨fun p hp=>k.row (H.row p hp) fun _ _ e=>e,H.few⟩
theorem pU{b:Nat}(h:w.heap[b]?=some (.cells (gfC a g) 275 (0,0)))(p:Nat)(hp:p<4):w.cell? ⟨b,p,none⟩=some (ZK a g p):=by
 obtain rfl|rfl|rfl|rfl:p=0\/p=1\/p=2\/p=3:=by omega
 all_goals simp[World.cell?,h,gfC]
theorem xO{b:Nat}(h:w.heap[b]?=some (.cells (gfC a g) 275 (0,0))):w.cell? ⟨b,0,none⟩=some (ZK a g 0)/\w.cell? ⟨b,1,none⟩=some (ZK a g 1)/\w.cell? ⟨b,2,none⟩=some (ZK a g 2)/\w.cell? ⟨b,3,none⟩=some (ZK a g 3):=⟨pU h 0 (by decide),pU h 1 (by decide),pU h 2 (by decide),pU h 3 (by decide)⟩
theorem Qi(p q:Nat):(g p).any (ofB (q:Int))=ry g p q:=rfl
theorem zN(H:GfS B a g w)(p q:Nat)(hp:p<4):Calls prog 279 #[.agg (gfC a g),.int .i64 p,.int .i64 q] w fun e w'=>e= .returned (.bool (ry g p q))/\aA w w':=by
 obtain⟨W,hW⟩:∃W,W=(w.alloc (.cells (gfC a g) 275)).alloc (.cells #[.int .i64 q] 3):=⟨_,rfl⟩;have q1:aA w W:=by rw[hW];exact(Kp.alloc _ _).trans (Kp.alloc _ _)
 have b0:W.heap[w.heap.size]?=some (.cells (gfC a g) 275 (0,0)):=by rw[hW,aB _ _ _ (by simp)];exact ah w _
 have b1:W.heap[w.heap.size+1]?=some (.cells #[.int .i64 q] 3 (0,0)):=by rw[hW];exact Gr.Y2 w _ _
 have c0:=pU b0 p hp;have c1:W.cell? ⟨w.heap.size+1,0,none⟩=some (.int .i64 q):=cell_of_one b1;have HC:=hid (FC (g p) B (a p).1 (a p).2 (w.heap.size+1) q W ((H.quiet q1).row p hp) (H.few p hp) c1);have HQ:=hid q1;have hE:=hid (Qi (g:=g) p q);have hp4:(p:Int)<4:=by omega
 clear b0 b1 H q1;unfold gfC at*;unfold ZK at c0;generalize(g p).any (ofB (q:Int))=r at*;generalize ZK a g 0=v0 at*;generalize ZK a g 1=v1 at*;generalize ZK a g 2=v2 at*;generalize ZK a g 3=v3 at*;go_enter func279,ntmps279;go_upto_region 1 with fail;rw[<-hW];clear hW;go_wp2_with (go_at_call 232;refine HC.out.mono ?_;rintro e w2 ⟨rfl,q2⟩;have H2:=hid (HQ.out.trans q2);clear q2);go_ret;exact⟨by rw[<-hE.out];rfl,H2.out⟩
theorem Jy(H:GfS B a g w)(p q:Nat)(hp:p<4)(hq:q<4):Calls prog 258 #[.agg (gfC a g),.int .i64 p,.int .i64 q] w fun e w'=>e= .returned (.bool (oJ g p q))/\aA w w':=by
 have q1:aA w (w.alloc (.cells (gfC a g) 275)):=Kp.alloc _ _;have b0:=ah w (.cells (gfC a g) 275);obtain⟨c0,c1,c2,c3⟩:=xO b0;have HC:=hid (fun(w':World) (k:aA w w')=>zN (H.quiet k) p q hp);have HD:=hid (fun(w':World) (k:aA w w')=>zN (H.quiet k) q p hq);have HQ:=bC q1 b0;clear H q1 b0;have hE:=hid (show oJ g p q=(ry g p q||ry g q p)from rfl);unfold gfC at*;cases hk:ry g p q with
 |true=>
  rw[hk]at HC hE;go_enter func258,ntmps258;go_wp2_with (go_at_call 279;refine(HC.out _ HQ.out.1).mono ?_;rintro e w2 ⟨rfl,q2⟩;have H2:=hid (HQ.out.1.trans q2);clear q2);go_ret;exact⟨by rw[hE.out];simp,H2.out⟩
 |false=>
  rw[hk]at HC hE;go_enter func258,ntmps258;go_wp2_with (first
   |(go_at_call 279;refine(HD.out _ H2.out).mono ?_;rintro e w3 ⟨rfl,q3⟩;have H3:=hid (H2.out.trans q3);clear q3)
   |(go_at_call 279;refine(HC.out _ HQ.out.1).mono ?_;rintro e w2 ⟨rfl,q2⟩;have d0:=(q2.block _ (ae HQ.out.2) (fun e=>e)).trans HQ.out.2;obtain⟨m0,m1,m2,m3⟩:=xO d0;have H2:=hid (HQ.out.1.trans q2);clear q2 d0))
  go_ret;exact⟨by rw[hE.out];simp,H3.out⟩
end
def pF(c:List Nat):List Value:=c.map fun k:Nat=>Value.int .i64 k
theorem PY(c:List Nat)(k:Nat)(hk:k<c.length):(pF c)[k]?=some (.int .i64 (c[k]:Nat)):=by simp[pF,hk]
theorem xL{w:World}{B:Nat}{v:Value}{c:List Nat}(h:w.ownsRow B 3 1 v c.length (pF c))(k:Nat)(hk:k<c.length):∃g cap,v= .slice (some ⟨g,0,none⟩) c.length cap/\w.cell? ⟨g,k,none⟩=some (.int .i64 (c[k]:Nat)):=by
 obtain⟨ao,cap,rfl⟩:=YU h;obtain⟨g,rfl,hc⟩:=Zc h (by omega);exact⟨g,cap,rfl,by rw[hc k (by omega),PY c k hk]⟩
theorem M7(c:List Nat)(B:Nat)(ao:Option Addr)(cap:Nat)(q:Nat)(w:World)(h:w.ownsRow B 3 1 (.slice ao c.length cap) c.length (pF c))(hl:c.length<=100000):
 Calls prog 278 #[.slice ao c.length cap,.int .i64 q] w fun e w'=>∃r:Int,e= .returned (.int .i64 r)/\decide (0<=r)=decide (q∈c)/\w'=w:=by
 have HR:=hid h;clear h;go_enter func278,ntmps278;go_wp2;go_loop [8] (fun i=>∃k:Nat,i= .int .i64 k/\k<=c.length/\Hid (q∉c.take k)) (fun i=>c.length-(intOf i).toNat);case atStart=>exact⟨0,rfl,aP _,hid (by simp)⟩
 case round=>
  obtain⟨k,rfl,hk,D⟩:=hrel;by_cases hlt:k<c.length
  ·obtain⟨g,cp,hv,hc⟩:=xL HR.out k hlt;cases hv;have HT:=hid (fun(e:c[k]≠q)=>(show q∉c.take (k+1)from by rw[List.take_succ_eq_append_getElem hlt,aK,bD];rintro(h|h);exact D.out h;exact e h.symm));have HM:=hid (aI hlt);generalize c[k]=z at*;by_cases hz:z=q
   ·subst hz;go_wp2;go_ret;exact⟨_,rfl,by simp[HM.out],rfl⟩
   ·have hz1:((q:Int)==(z:Int))=false:=(by simp;omega);have hz2:¬(q:Int)=(z:Int):=(by omega);go_wp2;refine⟨⟨k+1,by go_num,by omega,hid (HT.out hz)⟩,by simp[intOf];omega⟩
  ·obtain rfl:k=c.length:=(by omega);have hnl:¬((c.length:Int)<(c.length:Int)):=(by omega);go_wp2;go_ret;refine⟨-1,rfl, ?_,rfl⟩;have:=D.out;rw[aZ]at this;simp[this]
theorem Mh(c:List Nat)(B:Nat)(ao:Option Addr)(cap:Nat)(q:Nat)(w:World)(h:w.ownsRow B 3 1 (.slice ao c.length cap) c.length (pF c))(hl:c.length<=100000):
 Calls prog 257 #[.slice ao c.length cap,.int .i64 q] w fun e w'=>e= .returned (.bool (decide (q∈c)))/\w'=w:=by
 have HI:=hid (M7 c B ao cap q w h hl);clear h;go_enter func257,ntmps257;go_wp2_with (go_at_call 278;refine HI.out.mono ?_;rintro e w2 ⟨r,rfl,hr,h2⟩;replace h2:=h2.symm;subst h2;have H2:=hid hr;clear hr);go_ret;exact⟨by rw[<-H2.out];rfl,rfl⟩
structure CiS(w:World)(a:Nat->Option Addr×Nat)(g:Nat->List Nd)(c:List Nat)(ao:Option Addr)(cap:Nat)(wr:World):Prop where
 q:aA w wr
 b:wr.heap[w.heap.size]?=some (.cells (gfC a g) 275 (0,0))
 r:wr.ownsRow (w.heap.size+1) 3 1 (.slice ao c.length cap) c.length (pF c)
section
variable{B:Nat}{a:Nat->Option Addr×Nat}{g:Nat->List Nd}{w w' wr:World}{c:List Nat}{ao:Option Addr}{cap:Nat}
theorem CiS.quiet(H:CiS w a g c ao cap wr)(k:aA wr w'):CiS w a g c ao cap w':=⟨H.q.trans k,(k.block _ (ae H.b) fun e=>e).trans H.b,k.row H.r fun _ _ e=>e⟩
theorem Yw(w:World)(a:Nat->Option Addr×Nat)(g:Nat->List Nd)(p:Nat):CiS w a g [p] (some ⟨w.heap.size+1,0,none⟩) 1 ((w.alloc (.cells (gfC a g) 275)).alloc (.cells #[.int .i64 p] 3)):=by
 refine⟨(Kp.alloc _ _).trans (Kp.alloc _ _),by rw[aB _ _ _ (by simp)];exact ah w _, ?_⟩;have:=World.ownsRow_lit (base:=w.heap.size+1) (e:=3) (size:=1) (w.alloc (.cells (gfC a g) 275)) #[.int .i64 p] 1 (by simp) (by decide) (by simp);simpa [pF]using this
theorem CiS.push(H:CiS w a g c ao cap wr){j gg cap2:Nat}{o:Obj}{w6:World}(hr:w6.ownsRow (w.heap.size+1) 3 1 (.slice (some ⟨gg,0,none⟩) (c.length+1) cap2) (c.length+1) (pF c++[.int .i64 j]))(hg:(wr.alloc o).grownBy w6 (Value.slice ao c.length cap).ownBlock):CiS w a g (c++[j]) (some ⟨gg,0,none⟩) cap2 w6:=by
 have hb:=ae H.b;refine⟨⟨?_, ?_, ?_, ?_,fun k hk _=> ?_⟩, ?_, ?_⟩;rw[hg.os];exact H.q.os;rw[hg.tape];exact H.q.tape;rw[hg.output];exact H.q.output;have h1:=hg.size;have h2:=H.q.size;simp at h1;omega;have h2:=H.q.size;rw[hg.block k (by simp;omega) (fun e=>by have:=(H.r.lt k e.symm).1;omega),aB _ _ _ (by omega)];exact H.q.block k hk fun e=>e;rw[hg.block _ (by simp;omega) (fun e=>by have:=(H.r.lt _ e.symm).1;omega),aB _ _ _ hb];exact H.b;rw[show(c++[j]).length=c.length+1 by simp,show pF (c++[j])=pF c++[.int .i64 j]by simp[pF]];exact hr
structure mG(w:World) where
 val:World
 ok:aA w val
theorem mG.some(w:World):Nonempty (mG w):=⟨⟨w,Kp.refl _ _⟩⟩
theorem qg{P:Program}{id:Nat}{Q:Exit->Act->World->Prop}{a:Act}{w:World}{l:List Oper}(hm:P.follows .mixedOrders=true)(hB:Region.lexB .any l.toArray=true)
 (h:wpQuiet P l.toArray (fun w'=>∃p:mG w,w'=p.val) (fun a'=>∀w',(∃p:mG w,w'=p.val)->Q .normal a' w') l a):(Code.region id l.toArray true).wp P Q a w:=
 wp_region_quiet (C:=fun w'=>∃p:mG w,w'=p.val) hm hB ⟨⟨w.drew,Kp.drew _⟩,rfl⟩ (by simpa using h)
theorem EL(H:GfS B a g w)(p:Nat)(hp:p<4):Calls prog 230 #[.agg (gfC a g),.int .i64 p] w fun e w'=>∃(c:List Nat) (ao:Option Addr) (cap:Nat),e= .returned (.slice ao c.length cap)/\si g p c c.length 0/\w'.ownsRow (w.heap.size+1) 3 1 (.slice ao c.length cap) c.length (pF c)/\aA w w':=by
 obtain⟨i0,hi,hz0,hz1,hz2⟩:=bM kL;have HG:=hid H;have H0:=hid (Yw w a g p);have HC0:=hid (Xj g hp);have h1:¬((p:Int)<0):=by omega
 have h2:¬((4:Int)<=(p:Int)):=by omega
 have h3:decide ((4:Int)<=(p:Int))=false:=by simp;omega
 have HU:=hid (show gfC a g= #[ZK a g 0,ZK a g 1,ZK a g 2,ZK a g 3]from rfl);clear H;rw[HU.out];go_enter func230,ntmps230;go_wp2_with fail;go_loopw [5,6] (fun cv i wr=>∃(c:List Nat) (ao:Option Addr) (cap k:Nat),cv= .slice ao c.length cap/\i= .int .i64 k/\k<=c.length/\c.length<=4/\Hid (si g p c k 0/\CiS w a g c ao cap wr)) (fun _ i _=>4-(intOf i).toNat);case atStart=>exact⟨[p],some ⟨w.heap.size+1,0,none⟩,1,0,rfl,rfl,aP _,by simp,hid ⟨HC0.out,H0.out⟩⟩
 case round=>
  clear H0 HC0;rename World=>wq;obtain⟨c,ao,cap,k,rfl,rfl,hk,hc4,D⟩:=hrel;by_cases hlt:k<c.length
  ·have hk4:k<4:=(by omega);have HK:=hid hlt;have hlt':(k:Int)<(c.length:Int):=(by omega);clear hlt;go_wp2_with fail;go_loopw [5,22] (fun cv i wr=>∃(c:List Nat) (ao:Option Addr) (cap j:Nat),cv= .slice ao c.length cap/\i= .int .i64 j/\j<=4/\k<c.length/\c.length<=4/\Hid (si g p c k j/\CiS w a g c ao cap wr)) (fun _ i _=>4-(intOf i).toNat);case atStart=>exact⟨c,ao,cap,0,rfl,rfl,by decide,HK.out,hc4,hid D.out⟩
   case round=>
    clear D HK hc4 hlt' hk;rename World=>wr;obtain⟨c,ao,cap,j,rfl,rfl,hj,hlt,hc4,D⟩:=hrel;by_cases hj4:j<4
    ·have aie:(j:Int)<4:=(by omega);have hkl:(k:Int)<(c.length:Int):=(by omega);obtain⟨gg,cp,hv,hck⟩:=xL D.out.2.r k hlt;cases hv;have HCO:=hid (fun(w':World) (q:aA wr w')=>Mh c (w.heap.size+1) (some ⟨gg,0,none⟩) cap j w' (q.row D.out.2.r fun _ _ e=>e) (by omega));have HTO:=hid (fun(w':World) (q:aA wr w')=>Jy ((HG.out.quiet D.out.2.q).quiet q) c[k] j (D.out.1.lt _ (aI hlt)) hj4);obtain⟨m0,m1,m2,m3⟩:=xO D.out.2.b;have n0:∀p:mG wr,p.val.cell? ⟨w.heap.size,0,none⟩=some (ZK a g 0):=fun p=>p.ok.cell m0 fun e=>e;have n1:∀p:mG wr,p.val.cell? ⟨w.heap.size,1,none⟩=some (ZK a g 1):=fun p=>p.ok.cell m1 fun e=>e;have n2:∀p:mG wr,p.val.cell? ⟨w.heap.size,2,none⟩=some (ZK a g 2):=fun p=>p.ok.cell m2 fun e=>e;have n3:∀p:mG wr,p.val.cell? ⟨w.heap.size,3,none⟩=some (ZK a g 3):=fun p=>p.ok.cell m3 fun e=>e;have n4:∀p:mG wr,p.val.cell? ⟨gg,k,none⟩=some (.int .i64 (c[k]:Nat)):=fun p=>p.ok.cell hck fun e=>e;rw[HU.out]at HTO;by_cases hm:j∈c
     ·have HS:=hid (D.out.1.skip hlt (.inl hm));rw[decide_eq_true hm]at HCO;clear m0 m1 m2 m3 hck hm HTO;haveI:=mG.some wr;go_wp2_with fail;refine qg (by kernel_rfl) (by kernel_rfl) ?_;(repeat(go_big_quiet_step ((go_at_call 257;rename_i p;exact(HCO.out p.val p.ok).mono fun e w' h=>⟨(h.1:e=Ending.returned (.bool true)),⟨⟨w',by rw[h.2];exact p.ok⟩,rfl⟩⟩))));refine wpQuiet_nil ?_;rintro w10 ⟨p10,rfl⟩;go_wp2_with fail;refine⟨⟨c,_,cap,j+1,rfl,by go_num,by omega,hlt,hc4,hid ⟨HS.out,D.out.2.quiet p10.ok⟩⟩,by simp[intOf];omega⟩
     ·have HM:=hid hm;rw[decide_eq_false hm]at HCO;cases ht:oJ g c[k] j with
      |false=>
       have HS:=hid (D.out.1.skip hlt (.inr ht));rw[ht]at HTO;generalize c[k]=ck at*;clear m0 m1 m2 m3 hck hm ht;haveI:=mG.some wr;go_wp2_with fail;refine qg (by kernel_rfl) (by kernel_rfl) ?_;repeat(go_big_quiet_step (first
            |(go_at_call 258;rename_i p;exact(HTO.out p.val p.ok).mono fun e w' h=>⟨(h.1:e=Ending.returned (.bool false)),⟨⟨w',p.ok.trans h.2⟩,rfl⟩⟩)
            |(go_at_call 257;rename_i p;exact(HCO.out p.val p.ok).mono fun e w' h=>⟨(h.1:e=Ending.returned (.bool false)),⟨⟨w',by rw[h.2];exact p.ok⟩,rfl⟩⟩)))
       refine wpQuiet_nil ?_;rintro w10 ⟨p10,rfl⟩;go_wp2_with fail;refine⟨⟨c,_,cap,j+1,rfl,by go_num,by omega,hlt,hc4,hid ⟨HS.out,D.out.2.quiet p10.ok⟩⟩,by simp[intOf];omega⟩
      |true=>
       have HS:=hid (D.out.1.add hlt hj4 hm ht);have hc5:=hid HS.out.few;rw[ht]at HTO;generalize c[k]=ck at*;clear m0 m1 m2 m3 hck hm ht;haveI:=mG.some wr;go_wp2_with fail;refine qg (by kernel_rfl) (by kernel_rfl) ?_;repeat(go_big_quiet_step (first
            |(go_at_call 258;rename_i p;exact(HTO.out p.val p.ok).mono fun e w' h=>⟨(h.1:e=Ending.returned (.bool true)),⟨⟨w',p.ok.trans h.2⟩,rfl⟩⟩)
            |(go_at_call 257;rename_i p;exact(HCO.out p.val p.ok).mono fun e w' h=>⟨(h.1:e=Ending.returned (.bool false)),⟨⟨w',by rw[h.2];exact p.ok⟩,rfl⟩⟩)))
       refine wpQuiet_nil ?_;rintro w10 ⟨p10,rfl⟩;have HD:=hid (D.out.2.quiet p10.ok);generalize p10.val=w10 at*;clear HTO HCO n0 n1 n2 n3 n4;have HW:=hid (show w.heap.size+1<=(w10.alloc (.cells #[.int .i64 j] 3)).heap.size by have:=ae HD.out.b;simp;omega);go_wp2_with (at_builtin;refine aX _ rfl (.tmp 38) (.tmp 40) 223 rfl (w.heap.size+1) 3 i0 _ 1 8 og hi hz0 hz1 hz2 rfl (by decide) (.slice (some ⟨gg,0,none⟩) c.length cap) c.length (pF c) rfl (HD.out.r.alloc _) ⟨w10.heap.size,0,none⟩ 1 1 [.int .i64 j] rfl rfl (Gr.ZQ (t:=3) (l:=[.int .i64 j]) (ah w10 _)) (by intro u hu;rw[bD.1 hu];rfl) (by decide) (by unfold maxLen;omega) (by omega) HW.out _ rfl ?_;intro g6 cap6 w6 hr6 hg6 _ _;have H6:=hid (HD.out.push hr6 hg6);clear hr6 hg6);refine⟨⟨c++[j],some ⟨g6,0,none⟩,cap6,j+1,by simp,by go_num,by omega,by simp;omega,hc5.out,hid ⟨HS.out,H6.out⟩⟩,by simp[intOf];omega⟩
    ·obtain rfl:j=4:=(by omega);have hnl:¬((4:Int)<4):=(by omega);go_wp2_with fail;refine⟨⟨c,ao,cap,k+1,rfl,by go_num,by omega,hc4,hid ⟨D.out.1.next hlt,D.out.2⟩⟩,by simp[intOf];omega⟩
  ·obtain rfl:k=c.length:=(by omega);have hnl:¬((c.length:Int)<(c.length:Int)):=(by omega);go_wp2_with fail;go_ret;exact⟨c,ao,cap,rfl,D.out.1,D.out.2.r,D.out.2.q⟩
end
structure IK(B:Nat)(a:Nat->Option Addr×Nat)(g:Nat->List Nd)(bg b1 b2:Nat)(cell rt:Int)(w:World):Prop where
 s:GfS B a g w
 b:w.heap[bg]?=some (.cells (gfC a g) 275 (0,0))
 c1:w.cell? ⟨b1,0,none⟩=some (.int .i64 cell)
 c2:w.cell? ⟨b2,0,none⟩=some (.int .i64 rt)
def Su(g:Nat->List Nd):Prop:=∀p,p<4->∀n∈g p,n.plugin<0->0<=n.Y1/\n.Y1<=15
section
variable{B:Nat}{a:Nat->Option Addr×Nat}{g:Nat->List Nd}{w w':World}{bg b1 b2:Nat}{cell rt:Int}{bit:Nat}
theorem IK.quiet(H:IK B a g bg b1 b2 cell rt w)(k:aA w w'):IK B a g bg b1 b2 cell rt w':=⟨H.s.quiet k,(k.block _ (ae H.b) fun e=>e).trans H.b,k.cell H.c1 fun e=>e,k.cell H.c2 fun e=>e⟩
def FK(g:Nat->List Nd)(cell:Int)(bit:Nat)(q:Nat):Bool:=(g q).any (kT cell bit)
theorem Nb(H:IK B a g bg b1 b2 cell rt w)(hb:nT bit rt)(hn:Su g)(q:Nat)(hq:q<4):Calls prog 231 #[.int .i64 q,.pointer (some ⟨bg,0,none⟩),.pointer (some ⟨b1,0,none⟩),.pointer (some ⟨b2,0,none⟩)] w fun e w'=>e= .returned (.bool (FK g cell bit q))/\aA w w':=by
 have c0:=pU H.b q hq;have HC:=hid (Jc (g q) B (a q).1 (a q).2 b1 b2 cell rt bit w hb (hn q hq) (H.s.row q hq) (H.s.few q hq) H.c1 H.c2);have hE:=hid (show(g q).any (kT cell bit)=FK g cell bit q from rfl);have hq4:(q:Int)<4:=by omega
 clear H hn;unfold ZK at c0;generalize(g q).any (kT cell bit)=r at*;go_enter func231,ntmps231;go_wp2_with (go_at_call 232;refine HC.out.mono ?_;rintro e w2 ⟨rfl,q2⟩;have H2:=hid q2;clear q2);go_ret;exact⟨by rw[<-hE.out];rfl,H2.out⟩
theorem MI(H:IK B a g bg b1 b2 cell rt w)(hb:nT bit rt)(hn:Su g)(c:List Nat)(hc:∀q∈c,q<4)(B2:Nat)(ao:Option Addr)(cap:Nat)(h:w.ownsRow B2 3 1 (.slice ao c.length cap) c.length (pF c))(hl:c.length<=4):
 Calls prog 256 #[.slice ao c.length cap,.func (.func 231) #[] #[.pointer (some ⟨bg,0,none⟩),.pointer (some ⟨b1,0,none⟩),.pointer (some ⟨b2,0,none⟩)]] w fun e w'=>∃r:Int,e= .returned (.int .i64 r)/\decide (0<=r)=c.any (FK g cell bit)/\aA w w':=by
 have HR:=hid h;have HC:=gp H hn hc;clear h H hn hc;go_enter func256,ntmps256;go_wp2;go_loopw [8] (fun i wr=>∃k:Nat,i= .int .i64 k/\k<=c.length/\Hid ((c.take k).any (FK g cell bit)=false/\aA w wr)) (fun i _=>c.length-(intOf i).toNat);case atStart=>exact⟨0,rfl,aP _,hid ⟨by simp,Kp.refl _ _⟩⟩
 case round=>
  rename World=>wr;obtain⟨k,rfl,hk,D⟩:=hrel;by_cases hlt:k<c.length
  ·obtain⟨gg,cp,hv,hck⟩:=xL (D.out.2.row HR.out fun _ _ e=>e) k hlt;cases hv;have HK:=hid (Nb (HC.out.1.quiet D.out.2) hb HC.out.2.1 c[k] (HC.out.2.2 _ (aI hlt)));have HT:=hid (zS hlt D.out.1);have HA:=hid (fun e=>Ky (f:=FK g cell bit) hlt e);generalize c[k]=z at*;cases hbb:FK g cell bit z with
   |true=>
    rw[hbb]at HK;go_wp2_with (go_at_call 231;refine HK.out.mono ?_;rintro e w2 ⟨rfl,q2⟩;have Q2:=hid (D.out.2.trans q2);clear q2);go_ret;exact⟨_,rfl,by rw[HA.out hbb];simp,Q2.out⟩
   |false=>
    rw[hbb]at HK;go_wp2_with (go_at_call 231;refine HK.out.mono ?_;rintro e w2 ⟨rfl,q2⟩;have Q2:=hid (D.out.2.trans q2);clear q2);refine⟨⟨k+1,by go_num,by omega,hid ⟨HT.out.trans hbb,Q2.out⟩⟩,by simp[intOf];omega⟩
  ·obtain rfl:k=c.length:=(by omega);have hnl:¬((c.length:Int)<(c.length:Int)):=(by omega);go_wp2;go_ret;refine⟨-1,rfl, ?_,D.out.2⟩;have:=D.out.1;rw[aZ]at this;rw[this];rfl
theorem Me(H:IK B a g bg b1 b2 cell rt w)(hb:nT bit rt)(hn:Su g)(c:List Nat)(hc:∀q∈c,q<4)(B2:Nat)(ao:Option Addr)(cap:Nat)(h:w.ownsRow B2 3 1 (.slice ao c.length cap) c.length (pF c))(hl:c.length<=4):
 Calls prog 229 #[.slice ao c.length cap,.func (.func 231) #[] #[.pointer (some ⟨bg,0,none⟩),.pointer (some ⟨b1,0,none⟩),.pointer (some ⟨b2,0,none⟩)]] w fun e w'=>e= .returned (.bool (c.any (FK g cell bit)))/\aA w w':=by
 have HI:=hid (MI H hb hn c hc B2 ao cap h hl);clear h H hn hc;go_enter func229,ntmps229;go_wp2_with (go_at_call 256;refine HI.out.mono ?_;rintro e w2 ⟨r,rfl,hr,q2⟩;have H2:=bC hr q2;clear hr q2);go_ret;exact⟨by rw[<-H2.out.1];rfl,H2.out.2⟩
theorem VJ(c:List Nat):c.any (FK g cell bit)=Oa g c cell bit:=rfl
theorem M3(H:GfS B a g w)(hb:nT bit rt)(hn:Su g)(p:Nat)(hp:p<4):Calls prog 199 #[.agg (gfC a g),.int .i64 p,.int .i64 cell,.int .i64 rt] w fun e w'=>∃c,si g p c c.length 0/\e= .returned (.bool (Oa g c cell bit))/\aA w w':=by
 obtain⟨W,hW⟩:∃W,W=((w.alloc (.cells (gfC a g) 275)).alloc (.cells #[.int .i64 cell] 3)).alloc (.cells #[.int .i64 rt] 3):=⟨_,rfl⟩;have q1:aA w W:=by rw[hW];exact((Kp.alloc _ _).trans (Kp.alloc _ _)).trans (Kp.alloc _ _)
 obtain⟨b0,b1,b2⟩:=jk w (.cells (gfC a g) 275) (.cells #[.int .i64 cell] 3) (.cells #[.int .i64 rt] 3);rw[<-hW]at b0 b1 b2;have HA:=hid (show IK B a g w.heap.size (w.heap.size+1) (w.heap.size+1+1) cell rt W from⟨H.quiet q1,b0,cell_of_one b1,cell_of_one b2⟩);obtain⟨m0,m1,m2,m3⟩:=xO b0;have HC:=hid (EL (H.quiet q1) p hp);have HN:=hid hn;have HQ:=hid q1;clear b0 b1 b2 H q1 hn;unfold gfC at HC hW|-;go_enter func199,ntmps199;go_upto_region 1 with fail;rw[<-hW];clear hW;go_wp2_with (first
  |(go_at_call 229;refine HD.out.2.2.mono ?_;rintro e w3 ⟨rfl,q3⟩;have H3:=hid q3;clear q3)
  |(go_at_call 230;refine HC.out.mono ?_;rintro e w2 ⟨c,ao,cap,rfl,hc,hr,q2⟩;have HD:=gp hc q2 (Me (HA.out.quiet q2) hb HN.out c hc.lt _ ao cap hr hc.few);clear hc hr q2))
 go_ret;exact⟨c,HD.out.1,by rw[<-VJ];rfl,(HQ.out.trans HD.out.2.1).trans H3.out⟩
end
section
variable{B bb g wd:Nat}{vn vo vl:Value}{ms:fA}{s:Sg}{w w':World}{X X' F:Nat->Prop}{M:Hx}{q:Hq}{h:Hs}
theorem lX.abJ(H:lX X B w bb g wd vn vo vl ms s)(k:Kp F w w')(hX:∀i,F i->X i)(ho:∀i,gX bb g wd vn vo vl i->¬F i)
 (hI:∀(i:Nat) (cs:Array Value) (t:TypeId),w.heap[i]?=some (.cells cs t (0,0))->t=334\/t=328->¬F i) (hX':∀i,i<w.heap.size->X' i->X i):lX X' B w' bb g wd vn vo vl ms s:=by
 obtain⟨a,b,c,d,hb,hk⟩:=H;have hs:∀x,x=a\/x=b\/x=c\/x=d->bu (fun k=>gX bb g wd vn vo vl k\/X' k) (fun w=>Is w x.kept x.ao) w':=fun x hx=>(hk x hx).step (k.mono fun i _ e=> .inr (hX i e)) fun i hi e=>by
  rcases e with e|e;exact .inl e;exact .inr (hX' i hi e)
 exact⟨a,b,c,d,hb.kept k ho fun p hp m hm=>⟨hm.there,fun l hl=>⟨(hm.code l hl).1.kept k hI,(hm.code l hl).2⟩,hm.shape,(hs p hp).mono fun i _ e=> .inl e,hm.good⟩,hs⟩
theorem bH.abJ(H:bH X M q h w)(k:Kp F w w')(hX:∀i,F i->X i)(hI:∀(i:Nat) (cs:Array Value) (t:TypeId),w.heap[i]?=some (.cells cs t (0,0))->t=334\/t=328->¬F i)(hX':∀i,i<w.heap.size->X' i->X i)(xo:∀i,X' i->i<w'.heap.size/\¬jC M q i):bH X' M q h w':=by
 have hn:∀i,jC M q i->¬F i:=fun i hi e=>(H.xo i (hX i e)).2 hi;exact⟨H.box.abJ k (fun i e=> .inr (hX i e)) (fun i hi=>hn i (.inl hi)) hI (fun i hi e=>by
  rcases e with e|e;exact .inl e
  ·exact .inr (hX' i hi e)),(k.block _ (ae H.obj) (hn _ (.inr (.inl rfl)))).trans H.obj,fun p hp=>k.row (H.row p hp) fun i e=>hn i (.inr (.inr ⟨p,hp,(iQ _ _ _ _ _).trans e⟩)),H.ap,H.leaf,H.ok,H.fit,H.ci,H.lo,xo⟩
end
structure Yx where
 h:Hx
 wb:Nat
def mq(P:Yx)(q:Hq)(k:Nat):Prop:=jC P.h q k\/k=P.wb
def yC(P:Yx)(n:Nat):Array Value:= #[.pointer (some ⟨P.h.hb,0,none⟩),.int .i64 n,.int .i64 0,.int .i64 0]
structure YN(X:Nat->Prop)(P:Yx)(q:Hq)(h:Hs)(tr:List (Sp×Int))(n:Nat)(w:World):Prop where
 s:bH (fun k=>k=P.wb\/X k) P.h q h w
 obj:w.heap[P.wb]?=some (.cells (yC P n) 59 (0,0))
 lo:P.h.B<=P.wb
 xw:¬X P.wb
 hand:oO tr h
section
variable{X X' F:Nat->Prop}{P:Yx}{q:Hq}{h:Hs}{tr:List (Sp×Int)}{n:Nat}{w w':World}
theorem YN.cell(H:YN X P q h tr n w):w.cell? ⟨P.wb,0,none⟩=some (.pointer (some ⟨P.h.hb,0,none⟩)):=by simp[World.cell?,H.obj,yC]
theorem YN.lt(H:YN X P q h tr n w){k:Nat}(hk:mq P q k):P.h.B<=k/\k<w.heap.size:=by
 rcases hk with e|e;exact H.s.own k e;rw[e];exact⟨H.lo,ae H.obj⟩
theorem YN.xo(H:YN X P q h tr n w){k:Nat}(hk:X k):k<w.heap.size/\¬mq P q k:=
 ⟨(H.s.xo k (.inr hk)).1,fun e=>by
   rcases e with e|e;exact(H.s.xo k (.inr hk)).2 e
   ·rw[e]at hk;exact H.xw hk⟩
theorem YN.step(H:YN X P q h tr n w)(k:aA w w')(hX:∀i,i<w.heap.size->X' i->X i)(xo:∀i,X' i->i<w'.heap.size):YN X' P q h tr n w':=
 ⟨H.s.step k (fun i hi e=>by
  rcases e with e|e;exact .inl e
  ·exact .inr (hX i hi e)) (fun i e=>by
  rcases e with e|e;rw[e];exact az (ae H.obj) k.size
  ·exact xo i e),(k.block _ (ae H.obj) fun e=>e).trans H.obj,H.lo,fun e=>H.xw (hX _ (ae H.obj) e),H.hand⟩
theorem YN.quiet(H:YN X P q h tr n w)(k:aA w w'):YN X P q h tr n w':=H.step k (fun _ _ e=>e) fun _ e=>az (H.xo e).1 k.size
theorem YN.turn(H:YN X P q h tr n w)(k:Kp F w w')(hX:∀i,F i->X i)(hI:∀(i:Nat) (cs:Array Value) (t:TypeId),w.heap[i]?=some (.cells cs t (0,0))->t=334\/t=328->¬F i)(hX':∀i,i<w.heap.size->X' i->X i)(xo:∀i,X' i->i<w'.heap.size/\¬mq P q i):YN X' P q h tr n w':=by
 have hw:¬F P.wb:=fun e=>H.xw (hX _ e);have hl:=ae H.obj;exact⟨H.s.abJ k (fun i e=> .inr (hX i e)) hI (fun i hi e=>by
  rcases e with e|e;exact .inl e
  ·exact .inr (hX' i hi e)) (fun i e=>by
  rcases e with e|e;rw[e];exact⟨az hl k.size,(H.s.xo _ (.inl rfl)).2⟩
  ·exact⟨(xo i e).1,fun e2=>(xo i e).2 (.inl e2)⟩),(k.block _ hl hw).trans H.obj,H.lo,fun e=>(xo _ e).2 (.inr rfl),H.hand⟩
end
def yT:WT where
 P:=Yx
 Q:=Hq
 hx p:=p.h
 wb p:=p.wb
 hq q:=q
 own:=mq
 S X p q h tr w:=YN X p q h tr tr.length w
 house H:=⟨_,H.s⟩
 cell H:=H.cell
 sub e:= .inl e
 lt H e:=H.lt e
 xo H e:=H.xo e
 step H k a b:=H.step k a b
 turn H k a b c d:=H.turn k a b c d
theorem YN.few{X:Nat->Prop}{P:Yx}{q:Hq}{h:Hs}{tr:List (Sp×Int)}{n:Nat}{w:World}(H:YN X P q h tr n w)(hl:tr.length<=100000):BQ h:=by
 refine Wn fun x hx=> ?_;obtain⟨p,hp,e⟩:=bT hx;have h4:p<4:=by have:=H.s.ok.len;omega
 have h1:h.hs.getD p []=x:=by rw[aD,aQ hp,e];rfl
 have h2:=aC List.length (H.hand.abg p h4);rw[h1]at h2;simp only[bE,cZ]at h2;have:=List.length_filter_le (sS p) tr;omega
end
namespace Dk
open Gr (Nd ZH nd0 YT mf aS dJ bJ dV mV fO Zx funcOf bS Y0 bN eX YS Wf jg)
structure Kx where
 p:Yx
 db:Nat
 tb:Nat
structure Qx where
 q:Hq
 tr:List (Sp×Int)
def yn(K:Kx)(q:Qx)(v:Value)(k:Nat):Prop:=mq K.p q.q k\/k=K.db\/nK K.tb v k
def Lz(B:Nat)(w:World):Prop:=∀w',Below B w w'->Ex.Laid w'/\Ex.Wds w'
theorem Lz.low{B:Nat}{w w':World}(h:Lz B w)(k:Below B w w'):Lz B w':=fun w2 h2=>h w2 (k.trans h2)
theorem Lz.is{B:Nat}{w:World}(h:Lz B w):Ex.Laid w/\Ex.Wds w:=h w (cK _ _)
def Qo(e:Wo.ZI):Prop:=dH e.plugin/\dH e.cell/\dH e.right/\dH e.node
structure U2(n:Nat)(tr:List (Sp×Int))(d:Ds):Prop where
 trs:TrS tr d.h
 tr:tr.length<=n
 es:d.h.s.es.length<=2000*n
 few:∀p,(d.h.hs.getD p []).length<=n
 txt:d.txt.length<=13000
 ent:∀e∈d.h.s.es,Qo e
structure TS(X:Nat->Prop)(K:Kx)(q:Qx)(v:Value)(n:Nat)(d:Ds)(l:List UInt8)(w:World):Prop where
 y:YN (fun k=>(k=K.db\/nK K.tb v k)\/X k) K.p q.q d.h q.tr q.tr.length w
 Zm:w.heap[K.db]?=some (.cells #[.pointer (some ⟨K.p.wb,0,none⟩),.string ⟨d.txt.toArray⟩] 42 (0,0))
 ZY:TkS K.p.h.B K.tb K.db v l w
 lz:Lz K.p.h.B w
 inv:U2 n q.tr d
 lo:K.p.h.B<=K.db
 xo:∀k,X k->k<w.heap.size/\¬yn K q v k
structure gH(K:Kx)(q:Qx)(v:Value)(w:World)(q':Qx)(v':Value)(w':World):Prop where
 kp:Kp (yn K q v) w w'
 own:∀k,yn K q' v' k->yn K q v k\/w.heap.size<=k
section
variable{X:Nat->Prop}{K:Kx}{q q' q2:Qx}{v v' v2:Value}{n:Nat}{d:Ds}{l l':List UInt8}{w w' w2:World}
theorem gH.quiet(K:Kx)(q:Qx)(v:Value)(k:aA w w'):gH K q v w q v w':=⟨k.mono fun _ _ e=>e.elim,fun _ e=> .inl e⟩
theorem gH.trans(a:gH K q v w q' v' w')(b:gH K q' v' w' q2 v2 w2):gH K q v w q2 v2 w2:=by
 refine⟨⟨b.kp.os.trans a.kp.os,b.kp.tape.trans a.kp.tape,b.kp.output.trans a.kp.output,aF a.kp.size b.kp.size,fun i hi hF=> ?_⟩,fun i hi=> ?_⟩;refine(b.kp.block i (az hi a.kp.size) fun e=> ?_).trans (a.kp.block i hi hF);rcases a.own i e with e|e;exact hF e;omega;rcases b.own i hi with e|e;exact a.own i e;exact .inr (aF a.kp.size e)
theorem TS.ad2(H:TS X K q v n d l w):¬nK K.tb v K.db:=fun e=>by
 rcases e with e|e;obtain⟨a,_,hb⟩:=H.ZY.obj;rw[<-e,H.Zm]at hb;simp at hb;obtain⟨c,fz,hc⟩:=oC H.ZY.row _ e;rw[H.Zm]at hc;simp at hc
theorem TS.lt(H:TS X K q v n d l w){k:Nat}(hk:yn K q v k):K.p.h.B<=k/\k<w.heap.size:=by
 rcases hk with e|e|e;exact H.y.lt e;rw[e];exact⟨H.lo,ae H.Zm⟩;exact H.ZY.lt e
theorem TS.low(H:TS X K q v n d l w)(g:gH K q v w q' v' w'):Below K.p.h.B w w':=g.kp.below (by have:=(H.lt (.inr (.inl rfl):yn K q v K.db));omega) fun _ e=>(H.lt e).1
theorem TS.quiet(H:TS X K q v n d l w)(k:aA w w'):TS X K q v n d l w':=
 ⟨H.y.quiet k,(k.block _ (ae H.Zm) fun e=>e).trans H.Zm,H.ZY.quiet k,H.lz.low (H.low (gH.quiet K q v k)),H.inv,H.lo,fun i e=>⟨az (H.xo i e).1 k.size,(H.xo i e).2⟩⟩
theorem TS.abK(H:TS X K q v n d l w)(i:Nat)(cs:Array Value)(t:TypeId)(hi:w.heap[i]?=some (.cells cs t (0,0)))(ht:t=334\/t=328):¬(i=K.db\/nK K.tb v i):=by
 rintro(e|e|e);rw[e,H.Zm]at hi;simp at hi;rcases ht with ht|ht<;>rw[ht]at hi<;>simp at hi;obtain⟨a,_,hb⟩:=H.ZY.obj;rw[e,hb]at hi;simp at hi;rcases ht with ht|ht<;>rw[ht]at hi<;>simp at hi;obtain⟨c,fz,hc⟩:=oC H.ZY.row _ e;rw[hc]at hi;simp at hi;rcases ht with ht|ht<;>rw[ht]at hi<;>simp at hi
theorem TS.put(H:TS X K q v n d l w)(h:IU K.p.h.B K.tb K.db v l' w w'):∃v',TS X K q v' n d l' w'/\gH K q v w q v' w':=by
 obtain⟨v',s,k,o⟩:=h;have g:gH K q v w q v' w':=⟨k.mono fun i _ e=> .inr (.inr e),fun i e=>by
  rcases e with e|e|e;exact .inl (.inl e);exact .inl (.inr (.inl e))
  ·rcases o i e with e|e;exact .inl (.inr (.inr e))
   ·exact .inr e⟩
 have hy:∀i,nK K.tb v' i->¬mq K.p q.q i:=fun i e e2=>by
  rcases o i e with e|e;exact(H.y.xo (.inl (.inr e))).2 e2;have:=(H.y.lt e2).2;omega
 refine⟨v',⟨H.y.turn k (fun i e=> .inl (.inr e)) (fun i cs t hi ht e=>H.abK i cs t hi ht (.inr e)) (fun i hi e=> ?_) (fun i e=> ?_),(k.block _ (ae H.Zm) H.ad2).trans H.Zm,s,H.lz.low (H.low g),H.inv,H.lo,fun i e=>⟨az (H.xo i e).1 k.size,fun e2=> ?_⟩⟩,g⟩;rcases e with(e|e)|e;exact .inl (.inl e);rcases o i e with e|e;exact .inl (.inr e);omega;exact .inr e;rcases e with(e|e)|e;rw[e];exact⟨az (ae H.Zm) k.size,(H.y.xo (.inl (.inl rfl))).2⟩;exact⟨(s.lt e).2,hy i e⟩;exact⟨az (H.xo i e).1 k.size,fun e2=>(H.xo i e).2 (.inl e2)⟩;rcases g.own i e2 with e2|e2;exact(H.xo i e).2 e2;have:=(H.xo i e).1;omega
end
theorem Ap(ws:List (List UInt8)):(ws.map fun t=>ByteArray.mk t.toArray).map (·.data.toList)=ws:=by
 rw[List.map_map];conv=>rhs;rw[<-List.map_id ws]
 exact List.map_congr_left fun t _=>by simp
theorem Ul(ws:List (List UInt8))(ao:Option Addr)(cap:Nat)(w:World)(ha:fF w ws ao)(h0:ws≠[])(hcap:ws.length<=cap)(hlen:(Lib.join ws [32]).length<=100000000000)(hws:ws.length<=100000000):
 Calls prog 76 #[.slice ao ws.length cap,.string ⟨#[32]⟩] w fun e w'=>e= .returned (.string ⟨(Lib.join ws [32]).toArray⟩)/\aA w w':=by
 obtain⟨b,off,rfl,hc⟩:=ha 0 (by cases ws;exact absurd rfl h0;simp);have hb:=aW w _ hc;have hj:=RQ b off cap (ws.map fun t=>ByteArray.mk t.toArray) ⟨#[32]⟩ w (fun j x hx=>by
  rw[fe]at hx;obtain⟨t,ht,rfl⟩:=dF.1 hx;obtain⟨hl,rfl⟩:=dn.1 ht;obtain⟨b',off',e,hc'⟩:=ha j hl;cases e;exact hc') hb (by rw[bE];omega) (by rw[bE];exact hcap) (by rw[Ap];simp only;omega)
 rw[Ap,bE]at hj;exact hj.mono fun e w' h=>⟨h.1,gV h.2⟩
theorem Vj{ws:List (List UInt8)}(h:∃x r,ws=x::r/\(x≠[]\/r≠[])):Lib.join ws [32]≠[]:=by
 obtain⟨x,r,rfl,h⟩:=h;rw[Lib.join_cons];intro e;obtain⟨e1,e2⟩:=List.append_eq_nil_iff.1 e;rcases h with h|h;exact h e1
 ·cases r with
  |nil=>exact h rfl
  |cons y r=>simp[Lib.joinTail]at e2
structure Xm(l:List UInt8)(ws:List (List UInt8)):Prop where
 ne:∃x r,ws=x::r/\(x≠[]\/r≠[])
 few:ws.length<=100000000
 len:(Lib.join ws [32]).length<=100000000000
 all:l.length<=100000000000000
def wW(X:Nat->Prop)(K:Kx)(q:Qx)(v:Value)(n:Nat)(d:Ds)(l:List UInt8)(w:World)(e:Ending)(w':World):Prop:=e= .returned (.tuple #[])/\∃v',TS X K q v' n d l w'/\gH K q v w q v' w'
theorem mX{X:Nat->Prop}{K:Kx}{q:Qx}{v:Value}{n:Nat}{d:Ds}{l:List UInt8}{w:World}(H:TS X K q v n d l w)(ws:List (List UInt8))(ao:Option Addr)(cap:Nat)(ha:fF w ws ao)(hcap:ws.length<=cap)(hf:Xm l ws):
 Calls prog 45 #[.pointer (some ⟨K.tb,0,none⟩),.slice ao ws.length cap] w (wW X K q v n d (l++iK ws) w):=by
 have HJ:=hid (fun w1 (q1:aA w w1)=>Ul ws ao cap w1 (ha.quiet q1) (by obtain⟨x,r,e,_⟩:=hf.ne;rw[e];simp) hcap hf.len hf.few);have HP:=hid (fun(l2:List UInt8) (v2:Value) (w2:World) (h:TkS K.p.h.B K.tb K.db v2 l2 w2) (s:List UInt8) (hs:s≠[]) (hl:l2.length+s.length<=140737488355328)=>LY h s hs hl (by have:=(h.lt (.inl rfl:nK K.tb v2 K.tb));omega));have HT:=hid (show iK ws=Lib.join ws [32]++[10]from rfl);have HF:=gp (Vj hf.ne) hf.len hf.all;have HH:=hid H;unfold wW;generalize Lib.join ws [32]=s at*;clear H ha hf;go_enter func45,ntmps45;go_wp2_with fail;go_region_with (first
  |(go_at_call 75;refine(HP.out l v _ (HH.out.ZY.quiet Q1.out) s HF.out.1 (by have:=HF.out.2;omega)).mono ?_;rintro e w2 ⟨⟨r2,rfl⟩,p2⟩;have P2:=hid p2;clear p2)
  |(go_at_call 76;refine(HJ.out _ (Kp.drew _)).mono ?_;rintro e w1 ⟨rfl,q1⟩;have Q1:=hid ((Kp.drew w).trans q1);clear q1))
 all_goals
  obtain⟨v2,s2,k2,o2⟩:=P2.out;have P3:=hid (fun(w3:World) (p3:IU K.p.h.B K.tb K.db v2 (l++s++[10]) w2 w3)=>(HH.out.quiet Q1.out).put (IU.trans k2 o2 p3));have H2:=hid (HP.out (l++s) v2 w2 s2 [10] (by simp) (by have:=HF.out.2;simp;omega));clear s2 k2 o2;go_wp2_with (go_at_call 75;refine H2.out.mono ?_;rintro e w3 ⟨⟨r3,rfl⟩,p3⟩);go_end0;obtain⟨v3,T3,G3⟩:=P3.out _ p3;exact⟨rfl,v3,by rw[HT.out,<-aV];exact T3,(gH.quiet K q v Q1.out).trans G3⟩
theorem Am(n:Int)(hn:dH n)(w:World)(ht:Ex.Laid w):Calls prog 52 #[.int .i64 n] w fun e w'=>e= .returned (.string ⟨(Lib.itoa n).toArray⟩)/\aA w w':=by
 refine(LQ n hn.1 hn.2 w ht.tab).mono ?_;rintro e w' ⟨rfl,k,os,rfl⟩;exact⟨rfl,Ex.aad w k os⟩
def sZ(w:World)(ns:List Int)(ao:Option Addr):Prop:=∀i (h:i<ns.length),∃b off,ao=some ⟨b,off,none⟩/\w.cell? ⟨b,off+i,none⟩=some (.int .i64 ns[i])
theorem sZ.quiet{w w':World}{ns:List Int}{ao:Option Addr}(h:sZ w ns ao)(q:aA w w'):sZ w' ns ao:=fun i hi=>by
 obtain⟨b,off,e,c⟩:=h i hi;exact⟨b,off,e,q.cell c fun e=>e⟩
theorem uu{w:World}{base:Nat}{e:TypeId}{size:Nat}{ao:Option Addr}{n m cap:Nat}{xs:List Value}(h:w.ownsRow base e size (.slice ao m cap) n xs):n<=cap:=by
 rcases h.2 with⟨h',rfl⟩|⟨g',cap',cur,h',hb,hg,hc,_⟩;exact aP _;simp only[aY]at h';omega
theorem zz(w:World)(cs:List Value)(t:TypeId)(hl:cs.length<=1000):(w.alloc (.cells cs.toArray t)).ownsRow w.heap.size t 1 (.slice (some ⟨w.heap.size,0,none⟩) cs.length cs.length) cs.length cs:=
 ⟨by simp,.inr ⟨w.heap.size,cs.length,cs.toArray,rfl,aj _,ah w _,aj _,by unfold maxLen;omega,by simp,by simp⟩⟩
theorem I6{B:Nat}{W w w3:World}{ao:Option Addr}{cap nk:Nat}{ws:List (List UInt8)}{x:List UInt8}{v3:Value}(q:aA W w)(hB:W.heap.size<=B)(hr:w.ownsRow B 9 1 (.slice ao nk cap) nk (lK ws))(hn:nk=ws.length)
 (h3:w3.ownsRow B 9 1 v3 (nk+1) (lK ws++[.string ⟨x.toArray⟩])) (hg:(w.alloc (.cells #[.string ⟨x.toArray⟩] 9)).grownBy w3 (Value.slice ao nk cap).ownBlock):aA W w3/\w3.ownsRow B 9 1 v3 (ws++[x]).length (lK (ws++[x])):=by
 refine⟨(q.trans (Kp.alloc _ _)).fresh (Kp.grown hg fun k _ e=>aF hB (hr.lt k e.symm).1), ?_⟩;rw[ak,Ac,<-hn];exact h3
theorem nW(ws:List (List UInt8))(m:Nat)(h:∀t∈ws,t.length<=m):(Lib.join ws [32]).length<=(m+1)*ws.length:=by
 cases ws with
 |nil=>simp[Lib.join_nil]
 |cons x r=>
  have hl:∀r:List (List UInt8),(∀t∈r,t.length<=m)->Lib.lens r<=m*r.length:=fun r=>by
   induction r with
   |nil=>intro _;simp[Lib.lens]
   |cons y r ih=>
    intro h;have h1:=h y (by simp);have h2:=ih fun t ht=>h t (by simp[ht]);simp only[Lib.lens,dz,List.sum_cons,aL]at h2|-;rw[Nat.mul_succ];omega
  rw[Lib.join_length];have:=hl (x::r) h;simp only[aL,bf,Nat.add_mul,bP,Nat.one_mul]at this|-;omega
theorem QT{X:Nat->Prop}{K:Kx}{q:Qx}{v:Value}{n:Nat}{d:Ds}{l:List UInt8}{w:World}(H:TS X K q v n d l w)(ns:List Int)(ao:Option Addr)(cap:Nat)(ha:sZ w ns ao)(hns:ns.length<=2)(hin:∀z∈ns,dH z)(hl:l.length<=100000000000000):
 Calls prog 111 #[.pointer (some ⟨K.tb,0,none⟩),.slice ao ns.length cap] w (wW X K q v n d (l++noD ns) w):=by
 obtain⟨i0,hi,hz0,hz1,hz2⟩:=bM mM;have HH:=hid H;have HA:=bC ha hin;have HD:=hid (show noD ns=iK (noW::ns.map Lib.itoa)from rfl);clear H ha hin;have h0:(w.alloc (.cells #[.string ⟨#[110,111]⟩] 9)).ownsRow w.heap.size 9 1 (.slice (some ⟨w.heap.size,0,none⟩) 1 1) 1 (lK [noW]):=zz w [.string ⟨#[110,111]⟩] 9 (by simp);have H0:=hid h0;clear h0;go_enter func111,ntmps111;go_wp2;go_loopw [4,10] (fun sv i wr=>∃k:Nat,i= .int .i64 k/\k<=ns.length/\wr.ownsRow w.heap.size 9 1 sv (1+k) (lK (noW::(ns.take k).map Lib.itoa))/\Hid (aA w wr)) (fun _ i _=>ns.length-(intOf i).toNat);case atStart=>exact⟨0,rfl,aP _,by simpa using H0.out,hid (Kp.alloc _ _)⟩
 case round=>
  rename World=>wr;obtain⟨k,rfl,hk,hr,Q⟩:=hrel;obtain⟨av,cv,rfl⟩:=YU hr;have hcv:=uu hr;by_cases hlt:k<ns.length
  ·obtain⟨b,off,rfl,hc⟩:=(HA.out.1.quiet Q.out) k hlt;have HI:=hid (Am ns[k] (HA.out.2 _ (aI hlt)) wr (HH.out.quiet Q.out).lz.is.1);have HN:=hid (show(ns.take (k+1)).map Lib.itoa=(ns.take k).map Lib.itoa++[Lib.itoa ns[k]]by rw[iF ns k hlt,bA];rfl);generalize ns[k]=z at*;generalize Lib.itoa z=x at*;have HR:=hid hr;have hs:=Q.out.size;clear hr;obtain⟨nk,hnk⟩:∃nk,nk=1+k:=⟨_,rfl⟩;rw[<-hnk]at HR|-;have HNK:=hid hnk;have hk5:nk<=3:=(by omega);clear hnk;go_wp2_with (first
    |(at_builtin;refine aX _ rfl (.tmp 14) (.tmp 17) 22 rfl w.heap.size 9 i0 _ 1 16 jB hi hz0 hz1 hz2 rfl (by decide) _ nk (lK (noW::(ns.take k).map Lib.itoa)) rfl (HR2.out.alloc _) ⟨w2.heap.size,0,none⟩ 1 1 [.string ⟨x.toArray⟩] rfl rfl (gT w2 _ 9) (by simp[Value.oneCell']) (by decide) (by unfold maxLen;omega) (by omega) (by simp;omega) _ rfl ?_;intro g2 cap2 w3 hr3 hg3 hat hlt3;have H3:=hid (I6 (Q.out.trans Q2.out) (aj _) HR2.out (by simp;have:=HNK.out;omega) hr3 hg3);clear hr3 hg3 hat hlt3)
    |(go_at_call 52;refine HI.out.mono ?_;rintro e w2 ⟨rfl,q2⟩;have HR2:=hid (q2.row HR.out fun _ _ e=>e);have hs2:=q2.size;have Q2:=hid q2;clear q2))
   refine⟨⟨k+1,by go_num,by omega, ?_,hid H3.out.1⟩,by simp[intOf];omega⟩;have e:=H3.out.2;have e1:(noW::(ns.take k).map Lib.itoa++[x]).length=1+(k+1):=(by simp;omega);rw[e1]at e;rw[HN.out];exact e
  ·obtain rfl:k=ns.length:=(by omega);rw[aZ]at hr;have e1:1+ns.length=(noW::ns.map Lib.itoa).length:=(by simp;omega);rw[e1]at hr hcv|-;have HT:=hid (mX (HH.out.quiet Q.out) (noW::ns.map Lib.itoa) av cv (sV hr) hcv ⟨⟨noW,_,rfl,.inl (by simp[noW])⟩,by simp;omega,aF (nW _ 21 fun t ht=> ?_) (by simp;omega),hl⟩)
   ·rw[<-HD.out]at HT;generalize(noW::ns.map Lib.itoa).length=m at*;clear hr;go_wp2_with (go_at_call 45;refine HT.out.mono ?_;rintro e w2 ⟨rfl,v2,t2,g2⟩);go_end0;exact⟨rfl,v2,t2,(gH.quiet K q v Q.out).trans g2⟩
   ·rcases aU.1 ht with rfl|ht;simp[noW];obtain⟨z,hz,rfl⟩:=List.mem_map.1 ht;exact Lib.itoa_length_le z (HA.out.2 z hz).1 (HA.out.2 z hz).2
def Sc(c:Int):Prop:=0<=c/\c<=99
theorem Jj(ns:List Nd)(os:List Bool)(n:Nd):Sc (dJ ns os n).code:=by
 unfold dJ Sc;repeat' split
 all_goals simp
theorem yD(ns:List Nd)(os:List Bool)(p r g:Int):Sc (aS ns os p r g).code:=by
 unfold aS;split;exact Jj _ _ _;simp[Sc]
theorem zl(ns:List Nd)(os:List Bool):Sc (bJ ns os).code:=by unfold bJ Sc;split<;>simp
theorem Xc(ns:List Nd)(os:List Bool)(k:Int):Sc (dV ns os k).code:=by unfold dV Sc;split<;>simp
theorem Ho(v:V):Sc v.check:=by
 have h1:∀v:V,Sc v.YW:=fun v=>by
  unfold V.YW Sc;repeat' split
  all_goals simp
 have h2:∀l:List V,Sc (first l):=fun l=>by
  induction l with
  |nil=>simp[first,Sc]
  |cons x l ih=>rw[first];split;exact ih;exact h1 x
 unfold V.check V.fault;split;simp[Sc];exact h2 _
theorem Ia(os:List Bool)(gs:List Int):∀(ns:List Nd)(k:Int),Sc (fD os ns k gs).2.1:=by
 induction gs with
 |nil=>intro ns k;simp[fD,Sc]
 |cons g gs ih=>
  intro ns k;rw[fD];split;exact ih _ _;exact yD _ _ _ _ _
theorem Nl(os:List Bool)(gs:List Int)(v:V):∀ns,Sc (v.handed os gs ns).2.1:=by
 induction v using V.aan with
 |h v ih=>
  have key:∀l:List V,(∀x∈l,∀ns,Sc (x.handed os gs ns).2.1)->∀ns,Sc (YY os gs l ns).2.1:=by
   intro l;induction l with
   |nil=>intro _ ns;rw[jv];simp[Sc]
   |cons x l ihl=>
    intro hx ns;rw[jE];repeat' split
    ·simp[Sc]
    ·exact ihl (fun y hy=>hx y (by simp[hy])) _
    ·exact hx x (by simp) _
  intro ns;rw[qH];have hn:Sc (kP os gs v ns).2.1:=by
   unfold kP;split;exact Ia _ _ _ _;simp[Sc]
  repeat' split
  ·simp[Sc]
  ·exact key v.l (fun x hx=>ih x hx) _
  ·exact hn
theorem M4(ns:List Nd)(os:List Bool)(gs:List Int)(v:V):Sc (fK ns os gs v).2.1:=by
 have hm:Sc (lu ns os v):=by
  unfold lu;repeat' split
  ·simp[Sc]
  ·simp[Sc]
  ·simp[Sc]
  ·exact Ho v
 unfold fK;split;exact Nl _ _ _ _;exact hm
def So(o:Out):Prop:=∀c,o.got= .error c->Sc c
theorem lF{c:Int}(h:Sc c)(n:Nat)(s:Sg):So (bad c n s):=fun d e=>by cases e;exact h
theorem Dl(v:V)(n:Nat)(s:Sg):So (okV v n s):=fun d e=>by cases e
theorem pY{o:Out}{f:V->Nat->Sg->Out}(h:So o)(hf:∀v n s,So (f v n s)):So (o.then f):=by
 unfold Out.then;split;exact hf _ _ _;exact h
theorem KX{r:ZH}(h:Sc r.code)(n:Nat)(s:Sg):So (jf r n s):=by
 unfold jf;split;exact Dl _ _ _;exact lF h _ _
theorem FU(v:V)(gs:List Int)(n:Nat)(s:Sg):So (fB v gs n s):=by
 unfold fB;split;exact Dl _ _ _;exact lF (M4 _ _ _ _) _ _
theorem G5{s:Sg}{v:V}{bit:Nat}{c:Int}(h:iG s v bit= .error c):Sc c:=by
 unfold iG at h;repeat' split at h
 all_goals first
  |(cases h;simp[Sc])
  |cases h
def CG(call:eT):Prop:=∀fr p f a n s,So (call fr p f a n s)
def EvS(ev:Evl):Prop:=∀fr p x a ns n s,So (ev fr p x a ns n s)
theorem Xd{call:eT}(hc:CG call)(ms:fA)(fr:Nat)(a b:V)(n:Nat)(s:Sg):So (mU call ms fr a b n s):=by
 unfold mU;repeat' split
 all_goals first
  |exact lF (by simp[Sc]) _ _
  |exact pY (FU _ _ _ _) fun v n s=>pY (hc _ _ _ _ _ _) fun v n s=>FU _ _ _ _
theorem Wy{call:eT}(hc:CG call)(ms:fA)(fr:Nat)(p op k:Int)(a b:V)(n:Nat)(s:Sg):So (jy call ms fr p op k a b n s):=by
 unfold jy;repeat' split
 all_goals first
  |exact Dl _ _ _
  |exact lF (G5 (by assumption)) _ _
  |exact lF (zl _ _) _ _
  |exact lF (by simp[Sc]) _ _
  |exact Xd hc _ _ _ _ _ _
theorem WJ{call:eT}(hc:CG call)(fr:Nat)(p op k:Int)(a:V)(n:Nat)(s:Sg):So (gQ call fr p op k a n s):=by
 unfold gQ;repeat' split
 all_goals first
  |exact Dl _ _ _
  |exact lF (G5 (by assumption)) _ _
  |exact lF (zl _ _) _ _
  |exact lF (by simp[Sc]) _ _
  |exact KX (yD _ _ _ _ _) _ _
  |exact pY (KX (yD _ _ _ _ _) _ _) fun v n s=>Dl _ _ _
  |exact hc _ _ _ _ _ _
theorem UW{ev:Evl}(he:EvS ev){call:eT}(hc:CG call)(ms:fA):EvS (j3 ev call ms):=by
 intro fr p x a ns n s;unfold j3;repeat' split
 all_goals first
  |exact lF (by simp[Sc]) _ _
  |(unfold nD;repeat' split
    all_goals exact Dl _ _ _)
  |exact pY (he _ _ _ _ _ _ _) fun v n s=>WJ hc _ _ _ _ _ _ _
  |exact pY (he _ _ _ _ _ _ _) fun v n s=>he _ _ _ _ _ _ _
  |exact pY (he _ _ _ _ _ _ _) fun v n s=>pY (he _ _ _ _ _ _ _) fun v n s=>Wy hc _ _ _ _ _ _ _ _ _
  |exact pY (he _ _ _ _ _ _ _) fun v n s=>by
    repeat' split
    ·exact he _ _ _ _ _ _ _
    ·exact he _ _ _ _ _ _ _
    ·exact lF (by simp[Sc]) _ _
theorem K7{ev:Evl}(he:EvS ev)(ms:fA):CG (jY ev ms):=by
 intro fr p f a n s;unfold jY;repeat' split
 ·exact lF (by simp[Sc]) _ _
 ·exact lF (by simp[Sc]) _ _
 ·exact he _ _ _ _ _ _ _
theorem Xq(ms:fA):∀d,EvS (evR ms d):=fun d=>by
 induction d with
 |zero=>intro fr p x a ns n s;exact lF (by simp[Sc]) _ _
 |succ d ih=>exact UW ih (K7 ih ms) ms
structure zU(e:Evt):Prop where
 code:Sc e.code
 fuel:0<=e.fuel/\e.fuel<=2000
 val:e.v.check=0
theorem Un{h:Hs}(hi:HOk h)(p k:Int)(v:V):zU (lM h p k v).1:=by
 have h1:=Sy h.ms hi.inv p k v 2000 (by decide);have hc:∀c,(gM h.ms p k v 2000 h.s).1= .error c->Sc c:=fun c=>by
  unfold gM;repeat' split
  ·intro e;cases e;simp[Sc]
  ·intro e;cases e;simp[Sc]
  ·intro e;cases e;exact Ho v
  ·exact K7 (Xq h.ms 2000) h.ms _ _ _ _ _ _ c
 have hf:(gM h.ms p k v 2000 h.s).2.1<=2000:=by
  unfold gM;repeat' split
  all_goals simp only
  all_goals omega
 unfold lM RI;cases e:(gM h.ms p k v 2000 h.s).1 with
 |ok u=>exact⟨by simp[Sc],⟨h1.2.2.1,hf⟩,h1.2.1 u e⟩
 |error c=>exact⟨hc c e,⟨h1.2.2.1,hf⟩,iN⟩
theorem Ag(k n:Int)(hk:k=1\/k=4/\0<=n):(⟨k,n,[]⟩:V).check=0:=by
 have hs:(⟨k,n,[]⟩:V).size=1:=by rw[j6,YX]
 unfold V.check V.fault;rw[hs,af (by decide),I8,iI];rcases hk with rfl|⟨rfl,h⟩;simp[first,V.YW,jc];simp[first,V.YW,jc];omega
theorem FZ{h:Hs}(hi:HOk h)(x:Sp)(hx:Sc x.code):zU (dL h x).1:=by
 have h0:∀c,Sc c->zU ⟨c,0,v0⟩:=fun c hc=>⟨hc,⟨by simp,by simp⟩,iN⟩;have hg:∀(p:Int)(r:ZH),Sc r.code->(r.code=0->0<=r.num)->zU (iB h p r).1:=fun p r hr hn=>by
  unfold iB;split;rename_i e;exact⟨by simp[Sc],⟨by simp,by simp⟩,Ag 4 _ (.inr ⟨rfl,hn e⟩)⟩;exact h0 _ hr
 have hadd:∀n,(dJ h.s.ns h.s.os n).code=0->0<=(dJ h.s.ns h.s.os n).num:=fun n=>by
  unfold dJ;repeat' split
  all_goals simp
 unfold dL;repeat' split
 all_goals first
  |(unfold iV;repeat' split
    all_goals first
     |exact h0 _ hx
     |exact h0 _ (by simp[Sc]))
  |(refine hg _ _ ?_ ?_
    ·unfold fO;split;exact Jj _ _ _;simp[Sc]
    ·unfold fO;split;exact hadd _
     ·simp)
  |(refine hg _ _ ?_ ?_
    ·unfold funcOf;split;exact Jj _ _ _;simp[Sc]
    ·unfold funcOf;split;exact hadd _
     ·simp)
  |(unfold kR;repeat' split
    all_goals first
     |exact Un hi _ _ _
     |exact h0 _ (by simp[Sc]))
  |exact h0 _ (Xc _ _ _)
  |exact⟨zl _ _,⟨by simp,by simp⟩,Ag 1 _ (.inl rfl)⟩
  |exact⟨zl _ _,⟨by simp,by simp⟩,iN⟩
  |exact h0 _ (by simp[Sc])
theorem Hz(t:List UInt8)(ht:t.length<=20000)(w:World)(hw:Ex.Laid w):
 Calls prog 121 #[.string ⟨t.toArray⟩] w fun e w'=>e= .returned (.tuple #[.int .i64 ((Ex.Za t).getD 0),.bool (Ex.Za t).isSome])/\aA w w':=by
 cases h:Ex.Za t with
 |some n=>
  obtain⟨h1,h2⟩:=Ex.aak h;have hn:=Ex.Z7 h1;have H1:=hid h1;have H2:=hid h2;clear h h1 h2;go_enter func121,ntmps121;go_wp2_with (first
   |(go_at_call 37;refine(Ex.Zz n hn _ (hw.quiet q1)).mono ?_;rw[H2.out];rintro e w2 ⟨rfl,q2⟩)
   |(go_at_call 46;refine(Ex.aaP t ht n H1.out _).mono ?_;rintro e w1 ⟨rfl,q1⟩))
  go_ret2;exact⟨rfl,q1.trans q2⟩
 |none=>
  rcases Ex.aa2 h with hb|⟨n,h1,h2⟩
  ·have HB:=hid hb;clear h hb;go_enter func121,ntmps121;go_wp2_with (go_at_call 46;refine(Ex.aa1 t ht HB.out _ hw).mono ?_;rintro e w1 ⟨z,tp,p,rfl,q1⟩);go_ret2;exact⟨rfl,q1⟩
  ·have hn:=Ex.Z7 h1;have H1:=hid h1;have hne:(Lib.itoa n==t)=false:=(by simpa using h2);clear h h1 h2;go_enter func121,ntmps121;go_wp2_with (first
    |(go_at_call 37;refine(Ex.Zz n hn _ (hw.quiet q1)).mono ?_;rintro e w2 ⟨rfl,q2⟩)
    |(go_at_call 46;refine(Ex.aaP t ht n H1.out _).mono ?_;rintro e w1 ⟨rfl,q1⟩))
   go_ret2;exact⟨rfl,q1.trans q2⟩
