/- Parts. -/
import Derived.Test.YtpeakfcbihoknaaGreatDoorUE5
import Derived.LaidLaws
import Derived.ChangeArms
import Derived.Lib.LaidTab
open Go.ChangeShapes Go.WideShapes Go.ChangeAt Go.RowKit
set_option maxRecDepth 8000
set_option maxHeartbeats 4000000
namespace Go.Proofs.YtpeakfcbihoknaaGreatDoor
open Proofs.Tryz
namespace Ex
theorem Qw{w:World}{n:String}{g:Nat}{cs:Array Value}(h:w.var? prog n=some cs)(hg:prog.globalNamed n=some g):g<w.heap.size:=by
 unfold World.var? at h;rw[hg]at h;simp only[Option.bind_some]at h;rcases dO g w.heap.size with h'|h';exact h';rw[Array.getElem?_eq_none h']at h;simp at h
theorem Wds.rd{w w':World}{rb:Nat}(h:Wds w)(q:aA w w')(hr:w.heap.size<=rb):Rd w' rb:=
 ⟨h.quiet q,az (Qw h.words vR) hr,az (Qw h.bins vW) hr⟩
theorem Mi(l:List UInt8):iU (scan l).1:=by
 intro t ht;have hg:=Dn l t ht;refine⟨hg, ?_⟩;rcases hg with⟨_,_,h⟩|⟨_,_,_,h⟩|⟨_,_,_,_,_,h,_⟩;rw[h];unfold dH;omega;rw[h];unfold dH;omega;exact Z7 (aak h).1
theorem aaE(l:List UInt8):(scan l).1.length<=l.length:=aF (OE (Dn l)) (J6 l)
theorem Rn{w:World}{base:Nat}{e:TypeId}{size:Nat}{ao:Option Addr}{n m cap:Nat}{xs:List Value}(h:w.ownsRow base e size (.slice ao m cap) n xs):n<=cap:=by
 rcases h.2 with⟨h',rfl⟩|⟨g',cap',cur,h',hb,hg,hc,_⟩;exact aP _;simp only[aY]at h';omega
theorem Pv{w1 w2:World}{B:Nat}{ao:Option Addr}{cap:Nat}{e:Int}{ts:List Tk}(h:oM w1 B 266 (.slice ao ts.length cap) ts)(q:aA w1 w2):RS (w2.alloc (.cells #[.slice ao ts.length cap,.int .i64 e] 250)) w2.heap.size e ts:=by
 refine⟨ao,cap,ah w2 _, ?_,Rn h⟩;intro i t ht;obtain⟨g,rfl,h0,h1,h2,h3⟩:=(h.quiet (q.trans (Kp.alloc w2 (.cells #[.slice ao ts.length cap,.int .i64 e] 250)))).tok rfl i t ht;have hg:g<w2.heap.size:=by
  obtain⟨g',e',k0,_⟩:=(h.quiet q).tok rfl i t ht;cases e';exact aW _ _ k0
 exact⟨g,0,rfl,hg,by rw[bP];exact h0,by rw[bP];exact h1,by rw[bP];exact h2,by rw[bP];exact h3⟩
theorem nR.clean{lo:Nat}{w:World}{l:List V}{ao:Option Addr}(h:nR lo w l ao):Fo (cln w) l ao:=h _ fun _ _ _ _ hc=>xA hc
def acx(w:World)(p:List V×Int×Int)(e':Ending)(w':World):Prop:=
 ∃ao cap,e'= .returned (.tuple #[.agg #[.slice ao p.1.length cap],.agg #[.int .i64 p.2.1,.int .i64 p.2.2]])/\(∀w2,Kp (fun i=>i<w.heap.size) w' w2->Fo (cln w2) p.1 ao)/\aA w w'
theorem ace{w w':World}{a b:Obj}(q:aA ((w.alloc a).alloc b) w'):w'.heap[w.heap.size]?=some a/\w'.heap[w.heap.size+1]?=some b:=by
 have h0:((w.alloc a).alloc b).heap[w.heap.size]?=some a:=by rw[aB _ _ _ (by simp)];exact ah w _
 have h1:=Y2 w a b;exact⟨(q.block _ (ae h0) fun e=>e).trans h0,(q.block _ (ae h1) fun e=>e).trans h1⟩
theorem vM{w w' w2:World}{o1 o2:Obj}(q:aA ((w.alloc o1).alloc o2) w')(k:Kp (fun i=>w.heap.size<=i) w' w2):aA w w2:=((Kp.alloc _ _).trans ((Kp.alloc _ _).trans q)).fresh k
theorem mH(w0 w:World)(j o:Nat)(y:Value):Kp (fun i=>w0.heap.size<=i) w (w.setCell ⟨w0.heap.size+j,o,none⟩ y):=Kp.setCell w ⟨w0.heap.size+j,o,none⟩ y (bQ _ _)
theorem sI(w0 w:World)(o:Nat)(y:Value):Kp (fun i=>w0.heap.size<=i) w (w.setCell ⟨w0.heap.size,o,none⟩ y):=Kp.setCell w ⟨w0.heap.size,o,none⟩ y (aj _)
theorem Kb(l:List UInt8)(hl:l.length<=9000)(w:World)(hw:Laid w)(hc:(scan l).2.1≠0):Calls prog 143 #[.string ⟨l.toArray⟩] w (acx w ([],(scan l).2.1,(scan l).2.2)):=by
 have HS:=hid (fun o1 o2=>Gn l hl ((w.alloc o1).alloc o2) ((hw.quiet (Kp.alloc _ _)).quiet (Kp.alloc _ _)));generalize hs:scan l=s at*;obtain⟨ts,c,a⟩:=s;simp only at hc HS|-;have hc1:(c !=0)=true:=by simpa using hc
 clear hw hs;go_enter func143,ntmps143;go_wp2_with (go_at_call 168;refine(HS.out _ _).mono ?_;rintro e' w1 ⟨v,rfl,hT,q1⟩;obtain⟨hb0,hb1⟩:=ace q1;have c0:=aar hb0;have f0:=YZ hb0;obtain⟨d0,d1⟩:=Z6 hb1;have f1:=YZ hb1;have hl0:=ae hb0;have hl1:=ae hb1;clear hb0 hb1);go_region;go_wp2;refine au (v:= .tuple #[.agg #[.slice none 0 0],.agg #[.int .i64 c,.int .i64 a]]) (by simp[results,results143,go_sem,c0,d0,d1,hl0,hl1]) rfl ⟨none,0,rfl,fun _ _=>Fo.nil _ _,vM q1 ?_⟩;exact(((sI w _ 0 _).trans (mH w _ 1 0 _)).trans (mH w _ 1 1 _)).trans ((Kp.alloc _ _).trans (Kp.drew _))
theorem uf{w w1 w2:World}{o1 o2 o3 o4:Obj}(q1:aA ((w.alloc o1).alloc o2) w1)(q2:Kr (w1.heap.size+1) ((w1.alloc o3).alloc o4) w2):w2.heap[w.heap.size]?=some o1/\w2.heap[w.heap.size+1]?=some o2/\w2.heap[w1.heap.size]?=some o3:=by
 obtain⟨h1,h2⟩:=ace q1;have l1:=ae h1;have l2:=ae h2;have h3:((w1.alloc o3).alloc o4).heap[w1.heap.size]?=some o3:=by rw[aB _ _ _ (by simp)];exact ah w1 _
 refine⟨?_, ?_, ?_⟩;rw[q2.block _ (by simp;omega) (by omega),aB _ _ _ (by simp;omega),aB _ _ _ l1];exact h1;rw[q2.block _ (by simp;omega) (by omega),aB _ _ _ (by simp;omega),aB _ _ _ l2];exact h2;exact(q2.block _ (ae h3) (by omega)).trans h3
theorem xZ{w w1 w2 w3:World}{o1 o2 o3 o4:Obj}(q1:aA ((w.alloc o1).alloc o2) w1)(q2:Kr (w1.heap.size+1) ((w1.alloc o3).alloc o4) w2)(k:Kp (fun i=>w.heap.size<=i) w2 w3):aA w w3:=by
 have hs:w.heap.size<=w1.heap.size:=by have:=q1.size;simp at this;omega
 exact vM q1 (((Kp.alloc _ _).trans ((Kp.alloc _ _).trans (q2.mono fun i _ e=>by omega))).trans k)
theorem qD(w0 w:World)(x o:Nat)(y:Value)(h:w0.heap.size<=x):Kp (fun i=>w0.heap.size<=i) w (w.setCell ⟨x,o,none⟩ y):=Kp.setCell w ⟨x,o,none⟩ y h
theorem Gx{w1 w2 w3:World}{o3 o4:Obj}{m:List V}{ao:Option Addr}(h:nR ((w1.alloc o3).alloc o4).heap.size w2 m ao)(k:Kp (fun i=>i<=w1.heap.size) w2 w3):Fo (cln w3) m ao:=by
 have hz:((w1.alloc o3).alloc o4).heap.size=w1.heap.size+2:=by simp
 rw[hz]at h;exact(h.step fun k' h2 h3=>k.block k' h3 (by omega)).clean
theorem Ea(w:World)(x:Nat)(a b:Value)(o:Obj):Kp (fun i=>i<=x) w (((w.setCell ⟨x,0,none⟩ a).setCell ⟨x,1,none⟩ b).alloc o):=
 ((Kp.setCell (F:=fun i=>i<=x) w ⟨x,0,none⟩ a (aj _)).trans (Kp.setCell _ ⟨x,1,none⟩ b (aj _))).trans (Kp.alloc _ _)
theorem uT{w w3:World}{x k:Nat}{a b:Value}{o o':Obj}(h:w.heap[k]?=some o')(hx:k≠x)(q:aA (((w.setCell ⟨x,0,none⟩ a).setCell ⟨x,1,none⟩ b).alloc o) w3):w3.heap[k]?=some o':=by
 have hk:Kp (fun i=>i=x) w (((w.setCell ⟨x,0,none⟩ a).setCell ⟨x,1,none⟩ b).alloc o):=((bF _ _ _ _).trans (bF _ _ _ _)).trans (Kp.alloc _ _);have h1:=(hk.block k (ae h) hx).trans h;exact(q.block k (ae h1) fun e=>e).trans h1
theorem FW{w w3:World}{x:Nat}{a b:Value}{o:Obj}(q:aA (((w.setCell ⟨x,0,none⟩ a).setCell ⟨x,1,none⟩ b).alloc o) w3):w3.heap[w.heap.size]?=some o:=by
 have h1:=ah ((w.setCell ⟨x,0,none⟩ a).setCell ⟨x,1,none⟩ b) o;have e:((w.setCell ⟨x,0,none⟩ a).setCell ⟨x,1,none⟩ b).heap.size=w.heap.size:=by simp[World.setCell]
 rw[e]at h1;exact(q.block _ (ae h1) fun e=>e).trans h1
theorem Km(l:List UInt8)(hl:l.length<=9000)(w:World)(hw:Laid w)(hd:Wds w)(hc:(scan l).2.1=0):Calls prog 143 #[.string ⟨l.toArray⟩] w (acx w (o6 (l.length:Int) (scan l).1)):=by
 have hz:=Y8 l;have hF:=Mi l;have hn:=aaE l;have HS:=hid (fun o1 o2=>Gn l hl ((w.alloc o1).alloc o2) ((hw.quiet (Kp.alloc _ _)).quiet (Kp.alloc _ _)));rw[Vi hc]at HS;generalize(scan l).1=ts at*;simp only at HS;have hts:ts.length<=9000:=by omega
 have HR:=hid (fun(o1 o2 o3:Obj) (ao:Option Addr) (cap:Nat) (w1:World) (q1:aA ((w.alloc o1).alloc o2) w1) (hT:oM w1 ((w.alloc o1).alloc o2).heap.size 266 (.slice ao ts.length cap) ts)=>
  aag (l.length:Int) (w1.heap.size+1) ts ((w1.alloc o3).alloc (.cells #[.slice ao ts.length cap,.int .i64 (l.length:Int)] 250)) (by have:=Pv (e:=(l.length:Int)) hT (Kp.alloc w1 o3);simpa using this) (hd.rd (((Kp.alloc _ _).trans ((Kp.alloc _ _).trans q1)).trans ((Kp.alloc _ _).trans (Kp.alloc _ _))) (by have:=q1.size;simp at this;omega)) hF hts)
 clear hw hd hc hF;unfold o6;cases hm:gU (l.length:Int) [] ts with
 |error x=>
  have hx1:(x.1 !=0)=true:=by simpa using Cg x hm
  rw[hm]at HR;clear hm;go_enter func143,ntmps143;go_wp2_with (first
   |(go_at_call 169;refine(HR.out _ _ _ _ _ w1 q1 hT).mono ?_;rintro e' w2 ⟨rfl,q2⟩;obtain⟨hb0,hb1,hb2⟩:=uf q1 q2;have c0:=aar hb0;have f0:=YZ hb0;obtain⟨d0,d1⟩:=Z6 hb1;have f1:=YZ hb1;obtain⟨g0,g1⟩:=Z6 hb2;have f2:=YZ hb2;have hl0:=ae hb0;have hl1:=ae hb1;have hl2:=ae hb2;clear hb0 hb1 hb2)
   |(go_at_call 168;refine(HS.out _ _).mono ?_;rintro e' w1 ⟨v,rfl,hT,q1⟩;obtain⟨ao,cap,rfl⟩:=hT.shape;have hne:¬w.heap.size=w1.heap.size:=(by have:=q1.size;simp at this;omega);have hne1:¬w.heap.size+1=w1.heap.size:=(by have:=q1.size;simp at this;omega)))
  go_region;go_wp2;have hle:w.heap.size<=w1.heap.size:=by have:=q1.size;simp at this;omega
  refine au (v:= .tuple #[.agg #[.slice none 0 0],.agg #[.int .i64 x.1,.int .i64 x.2]]) (by simp[results,results143,go_sem,c0,d0,d1,hl0,hl1]) rfl ⟨none,0,rfl,fun _ _=>Fo.nil _ _,xZ q1 q2 ?_⟩;exact(((((qD w _ _ 0 _ hle).trans (qD w _ _ 1 _ hle)).trans (sI w _ 0 _)).trans (mH w _ 1 0 _)).trans (mH w _ 1 1 _)).trans ((Kp.alloc _ _).trans (Kp.drew _))
 |ok y=>
  obtain⟨m,r⟩:=y;have hms:sizes m<=20000:=by have:=Rq _ _ _ _ _ _ hm;rw[YX]at this;omega
  rw[hm]at HR;simp only;have HC:=hid (fun(ao:Option Addr) (cap:Nat) (w3:World) (h:Fo (cln w3) m ao)=>fQ m ao cap w3 h hms);clear hm;by_cases hf:(Y6 m).1=0
  ·rw[ag hf];have HFZ:=hid hf;clear hf;go_enter func143,ntmps143;go_wp2_with (first
    |(go_at_call 170;refine(HC.out ao2 cap2 _ (HF.out _ (Ea w2 w1.heap.size _ _ _))).mono ?_;rintro e' w3 ⟨rfl,q3⟩;rw[HFZ.out];have hm0:=FW q3;have a0:=uT HB.out.1 hne q3;have a1:=uT HB.out.2 hne1 q3;have m0:=aar hm0;have c0:=aar a0;have f0:=YZ a0;obtain⟨d0,d1⟩:=Z6 a1;have f1:=YZ a1;have l0:=ae a0;have l1:=ae a1;have l2:=ae hm0;clear a0 a1 hm0)
    |(go_at_call 169;refine(HR.out _ _ _ _ _ w1 q1 hT).mono ?_;rintro e' w2 ⟨ao2,cap2,rfl,hH,q2⟩;obtain⟨hb0,hb1,hb2⟩:=uf q1 q2;obtain⟨g0,g1⟩:=Z6 hb2;have f2:=YZ hb2;have hl2:=ae hb2;have HB:=bC hb0 hb1;have HF:=hid (fun(w3:World) (k:Kp (fun i=>i<=w1.heap.size) w2 w3)=>Gx hH k);clear hb0 hb1 hb2 hH)
    |(go_at_call 168;refine(HS.out _ _).mono ?_;rintro e' w1 ⟨v,rfl,hT,q1⟩;obtain⟨ao,cap,rfl⟩:=hT.shape;have hne:¬w.heap.size=w1.heap.size:=(by have:=q1.size;simp at this;omega);have hne1:¬w.heap.size+1=w1.heap.size:=(by have:=q1.size;simp at this;omega)))
   have hle:w.heap.size<=w1.heap.size:=(by have:=q1.size;simp at this;omega);refine au (v:= .tuple #[.agg #[.slice ao2 m.length cap2],.agg #[.int .i64 0,.int .i64 0]]) (by simp[results,results143,go_sem,c0,d0,d1,l0,l1]) rfl ⟨ao2,cap2,rfl, ?_, ?_⟩;have hle1:w.heap.size+1<=w1.heap.size:=(by have:=q1.size;simp at this;omega);intro w9 k9;refine HF.out _ (Kp.trans ?_ (k9.mono fun i _ e=>by omega));refine((Ea w2 w1.heap.size _ _ _).trans (Kp.mono q3 fun _ _ e=>e.elim)).trans ?_;exact(((Kp.setCell (F:=fun i=>i<=w1.heap.size) _ ⟨w.heap.size,0,none⟩ _ hle).trans (Kp.setCell _ ⟨w.heap.size+1,0,none⟩ _ hle1)).trans (Kp.setCell _ ⟨w.heap.size+1,1,none⟩ _ hle1)).trans (Kp.alloc _ _);refine xZ q1 q2 ?_;refine((((qD w w2 w1.heap.size 0 _ hle).trans (qD w _ w1.heap.size 1 _ hle)).trans (Kp.alloc _ _)).trans (Kp.mono q3 fun _ _ e=>e.elim)).trans ?_;exact(((sI w _ 0 _).trans (mH w _ 1 0 _)).trans (mH w _ 1 1 _)).trans (Kp.alloc _ _)
  ·rw[af hf];have hf1:((Y6 m).1 !=0)=true:=(by simpa using hf);go_enter func143,ntmps143;go_wp2_with (first
    |(go_at_call 170;refine(HC.out ao2 cap2 _ (HF.out _ (Ea w2 w1.heap.size _ _ _))).mono ?_;rintro e' w3 ⟨rfl,q3⟩;have hm0:=FW q3;have a0:=uT HB.out.1 hne q3;have a1:=uT HB.out.2 hne1 q3;have m0:=aar hm0;have c0:=aar a0;have f0:=YZ a0;obtain⟨d0,d1⟩:=Z6 a1;have f1:=YZ a1;have l0:=ae a0;have l1:=ae a1;have l2:=ae hm0;clear a0 a1 hm0)
    |(go_at_call 169;refine(HR.out _ _ _ _ _ w1 q1 hT).mono ?_;rintro e' w2 ⟨ao2,cap2,rfl,hH,q2⟩;obtain⟨hb0,hb1,hb2⟩:=uf q1 q2;obtain⟨g0,g1⟩:=Z6 hb2;have f2:=YZ hb2;have hl2:=ae hb2;have HB:=bC hb0 hb1;have HF:=hid (fun(w3:World) (k:Kp (fun i=>i<=w1.heap.size) w2 w3)=>Gx hH k);clear hb0 hb1 hb2 hH)
    |(go_at_call 168;refine(HS.out _ _).mono ?_;rintro e' w1 ⟨v,rfl,hT,q1⟩;obtain⟨ao,cap,rfl⟩:=hT.shape;have hne:¬w.heap.size=w1.heap.size:=(by have:=q1.size;simp at this;omega);have hne1:¬w.heap.size+1=w1.heap.size:=(by have:=q1.size;simp at this;omega)))
   go_region;go_wp2;have hle:w.heap.size<=w1.heap.size:=(by have:=q1.size;simp at this;omega);refine au (v:= .tuple #[.agg #[.slice none 0 0],.agg #[.int .i64 (Y6 m).1,.int .i64 (Y6 m).2]]) (by simp[results,results143,go_sem,c0,d0,d1,l0,l1]) rfl ⟨none,0,rfl,fun _ _=>Fo.nil _ _,xZ q1 q2 ?_⟩;refine((((qD w w2 w1.heap.size 0 _ hle).trans (qD w _ w1.heap.size 1 _ hle)).trans (Kp.alloc _ _)).trans (Kp.mono q3 fun _ _ e=>e.elim)).trans ?_;exact(((sI w _ 0 _).trans (mH w _ 1 0 _)).trans (mH w _ 1 1 _)).trans ((Kp.alloc _ _).trans (Kp.drew _))
theorem aaO(l:List UInt8)(hl:l.length<=9000)(w:World)(hw:Laid w)(hd:Wds w):Calls prog 143 #[.string ⟨l.toArray⟩] w (acx w (Zd l)):=by
 unfold Zd;split;rename_i h;exact Km l hl w hw hd h;rename_i h;exact Kb l hl w hw h
theorem Mk(l:List UInt8)(h:6000<l.length)(w:World):
 Calls prog 168 #[.string ⟨l.toArray⟩] w fun e w'=>e= .returned (.tuple #[.slice none 0 0,.agg #[.int .i64 3,.int .i64 6000]])/\aA w w':=by
 have hz:=Y8 l;have h':(6000:Int)<(l.length:Int):=by omega
 clear h;go_enter func168,ntmps168;go_wp2;exact au (v:= .tuple #[.slice none 0 0,.agg #[.int .i64 3,.int .i64 6000]]) (by simp[results,results168,go_sem]) rfl ⟨rfl,Kp.alloc _ _⟩
theorem Ko(l:List UInt8)(h:6000<l.length)(w:World):Calls prog 143 #[.string ⟨l.toArray⟩] w (acx w ([],3,6000)):=by
 have HS:=hid (fun w1=>Mk l h w1);clear h;go_enter func143,ntmps143;go_wp2_with (go_at_call 168;refine(HS.out _).mono ?_;rintro e' w1 ⟨rfl,q1⟩;obtain⟨hb0,hb1⟩:=ace q1;have c0:=aar hb0;have f0:=YZ hb0;obtain⟨d0,d1⟩:=Z6 hb1;have f1:=YZ hb1;have hl0:=ae hb0;have hl1:=ae hb1;clear hb0 hb1);go_region;go_wp2;refine au (v:= .tuple #[.agg #[.slice none 0 0],.agg #[.int .i64 3,.int .i64 6000]]) (by simp[results,results143,go_sem,c0,d0,d1,hl0,hl1]) rfl ⟨none,0,rfl,fun _ _=>Fo.nil _ _,vM q1 ?_⟩;exact(((sI w _ 0 _).trans (mH w _ 1 0 _)).trans (mH w _ 1 1 _)).trans ((Kp.alloc _ _).trans (Kp.drew _))
theorem ES{l:List UInt8}(h:6000<l.length):Zd l=([],3,6000):=by
 unfold Zd scan;rw[ag h];rfl
theorem acy(l:List UInt8)(w:World)(hw:Laid w)(hd:Wds w):Calls prog 143 #[.string ⟨l.toArray⟩] w (acx w (Zd l)):=by
 by_cases h:l.length<=9000;exact aaO l h w hw hd;rw[ES (by omega)];exact Ko l (by omega) w
def Ge(N:Int)(x:Int×Int):Prop:=0<=x.1/\x.1<=99/\ -1<=x.2/\x.2<=N
def nN(N:Int)(ts:List Tk):Prop:=∀t∈ts,(t.pos:Int)<=N
def Eg{α:Type}(N:Int)(g:ZX α):Prop:=(∀x,g= .error x->Ge N x)/\∀a r,g= .ok (a,r)->nN N r
section
variable{N e:Int}{ts:List Tk}
theorem sD{α:Type}(a:α){r:List Tk}(h:nN N r):Eg N (.ok (a,r):ZX α):=⟨fun x e=>(by cases e),fun a r e=>(by cases e;exact h)⟩
theorem tN{α:Type}{x:Int×Int}(h:Ge N x):Eg N (.error x:ZX α):=⟨fun y e=>(by cases e;exact h),fun a r e=>(by cases e)⟩
theorem lN{α β:Type}{g:ZX α}{f:α->List Tk->ZX β}(h:Eg N g)(hf:∀a r,nN N r->Eg N (f a r)):Eg N (andThen g f):=by
 unfold andThen;cases g with
 |error x=>exact tN (h.1 x rfl)
 |ok x=>exact hf _ _ (h.2 x.1 x.2 rfl)
theorem GR{c:Int}{t:Tk}(hc:0<=c/\c<=99)(h:(t.pos:Int)<=N):Ge N (c,(t.pos:Int)):=⟨hc.1,hc.2,by simp only;omega,h⟩
theorem wO{β:Type}{f:Tk->List Tk->ZX β}(he:0<=e/\e<=N)(h:nN N ts)(hf:∀t r,(t.pos:Int)<=N->nN N r->Eg N (f t r)):Eg N (andThen (pg e ts) f):=by
 cases ts with
 |nil=>exact tN ⟨by simp,by simp,by simp only;omega,he.2⟩
 |cons t ts=>exact hf _ _ (h _ (by simp)) fun u hu=>h u (by simp[hu])
theorem D6(he:0<=e/\e<=N)(s:List UInt8)(h:nN N ts):Eg N (kG e s ts):=wO he h fun t r ht hr=>by
 split;exact sD _ hr;exact tN (GR (by decide) ht)
theorem Q7(he:0<=e/\e<=N)(L:List (List UInt8))(h:nN N ts):Eg N (rV L e ts):=wO he h fun t r ht hr=>by
 split;exact tN (GR (by decide) ht);exact sD _ hr
theorem yX{β:Type}{f:Tk->List Tk->ZX β}(he:0<=e/\e<=N)(h:nN N ts)(hf:∀t r,(t.pos:Int)<=N->nN N r->Eg N (f t r)):Eg N (andThen (pJ e ts) f):=by
 cases ts with
 |nil=>exact tN ⟨by simp,by simp,by simp only;omega,he.2⟩
 |cons t ts=>
  have ht:=h t (by simp);simp only[pJ,pg,andThen];split
  ·rename_i e1;split at e1<;>cases e1;exact tN (GR (by decide) ht)
  ·rename_i e1;split at e1<;>cases e1;exact hf _ _ ht fun u hu=>h u (by simp[hu])
theorem Vy(he:0<=e/\e<=N)(kd:Int)(h:nN N ts):Eg N (kM e kd ts):=by
 unfold kM;repeat' split
 ·exact yX he h fun t r ht hr=>sD _ hr
 ·refine lN (yX he h fun t r ht hr=> ?_) fun a r hr=>sD _ hr;split;exact tN (GR (by decide) ht);exact sD _ hr
 ·exact lN (Q7 he _ h) fun a r hr=>sD _ hr
 ·exact sD _ h
theorem UX(he:0<=e/\e<=N):∀(f:Nat)(ts:List Tk),nN N ts->Eg N (jT e f ts):=by
 intro f;induction f with
 |zero=>
  intro ts h;refine tN ?_;cases ts with
  |nil=>exact⟨by simp,by simp,by simp only[atT];omega,he.2⟩
  |cons t ts=>exact GR (by decide) (h t (by simp))
 |succ f ih=>
  intro ts h;have hm:∀(n:Nat)(acc:List V)(r:List Tk),nN N r->Eg N (qb (jT e f) n acc r):=by
   intro n;induction n with
   |zero=>intro acc r hr;exact sD _ hr
   |succ n ihn=>intro acc r hr;exact lN (ih r hr) fun v r hr=>ihn _ _ hr
  exact lN (D6 he _ h) fun _ r hr=>lN (lN (Q7 he _ hr) fun kd r hr=>lN (Vy he kd hr) fun x r hr=>sD _ hr) fun x r hr=>lN (hm _ _ _ hr) fun l r hr=>lN (D6 he _ hr) fun _ r hr=>sD _ hr
theorem VQ(he:0<=e/\e<=N):∀(f:Nat)(acc:List V)(ts:List Tk),nN N ts->Eg N (vF e f acc ts):=by
 intro f;induction f with
 |zero=>intro acc ts h;exact sD _ h
 |succ f ih=>
  intro acc ts h;cases ts with
  |nil=>exact sD _ h
  |cons t r=>rw[vF];exact lN (D6 he _ h) fun _ r hr=>lN (UX he 31 r hr) fun v r hr=>ih _ _ hr
end
theorem V8(F:Int)(v:V):∀o,0<=v.bad F o/\v.bad F o<=99:=by
 have h1:∀(v:V)(o:Int),0<=YW F v o/\YW F v o<=99:=fun v o=>by
  have hk:0<=Y7 F v.kind v.k o/\Y7 F v.kind v.k o<=99:=by
   unfold Y7;repeat' split
   all_goals simp
  unfold YW;repeat' split
  all_goals first
   |exact hk
   |simp
 induction v using V.aan with
 |h v ih=>
  have key:∀(l:List V),(∀x∈l,∀o,0<=x.bad F o/\x.bad F o<=99)->∀i o,0<=Z5 F v.kind l i o/\Z5 F v.kind l i o<=99:=by
   intro l;induction l with
   |nil=>intro _ i o;rw[GD];simp
   |cons x l ihl=>
    intro hx i o;rw[uU];split;exact ihl (fun y hy=>hx y (by simp[hy])) _ _;exact hx x (by simp) _
  intro o;rw[Ke];split;exact key v.l (fun x hx=>ih x hx) _ _;exact h1 v o
theorem Uz(F:Int)(l:List V):∀i,(0<=(ZR F l i).1/\(ZR F l i).1<=99)/\ -1<=(ZR F l i).2/\(ZR F l i).2<=i+l.length:=by
 have h1:∀v:V,0<=pK F v/\pK F v<=99:=fun v=>by
  unfold pK;repeat' split
  ·simp
  ·simp
  ·exact V8 F v 0
 induction l with
 |nil=>intro i;simp[ZR]
 |cons x l ih=>
  intro i;rw[ZR];split;have:=ih (i+1);simp only[aL];omega;refine⟨h1 x, ?_⟩;simp only[aL];omega
theorem U5(l:List UInt8):∀(f i:Nat)(acc:List Tk),i<=l.length->nN l.length acc->Ge l.length (jK l f i acc).2/\nN l.length (jK l f i acc).1:=by
 intro f;induction f with
 |zero=>intro i acc _ h;exact⟨⟨by simp[jK],by simp[jK],by simp[jK],by simp[jK]⟩,h⟩
 |succ f ih=>
  intro i acc hi h;rw[jK];split
  ·rename_i hs;cases e:kK l (gF gI l i)with
   |none=>exact⟨⟨by simp,by simp,by simp only;omega,by simp only;omega⟩,fun t ht=>by cases ht⟩
   |some t=>
    obtain⟨h1,h2,_,h4⟩:=kU e;refine ih _ _ h4 fun u hu=> ?_;rcases aK.1 hu with hu|hu
    ·exact h u hu
    ·simp at hu;subst hu;rw[h2];omega
  ·exact⟨⟨by simp,by simp,by simp,by simp⟩,h⟩
theorem acz(l:List UInt8)(hl:l.length<=20000):Ge 20010 (Zd l).2:=by
 have hs:Ge 20000 (scan l).2/\nN l.length (scan l).1:=by
  unfold scan;split;exact⟨⟨by simp,by simp,by simp,by simp⟩,fun t ht=>by cases ht⟩;obtain⟨⟨a,b,c,d⟩,h⟩:=U5 l (l.length+1) 0 [] (aP _) (fun t ht=>by cases ht);exact⟨⟨a,b,c,by unfold gY;omega⟩,h⟩
 unfold Zd;split
 ·have h:=VQ (N:=l.length) (e:=l.length) ⟨by omega,by omega⟩ ((scan l).1.length+1) [] _ hs.2;unfold o6;cases e:gU (l.length:Int) [] (scan l).1 with
  |error x=>
   obtain⟨a,b,c,d⟩:=h.1 x e;exact⟨a,b,c,by simp only;omega⟩
  |ok x=>
   simp only;split;exact⟨by simp,by simp,by simp,by simp⟩
   ·unfold Y6;split;exact⟨by simp,by simp,by simp,by simp⟩;rename_i h6;have:=Uz (x.1.length:Int) x.1 0;exact⟨this.1.1,this.1.2,this.2.1,by have:=this.2.2;simp only;omega⟩
 ·obtain⟨⟨a,b,c,d⟩,_⟩:=hs;exact⟨a,b,c,by simp only;omega⟩
def Qs{H:Type}(d:DataW H)(v:Value):Prop:=∃s:ByteArray,v= .string s/\d= .lit (.string s.data.toList)
theorem I9{H:Type}{enc:TypeId×Value->H}{P:Program}{w:World}{base:Nat}{sp:Nat->Bool}{held:Bool}{fuel:Nat}{t e:TypeId}{n:Nat}{cs:List Value}{ds:List (DataW H)}{p:List MemPlace}
 (ht:P.underlying t=some (.array n e)) (he:P.underlying e=some .string) (hce:P.cellsOf e=1) (hct:P.cellsOf t=n)
 (h:DataW.trod enc P w base sp held fuel t cs=some (.agg ds,p)):cs.length=n/\ds.length=n/\∀i,i<n->∃d v,ds[i]?=some d/\cs[i]?=some v/\Qs d v:=by
 rcases fuel with _|fuel;simp[DataW.trod]at h;simp only[DataW.trod,ht,hce,hct,Nat.mul_one]at h;by_cases hl:cs.length=n
 ·rw[ag hl,dF]at h;obtain⟨xs,hm,hx⟩:=h;have hd:ds=xs.map (·.1):=by
   simp only[df,DataW.agg.injEq]at hx;exact hx.1.symm
  have hn:xs.length=n:=(Lib.mapM_length hm).trans (by simp);refine⟨hl,by rw[hd,bE];exact hn,fun i hi=> ?_⟩;have hr:(List.range n)[i]?=some i:=by simp[hi]
  obtain⟨y,hy,hf⟩:=Lib.mapM_at hm i i hr;obtain⟨s,hs,hys,_⟩:=DataW.trod_string he hf;refine⟨y.1,.string s,by rw[hd,fe,hy];rfl, ?_,s,rfl,by rw[hys]⟩;have:=aC List.head? hs;rw[List.head?_take,af (by decide),List.head?_drop]at this;exact this
 ·rw[af hl]at h;cases h
theorem aam{H:Type}{enc:TypeId×Value->H}{P:Program}{w:World}{base:Nat}{sp:Nat->Bool}{held:Bool}{fuel:Nat}{t e:TypeId}{n:Nat}{cs:List Value}{zs:List (List UInt8)}{p:List MemPlace}
 (ht:P.underlying t=some (.array n e)) (he:P.underlying e=some .string) (hce:P.cellsOf e=1) (hct:P.cellsOf t=n)
 (h:DataW.trod enc P w base sp held fuel t cs=some (.agg (zs.map fun z=> .lit (.string z)),p)):cs=ER zs:=by
 obtain⟨h1,h2,h3⟩:=I9 ht he hce hct h;rw[bE]at h2;refine List.ext_getElem (by rw[h1,ER,bE,h2]) fun i hi _=> ?_;obtain⟨d,v,hd,hv,s,rfl,rfl⟩:=h3 i (by omega);rw[fe,aQ (by omega),Option.map_some]at hd;rw[aQ hi]at hv;simp only[aT,DataW.lit.injEq,Lit.string.injEq]at hd hv;rw[hv];simp only[ER,List.getElem_map,hd]
