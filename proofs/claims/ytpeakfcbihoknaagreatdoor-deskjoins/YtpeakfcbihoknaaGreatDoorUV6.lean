/- Parts. -/
import Derived.Test.YtpeakfcbihoknaaGreatDoorUV5
import Derived.Test.YtpeakfcbihoknaaGreatDoorUE5
import Derived.Carry
open Go.ChangeShapes Go.WideShapes Go.ChangeAt Go.RowKit
set_option maxRecDepth 8000
set_option maxHeartbeats 4000000
namespace Go.Proofs.YtpeakfcbihoknaaGreatDoor
open Proofs.Tryz
namespace Dk
def isF(c:UInt8):Bool:=c==82||c==80||c==81||c==75||c==72||c==71||c==78
theorem Jl{w:World}{b o:Nat}{cs:Array Value}{t:TypeId}(h:w.heap[b]?=some (.cells cs t (0,0)))(v:Value):(w.setCell ⟨b,o,none⟩ v).heap[b]?=some (.cells (cs.setIfInBounds o v) t (0,0)):=by
 simp[World.setCell,aR,h]
theorem rH{w:World}{b:Nat}{x:Sx}(h:w.heap[b]?=some (.cells x.vals 98 (0,0))):(∀j,j<9->w.cell? ⟨b,j,none⟩=x.vals[j]?)/\∀j,w.frozen? ⟨b,j,none⟩=false:=
 ⟨fun j _=>by simp[World.cell?,h],fun j=>aG w b j _ _ h⟩
theorem TB(xb:Nat)(x:Sx)(c:UInt8)(hc:isF c=true)(t:List UInt8)(ht:t.length<=20000)(w:World)(hw:Ex.Laid w)(hb:w.heap[xb]?=some (.cells x.vals 98 (0,0))):
 Calls prog 74 #[.pointer (some ⟨xb,0,none⟩),.int .u8 c.toNat,.string ⟨t.toArray⟩] w fun e w'=>e= .returned (.bool (nQ x c.toNat t).2)/\w'.heap[xb]?=some (.cells (nQ x c.toNat t).1.vals 98 (0,0))/\Kp (fun k=>k=xb) w w':=by
 have hl:=ae hb;obtain⟨hcell,hfz⟩:=rH hb;have HB:=hid hb;have HP:=hid (Rt.aaO t (by omega) w);have HN:=hid (Hz t ht w hw);have HF:=hid (show∀(j:Nat) (w1:World),j<9->aA w w1->(∃v,w1.cell? ⟨xb,j,none⟩=some v)/\w1.frozen? ⟨xb,j,none⟩=false/\xb<w1.heap.size from fun j w1 hj q=>by
  have h1:=(q.block _ hl fun e=>e).trans hb;exact⟨⟨x.vals[j]'(by simp[Sx.vals];omega),by rw[(rH h1).1 j hj];exact Array.getElem?_eq_getElem _⟩,(rH h1).2 j,ae h1⟩)
 clear hb hcell hfz;by_cases h82:c=82
 ·subst h82;have E:=hid (show nQ x ((82:UInt8).toNat:Nat) t=({x with r:=((Rt.Zu t).1:Int)},(Rt.Zu t).2)from rfl);rw[E.out];generalize Rt.Zu t=pr at*;obtain⟨⟨v5,g5⟩,f5,_⟩:=HF.out 5 w (by decide) (Kp.refl _ _);go_enter func74,ntmps74;go_wp2_with (go_at_call 120;refine HP.out.mono ?_;rintro e w1 ⟨rfl,h1⟩;subst h1);go_ret;exact⟨rfl,(Jl HB.out _).trans rfl,bF _ _ _ _⟩
 ·have h6:c=80\/c=81\/c=75\/c=72\/c=71\/c=78:=by
   simp only[isF,Bool.or_eq_true,beq_iff_eq]at hc;rcases hc with((((((e|e)|e)|e)|e)|e)|e)<;>simp_all
  clear HP hc h82;rcases h6 with rfl|rfl|rfl|rfl|rfl|rfl
  ·have E:=hid (show nQ x ((80:UInt8).toNat:Nat) t=({x with p:=(Ex.Za t).getD 0},(Ex.Za t).isSome)from rfl);rw[E.out];generalize(Ex.Za t).getD 0=n at*;generalize(Ex.Za t).isSome=b at*;go_enter func74,ntmps74;go_wp2_with (go_at_call 121;refine HN.out.mono ?_;rintro e w1 ⟨rfl,q1⟩;obtain⟨⟨v5,g5⟩,f5,l5⟩:=HF.out 1 w1 (by decide) q1);go_ret;exact⟨rfl,(Jl ((q1.block _ hl fun e=>e).trans HB.out) _).trans rfl,(q1.mono fun _ _ e=>e.elim).trans (bF _ _ _ _)⟩
  ·have E:=hid (show nQ x ((81:UInt8).toNat:Nat) t=({x with q:=(Ex.Za t).getD 0},(Ex.Za t).isSome)from rfl);rw[E.out];generalize(Ex.Za t).getD 0=n at*;generalize(Ex.Za t).isSome=b at*;go_enter func74,ntmps74;go_wp2_with (go_at_call 121;refine HN.out.mono ?_;rintro e w1 ⟨rfl,q1⟩;obtain⟨⟨v5,g5⟩,f5,l5⟩:=HF.out 2 w1 (by decide) q1);go_ret;exact⟨rfl,(Jl ((q1.block _ hl fun e=>e).trans HB.out) _).trans rfl,(q1.mono fun _ _ e=>e.elim).trans (bF _ _ _ _)⟩
  ·have E:=hid (show nQ x ((75:UInt8).toNat:Nat) t=({x with k:=(Ex.Za t).getD 0},(Ex.Za t).isSome)from rfl);rw[E.out];generalize(Ex.Za t).getD 0=n at*;generalize(Ex.Za t).isSome=b at*;go_enter func74,ntmps74;go_wp2_with (go_at_call 121;refine HN.out.mono ?_;rintro e w1 ⟨rfl,q1⟩;obtain⟨⟨v5,g5⟩,f5,l5⟩:=HF.out 3 w1 (by decide) q1);go_ret;exact⟨rfl,(Jl ((q1.block _ hl fun e=>e).trans HB.out) _).trans rfl,(q1.mono fun _ _ e=>e.elim).trans (bF _ _ _ _)⟩
  ·have E:=hid (show nQ x ((72:UInt8).toNat:Nat) t=({x with h:=(Ex.Za t).getD 0},(Ex.Za t).isSome)from rfl);rw[E.out];generalize(Ex.Za t).getD 0=n at*;generalize(Ex.Za t).isSome=b at*;go_enter func74,ntmps74;go_wp2_with (go_at_call 121;refine HN.out.mono ?_;rintro e w1 ⟨rfl,q1⟩;obtain⟨⟨v5,g5⟩,f5,l5⟩:=HF.out 4 w1 (by decide) q1);go_ret;exact⟨rfl,(Jl ((q1.block _ hl fun e=>e).trans HB.out) _).trans rfl,(q1.mono fun _ _ e=>e.elim).trans (bF _ _ _ _)⟩
  ·have E:=hid (show nQ x ((71:UInt8).toNat:Nat) t=({x with g:=(Ex.Za t).getD 0},(Ex.Za t).isSome)from rfl);rw[E.out];generalize(Ex.Za t).getD 0=n at*;generalize(Ex.Za t).isSome=b at*;go_enter func74,ntmps74;go_wp2_with (go_at_call 121;refine HN.out.mono ?_;rintro e w1 ⟨rfl,q1⟩;obtain⟨⟨v5,g5⟩,f5,l5⟩:=HF.out 6 w1 (by decide) q1);go_ret;exact⟨rfl,(Jl ((q1.block _ hl fun e=>e).trans HB.out) _).trans rfl,(q1.mono fun _ _ e=>e.elim).trans (bF _ _ _ _)⟩
  ·have E:=hid (show nQ x ((78:UInt8).toNat:Nat) t=({x with n:=(Ex.Za t).getD 0},(Ex.Za t).isSome)from rfl);rw[E.out];generalize(Ex.Za t).getD 0=n at*;generalize(Ex.Za t).isSome=b at*;go_enter func74,ntmps74;go_wp2_with (go_at_call 121;refine HN.out.mono ?_;rintro e w1 ⟨rfl,q1⟩;obtain⟨⟨v5,g5⟩,f5,l5⟩:=HF.out 7 w1 (by decide) q1);go_ret;exact⟨rfl,(Jl ((q1.block _ hl fun e=>e).trans HB.out) _).trans rfl,(q1.mono fun _ _ e=>e.elim).trans (bF _ _ _ _)⟩
def P5(r:List UInt8×List UInt8):Prop:=r.2.length<=5/\∀c∈r.2,isF c=true
theorem TY:∀r∈qL,P5 r:=by
 have h:∀r∈qL,(decide (r.2.length<=5)&&r.2.all isF)=true:=by decide
 intro r hr;have:=h r hr;simp only[Bool.and_eq_true,decide_eq_true_eq,List.all_eq_true]at this;exact this
theorem CK(x:Sx)(ts:List (List UInt8)):qi [] ts x=some x:=by cases ts<;>rfl
def OG(r:List UInt8×List UInt8)(fn:Value):Array Value:= #[.string ⟨r.1.toArray⟩,.string ⟨r.2.toArray⟩,fn]
theorem Fs{w:World}{b:Nat}{x y z:Value}{t:TypeId}(h:w.heap[b]?=some (.cells #[x,y,z] t (0,0))):w.cell? ⟨b,0,none⟩=some x/\w.cell? ⟨b,1,none⟩=some y/\w.cell? ⟨b,2,none⟩=some z:=by
 refine⟨?_, ?_, ?_⟩<;>simp[World.cell?,h]
def QW(w:World)(b:Nat)(x:Sx):World:=((((((((w.setCell ⟨b,0,none⟩ (.int .i64 x.kind)).setCell ⟨b,1,none⟩ (.int .i64 x.p)).setCell ⟨b,2,none⟩ (.int .i64 x.q)).setCell ⟨b,3,none⟩ (.int .i64 x.k)).setCell ⟨b,4,none⟩ (.int .i64 x.h)).setCell ⟨b,5,none⟩ (.int .i64 x.r)).setCell ⟨b,6,none⟩ (.int .i64 x.g)).setCell ⟨b,7,none⟩ (.int .i64 x.n)).setCell ⟨b,8,none⟩ (.slice x.fa x.fs.length x.fc)
theorem PV(w:World)(b:Nat)(x:Sx):Kp (fun k=>k=b) w (QW w b x):=
 ((((((((bF w b _ _).trans (bF _ b _ _)).trans (bF _ b _ _)).trans (bF _ b _ _)).trans (bF _ b _ _)).trans (bF _ b _ _)).trans (bF _ b _ _)).trans (bF _ b _ _)).trans (bF _ b _ _)
theorem KT{w:World}{b:Nat}{y:Sx}(x:Sx)(h:w.heap[b]?=some (.cells y.vals 98 (0,0))):(QW w b x).heap[b]?=some (.cells x.vals 98 (0,0)):=by
 simp[QW,Sx.vals,World.setCell,aR,h]
theorem je{w:World}{b:Nat}{x:Sx}(h:w.heap[b]?=some (.cells x.vals 98 (0,0))):(w.cell? ⟨b,0,none⟩=some (.int .i64 x.kind)/\w.cell? ⟨b,1,none⟩=some (.int .i64 x.p)/\w.cell? ⟨b,2,none⟩=some (.int .i64 x.q)/\w.cell? ⟨b,3,none⟩=some (.int .i64 x.k)/\w.cell? ⟨b,4,none⟩=some (.int .i64 x.h)/\w.cell? ⟨b,5,none⟩=some (.int .i64 x.r)/\w.cell? ⟨b,6,none⟩=some (.int .i64 x.g)/\w.cell? ⟨b,7,none⟩=some (.int .i64 x.n)/\w.cell? ⟨b,8,none⟩=some (.slice x.fa x.fs.length x.fc))/\∀j,w.frozen? ⟨b,j,none⟩=false:=by
 obtain⟨hc,hf⟩:=rH h;exact⟨⟨hc 0 (by decide),hc 1 (by decide),hc 2 (by decide),hc 3 (by decide),hc 4 (by decide),hc 5 (by decide),hc 6 (by decide),hc 7 (by decide),hc 8 (by decide)⟩,hf⟩
structure RdS(w:World)(r:List UInt8×List UInt8)(fn:Value)(x:Sx)(W:World):Prop where
 q:aA w W
 b0:W.heap[w.heap.size]?=some (.cells (OG r fn) 114 (0,0))
 b1:W.heap[w.heap.size+1]?=some (.cells x00.vals 98 (0,0))
 b2:W.heap[w.heap.size+1+1]?=some (.cells x.vals 98 (0,0))
theorem RdS.start(w:World)(r:List UInt8×List UInt8)(fn:Value):RdS w r fn x00 (((w.alloc (.cells (OG r fn) 114)).alloc (.cells x00.vals 98)).alloc (.cells x00.vals 98)):=by
 obtain⟨b0,b1,b2⟩:=jk w (.cells (OG r fn) 114) (.cells x00.vals 98) (.cells x00.vals 98);exact⟨((Kp.alloc _ _).trans (Kp.alloc _ _)).trans (Kp.alloc _ _),b0,b1,b2⟩
theorem RdS.next{w W W2:World}{r:List UInt8×List UInt8}{fn:Value}{x y:Sx}(h:RdS w r fn x W)(k:Kp (fun k=>k=w.heap.size+1+1) W W2)(hb:W2.heap[w.heap.size+1+1]?=some (.cells y.vals 98 (0,0))):RdS w r fn y W2:=
 ⟨h.q.fresh (k.mono fun i _ e=>by omega),(k.block _ (ae h.b0) (by omega)).trans h.b0,(k.block _ (ae h.b1) (by omega)).trans h.b1,hb⟩
def QY(o:Option Sx)(w:World)(e:Ending)(w':World):Prop:=e= .returned (.tuple #[.agg (o.getD x00).vals,.bool o.isSome])/\aA w w'
theorem aag(r:List UInt8×List UInt8)(fn:Value)(hr:P5 r)(first:List UInt8)(others:List (List UInt8))(ao:Option Addr)(cap:Nat)(hol:∀t∈others,t.length<=20000)(w:World)(hw:Ex.Laid w)(ha:fF w others ao):
 Calls prog 44 #[.agg (OG r fn),.string ⟨first.toArray⟩,.slice ao others.length cap] w (QY (o9 r first others) w):=by
 obtain⟨rw,rf⟩:=r;have hz:=Ex.Y8 rf;have HR:=hid hr;unfold OG QY;simp only;by_cases h1:first=rw
 ·by_cases h2:others.length=rf.length
  ·have E:=hid (show o9 (rw,rf) first others=qi rf others x00 by unfold o9;rw[ag ⟨h1,h2⟩]);have HA:=bC ha hol;have HL:=hid h2;subst h1;have h5:rf.length<=5:=hr.1;rw[h2];clear ha hol h2 hr;have HS:=hid (RdS.start w (first,rf) fn);go_enter func44,ntmps44;go_wp2;go_loopw [26] (fun i wr=>∃(k:Nat) (x:Sx),i= .int .i64 k/\k<=rf.length/\Hid (RdS w (first,rf) fn x wr)/\Hid (qi rf others x00=qi (rf.drop k) (others.drop k) x)) (fun i _=>rf.length-(intOf i).toNat);case atStart=>exact⟨0,x00,rfl,aP _,HS,hid rfl⟩
   case round=>
    rename World=>wr;obtain⟨k,x,rfl,hk,D,HF⟩:=hrel;clear HS;obtain⟨r0,r1,r2⟩:=Fs D.out.b0;have l1:=ae D.out.b1;have l2:=ae D.out.b2;by_cases hlt:k<rf.length
    ·have hsz:k<(ByteArray.mk rf.toArray).size:=(by omega);obtain⟨b,off,hao,hc⟩:=(HA.out.1.quiet D.out.q) k (by have:=HL.out;omega);subst hao;have hDr:Hid (rf.drop k=(ByteArray.mk rf.toArray)[k]::rf.drop (k+1)):=bO hlt;have hDo:=hid (bO (l:=others) (i:=k) (by have:=HL.out;omega));have HC:=hid (TB (w.heap.size+1+1) x (ByteArray.mk rf.toArray)[k] (HR.out.2 _ (aI hlt)) (others[k]'(by have:=HL.out;omega)) (HA.out.2 _ (aI _)) wr (hw.quiet D.out.q) D.out.b2);have HN:=hid (show qi (rf.drop k) (others.drop k) x=if(nQ x (ByteArray.mk rf.toArray)[k].toNat (others[k]'(by have:=HL.out;omega))).2 then qi (rf.drop (k+1)) (others.drop (k+1)) (nQ x (ByteArray.mk rf.toArray)[k].toNat (others[k]'(by have:=HL.out;omega))).1 else none by rw[hDr.out,hDo.out];rfl);clear hDr hDo;generalize others[k]'(by have:=HL.out;omega)=t at*;generalize nQ x (ByteArray.mk rf.toArray)[k].toNat t=fr at*;obtain⟨y,b1⟩:=fr;simp only at HC HN;cases b1 with
     |true=>
      go_wp2_with (go_at_call 74;refine HC.out.mono ?_;rintro e w2 ⟨rfl,hb2,k2⟩;have H2:=hid (D.out.next k2 hb2);clear hb2 k2);exact⟨⟨k+1,y,by go_num,by omega,H2,hid (by rw[HF.out,HN.out];rfl)⟩,by simp[intOf];omega⟩
     |false=>
      have E2:=hid (show o9 (first,rf) first others=none by rw[E.out,HF.out,HN.out];rfl);go_wp2_with (go_at_call 74;refine HC.out.mono ?_;rintro e w2 ⟨rfl,hb2,k2⟩;have H2:=hid (D.out.next k2 hb2);clear hb2 k2;have hl2:=ae H2.out.b1;obtain⟨⟨c0,c1,c2,c3,c4,c5,c6,c7,c8⟩,cf⟩:=je H2.out.b1;simp only[x00]at c0 c1 c2 c3 c4 c5 c6 c7 c8;have f0:=cf 0;have f1:=cf 1;have f2:=cf 2;have f3:=cf 3;have f4:=cf 4;have f5:=cf 5;have f6:=cf 6;have f7:=cf 7;have f8:=cf 8;clear cf);show bodyPost _ _ _ _ _ (QW w2 (w.heap.size+1) x00);have hp:=KT x00 H2.out.b1;obtain⟨⟨d0,d1,d2,d3,d4,d5,d6,d7,d8⟩,_⟩:=je hp;exact au (v:= .tuple #[.agg x00.vals,.bool false]) (by simp[results,results44,go_sem,d0,d1,d2,d3,d4,d5,d6,d7,d8,Sx.vals]) rfl ⟨by rw[E2.out];rfl,H2.out.q.fresh ((PV _ _ _).mono fun i _ e=>by omega)⟩
    ·obtain rfl:k=rf.length:=(by omega);have E2:=hid (show o9 (first,rf) first others=some x by rw[E.out,HF.out,List.drop_length,CK]);obtain⟨⟨c0,c1,c2,c3,c4,c5,c6,c7,c8⟩,cf⟩:=je D.out.b1;simp only[x00]at c0 c1 c2 c3 c4 c5 c6 c7 c8;have f0:=cf 0;have f1:=cf 1;have f2:=cf 2;have f3:=cf 3;have f4:=cf 4;have f5:=cf 5;have f6:=cf 6;have f7:=cf 7;have f8:=cf 8;obtain⟨⟨e0,e1,e2,e3,e4,e5,e6,e7,e8⟩,_⟩:=je D.out.b2;clear cf;go_wp2;show bodyPost _ _ _ _ _ (QW wr (w.heap.size+1) x);have hp:=KT x D.out.b1;obtain⟨⟨d0,d1,d2,d3,d4,d5,d6,d7,d8⟩,_⟩:=je hp;exact au (v:= .tuple #[.agg x.vals,.bool true]) (by simp[results,results44,go_sem,d0,d1,d2,d3,d4,d5,d6,d7,d8,Sx.vals]) rfl ⟨by rw[E2.out];rfl,D.out.q.fresh ((PV _ _ _).mono fun i _ e=>by omega)⟩
  ·have E2:=hid (show o9 (rw,rf) first others=none by unfold o9;rw[af fun e=>h2 e.2]);subst h1;have h2':((others.length:Int)==(rf.length:Int))=false:=(by simpa using(by omega:¬(others.length:Int)=rf.length));have aik:((others.length:Int) !=(rf.length:Int))=true:=(by simpa using(by omega:¬(others.length:Int)=rf.length));clear hr h2 ha hol;go_enter func44,ntmps44;go_wp2;exact au (v:= .tuple #[.agg x00.vals,.bool false]) (by simp[results,results44,go_sem,x00,Sx.vals]) rfl ⟨by rw[E2.out];rfl,((Kp.alloc _ _).trans (Kp.alloc _ _)).trans (Kp.alloc _ _)⟩
 ·have E2:=hid (show o9 (rw,rf) first others=none by unfold o9;rw[af fun e=>h1 e.1]);have hb:(first==rw)=false:=by simpa using h1
  clear hr h1 ha hol;go_enter func44,ntmps44;go_wp2;exact au (v:= .tuple #[.agg x00.vals,.bool false]) (by simp[results,results44,go_sem,x00,Sx.vals]) rfl ⟨by rw[E2.out];rfl,((Kp.alloc _ _).trans (Kp.alloc _ _)).trans (Kp.alloc _ _)⟩
end Dk
open Gr (Nd ZH nd0 YT mf aS dJ bJ dV mV fO Zx funcOf bS Y0 bN eX YS Wf jg GS fJ)
structure Yv(w:World)(x:Sx):Prop where
 fit:x.Fit
 fo:Ex.Fo (Ex.thw w) x.fs x.fa
def Uo(w:World)(xs:List Sx)(sa:Option Addr):Prop:=∀i (h:i<xs.length),∃b off,sa=some ⟨b,off,none⟩/\(∀j,j<9->w.cell? ⟨b,off+i*9+j,none⟩=xs[i].vals[j]?)/\Yv w xs[i]
def hvC(h:Hs)(ha:Nat->Option Addr×Nat)(p i:Nat):Value:=if i<p then .slice (ha i).1 (fC h i).length (ha i).2 else .slice none 0 0
def Wt(h:Hs)(ha:Nat->Option Addr×Nat)(p:Nat):List Value:=[hvC h ha p 0,hvC h ha p 1,hvC h ha p 2,hvC h ha p 3]
def kvC(h:Hs)(ka:Nat->Option Addr×Nat)(p i:Nat):List Value:=if i<p then[.int .i64 (fH h i).kind,.int .i64 (fH h i).n,.slice (ka i).1 (fH h i).l.length (ka i).2]else[.int .i64 0,.int .i64 0,.slice none 0 0]
def Wx(h:Hs)(ka:Nat->Option Addr×Nat)(p:Nat):List Value:=kvC h ka p 0++(kvC h ka p 1++(kvC h ka p 2++kvC h ka p 3))
structure YP(X:Nat->Prop)(M:Hx)(q:Hq)(h:Hs)(hk kk p:Nat)(ha ka:Nat->Option Addr×Nat)(w:World):Prop where
 hands:w.heap[hk]?=some (.cells (Wt h ha p).toArray 73 (0,0))
 ahh:w.heap[kk]?=some (.cells (Wx h ka p).toArray 72 (0,0))
 fo:∀i:Nat,i<p->bu (fun k=>jC M q k\/X k) (fun w=>Fo w (fC h i) (ha i).1) w
 is:∀i:Nat,i<p->bu (fun k=>jC M q k\/X k) (fun w=>Is w (fH h i) (ka i).1) w
def upd(f:Nat->Option Addr×Nat)(p:Nat)(x:Option Addr×Nat):Nat->Option Addr×Nat:=fun i=>if i=p then x else f i
theorem oG{w:World}{b:Nat}{L:List Value}{t:TypeId}(h:w.heap[b]?=some (.cells L.toArray t (0,0)))(k:Nat)(x:Value):(w.setCell ⟨b,k,none⟩ x).heap[b]?=some (.cells (L.set k x).toArray t (0,0)):=by
 simp[World.setCell,aR,h]
section
variable{M:Hx}{q q':Hq}{h h':Hs}{hk kk p:Nat}{ha ka:Nat->Option Addr×Nat}{w w' w6:World}{X:Nat->Prop}
def YR(w:World)(hk kk p:Nat)(h:Hs)(a b:Option Addr)(c d:Nat):World:=(((w.setCell ⟨hk,p,none⟩ (.slice a (fC h p).length c)).setCell ⟨kk,p*3,none⟩ (.int .i64 (fH h p).kind)).setCell ⟨kk,p*3+1,none⟩ (.int .i64 (fH h p).n)).setCell ⟨kk,p*3+2,none⟩ (.slice b (fH h p).l.length d)
end
section
variable{M:Hx}{q q':Hq}{h h':Hs}{w w' W w4:World}{X:Nat->Prop}{Y4 Y3 Z4:Value}{ms':fA}{s':Sg}
theorem bH.abh(H:bH X M q h w):¬gX M.bb M.g M.wd q.n q.o q.l M.hb/\∀p,p<4->∀k,(Value.slice (q.r p).1 0 0).ownBlock=some k->¬gX M.bb M.g M.wd q.n q.o q.l k/\k≠M.hb:=by
 obtain⟨a,b,c,d,hb⟩:=H.box.is;refine⟨hb.free H.obj (by decide) (by decide) (by decide) (by decide) (by decide) (by decide),fun p hp k hk=> ?_⟩;obtain⟨cs,hc⟩:=Bl (H.row p hp) ((iQ _ _ _ _ _).trans hk);exact⟨hb.free hc (by decide) (by decide) (by decide) (by decide) (by decide) (by decide),fun e=>by rw[e,H.obj]at hc;simp at hc⟩
theorem bH.acS(H:bH X M q h w)(g:kF M.bb M.g M.wd q.n q.o q.l w Y4 Y3 Z4 w')(hb:lX (fun k=>wH M q k\/X k) M.B w' M.bb M.g M.wd Y4 Y3 Z4 ms' s')(ok:HOk ⟨s',ms',h.hs⟩)(fit:Db ms')(ci:∀c∈s'.cs,dH c):
 bH X M ⟨Y4,Y3,Z4,q.r⟩ ⟨s',ms',h.hs⟩ w'/\fZ M q w ⟨Y4,Y3,Z4,q.r⟩ w':=by
 have G:fZ M q w ⟨Y4,Y3,Z4,q.r⟩ w':=⟨g.kp.mono fun _ _ e=> .inl e,fun k e=>by
  rcases e with e|e;rcases g.own k e with e|e;exact .inl (.inl e);exact .inr e
  ·exact .inl (.inr e)⟩
 obtain⟨f1,f2⟩:=H.abh;refine⟨⟨hb,(g.block H.obj f1).1,fun p hp=>g.kp.row (H.row p hp) fun k hk=>(f2 p hp k ((iQ _ _ _ _ _).trans hk)).1,H.ap,H.leaf,ok,fit,ci,H.lo,fun k hk=>⟨az (H.xo k hk).1 g.kp.size,fun e=> ?_⟩⟩,G⟩;rcases G.own k e with e|e;exact(H.xo k hk).2 e;have:=(H.xo k hk).1;omega
theorem lX.goes{B bb g wd:Nat}{vn vo vl:Value}{ms:fA}{s:Sg}{Y:Nat->Prop}(H:lX Y B w bb g wd vn vo vl ms s)(hg:kF bb g wd vn vo vl w Y4 Y3 Z4 w')(hb:∀a b c d,jm B w bb g wd vn vo vl ms s a b c d->jm B w' bb g wd Y4 Y3 Z4 ms s' a b c d):lX Y B w' bb g wd Y4 Y3 Z4 ms s':=by
 obtain⟨a,b,c,d,h,hk⟩:=H;refine⟨a,b,c,d,hb a b c d h,fun x hx=>(hk x hx).step (hg.kp.mono fun _ _ e=> .inl e) fun k hk e=> ?_⟩;rcases e with e|e;rcases hg.own k e with e|e;exact .inl e;omega;exact .inr e
theorem bH.graph{ns':List Nd}{os':List Bool}(H:bH X M q h w)(hg:Gr.Goes M.g q.n q.o w Y4 Y3 w')(hgs:GS 184 M.B w' M.g Y4 Y3 ns' os')(hwf:Wf ns' os'.length)(ok:HOk {h with s:={h.s with ns:=ns',os:=os'}}):
 bH X M ⟨Y4,Y3,q.l,q.r⟩ {h with s:={h.s with ns:=ns',os:=os'}} w'/\fZ M q w ⟨Y4,Y3,q.l,q.r⟩ w':=by
 obtain⟨a,b,c,d,hb⟩:=H.box.is;obtain⟨_,g⟩:=hb.graph hg hgs hwf;exact H.acS (s':={h.s with ns:=ns',os:=os'}) (ms':=h.ms) g (H.box.goes g fun a b c d hb=>(hb.graph hg hgs hwf).1) ok H.fit H.ci
theorem bH.run{p k:Int}{v:V}{e:Ending}(H:bH X M q h w)(hr:yJ (fun k=>wH M q k\/X k) M.B M.bb M.g M.wd q.n q.o q.l h.ms (gM h.ms p k v 2000 h.s) w e w'):
 ∃q' ao cap,e= .returned (.tuple #[.agg #[.int .i64 (iT (gM h.ms p k v 2000 h.s).1).kind,.int .i64 (iT (gM h.ms p k v 2000 h.s).1).n,.slice ao (iT (gM h.ms p k v 2000 h.s).1).l.length cap],.int .i64 (gM h.ms p k v 2000 h.s).2.1,.int .i64 (Ba (gM h.ms p k v 2000 h.s).1)])/\bH X M q' (lM h p k v).2 w'/\fZ M q w q' w'/\bu (fun k=>jC M q' k\/X k) (fun w=>Is w (iT (gM h.ms p k v 2000 h.s).1) ao) w':=by
 obtain⟨ao,cap,Y4,Y3,Z4,he,hs,hb,g,ci⟩:=hr;obtain⟨h1,h2⟩:=H.acS g hb (H.ok.run p k v) H.fit ci;refine⟨_,ao,cap,he,h1,h2,hs.mono fun i _ e=> ?_⟩;rcases e with(e|e)|e;exact .inl e;exact .inr (.inl e);exact .inr (.inr e)
def yE(w:World)(bb j:Nat)(code:Value):World:=((((w.setCell ⟨bb,2+j*5,none⟩ (.bool true)).setCell ⟨bb,2+j*5+1,none⟩ code).setCell ⟨bb,2+j*5+2,none⟩ (.int .i64 0)).setCell ⟨bb,2+j*5+3,none⟩ (.int .i64 0)).setCell ⟨bb,2+j*5+4,none⟩ (.slice none 0 0)
theorem uq{w:World}{b:Nat}{L:List Value}{t:TypeId}(h:w.heap[b]?=some (.cells L.toArray t (0,0)))(j:Nat)(code:Value):(yE w b j code).heap[b]?=some (.cells (((((L.set (2+j*5) (.bool true)).set (2+j*5+1) code).set (2+j*5+2) (.int .i64 0)).set (2+j*5+3) (.int .i64 0)).set (2+j*5+4) (.slice none 0 0)).toArray t (0,0)):=
 oG (oG (oG (oG (oG h _ _) _ _) _ _) _ _) _ _
theorem Uc(w:World)(bb j:Nat)(code:Value):Kp (fun k=>k=bb) w (yE w bb j code):=((((bF _ _ _ _).trans (bF _ _ _ _)).trans (bF _ _ _ _)).trans (bF _ _ _ _)).trans (bF _ _ _ _)
theorem lX.load{B bb g wd:Nat}{vn vo vl:Value}{ms:fA}{s:Sg}{Y:Nat->Prop}{l:List Ex.V}{ao:Option Addr}{cap j:Nat}(H:lX Y B w bb g wd vn vo vl ms s)(hj:j<4)(hc:rC w (.slice ao l.length cap) l)(hl:∀v∈l,v.bad l.length 0=0):
 lX Y B (yE w bb j (.slice ao l.length cap)) bb g wd vn vo vl (ms.set j (some l)) {s with ks:=s.ks.set j v0}/\kF bb g wd vn vo vl w vn vo vl (yE w bb j (.slice ao l.length cap)):=by
 obtain⟨a,b,c,d,h,hk⟩:=H;obtain⟨ma,mb,mc,md,e,ha,hb,hc',hd⟩:=h.abn;have kp:=Uc w bb j (.slice ao l.length cap);have hks:=h.ks;have hs:∀x,x=a\/x=b\/x=c\/x=d->bu (fun k=>gX bb g wd vn vo vl k\/Y k) (fun w=>Is w x.kept x.ao) (yE w bb j (.slice ao l.length cap)):=fun x hx=>(hk x hx).step (kp.mono fun k _ e=> .inl (.inl e)) fun _ _ e=>e;have hz:bu (fun k=>gX bb g wd vn vo vl k\/Y k) (fun w=>Is w v0 none) (yE w bb j (.slice ao l.length cap)):=dY v0 iR rfl none;have hp:PgS w (gX bb g wd vn vo vl) (some l) ⟨true,.slice ao l.length cap,v0,none,0⟩:=UA hc hl;subst e;obtain rfl|rfl|rfl|rfl:j=0\/j=1\/j=2\/j=3:=by omega
 ·obtain⟨h1,h2⟩:=h.put (a':=⟨true,.slice ao l.length cap,v0,none,0⟩) (b':=b) (c':=c) (d':=d) kp (uq h.obj _ _) (s':={s with ks:=s.ks.set 0 v0}) (by rw[hks];rfl) hp hb hc' hd;exact⟨⟨_,_,_,_,h1,fun x hx=>by rcases hx with rfl|hx;exact hz;exact hs x (.inr hx)⟩,h2⟩
 ·obtain⟨h1,h2⟩:=h.put (a':=a) (b':=⟨true,.slice ao l.length cap,v0,none,0⟩) (c':=c) (d':=d) kp (uq h.obj _ _) (s':={s with ks:=s.ks.set 1 v0}) (by rw[hks];rfl) ha hp hc' hd;exact⟨⟨_,_,_,_,h1,fun x hx=>by rcases hx with hx|rfl|hx;exact hs x (.inl hx);exact hz;exact hs x (.inr (.inr hx))⟩,h2⟩
 ·obtain⟨h1,h2⟩:=h.put (a':=a) (b':=b) (c':=⟨true,.slice ao l.length cap,v0,none,0⟩) (d':=d) kp (uq h.obj _ _) (s':={s with ks:=s.ks.set 2 v0}) (by rw[hks];rfl) ha hb hp hd;exact⟨⟨_,_,_,_,h1,fun x hx=>by rcases hx with hx|hx|rfl|hx;exact hs x (.inl hx);exact hs x (.inr (.inl hx));exact hz;exact hs x (.inr (.inr (.inr hx)))⟩,h2⟩
 ·obtain⟨h1,h2⟩:=h.put (a':=a) (b':=b) (c':=c) (d':=⟨true,.slice ao l.length cap,v0,none,0⟩) kp (uq h.obj _ _) (s':={s with ks:=s.ks.set 3 v0}) (by rw[hks];rfl) ha hb hc' hp;exact⟨⟨_,_,_,_,h1,fun x hx=>by rcases hx with hx|hx|hx|rfl;exact hs x (.inl hx);exact hs x (.inr (.inl hx));exact hs x (.inr (.inr (.inl hx)));exact hz⟩,h2⟩
theorem bH.load{l:List Ex.V}{ao:Option Addr}{cap j:Nat}(H:bH X M q h w)(hj:j<4)(hc:rC w (.slice ao l.length cap) l)(hl:∀v∈l,v.bad l.length 0=0)(hf:∀x∈l,∀i∈Ex.Zj x,dH i.n)(ok:HOk ⟨{h.s with ks:=h.s.ks.set j v0},h.ms.set j (some l),h.hs⟩):
 bH X M q ⟨{h.s with ks:=h.s.ks.set j v0},h.ms.set j (some l),h.hs⟩ (yE w M.bb j (.slice ao l.length cap))/\fZ M q w q (yE w M.bb j (.slice ao l.length cap)):=by
 obtain⟨h1,h2⟩:=H.box.load hj hc hl;refine H.acS h2 h1 ok (fun i m hm x hx k hk=> ?_) H.ci;rw[aD,dw]at hm;by_cases e:j=i;rw[ag e]at hm;by_cases e2:j<h.ms.length;rw[ag e2]at hm;simp only[Option.getD_some,aT]at hm;subst hm;exact hf x hx k hk;rw[af e2]at hm;cases hm;rw[af e,<-aD]at hm;exact H.fit i m hm x hx k hk
theorem bH.push{g cap p:Nat}{v:V}(H:bH X M q h w)(kW:aA w W)(hp:p<4)(hv:v.l=[]/\v.fits)(ok:HOk {h with hs:=h.hs.set p (h.hs.getD p []++[v])})
 (hr:w4.ownsRow M.B 71 3 (.slice (some ⟨g,0,none⟩) ((h.hs.getD p []).length+1) cap) ((h.hs.getD p []).length+1) (eB (hd (h.hs.getD p []))++Zv (v,none,0))) (hg:W.grownBy w4 (gK q h p).ownBlock) (hat:(gK q h p).ownBlock=some g\/W.heap.size<=g):
 bH X M {q with r:=upd q.r p (some ⟨g,0,none⟩,cap)} {h with hs:=h.hs.set p (h.hs.getD p []++[v])} (w4.setCell ⟨M.hb,1+p,none⟩ (.slice (some ⟨g,0,none⟩) ((h.hs.getD p []).length+1) cap))/\
 fZ M q w {q with r:=upd q.r p (some ⟨g,0,none⟩,cap)} (w4.setCell ⟨M.hb,1+p,none⟩ (.slice (some ⟨g,0,none⟩) ((h.hs.getD p []).length+1) cap)):=by
 have HW:=H.quiet kW;obtain⟨f1,f2⟩:=HW.abh;have hlen:=H.ok.len;have hrow:∀k,(gK q h p).ownBlock=some k<->(Value.slice (q.r p).1 0 0).ownBlock=some k:=fun k=>by unfold gK;rw[iQ]
 have hgd:∀i,(h.hs.set p (h.hs.getD p []++[v])).getD i []=if i=p then h.hs.getD p []++[v]else h.hs.getD i []:=fun i=>by
  rw[aD,dw];by_cases e:p=i;rw[ag e,ag (by omega),ag e.symm];rfl;rw[af e,af fun e2=>e e2.symm,<-aD]
 have hur:∀i,upd q.r p (some ⟨g,0,none⟩,cap) i=if i=p then(some ⟨g,0,none⟩,cap)else q.r i:=fun i=>rfl
 have hgb:∀k,(Value.slice (some (⟨g,0,none⟩:Addr)) 0 0).ownBlock=some k->k=g:=fun k e=>by simp[Value.ownBlock]at e;exact e.symm
 have hwz:=kW.size;have hgx:g≠M.hb:=by
  rcases hat with e|e;exact(f2 p hp g ((hrow g).1 e)).2;have:=ae HW.obj;omega
 -- what may turn
 have k1:Kp (fun k=>(gK q h p).ownBlock=some k) W w4:=Kp.grown hg fun k _ e=>e.symm;have k2:=bF w4 M.hb (1+p) (.slice (some ⟨g,0,none⟩) ((h.hs.getD p []).length+1) cap);have kp:Kp (fun k=>k=M.hb\/(gK q h p).ownBlock=some k) W (w4.setCell ⟨M.hb,1+p,none⟩ (.slice (some ⟨g,0,none⟩) ((h.hs.getD p []).length+1) cap)):=(k1.mono fun _ _ e=> .inr e).trans (k2.mono fun _ _ e=> .inl e);have hb4:w4.heap[M.hb]?=_:=(k1.block _ (ae HW.obj) fun e=>(f2 p hp _ ((hrow _).1 e)).2 rfl).trans HW.obj
 -- blocks that are its own then
 have hown:∀k,wH M {q with r:=upd q.r p (some ⟨g,0,none⟩,cap)} k->wH M q k\/W.heap.size<=k:=fun k e=>by
  rcases e with e|⟨i,hi,e⟩;exact .inl (.inl e);simp only[hur]at e;by_cases ei:i=p;rw[ag ei]at e;rw[hgb k e];rcases hat with e2|e2;exact .inl (.inr ⟨p,hp,(hrow g).1 e2⟩);exact .inr e2;rw[af ei]at e;exact .inl (.inr ⟨i,hi,e⟩)
 have hF:∀k,(k=M.hb\/(gK q h p).ownBlock=some k)->wH M q k:=fun k e=>by
  rcases e with e|e;exact .inl e;exact .inr ⟨p,hp,(hrow k).1 e⟩
 have hFB:∀k,gX M.bb M.g M.wd q.n q.o q.l k->¬(k=M.hb\/(gK q h p).ownBlock=some k):=fun k hk e=>by
  rcases e with e|e;exact f1 (e▸hk);exact(f2 p hp k ((hrow k).1 e)).1 hk
 have agh:lX (fun k=>wH M {q with r:=upd q.r p (some ⟨g,0,none⟩,cap)} k\/X k) M.B (w4.setCell ⟨M.hb,1+p,none⟩ (.slice (some ⟨g,0,none⟩) ((h.hs.getD p []).length+1) cap)) M.bb M.g M.wd q.n q.o q.l h.ms h.s:=by
  have b1:=HW.box.step (X':=fun k=>wH M q k\/wH M {q with r:=upd q.r p (some ⟨g,0,none⟩,cap)} k\/X k) (Kp.refl _ _) (fun i hi e=>by
   rcases e with e|e|e;exact .inl e;rcases hown i e with e|e;exact .inl e;omega
   ·exact .inr e)
  have b2:=b1.beside kp (fun k e=> .inl (hF k e)) hFB (fun k cs t hk ht e=>by
   rcases e with e|e;rw[e,HW.obj]at hk;simp at hk;rcases ht with ht|ht<;>rw[ht]at hk<;>exact absurd hk.2 (by decide)
   ·obtain⟨cs',hc'⟩:=Bl (HW.row p hp) e;rw[hc']at hk;simp at hk;rcases ht with ht|ht<;>rw[ht]at hk<;>exact absurd hk.2 (by decide))
  exact b2.step (Kp.refl _ _) fun i _ e=> .inr e
 have aaQ:(w4.setCell ⟨M.hb,1+p,none⟩ (.slice (some ⟨g,0,none⟩) ((h.hs.getD p []).length+1) cap)).heap[M.hb]?=some (.cells #[.pointer (some ⟨M.bb,0,none⟩),gK {q with r:=upd q.r p (some ⟨g,0,none⟩,cap)} {h with hs:=h.hs.set p (h.hs.getD p []++[v])} 0,gK {q with r:=upd q.r p (some ⟨g,0,none⟩,cap)} {h with hs:=h.hs.set p (h.hs.getD p []++[v])} 1,gK {q with r:=upd q.r p (some ⟨g,0,none⟩,cap)} {h with hs:=h.hs.set p (h.hs.getD p []++[v])} 2,gK {q with r:=upd q.r p (some ⟨g,0,none⟩,cap)} {h with hs:=h.hs.set p (h.hs.getD p []++[v])} 3] 106 (0,0)):=by
  have hs:=oG (L:=[_,_,_,_,_]) hb4 (1+p) (.slice (some ⟨g,0,none⟩) ((h.hs.getD p []).length+1) cap);rw[hs];unfold gK;simp only[hur,hgd];obtain rfl|rfl|rfl|rfl:p=0\/p=1\/p=2\/p=3:=by omega
  all_goals simp
 have hrows:∀i,i<4->(w4.setCell ⟨M.hb,1+p,none⟩ (.slice (some ⟨g,0,none⟩) ((h.hs.getD p []).length+1) cap)).ownsRow M.B 71 3 (gK {q with r:=upd q.r p (some ⟨g,0,none⟩,cap)} {h with hs:=h.hs.set p (h.hs.getD p []++[v])} i) ((h.hs.set p (h.hs.getD p []++[v])).getD i []).length (eB (hd ((h.hs.set p (h.hs.getD p []++[v])).getD i []))):=fun i hi=>by
  unfold gK;simp only[hur,hgd];by_cases ei:i=p;simp only[ag ei];have h1:=k2.row hr (fun k hk e=>by simp[Value.ownBlock]at hk;omega);rw[show(h.hs.getD p []++[v]).length=(h.hs.getD p []).length+1 by simp,show hd (h.hs.getD p []++[v])=hd (h.hs.getD p [])++[(v,none,0)]by simp[hd],jV,jI];exact h1
  ·simp only[af ei];exact kp.row (HW.row i hi) fun k hk e=>by
    have hk':(Value.slice (q.r i).1 0 0).ownBlock=some k:=(iQ _ _ _ _ _).trans hk;rcases e with e|e;exact(f2 i hi k hk').2 e;exact H.ap i p hi hp ei k hk' ((hrow k).1 e)
 have hap:∀i j,i<4->j<4->i≠j->∀k,(Value.slice (upd q.r p (some ⟨g,0,none⟩,cap) i).1 0 0).ownBlock=some k->(Value.slice (upd q.r p (some ⟨g,0,none⟩,cap) j).1 0 0).ownBlock≠some k:=fun i j hi hj hij k hk hk2=>by
  have other:∀i,i<4->i≠p->(Value.slice (q.r i).1 0 0).ownBlock≠some g:=fun i hi ei e=>by
   rcases hat with e2|e2;exact H.ap i p hi hp ei g e ((hrow g).1 e2);have:=((HW.row i hi).lt g ((iQ _ _ _ _ _).trans e)).2;omega
  simp only[hur]at hk hk2;by_cases ei:i=p;have ej:j≠p:=fun e=>hij (ei.trans e.symm);rw[ag ei]at hk;rw[af ej]at hk2;exact other j hj ej (hgb k hk▸hk2);rw[af ei]at hk;by_cases ej:j=p;rw[ag ej]at hk2;exact other i hi ei (hgb k hk2▸hk);rw[af ej]at hk2;exact H.ap i j hi hj hij k hk hk2
 have G:fZ M q w {q with r:=upd q.r p (some ⟨g,0,none⟩,cap)} (w4.setCell ⟨M.hb,1+p,none⟩ (.slice (some ⟨g,0,none⟩) ((h.hs.getD p []).length+1) cap)):=⟨(kW.mono fun _ _ e=>e.elim).trans (kp.mono fun k _ e=> .inr (hF k e)),fun k e=>by
  rcases e with e|e;exact .inl (.inl e)
  ·rcases hown k e with e|e;exact .inl (.inr e)
   ·exact .inr (by omega)⟩
 refine⟨⟨agh,aaQ,hrows,hap,fun i hi u hu=> ?_,ok,H.fit,H.ci,H.lo,fun k hk=>⟨az (H.xo k hk).1 G.kp.size,fun e=> ?_⟩⟩,G⟩;simp only[hgd]at hu;by_cases ei:i=p;rw[ag ei]at hu;rcases aK.1 hu with hu|hu;exact H.leaf p hp u hu;rw[bD.1 hu];exact hv;rw[af ei]at hu;exact H.leaf i hi u hu;rcases G.own k e with e|e;exact(H.xo k hk).2 e;have:=(H.xo k hk).1;omega
theorem Ti{B B' bb g wd:Nat}{vn vo vl:Value}{ms:fA}{s:Sg}{a b c d:Pg}(h:jm B w bb g wd vn vo vl ms s a b c d)(hB:B'<=B):jm B' w bb g wd vn vo vl ms s a b c d:=
 ⟨h.obj,⟨h.gs.obj,gL h.gs.rn hB,gL h.gs.ro hB,h.gs.nb,h.gs.ob,h.gs.no,aF hB h.gs.lo,h.gs.ln,h.gs.lg⟩,h.wf,⟨h.ws.obj,gL h.ws.row hB,h.ws.ne,aF hB h.ws.lo⟩,h.ks,aF hB h.lo,h.abn⟩
theorem SF{B bb g wd:Nat}{vn vo vl:Value}{ms:fA}{Y:Nat->Prop}(H:yM B w bb g wd vn vo vl ms s0):lX Y B w bb g wd vn vo vl ms s0:=by
 obtain⟨a,b,c,d,h⟩:=H;refine⟨a,b,c,d,h,fun x hx=> ?_⟩;have hks:=h.ks;simp only[s0,List.cons.injEq,and_true]at hks;obtain⟨e1,e2,e3,e4⟩:=hks;have e:x.kept=v0:=by
  rcases hx with rfl|rfl|rfl|rfl;exact e1.symm;exact e2.symm;exact e3.symm;exact e4.symm
 rw[e];exact dY v0 iR rfl x.ao
theorem Nt{B bb g wd:Nat}{vn vo vl:Value}(H:yM B w bb g wd vn vo vl [none,none,none,none] s0)(hX:∀k,X k->k<w.heap.size/\¬gX bb g wd vn vo vl k)(hB:B<=w.heap.size):
 bH X ⟨B,w.heap.size,bb,g,wd⟩ ⟨vn,vo,vl,fun _=>(none,0)⟩ h00 (w.alloc (.cells #[.pointer (some ⟨bb,0,none⟩),.slice none 0 0,.slice none 0 0,.slice none 0 0,.slice none 0 0] 106)):=by
 have q1:aA w (w.alloc (.cells #[.pointer (some ⟨bb,0,none⟩),.slice none 0 0,.slice none 0 0,.slice none 0 0,.slice none 0 0] 106)):=Kp.alloc _ _;have hnb:∀k:Nat,¬(Value.slice none 0 0).ownBlock=some k:=fun k e=>by simp[Value.ownBlock]at e
 have hrep:∀p:Nat,(List.replicate 4 ([]:List V)).getD p []=[]:=fun p=>by
  rw[aD,List.getElem?_replicate];split<;>rfl
 have hh:∀p:Nat,h00.hs.getD p []=[]:=hrep;refine⟨(SF (Y:=fun k=>wH _ _ k\/X k) H).quiet q1, ?_,fun p _=> ?_,fun p p' _ _ _ k hk=>absurd hk (hnb k),fun p _ v hv=> ?_,Yz,fun j l hl=> ?_, ?_,hB,fun k hk=>⟨?_,fun e=> ?_⟩⟩;have h1:=ah w (.cells #[.pointer (some ⟨bb,0,none⟩),.slice none 0 0,.slice none 0 0,.slice none 0 0,.slice none 0 0] 106);unfold gK;simp only[hh,bf];exact h1;unfold gK;rw[hh];exact bq _ _ _ _;rw[hh]at hv;simp at hv
 ·exfalso;have:(List.replicate 4 (none:Option (List Ex.V))).getD j none=none:=by rw[aD,List.getElem?_replicate];split<;>rfl
  rw[show h00.ms.getD j none=none from this]at hl;cases hl
 ·intro c hc;have:c=0:=List.eq_of_mem_replicate (show c∈List.replicate 12 (0:Int)from hc);rw[this];exact⟨by decide,by decide⟩
 ·exact az (hX k hk).1 q1.size
 ·rcases e with e|e|⟨p,_,e⟩;exact(hX k hk).2 e;have:=(hX k hk).1;simp only at e;omega;exact hnb k e
end
theorem Ao{w:World}{v u:V}{b off:Nat}(h:v.head w b off)(h':u.head w b off):v.kind=u.kind/\v.n=u.n:=by
 obtain⟨a1,a2⟩:=h;obtain⟨b1,b2⟩:=h';rw[a1]at b1;rw[a2]at b2;simp only[aT,Value.int.injEq,true_and]at b1 b2;exact⟨b1,b2⟩
theorem JR{w:World}(v:V):∀(u:V)(b off:Nat),v.at w b off->u.at w b off->v=u:=by
 induction v using V.aan with
 |h v ih=>
  intro u b off hv hu;rw[Zt]at hv hu;obtain⟨c0,ao,cap,c2,hI⟩:=hv;obtain⟨d0,ao',cap',d2,hU⟩:=hu;rw[c2]at d2;simp only[aT,aY]at d2;obtain⟨rfl,hlen,_⟩:=d2;rw[Ro];refine⟨Ao c0 d0, ?_⟩;refine List.ext_getElem hlen fun i h1 h2=> ?_;obtain⟨b1,o1,e1,k1⟩:=hI.fo i h1;obtain⟨b2,o2,e2,k2⟩:=hU.fo i h2;rw[e1]at e2;cases e2;exact ih _ (aI h1) _ _ _ k1 k2
theorem QF{w w':World}{t:V}{b off:Nat}{cap':Nat}{ao':Option Addr}(ht:t.at w b off)
 (hk:∀(a:Addr) (x:Value),a≠⟨b,off+2,none⟩->w.cell? a=some x->w'.cell? a=some x) (hn:w'.cell? ⟨b,off+2,none⟩=some (.slice ao' t.l.length cap')) (hF:Fo w t.l ao'):
 ∀(m:Nat)(v:V)(b1 o1:Nat),v.size<=m->v.at w b1 o1->v.at w' b1 o1:=by
 intro m;induction m with
 |zero=>intro v _ _ h;have:=size_pos v;omega
 |succ m ih=>
  intro v b1 o1 hs hv;have hv0:=hv;rw[Zt]at hv|-;obtain⟨hh,a1,p1,c2,hI⟩:=hv;obtain⟨_,a0,p0,h2,_⟩:=(Zt _ _ _ _).1 ht;have hn':∀(a:Addr)(k:Int),w.cell? a=some (.int .i64 k)->w'.cell? a=some (.int .i64 k):=by
   intro a k hc;refine hk a _ ?_ hc;rintro rfl;rw[h2]at hc;simp at hc
  have kid:∀(l:List V)(ax:Option Addr),sizes l<=m->Fo w l ax->Fo w' l ax:=by
   intro l ax hx hf i hi;obtain⟨bb,oo,e,k⟩:=hf i hi;refine⟨bb,oo,e,ih _ _ _ ?_ k⟩;have:=sO l i hi;omega
  have hl:sizes v.l<=m:=by have:=size_eq v;omega
  refine⟨⟨hn' _ _ hh.1,hn' _ _ hh.2⟩, ?_⟩;by_cases he:(⟨b1,o1+2,none⟩:Addr)=⟨b,off+2,none⟩;simp only[eG,and_true]at he;obtain⟨rfl,ho⟩:=he;obtain rfl:o1=off:=(by omega);obtain rfl:=JR v t _ _ hv0 ht;exact⟨ao',cap',hn,hI.fit,kid _ _ hl hF⟩;exact⟨a1,p1,hk _ _ he c2,hI.fit,kid _ _ hl hI.fo⟩
def jd(R:Nat->Bool)(h:Nat)(w:World):World:={w with heap:=w.heap.mapIdx fun i o=>if R i then .cells #[] 0 (0,0)else if i<h then o else match o with| .cells c t z=>if t=71 then .cells c t z else .cells #[] 0 (0,0)|_=> .cells #[] 0 (0,0)}
def IsV(w:World)(b:Nat):Prop:=∃c,w.heap[b]?=some (.cells c 71 (0,0))
theorem tL{R:Nat->Bool}{h:Nat}{w:World}{k:Nat}(hr:R k=false)(hk:k<h):(jd R h w).heap[k]?=w.heap[k]?:=by
 simp only[jd,Array.getElem?_mapIdx,hr,hk,if_true,if_false,Bool.false_eq_true];cases w.heap[k]?<;>rfl
theorem FT{R:Nat->Bool}{h:Nat}{w:World}{k:Nat}{c:Array Value}{z:Nat×Nat}(hr:R k=false)(hk:w.heap[k]?=some (.cells c 71 z)):(jd R h w).heap[k]?=w.heap[k]?:=by
 by_cases hh:k<h;exact tL hr hh;simp only[jd,Array.getElem?_mapIdx,hk,Option.map_some,if_true];rw[af (by simp[hr]),af hh]
theorem jL{R:Nat->Bool}{h:Nat}{w:World}{a:Addr}{x:Value}(hc:(jd R h w).cell? a=some x):w.cell? a=some x/\R a.block=false/\(a.block<h\/∃c z,w.heap[a.block]?=some (.cells c 71 z)):=by
 have hb:=aW (jd R h w) a hc;have hs:a.block<w.heap.size:=by simpa [jd]using hb
 have e0:w.heap[a.block]?=some w.heap[a.block]:=Array.getElem?_eq_getElem hs;by_cases hr0:R a.block=true
 ·exfalso;have hr:=hr0;have e1:(jd R h w).heap[a.block]?=some (.cells #[] 0 (0,0)):=by
   simp only[jd,Array.getElem?_mapIdx,e0,Option.map_some];rw[ag hr]
  simp[World.cell?,e1]at hc
 ·have hr:R a.block=false:=by simpa using hr0
  by_cases hk:a.block<h;exact⟨(bz (tL hr hk)).symm.trans hc,hr,.inl hk⟩
  ·cases ho:w.heap[a.block]with
   |cells c t z=>
    by_cases ht:t=71;subst ht;rw[ho]at e0;exact⟨(bz (FT hr e0)).symm.trans hc,hr,.inr ⟨c,z,e0⟩⟩
    ·exfalso;rw[ho]at e0;have e1:(jd R h w).heap[a.block]?=some (.cells #[] 0 (0,0)):=by
      simp only[jd,Array.getElem?_mapIdx,e0,Option.map_some,hr,hk,ht,if_false,Bool.false_eq_true]
     simp[World.cell?,e1]at hc
   |_=>
    exfalso;rw[ho]at e0;have e1:(jd R h w).heap[a.block]?=some (.cells #[] 0 (0,0)):=by
     simp only[jd,Array.getElem?_mapIdx,e0,Option.map_some,hr,hk,if_false,Bool.false_eq_true]
    simp[World.cell?,e1]at hc
theorem uR{R:Nat->Bool}{h:Nat}{w:World}{a:Addr}{x:Value}(hc:w.cell? a=some x)(hr:R a.block=false)(ha:a.block<h\/∃c z,w.heap[a.block]?=some (.cells c 71 z)):(jd R h w).cell? a=some x:=by
 rcases ha with ha|⟨c,z,ha⟩;exact(bz (tL hr ha)).trans hc;exact(bz (FT hr ha)).trans hc
theorem Fo.aeW{R:Nat->Bool}{h:Nat}{w:World}{l:List V}{ao:Option Addr}(hv:Fo (jd R h w) l ao):Fo w l ao:=hv.kept fun _ _ hc=>(jL hc).1
def ig(R:Nat->Bool)(h:Nat)(w w':World):Prop:=(∀k,R k=false->k<h->w'.heap[k]?=w.heap[k]?)/\∀(k:Nat)(c:Array Value)(z:Nat×Nat),R k=false->w.heap[k]?=some (Obj.cells c 71 z)->w'.heap[k]?=some (Obj.cells c 71 z)
theorem ig.cell{R:Nat->Bool}{h:Nat}{w w':World}(hk:ig R h w w'):∀(a:Addr)(x:Value),(jd R h w).cell? a=some x->(jd R h w').cell? a=some x:=by
 intro a x hc;obtain⟨h1,hr,h2⟩:=jL hc;rcases h2 with h2|⟨c,z,h2⟩;exact uR ((bz (hk.1 _ hr h2)).trans h1) hr (.inl h2);have:=hk.2 _ _ _ hr h2;exact uR ((bz (this.trans h2.symm)).trans h1) hr (.inr ⟨c,z,this⟩)
theorem ig.trans{R:Nat->Bool}{h:Nat}{a b c:World}(h1:ig R h a b)(h2:ig R h b c):ig R h a c:=⟨fun k hr hk=>(h2.1 k hr hk).trans (h1.1 k hr hk),fun k _ _ hr e=>h2.2 k _ _ hr (h1.2 k _ _ hr e)⟩
theorem ig.quiet{R:Nat->Bool}{h:Nat}{w w':World}(q:aA w w')(hh:h<=w.heap.size):ig R h w w':=
 ⟨fun k _ hk=>q.block k (by omega) fun e=>e,fun k _ _ _ e=>(q.block k (ae e) fun e=>e).trans e⟩
theorem ig.isV{R:Nat->Bool}{h:Nat}{w w':World}(hk:ig R h w w'){b:Nat}(hr:R b=false)(hb:IsV w b):IsV w' b:=by obtain⟨c,hc⟩:=hb;exact⟨c,hk.2 b c _ hr hc⟩
theorem ig.grown{R:Nat->Bool}{h:Nat}{w w':World}{B:Nat}{t:TypeId}{s:Nat}{v:Value}{n:Nat}{xs:List Value}(hr:w.ownsRow B t s v n xs)(ht:t≠71)(hB:h<=B)(hg:w.grownBy w' v.ownBlock)(hh:h<=w.heap.size):ig R h w w':=by
 refine⟨fun k _ hk=>hg.block k (by omega) fun e=>by have:=(hr.lt k e.symm).1;omega,fun k c z _ e=>(hg.block k (ae e) fun e'=> ?_).trans e⟩;rcases hr.2 with⟨rfl,_⟩|⟨g,cap,cur,rfl,_,hh,_⟩;simp[Value.ownBlock]at e';simp[Value.ownBlock]at e';subst e';rw[hh]at e;simp at e;exact ht e.2.1
theorem Lt{w:World}{l:List V}{b o:Nat}(h:Fo w l (some ⟨b,o,none⟩)):∃ps:List Kd,ps.map (·.1)=l/\(∀p∈ps,Is w p.1 p.2.1)/\∀j x,(eB ps)[j]?=some x->w.cell? ⟨b,o+j,none⟩=some x:=by
 have key:∀i,i<l.length->∃p:Option Addr×Nat,∀hi:i<l.length,Is w l[i] p.1/\∀c,c<3->w.cell? ⟨b,o+i*3+c,none⟩=(Zv (l[i],p))[c]?:=by
  intro i hi;obtain⟨b',o',e,hh,ai,ci,c2,hI⟩:=h.get i hi;cases e;refine⟨(ai,ci),fun _=>⟨hI,fun c hc=> ?_⟩⟩
  match c,hc with
  |0,_=>exact hh.1
  |1,_=>exact hh.2
  |2,_=>exact c2
 haveI:Inhabited (Option Addr×Nat):=⟨(none,0)⟩;obtain⟨f,hf⟩:=Deep.choose_lt key;refine⟨l.mapIdx fun i x=>(x,f i), ?_,fun p hp=> ?_,fun j x hx=> ?_⟩;apply List.ext_getElem<;>simp
 ·obtain⟨i,hi,rfl⟩:=bT hp;have hi':i<l.length:=by simpa using hi
  simpa using(hf i hi' hi').1
 ·have hlen:=mZ (l.mapIdx fun i x=>(x,f i));have hj:j<(l.mapIdx fun i x=>(x,f i)).length*3:=by
   rw[<-hlen];rcases dO j (eB (l.mapIdx fun i x=>(x,f i))).length with h'|h';exact h';rw[di h']at hx;simp at hx
  have hi:j/3<l.length:=by simp at hj;omega
  have e:j=j/3*3+j%3:=by omega
  have h1:=(hf (j/3) hi hi).2 (j%3) (by omega);have h2:=ru (l.mapIdx fun i x=>(x,f i)) (j/3) (j%3) (by simpa using hi) (by omega);rw[<-e]at h2;rw[h2]at hx;simp only[List.getElem_mapIdx]at hx;rw[show o+j=o+j/3*3+j%3 by omega,h1];exact hx
theorem J2{w w4:World}{R:Nat->Bool}{h B:Nat}{l:List V}{G m cap:Nat}{ps:List Kd}(hps:ps.map (·.1)=l)(hI:∀p∈ps,Is (jd R h w) p.1 p.2.1)(hk:ig R h w w4)(hr:w4.ownsRow B 71 3 (.slice (some ⟨G,0,none⟩) m cap) m (eB ps))(hm:m=ps.length)(hm0:0<m)(hGr:R G=false):
 Fo (jd R h w4) l (some ⟨G,0,none⟩)/\IsV w4 G:=by
 have hG:IsV w4 G:=by
  rcases hr.2 with⟨e,_⟩|⟨g,cp,cur,e,_,hh,_⟩;simp at e;simp only[aY,aT,eG]at e;obtain⟨⟨rfl,_⟩,_⟩:=e;exact⟨cur,hh⟩
 refine⟨?_,hG⟩;subst hm hps;intro i hi;have hi':i<ps.length:=by simpa using hi
 obtain⟨g,e,d⟩:=Zc hr hm0;cases e;obtain⟨c,hc⟩:=hG;refine⟨G,0,rfl, ?_⟩;have e:(ps.map (·.1))[i]=ps[i].1:=by simp
 rw[e,bP];refine Dw (fun j hj=> ?_) ((hI _ (aI hi')).kept hk.cell);have h1:=d (i*3+j) (by omega);rw[ru ps i j hi' hj]at h1;have hj':j<(Zv ps[i]).length:=by simp[Zv];omega
 rw[aQ hj']at h1|-;exact uR h1 hGr (.inr ⟨c,_,hc⟩)
theorem FB{w:World}{p a:Addr}{x y:Value}(hne:a≠p)(hc:w.cell? a=some x):(w.setCell p y).cell? a=some x:=by
 rw[World.cell?_setCell_other (h:=fun e=>hne e.symm)];exact hc
theorem zY{w:World}{p a:Addr}{x y:Value}(hp:w.cell? p=some y)(hc:w.cell? a=some x):(w.setCell p y).cell? a=some x:=by
 by_cases e:a=p;subst e;rw[hp]at hc;cases hc;exact World.cell?_setCell_same' _ _ _ (by rw[hp];rfl);exact FB e hc
theorem zX{w:World}{p:Addr}{y:Value}{k:Nat}{c:Array Value}{t:TypeId}{z:Nat×Nat}(hk:w.heap[k]?=some (.cells c t z)):∃c',(w.setCell p y).heap[k]?=some (.cells c' t z):=by
 by_cases e:k=p.block;subst e;exact⟨_,by simp[World.setCell,aR,hk];rfl⟩;exact⟨c,(Below.heap_setCell _ _ _ _ e).trans hk⟩
structure Wrt(w w':World)(b off:Nat)(y:Value):Prop where
 cell:∀(a:Addr)(x:Value),a≠⟨b,off+2,none⟩->w.cell? a=some x->w'.cell? a=some x
 new:w'.cell? ⟨b,off+2,none⟩=some y
 kp:Kp (fun k=>k=b) w w'
 kind:∀(k:Nat)(c:Array Value)(t:TypeId)(z:Nat×Nat),w.heap[k]?=some (Obj.cells c t z)->∃c',w'.heap[k]?=some (Obj.cells c' t z)
theorem LA{w:World}{b off:Nat}{v:V}{x y:Value}(hh:v.head w b off)(hs:w.cell? ⟨b,off+2,none⟩=some x):
 Wrt w (((w.setCell ⟨b,off,none⟩ (.int .i64 v.kind)).setCell ⟨b,off+1,none⟩ (.int .i64 v.n)).setCell ⟨b,off+2,none⟩ y) b off y:=by
 obtain⟨h0,h1⟩:=hh;have s1:∀(a:Addr)(z:Value),w.cell? a=some z->(w.setCell ⟨b,off,none⟩ (.int .i64 v.kind)).cell? a=some z:=fun a z hz=>zY h0 hz;have s3:∀(a:Addr)(z:Value),w.cell? a=some z->((w.setCell ⟨b,off,none⟩ (.int .i64 v.kind)).setCell ⟨b,off+1,none⟩ (.int .i64 v.n)).cell? a=some z:=fun a z hz=>zY (s1 _ _ h1) (s1 _ _ hz);refine⟨fun a z hne hz=>FB hne (s3 a z hz),World.cell?_setCell_same' _ _ _ (by rw[s3 _ _ hs];rfl), ?_,fun k c t z hk=> ?_⟩;exact((bF _ _ _ _).trans (bF _ _ _ _)).trans (bF _ _ _ _);obtain⟨c1,k1⟩:=zX (p:=⟨b,off,none⟩) (y:= .int .i64 v.kind) hk;obtain⟨c3,k3⟩:=zX (p:=⟨b,off+1,none⟩) (y:= .int .i64 v.n) k1;exact zX k3
def oU(a:Option Addr)(n:Nat):Value:= .agg #[.pointer (if n=0 then none else a),.int .i64 n]
theorem kV(a:Option Addr)(n cap:Nat)(w:World)(ha:0<n->∃b o,a=some ⟨b,o,none⟩):
 Calls prog 202 #[.slice a n cap] w fun e w'=>e= .returned (oU a n)/\aA w w':=by
 by_cases hn:n=0
 ·subst hn;go_enter func202,ntmps202;go_wp2;refine au (v:= .agg #[.pointer none,.int .i64 0]) (by simp[results,results202,go_sem]) rfl ?_;exact⟨rfl,Kp.alloc _ _⟩
 ·obtain⟨b,o,rfl⟩:=ha (by omega);have hn1:¬(n:Int)=0:=by omega
  have hn2:(0:Int)<(n:Int):=by omega
  have hE:=hid (show oU (some ⟨b,o,none⟩) n= .agg #[.pointer (some ⟨b,o,none⟩),.int .i64 n]by simp[oU,hn]);clear hn;go_enter func202,ntmps202;go_wp2;refine au (v:= .agg #[.pointer (some ⟨b,o,none⟩),.int .i64 n]) (by simp[results,results202,go_sem]) rfl ?_;exact⟨by rw[hE.out],Kp.alloc _ _⟩
theorem PK(p:Option Addr)(n:Int)(w:World):(part 285 #[.pointer p,.int .i64 n] 0).run prog w= .ok (.pointer p) w:=by
 simp[go_sem,part]
theorem Py(p:Option Addr)(n:Int)(w:World):(part 3 #[.pointer p,.int .i64 n] 1).run prog w= .ok (.int .i64 n) w:=by
 simp[go_sem,part]
theorem Pw(e:Bool)(p:Option Addr)(m:Nat)(w:World):(Instr.checkKey e (m+1) 285 (.pointer p)).run prog w= .ok () w:=by
 simp[Instr.checkKey,bR underlying285,go_sem]
theorem Rs(e:Bool)(n:Int)(m:Nat)(w:World):(Instr.checkKey e (m+1) 3 (.int .i64 n)).run prog w= .ok () w:=by
 simp[Instr.checkKey,bR underlying3,go_sem]
theorem Ej(e:Bool)(p:Option Addr)(n:Int)(m:Nat)(w:World):(Instr.checkKey e (m+1+1) 287 (.agg #[.pointer p,.int .i64 n])).run prog w= .ok () w:=by
 rw[Instr.checkKey];simp[bR underlying287,PK,Py,Pw,Rs,Result.andThen]
theorem PM(p:Option Addr)(n:Int)(w:World):(Instr.lookup 282 (.map none) (.agg #[.pointer p,.int .i64 n]) true).run prog w= .ok (.tuple #[.slice none 0 0,.bool false]) w:=by
 have k:=Ej true p n 9998 w;have hz:=zeroValue69 w;unfold Instr.lookup;simp only[Sem.run_bind,bR underlying282,Result.andThen];rw[show(10000:Nat)=9998+1+1 from rfl];generalize(9998+1+1:Nat)=M at*;simp[k,Instr.findKey,Instr.findNow,hz,Result.andThen,bR underlying287]
theorem Vw(d:Nat)(w:World):(Op.equalIn (d+1) 282 (.map none) (.map none)).run prog w= .ok true w:=by
 simp[Op.equalIn,bR underlying282]
theorem RH(w:World):(binOp .neq 282 (.map none) (.map none)).run prog w= .ok (.bool false) w:=by
 simp only[binOp];simp[Op.equal,Op.maxDepth,Vw 9999 w]
theorem Hl(v:V)(ao a:Option Addr)(cap n c:Nat)(w:World):Calls prog 180 #[.agg #[.int .i64 v.kind,.int .i64 v.n,.slice ao v.l.length cap],.slice a n c] w fun e w'=>e= .returned (.agg #[.int .i64 v.kind,.int .i64 v.n,.slice a n c])/\aA w w':=by
 go_enter func180,ntmps180;go_wp2;refine au (v:= .agg #[.int .i64 v.kind,.int .i64 v.n,.slice a n c]) (by simp[results,results180,go_sem]) rfl ?_;exact⟨rfl,(Kp.alloc _ _).trans (Kp.alloc _ _)⟩
theorem qd{R:Nat->Bool}{n b:Nat}(hr0:∀k,R k=true->k<n)(h:n<=b):R b=false:=by
 cases e:R b with
 |false=>rfl
 |true=>have:=hr0 b e;omega
structure NS(R:Nat->Bool)(W:World)(l:List V)(ra:Option Addr)(sv:Value)(ts:List Pl)(w:World):Prop where
 row:w.ownsRow W.heap.size 69 1 sv ts.length (ts.map Z0)
 root:Fo (jd R W.heap.size w) l ra
 all:∀x∈ts,Fo (jd R W.heap.size w) x.1 x.2.1/\(x.1≠[]->∃b,x.2.1=some ⟨b,0,none⟩/\W.heap.size<=b/\IsV w b)
 low:Below W.heap.size W w
theorem NS.keeps{R:Nat->Bool}{W w w':World}{l:List V}{ra:Option Addr}{sv:Value}{ts:List Pl}(hr0:∀k,R k=true->k<W.heap.size)(H:NS R W l ra sv ts w)(hk:ig R W.heap.size w w')(hr:w'.ownsRow W.heap.size 69 1 sv ts.length (ts.map Z0))(hl:Below W.heap.size W w'):NS R W l ra sv ts w':=
 ⟨hr,H.root.kept hk.cell,fun x hx=>by
  obtain⟨h1,h2⟩:=H.all x hx;refine⟨h1.kept hk.cell,fun h=> ?_⟩;obtain⟨b,e,h3,h4⟩:=h2 h;exact⟨b,e,h3,hk.isV (qd hr0 h3) h4⟩,hl⟩
theorem NS.quiet{R:Nat->Bool}{W w w':World}{l:List V}{ra:Option Addr}{sv:Value}{ts:List Pl}(hr0:∀k,R k=true->k<W.heap.size)(H:NS R W l ra sv ts w)(q:aA w w'):NS R W l ra sv ts w':=
 H.keeps hr0 (ig.quiet q H.low.size) (q.row H.row fun _ _ e=>e) (sj H.low q H.low.size)
theorem NS.push{R:Nat->Bool}{W w w1:World}{l:List V}{ra:Option Addr}{sv:Value}{ts:List Pl}{x:Pl}{g cap n:Nat}{o:Obj}(hr0:∀k,R k=true->k<W.heap.size)(H:NS R W l ra sv ts w)(hx:Fo (jd R W.heap.size w) x.1 x.2.1/\(x.1≠[]->∃b,x.2.1=some ⟨b,0,none⟩/\W.heap.size<=b/\IsV w b))(hn:n=ts.length)
 (hr1:w1.ownsRow W.heap.size 69 1 (.slice (some ⟨g,0,none⟩) (n+1) cap) (n+1) (ts.map Z0++[Z0 x])) (hg:(w.alloc o).grownBy w1 sv.ownBlock):
 NS R W l ra (.slice (some ⟨g,0,none⟩) (n+1) cap) (ts++[x]) w1/\ig R W.heap.size w w1:=by
 subst hn;have hsz:=H.low.size;have k1:ig R W.heap.size w w1:=(ig.quiet (Kp.alloc _ _) hsz).trans (ig.grown (H.row.alloc _) (by decide) (aj _) hg (by simp;omega));have hp:=xD (x:=x) H.low hsz H.row rfl hr1 hg;refine⟨⟨hp.1,H.root.kept k1.cell,fun y hy=> ?_,hp.2⟩,k1⟩;have hy':Fo (jd R W.heap.size w) y.1 y.2.1/\(y.1≠[]->∃b,y.2.1=some ⟨b,0,none⟩/\W.heap.size<=b/\IsV w b):=by
  rcases aK.1 hy with hy|hy;exact H.all y hy;simp at hy;subst hy;exact hx
 refine⟨hy'.1.kept k1.cell,fun h=> ?_⟩;obtain⟨b,e,h3,h4⟩:=hy'.2 h;exact⟨b,e,h3,k1.isV (qd hr0 h3) h4⟩
theorem NS.write{R:Nat->Bool}{W w w':World}{l:List V}{ra:Option Addr}{sv:Value}{ts:List Pl}{u:V}{b off cap':Nat}{ao':Option Addr}(hr0:∀k,R k=true->k<W.heap.size)(H:NS R W l ra sv ts w)(hu:u.at (jd R W.heap.size w) b off)(hb:W.heap.size<=b)(hv:IsV w b)(hF:Fo (jd R W.heap.size w) u.l ao')(hw:Wrt w w' b off (.slice ao' u.l.length cap')):
 NS R W l ra sv ts w'/\(∀x ax,Fo (jd R W.heap.size w) x ax->Fo (jd R W.heap.size w') x ax)/\∀k,IsV w k->IsV w' k:=by
 have V5:∀k,IsV w k->IsV w' k:=by
  rintro k ⟨c,hk⟩;exact hw.kind _ _ _ _ hk
 have K1:∀(a:Addr)(x:Value),a≠⟨b,off+2,none⟩->(jd R W.heap.size w).cell? a=some x->(jd R W.heap.size w').cell? a=some x:=by
  intro a x hne hx;obtain⟨h1,hr,h3⟩:=jL hx;rcases h3 with h3|⟨c,z,h3⟩;exact uR (hw.cell a x hne h1) hr (.inl h3);obtain⟨c',h5⟩:=hw.kind _ _ _ _ h3;exact uR (hw.cell a x hne h1) hr (.inr ⟨c',z,h5⟩)
 have K2:(jd R W.heap.size w').cell? ⟨b,off+2,none⟩=some (.slice ao' u.l.length cap'):=by
  obtain⟨c,hc⟩:=V5 b hv;exact uR hw.new (qd hr0 hb) (.inr ⟨c,_,hc⟩)
 have T:∀x ax,Fo (jd R W.heap.size w) x ax->Fo (jd R W.heap.size w') x ax:=by
  intro x ax hf i hi;obtain⟨bb,oo,e,k⟩:=hf i hi;exact⟨bb,oo,e,QF hu K1 K2 hF _ _ _ _ (aj _) k⟩
 refine⟨⟨?_,T _ _ H.root,fun x hx=> ?_, ?_⟩,T,V5⟩
 ·refine hw.kp.row H.row fun k e hk=> ?_;subst hk;obtain⟨c,hc⟩:=hv;rcases H.row.2 with⟨rfl,_⟩|⟨g,cp,cur,rfl,_,hh,_⟩
  ·simp[Value.ownBlock]at e
  ·simp[Value.ownBlock]at e;subst e;rw[hh]at hc;simp at hc
 ·obtain⟨h1,h2⟩:=H.all x hx;refine⟨T _ _ h1,fun h=> ?_⟩;obtain⟨b,e,h3,h4⟩:=h2 h;exact⟨b,e,h3,V5 _ h4⟩
 ·exact H.low.trans (hw.kp.below H.low.size fun k e=>by omega)
theorem Ny{R:Nat->Bool}{W w2 w3:World}{l:List V}{ra:Option Addr}{rc:Nat}(hr0:∀k,R k=true->k<W.heap.size)(q:aA W w2)(hF:Fo (jd R W.heap.size w2) l ra)(hb:l≠[]->∃b,ra=some ⟨b,0,none⟩/\W.heap.size<=b/\IsV w2 b)(hw:w3=w2.alloc (.cells #[.slice ra l.length rc] 69)):
 NS R W l ra (.slice (some ⟨w2.heap.size,0,none⟩) 1 1) [(l,ra,rc)] w3:=by
 subst hw;have hk:ig R W.heap.size w2 (w2.alloc (.cells #[.slice ra l.length rc] 69)):=ig.quiet (Kp.alloc _ _) q.size;refine⟨gL (xI w2 69 (.slice ra l.length rc)) q.size,hF.kept hk.cell,fun x hx=> ?_,(q.trans (Kp.alloc _ _)).low⟩;simp at hx;subst hx;refine⟨hF.kept hk.cell,fun h=> ?_⟩;obtain⟨b,e,h3,h4⟩:=hb h;exact⟨b,e,h3,hk.isV (qd hr0 h3) h4⟩
theorem Bd{X w4:World}(hg:X.grownBy w4 (Value.slice none 0 0).ownBlock):aA X w4:=⟨hg.os,hg.tape,hg.output,hg.size,fun k hk _=>hg.block k hk (by simp[Value.ownBlock])⟩
theorem vE{R:Nat->Bool}{h:Nat}{w w1:World}{b off:Nat}{x:Value}(k:ig R h w w1)(hr:R b=false)(hv:IsV w b)(hc:w.cell? ⟨b,off,none⟩=some x):w1.cell? ⟨b,off,none⟩=some x:=by
 obtain⟨c,hb⟩:=hv;exact(bz ((k.2 b c _ hr hb).trans hb.symm)).trans hc
theorem Ju{R:Nat->Bool}{h:Nat}{w w1:World}{b off:Nat}{v:V}(k:ig R h w w1)(hr:R b=false)(hv:IsV w b)(hh:v.head w b off):v.head w1 b off:=
 ⟨vE k hr hv hh.1,vE k hr hv hh.2⟩
theorem mW{w:World}{b:Nat}(h:IsV w b)(off:Nat):w.frozen? ⟨b,off,none⟩=false:=by
 obtain⟨c,hb⟩:=h;exact aG w b off _ 71 hb
theorem Vx(l:List V)(ao:Option Addr)(cap:Nat)(R:Nat->Bool)(w:World)(hr0:∀k,R k=true->k<w.heap.size)(hF:Fo (jd R w.heap.size w) l ao)(hS:sizes l<=20000):
 Calls prog 179 #[.slice ao l.length cap,.func (.func 175) #[] #[],.func (.func 180) #[] #[]] w fun e w'=>∃ao' cap',e= .returned (.slice ao' l.length cap')/\Fo (jd R w.heap.size w') l ao'/\aA w w':=by
 obtain⟨i0,hi0,hz0,hz1,hz2⟩:=bM fM;obtain⟨j0,hj0,jz0,jz1,jz2⟩:=bM kN;have acK:l.length<=20000:=by have:=fG l;omega
 have HM:=hid (wU l ao cap 262144 w hF.aeW hS (by decide));have hd:=hid (show decide (262144<sizes l)=false by simp;omega);have HF:=hid hF;have hlk:=PM;have hmd:=RH;clear hF;by_cases hl0:l.length=0
 ·obtain rfl:=bB hl0;rw[bf]at HM|-;clear hl0 acK HF hS hr0;cases ao with
  |none=>
   go_enter func179,ntmps179;go_wp2_with (go_at_call 174;refine HM.out.mono ?_;rintro e w2 ⟨rfl,q2⟩;rw[hd.out]);have q3:aA w (w2.alloc (.cells #[.slice none 0 0] 69)):=q2.trans (Kp.alloc _ _);clear HM hd;go_loopg [9] 1 (fun gk sv wr=>aA w wr/\((gk=1/\sv= .slice (some ⟨w2.heap.size,0,none⟩) 1 1/\wr.cell? ⟨w2.heap.size,0,none⟩=some (.slice none 0 0))\/(gk=0/\sv= .slice (some ⟨w2.heap.size,0,none⟩) 0 1)));case atStart=>exact⟨q3,.inl ⟨rfl,rfl,by simp⟩⟩
   case round=>
    obtain⟨qr,⟨rfl,rfl,hc⟩|⟨rfl,rfl⟩⟩:=hrel
    ·go_wp2;go_loopw [9,44] (fun sv i w6=>i= .int .i64 0/\sv= .slice (some ⟨w2.heap.size,0,none⟩) 0 1/\aA w w6) (fun _ _ _=>0);case atStart=>exact⟨rfl,rfl,qr⟩
     case round=>
           obtain⟨rfl,rfl,q6⟩:=hrel;go_wp2;go_roundg 0;case measure=>decide
           case rel=>exact⟨q6,.inr ⟨rfl,rfl⟩⟩
    ·go_wp2;go_ret;exact⟨none,0,rfl,Fo.nil _ _,qr⟩
  |some a=>
   go_enter func179,ntmps179;go_wp2_with (go_at_call 174;refine HM.out.mono ?_;rintro e w2 ⟨rfl,q2⟩;rw[hd.out]);have q3:aA w (w2.alloc (.cells #[.slice none 0 0] 69)):=q2.trans (Kp.alloc _ _);clear HM hd;go_loopg [9] 1 (fun gk sv wr=>aA w wr/\((gk=1/\sv= .slice (some ⟨w2.heap.size,0,none⟩) 1 1/\wr.cell? ⟨w2.heap.size,0,none⟩=some (.slice none 0 0))\/(gk=0/\sv= .slice (some ⟨w2.heap.size,0,none⟩) 0 1)));case atStart=>exact⟨q3,.inl ⟨rfl,rfl,by simp⟩⟩
   case round=>
    obtain⟨qr,⟨rfl,rfl,hc⟩|⟨rfl,rfl⟩⟩:=hrel
    ·go_wp2;go_loopw [9,44] (fun sv i w6=>i= .int .i64 0/\sv= .slice (some ⟨w2.heap.size,0,none⟩) 0 1/\aA w w6) (fun _ _ _=>0);case atStart=>exact⟨rfl,rfl,qr⟩
     case round=>
           obtain⟨rfl,rfl,q6⟩:=hrel;go_wp2;go_roundg 0;case measure=>decide
           case rel=>exact⟨q6,.inr ⟨rfl,rfl⟩⟩
    ·go_wp2;go_ret;exact⟨none,0,rfl,Fo.nil _ _,qr⟩
 ·obtain⟨b0,o0,hao⟩:∃b0 o0,ao=some ⟨b0,o0,none⟩:=by obtain⟨b0,o0,e,_⟩:=HF.out 0 (by omega);exact⟨b0,o0,e⟩
  subst hao;have hpos:0<l.length:=by omega
  have key:∀w2,aA w w2->∃ps:List Kd,ps.map (·.1)=l/\(∀p∈ps,Is (jd R w.heap.size w2) p.1 p.2.1)/\(∀j x,(eB ps)[j]?=some x->w2.cell? ((⟨b0,o0,none⟩:Addr).add j)=some x)/\(eB ps).length=l.length*3:=by
   intro w2 q2;obtain⟨ps,h1,h2,h3⟩:=Lt (HF.out.kept (ig.quiet q2 (aj _)).cell);refine⟨ps,h1,h2,fun j x hx=> ?_, ?_⟩;rw[Addr.add_lit];exact(jL (h3 j x hx)).1;rw[mZ,<-h1,bE]
  have HK:=hid key;clear key;go_enter func179,ntmps179;go_wp2_with (first
   |(at_builtin;refine aX _ rfl (.const (.slice none 0 0)) (.tmp 24) 69 rfl w.heap.size 71 i0 _ 3 40 fE hi0 hz0 hz1 hz2 rfl (by decide) (.slice none 0 0) 0 [] rfl (bq _ _ _ _) ⟨b0,o0,none⟩ l.length cap (eB ps) rfl p4 p3 (uB ps) hpos (by unfold maxLen;omega) (by omega) q2.size _ rfl ?_;intro G cap4 w4 hr4 hg4 aeX agi;rw[bP,dm]at hr4;have q4:=Bd hg4;have hGe:=hid (aeX.resolve_left (by simp[Value.ownBlock]));have HR4:=hid hr4;clear hg4 aeX hr4)
   |(go_at_call 174;refine HM.out.mono ?_;rintro e w2 ⟨rfl,q2⟩;rw[hd.out];obtain⟨ps,p1,p2,p3,p4⟩:=HK.out _ q2;have HP1:=bC p1 p2;clear p1 p2))
  have HS:=hid (Ny (R:=R) (w3:=w4.alloc (.cells #[.slice (some ⟨G,0,none⟩) l.length cap4] 69)) (rc:=cap4) hr0 (q2.trans q4) (J2 HP1.out.1 HP1.out.2 (ig.quiet q4 q2.size) HR4.out (by have:=aC List.length HP1.out.1;simp at this;omega) hpos (qd hr0 (by have:=hGe.out;have:=q2.size;omega))).1 (fun _=>⟨G,rfl,by have:=hGe.out;have:=q2.size;omega,(J2 HP1.out.1 HP1.out.2 (ig.quiet q4 q2.size) HR4.out (by have:=aC List.length HP1.out.1;simp at this;omega) hpos (qd hr0 (by have:=hGe.out;have:=q2.size;omega))).2⟩) rfl);clear p3 p4 q2 q4 HK HM hd HR4 hGe HP1 agi HF hl0;go_loopg [9] (1+sizes l) (fun gk sv wr=>∃ts:List Pl,tsz ts=gk/\gk<=1+sizes l/\NS R w l (some ⟨G,0,none⟩) sv ts wr);case atStart=>exact⟨[(l,some ⟨G,0,none⟩,cap4)],mR _,aj _,HS.out⟩
  case round=>
   clear HS;obtain⟨ts,hsz,hle,H⟩:=hrel;rcases eH ts with rfl|⟨ts,⟨u,ua,uc⟩,rfl⟩
   ·obtain⟨av,cv,hsv⟩:=YU H.row;have HH:=hid H;subst hsv;clear hsz hle H;go_wp2;go_ret;exact⟨some ⟨G,0,none⟩,cap4,rfl,HH.out.root,gV HH.out.low⟩
   ·rw[eO]at hsz H;have hr:=H.row;rw[bA,dz,List.map_nil,ak,aL,bf,bP]at hr;obtain⟨g,cp,hv⟩:=fP hr (by omega);subst hv;obtain⟨hr',hc'⟩:=lU hr rfl;have hc:=hc' 0 (by decide);simp only[Nat.mul_one,eD,List.getElem?_cons_zero,Z0]at hc;have hu:=H.all (u,ua,uc) (by simp);simp only at hu;rw[kC,mR]at hsz;have htl:=wF ts;have hul:=fG u;have hcp:=kQ hr;simp only at hsz;have abz:u.length<=20000:=(by omega);have ach:ts.length<=20000:=(by omega);have HX:=bC hsz hle;have HH:=hid (show NS R w l (some ⟨G,0,none⟩) (.slice (some ⟨g,0,none⟩) ts.length cp) ts wr from⟨hr',H.root,fun x hx=>H.all x (by simp[hx]),H.low⟩);have HU:=hid hu;clear hc' hr hsz hle H hr' hu;go_wp2;go_loopw [9,44] (fun sv i w6=>∃(j:Nat) (ks:List Pl),j<=u.length/\i= .int .i64 j/\NS R w l (some ⟨G,0,none⟩) sv (ts++ks) w6/\(tsz ks<=sizes (u.take j)/\ks.length<=j)/\Fo (jd R w.heap.size w6) u ua/\(u≠[]->∃b,ua=some ⟨b,0,none⟩/\w.heap.size<=b/\IsV w6 b)) (fun _ i _=>u.length-(intOf i).toNat);case atStart=>exact⟨0,[],aP _,rfl,by rw[dC];exact HH.out,⟨by simp[zx],aj _⟩,HU.out⟩
    case round=>
     rename World=>wq;clear HH HU hc;obtain⟨j,ks,hj,rfl,H,hks,hfu,hub⟩:=hrel;have htt:=gy u j;have abA:(ts++ks).length<=40000:=(by have:=HX.out;have:=wF ks;simp only[ak];omega);obtain⟨nk,hnk⟩:∃nk,nk=(ts++ks).length:=⟨_,rfl⟩;have rR:=H.row;rw[<-hnk]at rR abA;have HNK:=hid hnk;obtain⟨av,cv,hsv⟩:=YU rR;clear hnk rR;by_cases hlt:j<u.length
     ·obtain⟨b,hua,hbl,hbv⟩:=hub (by intro e;rw[e]at hlt;simp at hlt);subst hua;obtain⟨b',o',e',hh,ca,cc,cs,hci⟩:=hfu.get j hlt;cases e';rw[bP]at hh cs;have hnx:=mo u j hlt;generalize hcu:u[j]=c at*;have hat:c.at (jd R w.heap.size wq) b (j*3):=(Zt _ _ _ _).2 ⟨hh,ca,cc,cs,hci⟩;have hh':=gq (fun a x hc=>(jL hc).1) hh;obtain⟨d0,d1⟩:=hh';have ds:=(jL cs).1;have HN:=gp hnx (size_eq c) hks;have HAT:=hid hat;have HH:=gp H hfu hbv;have adO:c.l.length<=20000:=(by have:=fG c.l;have:=size_eq c;have:=gy u (j+1);have:=HX.out;omega);have HHD:=hid hh;have HCI:=hid hci;have HBL:=hid hbl;have hbr:R b=false:=qd hr0 hbl;subst hsv;clear hcu hnx hks hat hh cs hci hfu hub H hbv hbl;by_cases hcl:c.l.length=0
      ·have hcl':¬(0:Int)<(c.l.length:Int):=(by omega);have HCL:=hid (bB hcl);have HKY:=hid (show oU ca c.l.length= .agg #[.pointer none,.int .i64 c.l.length]by simp[oU,hcl]);clear hcl;go_wp2_with (first
            |(go_at_call 180;refine(Hl c ca none cc 0 0 _).mono ?_;rintro e w7 ⟨rfl,q7⟩;replace q7:aA wq w7:=q4.trans q7;obtain⟨e0,e1⟩:=gq (eZ q7.low) (⟨d0,d1⟩:c.head wq b (j*3));have es:w7.cell? ⟨b,j*3+2,none⟩=some (.slice ca c.l.length cc):=q7.cell ds (fun e=>e);have hv7:=(ig.quiet (R:=R) q7 HH.out.1.low.size).isV hbr HH.out.2.2;have f0:=mW hv7 (j*3);have f1:=mW hv7 (j*3+1);have f2:=mW hv7 (j*3+2);have f3:=mW hv7 (j*3+3))
            |(go_at_call 202;refine(kV ca c.l.length cc w3 (fun h=>by rw[HCL.out]at h;simp at h)).mono ?_;rintro e w4 ⟨rfl,q4⟩;rw[HKY.out];replace q4:=q3.trans q4;obtain⟨e0,e1⟩:=gq (eZ q4.low) (⟨d0,d1⟩:c.head wq b (j*3));have es:w4.cell? ⟨b,j*3+2,none⟩=some (.slice ca c.l.length cc):=q4.cell ds (fun e=>e))
            |(go_at_call 175;refine(ib c ca cc _).mono ?_;rintro e w3 ⟨rfl,q3⟩))
       have hcz:c.l.length=0:=(by rw[HCL.out];rfl);have hW:=(HH.out.1.quiet hr0 q7).write hr0 (u:=c) (ao':=none) (cap':=0) (xq (ig.quiet q7 HH.out.1.low.size).cell c _ _ HAT.out) HBL.out hv7 (by rw[HCL.out];exact Fo.nil _ _) (by rw[hcz];exact LA (v:=c) (y:= .slice none 0 0) ⟨e0,e1⟩ es);refine⟨⟨j+1,ks,by omega,by go_num,hW.1, ?_,hW.2.1 _ _ (HH.out.2.1.kept (ig.quiet q7 HH.out.1.low.size).cell),fun _=>⟨b,rfl,HBL.out,hW.2.2 _ hv7⟩⟩,by simp[intOf];omega⟩;have h1:=HN.out;omega
      ·have hcl':(0:Int)<(c.l.length:Int):=(by omega);obtain⟨cb,co,hca⟩:∃cb co,ca=some ⟨cb,co,none⟩:=(by obtain⟨b',o',e,_⟩:=HCI.out.fo 0 (by omega);exact⟨b',o',e⟩);subst hca;have hcp:0<c.l.length:=(by omega);have HKY:=hid (show oU (some ⟨cb,co,none⟩) c.l.length= .agg #[.pointer (some ⟨cb,co,none⟩),.int .i64 c.l.length]by simp[oU,hcl]);have key:∀w4,aA wq w4->∃ps:List Kd,ps.map (·.1)=c.l/\(∀p∈ps,Is (jd R w.heap.size w4) p.1 p.2.1)/\(∀j x,(eB ps)[j]?=some x->w4.cell? ((⟨cb,co,none⟩:Addr).add j)=some x)/\(eB ps).length=c.l.length*3/\c.l.length=ps.length:=by
            intro w4 q4;obtain⟨ps,h1,h2,h3⟩:=Lt (HCI.out.fo.kept (ig.quiet q4 HH.out.1.low.size).cell);refine⟨ps,h1,h2,fun j x hx=> ?_, ?_, ?_⟩;rw[Addr.add_lit];exact(jL (h3 j x hx)).1;rw[mZ,<-h1,bE];rw[<-h1,bE]
       have HK:=hid key;have agj:=hid (show c.head wq b (j*3)from⟨d0,d1⟩);have hsq:=hid HH.out.1.low.size;have aip:=HH.out.1.low.size;clear key;go_wp2_with (first
            |(go_at_call 180;refine(Hl c (some ⟨cb,co,none⟩) (some ⟨G2,0,none⟩) cc c.l.length cap5 _).mono ?_;rintro e w7 ⟨rfl,q7⟩;obtain⟨e0,e1⟩:=gq (eZ q7.low) H6.out.1;have es:w7.cell? ⟨b,j*3+2,none⟩=some (.slice (some ⟨cb,co,none⟩) c.l.length cc):=q7.cell H6.out.2.1 (fun e=>e);have hv7:=(ig.quiet (R:=R) q7 N6.out.1.low.size).isV hbr H6.out.2.2;have f0:=mW hv7 (j*3);have f1:=mW hv7 (j*3+1);have f2:=mW hv7 (j*3+2);have f3:=mW hv7 (j*3+3))
            |(at_builtin;refine aX _ rfl (.tmp 69) (.tmp 71) 280 rfl w.heap.size 69 j0 _ 1 24 lV hj0 jz0 jz1 jz2 rfl (by decide) _ nk ((ts++ks).map Z0) rfl (hr5.out.alloc _) ⟨w5.heap.size,0,none⟩ 1 1 [Z0 (c.l,some ⟨G2,0,none⟩,cap5)] rfl rfl (gT w5 _ 69) (by simp[Value.oneCell',Z0]) (by decide) (by unfold maxLen;omega) (by omega) (by simp;omega) _ rfl ?_;intro g6 cap6 w6 hr6 hg6 agk acg;have N6:=hid ((HH.out.1.quiet hr0 (q4.trans q5.out)).push hr0 (x:=(c.l,some ⟨G2,0,none⟩,cap5)) ⟨hC5.out.1,fun _=>⟨G2,rfl,hG2.out,hC5.out.2⟩⟩ HNK.out hr6 hg6);have H6:=gp (Ju N6.out.2 hbr hV5.out (gq (eZ (q4.trans q5.out).low) agj.out)) (vE N6.out.2 hbr hV5.out ((q4.trans q5.out).cell ds (fun e=>e))) (N6.out.2.isV hbr hV5.out);obtain⟨g0,g1⟩:=H6.out.1;have gs:=H6.out.2.1;clear hr6 hg6 agk acg)
            |(at_builtin;refine aX _ rfl (.const (.slice none 0 0)) (.tmp 67) 69 rfl w.heap.size 71 i0 _ 3 40 fE hi0 hz0 hz1 hz2 rfl (by decide) (.slice none 0 0) 0 [] rfl (bq _ _ _ _) ⟨cb,co,none⟩ c.l.length cc (eB ps) rfl p4 p3 (uB ps) hcp (by unfold maxLen;omega) (by omega) (by have:=q4.size;omega) _ rfl ?_;intro G2 cap5 w5 ad7 hg5 aeZ agn;rw[bP,dm]at ad7;have q5:=hid (Bd hg5);have hG2:=hid (show w.heap.size<=G2 by have:=aeZ.resolve_left (by simp[Value.ownBlock]);have:=q4.size;omega);have hC5:=hid (J2 HP.out.1 HP.out.2.1 (ig.quiet q5.out (by have:=q4.size;omega)) ad7 HP.out.2.2 hcp (qd hr0 hG2.out));have hr5:=hid (show w5.ownsRow w.heap.size 69 1 (.slice av nk cv) nk ((ts++ks).map Z0)by have:=(HH.out.1.quiet hr0 (q4.trans q5.out)).row;rw[<-HNK.out]at this;exact this);have hV5:=hid ((ig.quiet (R:=R) (q4.trans q5.out) hsq.out).isV hbr HH.out.2.2);have hs5:=(q4.trans q5.out).size;clear ad7 hg5 aeZ agn)
            |(go_at_call 202;refine(kV (some ⟨cb,co,none⟩) c.l.length cc w3 (fun h=>⟨cb,co,rfl⟩)).mono ?_;rintro e w4 ⟨rfl,q4⟩;rw[HKY.out];replace q4:=q3.trans q4;obtain⟨ps,p1,p2,p3,p4,p5⟩:=HK.out w4 q4;have HP:=gp p1 p2 p5;clear p1 p2 p5)
            |(go_at_call 175;refine(ib c (some ⟨cb,co,none⟩) cc _).mono ?_;rintro e w3 ⟨rfl,q3⟩))
       have k7:=ig.quiet (R:=R) q7 N6.out.1.low.size;have k5:=ig.quiet (R:=R) (q4.trans q5.out) hsq.out;have k57:=(k5.trans N6.out.2).trans k7;have hW:=(N6.out.1.quiet hr0 q7).write hr0 (u:=c) (ao':=some ⟨G2,0,none⟩) (cap':=cap5) (xq k57.cell c _ _ HAT.out) HBL.out hv7 (hC5.out.1.kept (N6.out.2.trans k7).cell) (LA (v:=c) (y:= .slice (some ⟨G2,0,none⟩) c.l.length cap5) ⟨e0,e1⟩ es);refine⟨⟨j+1,ks++[(c.l,some ⟨G2,0,none⟩,cap5)],by omega,by go_num,by rw[<-aV];exact hW.1, ?_,hW.2.1 _ _ (HH.out.2.1.kept k57.cell),fun _=>⟨b,rfl,HBL.out,hW.2.2 _ hv7⟩⟩,by simp[intOf];omega⟩;have h1:=HN.out;rw[kC,mR,ak];simp only[aL,bf];omega
     ·have hjl:j=u.length:=(by omega);subst hjl;subst hsv;have HH:=bC H hks;clear H hks hfu hub;go_wp2;go_roundg (tsz (ts++ks));case measure=>
            have h2:=HH.out.2;have h3:=HX.out;rw[aZ]at h2;rw[kC];omega
      case rel=>
            refine⟨ts++ks,rfl, ?_,HH.out.1⟩;have h2:=HH.out.2;have h3:=HX.out;rw[aZ]at h2;rw[kC];omega
theorem SQ{w w':World}{R:Nat->Bool}{h:Nat}(q:Kp (fun k=>R k=true) w w')(hh:h<=w.heap.size):ig R h w w':=
 ⟨fun k hr hk=>q.block k (by omega) (by simp[hr]),fun k _ _ hr e=>(q.block k (ae e) (by simp[hr])).trans e⟩
def I7(F:Nat->Prop)(n x:Nat)(R:Nat->Bool):Prop:=∀k,R k=true<->((F k/\k<n)\/k=x)
theorem Ur(F:Nat->Prop)(n x:Nat):∃R,I7 F n x R:=by
 classical
 exact⟨fun k=>decide ((F k/\k<n)\/k=x),fun k=>decide_eq_true_iff⟩
theorem I7.no{F:Nat->Prop}{n x k:Nat}{R:Nat->Bool}(hR:I7 F n x R)(h:¬F k)(hx:k≠x):R k=false:=by
 cases e:R k with
 |false=>rfl
 |true=>rcases(hR k).1 e with e|e;exact absurd e.1 h;exact absurd e hx
theorem I7.yes{F:Nat->Prop}{n x k:Nat}{R:Nat->Bool}(hR:I7 F n x R)(h:R k=false)(hk:k<n):¬F k:=fun e=>by
 rw[(hR k).2 (.inl ⟨e,hk⟩)]at h;cases h
theorem VU{F:Nat->Prop}{w W:World}{x:Nat}{R:Nat->Bool}(hR:I7 F w.heap.size x R)(q:aA w W)(hx:w.heap.size<=x):Kp F w (jd R W.heap.size W):=by
 refine⟨q.os,q.tape,q.output,by simpa [jd]using q.size,fun k hk hF=> ?_⟩;rw[tL (hR.no hF (by omega)) (by have:=q.size;omega)];exact q.block k hk fun e=>e
theorem Jn{F:Nat->Prop}{n h x:Nat}{w:World}{v:V}{ao:Option Addr}{R:Nat->Bool}(hR:I7 F n x R)(hF:∀k,F k->k<n)(hi:Is (jd R h w) v ao):bu F (fun w=>Is w v ao) w:=by
 intro w2 k2;refine hi.kept fun a u hc=> ?_;obtain⟨h1,h2,_⟩:=jL hc;refine k2.cell h1 fun e=> ?_;exact hR.yes h2 (hF _ e) e
theorem zI(F:Nat->Prop)(v:V)(ao:Option Addr)(cap:Nat)(w:World)(hF:∀k,F k->k<w.heap.size)(hI:bu F (fun w=>Is w v ao) w)(hS:v.size<=500):
 Calls prog 151 #[.agg #[.int .i64 v.kind,.int .i64 v.n,.slice ao v.l.length cap]] w fun e w'=>∃ao' cap',e= .returned (.agg #[.int .i64 v.kind,.int .i64 v.n,.slice ao' v.l.length cap'])/\bu F (fun w=>Is w v ao') w'/\aA w w':=by
 obtain⟨W,hW⟩:∃W,W=((w.alloc (.cells #[.int .i64 v.kind,.int .i64 v.n,.slice ao v.l.length cap] 71)).alloc (.cells #[.int .i64 0,.int .i64 0,.slice none 0 0] 71)).alloc (.cells #[.int .i64 v.kind,.int .i64 v.n,.slice ao v.l.length cap] 71):=⟨_,rfl⟩;have q3:aA w W:=by rw[hW];exact(Kp.alloc _ _).trans ((Kp.alloc _ _).trans (Kp.alloc _ _))
 have sW:W.heap.size=w.heap.size+3:=by rw[hW];simp
 have b1:W.heap[w.heap.size+1]?=some (.cells #[.int .i64 0,.int .i64 0,.slice none 0 0] 71 (0,0)):=by
  rw[hW,aB _ _ _ (by simp)];exact Y2 w _ _
 have b2:W.heap[w.heap.size+2]?=some (.cells #[.int .i64 v.kind,.int .i64 v.n,.slice ao v.l.length cap] 71 (0,0)):=by
  rw[hW];have:=ah ((w.alloc (.cells #[.int .i64 v.kind,.int .i64 v.n,.slice ao v.l.length cap] 71)).alloc (.cells #[.int .i64 0,.int .i64 0,.slice none 0 0] 71)) (.cells #[.int .i64 v.kind,.int .i64 v.n,.slice ao v.l.length cap] 71);simpa using this
 obtain⟨R,hR⟩:=Ur F w.heap.size (w.heap.size+1);have hRn:∀k,w.heap.size<=k->k≠w.heap.size+1->R k=false:=fun k h1 h2=>hR.no (fun e=>by have:=hF k e;omega) h2;have hF1:Fo (jd R W.heap.size W) [v] (some ⟨w.heap.size+2,0,none⟩):=by
  refine uK (ao:=ao) (cap:=cap) ?_ (hI _ (VU hR q3 (by omega)));rw[tL (hRn _ (by omega) (by omega)) (by omega)];exact b2
 have hr0:∀k,R k=true->k<W.heap.size:=by
  intro k e;rcases dO k W.heap.size with h|h;exact h;rw[hRn k (by omega) (by omega)]at e;cases e
 have HO:=hid (Vx [v] (some ⟨w.heap.size+2,0,none⟩) 1 R W hr0 hF1 (by rw[ky];omega));rw[aJ]at HO;have HB:=gp q3 sW b1;have HW:=hid hW;have HR:=bC hR hF;rw[hW]at HO;clear b1 b2 hF1 q3 sW hW hI hr0 hRn hR hF;go_enter func151,ntmps151;go_wp2_with (go_at_call 179;refine HO.out.mono ?_;rintro e w3 ⟨a3,c3,rfl,f3,q3⟩;rw[<-HW.out]at f3 q3;obtain⟨b,off,rfl,hh,ai,ci,cs,hci⟩:=f3.get 0 (by simp);simp only[List.getElem_cons_zero,Nat.zero_mul,eD]at hh cs hci;obtain⟨d0,d1⟩:=gq (fun a x hc=>(jL hc).1) hh;have ds:=(jL cs).1;have hb3:=(q3.block _ (ae HB.out.2.2) (fun e=>e)).trans HB.out.2.2;obtain⟨r0,r1,rs⟩:=aM hb3;have f0:=aG w3 (w.heap.size+1) 0 _ 71 hb3;have f1:=aG w3 (w.heap.size+1) 1 _ 71 hb3;have f2:=aG w3 (w.heap.size+1) 2 _ 71 hb3;have hz3:=ae hb3;have HC:=hid hci;clear hci hh cs f3 hb3);refine au (v:= .agg #[.int .i64 v.kind,.int .i64 v.n,.slice ai v.l.length ci]) (by simp[results,results151,go_sem,r0,r1,rs]) rfl ?_;have qz:Kp (fun k=>k=w.heap.size+1) w3 (((w3.setCell ⟨w.heap.size+1,0,none⟩ (.int .i64 v.kind)).setCell ⟨w.heap.size+1,1,none⟩ (.int .i64 v.n)).setCell ⟨w.heap.size+1,2,none⟩ (.slice ai v.l.length ci)):=((bF _ _ _ _).trans (bF _ _ _ _)).trans (bF _ _ _ _);have qr:Kp (fun k=>R k=true) w3 (((w3.setCell ⟨w.heap.size+1,0,none⟩ (.int .i64 v.kind)).setCell ⟨w.heap.size+1,1,none⟩ (.int .i64 v.n)).setCell ⟨w.heap.size+1,2,none⟩ (.slice ai v.l.length ci)):=qz.mono fun k _ e=>(HR.out.1 k).2 (.inr e);refine⟨ai,ci,rfl, ?_,(HB.out.1.trans q3).fresh (qz.mono fun k _ e=>by omega)⟩;have h1:=HC.out.kept (SQ qr (by have:=q3.size;omega)).cell;exact Jn HR.out.1 HR.out.2 h1
theorem lG(p:Int)(w:World):Calls prog 150 #[.int .i64 p] w fun e w'=>e= .returned (.bool (bY p))/\w'=w:=by
 by_cases h0:0<=p
 ·by_cases h1:p<4
  ·have hE:=hid (show bY p=true by simp[bY];omega);go_enter func150,ntmps150;go_wp2;go_ret;exact⟨by rw[hE.out];simp[*],rfl⟩
  ·have hE:=hid (show bY p=false by simp[bY];omega);go_enter func150,ntmps150;go_wp2;go_ret;exact⟨by rw[hE.out];simp[*],rfl⟩
 ·have hE:=hid (show bY p=false by simp[bY];omega);have hd:decide (0<=p)=false:=by simpa using h0
  go_enter func150,ntmps150;go_wp2;go_ret;exact⟨by rw[hE.out];simp[*],rfl⟩
theorem FL(k n:Int)(w:World):Calls prog 195 #[.int .i64 k,.int .i64 n,.int .i64 0] w fun e w'=>e= .returned (.agg #[.int .i64 0,.int .i64 0,.int .i64 k,.int .i64 n,.slice none 0 0])/\aA w w':=by
 go_enter func195,ntmps195;go_wp2;refine au (v:= .agg #[.int .i64 0,.int .i64 0,.int .i64 k,.int .i64 n,.slice none 0 0]) (by simp[results,results195,go_sem]) rfl ⟨rfl, ?_⟩;exact Kp.alloc _ _
theorem KR(k n c:Int)(hc:c≠0)(w:World):Calls prog 195 #[.int .i64 k,.int .i64 n,.int .i64 c] w fun e w'=>e= .returned (.agg #[.int .i64 c,.int .i64 0,.int .i64 0,.int .i64 0,.slice none 0 0])/\aA w w':=by
 go_enter func195,ntmps195;go_wp2;refine au (v:= .agg #[.int .i64 c,.int .i64 0,.int .i64 0,.int .i64 0,.slice none 0 0]) (by simp[results,results195,go_sem]) rfl ⟨rfl, ?_⟩;exact Kp.alloc _ _
section
variable{M:Hx}{q:Hq}{h:Hs}{w:World}{X:Nat->Prop}
theorem bH.adD(H:bH X M q h w)(j:Nat)(hj:j<4):w.cell? ⟨M.hb,1+j,none⟩=some (gK q h j):=by
 have hb:=H.obj;obtain rfl|rfl|rfl|rfl:j=0\/j=1\/j=2\/j=3:=by omega
 all_goals simp[World.cell?,hb]
def jo(q:Hq)(h:Hs)(p:Int):Value:=if bY p then gK q h p.toNat else .slice none 0 0
theorem yh(H:bH X M q h w)(p:Int):Calls prog 147 #[.pointer (some ⟨M.hb,0,none⟩),.int .i64 p] w fun e w'=>e= .returned (jo q h p)/\w'=w:=by
 cases hp:bY p with
 |false=>
  have hE:=hid (show jo q h p= .slice none 0 0 by simp[jo,hp]);go_enter func147,ntmps147;go_wp2_with (go_at_call 150;refine(lG p _).mono ?_;rintro e w' ⟨rfl,rfl⟩;rw[hp]);go_ret;exact⟨by rw[hE.out];rfl,rfl⟩
 |true=>
  have hpp:0<=p/\p<4:=by simpa [bY]using hp
  obtain⟨j,rfl⟩:∃j:Nat,p=j:=⟨p.toNat,by omega⟩;have hE:=hid (show jo q h j=gK q h j by simp[jo,hp]);have hc:=H.adD j (by omega);have hj4:(j:Int)<4:=hpp.2;unfold gK at hc hE;clear hpp;go_enter func147,ntmps147;go_wp2_with (go_at_call 150;refine(lG j _).mono ?_;rintro e w' ⟨rfl,rfl⟩;rw[hp]);go_ret;exact⟨by rw[hE.out];simp,rfl⟩
end
theorem ND(d:Nat)(a:Option Addr)(n c:Nat)(w:World):(Op.equalIn (d+1) 69 (.slice a n c) (.slice none 0 0)).run prog w= .ok a.isNone w:=by
 cases a<;>simp[Op.equalIn,bR fE]
theorem UF(a:Option Addr)(n c:Nat)(w:World):(binOp .eql 69 (.slice a n c) (.slice none 0 0)).run prog w= .ok (.bool a.isNone) w:=by
 simp only[binOp];simp[Op.equal,Op.maxDepth,ND 9999 a n c w]
theorem Fg{w w1:World}{o:Obj}{v':Value}{n:Nat}{xs:List Value}(hr:w1.ownsRow w.heap.size 71 3 v' (0+n) ([]++xs))(hg:(w.alloc o).grownBy w1 (Value.slice (some ⟨w.heap.size,0,none⟩) 0 0).ownBlock):
 w1.ownsRow w.heap.size 71 3 v' n xs/\aA w w1:=by
 refine⟨by simpa using hr,hg.os,hg.tape,hg.output,aF (Kp.alloc (F:=fun _=>False) w o).size hg.size,fun k hk _=> ?_⟩;rw[hg.block k (by simp;omega) (by simp[Value.ownBlock];omega)];exact aB w o k hk
theorem IB(B:Nat)(w:World)(v:Value)(n:Nat)(ps:List Kd)(h:w.ownsRow B 71 3 v n (eB ps))(hl:n=ps.length)(hn:n<=100000):
 Calls prog 146 #[v] w fun e w'=>∃ao cap,e= .returned (.slice ao n cap)/\w'.ownsRow w.heap.size 71 3 (.slice ao n cap) n (eB ps)/\aA w w':=by
 obtain⟨i0,hi,hz0,hz1,hz2⟩:=bM fM;have q:=UF;rcases h.2 with⟨rfl,h0⟩|⟨g,cap,cur,rfl,_⟩
 ·have hN:=hid (show w.ownsRow w.heap.size 71 3 (.slice none 0 0) n (eB ps)from⟨h.1,.inl ⟨rfl,h0⟩⟩);subst h0;clear h hl;go_enter func146,ntmps146;go_wp2;go_ret;exact⟨_,_,rfl,hN.out,Kp.refl _ _⟩
 ·have hlen:(eB ps).length=n*3:=by rw[mZ,hl]
  have acM:=hid (World.ownsRow_made (base:=w.heap.size) (e:=71) (size:=3) w #[] 0 (aj _) (by decide) (by simp));have hsrc:=hid ((h.alloc (.cells #[] 71)).cells rfl);clear h hl;go_enter func146,ntmps146;go_wp2_with (at_builtin;refine wpList_append_own _ rfl (.tmp 5) (.tmp 6) 69 rfl w.heap.size 71 i0 _ 3 40 fE hi hz0 hz1 hz2 rfl (by decide) (.slice (some ⟨w.heap.size,0,none⟩) 0 0) 0 [] rfl acM.out ⟨g,0,none⟩ n cap (eB ps) rfl hlen hsrc.out (uB ps) (by unfold maxLen;omega) (by omega) (by simp) ?_;intro v' w1 hr hg _;have hD0:=Fg hr hg;clear hr hg;obtain⟨ao,cap',rfl⟩:=Gr.YU hD0.1;have hD:=hid hD0;clear hD0);go_ret;exact⟨_,_,rfl,hD.out.1,hD.out.2⟩
section
variable{M:Hx}{q:Hq}{h:Hs}{w:World}{X:Nat->Prop}
theorem Wd(l:List V):(hd l).map (·.1)=l:=by induction l with
 |nil=>rfl
 |cons v l ih=>simp only[hd,dz]at ih|-;rw[ih]
theorem bH.all(H:bH X M q h w)(k:Nat)(e:jC M q k\/X k):k<w.heap.size:=by
 rcases e with e|e;exact(H.own k e).2;exact(H.xo k e).1
theorem xU(H:bH X M q h w)(p:Int):w.ownsRow M.B 71 3 (jo q h p) (fC h p).length (eB (hd (fC h p)))/\∀v∈fC h p,v.l=[]/\v.fits:=by
 unfold jo fC;cases hp:bY p with
 |false=>
  have hpp:¬(0<=p/\p<4):=by simpa [bY]using hp
  rw[af hpp];exact⟨bq _ _ _ _,fun v hv=>by simp at hv⟩
 |true=>
  have hpp:0<=p/\p<4:=by simpa [bY]using hp
  rw[ag hpp];exact⟨H.row p.toNat (by omega),H.leaf p.toNat (by omega)⟩
theorem RG(hf:BQ h)(p:Int):(fC h p).length<=100000:=by
 unfold fC;split;exact hf _;simp
theorem DF:VX:=by
 intro X M q h w p H hf _;obtain⟨hr,hl⟩:=xU H p;have HA:=hid H.all;have HL:=hid hl;have HC:=hid (IB M.B w (jo q h p) (fC h p).length (hd (fC h p)) hr (by simp[hd]) (RG hf p));have HH:=hid (yh H p);clear H hf hr hl;generalize jo q h p=hv at*;go_enter func114,ntmps114;go_wp2_with (first
  |(go_at_call 146;refine HC.out.mono ?_;rintro e w3 ⟨ao,cap,rfl,r3,q3⟩;have H3:=bC r3 q3;clear r3 q3)
  |(go_at_call 147;refine HH.out.mono ?_;rintro e w2 ⟨rfl,h2⟩;replace h2:=h2.symm;subst h2))
 go_ret;refine⟨ao,cap,rfl,fun w' k=> ?_,H3.out.2⟩;have hr:=k.row H3.out.1 fun i hi e=>by have:=(H3.out.1.lt i hi).1;have:=HA.out i e;omega
 have:=zZ hr (by simp[hd]) fun x hx=>by
  simp only[hd,List.mem_map]at hx;obtain⟨v,hv,rfl⟩:=hx;exact Is.leaf w' v (HL.out v hv).2 (HL.out v hv).1 none
 rwa[Wd]at this
theorem bH.ae0(H:bH X M q h w)(j:Nat)(hj:j<4):∃ao cap,w.cell? ⟨M.bb,2+j*5+2,none⟩=some (.int .i64 (fH h j).kind)/\w.cell? ⟨M.bb,2+j*5+3,none⟩=some (.int .i64 (fH h j).n)/\w.cell? ⟨M.bb,2+j*5+4,none⟩=some (.slice ao (fH h j).l.length cap)/\bu (fun k=>jC M q k\/X k) (fun w=>Is w (fH h j) ao) w:=by
 obtain⟨a,b,c,d,hb,hk⟩:=H.box;have key:∀k x,(pI M.g M.wd a b c d)[k]?=some x->w.cell? ⟨M.bb,k,none⟩=some x:=fun k x hx=>by
  rw[<-hx];simp[World.cell?,hb.obj]
 have hs:∀x,x=a\/x=b\/x=c\/x=d->bu (fun k=>jC M q k\/X k) (fun w=>Is w x.kept x.ao) w:=fun x hx=>(hk x hx).mono fun k _ e=>by
  rcases e with(e|e)|e;exact .inl e;exact .inr (.inl e);exact .inr (.inr e)
 have hks:=hb.ks;have hc:(0:Int)<=(j:Int)/\(j:Int)<4:=by omega
 have hko:fH h j=h.s.ks.getD j v0:=by unfold fH;rw[ag hc,Int.toNat_natCast]
 rw[hko,hks];obtain rfl|rfl|rfl|rfl:j=0\/j=1\/j=2\/j=3:=by omega
 ·exact⟨a.ao,a.cap,key _ _ rfl,key _ _ rfl,key _ _ rfl,hs a (.inl rfl)⟩
 ·exact⟨b.ao,b.cap,key _ _ rfl,key _ _ rfl,key _ _ rfl,hs b (.inr (.inl rfl))⟩
 ·exact⟨c.ao,c.cap,key _ _ rfl,key _ _ rfl,key _ _ rfl,hs c (.inr (.inr (.inl rfl)))⟩
 ·exact⟨d.ao,d.cap,key _ _ rfl,key _ _ rfl,key _ _ rfl,hs d (.inr (.inr (.inr rfl)))⟩
theorem bH.adl(H:bH X M q h w)(j:Nat):(fH h j).check=0:=by
 unfold fH;split
 ·rw[aD];cases e:h.s.ks[(j:Int).toNat]? with
  |none=>exact iN
  |some v=>exact H.ok.inv.good v (dx e)
 ·exact iN
theorem K5:VM:=by
 intro X M q h w p H _;cases hp:bY p with
 |false=>
  have hpp:¬(0<=p/\p<4):=by simpa [bY]using hp
  have hk:fH h p=v0:=by unfold fH;rw[af hpp]
  rw[hk];clear hpp hk H;go_enter func116,ntmps116;go_wp2_with (go_at_call 150;refine(lG p _).mono ?_;rintro e w' ⟨rfl,h2⟩;replace h2:=h2.symm;subst h2;rw[hp]);refine au (v:= .agg #[.int .i64 0,.int .i64 0,.slice none 0 0]) (by simp[results,results116,go_sem]) rfl ⟨none,0,rfl,dY v0 iR rfl none, ?_⟩;exact Kp.alloc _ _
 |true=>
  have hpp:0<=p/\p<4:=by simpa [bY]using hp
  obtain⟨j,rfl⟩:∃j:Nat,p=j:=⟨p.toNat,by omega⟩;have hj4:(j:Int)<4:=hpp.2;have q1:aA w (w.alloc (.cells #[.int .i64 0,.int .i64 0,.slice none 0 0] 71)):=Kp.alloc _ _;obtain⟨ao,cap,e0,e1,e2,hs0⟩:=H.ae0 j (by omega);have c0:=q1.cell e0 fun e=>e;have c1:=q1.cell e1 fun e=>e;have c2:=q1.cell e2 fun e=>e;have hs:bu (fun k=>(jC M q k\/X k)\/k=w.heap.size) (fun w=>Is w (fH h j) ao) (w.alloc (.cells #[.int .i64 0,.int .i64 0,.slice none 0 0] 71)):=hs0.step (q1.mono fun _ _ e=>e.elim) fun k hk e=>by
   rcases e with e|e;exact e;omega
  have d0:=(H.quiet q1).cells.1;have hb:=ah w (.cells #[.int .i64 0,.int .i64 0,.slice none 0 0] 71);have HO:=hid (zI (fun k=>(jC M q k\/X k)\/k=w.heap.size) (fH h j) ao cap _ (fun k e=>by rcases e with e|e;exact(H.quiet q1).all k e;rw[e];simp) hs (by have:=fV (H.adl j);omega));have HB:=gp hb q1 H.all;clear hpp H hs hb q1 e0 e1 e2 hs0;generalize fH h j=v at*;go_enter func116,ntmps116;go_wp2_with (first
   |(go_at_call 151;refine HO.out.mono ?_;rintro e w3 ⟨a3,c3,rfl,s3,q3⟩;have hb3:=(q3.block _ (ae HB.out.1) (fun e=>e)).trans HB.out.1;obtain⟨r0,r1,r2⟩:=aM hb3;obtain⟨f0,f1,f2⟩:=bI hb3;have hz3:=ae hb3;have H3:=gp s3 q3 hb3;clear s3 q3 hb3)
   |(go_at_call 150;refine(lG j _).mono ?_;rintro e w' ⟨rfl,h2⟩;replace h2:=h2.symm;subst h2;rw[hp]))
  have b4:=kz H3.out.2.2 (.int .i64 v.kind) (.int .i64 v.n) (.slice a3 v.l.length c3);have k4:=dE w3 w.heap.size (.int .i64 v.kind) (.int .i64 v.n) (.slice a3 v.l.length c3);generalize((w3.setCell ⟨w.heap.size,0,none⟩ (.int .i64 v.kind)).setCell ⟨w.heap.size,1,none⟩ (.int .i64 v.n)).setCell ⟨w.heap.size,2,none⟩ (.slice a3 v.l.length c3)=W4 at*;obtain⟨z0,z1,z2⟩:=aM b4;refine au (v:= .agg #[.int .i64 v.kind,.int .i64 v.n,.slice a3 v.l.length c3]) (by simp[results,results116,go_sem,z0,z1,z2]) rfl ⟨a3,c3,rfl, ?_,(HB.out.2.1.trans H3.out.2.1).fresh (k4.mono fun k _ e=>by omega)⟩;exact H3.out.1.step (k4.mono fun k _ e=> .inr e) fun k _ e=> .inl e
end
