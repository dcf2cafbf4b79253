/- Parts. -/
import Derived.Test.YtpeakfcbihoknaaGreatDoorUG0
import Derived.Laws.ResultCell
import Derived.Deep.RegionHeld3
open Go.ChangeShapes Go.WideShapes Go.ChangeAt Go.RowKit
set_option maxRecDepth 8000
set_option maxHeartbeats 2000000
namespace Go.Proofs.YtpeakfcbihoknaaGreatDoor
open Proofs.Tryz
namespace Gr
theorem pO{w wr w1:World}{o:Obj}{e:TypeId}{size:Nat}{v:Value}{n:Nat}{xs:List Value}(hk:aA w wr)(hr:wr.ownsRow w.heap.size e size v n xs)(hg:(wr.alloc o).grownBy w1 v.ownBlock):aA w w1:=
 hk.fresh ((Kp.alloc _ o).trans (Kp.grown hg fun k _ e=>(hr.lt k e.symm).1))
theorem ku{w:World}{base g cap:Nat}{ns:List Nd}(h:w.ownsRow base 207 6 (.slice (some ⟨g,0,none⟩) ns.length cap) ns.length (fI ns))(k:Nat)(hk:k<ns.length):
 w.cell? ⟨g,k*6,none⟩=some (.int .i64 ns[k].parent)/\w.cell? ⟨g,k*6+1,none⟩=some (.int .i64 ns[k].gate)/\w.cell? ⟨g,k*6+2,none⟩=some (.int .i64 ns[k].Y1)/\w.cell? ⟨g,k*6+3,none⟩=some (.int .i64 ns[k].cell)/\w.cell? ⟨g,k*6+4,none⟩=some (.int .i64 ns[k].plugin)/\w.cell? ⟨g,k*6+5,none⟩=some (.int .i64 ns[k].func):=by
 obtain⟨g',e,d⟩:=Zc h (by omega);cases e;exact PN d k hk
theorem fP{w:World}{base:Nat}{e:TypeId}{size:Nat}{v:Value}{n:Nat}{xs:List Value}(h:w.ownsRow base e size v n xs)(hn:0<n):∃g cap,v= .slice (some ⟨g,0,none⟩) n cap:=by
 obtain⟨ao,cap,rfl⟩:=YU h;obtain⟨g,rfl,_⟩:=Zc h hn;exact⟨g,cap,rfl⟩
def rX(l:List Int):List Value:=l.map (Value.int .i64)
theorem iF{α:Type}(l:List α)(k:Nat)(hk:k<l.length):l.take (k+1)=l.take k++[l[k]]:=by
 rw[dQ];simp[hk]
section
variable{B:Nat}{w:World}{b:Nat}{vn vo:Value}{ns:List Nd}{os:List Bool}
theorem PL{w wr w1:World}{o:Obj}{acc:List Nd}{x:Nd}{v:Value}{g cap:Nat}(hq:aA w wr)(hr:wr.ownsRow w.heap.size 207 6 v acc.length (fI acc))(hg:(wr.alloc o).grownBy w1 v.ownBlock)(h1:w1.ownsRow w.heap.size 207 6 (.slice (some ⟨g,0,none⟩) (acc.length+1) cap) (acc.length+1) (fI acc++x.cells)):
 w1.ownsRow w.heap.size 207 6 (.slice (some ⟨g,0,none⟩) (acc.length+1) cap) (acc++[x]).length (fI (acc++[x]))/\aA w w1:=by
 refine⟨?_,pO hq hr hg⟩;rw[Z9];simpa using h1
theorem zn(h:GS 184 B w b vn vo ns os)(hw:Wf ns os.length)(n:Int):
 Calls prog 255 #[.pointer (some ⟨b,0,none⟩),.int .i64 n] w fun e w'=>∃v',e= .returned v'/\w'.ownsRow w.heap.size 207 6 v' (Y0 ns n).length (fI (Y0 ns n))/\aA w w':=by
 obtain⟨i0,hi,hz0,hz1,hz2⟩:=bM gW;have HG:=hid h;have HW:=hid hw;have HL:=aaw hw n;have HN:=h.ln;clear h hw;go_enter func255,ntmps255;go_wp2;go_loopw [1,5] (fun node vw wr=>∃(acc:List Nd) (j:Int),node= .int .i64 j/\acc++Y0 ns j=Y0 ns n/\wr.ownsRow w.heap.size 207 6 vw acc.length (fI acc)/\aA w wr) (fun node _ _=>(intOf node+1).toNat);case atStart=>exact⟨[],n,rfl,by simp,bq _ _ _ _,Kp.refl _ _⟩
 case round=>
  obtain⟨acc,j,rfl,hacc,hrow,hq⟩:=hrel;have hg:=HG.out.quiet hq;obtain⟨av,cv,rfl⟩:=YU hrow;cases ht:YT ns.length j with
  |false=>
   have hE:=hid (show acc=Y0 ns n by rw[<-hacc,ZJ ht];simp);clear hacc;go_wp2_with (go_at_call 277;refine(oF hg _).mono ?_;rintro e w' ⟨rfl,rfl⟩;rw[ht]);go_ret;rw[<-hE.out];exact⟨_,rfl,hrow,hq⟩
  |true=>
   obtain⟨k,rfl,hk⟩:=Zg ht;have c0:=hg.cell0;have hrn:=hg.rn;obtain⟨g,cap,hv⟩:=fP hrn (by omega);subst hv;obtain⟨d0,d1,d2,d3,d4,d5⟩:=ku hrn k hk;have hal:acc.length<=80:=(by have:=aC List.length hacc;simp at this;omega);have hA:=hid (show(acc++[ns[k]])++Y0 ns ns[k].parent=Y0 ns n by rw[<-hacc,Zp HW.out hk];simp);have hP:=hid (HW.out k hk);have HX:=hid (show ns[k]=⟨ns[k].parent,ns[k].gate,ns[k].Y1,ns[k].cell,ns[k].plugin,ns[k].func⟩from rfl);clear hacc hrn;generalize hx:ns[k]=x at*;obtain⟨xp,xg,xr,xc,xl,xf⟩:=x;go_wp2_with (first|(go_at_call 277;refine(oF hg _).mono ?_;rintro e w' ⟨rfl,rfl⟩;rw[ht])|(at_builtin;refine aX _ rfl (.tmp 9) (.tmp 17) 61 rfl w.heap.size 207 i0 _ 6 48 gB hi hz0 hz1 hz2 rfl (by decide) _ acc.length (fI acc) rfl (hrow.alloc _) ⟨_,0,none⟩ 1 1 (Nd.cells ⟨xp,xg,xr,xc,xl,xf⟩) rfl rfl (gT _ _ 207) (abj _) (by decide) (by unfold maxLen;omega) (by omega) (by have:=hq.size;simp;omega) _ rfl ?_;intro g2 cap2 w1 hr1 hg1 hat hlt;have hS0:=PL (x:=⟨xp,xg,xr,xc,xl,xf⟩) hq hrow hg1 hr1;have hg2:=HG.out.quiet hS0.2;have e0:=hg2.cell0;obtain⟨e1,_⟩:=ku hg2.rn k hk;rw[hx]at e1;have hS:=hid hS0;clear hr1 hg1 hat hlt hS0));exact⟨⟨_,xp,rfl,hA.out,hS.out.1,hS.out.2⟩,by have:=hP.out.p0;have:=hP.out.p1;simp[intOf]at*;omega⟩
theorem O5(ws:List Nd)(x:Nd):lZ 15 (ws++[x])=lZ 15 ws&&&x.Y1.toNat:=by simp[lZ]
theorem aao(h:GS 184 B w b vn vo ns os)(hw:Wf ns os.length)(n:Int):
 Calls prog 312 #[.pointer (some ⟨b,0,none⟩),.int .i64 n] w fun e w'=>e= .returned (.int .i64 (bS ns os n:Nat))/\aA w w':=by
 cases ht:YT ns.length n with
 |false=>
  have hE:=hid (aba (os:=os) ht);go_enter func312,ntmps312;go_wp2_with (go_at_call 277;refine(oF h _).mono ?_;rintro e w' ⟨rfl,rfl⟩;rw[ht]);go_ret;exact⟨by rw[hE.out];rfl,Kp.refl _ _⟩
 |true=>
  have HL:=aaw hw n;have HN:=h.ln;have HM:=hid (Uj hw n);have HG:=hid h;have hE:=hid (show bS ns os n=if(Y0 ns n).all (Ak os)then lZ 15 (Y0 ns n)else 0 by simp[bS,ht]);go_enter func312,ntmps312;go_wp2_with (first|(go_at_call 277;refine(oF h _).mono ?_;rintro e w' ⟨rfl,rfl⟩;rw[ht])|(go_at_call 255;refine(zn h hw _).mono ?_;rintro e w2 ⟨v2,rfl,hr2,hq2⟩;obtain⟨a2,cap2,rfl⟩:=YU hr2));have HR:=hid hr2;have HQ:=hid hq2;clear hr2 hq2 h hw;generalize Y0 ns n=ws at*;go_loopw [5,16] (fun r i wr=>∃k:Nat,k<=ws.length/\i= .int .i64 k/\r= .int .i64 (lZ 15 (ws.take k):Nat)/\(ws.take k).all (Ak os)=true/\aA w2 wr) (fun _ i _=>ws.length-(intOf i).toNat);case atStart=>exact⟨0,aP _,rfl,rfl,rfl,Kp.refl _ _⟩
  case round=>
   obtain⟨k,hk,rfl,rfl,hall,hq⟩:=hrel;by_cases hlt:k<ws.length
   ·have hr:=hq.row HR.out (fun _ _ e=>e);obtain⟨g,cap,hv⟩:=fP hr (by omega);simp only[aY,true_and]at hv;obtain⟨rfl,rfl⟩:=hv;obtain⟨d0,d1,d2,d3,d4,d5⟩:=ku hr k hlt;obtain⟨kk,hok⟩:=HM.out ws[k] (aI hlt);have ha:=hid (iF ws k hlt);have hm:=DL (ws.take k) 15 (aj _);have hq1:aA w2 (wr.alloc (.cells ws[k].cells.toArray 207)):=hq.trans (Kp.alloc _ _);have hg:=HG.out.quiet (HQ.out.trans hq1);have acH:=hid (show Ak os ws[k]=(ws[k].gate== -1||mf os ws[k].gate)from rfl);obtain⟨q,hq0⟩:∃q:Nat,ws[k].Y1=q:=⟨ws[k].Y1.toNat,by have:=hok.r0;omega⟩;have aeA:q<=15:=(by have:=hok.r1;omega);have hms:=hid (show lZ 15 (ws.take k++[ws[k]])=lZ 15 (ws.take k)&&&q by rw[O5,hq0];rfl);have aeB:=hid hall;rw[hq0]at d2;clear hr hok hall;generalize hx:ws[k]=x at*;obtain⟨xp,xg,xr,xc,xl,xf⟩:=x;simp only[Nd.cells]at*;subst hq0;generalize lZ 15 (ws.take k)=rr at*;have Hq1:=hid hq1;clear hq1;by_cases hgate:xg= -1
    ·subst hgate;go_wp2_with (go_at_call 315;refine(EI _ _ hm aeA _).mono ?_;rintro e w' ⟨rfl,rfl⟩);refine⟨⟨k+1,by omega,by go_num,by rw[ha.out,hms.out], ?_,Hq1.out⟩,by simp[intOf];omega⟩;rw[ha.out,List.all_append,aeB.out];simp[acH.out]
    ·have hgd:decide (xg= -1)=false:=(by simpa using hgate);cases ho:mf os xg with
     |false=>
      have hE0:=hid (show bS ns os n=0 by
             rw[hE.out,af];intro hc;have:=List.all_eq_true.1 hc ws[k] (aI hlt);rw[hx,acH.out]at this;simp[hgate,ho]at this)
      go_wp2_with (go_at_call 314;refine(GI hg _).mono ?_;rintro e w' ⟨rfl,rfl⟩;rw[ho]);go_ret;exact⟨by rw[hE0.out];rfl,HQ.out.trans Hq1.out⟩
     |true=>
      go_wp2_with (first|(go_at_call 314;refine(GI hg _).mono ?_;rintro e w' ⟨rfl,rfl⟩;rw[ho])|(go_at_call 315;refine(EI _ _ hm aeA _).mono ?_;rintro e w' ⟨rfl,rfl⟩));refine⟨⟨k+1,by omega,by go_num,by rw[ha.out,hms.out], ?_,Hq1.out⟩,by simp[intOf];omega⟩;rw[ha.out,List.all_append,aeB.out];simp[acH.out,ho]
   ·have hke:k=ws.length:=(by omega);subst hke;rw[aZ]at hall|-;have hE1:=hid (show bS ns os n=lZ 15 ws by rw[hE.out,ag hall]);clear hall;go_wp2;go_ret;exact⟨by rw[hE1.out];rfl,HQ.out.trans hq⟩
end
section
variable{B:Nat}{w:World}{b:Nat}{vn vo:Value}{ns:List Nd}{os:List Bool}
theorem M8{n:Int}(h:YT ns.length n=false):YS ns n=nd0:=by simp[YS,ZJ h]
theorem MM{n:Int}(h:(Y0 ns n).length-1<(Y0 ns n).length):YS ns n=(Y0 ns n)[(Y0 ns n).length-1]:=by
 unfold YS;rw[dD,List.getLast?_eq_getElem?,aQ h];rfl
theorem six{w:World}{g:Nat}{a0 a1 a2 a3 a4 a5:Value}{t:TypeId}(h:w.heap[g]?=some (.cells #[a0,a1,a2,a3,a4,a5] t (0,0))):
 w.cell? ⟨g,0,none⟩=some a0/\w.cell? ⟨g,1,none⟩=some a1/\w.cell? ⟨g,2,none⟩=some a2/\w.cell? ⟨g,3,none⟩=some a3/\w.cell? ⟨g,4,none⟩=some a4/\w.cell? ⟨g,5,none⟩=some a5:=by
 simp[World.cell?,h]
theorem adM{w:World}{g:Nat}{a0 a1 a2 a3 a4 a5:Value}{t:TypeId}(h:w.heap[g]?=some (.cells #[a0,a1,a2,a3,a4,a5] t (0,0))):
 w.frozen? ⟨g,0,none⟩=false/\w.frozen? ⟨g,1,none⟩=false/\w.frozen? ⟨g,2,none⟩=false/\w.frozen? ⟨g,3,none⟩=false/\w.frozen? ⟨g,4,none⟩=false/\w.frozen? ⟨g,5,none⟩=false:=
 ⟨aG w g 0 _ t h,aG w g 1 _ t h,aG w g 2 _ t h,aG w g 3 _ t h,aG w g 4 _ t h,aG w g 5 _ t h⟩
theorem Dj{w w2:World}(hq:aA w w2)(j:Nat)(u:Value):aA w (w2.setCell ⟨w.heap.size,j,none⟩ u):=hq.fresh (Kp.setCell _ _ _ (aj w.heap.size))
theorem acI{w w2:World}(hq:aA w w2)(x0 x1 x2 x3 x4 x5:Value):aA w ((((((w2.setCell ⟨w.heap.size,0,none⟩ x0).setCell ⟨w.heap.size,1,none⟩ x1).setCell ⟨w.heap.size,2,none⟩ x2).setCell ⟨w.heap.size,3,none⟩ x3).setCell ⟨w.heap.size,4,none⟩ x4).setCell ⟨w.heap.size,5,none⟩ x5):=
 Dj (Dj (Dj (Dj (Dj (Dj hq 0 x0) 1 x1) 2 x2) 3 x3) 4 x4) 5 x5
theorem Y2(w:World)(o1 o2:Obj):((w.alloc o1).alloc o2).heap[w.heap.size+1]?=some o2:=by
 have:=ah (w.alloc o1) o2;rw[show(w.alloc o1).heap.size=w.heap.size+1 by simp]at this;exact this
theorem kE{w:World}{x:Nat}{l:List Value}{t:TypeId}(h:w.heap[x]?=some (.cells l.toArray t (0,0))):∀j u,l[j]?=some u->w.cell? ((⟨x,0,none⟩:Addr).add j)=some u:=by
 intro j u hu;rw[Addr.add_lit,cell_of_row _ _ _ _ t (0,0) h];simpa using hu
theorem aaW(h:GS 184 B w b vn vo ns os)(hw:Wf ns os.length)(n:Int):
 Calls prog 227 #[.pointer (some ⟨b,0,none⟩),.int .i64 n] w fun e w'=>e= .returned (.tuple #[(YS ns n).agg,.bool (YT ns.length n)])/\aA w w':=by
 have q1:aA w (w.alloc (.cells nd0.cells.toArray 207)):=Kp.alloc w _;have h1:=h.quiet q1;have b1:=ah w (.cells nd0.cells.toArray 207);have HL:=aaw hw n;have HN:=h.ln;have hs1:=hid (show(w.alloc (.cells nd0.cells.toArray 207)).heap.size=w.heap.size+1 by simp);simp only[Nd.cells,nd0]at q1 h1 b1 hs1;cases ht:YT ns.length n with
 |false=>
  have hE:=hid (M8 ht);have hlen:=hid (ZJ ht);clear h;go_enter func227,ntmps227;go_wp2_with (go_at_call 255;refine(zn h1 hw _).mono ?_;rintro e w2 ⟨v2,rfl,hr2,hq2⟩;rw[hlen.out]at hr2;obtain⟨a2,cap2,rfl⟩:=YU hr2;have bb:=(hq2.block _ (ae b1) id).trans b1;obtain⟨d0,d1,d2,d3,d4,d5⟩:=six bb;obtain⟨f0,f1,f2,f3,f4,f5⟩:=adM bb;clear b1 bb);refine au (v:= .tuple #[.agg #[.int .i64 0,.int .i64 0,.int .i64 0,.int .i64 0,.int .i64 0,.int .i64 0],.bool false]) (by rw[results_cell_tmp rfl];simp[go_sem,d0,d1,d2,d3,d4,d5]) rfl ⟨?_, ?_⟩;rw[hE.out];rfl;exact acI (q1.trans hq2) _ _ _ _ _ _
 |true=>
  obtain⟨m,hm⟩:∃m,(Y0 ns n).length=m+1:=by
   obtain⟨j,rfl,hj⟩:=Zg ht;exact⟨_,by rw[Zp hw hj];simp;rfl⟩
  have hmw:m<(Y0 ns n).length:=by omega
  have hE:=hid (show YS ns n=(Y0 ns n)[m]by rw[MM (by omega)];congr 1;omega);have hlen:=hid hm;clear h;go_enter func227,ntmps227;go_wp2_with (go_at_call 255;refine(zn h1 hw _).mono ?_;rintro e w2 ⟨v2,rfl,hr2,hq2⟩;obtain⟨g2,cap2,rfl⟩:=fP hr2 (by omega);obtain⟨y0,y1,y2,y3,y4,y5⟩:=ku hr2 m hmw;rw[hlen.out];have bb:=(hq2.block _ (ae b1) id).trans b1;obtain⟨d0,d1,d2,d3,d4,d5⟩:=six bb;obtain⟨f0,f1,f2,f3,f4,f5⟩:=adM bb;have Hq2:=hid hq2;generalize(Y0 ns n)[m]=x at*;clear b1 bb hr2 hq2);refine au (v:= .tuple #[x.agg,.bool true]) (by rw[results_cell_tmp rfl];simp[go_sem,Nd.agg,d0,d1,d2,d3,d4,d5]) rfl ⟨?_, ?_⟩;rw[hE.out];exact acI (q1.trans Hq2.out) _ _ _ _ _ _
def mO(ws:List Nd)(k:Nat):List Int:=eX (ws.take k)
theorem BV(ws:List Nd)(x:Nd)(h:x.gate= -1):eX (ws++[x])=eX ws:=by simp[eX,h]
theorem AY(ws:List Nd)(x:Nd)(h:x.gate≠ -1):eX (ws++[x])=eX ws++[x.gate]:=by simp[eX,h]
theorem abb(ws:List Nd):(eX ws).length<=ws.length:=by
 unfold eX;exact aF (List.length_filter_le _ _) (by simp)
theorem I5{w wr w1:World}{o:Obj}{acc:List Int}{x:Int}{v:Value}{g cap:Nat}(hq:aA w wr)(hr:wr.ownsRow w.heap.size 3 1 v acc.length (rX acc))(hg:(wr.alloc o).grownBy w1 v.ownBlock)(h1:w1.ownsRow w.heap.size 3 1 (.slice (some ⟨g,0,none⟩) (acc.length+1) cap) (acc.length+1) (rX acc++[.int .i64 x])):
 w1.ownsRow w.heap.size 3 1 (.slice (some ⟨g,0,none⟩) (acc.length+1) cap) (acc++[x]).length (rX (acc++[x]))/\aA w w1:=by
 refine⟨?_,pO hq hr hg⟩;simpa [rX]using h1
theorem ZU(h:GS 184 B w b vn vo ns os)(hw:Wf ns os.length)(n:Int):
 Calls prog 309 #[.pointer (some ⟨b,0,none⟩),.int .i64 n] w fun e w'=>∃v',e= .returned v'/\w'.ownsRow w.heap.size 3 1 v' (bN ns n).length (rX (bN ns n))/\aA w w':=by
 obtain⟨i0,hi,hz0,hz1,hz2⟩:=bM kL;have HL:=aaw hw n;have HN:=h.ln;have hE:=hid (show bN ns n=eX (Y0 ns n)from rfl);go_enter func309,ntmps309;go_wp2_with (go_at_call 255;refine(zn h hw _).mono ?_;rintro e w2 ⟨v2,rfl,hr2,hq2⟩;obtain⟨a2,cap2,rfl⟩:=YU hr2);have HR:=hid hr2;have HQ:=hid hq2;clear hr2 hq2 h hw;generalize Y0 ns n=ws at*;go_loopw [5,12] (fun v i wr=>∃k:Nat,k<=ws.length/\i= .int .i64 k/\wr.ownsRow w2.heap.size 3 1 v (mO ws k).length (rX (mO ws k))/\aA w2 wr) (fun _ i _=>ws.length-(intOf i).toNat);case atStart=>exact⟨0,aP _,rfl,bq _ _ _ _,Kp.refl _ _⟩
 case round=>
  obtain⟨k,hk,rfl,hrow,hq⟩:=hrel;by_cases hlt:k<ws.length
  ·have hr:=hq.row HR.out (fun _ _ e=>e);obtain⟨g,cap,hv⟩:=fP hr (by omega);simp only[aY,true_and]at hv;obtain⟨rfl,rfl⟩:=hv;obtain⟨d0,d1,d2,d3,d4,d5⟩:=ku hr k hlt;obtain⟨av,cv,rfl⟩:=YU hrow;have hal:(mO ws k).length<=80:=(by have:=abb (ws.take k);simp[mO]at this|-;omega);have ha:=hid (show mO ws (k+1)=eX (ws.take k++[ws[k]])by unfold mO;rw[iF ws k hlt]);have hq1:aA w2 (wr.alloc (.cells ws[k].cells.toArray 207)):=hq.trans (Kp.alloc _ _);have ab5:=hrow.alloc (.cells ws[k].cells.toArray 207);clear hr hrow hq;generalize ws[k]=x at*;obtain⟨xp,xg,xr,xc,xl,xf⟩:=x;simp only[Nd.cells]at*;by_cases hgate:xg= -1
   ·subst hgate;have HS:=bC ab5 hq1;have hb:=hid (ha.out.trans (BV (ws.take k) ⟨xp, -1,xr,xc,xl,xf⟩ rfl));clear ab5 hq1 ha;go_wp2;exact⟨⟨k+1,by omega,by go_num,by rw[hb.out];exact HS.out.1,HS.out.2⟩,by simp[intOf];omega⟩
   ·have hgd:decide (xg= -1)=false:=(by simpa using hgate);have hb:=hid (ha.out.trans (AY (ws.take k) ⟨xp,xg,xr,xc,xl,xf⟩ hgate));clear ha;go_wp2_with (at_builtin;refine aX _ rfl (.tmp 19) (.tmp 22) 223 rfl w2.heap.size 3 i0 _ 1 8 og hi hz0 hz1 hz2 rfl (by decide) _ (mO ws k).length (rX (mO ws k)) rfl (ab5.alloc _) ⟨wr.heap.size+1,0,none⟩ 1 1 [.int .i64 xg] rfl rfl (kE (t:=3) (Y2 wr _ _)) (by simp[Value.oneCell']) (by decide) (by unfold maxLen;omega) (by omega) (by have:=hq1.size;simp at this|-;omega) (wr.heap.size+2) (by simp) ?_;intro g2 cap2 w1 hr1 hg1 hat hlt1;have hS:=hid (I5 (x:=xg) hq1 ab5 hg1 hr1);clear hr1 hg1 hat hlt1);exact⟨⟨k+1,by omega,by go_num,by rw[hb.out];exact hS.out.1,hS.out.2⟩,by simp[intOf];omega⟩
  ·have hke:k=ws.length:=(by omega);subst hke;have hg:=hid (show mO ws ws.length=bN ns n by rw[hE.out];simp[mO]);obtain⟨av,cv,rfl⟩:=YU hrow;go_wp2;go_ret;rw[<-hg.out];exact⟨_,rfl,gL hrow HQ.out.size,HQ.out.trans hq⟩
end
theorem Bt{w w1:World}{o:Obj}{v':Value}{n:Nat}{xs:List Value}(hr:w1.ownsRow w.heap.size 207 6 v' (0+n) ([]++xs))(hg:(w.alloc o).grownBy w1 (Value.slice (some ⟨w.heap.size,0,none⟩) 0 0).ownBlock):
 w1.ownsRow w.heap.size 207 6 v' n xs/\aA w w1:=by
 refine⟨by simpa using hr,hg.os,hg.tape,hg.output,aF (Kp.alloc (F:=fun _=>False) w o).size hg.size,fun k hk _=> ?_⟩;rw[hg.block k (by simp;omega) (by simp[Value.ownBlock];omega)];exact aB w o k hk
theorem Cv{B:Nat}{w:World}{g n cap:Nat}{xs:List Value}(h:w.ownsRow B 207 6 (.slice (some ⟨g,0,none⟩) n cap) n xs)(o:Obj):
 ∀j u,xs[j]?=some u->(w.alloc o).cell? ((⟨g,0,none⟩:Addr).add j)=some u:=(h.alloc o).cells rfl
section
variable{B:Nat}{w:World}{b:Nat}{vn vo:Value}{ns:List Nd}{os:List Bool}
end
def fJ(w:World)(ao:Option Addr)(l:List Int):Prop:=∀j (h:j<l.length),∃g o,ao=some ⟨g,o,none⟩/\w.cell? ⟨g,o+j,none⟩=some (.int .i64 l[j])
def XQ(ns:List Nd):Nat->Int->List Int
 |0,_=>[]
 |f+1,n=>if YT ns.length n then n::XQ ns f (ns.getD n.toNat nd0).parent else[]
def idxOf(ns:List Nd)(n:Int):List Int:=XQ ns (n.toNat+1) n
theorem Al(k:Nat):∀(ws:List Nd)(r:Nat),(lZ r ws).testBit k=(r.testBit k&&ws.all fun x=>x.Y1.toNat.testBit k)
 |[],r=>by simp[lZ]
 |x::ws,r=>by
  show(lZ (r&&&x.Y1.toNat) ws).testBit k=_;rw[Al k ws,Nat.testBit_and,List.all_cons,Bool.and_assoc]
section
variable{B:Nat}{w:World}{b:Nat}{vn vo:Value}{ns:List Nd}{os:List Bool}
end
section
variable{B:Nat}{w:World}{b:Nat}{vn vo:Value}{ns:List Nd}{os:List Bool}
end
