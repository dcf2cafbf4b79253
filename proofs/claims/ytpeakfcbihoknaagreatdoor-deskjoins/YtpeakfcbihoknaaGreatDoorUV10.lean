/- Parts. -/
import Derived.Test.YtpeakfcbihoknaaGreatDoorUDEvent
import Derived.Test.YtpeakfcbihoknaaGreatDoorUE6
import Derived.Laws.EntriesVeiled
open Go.ChangeShapes Go.WideShapes Go.ChangeAt Go.RowKit
set_option maxRecDepth 8000
set_option maxHeartbeats 8000000
namespace Go.Proofs.YtpeakfcbihoknaaGreatDoor
open Proofs.Tryz
namespace Dk
theorem TS.house{X:Nat->Prop}{K:Kx}{q:Qx}{v:Value}{n:Nat}{d:Ds}{l:List UInt8}{w:World}(H:TS X K q v n d l w):bH (fun k=>k=K.p.wb\/((k=K.db\/nK K.tb v k)\/X k)) K.p.h q.q d.h w:=H.y.s
theorem TS.way{X:Nat->Prop}{K:Kx}{q:Qx}{v:Value}{n:Nat}{d:Ds}{l:List UInt8}{w:World}(H:TS X K q v n d l w):w.cell? ⟨K.tb,0,none⟩=some (.pointer (some ⟨K.db,0,none⟩))/\w.cell? ⟨K.db,0,none⟩=some (.pointer (some ⟨K.p.wb,0,none⟩))/\w.cell? ⟨K.p.wb,0,none⟩=some (.pointer (some ⟨K.p.h.hb,0,none⟩))/\w.cell? ⟨K.p.h.hb,0,none⟩=some (.pointer (some ⟨K.p.h.bb,0,none⟩))/\w.cell? ⟨K.p.h.bb,1,none⟩=some (.pointer (some ⟨K.p.h.wd,0,none⟩)):=
 ⟨H.ZY.Zm,by simp[World.cell?,H.Zm],H.y.cell,H.house.cells.1,H.house.cells.2.2⟩
theorem oP{h:Hs}(hi:HOk h)(p:Int):(fH h p).check=0:=by
 unfold fH;split
 ·rw[aD];cases e:h.s.ks[p.toNat]? with
  |none=>exact iN
  |some v=>exact hi.inv.good v (dx e)
 ·exact iN
def vk:List UInt8:=[107,101,112,116]
theorem Qf{X:Nat->Prop}{K:Kx}{q:Qx}{v:Value}{n:Nat}{d:Ds}{l:List UInt8}{w:World}(H:TS X K q v n d l w)(x:Sx)(hx:dH x.p)(hl:l.length<=100000000000000):
 Calls prog 71 #[.pointer (some ⟨K.tb,0,none⟩),.agg x.vals] w (wW X K q v n d (l++iK [vk,(fH d.h x.p).text]) w):=by
 obtain⟨W,hW⟩:∃W,W=w.alloc (.cells x.vals 98):=⟨_,rfl⟩;have k0:aA w W:=by rw[hW];exact Kp.alloc _ _
 have hbx:W.heap[w.heap.size]?=some (.cells x.vals 98 (0,0)):=by rw[hW];exact ah w _
 have HK:=hid (fun(w1:World) (k:aA W w1)=>K5 _ K.p.h q.q d.h w1 x.p (H.quiet (k0.trans k)).house hx);have hck:=oP H.y.s.ok x.p;have HX:=hid (fun(w1:World) (k:aA W w1) (ao:Option Addr) (cap:Nat) (hi:Is w1 (fH d.h x.p) ao)=>aah (fH d.h x.p) ao cap w1 (H.quiet (k0.trans k)).lz.is.1.tab hi hck);have HT:=hid (fun(w1:World) (k:aA W w1) (ao4:Option Addr) (hlx:(fH d.h x.p).text.length<=1300) (h4:fF w1 [vk,(fH d.h x.p).text] ao4)=>mX (H.quiet (k0.trans k)) [vk,(fH d.h x.p).text] ao4 2 h4 (by simp) ⟨⟨_,_,rfl,.inl (by simp[vk])⟩,by simp,aF (nW _ 1300 fun t ht=>by
  simp only[aU,dN,or_false]at ht;rcases ht with rfl|rfl;simp[vk]
  ·exact hlx) (by simp),hl⟩)
 have HL:=hid (fun(w1:World) (ao:Option Addr) (hi:Is w1 (fH d.h x.p) ao)=>show(fH d.h x.p).text.length<=1300 by
  have h1:=ZG w1 _ ao hi;have h2:=fV hck;omega)
 have cW:=hid (fun(w1:World) (k:aA W w1)=>dX (H.quiet (k0.trans k)).way (je ((k.block _ (ae hbx) fun e=>e).trans hbx)).1.2.1);have Q0:=hid k0;generalize fH d.h x.p=kv at*;obtain⟨kind,p,qq,k,hh,r1,g,n1,fs,fa,fc⟩:=x;simp only[Sx.vals]at*;clear H hx hck k0 hbx;obtain⟨⟨c0,c1,c2,c3,c4⟩,c5⟩:=cW.out W (Kp.refl _ _);go_enter func71,ntmps71;go_wp2_with fail;rw[<-hW];clear hW;go_region_with (first
  |(go_at_call 45;refine(HT.out _ (Q2.out.trans (Kp.alloc _ _)) _ HLL.out (oQ w2 [vk,kv.text] (by simp))).mono ?_;rintro e w3 ⟨rfl,v3,t3,g3⟩;have H3:=bC t3 ((gH.quiet K q v (Q0.out.trans (Q2.out.trans (Kp.alloc _ _)))).trans g3);clear t3 g3)
  |(go_at_call 115;refine(HX.out _ Q1.out.1 _ _ Q1.out.2).mono ?_;rintro e w2 ⟨rfl,q2⟩;have Q2:=hid (Q1.out.1.trans q2);have HLL:=hid (HL.out _ _ Q1.out.2);clear q2)
  |(go_at_call 116;refine(HK.out _ (Kp.drew _)).mono ?_;rintro e w1 ⟨ao,cap,rfl,s1,q1⟩;have Q1:=bC ((Kp.drew W).trans q1) s1.now;clear s1 q1))
 all_goals
  go_wp2;go_end0;exact⟨rfl,v3,H3.out.1,H3.out.2⟩
theorem zR{h:Hs}(hi:HOk h)(p:Int):∀v∈fC h p,v.check=0:=by
 unfold fC;split;rename_i hp;exact hi.hand p.toNat (by omega);intro v hv;cases hv
theorem Uq{w1 w2 w3:World}{a:Nat}{row:Option Nat}(k:Kp (fun i=>i=a) w1 w2)(hg:w2.grownBy w3 row)(hr:∀i,row=some i->i=a\/w1.heap.size<=i):Kp (fun i=>i=a) w1 w3:=
 ⟨hg.os.trans k.os,hg.tape.trans k.tape,hg.output.trans k.output,aF k.size hg.size,fun i hi hF=>(hg.block i (az hi k.size) fun e=>by
  rcases hr i e.symm with e|e;exact hF e
  ·omega).trans (k.block i hi hF)⟩
structure WdS(w w1:World)(a:Nat)(ws:List (List UInt8))(sv:Value)(wr:World):Prop where
 k:Kp (fun i=>i=a) w1 wr
 row:wr.ownsRow w.heap.size 9 1 sv ws.length (lK ws)
 at_:∀i,sv.ownBlock=some i->i=a\/w1.heap.size<=i
theorem WdS.quiet{w w1 wr w2:World}{a:Nat}{ws:List (List UInt8)}{sv:Value}(h:WdS w w1 a ws sv wr)(q:aA wr w2):WdS w w1 a ws sv w2:=⟨h.k.trans (q.mono fun _ _ e=>e.elim),q.row h.row fun _ _ e=>e,h.at_⟩
theorem WdS.more{w w1 wr w3:World}{a g cap:Nat}{ws:List (List UInt8)}{x:List UInt8}{sv:Value}(h:WdS w w1 a ws sv wr)(hr:w3.ownsRow w.heap.size 9 1 (.slice (some ⟨g,0,none⟩) (ws.length+1) cap) (ws.length+1) (lK ws++[.string ⟨x.toArray⟩]))(hg:(wr.alloc (.cells #[.string ⟨x.toArray⟩] 9)).grownBy w3 sv.ownBlock)(hat:sv.ownBlock=some g\/g=wr.heap.size+1):WdS w w1 a (ws++[x]) (.slice (some ⟨g,0,none⟩) (ws.length+1) cap) w3:=by
 have hs:=h.k.size;refine⟨Uq (h.k.trans (Kp.alloc _ _)) hg h.at_,by rw[ak,Ac];exact hr,fun i e=> ?_⟩;simp[Value.ownBlock]at e;subst e;rcases hat with e|e;exact h.at_ _ e;exact .inr (by omega)
def jo:List UInt8:=[104,97,110,100]
theorem Tc{X:Nat->Prop}{K:Kx}{q:Qx}{v:Value}{n:Nat}{d:Ds}{l:List UInt8}{w:World}(H:TS X K q v n d l w)(x:Sx)(hx:dH x.p)(hn:n<=400)(hl:l.length<=100000000000000):
 Calls prog 70 #[.pointer (some ⟨K.tb,0,none⟩),.agg x.vals] w (wW X K q v n d (l++iK (jo::(fC d.h x.p).map V.text)) w):=by
 obtain⟨i0,hi,hz0,hz1,hz2⟩:=bM mM;obtain⟨W0,hW0⟩:∃W0,W0=w.alloc (.cells x.vals 98):=⟨_,rfl⟩;obtain⟨W,hW⟩:∃W,W=W0.alloc (.cells #[.string ⟨#[104,97,110,100]⟩] 9):=⟨_,rfl⟩;have hs0:W0.heap.size=w.heap.size+1:=by rw[hW0];simp
 have k0:aA w W:=by rw[hW,hW0];exact(Kp.alloc _ _).trans (Kp.alloc _ _)
 have hbx:W.heap[w.heap.size]?=some (.cells x.vals 98 (0,0)):=by rw[hW,aB _ _ _ (by omega),hW0];exact ah w _
 have hrow:W.ownsRow w.heap.size 9 1 (.slice (some ⟨w.heap.size+1,0,none⟩) 1 1) 1 (lK [jo]):=by
  rw[hW,<-hs0];exact gL (zz W0 [.string ⟨#[104,97,110,100]⟩] 9 (by simp)) (by omega)
 have hfw:(fC d.h x.p).length<=400:=by
  unfold fC;split;have:=H.inv.few x.p.toNat;omega;simp
 have HK:=hid (DF (fun k=>k=w.heap.size+1\/k=K.p.wb\/((k=K.db\/nK K.tb v k)\/X k)) K.p.h q.q d.h W.drew x.p (H.house.step (k0.trans (Kp.drew _)) (fun i hi e=>by
  rcases e with e|e;omega
  ·exact e) fun i e=>by
  show i<W.heap.size;rcases e with e|e;rw[e,hW];simp;omega
  ·exact az (H.house.xo i e).1 k0.size) (fun p=>by have:=H.inv.few p;omega) hx)
 have hck:=zR H.y.s.ok x.p;have HX:=hid (fun(w1:World) (k:aA w w1) (u:V) (hu:u.check=0) (ao:Option Addr) (cap:Nat) (hi:Is w1 u ao)=>aah u ao cap w1 (H.quiet k).lz.is.1.tab hi hu);have HT:=hid (fun(w1:World) (k:aA w w1) (ts:List (List UInt8)) (hts:ts.length<=400) (htl:∀t∈ts,t.length<=1300) (ao4:Option Addr) (cap:Nat) (hcap:(jo::ts).length<=cap) (h4:fF w1 (jo::ts) ao4)=>mX (H.quiet k) (jo::ts) ao4 cap h4 hcap ⟨⟨_,_,rfl,.inl (by simp[jo])⟩,by simp;omega,aF (nW _ 1300 fun t ht=>by
  rcases aU.1 ht with rfl|ht;simp[jo]
  ·exact htl t ht) (by simp;omega),hl⟩)
 have cW:=(H.quiet k0).way;have cx:=(je hbx).1.2.1;have Q0:=hid k0;have HR:=hid hrow;have HCK:=hid hck;generalize fC d.h x.p=hs at*;obtain⟨kind,p,qq,k,hh,r1,g,n1,fs,fa,fc⟩:=x;simp only[Sx.vals]at*;clear H hx hck k0 hbx hrow;obtain⟨c0,c1,c2,c3,c4⟩:=cW;have hszW:w.heap.size<=W.heap.size:=Q0.out.size;go_enter func70,ntmps70;go_wp2_with fail;rw[<-hW0,<-hW];clear hW hW0 hs0;go_cut [20,21,22]from 8 to 22 (fun s m i wx=>∃ao cap,s= .slice ao hs.length cap/\m= .int .i64 hs.length/\i= .int .i64 0/\Hid (aA W wx/\∀w',Kp (fun i=>i=w.heap.size+1) wx w'->Fo w' hs ao));case first=>
  go_region_with (first
   |(go_at_call 114;refine HK.out.mono ?_;rintro e w1 ⟨ao,cap,rfl,s1,q1⟩;have Q1:=bC ((Kp.drew W).trans q1) (fun(w':World) (k:Kp (fun i=>i=w.heap.size+1) w1 w')=>s1 w' (k.mono fun i _ e=> .inr (.inl e)));clear s1 q1))
  all_goals
   go_wp2_with fail;go_meet;exact⟨ao,cap,rfl,rfl,rfl,Q1⟩
 case rest=>
  obtain⟨ao,cap,rfl,rfl,rfl,Q1⟩:=hcut;rename World=>w1;go_wp2_with fail;go_loopw [4,22] (fun sv i wr=>∃k:Nat,i= .int .i64 k/\k<=hs.length/\Hid (WdS w w1 (w.heap.size+1) (jo::(hs.take k).map V.text) sv wr)/\Hid (∀t∈(hs.take k).map V.text,t.length<=1300)) (fun _ i _=>hs.length-(intOf i).toNat);case atStart=>exact⟨0,rfl,aP _,hid ⟨Kp.refl _ _,by simpa using Q1.out.1.row HR.out fun _ _ e=>e,fun i e=> .inl (by simp[Value.ownBlock]at e;omega)⟩,hid (by simp)⟩
  case round=>
   rename World=>wr;obtain⟨k,rfl,hk,D,HLn⟩:=hrel;obtain⟨av,cv,rfl⟩:=YU D.out.row;have hcv:=uu D.out.row;have Q:=hid (show aA w wr from(Q0.out.trans Q1.out.1).fresh (D.out.k.mono fun i _ e=>by omega));by_cases hlt:k<hs.length
   ·obtain⟨b,off,rfl,⟨d0,d1⟩,ca,cc,d2,hci⟩:=(Q1.out.2 wr D.out.k).get k hlt;have hu:=HCK.out hs[k] (aI hlt);have HI:=hid (fun(o:Obj)=>HX.out (wr.alloc o) (Q.out.trans (Kp.alloc _ _)) hs[k] hu ca cc (hci.quiet (Kp.alloc _ _)));have HN:=hid (show(hs.take (k+1)).map V.text=(hs.take k).map V.text++[hs[k].text]by rw[iF hs k hlt,bA];rfl);have HTL:=hid (show hs[k].text.length<=1300 by
     have h1:=ZG wr hs[k] ca hci;have h2:=fV hu;omega)
    generalize hs[k]=u at*;obtain⟨uk,un,ul⟩:=u;simp only at d0 d1 d2 HI;generalize(V.mk uk un ul).text=tx at*;have hsz:=D.out.k.size;have hs1:=Q1.out.1.size;have HNX:=hid (show∀t∈(hs.take (k+1)).map V.text,t.length<=1300 by
     rw[HN.out];intro t ht;rcases aK.1 ht with ht|ht;exact HLn.out t ht
     ·simp at ht;rw[ht];exact HTL.out)
    have HWL:=hid (show(jo::(hs.take k).map V.text).length<=401 by simp;omega);generalize hws:jo::(hs.take k).map V.text=ws at*;have HWS:=hid hws;clear hci hu hws HLn;obtain⟨nk,hnk⟩:∃nk,nk=ws.length:=⟨_,rfl⟩;have HRr:=hid (show wr.ownsRow w.heap.size 9 1 (.slice av ws.length cv) nk (lK ws)by rw[hnk];exact D.out.row);have hk5:nk<=401:=(by have:=HWL.out;omega);rw[<-hnk]at HRr D|-;have HNK:=hid hnk;clear hnk hcv;go_wp2_with (first
     |(at_builtin;refine aX _ rfl (.tmp 26) (.tmp 29) 22 rfl w.heap.size 9 i0 _ 1 16 jB hi hz0 hz1 hz2 rfl (by decide) _ nk (lK ws) rfl (HR2.out.1.alloc _) ⟨w2.heap.size,0,none⟩ 1 1 [.string ⟨tx.toArray⟩] rfl rfl (gT w2 _ 9) (by simp[Value.oneCell']) (by decide) (by unfold maxLen;omega) (by omega) (by simp;omega) _ rfl ?_;intro g2 cap2 w3 hr3 hg3 hat hlt3;have H3:=gp hr3 hg3 hat;clear hr3 hg3 hat hlt3)
     |(go_at_call 115;refine(HI.out _).mono ?_;rintro e w2 ⟨rfl,q2⟩;have HR2:=bC (q2.row (HRr.out.alloc _) fun _ _ e=>e) ((Kp.alloc (F:=fun _=>False) wr (.cells #[.int .i64 uk,.int .i64 un,.slice ca ul.length cc] 71)).trans q2);have hs2:=q2.size;simp at hs2;clear q2))
    refine⟨⟨k+1,by go_num,by omega,hid ?_,HNX⟩,by simp[intOf];omega⟩;have hD:=D.out.quiet HR2.out.2;have e:=HNK.out;subst e;have e2:jo::(hs.take (k+1)).map V.text=ws++[tx]:=(by rw[HN.out,<-HWS.out];rfl);rw[e2];exact hD.more H3.out.1 H3.out.2.1 (H3.out.2.2.elim (fun h=> .inl h) fun h=> .inr (by simpa using h))
   ·obtain rfl:k=hs.length:=(by omega);rw[aZ]at D HLn|-;have HT2:=hid (HT.out wr Q.out (hs.map V.text) (by simp;omega) HLn.out av cv (uu D.out.row) (sV D.out.row));generalize(jo::hs.map V.text).length=m at*;go_wp2_with (go_at_call 45;refine HT2.out.mono ?_;rintro e w2 ⟨rfl,v2,t2,g2⟩);go_end0;exact⟨rfl,v2,t2,(gH.quiet K q v Q.out).trans g2⟩
section
variable{X:Nat->Prop}{K:Kx}{q:Qx}{v:Value}{n:Nat}{d:Ds}{l:List UInt8}{w:World}
theorem TS.text(H:TS X K q v n d l w)(t:List UInt8)(ht:t.length<=13000):TS X K q v n {d with txt:=t} l (w.setCell ⟨K.db,1,none⟩ (.string ⟨t.toArray⟩))/\gH K q v w q v (w.setCell ⟨K.db,1,none⟩ (.string ⟨t.toArray⟩)):=by
 have k:=bF w K.db 1 (.string ⟨t.toArray⟩);have hs:(w.setCell ⟨K.db,1,none⟩ (.string ⟨t.toArray⟩)).heap.size=w.heap.size:=by simp[World.setCell]
 have g:gH K q v w q v (w.setCell ⟨K.db,1,none⟩ (.string ⟨t.toArray⟩)):=⟨k.mono fun i _ e=> .inr (.inl e),fun _ e=> .inl e⟩;refine⟨⟨H.y.turn k (fun i e=> .inl (.inl e)) (fun i cs t hi ht e=>H.abK i cs t hi ht (.inl e)) (fun _ _ e=>e) (fun i e=>⟨by have:=(H.y.xo e).1;omega,(H.y.xo e).2⟩), ?_,H.ZY.kept k fun i e e2=>H.ad2 (e2▸e),H.lz.low (H.low g),⟨H.inv.trs,H.inv.tr,H.inv.es,H.inv.few,ht,H.inv.ent⟩,H.lo,fun i e=>⟨by have:=(H.xo i e).1;omega,(H.xo i e).2⟩⟩,g⟩;simp[World.setCell,aR,H.Zm]
theorem TS.abv(H:TS X K q v n d l w):(w.cell? ⟨K.db,0,none⟩=some (.pointer (some ⟨K.p.wb,0,none⟩))/\w.cell? ⟨K.db,1,none⟩=some (.string ⟨d.txt.toArray⟩))/\w.frozen? ⟨K.db,1,none⟩=false:=⟨⟨by simp[World.cell?,H.Zm],by simp[World.cell?,H.Zm]⟩,aG w K.db 1 _ _ H.Zm⟩
end
theorem zA(a b:List UInt8):(ByteArray.mk a.toArray++ByteArray.mk b.toArray)=ByteArray.mk (a++b).toArray:=by
 apply ByteArray.ext;rw[ByteArray.data_append];simp
def CW(X:Nat->Prop)(K:Kx)(q:Qx)(v:Value)(n:Nat)(d:Ds)(l:List UInt8)(w:World)(e:Ending)(w':World):Prop:=e= .returned (.tuple #[])/\TS X K q v n d l w'/\gH K q v w q v w'
theorem xE{X:Nat->Prop}{K:Kx}{q:Qx}{v:Value}{n:Nat}{d:Ds}{l:List UInt8}{w:World}(H:TS X K q v n d l w)(t:List UInt8)(ht:t.length<=20000):
 Calls prog 24 #[.pointer (some ⟨K.db,0,none⟩),.string ⟨t.toArray⟩] w (CW X K q v n {d with txt:=Ed d.txt t} l w):=by
 have hz:=Ex.Y8 t;have hz2:=Ex.Y8 d.txt;obtain⟨⟨c0,c1⟩,f1⟩:=H.abv;have hld:=ae H.Zm;have HH:=hid H;have HT:=hid (GY t);have hdt:=H.inv.txt;clear H;unfold CW;by_cases h:d.txt.length<=6001
 ·have h':(d.txt.length:Int)<=6001:=by omega
  have E:=hid (show Ed d.txt t=d.txt++(t.take 6001++[10])by unfold Ed;rw[ag h]);have HS:=hid (show(ByteArray.mk d.txt.toArray++((ByteArray.mk t.toArray).extract 0 (min (t.length:Int) 6001).toNat++ByteArray.mk #[10]))=⟨(Ed d.txt t).toArray⟩by
   have e1:t.take (min (t.length:Int) 6001).toNat=t.take 6001:=by
    by_cases h6:t.length<=6001;rw[cz (i:=(min (t.length:Int) 6001).toNat) (by omega),cz h6];rw[show(min (t.length:Int) 6001).toNat=6001 by omega]
   rw[E.out,HT.out,e1,zA (t.take 6001) [10],zA])
  have hlen:(Ed d.txt t).length<=13000:=by rw[E.out];simp;omega
  go_enter func24,ntmps24;go_wp2;go_region;rw[HS.out];go_end0;obtain⟨T,G⟩:=HH.out.text _ hlen;exact⟨rfl,T.quiet (Kp.drew _),G.trans (gH.quiet _ _ _ (Kp.drew _))⟩
 ·have h':¬(d.txt.length:Int)<=6001:=by omega
  have E:=hid (show Ed d.txt t=d.txt by unfold Ed;rw[af h]);go_enter func24,ntmps24;go_wp2;go_end0;exact⟨rfl,by rw[E.out];exact HH.out,gH.quiet _ _ _ (Kp.refl _ _)⟩
theorem aax{X:Nat->Prop}{K:Kx}{q:Qx}{v:Value}{n:Nat}{d:Ds}{l:List UInt8}{w:World}(H:TS X K q v n d l w)(x:Sx)(pb po:Nat)(hp:w.cell? ⟨pb,po,none⟩=some (.pointer (some ⟨K.tb,0,none⟩))):
 Calls prog 65 #[.agg x.vals,.pointer (some ⟨pb,po,none⟩)] w (CW X K q v n {d with txt:=[]} l w):=by
 obtain⟨⟨c0,c1⟩,f1⟩:=H.abv;have hld:=ae H.Zm;have ct:=H.ZY.Zm;have hlp:=aW w _ hp;have hlt:=aW w _ ct;simp only at hlp hlt;have HT:=hid (H.text [] (by simp));clear H;unfold CW;go_enter func65,ntmps65;go_wp2;go_end0;obtain⟨T,G⟩:=HT.out;exact⟨rfl,T.quiet (Kp.alloc _ _),G.trans (gH.quiet _ _ _ (Kp.alloc _ _))⟩
def WZ(d:Ds)(w:World)(e:Ending)(w':World):Prop:=∃ao cap,e= .returned (.tuple #[.agg #[.slice ao (Ex.Zd (jq d)).1.length cap],.agg #[.int .i64 (Ex.Zd (jq d)).2.1,.int .i64 (Ex.Zd (jq d)).2.2]])/\(∀w2,Kp (fun i=>i<w.heap.size) w' w2->Ex.Fo (Ex.cln w2) (Ex.Zd (jq d)).1 ao)/\aA w w'
theorem wh{X:Nat->Prop}{K:Kx}{q:Qx}{v:Value}{n:Nat}{d:Ds}{l:List UInt8}{w:World}(H:TS X K q v n d l w):
 Calls prog 110 #[.pointer (some ⟨K.db,0,none⟩)] w (WZ d w):=by
 obtain⟨⟨c0,c1⟩,f1⟩:=H.abv;have HT:=hid (show∀w1:World,Calls prog 144 #[.string ⟨d.txt.toArray⟩,.string ⟨#[10]⟩] w1 fun e w'=>e= .returned (.string ⟨(jq d).toArray⟩)/\w'=w1 from fun w1=>O6 ⟨d.txt.toArray⟩ ⟨#[10]⟩ w1 (by have:=H.inv.txt;rw[Ex.Y8];omega));have q2:aA w ((w.alloc (.cells #[.slice none 0 0] 92)).alloc (.cells #[.int .i64 0,.int .i64 0] 31)):=(Kp.alloc _ _).trans (Kp.alloc _ _);have HP:=hid (Ex.acy (jq d) _ (H.quiet q2).lz.is.1 (H.quiet q2).lz.is.2);have cc1:=(H.quiet q2).abv.1.2;clear H q2;unfold WZ;unfold Ex.acx at HP;generalize jq d=t at*;generalize Ex.Zd t=r at*;obtain⟨m,c,a⟩:=r;simp only at HP|-;go_enter func110,ntmps110;go_wp2_with (first
  |(go_at_call 143;refine HP.out.mono ?_;rintro e w1 ⟨ao,cap,rfl,h1,q1⟩;obtain⟨hb0,hb1⟩:=Ex.ace q1;have c2:=Ex.aar hb0;have f2:=Ex.YZ hb0;obtain⟨d0,d1⟩:=Ex.Z6 hb1;have f3:=Ex.YZ hb1;have hl0:=ae hb0;have hl1:=ae hb1;have H1:=bC h1 q1;clear hb0 hb1 h1 q1)
  |(go_at_call 144;refine(HT.out _).mono ?_;rintro e w0 ⟨rfl,h0⟩;subst h0))
 refine au (v:= .tuple #[.agg #[.slice ao m.length cap],.agg #[.int .i64 c,.int .i64 a]]) (by simp[results,results110,go_sem,c2,d0,d1]) rfl ⟨ao,cap,rfl,fun w9 k9=> ?_, ?_⟩;refine H1.out.1 _ (Kp.trans ?_ (k9.mono fun i _ e=>by simp;omega));exact((Kp.setCell _ ⟨w.heap.size,0,none⟩ _ (by simp;omega)).trans (Kp.setCell _ ⟨w.heap.size+1,0,none⟩ _ (by simp))).trans (Kp.setCell _ ⟨w.heap.size+1,1,none⟩ _ (by simp));exact(((Kp.alloc _ _).trans (Kp.alloc _ _)).trans H1.out.2).fresh (((Kp.setCell _ ⟨w.heap.size,0,none⟩ _ (aj _)).trans (Kp.setCell _ ⟨w.heap.size+1,0,none⟩ _ (bQ _ _))).trans (Kp.setCell _ ⟨w.heap.size+1,1,none⟩ _ (bQ _ _)))
def IZ:List UInt8:=[101,110,100]
def qM(es:List Wo.ZI)(k:Nat):List UInt8:=((es.take k).map P8).flatten
theorem Br(es:List Wo.ZI)(k:Nat)(h:k<es.length):qM es (k+1)=qM es k++P8 es[k]:=by
 unfold qM;rw[iF es k h,bA,List.flatten_append];simp
theorem Cr(es:List Wo.ZI):qM es es.length++iK [IZ]=SE es:=by
 unfold qM SE;rw[aZ];rfl
theorem rZ{z:Int}(h:dH z):(Lib.itoa z).length<=21:=Lib.itoa_length_le z h.1 h.2
theorem CO{e:Wo.ZI}(h:Qo e):∀t∈[Lib.itoa e.plugin,Rt.textOf e.right,Lib.itoa e.cell,35::Lib.itoa e.node],t.length<=22:=by
 intro t ht;have h1:=rZ h.1;have h2:=rZ h.2.1;have h3:=rZ h.2.2.2;have h4:=Rt.ZG e.right;simp only[aU,dN,or_false]at ht;rcases ht with rfl|rfl|rfl|rfl;omega;omega;omega;simp;omega
theorem CZ(es:List Wo.ZI)(h:∀e∈es,Qo e)(k:Nat):(qM es k).length<=100*k:=by
 induction k with
 |zero=>simp[qM]
 |succ k ih=>
  by_cases hk:k<es.length;rw[Br es k hk,ak];have h1:=nW _ 22 (CO (h es[k] (aI hk)));have h2:(P8 es[k]).length=(Lib.join [Lib.itoa es[k].plugin,Rt.textOf es[k].right,Lib.itoa es[k].cell,35::Lib.itoa es[k].node] [32]).length+1:=(by simp[P8,iK]);rw[h2];simp only[aL,bf]at h1;omega;unfold qM at ih|-;rw[cz (by omega)]at ih|-;omega
theorem Yc(t:List UInt8):(ByteArray.mk #[35]++ByteArray.mk t.toArray)=ByteArray.mk (35::t).toArray:=by
 have:=zA [35] t;simpa using this
theorem wY(w:World)(a b c t:List UInt8):fF (w.alloc (.cells #[.string ⟨a.toArray⟩,.string ⟨b.toArray⟩,.string ⟨c.toArray⟩,.string (ByteArray.mk #[35]++ByteArray.mk t.toArray)] 9)) [a,b,c,35::t] (some ⟨w.heap.size,0,none⟩):=by
 rw[Yc];exact oQ w [a,b,c,35::t] (by simp)
theorem aaA{X:Nat->Prop}{K:Kx}{q:Qx}{v:Value}{n:Nat}{d:Ds}{l:List UInt8}{w:World}(H:TS X K q v n d l w)(x:Sx)(hn:n<=400)(hl:l.length<=50000000000000):
 Calls prog 72 #[.pointer (some ⟨K.tb,0,none⟩),.agg x.vals] w (wW X K q v n d (l++SE d.h.s.es) w):=by
 obtain⟨W,hW⟩:∃W,W=w.alloc (.cells x.vals 98):=⟨_,rfl⟩;have k0:aA w W:=by rw[hW];exact Kp.alloc _ _
 have hes:d.h.s.es.length<=800000:=by have:=H.inv.es;omega
 have HK:=hid (Wo.aaA _ W _ _ _ _ (H.quiet k0).house.ws (by omega));have hen:=H.inv.ent;have HI:=hid (fun(v2:Value) (l2:List UInt8) (w1 w2:World) (T:TS X K q v2 n d l2 w1) (k:aA w1 w2) (z:Int) (hz:dH z)=>Am z hz w2 (T.quiet k).lz.is.1);have HT:=hid (fun(v2:Value) (l2:List UInt8) (w1 w2:World) (T:TS X K q v2 n d l2 w1) (k:aA w1 w2) (ws:List (List UInt8)) (ao4:Option Addr) (cap:Nat) (h4:fF w2 ws ao4) (hcap:ws.length<=cap) (hf:Xm l2 ws)=>mX (T.quiet k) ws ao4 cap h4 hcap hf);have HH:=hid (H.quiet k0);have cW:=(H.quiet k0).way;have Q0:=hid k0;have HE:=bC hen hes;have HLD:=hid (Cr d.h.s.es);have HLL:=hid (CZ d.h.s.es hen);generalize d.h.s.es=es at*;obtain⟨kind,p,qq,k,hh,r1,g,n1,fs,fa,fc⟩:=x;simp only[Sx.vals]at*;clear H k0 hen;obtain⟨c0,c1,c2,c3,c4⟩:=cW;go_enter func72,ntmps72;rw[hW]at c0 c1 c2 c3 c4;go_wp2_with (go_at_call 117;rw[<-hW];refine HK.out.mono ?_;rintro e w1 ⟨rv,rfl,r1,q1⟩;have Q1:=bC q1 r1;obtain⟨ra,rc,rfl⟩:=Gr.YU r1;clear q1 r1 c0 c1 c2 c3 c4 hW);have H1:=hid (HH.out.quiet Q1.out.1);go_loopw [24] (fun i wr=>∃k:Nat,i= .int .i64 k/\k<=es.length/\Hid (∃v2,TS X K q v2 n d (l++qM es k) wr/\gH K q v w1 q v2 wr)) (fun i _=>es.length-(intOf i).toNat);case atStart=>exact⟨0,rfl,aP _,hid ⟨v,by simpa [qM]using H1.out,gH.quiet K q v (Kp.refl _ _)⟩⟩
 case round=>
  rename World=>wr;obtain⟨k,rfl,hk,D⟩:=hrel;obtain⟨v2,T2,G2⟩:=D.out;have TT:=hid T2;have GG:=hid G2;clear D;by_cases hlt:k<es.length
  ·obtain⟨g,cap,ea,a0,a1,a2,a3⟩:=LB Q1.out.2 k hlt;simp only[aY]at ea;obtain⟨rfl, -,rfl⟩:=ea;have hgn:¬yn K q v g:=fun e=>by
    have e1:=(HH.out.lt e).2;have e2:=(Q1.out.2.lt g (by simp[Value.ownBlock])).1;omega
   replace a0:=G2.kp.cell a0 hgn;replace a1:=G2.kp.cell a1 hgn;replace a2:=G2.kp.cell a2 hgn;replace a3:=G2.kp.cell a3 hgn;obtain⟨f0,f1,f2,f3⟩:=HE.out.1 es[k] (aI hlt);have HW:=hid (CO (HE.out.1 es[k] (aI hlt)));have HM:=hid (show l++qM es (k+1)=(l++qM es k)++iK [Lib.itoa es[k].plugin,Rt.textOf es[k].right,Lib.itoa es[k].cell,35::Lib.itoa es[k].node]by rw[Br es k hlt,<-aV];rfl);have HLN:=hid (show(l++qM es k).length<=100000000000000 by have:=HLL.out k;rw[ak];omega);generalize es[k]=ee at*;obtain⟨ep,ec,er,en⟩:=ee;simp only at a0 a1 a2 a3 f0 f1 f2 f3 HM HW;have HIp:=hid (fun(w2:World) (k:aA wr w2)=>HI.out _ _ _ w2 TT.out k ep f0);have HIc:=hid (fun(w2:World) (k:aA wr w2)=>HI.out _ _ _ w2 TT.out k ec f1);have HIn:=hid (fun(w2:World) (k:aA wr w2)=>HI.out _ _ _ w2 TT.out k en f3);have HR:=hid (fun(w2:World)=>Rt.aah er w2);have HTE:=hid (fun(w2:World) (k:aA wr w2) (ao4:Option Addr) (h4:fF w2 [Lib.itoa ep,Rt.textOf er,Lib.itoa ec,35::Lib.itoa en] ao4)=>HT.out _ _ _ w2 TT.out k _ ao4 4 h4 (by simp) ⟨⟨_,_,rfl,.inr (by simp)⟩,by simp,aF (nW _ 22 HW.out) (by simp),HLN.out⟩);have hln:=rZ f3;have hlb:¬9223372036854775807<1+(Lib.itoa en).length:=(by omega);rw[<-HM.out]at HTE;generalize Lib.itoa ep=tp at*;generalize Lib.itoa ec=tc at*;generalize Lib.itoa en=tn at*;generalize Rt.textOf er=tr at*;have sQ:=hid (show∀w',Kp (yn K q v2) (wr.alloc (.cells #[.int .i64 ep,.int .i64 ec,.int .i64 er,.int .i64 en] 101)) w'->w'.cell? ⟨wr.heap.size,0,none⟩=some (.int .i64 ep)/\w'.cell? ⟨wr.heap.size,1,none⟩=some (.int .i64 ec)/\w'.cell? ⟨wr.heap.size,2,none⟩=some (.int .i64 er)/\w'.cell? ⟨wr.heap.size,3,none⟩=some (.int .i64 en)from fun w' kw=>by
    have hb:=(kw.block _ (ae (ah wr _)) fun e=>by have:=(TT.out.lt e).2;omega).trans (ah wr (.cells #[.int .i64 ep,.int .i64 ec,.int .i64 er,.int .i64 en] 101));refine⟨?_, ?_, ?_, ?_⟩<;>simp[World.cell?,hb])
   have QA:=hid (Kp.alloc (F:=fun _=>False) wr (.cells #[.int .i64 ep,.int .i64 ec,.int .i64 er,.int .i64 en] 101));clear T2 G2 f0 f1 f2 f3;go_wp2_with fail;go_region_held3 (fun w'=>w'.cell? ⟨wr.heap.size,0,none⟩=some (.int .i64 ep)/\w'.cell? ⟨wr.heap.size,1,none⟩=some (.int .i64 ec)/\w'.cell? ⟨wr.heap.size,2,none⟩=some (.int .i64 er)/\w'.cell? ⟨wr.heap.size,3,none⟩=some (.int .i64 en)) ((refine sQ.out _ ?_;with_reducible (first|exact K6.out|exact(Q5.out.trans (Kp.alloc _ _)).mono fun _ _ e=>e.elim|exact Q5.out.mono fun _ _ e=>e.elim|exact Q4.out.mono fun _ _ e=>e.elim|exact Q3.out.mono fun _ _ e=>e.elim|exact Q2.out.mono fun _ _ e=>e.elim|exact Kp.drew _))) (first
    |(go_at_call 45;refine(HTE.out _ (QA.out.trans (Q5.out.trans (Kp.alloc _ _))) _ (wY w5 tp tr tc tn)).mono ?_;rintro e w6 ⟨rfl,v6,t6,g6⟩;have K6:=hid (show Kp (yn K q v2) _ w6 from((Q5.out.trans (Kp.alloc _ _)).mono fun _ _ e=>e.elim).trans g6.kp);have H6:=bC t6 ((gH.quiet K q v2 (QA.out.trans (Q5.out.trans (Kp.alloc _ _)))).trans g6);clear t6 g6)
    |(go_at_call 52;refine(HIn.out _ (QA.out.trans Q4.out)).mono ?_;rintro e w5 ⟨rfl,q5⟩;have Q5:=hid (Q4.out.trans q5);clear q5)
    |(go_at_call 52;refine(HIc.out _ (QA.out.trans Q3.out)).mono ?_;rintro e w4 ⟨rfl,q4⟩;have Q4:=hid (Q3.out.trans q4);clear q4)
    |(go_at_call 118;refine(HR.out _).mono ?_;rintro e w3 ⟨rfl,h3⟩;have Q3:=hid (show aA _ w3 from h3▸Q2.out);clear h3)
    |(go_at_call 52;refine(HIp.out _ (QA.out.trans (Kp.drew _))).mono ?_;rintro e w2 ⟨rfl,q2⟩;have Q2:=hid ((Kp.drew _).trans q2);clear q2))
   all_goals
    go_wp2_with fail;exact⟨⟨k+1,by go_num,by omega,hid ⟨v6,H6.out.1,GG.out.trans H6.out.2⟩⟩,by simp[intOf];omega⟩
  ·obtain rfl:k=es.length:=(by omega);have HT2:=hid (HT.out _ _ _ (wr.alloc (.cells #[.string ⟨#[101,110,100]⟩] 9)) TT.out (Kp.alloc _ _) [IZ] _ 1 (oQ wr [IZ] (by simp)) (by simp) ⟨⟨_,_,rfl,.inl (by simp[IZ])⟩,by simp,by simp[Lib.join,IZ],by have:=HLL.out es.length;rw[ak];omega⟩);rw[aV,HLD.out]at HT2;clear T2 G2;go_wp2_with (go_at_call 45;refine HT2.out.mono ?_;rintro e w2 ⟨rfl,v3,t3,g3⟩);go_end0;exact⟨rfl,v3,t3,((gH.quiet K q v (Q0.out.trans Q1.out.1)).trans GG.out).trans ((gH.quiet K q v2 (Kp.alloc _ _)).trans g3)⟩
theorem Pd{B:Nat}{w:World}{b:Nat}{cs:List Int}{v:Value}{es:List Wo.ZI}(h:Wo.WS B w b cs v es):
 Calls prog 119 #[.pointer (some ⟨b,0,none⟩)] w fun e w'=>∃ao,e= .returned (.slice ao cs.length 12)/\(∀w2,Kp (fun i=>i<w.heap.size) w' w2->sZ w2 cs ao)/\aA w w':=by
 have hl:=h.obj.len;refine(Wo.aci B w b cs v es h).mono ?_;rintro e w' ⟨rfl,hb,q⟩;refine⟨_,by rw[hl],fun w2 k2 i hi=>⟨_,_,rfl, ?_⟩,q⟩;have h2:=(k2.block _ (ae hb) (by omega)).trans hb;unfold World.cell?;rw[h2];simp[Wo.adx,hi]
def kZ:List UInt8:=[99,101,108,108,115]
theorem Kt{X:Nat->Prop}{K:Kx}{q:Qx}{v:Value}{n:Nat}{d:Ds}{l:List UInt8}{w:World}(H:TS X K q v n d l w)(x:Sx)(hl:l.length<=100000000000000):
 Calls prog 73 #[.pointer (some ⟨K.tb,0,none⟩),.agg x.vals] w (wW X K q v n d (l++iK (kZ::d.h.s.cs.map Lib.itoa)) w):=by
 obtain⟨i0,hi,hz0,hz1,hz2⟩:=bM mM;obtain⟨W0,hW0⟩:∃W0,W0=w.alloc (.cells x.vals 98):=⟨_,rfl⟩;obtain⟨W,hW⟩:∃W,W=W0.alloc (.cells #[.string ⟨#[99,101,108,108,115]⟩] 9):=⟨_,rfl⟩;have hs0:W0.heap.size=w.heap.size+1:=by rw[hW0];simp
 have hsz:W.heap.size=w.heap.size+1+1:=by rw[hW];simp;omega
 have k0:aA w W:=by rw[hW,hW0];exact(Kp.alloc _ _).trans (Kp.alloc _ _)
 have hrow:W.ownsRow w.heap.size 9 1 (.slice (some ⟨w.heap.size+1,0,none⟩) 1 1) 1 (lK [kZ]):=by
  rw[hW,<-hs0];exact gL (zz W0 [.string ⟨#[99,101,108,108,115]⟩] 9 (by simp)) (by omega)
 have hcl:=(H.quiet k0).house.ws.obj.len;have HK:=hid (Pd (H.quiet k0).house.ws);have hci:=H.house.ci;have HI:=hid (fun(w1:World) (k:aA w w1) (z:Int) (hz:dH z)=>Ex.Zz z hz w1 (H.quiet k).lz.is.1);have HT:=hid (fun(w1:World) (k:aA w w1) (ts:List (List UInt8)) (hts:ts.length<=12) (htl:∀t∈ts,t.length<=21) (ao4:Option Addr) (cap:Nat) (hcap:(kZ::ts).length<=cap) (h4:fF w1 (kZ::ts) ao4)=>mX (H.quiet k) (kZ::ts) ao4 cap h4 hcap ⟨⟨_,_,rfl,.inl (by simp[kZ])⟩,by simp;omega,aF (nW _ 21 fun t ht=>by
  rcases aU.1 ht with rfl|ht;simp[kZ]
  ·exact htl t ht) (by simp;omega),hl⟩)
 have cW:=(H.quiet k0).way;have Q0:=hid k0;have HR:=hid hrow;have HCI:=hid hci;have HCL:=hid hcl;generalize d.h.s.cs=cs at*;obtain⟨kind,p,qq,k,hh,r1,g,n1,fs,fa,fc⟩:=x;simp only[Sx.vals]at*;clear H k0 hrow hci hcl;obtain⟨c0,c1,c2,c3,c4⟩:=cW;have HSZ:=hid hsz;go_enter func73,ntmps73;rw[hW,hW0]at c0 c1 c2 c3 c4;go_wp2_with (go_at_call 119;rw[<-hW0,<-hW];refine HK.out.mono ?_;rintro e w1 ⟨ao,rfl,h1,q1⟩;have Q1:=bC q1 h1;clear q1 h1 c0 c1 c2 c3 c4 hW hW0 hs0 hsz);go_loopw [4,26] (fun sv i wr=>∃k:Nat,i= .int .i64 k/\k<=cs.length/\Hid (WdS w w1 (w.heap.size+1) (kZ::(cs.take k).map Lib.itoa) sv wr)/\Hid (∀t∈(cs.take k).map Lib.itoa,t.length<=21)) (fun _ i _=>cs.length-(intOf i).toNat);case atStart=>exact⟨0,rfl,aP _,hid ⟨Kp.refl _ _,by simpa using Q1.out.1.row HR.out fun _ _ e=>e,fun i e=> .inl (by simp[Value.ownBlock]at e;omega)⟩,hid (by simp)⟩
 case round=>
  rename World=>wr;obtain⟨k,rfl,hk,D,HLn⟩:=hrel;obtain⟨av,cv,rfl⟩:=YU D.out.row;have hcv:=uu D.out.row;have Q:=hid (show aA w wr from(Q0.out.trans Q1.out.1).fresh (D.out.k.mono fun i _ e=>by omega));by_cases hlt:k<cs.length
  ·obtain⟨b,off,rfl,hci⟩:=Q1.out.2 wr (D.out.k.mono fun i _ e=>by have:=HSZ.out;omega) k hlt;have hu:=HCI.out cs[k] (aI hlt);have HI2:=hid (HI.out wr Q.out cs[k] hu);have HN:=hid (show(cs.take (k+1)).map Lib.itoa=(cs.take k).map Lib.itoa++[Lib.itoa cs[k]]by rw[iF cs k hlt,bA];rfl);have HTL:=hid (show(Lib.itoa cs[k]).length<=21 from Lib.itoa_length_le _ hu.1 hu.2);generalize cs[k]=z at*;generalize Lib.itoa z=tx at*;have hsz:=D.out.k.size;have hs1:=Q1.out.1.size;have hs9:=Q0.out.size;have h12:cs.length<=12:=(by have:=HCL.out;omega);have HNX:=hid (show∀t∈(cs.take (k+1)).map Lib.itoa,t.length<=21 by
    rw[HN.out];intro t ht;rcases aK.1 ht with ht|ht;exact HLn.out t ht
    ·simp at ht;rw[ht];exact HTL.out)
   have HWL:=hid (show(kZ::(cs.take k).map Lib.itoa).length<=13 by have:=HCL.out;simp;omega);generalize hws:kZ::(cs.take k).map Lib.itoa=ws at*;have HWS:=hid hws;clear hu hws HLn;obtain⟨nk,hnk⟩:∃nk,nk=ws.length:=⟨_,rfl⟩;have HRr:=hid (show wr.ownsRow w.heap.size 9 1 (.slice av ws.length cv) nk (lK ws)by rw[hnk];exact D.out.row);have hk5:nk<=13:=(by have:=HWL.out;omega);rw[<-hnk]at HRr D|-;have HNK:=hid hnk;clear hnk hcv;go_wp2_with (first
    |(at_builtin;refine aX _ rfl (.tmp 30) (.tmp 33) 22 rfl w.heap.size 9 i0 _ 1 16 jB hi hz0 hz1 hz2 rfl (by decide) _ nk (lK ws) rfl (HR2.out.1.alloc _) ⟨w2.heap.size,0,none⟩ 1 1 [.string ⟨tx.toArray⟩] rfl rfl (gT w2 _ 9) (by simp[Value.oneCell']) (by decide) (by unfold maxLen;omega) (by omega) (by simp;omega) _ rfl ?_;intro g2 cap2 w3 hr3 hg3 hat hlt3;have H3:=gp hr3 hg3 hat;clear hr3 hg3 hat hlt3)
    |(go_at_call 37;refine HI2.out.mono ?_;rintro e w2 ⟨rfl,q2⟩;have HR2:=bC (q2.row HRr.out fun _ _ e=>e) q2;have hs2:=q2.size;clear q2))
   refine⟨⟨k+1,by go_num,by omega,hid ?_,HNX⟩,by simp[intOf];omega⟩;have hD:=D.out.quiet HR2.out.2;have e:=HNK.out;subst e;have e2:kZ::(cs.take (k+1)).map Lib.itoa=ws++[tx]:=(by rw[HN.out,<-HWS.out];rfl);rw[e2];exact hD.more H3.out.1 H3.out.2.1 (H3.out.2.2.elim (fun h=> .inl h) fun h=> .inr (by simpa using h))
  ·obtain rfl:k=cs.length:=(by omega);rw[aZ]at D HLn|-;have HT2:=hid (HT.out wr Q.out (cs.map Lib.itoa) (by have:=HCL.out;simp;omega) HLn.out av cv (uu D.out.row) (sV D.out.row));generalize(kZ::cs.map Lib.itoa).length=m at*;go_wp2_with (go_at_call 45;refine HT2.out.mono ?_;rintro e w2 ⟨rfl,v2,t2,g2⟩);go_end0;exact⟨rfl,v2,t2,(gH.quiet K q v Q.out).trans g2⟩
end Dk
theorem QH{w:World}(v:Ex.V):∀(ao:Option Addr),Ex.Is w v ao->∀p,∀i∈v.code p,dH i.n:=by
 have z:dH 0:=⟨by decide,by decide⟩;induction v using Ex.V.aan with
 |h v ih=>
  intro ao hI p i hi;have key:∀(l:List Ex.V),(∀u∈l,∀p,∀i∈u.code p,dH i.n)->∀k p,∀i∈Ex.codes v.kind l k p,dH i.n:=by
   intro l;induction l with
   |nil=>intro _ k p i hi;rw[Ex.ZC]at hi;simp at hi
   |cons u l ihl=>
    intro hl k p i hi;rw[Ex.Zk]at hi;rcases aK.1 hi with hi|hi
    ·unfold Ex.aa8 at hi;(repeat' split at hi);(all_goals simp at hi);all_goals first
      |(rw[hi];exact z)
      |(rcases hi with hi|hi<;>(rw[hi];exact z))
    ·rcases aK.1 hi with hi|hi;exact hl u List.mem_cons_self _ i hi;exact ihl (fun x hx=>hl x (List.mem_cons_of_mem _ hx)) _ _ i hi
  rw[Ex.aaa]at hi;rcases aU.1 hi with hi|hi;rw[hi];exact z
  ·rcases aK.1 hi with hi|hi;refine key v.l (fun u hu q j hj=> ?_) _ _ i hi;obtain⟨k,hk,rfl⟩:=bT hu;obtain⟨b,off,_,hat⟩:=hI.fo k hk;obtain⟨_,a2,c2,_,h2⟩:=(Ex.Zt _ _ _ _).1 hat;exact ih _ hu a2 h2 q j hj
   ·unfold Ex.postC at hi;(repeat' split at hi);(all_goals simp at hi);all_goals(rw[hi];first|exact z|exact hI.fit.2.2)
theorem Si{w:World}{l:List Ex.V}{ao:Option Addr}(h:Ex.Fo w l ao):∀v∈l,∀i∈Ex.Zj v,dH i.n:=by
 intro v hv i hi;obtain⟨k,hk,rfl⟩:=bT hv;obtain⟨b,off,_,hat⟩:=h k hk;obtain⟨_,a2,c2,_,h2⟩:=(Ex.Zt _ _ _ _).1 hat;unfold Ex.Zj at hi;rcases aK.1 hi with hi|hi;exact QH _ a2 h2 0 i hi;simp at hi;rw[hi];exact⟨by decide,by decide⟩
section
variable{H:Type}{enc:TypeId×Value->H}{w:World}
end
namespace Dk
theorem WH{l:List Ex.V}(h:(Ex.Y6 l).1=0):∀v∈l,v.bad l.length 0=0:=by
 unfold Ex.Y6 at h;by_cases h1:l.length<1\/6<l.length;rw[ag h1]at h;cases h;rw[af h1]at h;exact fun v hv=>Ex.ab8 (Ex.ab7 _ l 0 h v hv)
theorem EZ{w:World}{x:Sx}(hF:Ex.Fo (Ex.cln w) x.fs x.fa)(hS:Ex.sizes x.fs<=20000):tT (fun f=>f=Ex.Y6 x.fs) x w:=
 ⟨fun _ hf h0=>WH (hf▸h0),fun w1 k=>Ex.abD x.fs x.fa x.fc w1 (hF.aaN k) hS⟩
structure rE(x:Sx):Prop where
 p:dH x.p
 q:dH x.q
 k:dH x.k
 h:dH x.h
 r:dH x.r
 g:dH x.g
 n:dH x.n
 fs:x.fs=[]
theorem rE.fit{x:Sx}(h:rE x)(hk:dH x.kind):x.Fit:=⟨hk,h.p,h.q,h.k,h.h,h.r,h.g,h.n,fun v hv=>by rw[h.fs]at hv;cases hv⟩
theorem in0:dH 0:=⟨by omega,by omega⟩
theorem rE.fill{x:Sx}(h:rE x)(c:Int)(t:List UInt8):rE (nQ x c t).1:=by
 have hl:dH ((Ex.Za t).getD 0):=by
  cases e:Ex.Za t with
  |none=>exact in0
  |some z=>exact Ex.Z7 (Ex.aak e).1
 have hr:dH ((Rt.Zu t).1:Int):=by have:=Rt.abY t;unfold dH;omega
 unfold nQ XP;repeat' split
 ·exact⟨h.p,h.q,h.k,h.h,hr,h.g,h.n,h.fs⟩
 ·exact⟨hl,h.q,h.k,h.h,h.r,h.g,h.n,h.fs⟩
 ·exact⟨h.p,hl,h.k,h.h,h.r,h.g,h.n,h.fs⟩
 ·exact⟨h.p,h.q,hl,h.h,h.r,h.g,h.n,h.fs⟩
 ·exact⟨h.p,h.q,h.k,hl,h.r,h.g,h.n,h.fs⟩
 ·exact⟨h.p,h.q,h.k,h.h,h.r,hl,h.n,h.fs⟩
 ·exact⟨h.p,h.q,h.k,h.h,h.r,h.g,hl,h.fs⟩
 ·exact h
theorem MZ:∀(cs:List UInt8)(ts:List (List UInt8))(x y:Sx),rE x->qi cs ts x=some y->rE y:=by
 intro cs;induction cs with
 |nil=>intro ts x y h e;rw[CK]at e;cases e;exact h
 |cons c cs ih=>
  intro ts x y h e;cases ts with
  |nil=>cases e;exact h
  |cons t ts=>
   rw[qi]at e;split at e;exact ih _ _ _ (h.fill _ _) e;cases e
theorem FV{r:List UInt8×List UInt8}{first:List UInt8}{others:List (List UInt8)}{x:Sx}(h:o9 r first others=some x):rE x:=by
 unfold o9 at h;split at h;exact MZ _ _ _ _ ⟨in0,in0,in0,in0,in0,in0,in0,rfl⟩ h;cases h
theorem yw{w:World}{x:Sx}(h:rE x):tT (fun f=>f=Ex.Y6 x.fs) x w:=EZ (by rw[h.fs];exact Ex.Fo.nil _ _) (by rw[h.fs];simp[Ex.YX])
section
variable{X:Nat->Prop}{K:Kx}{q:Qx}{v:Value}{n:Nat}{d:Ds}{l:List UInt8}{w:World}
theorem tX(H:TS X K q v n d l w)(hn:n+1<=400)(x:Sx)(hx:rE x)(hk:dH x.kind)(hk1:x.kind≠1)(hl:l.length<=100000000000000):Calls prog 112 #[.pointer (some ⟨K.tb,0,none⟩),.agg x.vals] w (vH X K q v (n+1) (jQ d (x.sp 0)).1 (l++(jQ d (x.sp 0)).2) w):=
 Dc H hn x (hx.fit hk) _ (yw hx) (fun e=>absurd e hk1) hl
theorem vH.after{n':Nat}{d':Ds}{l':List UInt8}{w2 w3:World}{e:Ending}(k:aA w w2)(h:vH X K q v n' d' l' w2 e w3):vH X K q v n' d' l' w e w3:=by
 obtain⟨he,q',v',t,g⟩:=h;exact⟨he,q',v',t,(gH.quiet K q v k).trans g⟩
end
theorem xu{X:Nat->Prop}{K:Kx}{q:Qx}{v:Value}{n:Nat}{d:Ds}{l:List UInt8}{w:World}(H:TS X K q v n d l w)(hn:n+1<=400)(x:Sx)(hx:rE x)(kd:Int)(hk:dH kd)(hk1:kd≠1)(hl:l.length<=100000000000000)(kb ko pb po:Nat)(hc:w.cell? ⟨kb,ko,none⟩=some (.int .i64 kd))(hp:w.cell? ⟨pb,po,none⟩=some (.pointer (some ⟨K.tb,0,none⟩))):
 Calls prog 113 #[.agg x.vals,.pointer (some ⟨kb,ko,none⟩),.pointer (some ⟨pb,po,none⟩)] w (vH X K q v (n+1) (jQ d ({x with kind:=kd}.sp 0)).1 (l++(jQ d ({x with kind:=kd}.sp 0)).2) w):=by
 have HC:=hid (fun(w1:World) (k:aA w w1)=>tX (H.quiet k) hn {x with kind:=kd} ⟨hx.p,hx.q,hx.k,hx.h,hx.r,hx.g,hx.n,hx.fs⟩ hk hk1 hl);generalize jQ d ({x with kind:=kd}.sp 0)=r at*;have hlk:=aW w _ hc;have hlp:=aW w _ hp;simp only at hlk hlp;obtain⟨kind,p,qq,k,hh,r1,g,n1,fs,fa,fc⟩:=x;simp only[Sx.vals]at*;clear H hx;go_enter func113,ntmps113;go_wp2_with (go_at_call 112;refine(HC.out _ (Kp.alloc _ _)).mono ?_;intro e w2 h2;have H2:=hid (h2.after (Kp.alloc _ _));obtain⟨rfl,_⟩:=h2);go_end0;exact H2.out
theorem Az{X:Nat->Prop}{K:Kx}{q:Qx}{v:Value}{n:Nat}{d:Ds}{l:List UInt8}{w:World}(H:TS X K q v n d l w)(hn:n+1<=400)(x:Sx)(hx:rE x)(hl:l.length<=100000000000000):
 Calls prog 68 #[.pointer (some ⟨K.tb,0,none⟩),.agg x.vals] w (vH X K q v (n+1) (jQ d ({x with kind:=4,h:=max x.h 0}.sp 0)).1 (l++(jQ d ({x with kind:=4,h:=max x.h 0}.sp 0)).2) w):=by
 have hmx:dH (max x.h 0):=by have:=hx.h;unfold dH at*;omega
 have HC:=hid (fun(w1:World) (k:aA w w1)=>tX (H.quiet k) hn {x with kind:=4,h:=max x.h 0} ⟨hx.p,hx.q,hx.k,hmx,hx.r,hx.g,hx.n,hx.fs⟩ ⟨by simp,by simp⟩ (by simp) hl);generalize jQ d ({x with kind:=4,h:=max x.h 0}.sp 0)=r at*;obtain⟨kind,p,qq,k,hh,r1,g,n1,fs,fa,fc⟩:=x;simp only[Sx.vals]at*;clear H hx;go_enter func68,ntmps68;go_wp2_with (go_at_call 112;refine(HC.out _ (Kp.alloc _ _)).mono ?_;intro e w2 h2;have H2:=hid (h2.after (Kp.alloc _ _));obtain⟨rfl,_⟩:=h2);go_end0;exact H2.out
theorem xK{X:Nat->Prop}{K:Kx}{q:Qx}{v:Value}{n:Nat}{d:Ds}{l:List UInt8}{w:World}(H:TS X K q v n d l w)(hn:n+1<=400)(x:Sx)(hx:rE x)(hl:l.length<=100000000000000):
 Calls prog 69 #[.pointer (some ⟨K.tb,0,none⟩),.agg x.vals] w (vH X K q v (n+1) (jQ d ({x with kind:=4,h:= -1}.sp 0)).1 (l++(jQ d ({x with kind:=4,h:= -1}.sp 0)).2) w):=by
 have HC:=hid (fun(w1:World) (k:aA w w1)=>tX (H.quiet k) hn {x with kind:=4,h:= -1} ⟨hx.p,hx.q,hx.k,⟨by simp,by simp⟩,hx.r,hx.g,hx.n,hx.fs⟩ ⟨by simp,by simp⟩ (by simp) hl);generalize jQ d ({x with kind:=4,h:= -1}.sp 0)=r at*;obtain⟨kind,p,qq,k,hh,r1,g,n1,fs,fa,fc⟩:=x;simp only[Sx.vals]at*;clear H hx;go_enter func69,ntmps69;go_wp2_with (go_at_call 112;refine(HC.out _ (Kp.alloc _ _)).mono ?_;intro e w2 h2;have H2:=hid (h2.after (Kp.alloc _ _));obtain⟨rfl,_⟩:=h2);go_end0;exact H2.out
theorem Vm{W:World}{ns:List Int}{t:TypeId}{b:Nat}(hb:b=W.heap.size):sZ (W.alloc (.cells (ns.map fun z=>Value.int .i64 z).toArray t)) ns (some ⟨b,0,none⟩):=by
 subst hb;intro i hi;refine⟨_,_,rfl, ?_⟩;have:=ah W (.cells (ns.map fun z=>Value.int .i64 z).toArray t);unfold World.cell?;rw[this];simp[hi]
theorem TS.one{X:Nat->Prop}{K:Kx}{q:Qx}{v:Value}{n:Nat}{d:Ds}{l:List UInt8}{w:World}(H:TS X K q v n d l w):TS X K q v (n+1) d l w:=
 ⟨H.y,H.Zm,H.ZY,H.lz,⟨H.inv.trs,by have:=H.inv.tr;omega,by have:=H.inv.es;omega,fun p=>by have:=H.inv.few p;omega,H.inv.txt,H.inv.ent⟩,H.lo,H.xo⟩
theorem yL(t:List UInt8)(ht:t.length<=20000):dH (Ex.Zd t).2.1/\dH (Ex.Zd t).2.2:=by
 obtain⟨a,b,c,d⟩:=Ex.acz t ht;exact⟨by unfold dH;omega,by unfold dH;omega⟩
theorem yz{d:Ds}(h:d.txt.length<=13000):(jq d).length<=20000:=by
 unfold jq Lib.trimSuffix;split;simp;omega;omega
theorem Ey(t:List UInt8)(ht:t.length<=20000):Ex.sizes (Ex.Zd t).1<=20000:=by
 unfold Ex.Zd;split;have h1:=Ex.abE (t.length:Int) (Ex.scan t).1;have h2:=Ex.aaE t;omega;simp[Ex.YX]
theorem Qa{X:Nat->Prop}{K:Kx}{q:Qx}{v:Value}{n:Nat}{d:Ds}{l:List UInt8}{w:World}(H:TS X K q v n d l w)(hn:n+1<=400)(x:Sx)(hx:rE x)(hl:l.length<=100000000000000):
 Calls prog 66 #[.pointer (some ⟨K.tb,0,none⟩),.agg x.vals] w (vH X K q v (n+1) (yF d x).1 (l++(yF d x).2) w):=by
 have k1:aA w (w.alloc (.cells x.vals 98)):=Kp.alloc _ _;have HM:=hid (wh (H.quiet k1));unfold WZ at HM;have ct:=H.ZY.Zm;have hlt:=aW w _ ct;simp only at hlt;have HH:=hid H;have HX:=hid hx;have HPC:=hid (yL (jq d) (yz H.inv.txt));have HD:=hid (show yF d x=if(Ex.Zd (jq d)).2.1≠0 then(d,noD [(Ex.Zd (jq d)).2.1,(Ex.Zd (jq d)).2.2])else jQ d ⟨1,x.p,x.q,x.k,x.h,x.r,x.g,x.n,0,(Ex.Zd (jq d)).1⟩from rfl);have HOK:=hid (fun h=>(Ex.abf (l:=jq d) h).2.2.1);have HSZ:=hid (show(Ex.Zd (jq d)).2.1=0->Ex.sizes (Ex.Zd (jq d)).1<=20000 from fun _=>Ey _ (yz H.inv.txt));generalize Ex.Zd (jq d)=r at*;obtain⟨m,c,a⟩:=r;simp only at HM HD HPC HOK HSZ;generalize hLD:yF d x=ld at*;clear H hx k1 hLD;obtain⟨kind,p,qq,k,hh,r1,g,n1,fs,fa,fc⟩:=x;simp only[Sx.vals]at*;by_cases hc:c=0
 ·subst hc;rw[af (by simp)]at HD;rw[HD.out];have HC:=hid (fun(w4:World) (q4:aA w w4) (ao:Option Addr) (cap:Nat) (hF:Ex.Fo (Ex.cln w4) m ao)=>Dc (HH.out.quiet q4) hn ⟨1,p,qq,k,hh,r1,g,n1,m,ao,cap⟩ ⟨⟨by simp,by simp⟩,HX.out.p,HX.out.q,HX.out.k,HX.out.h,HX.out.r,HX.out.g,HX.out.n,Si hF.unclean⟩ _ (EZ (x:=⟨1,p,qq,k,hh,r1,g,n1,m,ao,cap⟩) hF (HSZ.out rfl)) (fun _ f hf=>by rw[hf];exact HOK.out rfl) hl);simp only[Sx.sp,Sx.vals]at HC;have hb0:(w.alloc (.cells #[.int .i64 kind,.int .i64 p,.int .i64 qq,.int .i64 k,.int .i64 hh,.int .i64 r1,.int .i64 g,.int .i64 n1,.slice fa fs.length fc] 98)).heap[w.heap.size]?=some (.cells (Sx.vals ⟨kind,p,qq,k,hh,r1,g,n1,fs,fa,fc⟩) 98 (0,0)):=ah w _;have HB0:=hid hb0;clear hb0;go_enter func66,ntmps66;go_wp2_with (go_at_call 110;refine HM.out.mono ?_;rintro e w1 ⟨ao,cap,rfl,h1,q1⟩;have hb1:=(q1.block _ (ae HB0.out) fun e=>e).trans HB0.out;obtain⟨⟨x0,x1,x2,x3,x4,x5,x6,x7,x8⟩,xf⟩:=je hb1;simp only at x0 x1 x2 x3 x4 x5 x6 x7 x8;have xf0:=xf 0;have xf8:=xf 8;have hl1:=ae hb1;have H1:=bC h1 q1;clear h1 q1 hb1 xf);go_region;go_wp2_with fail;have k9:Kp (fun i=>i=w.heap.size) w1 ((((w1.setCell ⟨w.heap.size,0,none⟩ (.int .i64 1)).setCell ⟨w.heap.size,8,none⟩ (.slice ao m.length cap)).alloc (.cells #[.slice ao m.length cap] 92)).alloc (.cells #[.int .i64 0,.int .i64 a] 31)).drew:=((((bF w1 _ _ _).trans (bF _ _ _ _)).trans (Kp.alloc _ _)).trans (Kp.alloc _ _)).trans (Kp.drew _);have q9:=hid (((Kp.alloc (F:=fun _=>False) w _).trans H1.out.2).fresh (k9.mono fun i _ e=>by omega));refine(HC.out _ q9.out ao cap (H1.out.1 _ (k9.mono fun i _ e=>by rw[e];simp))).mono ?_;intro e w5 h5;have H5:=hid (h5.after q9.out);obtain⟨rfl,_⟩:=h5;go_wp2;go_end0;exact H5.out
 ·have hcb:(c !=0)=true:=by simpa using hc
  rw[ag (by simpa using hc)]at HD;rw[HD.out];have HN:=hid (fun(w4:World) (q4:aA w w4) (ao4:Option Addr) (h4:sZ w4 [c,a] ao4)=>QT (HH.out.quiet q4) [c,a] ao4 2 h4 (by simp) (by simpa using HPC.out) hl);simp only[aL,bf,bP]at HN;go_enter func66,ntmps66;go_wp2_with (first
   |(go_at_call 111;refine(HN.out _ (Q1.out.trans (((Kp.alloc _ _).trans (Kp.alloc _ _)).trans (Kp.alloc _ _))) _ ?_).mono ?_)
   |(go_at_call 110;refine HM.out.mono ?_;rintro e w1 ⟨ao,cap,rfl,h1,q1⟩;have Q1:=hid ((Kp.alloc (F:=fun _=>False) w (.cells #[.int .i64 kind,.int .i64 p,.int .i64 qq,.int .i64 k,.int .i64 hh,.int .i64 r1,.int .i64 g,.int .i64 n1,.slice fa fs.length fc] 98)).trans q1);clear h1 q1))
  ·exact Vm (ns:=[c,a]) (by simp)
  ·rintro e w5 ⟨rfl,v5,t5,g5⟩;go_wp2;exact au (v:= .tuple #[]) (results_none rfl _ _ _) rfl ⟨rfl,q,v5,t5.one,(gH.quiet K q v (Q1.out.trans (((Kp.alloc _ _).trans (Kp.alloc _ _)).trans (Kp.alloc _ _)))).trans g5⟩
def BJ(tb i:Nat)(fv:Value)(w:World):Prop:=match i with
 |0=>∃b,fv= .func (.func 65) #[] #[.pointer (some ⟨b,0,none⟩)]/\w.cell? ⟨b,0,none⟩=some (.pointer (some ⟨tb,0,none⟩))
 |1=>fv= .func (.func 66) #[.pointer (some ⟨tb,0,none⟩)] #[]
 |2=>∃kb pb,fv= .func (.func 113) #[] #[.pointer (some ⟨kb,0,none⟩),.pointer (some ⟨pb,0,none⟩)]/\w.cell? ⟨kb,0,none⟩=some (.int .i64 2)/\w.cell? ⟨pb,0,none⟩=some (.pointer (some ⟨tb,0,none⟩))
 |3=>∃kb pb,fv= .func (.func 113) #[] #[.pointer (some ⟨kb,0,none⟩),.pointer (some ⟨pb,0,none⟩)]/\w.cell? ⟨kb,0,none⟩=some (.int .i64 3)/\w.cell? ⟨pb,0,none⟩=some (.pointer (some ⟨tb,0,none⟩))
 |4=>∃kb pb,fv= .func (.func 113) #[] #[.pointer (some ⟨kb,0,none⟩),.pointer (some ⟨pb,0,none⟩)]/\w.cell? ⟨kb,0,none⟩=some (.int .i64 5)/\w.cell? ⟨pb,0,none⟩=some (.pointer (some ⟨tb,0,none⟩))
 |5=>∃kb pb,fv= .func (.func 113) #[] #[.pointer (some ⟨kb,0,none⟩),.pointer (some ⟨pb,0,none⟩)]/\w.cell? ⟨kb,0,none⟩=some (.int .i64 6)/\w.cell? ⟨pb,0,none⟩=some (.pointer (some ⟨tb,0,none⟩))
 |6=>fv= .func (.func 68) #[.pointer (some ⟨tb,0,none⟩)] #[]
 |7=>fv= .func (.func 69) #[.pointer (some ⟨tb,0,none⟩)] #[]
 |8=>fv= .func (.func 70) #[.pointer (some ⟨tb,0,none⟩)] #[]
 |9=>fv= .func (.func 71) #[.pointer (some ⟨tb,0,none⟩)] #[]
 |10=>fv= .func (.func 72) #[.pointer (some ⟨tb,0,none⟩)] #[]
 |_=>fv= .func (.func 73) #[.pointer (some ⟨tb,0,none⟩)] #[]
theorem BJ.quiet{tb i:Nat}{fv:Value}{w w':World}(h:BJ tb i fv w)(q:aA w w'):BJ tb i fv w':=by
 unfold BJ at h|-;split at h;obtain⟨b,e,c⟩:=h;exact⟨b,e,q.cell c fun e=>e⟩;exact h;obtain⟨a,b,e,c,c2⟩:=h;exact⟨a,b,e,q.cell c fun e=>e,q.cell c2 fun e=>e⟩;obtain⟨a,b,e,c,c2⟩:=h;exact⟨a,b,e,q.cell c fun e=>e,q.cell c2 fun e=>e⟩;obtain⟨a,b,e,c,c2⟩:=h;exact⟨a,b,e,q.cell c fun e=>e,q.cell c2 fun e=>e⟩;obtain⟨a,b,e,c,c2⟩:=h;exact⟨a,b,e,q.cell c fun e=>e,q.cell c2 fun e=>e⟩;exact h;exact h;exact h;exact h;exact h;exact h
def GK(F:List Value):List Value:=[.string ⟨#[110,101,119]⟩,.string ⟨#[]⟩,F.getD 0 .nilFunc,.string ⟨#[108,111,97,100]⟩,.string ⟨#[80]⟩,F.getD 1 .nilFunc,.string ⟨#[103,114,97,110,116]⟩,.string ⟨#[80,75,82,71]⟩,F.getD 2 .nilFunc,.string ⟨#[108,105,110,107]⟩,.string ⟨#[80,81,75,82,71]⟩,F.getD 3 .nilFunc,.string ⟨#[99,117,116]⟩,.string ⟨#[71]⟩,F.getD 4 .nilFunc,.string ⟨#[103,97,116,101]⟩,.string ⟨#[]⟩,F.getD 5 .nilFunc,.string ⟨#[99,97,108,108]⟩,.string ⟨#[80,75,72]⟩,F.getD 6 .nilFunc,.string ⟨#[118,97,108,117,101]⟩,.string ⟨#[80,75,78]⟩,F.getD 7 .nilFunc,.string ⟨#[104,97,110,100]⟩,.string ⟨#[80]⟩,F.getD 8 .nilFunc,.string ⟨#[107,101,112,116]⟩,.string ⟨#[80]⟩,F.getD 9 .nilFunc,.string ⟨#[108,111,103]⟩,.string ⟨#[]⟩,F.getD 10 .nilFunc,.string ⟨#[99,101,108,108,115]⟩,.string ⟨#[]⟩,F.getD 11 .nilFunc]
def zb(k:Nat):List UInt8×List UInt8:=qL.getD k ([],[])
theorem uJ{k:Nat}(h:k<12):k=0\/k=1\/k=2\/k=3\/k=4\/k=5\/k=6\/k=7\/k=8\/k=9\/k=10\/k=11:=by omega
theorem Rb(F:List Value)(k:Nat)(h:k<12):(GK F)[k*3]?=some (.string ⟨(zb k).1.toArray⟩)/\(GK F)[k*3+1]?=some (.string ⟨(zb k).2.toArray⟩)/\(GK F)[k*3+2]?=some (F.getD k .nilFunc):=by
 rcases uJ h with rfl|rfl|rfl|rfl|rfl|rfl|rfl|rfl|rfl|rfl|rfl|rfl<;>exact⟨rfl,rfl,rfl⟩
theorem Wh(k:Nat)(h:k<12):P5 (zb k):=by
 rcases uJ h with rfl|rfl|rfl|rfl|rfl|rfl|rfl|rfl|rfl|rfl|rfl|rfl<;>exact TY _ (by simp[zb,qL])
structure M5(tb g:Nat)(F:List Value)(w:World):Prop where
 row:w.heap[g]?=some (.cells (GK F).toArray 114 (0,0))
 fn:∀i,i<12->BJ tb i (F.getD i .nilFunc) w
theorem M5.quiet{tb g:Nat}{F:List Value}{w w':World}(h:M5 tb g F w)(q:aA w w'):M5 tb g F w':=⟨(q.block _ (ae h.row) fun e=>e).trans h.row,fun i hi=>(h.fn i hi).quiet q⟩
theorem M5.at{tb g:Nat}{F:List Value}{w:World}(h:M5 tb g F w)(k:Nat)(hk:k<12):w.cell? ⟨g,k*3,none⟩=some (.string ⟨(zb k).1.toArray⟩)/\w.cell? ⟨g,k*3+1,none⟩=some (.string ⟨(zb k).2.toArray⟩)/\w.cell? ⟨g,k*3+2,none⟩=some (F.getD k .nilFunc):=by
 obtain⟨a,b,c⟩:=Rb F k hk;have key:∀j,w.cell? ⟨g,j,none⟩=(GK F)[j]?:=fun j=>by simp[World.cell?,h.row]
 exact⟨(key _).trans a,(key _).trans b,(key _).trans c⟩
theorem OY(tb:Nat)(kd:Int)(w:World):Calls prog 67 #[.pointer (some ⟨tb,0,none⟩),.int .i64 kd] w fun e w'=>∃kb pb,e= .returned (.func (.func 113) #[] #[.pointer (some ⟨kb,0,none⟩),.pointer (some ⟨pb,0,none⟩)])/\(w'.cell? ⟨kb,0,none⟩=some (.int .i64 kd)/\w'.cell? ⟨pb,0,none⟩=some (.pointer (some ⟨tb,0,none⟩)))/\aA w w':=by
 go_enter func67,ntmps67;go_wp2;go_ret;refine⟨_,_,rfl,⟨?_, ?_⟩,(Kp.alloc _ _).trans (Kp.alloc _ _)⟩;have:=ah (w.alloc (.cells #[.pointer (some ⟨tb,0,none⟩)] 79)) (.cells #[.int .i64 kd] 3);simp at this;simp[World.cell?,this];have:=(aB (w.alloc (.cells #[.pointer (some ⟨tb,0,none⟩)] 79)) (.cells #[.int .i64 kd] 3) w.heap.size (by simp)).trans (ah w _);simp[World.cell?,this]
set_option linter.unusedSimpArgs false in
theorem Nr(tb:Nat)(w:World):Calls prog 43 #[.pointer (some ⟨tb,0,none⟩)] w fun e w'=>∃g F,e= .returned (.slice (some ⟨g,0,none⟩) 12 12)/\M5 tb g F w'/\aA w w':=by
 have HS:=hid (OY tb);have sQ:=hid (show∀w',aA (w.alloc (.cells #[.pointer (some ⟨tb,0,none⟩)] 79)) w'->w'.cell? ⟨w.heap.size,0,none⟩=some (.pointer (some ⟨tb,0,none⟩))from fun w' k=>by
  have:=(k.block _ (ae (ah w _)) fun e=>e).trans (ah w (.cells #[.pointer (some ⟨tb,0,none⟩)] 79));simp[World.cell?,this])
 go_enter func43,ntmps43;go_wp2_with fail;refine wp_region_held_drew (S:=fun w'=>w'.cell? ⟨w.heap.size,0,none⟩=some (.pointer (some ⟨tb,0,none⟩))) (by kernel_rfl) (sQ.out _ (Kp.drew _)) (fun hHeld=> ?_);refine wpAnyH_take (i:=0) (oi:=_) (v:= ?_) rfl (by kernel_rfl) (by kernel_rfl) (by kernel_rfl) (fun _ _ _ h=>h) (Or.inl ⟨by rfl, ?_⟩) (by assumption) ?_;rotate_left
 ·(intro w hSw;(try dsimp only at hSw);go_simp;try with_reducible rfl)
 try simp only[Act.put,aH,aO,aN]
 refine wpAnyH_take (i:=1) (oi:=_) (v:= ?_) rfl (by kernel_rfl) (by kernel_rfl) (by kernel_rfl) (fun _ _ _ h=>h) (Or.inl ⟨by rfl, ?_⟩) (by assumption) ?_;rotate_left
 ·(intro w hSw;(try dsimp only at hSw);go_simp;try with_reducible rfl)
 try simp only[Act.put,aH,aO,aN]
 refine wpAnyH_take (i:=2) (oi:=_) (v:= ?_) rfl (by kernel_rfl) (by kernel_rfl) (by kernel_rfl) (fun _ _ _ h=>h) (Or.inl ⟨by rfl, ?_⟩) (by assumption) ?_;rotate_left
 ·(intro w hSw;(try dsimp only at hSw);go_simp;try with_reducible rfl)
 try simp only[Act.put,aH,aO,aN]
 refine wpAnyH_take (i:=3) (oi:=_) (v:= ?_) rfl (by kernel_rfl) (by kernel_rfl) (by kernel_rfl) (fun _ _ _ h=>h) (Or.inl ⟨by rfl, ?_⟩) (by assumption) ?_;rotate_left
 ·(intro w hSw;(try dsimp only at hSw);go_simp;try with_reducible rfl)
 try simp only[Act.put,aH,aO,aN]
 refine wpAnyH_take (i:=4) (oi:=_) (v:= ?_) rfl (by kernel_rfl) (by kernel_rfl) (by kernel_rfl) (fun _ _ _ h=>h) (Or.inl ⟨by rfl, ?_⟩) (by assumption) ?_;rotate_left
 ·(intro w hSw;(try dsimp only at hSw);go_simp;try with_reducible rfl)
 try simp only[Act.put,aH,aO,aN]
 refine wpAnyH_take (i:=5) (oi:=_) (v:= ?_) rfl (by kernel_rfl) (by kernel_rfl) (by kernel_rfl) (fun _ _ _ h=>h) (Or.inl ⟨by rfl, ?_⟩) (by assumption) ?_;rotate_left
 ·(intro w hSw;(try dsimp only at hSw);go_simp;try with_reducible rfl)
 try simp only[Act.put,aH,aO,aN]
 refine wpAnyH_take (i:=8) (oi:=_) (v:= ?_) rfl (by kernel_rfl) (by kernel_rfl) (by kernel_rfl) (fun _ _ _ h=>h) (Or.inl ⟨by rfl, ?_⟩) (by assumption) ?_;rotate_left
 ·(intro w hSw;(try dsimp only at hSw);go_simp;try with_reducible rfl)
 try simp only[Act.put,aH,aO,aN]
 refine wpAnyH_take (i:=11) (oi:=_) (v:= ?_) rfl (by kernel_rfl) (by kernel_rfl) (by kernel_rfl) (fun _ _ _ h=>h) (Or.inl ⟨by rfl, ?_⟩) (by assumption) ?_;rotate_left
 ·(intro w hSw;(try dsimp only at hSw);go_simp;try with_reducible rfl)
 try simp only[Act.put,aH,aO,aN]
 refine wpAnyH_take (i:=14) (oi:=_) (v:= ?_) rfl (by kernel_rfl) (by kernel_rfl) (by kernel_rfl) (fun _ _ _ h=>h) (Or.inl ⟨by rfl, ?_⟩) (by assumption) ?_;rotate_left
 ·(intro w hSw;(try dsimp only at hSw);go_simp;try with_reducible rfl)
 try simp only[Act.put,aH,aO,aN]
 refine wpAnyH_take (i:=17) (oi:=_) (v:= ?_) rfl (by kernel_rfl) (by kernel_rfl) (by kernel_rfl) (fun _ _ _ h=>h) (Or.inl ⟨by rfl, ?_⟩) (by assumption) ?_;rotate_left
 ·(intro w hSw;(try dsimp only at hSw);go_simp;try with_reducible rfl)
 try simp only[Act.put,aH,aO,aN]
 refine wpAnyH_take (i:=18) (oi:=_) (v:= ?_) rfl (by kernel_rfl) (by kernel_rfl) (by kernel_rfl) (fun _ _ _ h=>h) (Or.inl ⟨by rfl, ?_⟩) (by assumption) ?_;rotate_left
 ·(intro w hSw;(try dsimp only at hSw);go_simp;try with_reducible rfl)
 try simp only[Act.put,aH,aO,aN]
 refine wpAnyH_take (i:=19) (oi:=_) (v:= ?_) rfl (by kernel_rfl) (by kernel_rfl) (by kernel_rfl) (fun _ _ _ h=>h) (Or.inl ⟨by rfl, ?_⟩) (by assumption) ?_;rotate_left
 ·(intro w hSw;(try dsimp only at hSw);go_simp;try with_reducible rfl)
 try simp only[Act.put,aH,aO,aN]
 refine wpAnyH_take (i:=20) (oi:=_) (v:= ?_) rfl (by kernel_rfl) (by kernel_rfl) (by kernel_rfl) (fun _ _ _ h=>h) (Or.inl ⟨by rfl, ?_⟩) (by assumption) ?_;rotate_left
 ·(intro w hSw;(try dsimp only at hSw);go_simp;try with_reducible rfl)
 try simp only[Act.put,aH,aO,aN]
 refine wpAnyH_take (i:=21) (oi:=_) (v:= ?_) rfl (by kernel_rfl) (by kernel_rfl) (by kernel_rfl) (fun _ _ _ h=>h) (Or.inl ⟨by rfl, ?_⟩) (by assumption) ?_;rotate_left
 ·(intro w hSw;(try dsimp only at hSw);go_simp;try with_reducible rfl)
 try simp only[Act.put,aH,aO,aN]
 refine wpAnyH_take (i:=22) (oi:=_) (v:= ?_) rfl (by kernel_rfl) (by kernel_rfl) (by kernel_rfl) (fun _ _ _ h=>h) (Or.inl ⟨by rfl, ?_⟩) (by assumption) ?_;rotate_left
 ·(intro w hSw;(try dsimp only at hSw);go_simp;try with_reducible rfl)
 try simp only[Act.put,aH,aO,aN]
 refine wpAnyH_take (i:=23) (oi:=_) (v:= ?_) rfl (by kernel_rfl) (by kernel_rfl) (by kernel_rfl) (fun _ _ _ h=>h) (Or.inl ⟨by rfl, ?_⟩) (by assumption) ?_;rotate_left
 ·(intro w hSw;(try dsimp only at hSw);go_simp;try with_reducible rfl)
 try simp only[Act.put,aH,aO,aN]
 refine wpAnyH_take (i:=24) (oi:=_) (v:= ?_) rfl (by kernel_rfl) (by kernel_rfl) (by kernel_rfl) (fun _ _ _ h=>h) (Or.inl ⟨by rfl, ?_⟩) (by assumption) ?_;rotate_left
 ·(intro w hSw;(try dsimp only at hSw);go_simp;try with_reducible rfl)
 try simp only[Act.put,aH,aO,aN]
 refine wpAnyH_take (i:=25) (oi:=_) (v:= ?_) rfl (by kernel_rfl) (by kernel_rfl) (by kernel_rfl) (fun _ _ _ h=>h) (Or.inl ⟨by rfl, ?_⟩) (by assumption) ?_;rotate_left
 ·(intro w hSw;(try dsimp only at hSw);go_simp;try with_reducible rfl)
 try simp only[Act.put,aH,aO,aN]
 refine wpAnyH_take (i:=26) (oi:=_) (v:= ?_) rfl (by kernel_rfl) (by kernel_rfl) (by kernel_rfl) (fun _ _ _ h=>h) (Or.inl ⟨by rfl, ?_⟩) (by assumption) ?_;rotate_left
 ·(intro w hSw;(try dsimp only at hSw);go_simp;try with_reducible rfl)
 try simp only[Act.put,aH,aO,aN]
 refine wpAnyH_take (i:=27) (oi:=_) (v:= ?_) rfl (by kernel_rfl) (by kernel_rfl) (by kernel_rfl) (fun _ _ _ h=>h) (Or.inl ⟨by rfl, ?_⟩) (by assumption) ?_;rotate_left
 ·(intro w hSw;(try dsimp only at hSw);go_simp;try with_reducible rfl)
 try simp only[Act.put,aH,aO,aN]
 refine wpAnyH_take (i:=28) (oi:=_) (v:= ?_) rfl (by kernel_rfl) (by kernel_rfl) (by kernel_rfl) (fun _ _ _ h=>h) (Or.inl ⟨by rfl, ?_⟩) (by assumption) ?_;rotate_left
 ·(intro w hSw;(try dsimp only at hSw);go_simp;try with_reducible rfl)
 try simp only[Act.put,aH,aO,aN]
 refine wpAnyH_take (i:=29) (oi:=_) (v:= ?_) rfl (by kernel_rfl) (by kernel_rfl) (by kernel_rfl) (fun _ _ _ h=>h) (Or.inl ⟨by rfl, ?_⟩) (by assumption) ?_;rotate_left
 ·(intro w hSw;(try dsimp only at hSw);go_simp;try with_reducible rfl)
 try simp only[Act.put,aH,aO,aN]
 refine wpAnyH_take (i:=30) (oi:=_) (v:= ?_) rfl (by kernel_rfl) (by kernel_rfl) (by kernel_rfl) (fun _ _ _ h=>h) (Or.inl ⟨by rfl, ?_⟩) (by assumption) ?_;rotate_left
 ·(intro w hSw;(try dsimp only at hSw);go_simp;try with_reducible rfl)
 try simp only[Act.put,aH,aO,aN]
 refine wpAnyH_take (i:=31) (oi:=_) (v:= ?_) rfl (by kernel_rfl) (by kernel_rfl) (by kernel_rfl) (fun _ _ _ h=>h) (Or.inl ⟨by rfl, ?_⟩) (by assumption) ?_;rotate_left
 ·(intro w hSw;(try dsimp only at hSw);go_simp;try with_reducible rfl)
 try simp only[Act.put,aH,aO,aN]
 refine wpAnyH_take (i:=32) (oi:=_) (v:= ?_) rfl (by kernel_rfl) (by kernel_rfl) (by kernel_rfl) (fun _ _ _ h=>h) (Or.inl ⟨by rfl, ?_⟩) (by assumption) ?_;rotate_left
 ·(intro w hSw;(try dsimp only at hSw);go_simp;try with_reducible rfl)
 try simp only[Act.put,aH,aO,aN]
 refine wpAnyH_take (i:=33) (oi:=_) (v:= ?_) rfl (by kernel_rfl) (by kernel_rfl) (by kernel_rfl) (fun _ _ _ h=>h) (Or.inl ⟨by rfl, ?_⟩) (by assumption) ?_;rotate_left
 ·(intro w hSw;(try dsimp only at hSw);go_simp;try with_reducible rfl)
 try simp only[Act.put,aH,aO,aN]
 refine wpAnyH_take (i:=34) (oi:=_) (v:= ?_) rfl (by kernel_rfl) (by kernel_rfl) (by kernel_rfl) (fun _ _ _ h=>h) (Or.inl ⟨by rfl, ?_⟩) (by assumption) ?_;rotate_left
 ·(intro w hSw;(try dsimp only at hSw);go_simp;try with_reducible rfl)
 try simp only[Act.put,aH,aO,aN]
 refine wpAnyH_ready (rs:=[6]) (by kernel_rfl) (by simp) ?_;refine AllReadyH.cons (o:=_) rfl (fun K hK=> ?_) AllReadyH.nil;go_simp;go_at_call 67;refine(HS.out 2 _).mono ?_;rintro e w1 ⟨k1,p1,rfl,c1,q1⟩;have C1:=hid c1;have R1:=hid q1;have Q1:=hid ((Kp.drew _).trans q1);clear c1 q1;go_wp2_with fail;refine hK.out _ _ (sQ.out _ Q1.out) (fun hHeld=> ?_);clear hK K;try simp only[Act.put,aH,aO,aN]
 refine wpAnyH_take (i:=7) (oi:=_) (v:= ?_) rfl (by kernel_rfl) (by kernel_rfl) (by kernel_rfl) (fun _ _ _ h=>h) (Or.inl ⟨by rfl, ?_⟩) (by assumption) ?_;rotate_left
 ·(intro w hSw;(try dsimp only at hSw);go_simp;try with_reducible rfl)
 try simp only[Act.put,aH,aO,aN]
 refine wpAnyH_ready (rs:=[9]) (by kernel_rfl) (by simp) ?_;refine AllReadyH.cons (o:=_) rfl (fun K hK=> ?_) AllReadyH.nil;go_simp;go_at_call 67;refine(HS.out 3 _).mono ?_;rintro e w2 ⟨k2,p2,rfl,c2,q2⟩;have C2:=hid c2;have R2:=hid q2;have Q2:=hid (Q1.out.trans q2);clear c2 q2;go_wp2_with fail;refine hK.out _ _ (sQ.out _ Q2.out) (fun hHeld=> ?_);clear hK K;try simp only[Act.put,aH,aO,aN]
 refine wpAnyH_take (i:=10) (oi:=_) (v:= ?_) rfl (by kernel_rfl) (by kernel_rfl) (by kernel_rfl) (fun _ _ _ h=>h) (Or.inl ⟨by rfl, ?_⟩) (by assumption) ?_;rotate_left
 ·(intro w hSw;(try dsimp only at hSw);go_simp;try with_reducible rfl)
 try simp only[Act.put,aH,aO,aN]
 refine wpAnyH_ready (rs:=[12]) (by kernel_rfl) (by simp) ?_;refine AllReadyH.cons (o:=_) rfl (fun K hK=> ?_) AllReadyH.nil;go_simp;go_at_call 67;refine(HS.out 5 _).mono ?_;rintro e w3 ⟨k3,p3,rfl,c3,q3⟩;have C3:=hid c3;have R3:=hid q3;have Q3:=hid (Q2.out.trans q3);clear c3 q3;go_wp2_with fail;refine hK.out _ _ (sQ.out _ Q3.out) (fun hHeld=> ?_);clear hK K;try simp only[Act.put,aH,aO,aN]
 refine wpAnyH_take (i:=13) (oi:=_) (v:= ?_) rfl (by kernel_rfl) (by kernel_rfl) (by kernel_rfl) (fun _ _ _ h=>h) (Or.inl ⟨by rfl, ?_⟩) (by assumption) ?_;rotate_left
 ·(intro w hSw;(try dsimp only at hSw);go_simp;try with_reducible rfl)
 try simp only[Act.put,aH,aO,aN]
 refine wpAnyH_ready (rs:=[15]) (by kernel_rfl) (by simp) ?_;refine AllReadyH.cons (o:=_) rfl (fun K hK=> ?_) AllReadyH.nil;go_simp;go_at_call 67;refine(HS.out 6 _).mono ?_;rintro e w4 ⟨k4,p4,rfl,c4,q4⟩;have C4:=hid c4;have R4:=hid q4;have Q4:=hid (Q3.out.trans q4);clear c4 q4;go_wp2_with fail;refine hK.out _ _ (sQ.out _ Q4.out) (fun hHeld=> ?_);clear hK K;try simp only[Act.put,aH,aO,aN]
 refine wpAnyH_take (i:=16) (oi:=_) (v:= ?_) rfl (by kernel_rfl) (by kernel_rfl) (by kernel_rfl) (fun _ _ _ h=>h) (Or.inl ⟨by rfl, ?_⟩) (by assumption) ?_;rotate_left
 ·(intro w hSw;(try dsimp only at hSw);go_simp;try with_reducible rfl)
 try simp only[Act.put,aH,aO,aN]
 refine wpAnyH_ready (rs:=[35]) (by kernel_rfl) (by simp) ?_;refine AllReadyH.cons (o:=_) rfl (fun K hK=> ?_) AllReadyH.nil;go_simp;refine hK.out _ _ (sQ.out _ (Q4.out.trans (Kp.alloc _ _))) (fun hHeld=> ?_);clear hK K;try simp only[Act.put,aH,aO,aN]
 refine wpAnyH_ready (rs:=[36]) (by kernel_rfl) (by simp) ?_;refine AllReadyH.cons (o:=_) rfl (fun K hK=> ?_) AllReadyH.nil;go_simp;refine hK.out _ _ (sQ.out _ (Q4.out.trans (Kp.alloc _ _))) (fun hHeld=> ?_);clear hK K;refine wpAnyH_done (by kernel_rfl) ?_ _;go_wp2_with fail;go_ret;refine⟨w4.heap.size,[.func (.func 65) #[] #[.pointer (some ⟨w.heap.size,0,none⟩)],.func (.func 66) #[.pointer (some ⟨tb,0,none⟩)] #[],.func (.func 113) #[] #[.pointer (some ⟨k1,0,none⟩),.pointer (some ⟨p1,0,none⟩)],.func (.func 113) #[] #[.pointer (some ⟨k2,0,none⟩),.pointer (some ⟨p2,0,none⟩)],.func (.func 113) #[] #[.pointer (some ⟨k3,0,none⟩),.pointer (some ⟨p3,0,none⟩)],.func (.func 113) #[] #[.pointer (some ⟨k4,0,none⟩),.pointer (some ⟨p4,0,none⟩)],.func (.func 68) #[.pointer (some ⟨tb,0,none⟩)] #[],.func (.func 69) #[.pointer (some ⟨tb,0,none⟩)] #[],.func (.func 70) #[.pointer (some ⟨tb,0,none⟩)] #[],.func (.func 71) #[.pointer (some ⟨tb,0,none⟩)] #[],.func (.func 72) #[.pointer (some ⟨tb,0,none⟩)] #[],.func (.func 73) #[.pointer (some ⟨tb,0,none⟩)] #[]],rfl,⟨ah w4 _,fun i hi=> ?_⟩,((Kp.alloc _ _).trans Q4.out).trans (Kp.alloc _ _)⟩;have z5:∀o,aA w4 (w4.alloc o):=fun o=>Kp.alloc w4 o;have z3:=R3.out.trans R4.out;have z2:=R2.out.trans z3;rcases uJ hi with rfl|rfl|rfl|rfl|rfl|rfl|rfl|rfl|rfl|rfl|rfl|rfl
 ·exact⟨_,rfl,sQ.out _ (Q4.out.trans (Kp.alloc _ _))⟩
 ·rfl
 ·exact⟨_,_,rfl,(z5 _).cell (z2.cell C1.out.1 fun e=>e) fun e=>e,(z5 _).cell (z2.cell C1.out.2 fun e=>e) fun e=>e⟩
 ·exact⟨_,_,rfl,(z5 _).cell (z3.cell C2.out.1 fun e=>e) fun e=>e,(z5 _).cell (z3.cell C2.out.2 fun e=>e) fun e=>e⟩
 ·exact⟨_,_,rfl,(z5 _).cell (R4.out.cell C3.out.1 fun e=>e) fun e=>e,(z5 _).cell (R4.out.cell C3.out.2 fun e=>e) fun e=>e⟩
 ·exact⟨_,_,rfl,(z5 _).cell C4.out.1 fun e=>e,(z5 _).cell C4.out.2 fun e=>e⟩
 all_goals rfl
section
variable{X:Nat->Prop}{K:Kx}{q:Qx}{v:Value}{n:Nat}{d:Ds}{l:List UInt8}{w w':World}{e:Ending}
theorem wW.ask(h:wW X K q v n d l w e w'):vH X K q v (n+1) d l w e w':=by
 obtain⟨he,v',t,g⟩:=h;exact⟨he,q,v',t.one,g⟩
theorem CW.ask(h:CW X K q v n d l w e w'):vH X K q v (n+1) d (l++[]) w e w':=by
 obtain⟨he,t,g⟩:=h;rw[dC];exact⟨he,q,v,t.one,g⟩
theorem Vu(H:TS X K q v n d l w)(hn:n+1<=400)(x:Sx)(hx:rE x)(hl:l.length<=50000000000000)(k:Nat)(hk:k<12)(fv:Value)(hf:BJ K.tb k fv w):
 ∃N a b,fv= .func (.func N) a b/\Calls prog N (a.push (.agg x.vals)++b) w (vH X K q v (n+1) (Dy k x d).1 (l++(Dy k x d).2) w):=by
 have hl2:l.length<=100000000000000:=by omega
 rcases uJ hk with rfl|rfl|rfl|rfl|rfl|rfl|rfl|rfl|rfl|rfl|rfl|rfl;obtain⟨b,rfl,c⟩:=hf;exact⟨_,_,_,rfl,(aax H x b 0 c).mono fun _ _ h=>h.ask⟩;obtain rfl:=hf;exact⟨_,_,_,rfl,Qa H hn x hx hl2⟩;obtain⟨a,b,rfl,c,c2⟩:=hf;exact⟨_,_,_,rfl,xu H hn x hx 2 ⟨by simp,by simp⟩ (by simp) hl2 a 0 b 0 c c2⟩;obtain⟨a,b,rfl,c,c2⟩:=hf;exact⟨_,_,_,rfl,xu H hn x hx 3 ⟨by simp,by simp⟩ (by simp) hl2 a 0 b 0 c c2⟩;obtain⟨a,b,rfl,c,c2⟩:=hf;exact⟨_,_,_,rfl,xu H hn x hx 5 ⟨by simp,by simp⟩ (by simp) hl2 a 0 b 0 c c2⟩;obtain⟨a,b,rfl,c,c2⟩:=hf;exact⟨_,_,_,rfl,xu H hn x hx 6 ⟨by simp,by simp⟩ (by simp) hl2 a 0 b 0 c c2⟩;obtain rfl:=hf;exact⟨_,_,_,rfl,Az H hn x hx hl2⟩;obtain rfl:=hf;exact⟨_,_,_,rfl,xK H hn x hx hl2⟩;obtain rfl:=hf;exact⟨_,_,_,rfl,(Tc H x hx.p (by omega) hl2).mono fun _ _ h=>h.ask⟩;obtain rfl:=hf;exact⟨_,_,_,rfl,(Qf H x hx.p hl2).mono fun _ _ h=>h.ask⟩;obtain rfl:=hf;exact⟨_,_,_,rfl,(aaA H x (by omega) hl).mono fun _ _ h=>h.ask⟩;obtain rfl:=hf;exact⟨_,_,_,rfl,(Kt H x hl2).mono fun _ _ h=>h.ask⟩
end
def Yf(N:Nat):Prop:=∀(args:Array Value)(w:World),(callFunc N args).run prog w= .ok (.enter N args) w
theorem BJ.func{tb i:Nat}{fv:Value}{w:World}(h:BJ tb i fv w):∃N a b,fv= .func (.func N) a b/\Yf N:=by
 unfold BJ at h;split at h;obtain⟨b,e,_⟩:=h;exact⟨_,_,_,e,fun args w=>by go_simp⟩;exact⟨_,_,_,h,fun args w=>by go_simp⟩;obtain⟨_,_,e,_⟩:=h;exact⟨_,_,_,e,fun args w=>by go_simp⟩;obtain⟨_,_,e,_⟩:=h;exact⟨_,_,_,e,fun args w=>by go_simp⟩;obtain⟨_,_,e,_⟩:=h;exact⟨_,_,_,e,fun args w=>by go_simp⟩;obtain⟨_,_,e,_⟩:=h;exact⟨_,_,_,e,fun args w=>by go_simp⟩;all_goals exact⟨_,_,_,h,fun args w=>by go_simp⟩
theorem Jd(k:Nat)(h:k<12):qL.drop k=zb k::qL.drop (k+1):=by
 rcases uJ h with rfl|rfl|rfl|rfl|rfl|rfl|rfl|rfl|rfl|rfl|rfl|rfl<;>rfl
def AJ:List UInt8:=[119,104,97,116]
theorem UK{X:Nat->Prop}{K:Kx}{q:Qx}{v:Value}{n:Nat}{d:Ds}{l:List UInt8}{w:World}(H:TS X K q v n d l w)(hn:n+1<=400)(first:List UInt8)(others:List (List UInt8))(ao:Option Addr)(cap:Nat)(ha:fF w others ao)(hol:∀t∈others,t.length<=20000)(hl:l.length<=50000000000000):
 Calls prog 26 #[.pointer (some ⟨K.tb,0,none⟩),.string ⟨first.toArray⟩,.slice ao others.length cap] w (vH X K q v (n+1) (EF d first others).1 (l++(EF d first others).2) w):=by
 have HT:=hid (Nr K.tb w);have HR:=hid (fun(k:Nat) (hk:k<12) (fn:Value) (w1:World) (q1:aA w w1)=>aag (zb k) fn (Wh k hk) first others ao cap hol w1 (H.quiet q1).lz.is.1 (ha.quiet q1));have HA:=hid (fun(w1:World) (q1:aA w w1) (x:Sx) (hx:rE x) (k:Nat) (hk:k<12) (fv:Value) (hf:BJ K.tb k fv w1)=>Vu (H.quiet q1) hn x hx hl k hk fv hf);have HW:=hid (fun(w1:World) (q1:aA w w1) (ao4:Option Addr) (h4:fF w1 [AJ] ao4)=>mX (H.quiet q1) [AJ] ao4 1 h4 (by simp) ⟨⟨_,_,rfl,.inl (by simp[AJ])⟩,by simp,by simp[Lib.join,AJ],by omega⟩);have HD:=hid (show EF d first others=match wV first others 0 qL with
  |some (i,x)=>Dy i x d
  |none=>(d,iK [AJ])from rfl)
 generalize EF d first others=ans at*
 clear H ha hol;go_enter func26,ntmps26;go_wp2_with (go_at_call 43;refine HT.out.mono ?_;rintro e w1 ⟨g,F,rfl,t1,q1⟩;have T1:=bC t1 q1;clear t1 q1);go_loopw [13] (fun i wr=>∃k:Nat,i= .int .i64 k/\k<=12/\Hid (aA w1 wr)/\Hid (wV first others 0 qL=wV first others k (qL.drop k))) (fun i _=>12-(intOf i).toNat);case atStart=>exact⟨0,rfl,aP _,hid (Kp.refl _ _),hid rfl⟩
 case round=>
  rename World=>wr;obtain⟨k,rfl,hk,Q,E⟩:=hrel;by_cases hlt:k<12
  ·have hlt':(k:Int)<12:=(by omega);obtain⟨c0,c1,c2⟩:=(T1.out.1.quiet Q.out).at k hlt;have hfi:=(T1.out.1.quiet Q.out).fn k hlt;have HF:=hid (fun(w2:World) (q2:aA wr w2)=>(T1.out.1.quiet (Q.out.trans q2)).fn k hlt);obtain⟨N,fa,fb,hfn,hen⟩:=hfi.func;unfold Yf at hen;rw[hfn]at c2 HF;have HR2:=hid (fun(w2:World) (q2:aA wr w2)=>HR.out k hlt (.func (.func N) fa fb) w2 ((T1.out.2.trans Q.out).trans q2));clear hfi hfn;have EN:=hid (show wV first others k (qL.drop k)=match o9 (zb k) first others with
    |some x=>some (k,x)
    |none=>wV first others (k+1) (qL.drop (k+1))by rw[Jd k hlt];rfl)
   unfold OG QY at HR2;have agK:=hid (fun(x:Sx) (h:o9 (zb k) first others=some x)=>FV h);generalize hro:o9 (zb k) first others=ro at*
   generalize zb k=rw at*;obtain⟨r1,r2⟩:=rw;simp only at c0 c1 HR2;cases ro with
   |none=>
    simp only[Option.getD_none,Option.isSome_none,x00,Sx.vals,bf]at HR2;go_wp2_with (go_at_call 44;refine(HR2.out _ (Kp.alloc _ _)).mono ?_;rintro e w2 ⟨rfl,q2⟩;have Q2:=hid ((Kp.alloc (F:=fun _=>False) wr _).trans q2);clear q2);exact⟨⟨k+1,by go_num,by omega,hid (Q.out.trans (Q2.out.trans (Kp.alloc _ _))),hid (by rw[E.out,EN.out])⟩,by simp[intOf];omega⟩
   |some x=>
    simp only[Option.getD_some,Option.isSome_some]at HR2;have hx:=agK.out x rfl;have EA:=hid (show ans=Dy k x d by rw[HD.out,E.out,EN.out]);have HC:=hid (fun(w2:World) (q2:aA wr w2)=>show Calls prog N (fa.push (.agg x.vals)++fb) w2 (vH X K q v (n+1) (Dy k x d).1 (l++(Dy k x d).2) w2)from by
     obtain⟨N',a',b',e',hc⟩:=HA.out w2 ((T1.out.2.trans Q.out).trans q2) x hx k hlt _ (HF.out w2 q2);cases e';exact hc)
    rw[<-EA.out]at HC;obtain⟨kind,p,qq,kk,hh,rr,gg,n1,fs,fa1,fc⟩:=x;simp only[Sx.vals]at HC HR2;go_wp2_with (first
     |(go_at_call 44;refine(HR2.out _ (Kp.alloc _ _)).mono ?_;rintro e w2 ⟨rfl,q2⟩;have Q2:=hid ((Kp.alloc (F:=fun _=>False) wr _).trans q2);have hb2:=(q2.block _ (ae (ah wr _)) fun e=>e).trans (ah wr _);have cf:=(Fs hb2).2.2;have hlw:=ae hb2;clear q2 hb2)
     |(refine(HC.out _ (Q2.out.trans (Kp.alloc _ _))).mono ?_;intro e w3 h3;have H3:=hid (h3.after (Q2.out.trans (Kp.alloc _ _)));obtain⟨rfl,_⟩:=h3))
    exact au (v:= .tuple #[]) (results_none rfl _ _ _) rfl (H3.out.after (T1.out.2.trans Q.out))
  ·obtain rfl:k=12:=(by omega);have EA:=hid (show ans=(d,iK [AJ])by rw[HD.out,E.out];rfl);have HW2:=hid (HW.out (wr.alloc (.cells #[.string ⟨#[119,104,97,116]⟩] 9)) ((T1.out.2.trans Q.out).trans (Kp.alloc _ _)) _ (oQ wr [AJ] (by simp)));go_wp2_with (go_at_call 45;refine HW2.out.mono ?_;intro e w2 h2;have H2:=hid h2.ask;obtain⟨rfl,_⟩:=h2);go_end0;rw[EA.out];exact H2.out.after ((T1.out.2.trans Q.out).trans (Kp.alloc _ _))
theorem Ol:∀n l,∀t∈kX n l,t.length<=l.length:=by
 intro n;induction n with
 |zero=>intro l t ht;simp[kX]at ht
 |succ n ih=>
  intro l t ht;unfold kX at ht;split at ht;cases ht
  ·rcases aU.1 ht with rfl|ht;exact Bp _ _
   ·have h1:=ih _ t ht;have h2:=uF (l.drop ((l.takeWhile (· !=32)).length+1));rw[eP]at h2;omega
theorem RN(l:List UInt8):∀t∈nY l,t.length<=l.length:=fun t ht=>aF (Ol 7 _ t ht) (uF l)
theorem O8(l:List UInt8):(nY l).length<=7:=JX 7 _
theorem Oq{w:World}{g:Nat}{a:List UInt8}{r:List (List UInt8)}(h:fF w (a::r) (some ⟨g,0,none⟩)):fF w r (some ⟨g,1,none⟩):=fun i hi=>by
 obtain⟨b,off,e,c⟩:=h (i+1) (by simp;omega);cases e;refine⟨g,1,rfl, ?_⟩;have:0+(i+1)=1+i:=by omega
 rw[this]at c;simpa using c
theorem IJ{w:World}{g cap:Nat}{a:List UInt8}{r:List (List UInt8)}(h:fF w (a::r) (some ⟨g,0,none⟩))(hc:(a::r).length<=cap):fF w r (if cap=1 then some ⟨g,0,none⟩else some ⟨g,1,none⟩):=fun i hi=>by
 rw[af (by simp at hc;omega)];exact Oq h i hi
theorem JU{w:World}{g:Nat}{a:List UInt8}{r:List (List UInt8)}(h:fF w (a::r) (some ⟨g,0,none⟩)):w.cell? ⟨g,0,none⟩=some (.string ⟨a.toArray⟩):=by
 obtain⟨b,off,e,c⟩:=h 0 (by simp);cases e;exact c
theorem Sa{X:Nat->Prop}{K:Kx}{q:Qx}{v:Value}{n:Nat}{d:Ds}{l:List UInt8}{w:World}(H:TS X K q v n d l w)(hn:n+1<=400)(s:List UInt8)(hs:s.length<=20000)(hl:l.length<=50000000000000):
 Calls prog 15 #[.pointer (some ⟨K.tb,0,none⟩),.string ⟨s.toArray⟩] w (vH X K q v (n+1) (oL d s).1 (l++(oL d s).2) w):=by
 have hc:∀w1:World,Calls prog 23 #[.string ⟨s.toArray⟩,.string ⟨#[124]⟩] w1 fun e w'=>e= .returned (.tuple #[.string ⟨(Lib.trimPrefix s [124]).toArray⟩,.bool (Lib.hasPrefix s [124])])/\w'=w1:=fun w1=>R9 ⟨s.toArray⟩ ⟨#[124]⟩ w1;have ct:=H.ZY.Zm;by_cases hp:Lib.hasPrefix s [124]=true
 ·have E:=hid (show oL d s=({d with txt:=Ed d.txt (s.drop 1)},[])by unfold oL;rw[ag hp]);have ep:Lib.trimPrefix s [124]=s.drop 1:=by unfold Lib.trimPrefix;rw[ag hp];rfl
  rw[ep,hp]at hc;have HP:=hid hc;clear hc;have HA:=hid (xE H (s.drop 1) (by rw[eP];omega));generalize s.drop 1=t at*;clear H hp ep;go_enter func15,ntmps15;go_wp2_with (first
   |(go_at_call 24;refine HA.out.mono ?_;intro e w2 h2;have H2:=hid h2.ask;obtain⟨rfl,_⟩:=h2)
   |(go_at_call 23;refine(HP.out _).mono ?_;rintro e w1 ⟨rfl,h1⟩;subst h1))
  rw[E.out];exact au (v:= .tuple #[]) (results_none rfl _ _ _) rfl H2.out
 ·have hp':Lib.hasPrefix s [124]=false:=by simpa using hp
  rw[hp']at hc;generalize Lib.trimPrefix s [124]=tp at*;have HP:=hid hc;clear hc;have HW:=hid (OL s hs w);have hf:=O8 s;have hle:=RN s;have E:=hid (show oL d s=match nY s with
   |[]=>(d,[])
   |first::others=>EF d first others by unfold oL;rw[af hp];rfl)
  generalize oL d s=ans at*;have HH:=hid H;have HLE:=hid hle;generalize nY s=ws at*;clear H hp hp' hle;cases ws with
  |nil=>
   go_enter func15,ntmps15;go_wp2_with (first
    |(go_at_call 25;refine HW.out.mono ?_;rintro e w2 ⟨v2,rfl,r2,q2⟩;obtain⟨ao,cap,rfl⟩:=YU r2;have Q2:=hid q2;clear q2 r2)
    |(go_at_call 23;refine(HP.out _).mono ?_;rintro e w1 ⟨rfl,h1⟩;subst h1))
   go_end0;rw[E.out];exact⟨rfl,q,v,by rw[dC];exact(HH.out.quiet Q2.out).one,gH.quiet K q v Q2.out⟩
  |cons a r=>
   have EA:=hid (show ans=EF d a r from E.out);have hlr:r.length<=7:=(by simp at hf;omega);have HA:=hid (fun(w1:World) (q1:aA w w1) (ao:Option Addr) (cap:Nat) (h:fF w1 r ao)=>UK (HH.out.quiet q1) hn a r ao cap h (fun t ht=>aF (HLE.out t (by simp[ht])) hs) hl);rw[<-EA.out]at HA;obtain⟨m,hm⟩:∃m,m=(a::r).length:=⟨_,rfl⟩;have hr1:r.length=m-1:=(by rw[hm];simp);have h1:(1:Int)<=(m:Int):=(by rw[hm];simp;omega);rw[hr1]at HA;have HM:=hid hm;rw[<-hm]at HW;clear hr1 hm;go_enter func15,ntmps15;go_wp2_with (first
    |(go_at_call 25;refine HW.out.mono ?_;rintro e w2 ⟨v2,rfl,r2,q2⟩;obtain⟨ao,cap,rfl⟩:=YU r2;have hcap:(m:Int)<=(cap:Int):=by have:=uu r2;omega
      obtain⟨g,hg,hgx⟩:=Zc r2 (by omega);clear hgx;subst hg;rw[HM.out]at r2;have hsa:=sV r2;have hsr:=hid (IJ (cap:=cap) hsa (by have:=HM.out;omega));have c0:w2.cell? ⟨g,0,none⟩=some (.string ⟨a.toArray⟩):=JU hsa;have Q2:=hid q2;clear q2 r2 hsa)
    |(go_at_call 23;refine(HP.out _).mono ?_;rintro e w1 ⟨rfl,h1⟩;subst h1))
   have h3:(1:Int)<=(cap:Int):=(by omega);by_cases hc1:cap=1
   ·have aef:=hid (show fF w2 r (some ⟨g,0,none⟩)by have:=hsr.out;rw[ag hc1]at this;exact this);clear hsr;go_region_with (first
     |(go_at_call 26;refine(HA.out _ (Q2.out.trans (Kp.drew _)) _ _ (aef.out.quiet (Kp.drew _))).mono ?_;intro e w3 h3;have H3:=hid (h3.after (Q2.out.trans (Kp.drew _)));obtain⟨rfl,_⟩:=h3))
    all_goals
     go_wp2;go_end0;exact H3.out
   ·have aef:=hid (show fF w2 r (some ⟨g,1,none⟩)by have:=hsr.out;rw[af hc1]at this;exact this);clear hsr;go_region_with (first
     |(go_at_call 26;refine(HA.out _ (Q2.out.trans (Kp.drew _)) _ _ (aef.out.quiet (Kp.drew _))).mono ?_;intro e w3 h3;have H3:=hid (h3.after (Q2.out.trans (Kp.drew _)));obtain⟨rfl,_⟩:=h3))
    all_goals
     go_wp2;go_end0;exact H3.out
