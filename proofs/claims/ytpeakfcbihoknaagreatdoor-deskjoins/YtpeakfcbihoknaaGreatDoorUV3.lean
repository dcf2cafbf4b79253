/- Parts. -/
import Derived.Test.YtpeakfcbihoknaaGreatDoorUE4
open Go.ChangeShapes Go.WideShapes Go.ChangeAt Go.RowKit
set_option maxRecDepth 8000
set_option maxHeartbeats 4000000
namespace Go.Proofs.YtpeakfcbihoknaaGreatDoor
open Proofs.Tryz
namespace Dk
theorem Td(c:UInt8)(l:List UInt8):Lib.indexByte l c=if(l.takeWhile (· !=c)).length=l.length then -1 else((l.takeWhile (· !=c)).length:Int):=by
 induction l with
 |nil=>rfl
 |cons b l ih=>
  unfold Lib.indexByte;by_cases hb:b=c;subst hb;simp
  ·have h1:(b==c)=false:=(by simpa using hb);have h2:(b !=c)=true:=(by simpa using hb);rw[ih,List.takeWhile_cons_of_pos (p:=(· !=c)) h2,aL,aL,af (by simp[h1])];by_cases h:(l.takeWhile (· !=c)).length=l.length;simp[h];rw[af h,af (by simp),af (by omega)];omega
theorem Bp(p:UInt8->Bool)(l:List UInt8):(l.takeWhile p).length<=l.length:=(List.takeWhile_sublist p).length_le
theorem J9(p:UInt8->Bool)(l:List UInt8):l.take (l.takeWhile p).length=l.takeWhile p:=(List.prefix_iff_eq_take.1 (List.takeWhile_prefix p)).symm
theorem GY(l:List UInt8)(n:Nat):(ByteArray.mk l.toArray).extract 0 n=⟨(l.take n).toArray⟩:=by
 ext1;simp[ByteArray.data_extract,List.extract_toArray,List.extract_eq_take_drop]
theorem QJ(l:List UInt8)(n:Nat):(ByteArray.mk l.toArray).extract n l.length=⟨(l.drop n).toArray⟩:=by
 ext1;simp[ByteArray.data_extract,List.extract_toArray,cz]
theorem OT(l:List UInt8)(hl:l.length<=9223372036854775807)(w:World):
 Calls prog 64 #[.string ⟨l.toArray⟩,.string ⟨#[32]⟩] w fun e w'=>(∃b,e= .returned (.tuple #[.string ⟨(l.takeWhile (· !=32)).toArray⟩,.string ⟨(l.drop ((l.takeWhile (· !=32)).length+1)).toArray⟩,.bool b]))/\aA w w':=by
 have hz:=Ex.Y8 l;have hI:=Td 32 l;have hle:=Bp (· !=32) l;have E1:=hid (J9 (· !=32) l);have E2:=hid (GY l);have E3:=hid (QJ l);have HX:=fun w=>LG ⟨l.toArray⟩ 32 w;simp only at HX;by_cases h:(l.takeWhile (· !=32)).length=l.length
 ·rw[ag h]at hI;have HN:=hid h;rw[hI]at HX;have HXX:=hid HX;clear h hI HX;go_enter func64,ntmps64;go_wp2_with (go_at_call 58;refine(HXX.out _).mono ?_;rintro e w' ⟨rfl,rfl⟩);refine au (v:= .tuple #[.string ⟨l.toArray⟩,.string ⟨#[]⟩,.bool false]) (by simp[results,results64,go_sem]) rfl ⟨⟨false, ?_⟩,Kp.refl _ _⟩;have e1:=E1.out;rw[HN.out,aZ]at e1;rw[<-e1,List.drop_eq_nil_of_le (by omega)]
 ·rw[af h]at hI;rw[hI]at HX;have HXX:=hid HX;generalize hn:(l.takeWhile (· !=32)).length=n at*;have h0:¬((n:Int)<0):=by omega
  have h1:(n:Int)<=(l.length:Int):=by omega
  have h2:(n:Int)+1<=(l.length:Int):=by omega
  clear hI HX hn h;go_enter func64,ntmps64;go_wp2_with (go_at_call 58;refine(HXX.out _).mono ?_;rintro e w' ⟨rfl,rfl⟩);go_region;go_wp2;refine au (v:= .tuple #[.string ⟨(l.take n).toArray⟩,.string ⟨(l.drop (n+1)).toArray⟩,.bool true]) (by simp[results,results64,go_sem];exact⟨E2.out n,E3.out (n+1)⟩) rfl ⟨⟨true, ?_⟩,Kp.drew _⟩;rw[E1.out]
theorem Ri(l:List UInt8)(hl:l.length<=9223372036854775807)(w:World):
 Calls prog 42 #[.string ⟨l.toArray⟩,.string ⟨#[32]⟩] w fun e w'=>(∃b,e= .returned (.tuple #[.string ⟨(l.takeWhile (· !=32)).toArray⟩,.string ⟨(l.drop ((l.takeWhile (· !=32)).length+1)).toArray⟩,.bool b]))/\aA w w':=by
 have HC:=hid (OT l hl w);generalize l.takeWhile (· !=32)=a at*;generalize l.drop (a.length+1)=c at*;go_enter func42,ntmps42;go_wp2_with (go_at_call 64;refine HC.out.mono ?_;rintro e w1 ⟨⟨b,rfl⟩,q1⟩);exact au (v:= .tuple #[.string ⟨a.toArray⟩,.string ⟨c.toArray⟩,.bool b]) (by simp[results,results42,go_sem]) rfl ⟨⟨b,rfl⟩,q1⟩
theorem jB:prog.underlying 22=some (.slice 9):=by kernel_rfl
theorem mM:(prog.info? 9).map (fun i=>(i.zero,i.size,i.bytes))=some (some (.string ⟨#[]⟩),1,16):=by kernel_rfl
def Xl(v:Value):Nat:=match v with
 | .slice _ n _=>n
 |_=>0
def lK(ws:List (List UInt8)):List Value:=ws.map fun t=> .string ⟨t.toArray⟩
theorem FE(ws:List (List UInt8)):(lK ws).length=ws.length:=by simp[lK]
theorem Ac(a b:List (List UInt8)):lK (a++b)=lK a++lK b:=by simp[lK]
theorem JX:∀n l,(kX n l).length<=n:=by
 intro n;induction n with
 |zero=>intro l;simp[kX]
 |succ n ih=>intro l;unfold kX;split
             ·simp
             ·simp;exact ih _
theorem uF(l:List UInt8):(Lib.trimLeftB l 32).length<=l.length:=(List.dropWhile_sublist _).length_le
theorem GL(l:List UInt8)(w:World):Calls prog 41 #[.string ⟨l.toArray⟩,.string ⟨#[32]⟩] w fun e w'=>e= .returned (.string ⟨(Lib.trimLeftB l 32).toArray⟩)/\w'=w:=Mq ⟨l.toArray⟩ 32 (by decide) w
theorem OL(l:List UInt8)(hl:l.length<=20000)(w:World):
 Calls prog 25 #[.string ⟨l.toArray⟩] w fun e w'=>∃v,e= .returned v/\w'.ownsRow w.heap.size 9 1 v (nY l).length (lK (nY l))/\aA w w':=by
 obtain⟨i0,hi,hz0,hz1,hz2⟩:=bM mM;have HT:=hid (GL l);have HL:=hid (show(Lib.trimLeftB l 32).length<=20000 from aF (uF l) hl);have HW:=hid (show nY l=kX 7 (Lib.trimLeftB l 32)from rfl);generalize Lib.trimLeftB l 32=r0 at*;generalize nY l=res at*;go_enter func25,ntmps25;go_wp2_with (go_at_call 41;refine(HT.out _).mono ?_;rintro e w1 ⟨rfl,h1⟩;subst h1);go_loopw [3,4] (fun sv r wr=>∃(ws:List (List UInt8)) (t:List UInt8),r= .string ⟨t.toArray⟩/\ws.length<=7/\t.length<=20000/\wr.ownsRow w1.heap.size 9 1 sv ws.length (lK ws)/\Hid (aA w1 wr)/\Hid (res=ws++kX (7-ws.length) t)) (fun sv _ _=>7-Xl sv);case atStart=>exact⟨[],r0,rfl,by simp,HL.out,bq _ _ _ _,hid (Kp.refl _ _),hid (by rw[HW.out];rfl)⟩
 case round=>
  rename World=>wr;obtain⟨ws,t,rfl,hw7,htl,hr,Q,HE⟩:=hrel;obtain⟨av,cv,rfl⟩:=YU hr;by_cases ht:t=[]
  ·subst ht;go_wp2;go_ret;refine⟨_,rfl, ?_,Q.out⟩;have e:res=ws:=(by rw[HE.out];cases 7-ws.length<;>simp[kX]);rw[e];exact hr
  ·have ht1:t.isEmpty=false:=(by simpa using ht);by_cases h7:ws.length<7
   ·have h7':(ws.length:Int)<7:=(by omega);have HC:=hid (Ri t (by omega) wr);have HTW:=hid (Bp (· !=32) t);have HD:=hid (show(t.drop ((t.takeWhile (· !=32)).length+1)).length<=20000 by rw[eP];omega);have HN:=hid (show kX (7-ws.length) t=t.takeWhile (· !=32)::kX (7-(ws.length+1)) (Lib.trimLeftB (t.drop ((t.takeWhile (· !=32)).length+1)) 32)by
     obtain⟨m,hm⟩:∃m,7-ws.length=m+1:=⟨6-ws.length,by omega⟩;rw[hm,kX,af ht];congr 2;omega)
    generalize hb:t.drop ((t.takeWhile (· !=32)).length+1)=bh at*;generalize hx:t.takeWhile (· !=32)=x at*;have HB:=hid (GL bh);have HBL:=hid (show(Lib.trimLeftB bh 32).length<=20000 from aF (uF bh) HD.out);have HR:=hid hr;have HT2:=hid ht;have hsz:=Q.out.size;obtain⟨nk,hnk⟩:∃nk,nk=ws.length:=⟨_,rfl⟩;rw[<-hnk]at h7 h7' HR|-;have HNK:=hid hnk;clear hb hx hr ht hnk hw7;generalize Lib.trimLeftB bh 32=t2 at*;go_wp2_with (first
     |(go_at_call 41;refine(HB.out _).mono ?_;rintro e w4 ⟨rfl,h4⟩;replace h4:=h4.symm;subst h4)
     |(at_builtin;refine aX _ rfl (.tmp 23) (.tmp 25) 22 rfl w1.heap.size 9 i0 _ 1 16 jB hi hz0 hz1 hz2 rfl (by decide) _ nk (lK ws) rfl (HR2.out.alloc _) ⟨w2.heap.size,0,none⟩ 1 1 [.string ⟨x.toArray⟩] rfl rfl (gT w2 _ 9) (by simp[Value.oneCell']) (by decide) (by unfold maxLen;omega) (by omega) (by simp;omega) _ rfl ?_;intro g2 cap2 w3 hr3 hg3 hat hlt3;have H3:=bC hr3 hg3;clear hr3 hg3 hat hlt3)
     |(go_at_call 42;refine HC.out.mono ?_;rintro e w2 ⟨⟨b,rfl⟩,q2⟩;have HR2:=hid (q2.row HR.out fun _ _ e=>e);have hs2:=q2.size;have Q2:=hid q2;clear q2))
    refine⟨⟨ws++[x],t2,rfl,by have:=HNK.out;simp;omega,HBL.out, ?_,hid ?_,hid ?_⟩,by simp[Xl];omega⟩;have e:=H3.out.1;rw[ak,Ac,<-HNK.out];exact e;exact((Q.out.trans Q2.out).trans (Kp.alloc _ _)).fresh (Kp.grown H3.out.2 fun k _ e=>(HR2.out.lt k e.symm).1);rw[HE.out,HN.out,ak,aV];rfl
   ·have h7':¬(ws.length:Int)<7:=(by omega);go_wp2;go_ret;refine⟨_,rfl, ?_,Q.out⟩;have e:res=ws:=(by rw[HE.out,show 7-ws.length=0 by omega];simp[kX]);rw[e];exact hr
theorem Jm(l:List UInt8)(w:World):Calls prog 21 #[.string ⟨l.toArray⟩] w fun e w'=>e= .returned (.bool (ve l))/\w'=w:=by
 have HC:=hid (Ef ⟨l.toArray⟩ 10 w);have HB:=hid (show ve l=decide (0<=Lib.indexByte l 10)from rfl);simp only at HC;rw[<-HB.out]at HC;generalize ve l=b at*;go_enter func21,ntmps21;go_wp2_with (go_at_call 22;refine HC.out.mono ?_;rintro e w' ⟨rfl,rfl⟩);go_ret;exact⟨rfl,rfl⟩
def fF(w:World)(ls:List (List UInt8))(ao:Option Addr):Prop:=∀i (h:i<ls.length),∃b off,ao=some ⟨b,off,none⟩/\w.cell? ⟨b,off+i,none⟩=some (.string ⟨ls[i].toArray⟩)
theorem fF.quiet{w w':World}{ls:List (List UInt8)}{ao:Option Addr}(h:fF w ls ao)(q:aA w w'):fF w' ls ao:=fun i hi=>by
 obtain⟨b,off,e,c⟩:=h i hi;exact⟨b,off,e,q.cell c fun e=>e⟩
theorem sV{w:World}{B:Nat}{ao:Option Addr}{cap:Nat}{ls:List (List UInt8)}(h:w.ownsRow B 9 1 (.slice ao ls.length cap) ls.length (lK ls)):fF w ls ao:=fun i hi=>by
 obtain⟨g,rfl,hg⟩:=Zc h (by omega);refine⟨g,0,rfl, ?_⟩;have:=hg i (by omega);rw[bP,this];simp[lK,hi]
theorem Nn{p:List UInt8->Bool}(ls:List (List UInt8))(k:Nat)(hk:k<ls.length)(ha:∀i (h:i<k),p (ls[i]'(by omega))=false)(hp:p ls[k]=true):ls.findIdx p=k/\ls.any p=true:=by
 refine⟨?_,dW.2 ⟨_,aI hk,hp⟩⟩;rw[List.findIdx_eq hk];exact⟨hp,fun j hj=>by simpa using ha j hj⟩
def rJ(ls:List (List UInt8)):Int:=if ls.any ve then(ls.findIdx ve:Int)else -1
theorem JO{ls:List (List UInt8)}(h:∀j (hj:j<ls.length),ve ls[j]=false):rJ ls= -1:=by
 have e:ls.any ve=false:=List.any_eq_false.2 fun x hx=>by
  obtain⟨j,hj,rfl⟩:=bT hx;simpa using h j hj
 unfold rJ;rw[e];rfl
theorem Tp{ls:List (List UInt8)}(h:ls.length<=200):fw ls=if 0<=rJ ls then(13,rJ ls)else(0,0):=by
 unfold fw rJ;rw[af (by omega)];cases ls.any ve<;>simp
theorem NJ(ls:List (List UInt8))(ao:Option Addr)(cap:Nat)(w:World)(ha:fF w ls ao)(hl:ls.length<=1000):
 Calls prog 20 #[.slice ao ls.length cap,.func (.func 21) #[] #[]] w fun e w'=>e= .returned (.int .i64 (rJ ls))/\w'=w:=by
 have HA:=hid ha;clear ha;go_enter func20,ntmps20;go_wp2;go_loop [8] (fun i=>∃k:Nat,i= .int .i64 k/\k<=ls.length/\Hid (∀j (h:j<k) (h2:j<ls.length),ve ls[j]=false)) (fun i=>ls.length-(intOf i).toNat);case atStart=>exact⟨0,rfl,aP _,hid fun j h=>by omega⟩
 case round=>
  obtain⟨k,rfl,hk,D⟩:=hrel;by_cases hlt:k<ls.length
  ·obtain⟨b,off,rfl,c⟩:=HA.out k hlt;have HC:=hid (Jm ls[k]);cases hb:ve ls[k]with
   |true=>
    obtain⟨e1,e2⟩:=Nn ls k hlt (fun i hi=>D.out i hi (by omega)) hb;have E:=hid (show rJ ls=k by unfold rJ;rw[ag e2,e1]);rw[hb]at HC;clear e1 e2 hb;generalize ls[k]=t at*;go_wp2_with (go_at_call 21;refine(HC.out _).mono ?_;rintro e w1 ⟨rfl,h1⟩;replace h1:=h1.symm;subst h1);go_ret;exact⟨by rw[E.out];rfl,rfl⟩
   |false=>
    rw[hb]at HC;have E:=hid (show∀j (h:j<k+1) (h2:j<ls.length),ve ls[j]=false from fun j h h2=>by
     by_cases e:j=k;subst e;exact hb
     ·exact D.out j (by omega) h2)
    clear hb;generalize ls[k]=t at*;go_wp2_with (go_at_call 21;refine(HC.out _).mono ?_;rintro e w1 ⟨rfl,h1⟩;replace h1:=h1.symm;subst h1);exact⟨⟨k+1,by go_num,by omega,E⟩,by simp[intOf];omega⟩
  ·obtain rfl:k=ls.length:=(by omega);have E:=hid (JO fun j hj=>D.out j hj hj);go_wp2;go_ret;exact⟨by rw[E.out];rfl,rfl⟩
theorem fQ(ls:List (List UInt8))(ao:Option Addr)(cap:Nat)(w:World)(ha:fF w ls ao)(hl:ls.length<=140737488355328):
 Calls prog 14 #[.slice ao ls.length cap] w fun e w'=>e= .returned (.agg #[.int .i64 (fw ls).1,.int .i64 (fw ls).2])/\aA w w':=by
 have q0:aA w (w.alloc (.cells #[.int .i64 0,.int .i64 0] 31)):=Kp.alloc _ _;by_cases hm:200<ls.length
 ·have hm':(200:Int)<(ls.length:Int):=by omega
  have E:=hid (show fw ls=(3, -1)by unfold fw;rw[ag hm]);go_enter func14,ntmps14;go_wp2;refine au (v:= .agg #[.int .i64 3,.int .i64 (-1)]) (by simp[results,results14,go_sem]) rfl ⟨by rw[E.out],Kp.alloc _ _⟩
 ·have hm':¬(200:Int)<(ls.length:Int):=by omega
  have HI:=hid (NJ ls ao cap _ (ha.quiet q0) (by omega));have HE:=hid (Tp (ls:=ls) (by omega));generalize rJ ls=f at*;by_cases hf:0<=f
  ·have E:=hid (show fw ls=(13,f)by rw[HE.out,ag hf]);go_enter func14,ntmps14;go_wp2_with (go_at_call 20;refine HI.out.mono ?_;rintro e w1 ⟨rfl,h1⟩;subst h1);refine au (v:= .agg #[.int .i64 13,.int .i64 f]) (by simp[results,results14,go_sem]) rfl ⟨by rw[E.out],Kp.alloc _ _⟩
  ·have E:=hid (show fw ls=(0,0)by rw[HE.out,af hf]);go_enter func14,ntmps14;go_wp2_with (go_at_call 20;refine HI.out.mono ?_;rintro e w1 ⟨rfl,h1⟩;subst h1);refine au (v:= .agg #[.int .i64 0,.int .i64 0]) (by simp[results,results14,go_sem]) rfl ⟨by rw[E.out],Kp.alloc _ _⟩
end Dk
open Gr (Nd ZH nd0 YT mf aS dJ bJ dV mV fO Zx funcOf bS Y0 bN eX YS Wf jg)
def lL(y:Sp×Int):Nd:=if y.1.kind=2 then⟨-1,y.1.g,y.1.r,y.1.k, -1,0⟩else⟨-1,y.1.g,y.1.r,0,y.1.q,y.1.k⟩
def sS(p:Int)(y:Sp×Int):Bool:=decide (y.2=0)&&(decide (y.1.kind=2)||decide (y.1.kind=3))&&decide (y.1.p=p)
def cZ(tr:List (Sp×Int))(p:Int):List Nd:=(tr.filter (sS p)).map lL
theorem o8{p:Int}{y:Sp×Int}:sS p y=true<->y.2=0/\(y.1.kind=2\/y.1.kind=3)/\y.1.p=p:=by
 unfold sS;simp[and_assoc]
theorem qB{tr:List (Sp×Int)}{p:Int}{n:Nd}:n∈cZ tr p<->∃y∈tr,y.2=0/\(y.1.kind=2\/y.1.kind=3)/\y.1.p=p/\n=lL y:=by
 unfold cZ;simp only[List.mem_map,List.mem_filter,o8];constructor;rintro⟨y,⟨h1,h2,h3,h4⟩,rfl⟩;exact⟨y,h1,h2,h3,h4,rfl⟩;rintro⟨y,h1,h2,h3,h4,rfl⟩;exact⟨y,⟨h1,h2,h3,h4⟩,rfl⟩
theorem Ai{tr:List (Sp×Int)}{p:Int}{y:Sp×Int}(h:sS p y=false):cZ (tr++[y]) p=cZ tr p:=by
 unfold cZ;rw[List.filter_append];simp[h]
theorem Nc{tr:List (Sp×Int)}{p:Int}{y:Sp×Int}(h:sS p y=true):cZ (tr++[y]) p=cZ tr p++[lL y]:=by
 unfold cZ;rw[List.filter_append];simp[h]
structure oO(tr:List (Sp×Int))(h:Hs):Prop where
 there:∀p:Nat,p<4->∀v∈h.hs.getD p [],YT h.s.ns.length v.n=true
 abg:∀p:Nat,p<4->(h.hs.getD p []).map (fun v=>YS h.s.ns v.n)=cZ tr p
theorem vP{ns ns':List Nd}(hp:ns<+:ns'){c:Int}(h:YT ns.length c=true):YT ns'.length c=true:=by
 have:=hp.length_le;simp[YT]at h|-;omega
theorem xN{ns ns':List Nd}{g:Nat}(hw:Wf ns' g)(hp:ns<+:ns'){l:List V}(hl:∀v∈l,YT ns.length v.n=true):l.map (fun v=>YS ns' v.n)=l.map (fun v=>YS ns v.n):=
 List.map_congr_left fun v hv=>j4 hw hp (hl v hv)
theorem oO.more{tr tr':List (Sp×Int)}{h h':Hs}{g:Nat}(H:oO tr h)(hs:h'.hs=h.hs)(hw:Wf h'.s.ns g)(hp:h.s.ns<+:h'.s.ns)(ht:∀p:Nat,p<4->cZ tr' p=cZ tr p):oO tr' h':=by
 refine⟨fun p h4 v hv=> ?_,fun p h4=> ?_⟩;rw[hs]at hv;exact vP hp (H.there p h4 v hv);rw[hs,ht p h4,<-H.abg p h4];exact xN hw hp (H.there p h4)
theorem WG:oO [] h00:=by
 have:∀q:Nat,q<4->h00.hs.getD q []=[]:=fun q hq=>by
  have:q=0\/q=1\/q=2\/q=3:=by omega
  rcases this with rfl|rfl|rfl|rfl<;>rfl
 refine⟨fun p hp v hv=> ?_,fun p hp=> ?_⟩;rw[this p hp]at hv;simp at hv;rw[this p hp];rfl
theorem oO.give{tr:List (Sp×Int)}{h:Hs}(H:oO tr h)(hl:h.hs.length=4){y:Sp×Int}{r:ZH}{g:Nat}(hpl:bY y.1.p=true)(hg:sS y.1.p y=true)(hw:Wf r.ns g)(hp:h.s.ns<+:r.ns)(ht:YT r.ns.length r.num=true)(af7:Y0 r.ns r.num=[lL y])(hc:r.code=0):oO (tr++[y]) (iB h y.1.p r).2:=by
 have hpp:0<=y.1.p/\y.1.p<4:=by simpa [bY]using hpl
 have e0:(iB h y.1.p r).2={h with s:={h.s with ns:=r.ns,os:=r.os},hs:=h.hs.set y.1.p.toNat (h.hs.getD y.1.p.toNat []++[iw r.num])}:=by unfold iB;rw[ag hc]
 rw[e0];have eh:∀q:Nat,q<4->(h.hs.set y.1.p.toNat (h.hs.getD y.1.p.toNat []++[iw r.num])).getD q []=if y.1.p=(q:Int)then h.hs.getD q []++[iw r.num]else h.hs.getD q []:=fun q hq=>by
  rw[aD,dw];by_cases e:y.1.p=(q:Int);have e2:y.1.p.toNat=q:=(by omega);have e3:q<h.hs.length:=(by omega);rw[ag e2,ag e,ag (by omega),e2];rfl;rw[af (by omega),af e,aD]
 refine⟨fun p h4 v hv=> ?_,fun p h4=> ?_⟩
 ·simp only at hv|-;rw[eh p h4]at hv;split at hv;rcases aK.1 hv with hv|hv;exact vP hp (H.there p h4 v hv);rw[bD.1 hv];exact ht;exact vP hp (H.there p h4 v hv)
 ·simp only;rw[eh p h4];split;rename_i e;rw[e]at hg;rw[Nc hg,bA,xN hw hp (H.there p h4),H.abg p h4];simp only[dz,List.map_nil];rw[show(iw r.num).n=r.num from rfl,Ee af7]
  ·rename_i e;rw[Ai (by
    cases e2:sS p y with
    |false=>rfl
    |true=>exact absurd (o8.1 e2).2.2 e),xN hw hp (H.there p h4),H.abg p h4]
theorem Tm{K:List Nd->Int->Int->Prop}{h:Hs}(hi:kI K h)(x:Sp):(kR h x).2.hs=h.hs/\h.s.ns<+:(kR h x).2.s.ns/\Wf (kR h x).2.s.ns (kR h x).2.s.os.length:=by
 have hi':kI (fun _ _ _=>True) h:=hi.mono fun _ _ _ _=>trivial;have hK:jD (fun _ _ _=>True) (fun _=>True):=⟨fun _ _ _ _=>trivial,fun _ _ _ _=>trivial,fun _ _ _ _ _ _=>trivial,fun _ _ _ _ _ _=>trivial,fun _ _ _ _=>trivial⟩;have hr:∀v,Hd (fun _ _ _=>True) h.s.ns x.p v->(lM h x.p x.k v).2.hs=h.hs/\h.s.ns<+:(lM h x.p x.k v).2.s.ns/\Wf (lM h x.p x.k v).2.s.ns (lM h x.p x.k v).2.s.os.length:=fun v hv=>by
  obtain⟨k1,k2,_,_⟩:=Ci hK h.ms hi'.gs x.p x.k trivial hv 2000;exact⟨rfl,k2,k1.wf⟩
 have hz:h.hs=h.hs/\h.s.ns<+:h.s.ns/\Wf h.s.ns h.s.os.length:=⟨rfl,bK _,hi.gs.wf⟩;unfold kR;split
 ·split
  ·rename_i hp;have hpp:0<=x.p/\x.p<4:=(by simpa [bY]using hp);split;rename_i v e;have:=hi'.hand x.p.toNat (by omega) v (dx e);rw[Int.toNat_of_nonneg hpp.1]at this;exact hr v this;exact hz
  ·exact hz
 ·exact hr _ (Hd.leaf (by decide))
theorem oO.step{K:List Nd->Int->Int->Prop}{tr:List (Sp×Int)}{h:Hs}(H:oO tr h)(hi:kI K h)(x:Sp):oO (tr++[(x,(dL h x).1.code)]) (dL h x).2:=by
 have hz:∀{h':Hs}{c:Int},h'.hs=h.hs->h'.s.ns=h.s.ns->¬((x.kind=2\/x.kind=3)/\c=0)->oO (tr++[(x,c)]) h':=fun{h' c} e1 e2 hn=>
  H.more (g:=h.s.os.length) e1 (by rw[e2];exact hi.gs.wf) (by rw[e2];exact bK _) fun p _=>Ai (by
   cases e:sS p (x,c)with
   |false=>rfl
   |true=>exact absurd ⟨(o8.1 e).2.1,(o8.1 e).1⟩ hn)
 have hg:∀{r:ZH},(r.code≠0)->oO (tr++[(x,(iB h x.p r).1.code)]) (iB h x.p r).2:=fun{r} hc=>by
  have e:iB h x.p r=(⟨r.code,0,v0⟩,h):=by unfold iB;rw[af hc]
  rw[e];exact hz rfl rfl fun k=>hc k.2
 have hy:∀{r:ZH},r.code=0->(iB h x.p r).1.code=0:=fun{r} hc=>by unfold iB;rw[ag hc]
 unfold dL;by_cases k1:x.kind=1
 ·rw[ag k1];refine hz ?_ ?_ (by omega)
  ·unfold iV;repeat' split
   all_goals rfl
  ·unfold iV;repeat' split
   all_goals rfl
 rw[af k1];by_cases k2:x.kind=2
 ·rw[ag k2];split;rename_i hp;by_cases hc:(fO h.s.ns h.s.os x.k x.r x.g).code=0;obtain⟨a1,a2,a3,a4⟩:=uO hi.gs.wf hi.gs.ln hc;rw[hy hc];exact H.give hi.len (y:=(x,0)) hp (o8.2 ⟨rfl,.inl k2,rfl⟩) a1.wf a1.pre a3 (by rw[a4];simp[lL,k2]) hc;exact hg hc;exact hz rfl rfl fun k=>by cases k.2
 rw[af k2];by_cases k3:x.kind=3
 ·rw[ag k3];split;rename_i hp;by_cases hc:(funcOf h.s.ns h.s.os x.q x.k x.r x.g).code=0;obtain⟨a0,a1,a2,a3,a4⟩:=uS hi.gs.wf hi.gs.ln hc;rw[hy hc];exact H.give hi.len (y:=(x,0)) hp (o8.2 ⟨rfl,.inr k3,rfl⟩) a1.wf a1.pre a3 (by rw[a4];simp[lL,k3]) hc;exact hg hc;exact hz rfl rfl fun k=>by cases k.2
 rw[af k3];have hn:∀c:Int,¬((x.kind=2\/x.kind=3)/\c=0):=fun c k=>by rcases k.1 with k|k;exact k2 k;exact k3 k
 by_cases k4:x.kind=4
 ·rw[ag k4];obtain⟨c1,c2,c3⟩:=Tm hi x;exact H.more c1 c3 c2 fun p _=>Ai (by
   cases e:sS p (x,(kR h x).1.code)with
   |false=>rfl
   |true=>exact absurd ⟨(o8.1 e).2.1,rfl⟩ (hn 0))
 rw[af k4];by_cases k5:x.kind=5;rw[ag k5];exact hz rfl rfl (hn _);rw[af k5];by_cases k6:x.kind=6;rw[ag k6];exact hz rfl rfl (hn _);rw[af k6];exact hz rfl rfl (hn _)
def ry(g:Nat->List Nd)(p q:Nat):Bool:=(g p).any fun n=>decide (0<=n.plugin)&&decide (n.plugin=(q:Int))
def oJ(g:Nat->List Nd)(p q:Nat):Bool:=ry g p q||ry g q p
structure si(g:Nat->List Nd)(p:Nat)(c:List Nat)(i j:Nat):Prop where
 nd:c.Nodup
 lt:∀q∈c,q<4
 self:p∈c
 only:∀S:Nat->Prop,S p->(∀a b,a<4->b<4->S a->oJ g a b=true->S b)->∀q∈c,S q
 past:∀k (h:k<c.length),k<i->∀q,q<4->oJ g c[k] q=true->q∈c
 now:∀(h:i<c.length),∀q,q<j->oJ g c[i] q=true->q∈c
theorem NH:∀(n:Nat)(c:List Nat),c.Nodup->(∀q∈c,q<n)->c.length<=n:=by
 intro n;induction n with
 |zero=>
  intro c _ h;cases c with
  |nil=>simp
  |cons a c=>exact absurd (h a (by simp)) (by omega)
 |succ n ih=>
  intro c hd h;have h1:=ih (c.erase n) (hd.erase n) fun q hq=>by
   have:=(hd.mem_erase_iff).1 hq;have:=h q this.2;omega
  have h2:c.length<=(c.erase n).length+1:=by
   rw[List.length_erase];split<;>omega
  omega
theorem si.few{g:Nat->List Nd}{p:Nat}{c:List Nat}{i j:Nat}(h:si g p c i j):c.length<=4:=NH 4 c h.nd h.lt
theorem Xj(g:Nat->List Nd){p:Nat}(hp:p<4):si g p [p] 0 0:=
 ⟨by simp,fun q hq=>by rw[bD.1 hq];exact hp,by simp,fun S h0 _ q hq=>by rw[bD.1 hq];exact h0,fun k _ h=>by omega,fun _ q h=>by omega⟩
section
variable{g:Nat->List Nd}{p:Nat}{c:List Nat}{i j:Nat}
theorem si.skip(h:si g p c i j)(hi:i<c.length)(hn:j∈c\/oJ g c[i] j=false):si g p c i (j+1):=
 ⟨h.nd,h.lt,h.self,h.only,h.past,fun hh q hq ht=>by
  by_cases e:q=j;subst e;rcases hn with hn|hn;exact hn;rw[hn]at ht;cases ht
  ·exact h.now hh q (by omega) ht⟩
theorem si.add(h:si g p c i j)(hi:i<c.length)(hj:j<4)(hn:j∉c)(ht:oJ g c[i] j=true):si g p (c++[j]) i (j+1):=by
 have sub:∀q,q∈c->q∈c++[j]:=fun q hq=>aK.2 (.inl hq);refine⟨List.nodup_append.2 ⟨h.nd,by simp,fun a ha b hb e=> ?_⟩,fun q hq=> ?_,sub _ h.self,fun S h0 h1 q hq=> ?_,fun k hk hki q hq ht2=> ?_,fun hh q hq ht2=> ?_⟩;rw[bD.1 hb]at e;rw[e]at ha;exact hn ha;rcases aK.1 hq with hq|hq;exact h.lt q hq;rw[bD.1 hq];exact hj;rcases aK.1 hq with hq|hq;exact h.only S h0 h1 q hq;rw[bD.1 hq];exact h1 _ _ (h.lt _ (aI hi)) hj (h.only S h0 h1 _ (aI hi)) ht;rw[dU (by omega)]at ht2;exact sub _ (h.past k (by omega) hki q hq ht2);rw[dU hi]at ht2;by_cases e:q=j;rw[e];simp;exact sub _ (h.now hi q (by omega) ht2)
theorem si.next(h:si g p c i 4)(hi:i<c.length):si g p c (i+1) 0:=
 ⟨h.nd,h.lt,h.self,h.only,fun k hk hki q hq ht=>by
  by_cases e:k=i;subst e;exact h.now hi q hq ht
  ·exact h.past k hk (by omega) q hq ht,fun _ q h=>by omega⟩
end
def Oa(g:Nat->List Nd)(c:List Nat)(cell:Int)(bit:Nat):Bool:=c.any fun q=>(g q).any fun n=> !decide (0<=n.plugin)&&decide (n.cell=cell)&&n.Y1.toNat.testBit bit
theorem qK{tr:List (Sp×Int)}(ht:oI tr){y:Sp×Int}(hy:y∈tr)(hc:y.2=0)(hk:y.1.kind=2\/y.1.kind=3):(0<=(lL y).plugin<->y.1.kind=3)/\(y.1.kind=3->(lL y).plugin=y.1.q):=by
 unfold lL;rcases hk with k|k;rw[ag k];simp[k]
 ·rw[af (by omega)];have:=(ht y hy (.inr k) hc).2 k;have hpp:0<=y.1.q/\y.1.q<4:=by simpa [bY]using this
  simp[k,hpp.1]
theorem uV{tr:List (Sp×Int)}(ht:oI tr){a b:Nat}:ry (fun q=>cZ tr q) a b=true<->∃y∈tr,y.2=0/\y.1.kind=3/\y.1.p=(a:Int)/\y.1.q=(b:Int):=by
 unfold ry;rw[dW];constructor;rintro⟨n,hn,h⟩;obtain⟨y,h1,h2,h3,h4,rfl⟩:=qB.1 hn;simp only[Bool.and_eq_true,decide_eq_true_eq]at h;have k:=(qK ht h1 h2 h3).1.1 h.1;exact⟨y,h1,h2,k,h4,by rw[<-(qK ht h1 h2 h3).2 k];exact h.2⟩;rintro⟨y,h1,h2,k,h4,h5⟩;refine⟨lL y,qB.2 ⟨y,h1,h2,.inr k,h4,rfl⟩, ?_⟩;have:=qK ht h1 h2 (.inr k);simp only[Bool.and_eq_true,decide_eq_true_eq];exact⟨this.1.2 k,by rw[this.2 k,h5]⟩
theorem FN{tr:List (Sp×Int)}(ht:oI tr){p:Nat}(hp:p<4){c:List Nat}(hc:si (fun q=>cZ tr q) p c c.length 0)(q:Int):vv tr p q<->bY q=true/\q.toNat∈c:=by
 constructor;intro h;refine h (fun q=>bY q=true/\q.toNat∈c) ⟨by simp[bY];omega,by simpa using hc.self⟩ (fun y a b e ih=> ?_) fun y a b e ih=> ?_;obtain⟨t1,t2⟩:=ht y a (.inr b) e;have h1:0<=y.1.p/\y.1.p<4:=(by simpa [bY]using t1);have h2:0<=y.1.q/\y.1.q<4:=(by simpa [bY]using t2 b);refine⟨t2 b, ?_⟩;obtain⟨k,hk,ek⟩:=bT ih.2;refine hc.past k hk hk _ (by omega) ?_;rw[ek];unfold oJ;rw[(uV ht).2 ⟨y,a,e,b,by omega,by omega⟩];rfl;obtain⟨t1,t2⟩:=ht y a (.inr b) e;have h1:0<=y.1.p/\y.1.p<4:=(by simpa [bY]using t1);have h2:0<=y.1.q/\y.1.q<4:=(by simpa [bY]using t2 b);refine⟨t1, ?_⟩;obtain⟨k,hk,ek⟩:=bT ih.2;refine hc.past k hk hk _ (by omega) ?_;rw[ek];unfold oJ;rw[(uV ht (a:=y.1.p.toNat) (b:=y.1.q.toNat)).2 ⟨y,a,e,b,by omega,by omega⟩];simp
 ·rintro⟨h1,h2⟩;have hq:0<=q/\q<4:=by simpa [bY]using h1
  have:=hc.only (fun q=>vv tr p q) .refl (fun a b ha hb ih t=> ?_) _ h2;rw[Int.toNat_of_nonneg hq.1]at this;exact this;unfold oJ at t;rw[Bool.or_eq_true]at t;rcases t with t|t;obtain⟨y,k1,k2,k3,k4,k5⟩:=(uV ht).1 t;rw[<-k4]at ih;have:=vv.link k1 k3 k2 ih;rw[k5]at this;exact this;obtain⟨y,k1,k2,k3,k4,k5⟩:=(uV ht).1 t;rw[<-k5]at ih;have:=vv.back k1 k3 k2 ih;rw[k4]at this;exact this
theorem Rz{tr:List (Sp×Int)}(ht:oI tr){p:Nat}(hp:p<4){c:List Nat}(hc:si (fun q=>cZ tr q) p c c.length 0)(cell:Int)(bit:Nat):Oa (fun q=>cZ tr q) c cell bit=true<->TV tr p cell bit:=by
 unfold Oa;rw[dW];constructor
 ·rintro⟨q,hq,h⟩;obtain⟨n,hn,h⟩:=dW.1 h;obtain⟨y,h1,h2,h3,h4,rfl⟩:=qB.1 hn;simp only[Bool.and_eq_true,Bool.not_eq_true',decide_eq_false_iff_not,decide_eq_true_eq]at h;have k3:¬y.1.kind=3:=fun k=>h.1.1 ((qK ht h1 h2 h3).1.2 k);have k2:y.1.kind=2:=by rcases h3 with k|k;exact k;exact absurd k k3
  unfold lL at h;rw[ag k2]at h;refine⟨y,h1,h2,k2,h.1.2,h.2, ?_⟩;rw[h4];exact(FN ht hp hc q).2 ⟨by have:=hc.lt q hq;simp[bY];omega,by simpa using hq⟩
 ·rintro⟨y,h1,h2,k2,h4,h5,h6⟩;obtain⟨hpl,hm⟩:=(FN ht hp hc _).1 h6;have hpp:0<=y.1.p/\y.1.p<4:=by simpa [bY]using hpl
  refine⟨_,hm,dW.2 ⟨lL y,qB.2 ⟨y,h1,h2,.inl k2,by omega,rfl⟩, ?_⟩⟩;unfold lL;rw[ag k2];simp[h4,h5]
theorem Uw{tr:List (Sp×Int)}(ht:oI tr){p:Int}(hp:bY p=true):∀q:Int,bY q=true->onB (nL tr p) q=true->vv tr p q:=by
 have hpp:0<=p/\p<4:=by simpa [bY]using hp
 have h1:∀S:List Bool,(∀q:Int,bY q=true->onB S q=true->vv tr p q)->∀y∈tr,∀q:Int,bY q=true->onB (nI S y) q=true->vv tr p q:=fun S hS y hy q hq h=>by
  unfold nI at h;split at h
  ·rename_i hc;obtain⟨c1,c2,c3⟩:=hc;obtain⟨t1,t2⟩:=ht y hy (.inr c1) c2;have hqq:0<=q/\q<4:=(by simpa [bY]using hq);have k1:0<=y.1.p/\y.1.p<4:=(by simpa [bY]using t1);have k2:0<=y.1.q/\y.1.q<4:=(by simpa [bY]using t2 c1);have both:vv tr p y.1.p/\vv tr p y.1.q:=by
    rw[Bool.or_eq_true]at c3;rcases c3 with c3|c3;have:=hS _ t1 c3;exact⟨this,.link hy c1 c2 this⟩;have:=hS _ (t2 c1) c3;exact⟨.back hy c1 c2 this,this⟩
   unfold onB at h;rw[aD,dw]at h;by_cases e1:y.1.q.toNat=q.toNat;have:q=y.1.q:=(by omega);rw[this];exact both.2;rw[af e1,dw]at h;by_cases e2:y.1.p.toNat=q.toNat;have:q=y.1.p:=(by omega);rw[this];exact both.1;rw[af e2,<-aD]at h;exact hS q hq h
  ·exact hS q hq h
 have h2:∀(l:List (Sp×Int)),(∀y∈l,y∈tr)->∀S:List Bool,(∀q:Int,bY q=true->onB S q=true->vv tr p q)->∀q:Int,bY q=true->onB (rY l S) q=true->vv tr p q:=by
  intro l;induction l with
  |nil=>intro _ S hS;exact hS
  |cons y l ih=>intro hl S hS;exact ih (fun z hz=>hl z (by simp[hz])) (nI S y) (h1 S hS y (hl y (by simp)))
 have h3:∀n,∀q:Int,bY q=true->onB (kJ tr n (sN p)) q=true->vv tr p q:=by
  intro n;induction n with
  |zero=>
   intro q hq h;have hqq:0<=q/\q<4:=(by simpa [bY]using hq);unfold kJ sN onB at h;rw[aD,dw]at h;by_cases e:p.toNat=q.toNat;have:q=p:=(by omega);rw[this];exact .refl;rw[af e]at h;have:q=0\/q=1\/q=2\/q=3:=(by omega);rcases this with rfl|rfl|rfl|rfl<;>exact absurd h (by decide)
  |succ n ih=>exact h2 tr (fun _ h=>h) _ ih
 exact h3 4
theorem zJ{tr:List (Sp×Int)}(ht:oI tr){p cell:Int}{bit:Nat}(hp:bY p=true):D8 tr p cell bit=true<->TV tr p cell bit:=by
 refine⟨fun h=> ?_,Dh ht hp⟩;obtain⟨y,h1,h2⟩:=dW.1 h;simp only[Bool.and_eq_true,Bool.or_eq_true,decide_eq_true_eq]at h2;obtain⟨⟨⟨⟨k1,k2⟩,k3⟩,k4⟩,k5⟩:=h2;refine⟨y,h1,k2,k1,k3,k4, ?_⟩;rcases k5 with k5|k5;exact Uw ht hp _ (ht y h1 (.inl k1) k2).1 k5;rw[k5];exact .refl
theorem LK{tr:List (Sp×Int)}(ht:oI tr){p:Nat}(hp:p<4){c:List Nat}(hc:si (fun q=>cZ tr q) p c c.length 0)(cell:Int)(bit:Nat):Oa (fun q=>cZ tr q) c cell bit=D8 tr p cell bit:=by
 have h:=(Rz ht hp hc cell bit).trans (zJ ht (p:=p) (cell:=cell) (bit:=bit) (by simp[bY];omega)).symm;cases e:D8 tr p cell bit with
 |true=>exact h.2 e
 |false=>
  cases e2:Oa (fun q=>cZ tr q) c cell bit with
  |false=>rfl
  |true=>rw[h.1 e2]at e;cases e
theorem N8{tr:List (Sp×Int)}{y:Sp×Int}(ht:oI tr)(ht2:oI (tr++[y])){p cell:Int}{bit:Nat}(hp:bY p=true)(h:D8 tr p cell bit=true):D8 (tr++[y]) p cell bit=true:=by
 have hs:∀z∈tr,z∈tr++[y]:=fun z hz=>aK.2 (.inl hz);obtain⟨z,h1,h2,h3,h4,h5,h6⟩:=(zJ ht hp).1 h;exact(zJ ht2 hp).2 ⟨z,hs z h1,h2,h3,h4,h5,h6.mono hs⟩
theorem tH{k:Int}{p:Nat}(h:jc k=some p):(k=2/\p=2)\/(k=3/\p=1)\/(k=0/\p=0)\/(k=1/\p=0)\/(k=4/\p=0)\/(k=5/\p=0):=by
 unfold jc at h;by_cases h2:k=2;rw[ag h2]at h;simp at h;omega;rw[af h2]at h;by_cases h3:k=3;rw[ag h3]at h;simp at h;omega;rw[af h3]at h;by_cases h4:k=0\/k=1\/k=4\/k=5;rw[ag h4]at h;simp at h;omega;rw[af h4]at h;simp at h
theorem Jr{k:Int}(h:jc k=none):k≠2/\k≠3/\k≠0/\k≠1/\k≠4/\k≠5:=by
 unfold jc at h;refine⟨?_, ?_, ?_, ?_, ?_, ?_⟩<;>rintro rfl<;>simp at h
theorem xG{k:Int}{p:Nat}(h:jc k=some p)(w:World):Calls prog 200 #[.int .i64 k] w fun e w'=>e= .returned (.tuple #[.int .i64 p,.bool true])/\w'=w:=by
 rcases tH h with⟨rfl,rfl⟩|⟨rfl,rfl⟩|⟨rfl,rfl⟩|⟨rfl,rfl⟩|⟨rfl,rfl⟩|⟨rfl,rfl⟩<;>clear h;all_goals
  go_enter func200,ntmps200;go_wp2;go_ret2;exact⟨rfl,rfl⟩
theorem Dx{k:Int}(h:jc k=none)(w:World):Calls prog 200 #[.int .i64 k] w fun e w'=>e= .returned (.tuple #[.int .i64 0,.bool false])/\w'=w:=by
 obtain⟨h2,h3,h0,h1,h4,h5⟩:=Jr h;clear h;go_enter func200,ntmps200;go_wp2;go_ret2;exact⟨rfl,rfl⟩
theorem xR(v:V)(ao:Option Addr)(cap:Nat)(w:World):Calls prog 178 #[.agg #[.int .i64 v.kind,.int .i64 v.n,.slice ao v.l.length cap]] w fun e w'=>e= .returned (.int .i64 v.YW)/\aA w w':=by
 obtain⟨k,n,l⟩:=v;cases hp:jc k with
 |none=>
  have hE:=hid (show(V.mk k n l).YW=2 by simp[V.YW,hp]);go_enter func178,ntmps178;go_wp2_with (go_at_call 200;refine(Dx hp _).mono ?_;rintro e w' ⟨rfl,rfl⟩);go_ret;exact⟨by rw[hE.out];rfl,Kp.alloc _ _⟩
 |some p=>
  by_cases hl:l.length=p
  ·have hE:=hid (show(V.mk k n l).YW=if(k=0\/k=2)/\n≠0 then 5 else if(k=3\/k=4\/k=5)/\n<0 then 1 else 0 by simp[V.YW,hp,hl]);generalize l.length=ll at*;subst hl;rcases tH hp with⟨rfl,rfl⟩|⟨rfl,rfl⟩|⟨rfl,rfl⟩|⟨rfl,rfl⟩|⟨rfl,rfl⟩|⟨rfl,rfl⟩;all_goals
    go_enter func178,ntmps178;go_wp2_with (go_at_call 200;refine(xG hp _).mono ?_;rintro e w' ⟨rfl,rfl⟩);(all_goals go_ret);all_goals exact⟨by rw[hE.out];first|rfl|(simp[*];done)|simp_all,Kp.alloc _ _⟩
  ·have hE:=hid (show(V.mk k n l).YW=5 by simp[V.YW,hp,hl]);have hl':(l.length:Int)≠(p:Int):=(by omega);go_enter func178,ntmps178;go_wp2_with (go_at_call 200;refine(xG hp _).mono ?_;rintro e w' ⟨rfl,rfl⟩);go_ret;exact⟨by rw[hE.out];rfl,Kp.alloc _ _⟩
theorem rP{w:World}{B1 B2:Nat}{t1 t2:TypeId}{s1 s2 n1 n2:Nat}{v1 v2:Value}{xs1 xs2:List Value}(h1:w.ownsRow B1 t1 s1 v1 n1 xs1)(h2:w.ownsRow B2 t2 s2 v2 n2 xs2)(ht:t1≠t2)(k:Nat)(e1:v1.ownBlock=some k):v2.ownBlock≠some k:=by
 intro e2;rcases h1.2 with⟨rfl,_⟩|⟨g1,c1,ah4,rfl,_,hh1,_⟩;simp[Value.ownBlock]at e1;rcases h2.2 with⟨rfl,_⟩|⟨g2,c2,ah6,rfl,_,hh2,_⟩;simp[Value.ownBlock]at e2;simp[Value.ownBlock]at e1 e2;subst e1;subst e2;rw[hh1]at hh2;simp at hh2;exact ht hh2.2
theorem uj{w:World}{B:Nat}{t t':TypeId}{s n:Nat}{v:Value}{xs:List Value}{k:Nat}{c:Array Value}(h:w.ownsRow B t s v n xs)(hk:w.heap[k]?=some (.cells c t' (0,0)))(ht:t≠t'):v.ownBlock≠some k:=by
 intro e;rcases h.2 with⟨rfl,_⟩|⟨g,cp,cur,rfl,_,hh,_⟩;simp[Value.ownBlock]at e;simp[Value.ownBlock]at e;subst e;rw[hh]at hk;simp at hk;exact ht hk.2
structure VS(W:World)(sv:Value)(ts:List Kd)(w:World):Prop where
 row:w.ownsRow W.heap.size 71 3 sv ts.length (eB ts)
 lie:∀p∈ts,Is W p.1 p.2.1
 low:Below W.heap.size W w
theorem VS.quiet{W w w':World}{sv:Value}{ts:List Kd}(H:VS W sv ts w)(q:aA w w'):VS W sv ts w':=
 ⟨q.row H.row fun _ _ e=>e,H.lie,sj H.low q H.low.size⟩
theorem VS.step{W w w':World}{sv:Value}{ts:List Kd}{F:Nat->Prop}(H:VS W sv ts w)(q:Kp F w w')(hF:∀k,F k->W.heap.size<=k)(hr:∀k,sv.ownBlock=some k->¬F k):VS W sv ts w':=
 ⟨q.row H.row hr,H.lie,H.low.trans (q.below H.low.size hF)⟩
theorem VS.push{W w w1:World}{sv:Value}{ts:List Kd}{x:Kd}{n g cap:Nat}{o:Obj}(H:VS W sv ts w)(hx:Is W x.1 x.2.1)(hn:n=ts.length)
 (hr1:w1.ownsRow W.heap.size 71 3 (.slice (some ⟨g,0,none⟩) (n+1) cap) (n+1) (eB ts++Zv x)) (hg:(w.alloc o).grownBy w1 sv.ownBlock):VS W (.slice (some ⟨g,0,none⟩) (n+1) cap) (ts++[x]) w1:=by
 subst hn;refine⟨by rw[jV,jI];simpa using hr1,fun p hp=> ?_, ?_⟩;rcases aK.1 hp with hp|hp;exact H.lie p hp;simp at hp;subst hp;exact hx;refine H.low.trans (((cK _ _).alloc H.low.size o).trans ?_);exact(Kp.grown (F:=fun k=>W.heap.size<=k) hg fun k _ e=>(H.row.lt k e.symm).1).below (by simp;have:=H.low.size;omega) fun k hk=>hk
theorem Aa{W w:World}{v:V}{ao:Option Addr}{cap:Nat}{o:Obj}(hI:Is W v ao)(hB:Below W.heap.size W w):VS W (.slice (some ⟨w.heap.size+1,0,none⟩) 1 1) [(v,ao,cap)] ((w.alloc o).alloc (.cells #[.int .i64 v.kind,.int .i64 v.n,.slice ao v.l.length cap] 71)):=by
 have q:aA w ((w.alloc o).alloc (.cells #[.int .i64 v.kind,.int .i64 v.n,.slice ao v.l.length cap] 71)):=(Kp.alloc _ _).trans (Kp.alloc _ _);have hs:=hB.size;refine⟨⟨by simp[mZ],.inr ⟨w.heap.size+1,1,_,rfl,by omega,Y2 w _ _,aj _,by decide,by simp,by simp[jI,Zv]⟩⟩,fun p hp=> ?_,sj hB q hB.size⟩;simp at hp;subst hp;exact hI
theorem xQ{w:World}{g m:Nat}{v:V}{ao:Option Addr}{cap:Nat}(h:∀j,j<3->w.cell? ⟨g,m+j,none⟩=(Zv (v,ao,cap))[j]?):
 w.cell? ⟨g,m,none⟩=some (.int .i64 v.kind)/\w.cell? ⟨g,m+1,none⟩=some (.int .i64 v.n)/\w.cell? ⟨g,m+2,none⟩=some (.slice ao v.l.length cap):=
 ⟨h 0 (by decide),h 1 (by decide),h 2 (by decide)⟩
theorem sP{α:Type}(l:List α)(j:Nat)(h:j<l.length):l.reverse.take (j+1)=l.reverse.take j++[l[l.length-1-j]]:=by
 rw[iF l.reverse j (by simpa using h)];simp
def vsz(ts:List Kd):Nat:=(ts.map fun p=>p.1.size).sum
theorem nU(a b:List Kd):vsz (a++b)=vsz a+vsz b:=by simp[vsz]
theorem uG(p:Kd):vsz [p]=p.1.size:=by simp[vsz]
theorem Ew(ts:List Kd):ts.length<=vsz ts:=by
 induction ts with
 |nil=>simp[vsz]
 |cons x ts ih=>have:=size_pos x.1;simp[vsz]at ih|-;omega
theorem uo(ts:List Kd):vsz ts=sizes (ts.map (·.1)):=by
 induction ts with
 |nil=>simp[vsz,YX]
 |cons x ts ih=>rw[dz,YV,<-ih];simp[vsz]
theorem om(l:List V):sizes l.reverse=sizes l:=by
 induction l with
 |nil=>rfl
 |cons x l ih=>rw[List.reverse_cons,iZ,ih,YV,YV,YX];omega
def vg(ts:List Kd):List V:=Zh (ts.map (·.1)).reverse
theorem Bh:vg []=[]:=by simp[vg,iI]
theorem Bf(p:Kd):vg [p]=p.1.pre:=by simp[vg,Qv]
theorem A9(ts:List Kd)(p:Kd):vg (ts++[p])=p.1::(Zh p.1.l++vg ts):=by
 simp only[vg,bA,dz,List.map_nil,List.reverse_append,List.reverse_cons,List.reverse_nil,dm,List.singleton_append,gm];rw[xS];rfl
theorem yu(ts ks:List Kd)(u:V)(h:ks.map (·.1)=u.l.reverse):vg (ts++ks)=Zh u.l++vg ts:=by
 simp only[vg,bA,List.reverse_append,h,List.reverse_reverse,yH]
theorem CU(v:V)(ao:Option Addr)(cap:Nat)(w:World):Calls prog 322 #[.agg #[.int .i64 v.kind,.int .i64 v.n,.slice ao v.l.length cap]] w fun e w'=>e= .returned (.bool (v.kind==5))/\aA w w':=by
 go_enter func322,ntmps322;go_wp2;go_ret;exact⟨by simp,Kp.alloc _ _⟩
theorem ED(v:V)(ao:Option Addr)(cap:Nat)(W w:World)(hB:Below W.heap.size W w)(hI:Is W v ao)(hS:v.size<=500):
 Calls prog 176 #[.agg #[.int .i64 v.kind,.int .i64 v.n,.slice ao v.l.length cap],.func (.func 175) #[] #[],.func (.func 322) #[] #[]] w fun e w'=>e= .returned (.bool v.gate)/\Below W.heap.size W w':=by
 obtain⟨i0,hi,hz0,hz1,hz2⟩:=bM fM;have hst:=hid (Aa (o:= .cells #[.int .i64 v.kind,.int .i64 v.n,.slice ao v.l.length cap] 71) (cap:=cap) hI hB);clear hI hB;go_enter func176,ntmps176;go_wp2;go_loopg [7] v.size (fun gk sv wr=>∃(ts:List Kd),vsz ts=gk/\gk<=v.size/\VS W sv ts wr/\v.gate=mi (vg ts));case atStart=>exact⟨[(v,ao,cap)],uG _,aj _,hst.out,by rw[Bf];rfl⟩
 case round=>
  rename World=>wr;clear hst;obtain⟨ts,hsz,hle,H,hinv⟩:=hrel;rcases eH ts with rfl|⟨ts,⟨u,ua,uc⟩,rfl⟩
  ·obtain⟨av,cv,hsv⟩:=YU H.row;have HH:=bC H hinv;subst hsv;clear hsz hle H hinv;go_wp2;go_ret;refine⟨?_,HH.out.1.low⟩;rw[HH.out.2,Bh];rfl
  ·rw[eO]at hsz H hinv;have hr:=H.row;rw[jV,jI,ak,aL,bf,bP]at hr;obtain⟨g,cp,hv⟩:=fP hr (by omega);subst hv;obtain⟨hr',hc'⟩:=lU hr rfl;obtain⟨t0,t1,t2⟩:=xQ hc';have huW:=H.lie (u,ua,uc) (by simp);simp only at huW;rw[nU,uG]at hsz;simp only at hsz;have htl:=Ew ts;have hus:=size_eq u;have hul:=fG u.l;have hcp:=kQ hr;have abz:u.l.length<=500:=(by omega);have ach:ts.length<=500:=(by omega);have HX:=jR hsz hus hle hinv;have HH:=hid (show VS W (.slice (some ⟨g,0,none⟩) ts.length cp) ts wr from⟨hr',fun p hp=>H.lie p (by simp[hp]),H.low⟩);have HU:=hid huW;rw[A9]at hinv;have HE:=hid hinv;clear hc' hr hsz hle H hr' huW hus hinv;cases hk:(u.kind==5)with
   |true=>
    have hE:=hid (show v.gate=true by rw[HE.out];simp[mi,hk]);go_wp2_with (go_at_call 322;refine(CU u ua uc _).mono ?_;rintro e w2 ⟨rfl,q2⟩;rw[hk]);go_ret;exact⟨by rw[hE.out];rfl,(HH.out.quiet ((Kp.alloc _ _).trans q2)).low⟩
   |false=>
    have hE:=hid (show v.gate=mi (Zh u.l++vg ts)by rw[HE.out];simp[mi,hk]);go_wp2_with (first
     |(go_at_call 175;refine(ib u ua uc _).mono ?_;rintro e w3 ⟨rfl,q3⟩)
     |(go_at_call 322;refine(CU u ua uc _).mono ?_;rintro e w2 ⟨rfl,q2⟩;rw[hk];have hbx:w2.heap[wr.heap.size]?=some (.cells #[.int .i64 u.kind,.int .i64 u.n,.slice ua u.l.length uc] 71 (0,0)):=(q2.block _ (by simp) (fun e=>e)).trans (ah wr _);obtain⟨y0,y1,y2⟩:=aM hbx;clear hbx))
    have H3:=bC (HH.out.quiet ((Kp.alloc _ _).trans (q2.trans q3))) trivial;clear y0 y1 y2 t0 t1 t2;go_loopw [7,35] (fun sv i w5=>∃(j:Nat) (ks:List Kd),j<=u.l.length/\i= .int .i64 j/\ks.map (·.1)=u.l.reverse.take j/\VS W sv (ts++ks) w5/\True) (fun _ i _=>u.l.length-(intOf i).toNat);case atStart=>exact⟨0,[],aP _,rfl,by simp,by rw[dC];exact H3.out.1,H3.out.2⟩
    case round=>
     rename World=>wq;clear H3 HH;obtain⟨j,ks,hj,rfl,hks,H,hst⟩:=hrel;have hl3:ks.length=j:=(by have:=aC List.length hks;rw[bE,dK,List.length_reverse]at this;omega);obtain⟨nk,hnk⟩:∃nk,nk=(ts++ks).length:=⟨_,rfl⟩;have ac8:nk<=1000:=(by rw[hnk,ak,hl3];omega);have rR:=H.row;rw[<-hnk]at rR;obtain⟨av,cv,hsv⟩:=YU rR;have HNK:=hid hnk;clear hnk hl3;by_cases hlt:j<u.l.length
     ·have hidx:(u.l.length:Int)-1-(j:Int)=((u.l.length-1-j:Nat):Int):=(by omega);have hq:u.l.length-1-j<u.l.length:=(by omega);obtain⟨xb,xo,hxa,xh,xa,xc,xs,hxi⟩:=HU.out.fo.get (u.l.length-1-j) hq;obtain⟨x0,x1⟩:=gq (eZ H.low) xh;have xsk:=eZ H.low _ _ xs;have HN:=hid (show u.l.reverse.take (j+1)=u.l.reverse.take j++[u.l[u.l.length-1-j]]from sP u.l j hlt);generalize hcu:u.l[u.l.length-1-j]=x at*;have HXX:=bC hxi hks;have HH:=bC H hst;have HRK:=hid rR;have hsz:=H.low.size;subst hsv;subst hxa;clear hcu xh xs hxi hks H hst rR hq;go_wp2_with (at_builtin;refine aX _ rfl (.tmp 38) (.tmp 47) 69 rfl W.heap.size 71 i0 _ 3 40 fE hi hz0 hz1 hz2 rfl (by decide) _ nk (eB (ts++ks)) rfl (HRK.out.alloc _) ⟨wq.heap.size,0,none⟩ 1 1 (Zv (x,xa,xc)) rfl rfl (gT wq _ 71) (jO _) (by decide) (by unfold maxLen;omega) (by omega) (by simp;omega) _ rfl ?_;intro g2 cap2 w1 hr1 hg1 hat hlt1;have hD:=hid (HH.out.1.push (x:=(x,xa,xc)) HXX.out.1 HNK.out hr1 hg1);have hI:=hid (trivial);clear hr1 hg1 hat hlt1);exact⟨⟨j+1,ks++[(x,xa,xc)],by omega,by go_num,by rw[bA,HXX.out.2,HN.out];rfl,by rw[<-aV];exact hD.out,hI.out⟩,by simp[intOf];omega⟩
     ·have hjl:j=u.l.length:=(by omega);subst hjl;have hpr:u.l.reverse.take u.l.length=u.l.reverse:=cz (by simp);rw[hpr]at hks;have HH:=gp H hst hks;subst hsv;clear H rR hks hst;go_wp2;go_roundg (vsz (ts++ks));case measure=>
            have h3:=HX.out;have h4:=uo ks;rw[HH.out.2.2,om]at h4;rw[nU];omega
      case rel=>
            refine⟨ts++ks,rfl, ?_,HH.out.1,by rw[yu ts ks u HH.out.2.2,<-hE.out]⟩;have h3:=HX.out;have h4:=uo ks;rw[HH.out.2.2,om]at h4;rw[nU];omega
theorem Jv(v:V)(ao:Option Addr)(cap bc:Nat)(c:Int)(w:World)(hc:w.heap[bc]?=some (.cells #[.int .i64 c] 3 (0,0))):
 Calls prog 177 #[.agg #[.int .i64 v.kind,.int .i64 v.n,.slice ao v.l.length cap],.pointer (some ⟨bc,0,none⟩)] w fun e w'=>e= .returned (.bool (v.YW !=0))/\w'.heap[bc]?=some (.cells #[.int .i64 v.YW] 3 (0,0))/\Kp (fun k=>k=bc) w w':=by
 have hlt:=ae hc;go_enter func177,ntmps177;go_wp2_with (go_at_call 178;refine(xR v ao cap _).mono ?_;rintro e w2 ⟨rfl,q2⟩;have hb:w2.heap[bc]?=some (.cells #[.int .i64 c] 3 (0,0)):=(((Kp.alloc _ _).trans q2).block bc hlt (fun h=>h)).trans hc;have k0:=cell_of_one hb;have k1:=free_of_one hb);go_ret;refine⟨by simp,one_setCell hb, ?_⟩;exact((((Kp.alloc w _).trans q2).mono fun _ _ h=>h.elim)).trans (Kp.setCell _ _ _ rfl)
theorem Ld{W w w2:World}{sv:Value}{ts:List Kd}{o:Obj}{bc:Nat}{c c':Int}(H:VS W sv ts w)(hc:w.heap[bc]?=some (.cells #[.int .i64 c] 3 (0,0)))(hbc:W.heap.size<=bc)(_:w2.heap[bc]?=some (.cells #[.int .i64 c'] 3 (0,0)))(q:Kp (fun k=>k=bc) (w.alloc o) w2):VS W sv ts w2:=
 (H.quiet (Kp.alloc w o)).step q (fun k e=>by omega) fun k e e2=>by subst e2;exact uj H.row hc (by decide) e
theorem Mc{w w1:World}{sv:Value}{n:Nat}{xs:List Value}{B bc:Nat}{c:Int}{o:Obj}(hc:w.heap[bc]?=some (.cells #[.int .i64 c] 3 (0,0)))(hr:w.ownsRow B 71 3 sv n xs)(hg:(w.alloc o).grownBy w1 sv.ownBlock):w1.heap[bc]?=some (.cells #[.int .i64 c] 3 (0,0)):=by
 have hlt:=ae hc;rw[hg.block bc (by simp;omega) (fun e=>uj hr hc (by decide) e.symm),aB _ _ _ hlt];exact hc
theorem JL(v:V)(l:List V):first (v::l)=if v.YW=0 then first l else v.YW:=rfl
theorem Hg(v:V)(ao:Option Addr)(cap:Nat)(bc:Nat)(c:Int)(W w:World)(hB:Below W.heap.size W w)(hI:Is W v ao)(hS:v.size<=500)(hbc:W.heap.size<=bc)(hc:w.heap[bc]?=some (.cells #[.int .i64 c] 3 (0,0))):
 Calls prog 176 #[.agg #[.int .i64 v.kind,.int .i64 v.n,.slice ao v.l.length cap],.func (.func 175) #[] #[],.func (.func 177) #[] #[.pointer (some ⟨bc,0,none⟩)]] w fun e w'=>(∃r,e= .returned (.bool r))/\w'.heap[bc]?=some (.cells #[.int .i64 v.fault] 3 (0,0))/\Below W.heap.size W w':=by
 obtain⟨i0,hi,hz0,hz1,hz2⟩:=bM fM;have hst:=hid (Aa (o:= .cells #[.int .i64 v.kind,.int .i64 v.n,.slice ao v.l.length cap] 71) (cap:=cap) hI hB);have hc1:=hid (show((w.alloc (.cells #[.int .i64 v.kind,.int .i64 v.n,.slice ao v.l.length cap] 71)).alloc (.cells #[.int .i64 v.kind,.int .i64 v.n,.slice ao v.l.length cap] 71)).heap[bc]?=some (.cells #[.int .i64 c] 3 (0,0))by
  have hlt:=ae hc;rw[aB _ _ _ (by simp;omega),aB _ _ _ hlt];exact hc)
 clear hc;clear hI hB;go_enter func176,ntmps176;go_wp2;go_loopg [7] v.size (fun gk sv wr=>∃(ts:List Kd) (c:Int),vsz ts=gk/\gk<=v.size/\VS W sv ts wr/\wr.heap[bc]?=some (.cells #[.int .i64 c] 3 (0,0))/\v.fault=first (vg ts)/\(ts=[]->c=0));case atStart=>exact⟨[(v,ao,cap)],c,uG _,aj _,hst.out,hc1.out,by rw[Bf];rfl,fun e=>by simp at e⟩
 case round=>
  rename World=>wr;clear hst;obtain⟨ts,c,hsz,hle,H,hinv⟩:=hrel;rcases eH ts with rfl|⟨ts,⟨u,ua,uc⟩,rfl⟩
  ·obtain⟨av,cv,hsv⟩:=YU H.row;have HH:=jR H hinv.1 hinv.2.1 (hinv.2.2 rfl);subst hsv;clear hsz hle H hinv;go_wp2;go_ret;refine⟨(by first|exact⟨_,rfl⟩|rfl), ?_,HH.out.1.low⟩;rw[HH.out.2.2.1,Bh,HH.out.2.1,HH.out.2.2.2];rfl
  ·rw[eO]at hsz H hinv;have hr:=H.row;rw[jV,jI,ak,aL,bf,bP]at hr;obtain⟨g,cp,hv⟩:=fP hr (by omega);subst hv;obtain⟨hr',hc'⟩:=lU hr rfl;obtain⟨t0,t1,t2⟩:=xQ hc';have huW:=H.lie (u,ua,uc) (by simp);simp only at huW;rw[nU,uG]at hsz;simp only at hsz;have htl:=Ew ts;have hus:=size_eq u;have hul:=fG u.l;have hcp:=kQ hr;have abz:u.l.length<=500:=(by omega);have ach:ts.length<=500:=(by omega);have HX:=gp hsz hus hle;have HH:=hid (show VS W (.slice (some ⟨g,0,none⟩) ts.length cp) ts wr from⟨hr',fun p hp=>H.lie p (by simp[hp]),H.low⟩);have HU:=hid huW;obtain⟨hcd,hfa,_⟩:=hinv;rw[A9,JL]at hfa;have HE:=hid hfa;have hlt:=ae hcd;have hcb:=hid hcd;have HQ:=hid (fun(o':Obj)=>Jv u ua uc bc c (wr.alloc o') ((aB wr o' bc hlt).trans hcd));clear hc' hr hsz hle H hr' huW hus;by_cases hk:u.YW=0
   ·have hk':(u.YW !=0)=false:=(by simp[hk]);have hE:=hid (show v.fault=first (Zh u.l++vg ts)by rw[HE.out,ag hk]);clear hcd hfa;go_wp2_with (first
     |(go_at_call 175;refine(ib u ua uc _).mono ?_;rintro e w3 ⟨rfl,q3⟩)
     |(go_at_call 177;refine(HQ.out _).mono ?_;rintro e w2 ⟨rfl,hb2,q2⟩;rw[hk'];rw[hk]at hb2;have hbx:w2.heap[wr.heap.size]?=some (.cells #[.int .i64 u.kind,.int .i64 u.n,.slice ua u.l.length uc] 71 (0,0)):=(q2.block _ (by simp) (by show¬wr.heap.size=bc;omega)).trans (ah wr _);obtain⟨y0,y1,y2⟩:=aM hbx;clear hbx))
    have H3:=bC ((Ld HH.out hcb.out hbc hb2 q2).quiet q3) ((q3.block _ (ae hb2) (fun e=>e)).trans hb2);clear y0 y1 y2 t0 t1 t2;go_loopw [7,35] (fun sv i w5=>∃(j:Nat) (ks:List Kd),j<=u.l.length/\i= .int .i64 j/\ks.map (·.1)=u.l.reverse.take j/\VS W sv (ts++ks) w5/\w5.heap[bc]?=some (.cells #[.int .i64 0] 3 (0,0))) (fun _ i _=>u.l.length-(intOf i).toNat);case atStart=>exact⟨0,[],aP _,rfl,by simp,by rw[dC];exact H3.out.1,H3.out.2⟩
    case round=>
     rename World=>wq;clear H3 HH;obtain⟨j,ks,hj,rfl,hks,H,hst⟩:=hrel;have hl3:ks.length=j:=(by have:=aC List.length hks;rw[bE,dK,List.length_reverse]at this;omega);obtain⟨nk,hnk⟩:∃nk,nk=(ts++ks).length:=⟨_,rfl⟩;have ac8:nk<=1000:=(by rw[hnk,ak,hl3];omega);have rR:=H.row;rw[<-hnk]at rR;obtain⟨av,cv,hsv⟩:=YU rR;have HNK:=hid hnk;clear hnk hl3;by_cases hlt:j<u.l.length
     ·have hidx:(u.l.length:Int)-1-(j:Int)=((u.l.length-1-j:Nat):Int):=(by omega);have hq:u.l.length-1-j<u.l.length:=(by omega);obtain⟨xb,xo,hxa,xh,xa,xc,xs,hxi⟩:=HU.out.fo.get (u.l.length-1-j) hq;obtain⟨x0,x1⟩:=gq (eZ H.low) xh;have xsk:=eZ H.low _ _ xs;have HN:=hid (show u.l.reverse.take (j+1)=u.l.reverse.take j++[u.l[u.l.length-1-j]]from sP u.l j hlt);generalize hcu:u.l[u.l.length-1-j]=x at*;have HXX:=bC hxi hks;have HH:=bC H hst;have HRK:=hid rR;have hsz:=H.low.size;subst hsv;subst hxa;clear hcu xh xs hxi hks H hst rR hq;go_wp2_with (at_builtin;refine aX _ rfl (.tmp 38) (.tmp 47) 69 rfl W.heap.size 71 i0 _ 3 40 fE hi hz0 hz1 hz2 rfl (by decide) _ nk (eB (ts++ks)) rfl (HRK.out.alloc _) ⟨wq.heap.size,0,none⟩ 1 1 (Zv (x,xa,xc)) rfl rfl (gT wq _ 71) (jO _) (by decide) (by unfold maxLen;omega) (by omega) (by simp;omega) _ rfl ?_;intro g2 cap2 w1 hr1 hg1 hat hlt1;have hD:=hid (HH.out.1.push (x:=(x,xa,xc)) HXX.out.1 HNK.out hr1 hg1);have hI:=hid ((Mc HH.out.2 HRK.out hg1));clear hr1 hg1 hat hlt1);exact⟨⟨j+1,ks++[(x,xa,xc)],by omega,by go_num,by rw[bA,HXX.out.2,HN.out];rfl,by rw[<-aV];exact hD.out,hI.out⟩,by simp[intOf];omega⟩
     ·have hjl:j=u.l.length:=(by omega);subst hjl;have hpr:u.l.reverse.take u.l.length=u.l.reverse:=cz (by simp);rw[hpr]at hks;have HH:=gp H hst hks;subst hsv;clear H rR hks hst;go_wp2;go_roundg (vsz (ts++ks));case measure=>
            have h3:=HX.out;have h4:=uo ks;rw[HH.out.2.2,om]at h4;rw[nU];omega
      case rel=>
            refine⟨ts++ks,0,rfl, ?_,HH.out.1,HH.out.2.1,by rw[yu ts ks u HH.out.2.2,<-hE.out],fun _=>rfl⟩;have h3:=HX.out;have h4:=uo ks;rw[HH.out.2.2,om]at h4;rw[nU];omega
   ·have hk':(u.YW !=0)=true:=(by simp[hk]);have hE:=hid (show v.fault=u.YW by rw[HE.out,af hk]);clear hcd hfa;go_wp2_with (go_at_call 177;refine(HQ.out _).mono ?_;rintro e w2 ⟨rfl,hb2,q2⟩;rw[hk']);go_ret;exact⟨⟨_,rfl⟩,by rw[hE.out];exact hb2,(Ld HH.out hcb.out hbc hb2 q2).low⟩
structure CS(B:Nat)(w:World)(bc:Nat)(sv:Value)(cs:List Int):Prop where
 obj:w.heap[bc]?=some (.cells #[sv] 223 (0,0))
 row:w.ownsRow B 3 1 sv cs.length (rX cs)
 nb:sv.ownBlock≠some bc
 lo:B<=bc
 nil:cs=[]->sv= .slice none 0 0
theorem CS.quiet{B:Nat}{w w':World}{bc:Nat}{sv:Value}{cs:List Int}(h:CS B w bc sv cs)(q:aA w w'):CS B w' bc sv cs:=
 {h with obj:=(q.block bc (ae h.obj) fun e=>e).trans h.obj,row:=q.row h.row fun _ _ e=>e}
def KV(bc:Nat)(sv:Value)(k:Nat):Prop:=k=bc\/sv.ownBlock=some k
theorem NF{B:Nat}{w w1:World}{bc:Nat}{sv:Value}{cs:List Int}{o1 o2:Obj}{x:Int}{g cap:Nat}(h:CS B w bc sv cs)
 (hr:w1.ownsRow B 3 1 (.slice (some ⟨g,0,none⟩) (cs.length+1) cap) (cs.length+1) (rX cs++[.int .i64 x])) (hg:((w.alloc o1).alloc o2).grownBy w1 sv.ownBlock) (hat:sv.ownBlock=some g\/g=w.heap.size+2):
 CS B (w1.setCell ⟨bc,0,none⟩ (.slice (some ⟨g,0,none⟩) (cs.length+1) cap)) bc (.slice (some ⟨g,0,none⟩) (cs.length+1) cap) (cs++[x])/\Kp (KV bc sv) w (w1.setCell ⟨bc,0,none⟩ (.slice (some ⟨g,0,none⟩) (cs.length+1) cap)):=by
 have hlt:=ae h.obj;have q0:aA w ((w.alloc o1).alloc o2):=(Kp.alloc _ _).trans (Kp.alloc _ _);have q1:Kp (fun k=>sv.ownBlock=some k) ((w.alloc o1).alloc o2) w1:=Kp.grown hg fun k _ e=>e.symm;have hb:w1.heap[bc]?=some (.cells #[sv] 223 (0,0)):=((q1.block bc (by have:=q0.size;omega) h.nb).trans (q0.block bc hlt fun e=>e)).trans h.obj;have hgb:g≠bc:=by
  rintro rfl;rcases hat with e|e;exact h.nb e;omega
 refine⟨⟨one_setCell hb, ?_,by simp[Value.ownBlock];exact hgb,h.lo,fun e=>by simp at e⟩, ?_⟩;have:=(Kp.setCell (F:=fun k=>k=bc) w1 ⟨bc,0,none⟩ (.slice (some ⟨g,0,none⟩) (cs.length+1) cap) rfl).row hr (fun k e=>by simp[Value.ownBlock]at e;omega);simpa [rX]using this;exact((q0.mono fun _ _ e=>e.elim).trans (q1.mono fun _ _ e=> .inr e)).trans (Kp.setCell _ _ _ (.inl rfl))
def vC(k n:Int):List Int:=if k=4 then[n]else[]
theorem Mg(v:V)(ao:Option Addr)(cap bc B:Nat)(sv:Value)(cs:List Int)(w:World)(h:CS B w bc sv cs)(hB:B<=w.heap.size)(hcs:cs.length<=500):
 Calls prog 323 #[.agg #[.int .i64 v.kind,.int .i64 v.n,.slice ao v.l.length cap],.pointer (some ⟨bc,0,none⟩)] w fun e w'=>e= .returned (.bool false)/\∃sv',CS B w' bc sv' (cs++vC v.kind v.n)/\Kp (KV bc sv) w w':=by
 obtain⟨i0,hi,hz0,hz1,hz2⟩:=bM kL;obtain⟨k,n,l⟩:=v;have hlt:=ae h.obj;by_cases hk:k=4
 ·subst hk;have h1:=h.quiet (Kp.alloc w (.cells #[.int .i64 4,.int .i64 n,.slice ao l.length cap] 71));have h2:=h1.quiet (Kp.alloc _ (.cells #[.int .i64 n] 3));have c1:=cell_of_one h1.obj;have hrow:=h2.row;obtain⟨av,cv,hsv⟩:=YU hrow;have hE:=hid (show vC 4 n=[n]by simp[vC]);have HH:=hid h;have hf:∀(w1:World),((w.alloc (.cells #[.int .i64 4,.int .i64 n,.slice ao l.length cap] 71)).alloc (.cells #[.int .i64 n] 3)).grownBy w1 sv.ownBlock->w1.cell? ⟨bc,0,none⟩=some sv/\w1.frozen? ⟨bc,0,none⟩=false:=by
   intro w1 hg;have q1:Kp (fun k=>sv.ownBlock=some k) _ w1:=Kp.grown hg fun k _ e=>e.symm;have hb:=(q1.block bc (ae h2.obj) h.nb).trans h2.obj;exact⟨cell_of_one hb,free_of_one hb⟩
  subst hsv;clear h h1 h2;go_enter func323,ntmps323;go_wp2_with (at_builtin;refine aX _ rfl (.tmp 7) (.tmp 10) 223 rfl B 3 i0 _ 1 8 og hi hz0 hz1 hz2 rfl (by decide) _ cs.length (rX cs) rfl hrow ⟨w.heap.size+1,0,none⟩ 1 1 [.int .i64 n] rfl rfl (kE (t:=3) (Y2 w _ _)) (by simp[Value.oneCell']) (by decide) (by unfold maxLen;omega) (by omega) (by simp;omega) (w.heap.size+2) (by simp) ?_;intro g2 cap2 w1 hr1 hg1 hat hlt1;have hS:=hid (NF (x:=n) HH.out hr1 hg1 hat);have f1:=(hf w1 hg1).2;have f0:=(hf w1 hg1).1;clear hr1 hg1 hat hlt1);go_ret;exact⟨rfl,_,by rw[hE.out];exact hS.out.1,hS.out.2⟩
 ·have hE:=hid (show vC k n=[]by simp[vC,hk]);go_enter func323,ntmps323;go_wp2;go_ret;refine⟨rfl,sv, ?_,Kp.alloc _ _⟩;rw[hE.out,dC];exact h.quiet (Kp.alloc _ _)
theorem Jw{w:World}{B bc:Nat}{sv:Value}{cs:List Int}(h:CS B w bc sv cs):¬KV bc sv w.heap.size:=by
 rintro(e|e);have:=ae h.obj;omega;have:=(h.row.lt _ e).2;omega
theorem UE{W w w2:World}{sv sv2:Value}{ts:List Kd}{o:Obj}{bc:Nat}{cs:List Int}(H:VS W sv ts w)(hc:CS W.heap.size w bc sv2 cs)(q:Kp (KV bc sv2) (w.alloc o) w2):VS W sv ts w2:=by
 refine(H.quiet (Kp.alloc w o)).step q (fun k e=> ?_) fun k e e2=> ?_;rcases e with e|e;rw[e];exact hc.lo;exact(hc.row.lt k e).1;rcases e2 with e2|e2;subst e2;exact uj H.row hc.obj (by decide) e;exact rP H.row hc.row (by decide) k e e2
theorem Mr{w w1:World}{sv sv2:Value}{n:Nat}{xs:List Value}{B B2 bc:Nat}{cs:List Int}{o:Obj}(h:CS B2 w bc sv2 cs)(hr:w.ownsRow B 71 3 sv n xs)(hg:(w.alloc o).grownBy w1 sv.ownBlock):CS B2 w1 bc sv2 cs:=by
 have hlt:=ae h.obj;refine{h with obj:= ?_,row:= ?_};rw[hg.block bc (by simp;omega) (fun e=>uj hr h.obj (by decide) e.symm),aB _ _ _ hlt];exact h.obj;exact Kp.row (F:=fun k=>sv.ownBlock=some k) (Kp.grown hg fun k _ e=>e.symm) (h.row.alloc o) fun k e e2=>rP h.row hr (by decide) k e e2
theorem Fq(v:V)(l:List V):gG (v::l)=vC v.kind v.n++gG l:=by
 by_cases h:v.kind=4<;>simp[gG,vC,h]
theorem tQ(v:V)(ao:Option Addr)(cap:Nat)(bc:Nat)(sv:Value)(W w:World)(hB:Below W.heap.size W w)(hI:Is W v ao)(hS:v.size<=500)(hc:CS W.heap.size w bc sv []):
 Calls prog 176 #[.agg #[.int .i64 v.kind,.int .i64 v.n,.slice ao v.l.length cap],.func (.func 175) #[] #[],.func (.func 323) #[] #[.pointer (some ⟨bc,0,none⟩)]] w fun e w'=>e= .returned (.bool false)/\(∃sv',CS W.heap.size w' bc sv' v.Zn)/\Below W.heap.size W w':=by
 obtain⟨i0,hi,hz0,hz1,hz2⟩:=bM fM;have hst:=hid (Aa (o:= .cells #[.int .i64 v.kind,.int .i64 v.n,.slice ao v.l.length cap] 71) (cap:=cap) hI hB);have hc1:=hid (show CS W.heap.size ((w.alloc (.cells #[.int .i64 v.kind,.int .i64 v.n,.slice ao v.l.length cap] 71)).alloc (.cells #[.int .i64 v.kind,.int .i64 v.n,.slice ao v.l.length cap] 71)) bc sv []from hc.quiet ((Kp.alloc _ _).trans (Kp.alloc _ _)));clear hc;clear hI hB;go_enter func176,ntmps176;go_wp2;go_loopg [7] v.size (fun gk sv wr=>∃(ts:List Kd) (sv4:Value) (cs:List Int),vsz ts=gk/\gk<=v.size/\VS W sv ts wr/\CS W.heap.size wr bc sv4 cs/\v.Zn=cs++gG (vg ts));case atStart=>exact⟨[(v,ao,cap)],sv,[],uG _,aj _,hst.out,hc1.out,by rw[Bf];rfl⟩
 case round=>
  rename World=>wr;clear hst;obtain⟨ts,sv4,cs,hsz,hle,H,hinv⟩:=hrel;rcases eH ts with rfl|⟨ts,⟨u,ua,uc⟩,rfl⟩
  ·obtain⟨av,cv,hsv⟩:=YU H.row;have HH:=bC H hinv;subst hsv;clear hsz hle H hinv;go_wp2;go_ret;refine⟨rfl,⟨sv4, ?_⟩,HH.out.1.low⟩;rw[HH.out.2.2,Bh];simpa [gG]using HH.out.2.1
  ·rw[eO]at hsz H hinv;have hr:=H.row;rw[jV,jI,ak,aL,bf,bP]at hr;obtain⟨g,cp,hv⟩:=fP hr (by omega);subst hv;obtain⟨hr',hc'⟩:=lU hr rfl;obtain⟨t0,t1,t2⟩:=xQ hc';have huW:=H.lie (u,ua,uc) (by simp);simp only at huW;rw[nU,uG]at hsz;simp only at hsz;have htl:=Ew ts;have hus:=size_eq u;have hul:=fG u.l;have hcp:=kQ hr;have abz:u.l.length<=500:=(by omega);have ach:ts.length<=500:=(by omega);have HX:=gp hsz hus hle;have HH:=hid (show VS W (.slice (some ⟨g,0,none⟩) ts.length cp) ts wr from⟨hr',fun p hp=>H.lie p (by simp[hp]),H.low⟩);have HU:=hid huW;obtain⟨hcd,hfa⟩:=hinv;rw[A9,Fq]at hfa;have aga:cs.length<=500:=(by have h1:=Gc v;rw[hfa,ak]at h1;omega);have HE:=hid hfa;have HCS:=hid hcd;have HQ:=hid (fun(o':Obj)=>Mg u ua uc bc W.heap.size sv4 cs (wr.alloc o') (hcd.quiet (Kp.alloc wr o')) (by have:=H.low.size;simp;omega) aga);clear hc' hr hsz hle H hr' huW hus;have hE:=hid (show v.Zn=cs++(vC u.kind u.n++gG (Zh u.l++vg ts))from HE.out);clear hcd hfa;go_wp2_with (first
    |(go_at_call 175;refine(ib u ua uc _).mono ?_;rintro e w3 ⟨rfl,q3⟩)
    |(go_at_call 323;refine(HQ.out _).mono ?_;rintro e w2 ⟨rfl,sv5,hb2,q2⟩;have hbx:w2.heap[wr.heap.size]?=some (.cells #[.int .i64 u.kind,.int .i64 u.n,.slice ua u.l.length uc] 71 (0,0)):=(q2.block _ (by simp) (Jw HCS.out)).trans (ah wr _);obtain⟨y0,y1,y2⟩:=aM hbx;clear hbx))
   have H3:=bC ((UE HH.out HCS.out q2).quiet q3) (hb2.quiet q3);clear y0 y1 y2 t0 t1 t2;go_loopw [7,35] (fun sv i w5=>∃(j:Nat) (ks:List Kd),j<=u.l.length/\i= .int .i64 j/\ks.map (·.1)=u.l.reverse.take j/\VS W sv (ts++ks) w5/\CS W.heap.size w5 bc sv5 (cs++vC u.kind u.n)) (fun _ i _=>u.l.length-(intOf i).toNat);case atStart=>exact⟨0,[],aP _,rfl,by simp,by rw[dC];exact H3.out.1,H3.out.2⟩
   case round=>
    rename World=>wq;clear H3 HH;obtain⟨j,ks,hj,rfl,hks,H,hst⟩:=hrel;have hl3:ks.length=j:=(by have:=aC List.length hks;rw[bE,dK,List.length_reverse]at this;omega);obtain⟨nk,hnk⟩:∃nk,nk=(ts++ks).length:=⟨_,rfl⟩;have ac8:nk<=1000:=(by rw[hnk,ak,hl3];omega);have rR:=H.row;rw[<-hnk]at rR;obtain⟨av,cv,hsv⟩:=YU rR;have HNK:=hid hnk;clear hnk hl3;by_cases hlt:j<u.l.length
    ·have hidx:(u.l.length:Int)-1-(j:Int)=((u.l.length-1-j:Nat):Int):=(by omega);have hq:u.l.length-1-j<u.l.length:=(by omega);obtain⟨xb,xo,hxa,xh,xa,xc,xs,hxi⟩:=HU.out.fo.get (u.l.length-1-j) hq;obtain⟨x0,x1⟩:=gq (eZ H.low) xh;have xsk:=eZ H.low _ _ xs;have HN:=hid (show u.l.reverse.take (j+1)=u.l.reverse.take j++[u.l[u.l.length-1-j]]from sP u.l j hlt);generalize hcu:u.l[u.l.length-1-j]=x at*;have HXX:=bC hxi hks;have HH:=bC H hst;have HRK:=hid rR;have hsz:=H.low.size;subst hsv;subst hxa;clear hcu xh xs hxi hks H hst rR hq;go_wp2_with (at_builtin;refine aX _ rfl (.tmp 38) (.tmp 47) 69 rfl W.heap.size 71 i0 _ 3 40 fE hi hz0 hz1 hz2 rfl (by decide) _ nk (eB (ts++ks)) rfl (HRK.out.alloc _) ⟨wq.heap.size,0,none⟩ 1 1 (Zv (x,xa,xc)) rfl rfl (gT wq _ 71) (jO _) (by decide) (by unfold maxLen;omega) (by omega) (by simp;omega) _ rfl ?_;intro g2 cap2 w1 hr1 hg1 hat hlt1;have hD:=hid (HH.out.1.push (x:=(x,xa,xc)) HXX.out.1 HNK.out hr1 hg1);have hI:=hid ((Mr HH.out.2 HRK.out hg1));clear hr1 hg1 hat hlt1);exact⟨⟨j+1,ks++[(x,xa,xc)],by omega,by go_num,by rw[bA,HXX.out.2,HN.out];rfl,by rw[<-aV];exact hD.out,hI.out⟩,by simp[intOf];omega⟩
    ·have hjl:j=u.l.length:=(by omega);subst hjl;have hpr:u.l.reverse.take u.l.length=u.l.reverse:=cz (by simp);rw[hpr]at hks;have HH:=gp H hst hks;subst hsv;clear H rR hks hst;go_wp2;go_roundg (vsz (ts++ks));case measure=>
           have h3:=HX.out;have h4:=uo ks;rw[HH.out.2.2,om]at h4;rw[nU];omega
     case rel=>
           refine⟨ts++ks,sv5,cs++vC u.kind u.n,rfl, ?_,HH.out.1,HH.out.2.1,by rw[yu ts ks u HH.out.2.2,aV];exact hE.out⟩;have h3:=HX.out;have h4:=uo ks;rw[HH.out.2.2,om]at h4;rw[nU];omega
theorem uK{w:World}{b:Nat}{v:V}{ao:Option Addr}{cap:Nat}(h:w.heap[b]?=some (.cells #[.int .i64 v.kind,.int .i64 v.n,.slice ao v.l.length cap] 71 (0,0)))(hI:Is w v ao):Fo w [v] (some ⟨b,0,none⟩):=by
 intro i hi;obtain rfl:i=0:=by simp at hi;omega
 refine⟨b,0,rfl, ?_⟩;obtain⟨h0,h1,h2⟩:=aM h;exact(Zt _ _ _ _).2 ⟨⟨h0,h1⟩,ao,cap,h2,hI⟩
theorem fQ(v:V)(ao:Option Addr)(cap:Nat)(w:World)(hI:Is w v ao)(hS:v.size<=500):
 Calls prog 148 #[.agg #[.int .i64 v.kind,.int .i64 v.n,.slice ao v.l.length cap]] w fun e w'=>e= .returned (.int .i64 v.check)/\aA w w':=by
 have q1:aA w ((w.alloc (.cells #[.int .i64 v.kind,.int .i64 v.n,.slice ao v.l.length cap] 71)).alloc (.cells #[.int .i64 v.kind,.int .i64 v.n,.slice ao v.l.length cap] 71)):=(Kp.alloc _ _).trans (Kp.alloc _ _);have hb0:((w.alloc (.cells #[.int .i64 v.kind,.int .i64 v.n,.slice ao v.l.length cap] 71)).alloc (.cells #[.int .i64 v.kind,.int .i64 v.n,.slice ao v.l.length cap] 71)).heap[w.heap.size]?=some (.cells #[.int .i64 v.kind,.int .i64 v.n,.slice ao v.l.length cap] 71 (0,0)):=by
  rw[aB _ _ _ (by simp)];exact ah w _
 have hm:=hid (wU [v] (some ⟨w.heap.size+1,0,none⟩) 1 40 _ (uK (Y2 w _ _) (hI.quiet q1)) (by rw[ky];omega) (by decide));rw[aJ,ky]at hm;by_cases hb:40<v.size
 ·have hE:=hid (show v.check=3 by unfold V.check;rw[ag hb]);have hd:=hid (show decide (40<v.size)=true by simpa using hb);clear hb;go_enter func148,ntmps148;go_wp2_with (go_at_call 174;refine hm.out.mono ?_;rintro e w2 ⟨rfl,q2⟩;rw[hd.out]);go_ret;exact⟨by rw[hE.out];rfl,q1.trans q2⟩
 ·have hE:=hid (show v.check=v.fault by unfold V.check;rw[af hb]);have hd:=hid (show decide (40<v.size)=false by simpa using hb);clear hb;have hs:=hid (fun w2 (q2:aA w w2)=>Hg v ao cap w2.heap.size 0 w (w2.alloc (.cells #[.int .i64 0] 3)) (q2.trans (Kp.alloc _ _)).low hI hS q2.size (ah w2 _));go_enter func148,ntmps148;go_wp2_with (first
   |(go_at_call 176;refine(hs.out w2 q12).mono ?_;rintro e w3 ⟨⟨r,rfl⟩,hb3,q3⟩;have c3:=cell_of_one hb3)
   |(go_at_call 174;refine hm.out.mono ?_;rintro e w2 ⟨rfl,q2⟩;rw[hd.out];have q12:=q1.trans q2;obtain⟨c0,c1,c2⟩:=aM ((q2.block _ (ae hb0) (fun e=>e)).trans hb0);have z2:w.heap.size<w2.heap.size:=(by have:=q2.size;simp at this;omega)))
  go_ret;exact⟨by rw[hE.out];rfl,gV q3⟩
theorem ZU(v:V)(ao:Option Addr)(cap:Nat)(w:World)(hI:Is w v ao)(hC:v.check=0):
 Calls prog 318 #[.agg #[.int .i64 v.kind,.int .i64 v.n,.slice ao v.l.length cap]] w fun e w'=>e= .returned (.bool v.gate)/\aA w w':=by
 have q1:aA w (w.alloc (.cells #[.int .i64 v.kind,.int .i64 v.n,.slice ao v.l.length cap] 71)):=Kp.alloc _ _;have hS:v.size<=500:=by have:=fV hC;omega
 have hm:=hid (fQ v ao cap _ (hI.quiet q1) hS);have hs:=hid (fun w2 (q2:aA w w2)=>ED v ao cap w w2 q2.low hI hS);have HC:=hid hC;clear hC;go_enter func318,ntmps318;go_wp2_with (first
  |(go_at_call 176;refine(hs.out w2 q12).mono ?_;rintro e w3 ⟨rfl,q3⟩)
  |(go_at_call 148;refine hm.out.mono ?_;rintro e w2 ⟨rfl,q2⟩;rw[HC.out];have q12:=q1.trans q2;have c0:w2.cell? ⟨w.heap.size,0,none⟩=some (.int .i64 v.kind):=q2.cell (by simp) (fun e=>e);have c1:w2.cell? ⟨w.heap.size,1,none⟩=some (.int .i64 v.n):=q2.cell (by simp) (fun e=>e);have c2:w2.cell? ⟨w.heap.size,2,none⟩=some (.slice ao v.l.length cap):=q2.cell (by simp) (fun e=>e)))
 go_ret;exact⟨by rfl,gV q3⟩
theorem QI(v:V)(ao:Option Addr)(cap:Nat)(w:World)(hI:Is w v ao)(hC:v.check=0):
 Calls prog 319 #[.agg #[.int .i64 v.kind,.int .i64 v.n,.slice ao v.l.length cap]] w fun e w'=>∃sv,e= .returned sv/\w'.ownsRow w.heap.size 3 1 sv v.Zn.length (rX v.Zn)/\aA w w'/\(v.Zn=[]->sv= .slice none 0 0):=by
 have q1:aA w (w.alloc (.cells #[.int .i64 v.kind,.int .i64 v.n,.slice ao v.l.length cap] 71)):=Kp.alloc _ _;have hS:v.size<=500:=by have:=fV hC;omega
 have hm:=hid (fQ v ao cap _ (hI.quiet q1) hS);have hs:=hid (fun w2 (q2:aA w w2)=>tQ v ao cap w2.heap.size (.slice none 0 0) w (w2.alloc (.cells #[.slice none 0 0] 223)) (q2.trans (Kp.alloc _ _)).low hI hS ⟨ah w2 _,bq _ _ _ _,by simp[Value.ownBlock],q2.size,fun _=>rfl⟩);have HC:=hid hC;clear hC;go_enter func319,ntmps319;go_wp2_with (first
  |(go_at_call 176;refine(hs.out w2 q12).mono ?_;rintro e w3 ⟨rfl,⟨sv3,hb3⟩,q3⟩;have c3:=cell_of_one hb3.obj;obtain⟨av,cv,hav⟩:=YU hb3.row;subst hav;have HB3:=hid hb3;clear hb3)
  |(go_at_call 148;refine hm.out.mono ?_;rintro e w2 ⟨rfl,q2⟩;rw[HC.out];have q12:=q1.trans q2;have c0:w2.cell? ⟨w.heap.size,0,none⟩=some (.int .i64 v.kind):=q2.cell (by simp) (fun e=>e);have c1:w2.cell? ⟨w.heap.size,1,none⟩=some (.int .i64 v.n):=q2.cell (by simp) (fun e=>e);have c2:w2.cell? ⟨w.heap.size,2,none⟩=some (.slice ao v.l.length cap):=q2.cell (by simp) (fun e=>e);have z2:w.heap.size<w2.heap.size:=(by have:=q2.size;simp at this;omega)))
 go_ret;exact⟨_,rfl,HB3.out.row,gV q3,HB3.out.nil⟩
