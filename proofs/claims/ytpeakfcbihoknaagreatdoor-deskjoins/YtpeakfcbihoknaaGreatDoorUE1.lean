/- Parts. -/
import Derived.Test.YtpeakfcbihoknaaGreatDoorUE0
open Go.ChangeShapes Go.WideShapes Go.ChangeAt Go.RowKit
set_option maxRecDepth 8000
set_option maxHeartbeats 4000000
namespace Go.Proofs.YtpeakfcbihoknaaGreatDoor
open Proofs.Tryz
namespace Ex
theorem UH{b:Nat}{w w':World}{e:TypeId}{size:Nat}{v:Value}{n:Nat}{xs:List Value}(hb:Below w.heap.size w w')(ho:w.ownsRow b e size v n xs):w'.ownsRow b e size v n xs:=(gV hb).row ho fun _ _ e=>e
theorem Ve{W Wr w5:World}{bl:Value}{ks:List Pl}{es:Array MapEntry}{clock nk:Nat}{a:Option Addr}{n:Int}(hn:nk=ks.length)(H:DS W Wr bl ks es clock w5):(lT w5 Wr.heap.size es clock a n).ownsRow (Wr.heap.size+1) 90 1 bl nk (ks.map Z0):=by
 subst hn;exact xe.row H.row fun k e hk=>by have:=(H.row.lt k e).1;omega
theorem IQ(l:List V)(ao:Option Addr)(cap than:Nat)(w:World)(hF:Fo (cln w) l ao)(hS:sizes l<=20000)(hth:than<=100):
 Calls prog 216 #[.slice ao l.length cap,.int .i64 than,.func (.func 217) #[] #[]] w fun e w'=>e= .returned (.bool (decide (than+1<Zl l)))/\aA w w':=by
 obtain⟨i0,hi,hz0,hz1,hz2⟩:=bM kN;have hmm:∀(w:World),(Instr.makeMap 320 none).run prog w= .ok (.map (some w.heap.size)) (w.alloc (.map #[] 0)):=fun w=>run_makeMap _ w;have hroot:=hid hF;have hrow:=hid (xI w 90 (Z0 (l,ao,cap)));clear hF;go_enter func216,ntmps216;go_wp2;go_loopw [7,21] (fun lv i wr=>∃(k:Nat) (ls:List Pl),i= .int .i64 k/\k<=than+1/\wr.ownsRow w.heap.size 90 1 lv ls.length (ls.map Z0)/\Xv w ls/\mx ls=Zl l-k/\ssz ls<=sizes l/\ls.length<=20001/\(1<=k->∀x∈ls,x.1≠[])/\Below w.heap.size w wr) (fun _ i _=>than+1-(intOf i).toNat);case atStart=>
  refine⟨0,[(l,ao,cap)],rfl,aP _,hrow.out, ?_,SL _,by rw[Li];exact aj _,by simp,by omega,(cK _ _).alloc (aj _) _⟩;intro x hx;simp at hx;subst hx;exact hroot.out
 case round=>
  rename World=>Wr;obtain⟨k,ls,rfl,hk,hr,hL,hmx,hss,hll,hne,hB⟩:=hrel;have hsB:=hB.size;obtain⟨lv,lc,hlv⟩:=YU hr;by_cases hlt:k<than+1
  ·have hlt':(k:Int)<(than:Int)+1:=(by omega);have HX:=gp hmx hss hL;have HR:=hid hr;subst hlv;clear hmx hss hL hne hr;go_wp2;clear hmm;go_loopw [8,26] (fun bl i w2=>∃(j:Nat) (ks:List Pl) (es:Array MapEntry) (clock:Nat),j<=ls.length/\i= .int .i64 j/\DS w Wr bl ks es clock w2/\mx ks=mx (ls.take j)-1/\ssz ks<=ssz (ls.take j)) (fun _ i _=>ls.length-(intOf i).toNat);case atStart=>
    refine⟨0,[],#[],0,aP _,rfl,⟨bq _ _ _ _,fun x hx=>by simp at hx,fun x hx=>by simp at hx,ah Wr _,fun e he=>by simp at he,(cK _ _).alloc (aj _) _⟩,by simp[mx],by simp[ssz]⟩
   case round=>
    obtain⟨j,ks,es,clock,hj,rfl,H,hkm,hks⟩:=hrel;obtain⟨bv,bc,hbv⟩:=YU H.row;by_cases hjl:j<ls.length
    ·have hrw:=UH H.low HR.out;obtain⟨lg,hlg,hcell⟩:=Zc hrw (by omega);have hc:=hcell j (by omega);rw[fe,aQ hjl,Option.map_some,Z0]at hc;have hu:=HX.out.2.2 ls[j] (aI hjl);have hmt:=T9 ls j hjl;have hst:=Qc ls j hjl;have hsl:=FY ls (j+1);generalize hx:ls[j]=x at*;obtain⟨u,ua,uc⟩:=x;simp only at hc hu hmt hst;have hul:=fG u;have hss:=HX.out.2.1;have abz:u.length<=20000:=(by omega);have HH:=gp H hkm hks;have HT:=gp hmt hst hsl;have HU:=hid hu;subst hlg;subst hbv;clear hx hcell hrw H hkm hks hmt hst hsl hu hss;go_wp2;go_loopw [8,32] (fun bl i w2=>∃(m:Nat) (ks:List Pl) (es:Array MapEntry) (clock:Nat),m<=u.length/\i= .int .i64 m/\DS w Wr bl ks es clock w2/\mx ks=max (mx (ls.take j)-1) (Zl (u.take m)-1)/\ssz ks<=ssz (ls.take j)+sizes (u.take m)) (fun _ i _=>u.length-(intOf i).toNat);case atStart=>exact⟨0,ks,es,clock,aP _,rfl,HH.out.1,by rw[HH.out.2.1];simp[qZ],by have:=HH.out.2.2;simp[YX];omega⟩
     case round=>
           rename World=>wq;clear HH;obtain⟨m,ks,es,clock,hm,rfl,H,hkm,hks⟩:=hrel;obtain⟨bv,bc,hbv⟩:=YU H.row;have hkl:=Lv H.ne;have htt:=gy u m;have afW:ks.length<=20000:=(by have:=HT.out;have:=HX.out.2.1;omega);obtain⟨nk,hnk⟩:∃nk,nk=ks.length:=⟨_,rfl⟩;rw[<-hnk]at hbv;have ac8:nk<=20000:=(by omega);have HNK:=hid hnk;clear hnk afW hkl;by_cases hml:m<u.length
           ·obtain⟨bb,oo,hua,dh,ca,cc,ds,hci⟩:=HU.out.get m hml;have hW:Below w.heap.size w Wr:=hB;have hBq:Below w.heap.size w wq:=hB.trans (H.low.mono hB.size);obtain⟨d0,d9,d1⟩:=gq (fun a x hc=>eZ hBq a x (nC hc).1) dh;have dsk:=eZ hBq _ _ (nC ds).1;have hdt:=J8 u m hml;have aeH:=mo u m hml;generalize hcu:u[m]=c at*;have HC:=hid hci.fo;have adO:c.l.length<=20000:=(by have:=fG c.l;have:=size_eq c;have:=gy u (m+1);have:=HT.out;have:=HX.out.2.1;omega);have HN:=jR hdt aeH hkm hks;have HH:=hid H;have HS:=hid (size_eq c);subst hua;subst hbv;clear hcu hdt aeH dh ds hci hkm hks H;by_cases hcl:c.l.length=0
            ·have hcl':¬(0:Int)<(c.l.length:Int):=(by omega);have HCL:=hid (bB hcl);have hky:oU ca c.l.length= .agg #[.pointer none,.int .i64 c.l.length]:=(by simp[oU,hcl]);have HKY:=hid hky;have hlk:=hid (fun(w4:World) (q:aA wq w4)=>(F7 none 0 w4 Wr.heap.size clock es (fun x hx=>by simp at hx) (HH.out.quiet q).map ((HH.out.quiet q).ks hB)).1);rw[HH.out.aeF]at hlk;rw[show(0:Int)=(c.l.length:Int)by omega]at hlk;clear hcl hky;go_wp2_with (first
              |(go_at_call 247;refine(kV ca c.l.length cc w3 (fun h=>by rw[HCL.out]at h;simp at h)).mono ?_;rintro e w4 ⟨rfl,q4⟩;rw[HKY.out];replace q4:=q3.trans q4;have hl4:=hlk.out w4 q4)
              |(go_at_call 217;refine(ib c ca cc _).mono ?_;rintro e w3 ⟨rfl,q3⟩;replace q3:aA wq w3:=(Kp.alloc _ _).trans q3))
             refine⟨⟨m+1,ks,es,clock,by omega,by go_num,HH.out.quiet (q4.trans (Kp.alloc _ _)), ?_, ?_⟩,by simp[intOf];omega⟩;have h:=HN.out;have h0:Zl c.l=0:=(by rw[HCL.out];exact qZ);omega;have h:=HN.out;omega
            ·have hcl':(0:Int)<(c.l.length:Int):=(by omega);have hne:c.l≠[]:=(by intro e;rw[e]at hcl;simp at hcl);obtain⟨cb,co,hca⟩:∃cb co,ca=some ⟨cb,co,none⟩:=(by obtain⟨b',o',e,_⟩:=HC.out 0 (by omega);exact⟨b',o',e⟩);have hky:oU ca c.l.length= .agg #[.pointer ca,.int .i64 c.l.length]:=(by simp[oU,hcl]);have hlm:=fun(w4:World)(q:aA wq w4)=>F7 ca c.l.length w4 Wr.heap.size clock es (VI (x:=(c.l,ca,cc)) HC.out hne (hBq.trans (q.low.mono hBq.size)) (aj _)) (HH.out.quiet q).map ((HH.out.quiet q).ks hB);have HNE:=hid hne;have hco:0<c.l.length:=(by omega);have hmet:=fun h=>HH.out.met (x:=(c.l,ca,cc)) HC.out h;simp only at hmet;clear hne hcl;cases hf:lJ es.toList ca c.l.length with
             |true=>
              have hlk:=hid (fun(w4:World) (q:aA wq w4)=>(hlm w4 q).1);rw[hf]at hlk;have HM:=hid (hmet hf);have HKY:=hid hky;clear hlm hmet hf hky;subst hca;go_wp2_with (first
               |(go_at_call 247;refine(kV (some ⟨cb,co,none⟩) c.l.length cc w3 (fun h=>⟨cb,co,rfl⟩)).mono ?_;rintro e w4 ⟨rfl,q4⟩;rw[HKY.out];replace q4:=q3.trans q4;have hl4:=hlk.out w4 q4)
               |(go_at_call 217;refine(ib c (some ⟨cb,co,none⟩) cc _).mono ?_;rintro e w3 ⟨rfl,q3⟩;replace q3:aA wq w3:=(Kp.alloc _ _).trans q3))
              refine⟨⟨m+1,ks,es,clock,by omega,by go_num,HH.out.quiet (q4.trans (Kp.alloc _ _)), ?_, ?_⟩,by simp[intOf];omega⟩;have h:=HN.out;have h0:=HM.out;omega;have h:=HN.out;omega
             |false=>
              have hlk:=hid (fun(w4:World) (q:aA wq w4)=>(hlm w4 q).1);rw[hf]at hlk;have had:=hid (fun(w5:World) (q:aA wq w5)=>UM ca c.l.length w5 Wr.heap.size clock es (HH.out.quiet q).map ((hlm w5 q).2 hf));have HKY:=hid hky;have hzw:=ae HH.out.map;clear hlm hmet hf hky;subst hca;go_wp2_with (first
               |(at_builtin;refine aX _ rfl (.tmp 57) (.tmp 59) 319 rfl (Wr.heap.size+1) 90 i0 _ 1 24 lV hi hz0 hz1 hz2 rfl (by decide) _ nk (ks.map Z0) rfl (hr6.alloc _) ⟨(lT w5 Wr.heap.size es clock (some ⟨cb,co,none⟩) c.l.length).heap.size,0,none⟩ 1 1 [Z0 (c.l,some ⟨cb,co,none⟩,cc)] rfl rfl (gT _ _ 90) (by simp[Value.oneCell',Z0]) (by decide) (by unfold maxLen;omega) (by omega) (by have:=hz6.out;simp;omega) _ rfl ?_;intro g2 cap2 w1 hr1 hg1 hat hlt1;have hD:=hid (HH.out.push (x:=(c.l,some ⟨cb,co,none⟩,cc)) q5 HC.out HNE.out HNK.out hr1 hg1);clear hr1 hg1 hat hlt1)
               |(go_at_call 247;refine(kV (some ⟨cb,co,none⟩) c.l.length cc _ (fun h=>⟨cb,co,rfl⟩)).mono ?_;rintro e w5 ⟨rfl,q5⟩;rw[HKY.out];replace q5:aA wq w5:=(q4.trans (Kp.alloc _ _)).trans q5;have hl5:=had.out w5 q5;have hr6:=Ve (a:=some ⟨cb,co,none⟩) (n:=c.l.length) (es:=es) (clock:=clock) HNK.out (HH.out.quiet q5);have hz6:=hid (show(lT w5 Wr.heap.size es clock (some ⟨cb,co,none⟩) c.l.length).heap.size=w5.heap.size by simp[lT]);have hz5:=q5.size)
               |(go_at_call 247;refine(kV (some ⟨cb,co,none⟩) c.l.length cc w3 (fun h=>⟨cb,co,rfl⟩)).mono ?_;rintro e w4 ⟨rfl,q4⟩;rw[HKY.out];replace q4:=q3.trans q4;have hl4:=hlk.out w4 q4)
               |(go_at_call 217;refine(ib c (some ⟨cb,co,none⟩) cc _).mono ?_;rintro e w3 ⟨rfl,q3⟩;replace q3:aA wq w3:=(Kp.alloc _ _).trans q3))
              refine⟨⟨m+1,ks++[(c.l,some ⟨cb,co,none⟩,cc)],_,_,by omega,by go_num,hD.out, ?_, ?_⟩,by simp[intOf];omega⟩;have h:=HN.out;rw[Rf,SL];simp only;omega;have h:=HN.out;have h2:=HS.out;rw[D7,Li];simp only;omega
           ·have afZ:m=u.length:=(by omega);subst afZ;rw[aZ]at hkm hks;have HH:=gp H hkm hks;subst hbv;clear H hkm hks;go_wp2;refine⟨⟨j+1,ks,es,clock,by omega,by go_num,HH.out.1, ?_, ?_⟩,by simp[intOf];omega⟩;have h:=HH.out.2.1;have h2:=HT.out.1;omega;have h:=HH.out.2.2;have h2:=HT.out.2.1;omega
    ·have af0:j=ls.length:=(by omega);subst af0;rw[aZ]at hkm hks;have hkl:=Lv H.ne;have HH:=jR H hkm hks hkl;subst hbv;clear H hkm hks hkl;go_wp2;refine⟨⟨k+1,ks,by go_num,by omega,gL HH.out.1.row (by omega),HH.out.1.lie, ?_, ?_, ?_,fun _=>HH.out.1.ne,hB.trans (HH.out.1.low.mono hB.size)⟩,by simp[intOf];omega⟩;have h:=HH.out.2.1;have h2:=HX.out.1;omega;have h:=HH.out.2.2;have h2:=HX.out.2.1;omega;have h:=HH.out.2.2;have h2:=HX.out.2.1;omega
  ·have hk':k=than+1:=(by omega);have hnl:¬(k:Int)<(than:Int)+1:=(by omega);have hE:=hid (show decide ((0:Int)<(ls.length:Int))=decide (than+1<Zl l)by
    rw[decide_eq_decide];constructor;intro h;have h1:0<ls.length:=(by omega);have h2:=Ru (aI h1);have h3:=Ou (hne (by omega) _ (aI h1));omega
    ·intro h;cases ls with
     |nil=>rw[WL]at hmx;omega
     |cons x ls=>simp)
   have hlen:ls.length<=20001:=hll;subst hlv;clear hmx hk' hne hL hss hr;go_wp2;go_ret;exact⟨by rw[<-hE.out];simp,gV hB⟩
def YC(w:World)(ts:List Pl):Prop:=∀x∈ts,Fo (thw w) x.1 x.2.1
structure DZ(W Wr:World)(bl:Value)(ks:List Pl)(es:Array MapEntry)(clock:Nat)(w:World):Prop where
 row:w.ownsRow (Wr.heap.size+1) 90 1 bl ks.length (ks.map Z0)
 lie:YC W ks
 ne:∀x∈ks,x.1≠[]
 map:w.heap[Wr.heap.size]?=some (.map es clock)
 keys:Kz W es.toList
 low:Below Wr.heap.size Wr w
theorem VF(k:Int):(k=1\/k=2\/k=3\/k=4\/k=5\/k=6\/k=7\/k=8\/k=9\/k=10\/k=11\/k=12\/k=13\/k=14\/k=15\/k=16\/k=17\/k=18\/k=19\/k=20\/k=21)\/
 (k≠1/\k≠2/\k≠3/\k≠4/\k≠5/\k≠6/\k≠7/\k≠8/\k≠9/\k≠10/\k≠11/\k≠12/\k≠13/\k≠14/\k≠15/\k≠16/\k≠17/\k≠18/\k≠19/\k≠20/\k≠21):=by omega
theorem jN(k:Int)(w:World):Calls prog 246 #[.int .i64 k] w fun e w'=>e= .returned (.int .i64 (Y5 k))/\w'=w:=by
 rcases VF k with h|⟨h1,h2,h3,h4,h5,h6,h7,h8,h9,h10,h11,h12,h13,h14,h15,h16,h17,h18,h19,h20,h21⟩
 ·rcases h with rfl|rfl|rfl|rfl|rfl|rfl|rfl|rfl|rfl|rfl|rfl|rfl|rfl|rfl|rfl|rfl|rfl|rfl|rfl|rfl|rfl;all_goals
   go_enter func246,ntmps246;go_wp2;go_ret;exact⟨rfl,rfl⟩
 ·have hE:=hid (show Y5 k= -1 by simp[Y5, *]);go_enter func246,ntmps246;go_wp2;go_ret;exact⟨by rw[hE.out];rfl,rfl⟩
theorem BD(k:Int)(w:World):Calls prog 268 #[.int .i64 k] w fun e w'=>e= .returned (.bool (decide (0<=k/\k<=15)))/\w'=w:=by
 by_cases h:0<=k
 ·go_enter func268,ntmps268;go_wp2;go_ret;exact⟨by simp[h],rfl⟩
 ·have hd:decide (0<=k)=false:=by simpa using h
  go_enter func268,ntmps268;go_wp2;go_ret;exact⟨by simp,rfl⟩
theorem Kw(v:V)(ao:Option Addr)(cap:Nat)(o F:Int)(w:World):Calls prog 248 #[.agg #[.int .i64 v.kind,.int .i64 v.k,.int .i64 v.n,.slice ao v.l.length cap,.int .i64 o,.int .i64 F]] w fun e w'=>e= .returned (.int .i64 (Y7 F v.kind v.k o))/\aA w w':=by
 obtain⟨kind,k,n,l⟩:=v;by_cases h4:kind=4
 ·subst h4;by_cases ha:0<=k
  ·by_cases hb:k<o
   ·have hE:=hid (show Y7 F 4 k o=0 by simp[Y7,ha,hb]);go_enter func248,ntmps248;go_wp2;go_ret;exact⟨by rw[hE.out];rfl,Kp.alloc _ _⟩
   ·have hd:decide (k<o)=false:=(by simpa using hb);have hE:=hid (show Y7 F 4 k o=1 by simp[Y7,hb]);go_enter func248,ntmps248;go_wp2;go_ret;exact⟨by rw[hE.out];rfl,Kp.alloc _ _⟩
  ·have hd:decide (0<=k)=false:=(by simpa using ha);have hE:=hid (show Y7 F 4 k o=1 by simp[Y7,ha]);go_enter func248,ntmps248;go_wp2;go_ret;exact⟨by rw[hE.out];rfl,Kp.alloc _ _⟩
 by_cases h6:kind=6
 ·subst h6;by_cases ha:1<=k
  ·by_cases hb:k<=5
   ·have hE:=hid (show Y7 F 6 k o=0 by simp[Y7,ha,hb]);go_enter func248,ntmps248;go_wp2;go_ret;exact⟨by rw[hE.out];rfl,Kp.alloc _ _⟩
   ·have hd:decide (k<=5)=false:=(by simpa using hb);have hE:=hid (show Y7 F 6 k o=1 by simp[Y7,hb]);go_enter func248,ntmps248;go_wp2;go_ret;exact⟨by rw[hE.out];rfl,Kp.alloc _ _⟩
  ·have hd:decide (1<=k)=false:=(by simpa using ha);have hE:=hid (show Y7 F 6 k o=1 by simp[Y7,ha]);go_enter func248,ntmps248;go_wp2;go_ret;exact⟨by rw[hE.out];rfl,Kp.alloc _ _⟩
 by_cases h15:kind=15
 ·subst h15;cases hr:decide (0<=k/\k<=15)with
  |true=>
   have hE:=hid (show Y7 F 15 k o=0 by simp[Y7];simpa using hr);go_enter func248,ntmps248;go_wp2_with (go_at_call 268;refine(BD k _).mono ?_;rintro e w2 ⟨rfl,rfl⟩;rw[hr]);go_ret;exact⟨by rw[hE.out];rfl,Kp.alloc _ _⟩
  |false=>
   have hE:=hid (show Y7 F 15 k o=1 by have:¬(0<=k/\k<=15):=(by simpa using hr);simp only[Y7];rw[af (by decide),af (by decide),ag trivial,af this]);go_enter func248,ntmps248;go_wp2_with (go_at_call 268;refine(BD k _).mono ?_;rintro e w2 ⟨rfl,rfl⟩;rw[hr]);go_ret;exact⟨by rw[hE.out];rfl,Kp.alloc _ _⟩
 by_cases h18:kind=18
 ·subst h18;by_cases ha:0<=k
  ·by_cases hb:k<F
   ·have hE:=hid (show Y7 F 18 k o=0 by simp[Y7,ha,hb]);go_enter func248,ntmps248;go_wp2;go_ret;exact⟨by rw[hE.out];rfl,Kp.alloc _ _⟩
   ·have hd:decide (k<F)=false:=(by simpa using hb);have hE:=hid (show Y7 F 18 k o=1 by simp[Y7,hb]);go_enter func248,ntmps248;go_wp2;go_ret;exact⟨by rw[hE.out];rfl,Kp.alloc _ _⟩
  ·have hd:decide (0<=k)=false:=(by simpa using ha);have hE:=hid (show Y7 F 18 k o=1 by simp[Y7,ha]);go_enter func248,ntmps248;go_wp2;go_ret;exact⟨by rw[hE.out];rfl,Kp.alloc _ _⟩
 by_cases ha:k=0
 ·subst ha;have hE:=hid (show Y7 F kind 0 o=0 by simp[Y7, *]);go_enter func248,ntmps248;go_wp2;go_ret;exact⟨by rw[hE.out];rfl,Kp.alloc _ _⟩
 ·have hE:=hid (show Y7 F kind k o=5 by simp[Y7, *]);have hd:decide (k=0)=false:=by simpa using ha
  have hd2:(k==0)=false:=by simpa using ha
  go_enter func248,ntmps248;go_wp2;go_ret;exact⟨by rw[hE.out];rfl,Kp.alloc _ _⟩
