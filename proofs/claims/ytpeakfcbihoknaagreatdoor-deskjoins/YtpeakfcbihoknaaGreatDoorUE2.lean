/- Parts. -/
import Derived.Test.YtpeakfcbihoknaaGreatDoorUE1
open Go.ChangeShapes Go.WideShapes Go.ChangeAt Go.RowKit
set_option maxRecDepth 8000
set_option maxHeartbeats 8000000
namespace Go.Proofs.YtpeakfcbihoknaaGreatDoor
open Proofs.Tryz
namespace Ex
theorem xR(v:V)(ao:Option Addr)(cap:Nat)(o F:Int)(w:World):Calls prog 222 #[.agg #[.int .i64 v.kind,.int .i64 v.k,.int .i64 v.n,.slice ao v.l.length cap,.int .i64 o,.int .i64 F]] w fun e w'=>e= .returned (.int .i64 (YW F v o))/\aA w w':=by
 have q1:aA w (w.alloc (.cells #[.int .i64 v.kind,.int .i64 v.k,.int .i64 v.n,.slice ao v.l.length cap,.int .i64 o,.int .i64 F] 301)):=Kp.alloc _ _;have HK:=hid (Kw v ao cap o F);by_cases h1:Y5 v.kind<0
 ·have hE:=hid (show YW F v o=2 by simp[YW,h1]);go_enter func222,ntmps222;go_wp2_with (go_at_call 246;refine(jN _ _).mono ?_;rintro e w2 ⟨rfl,rfl⟩);go_ret;exact⟨by rw[hE.out];rfl,q1⟩
 by_cases h2:¬(v.l.length:Int)=Y5 v.kind
 ·have hE:=hid (show YW F v o=5 by simp[YW,h1,h2]);have hd:decide ((v.l.length:Int)=Y5 v.kind)=false:=by simpa using h2
  have hd1:((v.l.length:Int)==Y5 v.kind)=false:=by simpa using h2
  have hd2:((v.l.length:Int) !=Y5 v.kind)=true:=by simpa using h2
  go_enter func222,ntmps222;go_wp2_with (go_at_call 246;refine(jN _ _).mono ?_;rintro e w2 ⟨rfl,rfl⟩);go_ret;exact⟨by rw[hE.out];rfl,q1⟩
 have h2:(v.l.length:Int)=Y5 v.kind:=Decidable.not_not.1 h2;have g1:decide ((v.l.length:Int)=Y5 v.kind)=true:=by simpa using h2
 have g2:((v.l.length:Int)==Y5 v.kind)=true:=by simpa using h2
 have g3:((v.l.length:Int) !=Y5 v.kind)=false:=by simpa using h2
 have H2:=hid h2;clear h2;have hfl:YW F v o=if v.n≠0/\v.kind≠2 then 5 else if Y7 F v.kind v.k o≠0 then Y7 F v.kind v.k o else if v.kind=5/\12<=o then 3 else 0:=by
  unfold YW;rw[af h1,af (by rw[H2.out];simp)]
 obtain⟨fk,hfk⟩:∃fk,fk=Y7 F v.kind v.k o:=⟨_,rfl⟩;rw[<-hfk]at hfl;have hK:=hid hfk.symm;clear hfk;have HF:=hid hfl;clear hfl;by_cases h3:v.n≠0/\v.kind≠2
 ·obtain⟨h3,h4⟩:=h3;have hE:=hid (show YW F v o=5 by rw[HF.out,ag ⟨h3,h4⟩]);have b1:(v.n !=0)=true:=by simpa using h3
  have b2:(v.kind !=2)=true:=by simpa using h4
  go_enter func222,ntmps222;go_wp2_with (go_at_call 246;refine(jN _ _).mono ?_;rintro e w2 ⟨rfl,rfl⟩);go_ret;exact⟨by rw[hE.out];rfl,q1⟩
 have HF2:=hid (HF.out.trans (af h3));clear HF;by_cases h4:fk=0
 ·subst h4;by_cases h5:v.kind=5
  ·have h6:v.n=0:=by
    by_cases h:v.n=0;exact h;exact absurd ⟨h,by omega⟩ h3
   by_cases h7:12<=o
   ·have hE:=hid (show YW F v o=3 by rw[HF2.out];simp[h5,h7]);obtain⟨kind,k,n,l⟩:=v;simp only at h5 h6;subst h5 h6;clear h3;go_enter func222,ntmps222;go_wp2_with (first|(go_at_call 248;refine(HK.out _).mono ?_;rintro e w3 ⟨rfl,q3⟩;rw[hK.out];have c0:w3.cell? ⟨w.heap.size,0,none⟩=some (.int .i64 5):=q3.cell (by simp) (fun e=>e);have c4:w3.cell? ⟨w.heap.size,4,none⟩=some (.int .i64 o):=q3.cell (by simp) (fun e=>e))|(go_at_call 246;refine(jN _ _).mono ?_;rintro e w2 ⟨rfl,rfl⟩));go_ret;exact⟨by rw[hE.out]<;>rfl,q1.trans q3⟩
   ·have hd:decide (12<=o)=false:=(by simpa using h7);have hE:=hid (show YW F v o=0 by rw[HF2.out];simp[h7]);obtain⟨kind,k,n,l⟩:=v;simp only at h5 h6;subst h5 h6;clear h3;go_enter func222,ntmps222;go_wp2_with (first|(go_at_call 248;refine(HK.out _).mono ?_;rintro e w3 ⟨rfl,q3⟩;rw[hK.out];have c0:w3.cell? ⟨w.heap.size,0,none⟩=some (.int .i64 5):=q3.cell (by simp) (fun e=>e);have c4:w3.cell? ⟨w.heap.size,4,none⟩=some (.int .i64 o):=q3.cell (by simp) (fun e=>e))|(go_at_call 246;refine(jN _ _).mono ?_;rintro e w2 ⟨rfl,rfl⟩));go_ret;exact⟨by rw[hE.out]<;>rfl,q1.trans q3⟩
  ·have hE:=hid (show YW F v o=0 by rw[HF2.out];simp[h5]);have b5:(v.kind==5)=false:=(by simpa using h5);have b6:decide (v.kind=5)=false:=(by simpa using h5);by_cases h6:v.n=0
   ·obtain⟨kind,k,n,l⟩:=v;simp only at h6 b5 b6 h5;subst h6;clear h3 HF2;simp only at*;go_enter func222,ntmps222;go_wp2_with (first|(go_at_call 248;refine(HK.out _).mono ?_;rintro e w3 ⟨rfl,q3⟩;rw[hK.out];have c0:w3.cell? ⟨w.heap.size,0,none⟩=some (.int .i64 kind):=q3.cell (by simp) (fun e=>e);have c4:w3.cell? ⟨w.heap.size,4,none⟩=some (.int .i64 o):=q3.cell (by simp) (fun e=>e))|(go_at_call 246;refine(jN _ _).mono ?_;rintro e w2 ⟨rfl,rfl⟩));go_ret;exact⟨by rw[hE.out]<;>rfl,q1.trans q3⟩
   ·have h8:v.kind=2:=by
     by_cases h:v.kind=2;exact h;exact absurd ⟨h6,h⟩ h3
    obtain⟨kind,k,n,l⟩:=v;simp only at h8;subst h8;clear h3 h5;have b1:(n !=0)=true:=(by simpa using h6);go_enter func222,ntmps222;go_wp2_with (first|(go_at_call 248;refine(HK.out _).mono ?_;rintro e w3 ⟨rfl,q3⟩;rw[hK.out];have c0:w3.cell? ⟨w.heap.size,0,none⟩=some (.int .i64 2):=q3.cell (by simp) (fun e=>e);have c4:w3.cell? ⟨w.heap.size,4,none⟩=some (.int .i64 o):=q3.cell (by simp) (fun e=>e))|(go_at_call 246;refine(jN _ _).mono ?_;rintro e w2 ⟨rfl,rfl⟩));go_ret;exact⟨by rw[hE.out]<;>rfl,q1.trans q3⟩
 ·have hE:=hid (show YW F v o=fk by rw[HF2.out,ag h4]);have b4:(fk !=0)=true:=by simpa using h4
  by_cases h6:v.n=0
  ·obtain⟨kind,k,n,l⟩:=v;simp only at h6;subst h6;clear h3 HF2;simp only at*;go_enter func222,ntmps222;go_wp2_with (first|(go_at_call 248;refine(HK.out _).mono ?_;rintro e w3 ⟨rfl,q3⟩;rw[hK.out];have c0:w3.cell? ⟨w.heap.size,0,none⟩=some (.int .i64 kind):=q3.cell (by simp) (fun e=>e);have c4:w3.cell? ⟨w.heap.size,4,none⟩=some (.int .i64 o):=q3.cell (by simp) (fun e=>e))|(go_at_call 246;refine(jN _ _).mono ?_;rintro e w2 ⟨rfl,rfl⟩));go_ret;exact⟨by rw[hE.out]<;>rfl,q1.trans q3⟩
  ·have h8:v.kind=2:=by
    by_cases h:v.kind=2;exact h;exact absurd ⟨h6,h⟩ h3
   obtain⟨kind,k,n,l⟩:=v;simp only at h8;subst h8;clear h3;have b1:(n !=0)=true:=(by simpa using h6);go_enter func222,ntmps222;go_wp2_with (first|(go_at_call 248;refine(HK.out _).mono ?_;rintro e w3 ⟨rfl,q3⟩;rw[hK.out];have c0:w3.cell? ⟨w.heap.size,0,none⟩=some (.int .i64 2):=q3.cell (by simp) (fun e=>e);have c4:w3.cell? ⟨w.heap.size,4,none⟩=some (.int .i64 o):=q3.cell (by simp) (fun e=>e))|(go_at_call 246;refine(jN _ _).mono ?_;rintro e w2 ⟨rfl,rfl⟩));go_ret;exact⟨by rw[hE.out]<;>rfl,q1.trans q3⟩
abbrev Pc:=V×Int×Option Addr×Nat
def six(F:Int)(p:Pc):List Value:=[.int .i64 p.1.kind,.int .i64 p.1.k,.int .i64 p.1.n,.slice p.2.2.1 p.1.l.length p.2.2.2,.int .i64 p.2.1,.int .i64 F]
def nZ(F:Int)(ps:List Pc):List Value:=ps.flatMap (six F)
theorem Tt(F:Int)(ps:List Pc):(nZ F ps).length=ps.length*6:=by
 induction ps with
 |nil=>rfl
 |cons p ps ih=>simp only[nZ,cB,ak]at ih|-;rw[ih];simp[six];omega
theorem Ay(F:Int)(a b:List Pc):nZ F (a++b)=nZ F a++nZ F b:=by simp[nZ]
theorem wZ(F:Int)(p:Pc):nZ F [p]=six F p:=by simp[nZ]
theorem UN(F:Int)(ps:List Pc)(k j:Nat)(hk:k<ps.length)(hj:j<6):(nZ F ps)[k*6+j]?=(six F ps[k])[j]?:=by
 induction ps generalizing k with
 |nil=>simp at hk
 |cons e es ih=>
  cases k with
  |zero=>simp only[nZ,cB];rw[dP (by simp[six];omega)];simp
  |succ k=>
   simp only[nZ,cB];rw[bX (by simp[six];omega)];have:=ih k (by simpa using hk);simp only[nZ]at this;rw[show(k+1)*6+j-(six F e).length=k*6+j by simp[six];omega,this];simp
theorem zu(F:Int)(p:Pc):∀u∈six F p,u.oneCell'=true:=by
 intro u hu;simp only[six,aU,dN,or_false]at hu;rcases hu with rfl|rfl|rfl|rfl|rfl|rfl<;>rfl
theorem sU:(prog.info? 301).map (fun i=>(i.zero,i.size,i.bytes))=some (some (.agg #[.int .i64 0,.int .i64 0,.int .i64 0,.slice none 0 0,.int .i64 0,.int .i64 0]),6,64):=by kernel_rfl
theorem mJ:prog.underlying 327=some (.slice 301):=by kernel_rfl
def kids(v:V)(o:Int):List (V×Int):=v.l.mapIdx fun i x=>(x,opens v.kind o i)
theorem xB(v:V)(o:Int):(kids v o).length=v.l.length:=by simp[kids]
def ji(F:Int):List (V×Int)->Int
 |[]=>0
 |(v,o)::l=>if v.bad F o=0 then ji F l else v.bad F o
theorem Jh(F:Int)(a b:List (V×Int)):ji F (a++b)=if ji F a=0 then ji F b else ji F a:=by
 induction a with
 |nil=>simp[ji]
 |cons x a ih=>
  obtain⟨v,o⟩:=x;by_cases h:v.bad F o=0;simp only[bG,ji,h,if_true];exact ih;simp only[bG,ji,h,if_false]
theorem Pb(F kind:Int)(l:List V)(o:Int):∀i,Z5 F kind l i o=ji F (l.mapIdx fun j x=>(x,opens kind o (i+j))):=by
 induction l with
 |nil=>intro i;simp[GD,ji]
 |cons v l ih=>
  intro i;rw[uU,ih,List.mapIdx_cons];simp only[ji,eD];have e:(fun j x=>(x,opens kind o (i+1+j)))=fun(j:Nat)(x:V)=>(x,opens kind o (i+(j+1))):=by
   funext j x;rw[show i+1+j=i+(j+1)by omega]
  rw[e]
theorem FI(F:Int)(v:V)(o:Int):v.bad F o=if YW F v o=0 then ji F (kids v o)else YW F v o:=by
 rw[Ke,Pb];simp[kids]
theorem JJ(F:Int)(v:V)(o:Int)(l:List (V×Int))(h:YW F v o=0):ji F ((v,o)::l)=ji F (kids v o++l):=by
 rw[Jh,ji,FI,ag h]
theorem FM(F:Int)(v:V)(o:Int)(l:List (V×Int))(h:YW F v o≠0):ji F ((v,o)::l)=YW F v o:=by
 rw[ji,FI,af h,af h]
theorem Gd{F:Int}{v:V}{o:Int}(h:YW F v o=0)(ho:0<=o/\o<=12):∀i,0<=opens v.kind o i/\opens v.kind o i<=12:=by
 intro i;unfold opens;by_cases hk:v.kind=5/\i=1
 ·rw[ag hk];have h2:¬12<=o:=by
   intro h3;unfold YW at h;by_cases h1:Y5 v.kind<0;rw[ag h1]at h;simp at h;rw[af h1]at h;by_cases h4:(v.l.length:Int)≠Y5 v.kind;rw[ag h4]at h;simp at h;rw[af h4]at h;by_cases h5:v.n≠0/\v.kind≠2;rw[ag h5]at h;simp at h;rw[af h5]at h;by_cases h6:Y7 F v.kind v.k o≠0;rw[ag h6]at h;exact h6 h;rw[af h6,ag ⟨hk.1,h3⟩]at h;simp at h
  omega
 ·rw[af hk];exact ho
def vo(p:Pc):V×Int:=(p.1,p.2.1)
def psz(ps:List Pc):Nat:=(ps.map fun p=>p.1.size).sum
theorem zo(a b:List Pc):psz (a++b)=psz a+psz b:=by simp[psz]
theorem DY(p:Pc):psz [p]=p.1.size:=by simp[psz]
theorem UB(ps:List Pc):ps.length<=psz ps:=by
 induction ps with
 |nil=>simp[psz]
 |cons x ts ih=>have:=size_pos x.1;simp[psz]at ih|-;omega
theorem Lr(ps:List Pc):psz ps.reverse=psz ps:=by
 induction ps with
 |nil=>rfl
 |cons x ps ih=>rw[List.reverse_cons,zo,ih,DY];simp[psz];omega
theorem Xa{ps:List Pc}{v:V}{o:Int}(h:ps.map vo=kids v o):psz ps=sizes v.l:=by
 have h1:ps.map (·.1)=v.l:=by
  have h2:=aC (List.map Prod.fst) h;rw[List.map_map]at h2;have h3:(kids v o).map Prod.fst=v.l:=by
   unfold kids;apply List.ext_getElem<;>simp
  rw[h3]at h2;exact h2
 have h2:psz ps=(List.map V.size (ps.map (·.1))).sum:=by simp[psz];rfl
 rw[h2,h1];clear h h1 h2;induction v.l with
 |nil=>simp[YX]
 |cons x l ih=>rw[YV,dz,List.sum_cons,ih]
theorem yx{W wr w1:World}{B n:Nat}{F:Int}{x:Pc}{ts:List Pc}{sv:Value}{g cap:Nat}{o:Obj}(hB:Below B W wr)(hBB:B<=wr.heap.size)(hr:wr.ownsRow B 301 6 sv n (nZ F ts))(hn:n=ts.length)
 (hr1:w1.ownsRow B 301 6 (.slice (some ⟨g,0,none⟩) (n+1) cap) (n+1) (nZ F ts++six F x)) (hg:(wr.alloc o).grownBy w1 sv.ownBlock):
 w1.ownsRow B 301 6 (.slice (some ⟨g,0,none⟩) (n+1) cap) (ts++[x]).length (nZ F (ts++[x]))/\Below B W w1:=by
 subst hn;refine⟨by rw[Ay,wZ];simpa using hr1,hB.trans ?_⟩;refine((cK _ _).alloc hBB o).trans ?_;refine(Kp.grown (F:=fun k=>B<=k) hg fun k _ e=>(hr.lt k e.symm).1).below (by simp;omega) fun k hk=>hk
theorem Jq(v:V)(ao:Option Addr)(cap bc:Nat)(o F c:Int)(w:World)(hc:w.heap[bc]?=some (.cells #[.int .i64 c] 3 (0,0))):
 Calls prog 221 #[.agg #[.int .i64 v.kind,.int .i64 v.k,.int .i64 v.n,.slice ao v.l.length cap,.int .i64 o,.int .i64 F],.pointer (some ⟨bc,0,none⟩)] w fun e w'=>e= .returned (.bool (YW F v o !=0))/\w'.heap[bc]?=some (.cells #[.int .i64 (YW F v o)] 3 (0,0))/\Kp (fun k=>k=bc) w w':=by
 have hlt:=ae hc;go_enter func221,ntmps221;go_wp2_with (go_at_call 222;refine(xR v ao cap o F _).mono ?_;rintro e w2 ⟨rfl,q2⟩;have hb:w2.heap[bc]?=some (.cells #[.int .i64 c] 3 (0,0)):=(((Kp.alloc _ _).trans q2).block bc hlt (fun h=>h)).trans hc;have k0:=cell_of_one hb;have k1:=free_of_one hb);go_ret;refine⟨by simp,one_setCell hb, ?_⟩;exact((((Kp.alloc w _).trans q2).mono fun _ _ h=>h.elim)).trans (Kp.setCell _ _ _ rfl)
theorem TW(v:V)(ao:Option Addr)(cap:Nat)(o F:Int)(W w:World)(hW:Below W.heap.size W w)(hI:Is W v ao)(hl:v.l.length<=20000)(ho:0<=o/\o<=12):
 Calls prog 220 #[.agg #[.int .i64 v.kind,.int .i64 v.k,.int .i64 v.n,.slice ao v.l.length cap,.int .i64 o,.int .i64 F]] w fun e w'=>∃sv,∃ps:List Pc,e= .returned sv/\w'.ownsRow w.heap.size 301 6 sv ps.length (nZ F ps)/\ps.map vo=kids v o/\(∀p∈ps,Is W p.1 p.2.2.1)/\aA w w':=by
 obtain⟨i0,hi,hz0,hz1,hz2⟩:=bM sU;have HI:=hid hI;have hmx:∀j (h:j<v.l.length),(kids v o).take (j+1)=(kids v o).take j++[(v.l[j],opens v.kind o j)]:=fun j h=>by
  rw[iF _ j (by rw[xB];exact h)];simp[kids]
 have HMX:=hid hmx;clear hI hmx;obtain⟨kind,k,n,l⟩:=v;simp only at*;have hb0:=ah w (.cells #[.int .i64 kind,.int .i64 k,.int .i64 n,.slice ao l.length cap,.int .i64 o,.int .i64 F] 301);go_enter func220,ntmps220;go_wp2;go_loopw [3,11] (fun sv i wr=>∃(j:Nat) (ps:List Pc),j<=l.length/\i= .int .i64 j/\wr.ownsRow (w.heap.size+1) 301 6 sv ps.length (nZ F ps)/\ps.map vo=(kids ⟨kind,k,n,l⟩ o).take j/\(∀p∈ps,Is W p.1 p.2.2.1)/\Below (w.heap.size+1) (w.alloc (.cells #[.int .i64 kind,.int .i64 k,.int .i64 n,.slice ao l.length cap,.int .i64 o,.int .i64 F] 301)) wr) (fun _ i _=>l.length-(intOf i).toNat);case atStart=>exact⟨0,[],aP _,rfl,bq _ _ _ _,by simp,fun p hp=>by simp at hp,cK _ _⟩
 case round=>
  rename World=>wq;obtain⟨j,ps,hj,rfl,hr,hm,hps,hB⟩:=hrel;have hsB:=hB.size;rw[World.size_alloc]at hsB;have hpl:ps.length=j:=by
   have:=aC List.length hm;rw[bE,dK,xB]at this;simp only at this;omega
  rw[hpl]at hr;obtain⟨av,cv,hsv⟩:=YU hr;have hbx:=(hB.block w.heap.size (by omega)).trans hb0;have x0:wq.cell? ⟨w.heap.size,0,none⟩=some (.int .i64 kind):=by simp[World.cell?,hbx]
  have x4:wq.cell? ⟨w.heap.size,4,none⟩=some (.int .i64 o):=by simp[World.cell?,hbx]
  have x5:wq.cell? ⟨w.heap.size,5,none⟩=some (.int .i64 F):=by simp[World.cell?,hbx]
  have z2:w.heap.size<wq.heap.size:=by omega
  have HB:=jR hB hm hps hpl;have HR:=hid hr;clear hB hm hps hr hpl hbx hb0;by_cases hlt:j<l.length
  ·have qw:aA w wq:=gV (((cK _ _).alloc (aj _) _).trans (HB.out.1.mono (by omega)));have hWq:Below W.heap.size W wq:=hW.trans (qw.low.mono hW.size);obtain⟨b,off,rfl,dh,ai,ci,ds,hci⟩:=(HI.out.low hWq).fo.get j hlt;obtain⟨_,_,e2,_,ai2,ci2,ds2,aeI⟩:=HI.out.fo.get j hlt;cases e2;obtain rfl:ai2=ai:=by
    have h1:=eZ hWq _ _ ds2;rw[ds]at h1;simp at h1;exact h1.1.symm
   have hmx:=HMX.out j hlt;obtain⟨d0,d9,d1⟩:=dh;simp only at*;generalize hcu:l[j]=c at*;have HC:=bC hmx aeI;subst hsv;clear hcu hmx hci aeI ds2;by_cases hk:kind=5
   ·subst hk;by_cases hj1:j=1
    ·subst hj1;have HO:=hid (show opens 5 o 1=o+1 by simp[opens]);go_wp2_with (at_builtin;refine aX _ rfl (.tmp 28) (.tmp 34) 327 rfl (w.heap.size+1) 301 i0 _ 6 64 mJ hi hz0 hz1 hz2 rfl (by decide) _ 1 (nZ F ps) rfl ((HR.out.alloc _).alloc _) ⟨wq.heap.size+1,0,none⟩ 1 1 (six F (c,o+1,ai2,ci)) rfl rfl (kE (t:=301) (Y2 wq _ _)) (zu _ _) (by decide) (by unfold maxLen;omega) (by omega) (by simp;omega) (wq.heap.size+2) (by simp) ?_;intro g2 cap2 w1 hr1 hg1 hat hlt1;have hS:=hid (yx (x:=(c,o+1,ai2,ci)) (HB.out.1.alloc (by omega) _) (by simp;omega) (HR.out.alloc _) HB.out.2.2.2.symm hr1 hg1);clear hr1 hg1 hat hlt1);refine⟨⟨1+1,ps++[(c,o+1,ai2,ci)],by omega,by go_num,hS.out.1, ?_, ?_,hS.out.2⟩,by simp[intOf];omega⟩;rw[bA,HB.out.2.1,HC.out.1,HO.out];rfl;intro p hp;rcases aK.1 hp with hp|hp;exact HB.out.2.2.1 p hp;simp at hp;subst hp;exact HC.out.2
    ·have hj2:¬(j:Int)=1:=(by omega);have hj3:decide ((j:Int)=1)=false:=(by simp;omega);have hj4:((j:Int)==1)=false:=(by simp;omega);have HO:=hid (show opens 5 o j=o by simp[opens,hj1]);go_wp2_with (at_builtin;refine aX _ rfl (.tmp 28) (.tmp 34) 327 rfl (w.heap.size+1) 301 i0 _ 6 64 mJ hi hz0 hz1 hz2 rfl (by decide) _ j (nZ F ps) rfl ((HR.out.alloc _).alloc _) ⟨wq.heap.size+1,0,none⟩ 1 1 (six F (c,o,ai2,ci)) rfl rfl (kE (t:=301) (Y2 wq _ _)) (zu _ _) (by decide) (by unfold maxLen;omega) (by omega) (by simp;omega) (wq.heap.size+2) (by simp) ?_;intro g2 cap2 w1 hr1 hg1 hat hlt1;have hS:=hid (yx (x:=(c,o,ai2,ci)) (HB.out.1.alloc (by omega) _) (by simp;omega) (HR.out.alloc _) HB.out.2.2.2.symm hr1 hg1);clear hr1 hg1 hat hlt1);refine⟨⟨j+1,ps++[(c,o,ai2,ci)],by omega,by go_num,hS.out.1, ?_, ?_,hS.out.2⟩,by simp[intOf];omega⟩;rw[bA,HB.out.2.1,HC.out.1,HO.out];rfl;intro p hp;rcases aK.1 hp with hp|hp;exact HB.out.2.2.1 p hp;simp at hp;subst hp;exact HC.out.2
   ·have hk3:decide (kind=5)=false:=(by simpa using hk);have hk4:(kind==5)=false:=(by simpa using hk);have HO:=hid (show opens kind o j=o by simp[opens,hk]);go_wp2_with (at_builtin;refine aX _ rfl (.tmp 28) (.tmp 34) 327 rfl (w.heap.size+1) 301 i0 _ 6 64 mJ hi hz0 hz1 hz2 rfl (by decide) _ j (nZ F ps) rfl ((HR.out.alloc _).alloc _) ⟨wq.heap.size+1,0,none⟩ 1 1 (six F (c,o,ai2,ci)) rfl rfl (kE (t:=301) (Y2 wq _ _)) (zu _ _) (by decide) (by unfold maxLen;omega) (by omega) (by simp;omega) (wq.heap.size+2) (by simp) ?_;intro g2 cap2 w1 hr1 hg1 hat hlt1;have hS:=hid (yx (x:=(c,o,ai2,ci)) (HB.out.1.alloc (by omega) _) (by simp;omega) (HR.out.alloc _) HB.out.2.2.2.symm hr1 hg1);clear hr1 hg1 hat hlt1);refine⟨⟨j+1,ps++[(c,o,ai2,ci)],by omega,by go_num,hS.out.1, ?_, ?_,hS.out.2⟩,by simp[intOf];omega⟩;rw[bA,HB.out.2.1,HC.out.1,HO.out];rfl;intro p hp;rcases aK.1 hp with hp|hp;exact HB.out.2.2.1 p hp;simp at hp;subst hp;exact HC.out.2
  ·have hjl:j=l.length:=(by omega);subst hjl;subst hsv;go_wp2;go_ret;refine⟨_,ps,rfl,gL (by rw[HB.out.2.2.2];exact HR.out) (by omega), ?_,HB.out.2.2.1, ?_⟩;have h:=HB.out.2.1;rw[h,cz (by rw[xB];exact aj _)];exact gV (((cK _ _).alloc (aj _) _).trans (HB.out.1.mono (by omega)))
theorem _root_.Go.Proofs.YtpeakfcbihoknaaGreatDoor.Kp.adT{F:Nat->Prop}{a b c:World}(h:Kp F a b)(k:Kp (fun i=>F i\/a.heap.size<=i) b c):Kp F a c:=
 ⟨k.os.trans h.os,k.tape.trans h.tape,k.output.trans h.output,aF h.size k.size,fun i hi hF=>(k.block i (az hi h.size) (fun e=>e.elim hF (by omega))).trans (h.block i hi hF)⟩
structure PS(W E:World)(bc:Nat)(F:Int)(sv:Value)(ts:List Pc)(c:Int)(w:World):Prop where
 row:w.ownsRow E.heap.size 301 6 sv ts.length (nZ F ts)
 lie:∀p∈ts,Is W p.1 p.2.2.1
 opn:∀p∈ts,0<=p.2.1/\p.2.1<=12
 kp:Kp (fun k=>k=bc) E w
 code:w.heap[bc]?=some (.cells #[.int .i64 c] 3 (0,0))
structure PB(W E:World)(bc:Nat):Prop where
 low:Below W.heap.size W E
 wb:W.heap.size<=bc
 lt:bc<E.heap.size
theorem PS.step{W E w w':World}{bc:Nat}{F:Int}{sv:Value}{ts:List Pc}{c c':Int}(B:PB W E bc)(H:PS W E bc F sv ts c w)(q:Kp (fun k=>k=bc) w w')(hc:w'.heap[bc]?=some (.cells #[.int .i64 c'] 3 (0,0))):PS W E bc F sv ts c' w':=
 ⟨q.row H.row fun k e hk=>by have:=(H.row.lt k e).1;have:=B.lt;omega,H.lie,H.opn,H.kp.trans q,hc⟩
theorem PS.quiet{W E w w':World}{bc:Nat}{F:Int}{sv:Value}{ts:List Pc}{c:Int}(B:PB W E bc)(H:PS W E bc F sv ts c w)(q:aA w w'):PS W E bc F sv ts c w':=
 H.step B (q.mono fun _ _ e=>e.elim) ((q.block bc (ae H.code) fun e=>e).trans H.code)
theorem PS.is{W E w:World}{bc:Nat}{F:Int}{sv:Value}{ts:List Pc}{c:Int}(B:PB W E bc)(H:PS W E bc F sv ts c w){v:V}{ao:Option Addr}(h:Is W v ao):Is w v ao:=
 h.low (B.low.trans (H.kp.below B.low.size fun k hk=>by have:=B.wb;omega))
theorem PS.push{W E w w1:World}{bc:Nat}{F:Int}{sv:Value}{ts:List Pc}{c:Int}{x:Pc}{n g cap:Nat}{o:Obj}(B:PB W E bc)(H:PS W E bc F sv ts c w)(hx:Is W x.1 x.2.2.1)(ho:0<=x.2.1/\x.2.1<=12)(hn:n=ts.length)
 (hr1:w1.ownsRow E.heap.size 301 6 (.slice (some ⟨g,0,none⟩) (n+1) cap) (n+1) (nZ F ts++six F x)) (hg:(w.alloc o).grownBy w1 sv.ownBlock):PS W E bc F (.slice (some ⟨g,0,none⟩) (n+1) cap) (ts++[x]) c w1:=by
 subst hn;have hlt:=ae H.code;refine⟨by rw[Ay,wZ];simpa using hr1,fun p hp=> ?_,fun p hp=> ?_, ?_, ?_⟩;rcases aK.1 hp with hp|hp;exact H.lie p hp;simp at hp;subst hp;exact hx;rcases aK.1 hp with hp|hp;exact H.opn p hp;simp at hp;subst hp;exact ho;refine H.kp.adT ((Kp.alloc _ o).trans (Kp.grown hg fun k _ e=> .inr (H.row.lt k e.symm).1));rw[hg.block bc (by simp;omega) (fun e=>by have:=(H.row.lt _ e.symm).1;have:=B.lt;omega),aB _ _ _ hlt];exact H.code
theorem uL{w:World}{g m:Nat}{F:Int}{v:V}{o:Int}{ao:Option Addr}{cap:Nat}(h:∀j,j<6->w.cell? ⟨g,m+j,none⟩=(six F (v,o,ao,cap))[j]?):
 w.cell? ⟨g,m,none⟩=some (.int .i64 v.kind)/\w.cell? ⟨g,m+1,none⟩=some (.int .i64 v.k)/\w.cell? ⟨g,m+2,none⟩=some (.int .i64 v.n)/\w.cell? ⟨g,m+3,none⟩=some (.slice ao v.l.length cap)/\w.cell? ⟨g,m+4,none⟩=some (.int .i64 o)/\w.cell? ⟨g,m+5,none⟩=some (.int .i64 F):=
 ⟨h 0 (by decide),h 1 (by decide),h 2 (by decide),h 3 (by decide),h 4 (by decide),h 5 (by decide)⟩
theorem Yj{w:World}{x:Nat}{a b c d e f:Value}{t:TypeId}(h:w.heap[x]?=some (.cells #[a,b,c,d,e,f] t (0,0))):w.cell? ⟨x,0,none⟩=some a/\w.cell? ⟨x,1,none⟩=some b/\w.cell? ⟨x,2,none⟩=some c/\w.cell? ⟨x,3,none⟩=some d/\w.cell? ⟨x,4,none⟩=some e/\w.cell? ⟨x,5,none⟩=some f:=by
 refine⟨?_, ?_, ?_, ?_, ?_, ?_⟩<;>simp[World.cell?,h]
theorem Kv(F:Int)(v:V)(o:Int):ji F [(v,o)]=v.bad F o:=by
 simp only[ji];by_cases h:v.bad F o=0;rw[ag h,h];rw[af h]
theorem sP{α:Type}(l:List α)(j:Nat)(h:j<l.length):l.reverse.take (j+1)=l.reverse.take j++[l[l.length-1-j]]:=by
 rw[iF l.reverse j (by simpa using h)];simp
theorem JN{W E w w2:World}{bc:Nat}{F:Int}{sv:Value}{ts:List Pc}{c c':Int}{o:Obj}(B:PB W E bc)(H:PS W E bc F sv ts c w)(q:Kp (fun k=>k=bc) (w.alloc o) w2)(hc:w2.heap[bc]?=some (.cells #[.int .i64 c'] 3 (0,0))):PS W E bc F sv ts c' w2/\Below W.heap.size W w2:=by
 have h:=(H.quiet B (Kp.alloc w o)).step B q hc;exact⟨h,B.low.trans (h.kp.below B.low.size fun k hk=>by have:=B.wb;omega)⟩
theorem Ja{w w1:World}{B n m cap cap2 k2 g2:Nat}{a3 av:Option Addr}{cv:Nat}{xs:List Value}{o:Obj}(hr:w.ownsRow B 301 6 (.slice a3 n cap) n xs)(hn:∀k,(Value.slice a3 n cap).ownBlock=some k->(Value.slice av m cv).ownBlock≠some k)
 (hg:(w.alloc o).grownBy w1 (Value.slice av m cv).ownBlock) (hat:(Value.slice av m cv).ownBlock=some g2\/g2=(w.alloc o).heap.size):
 w1.ownsRow B 301 6 (.slice a3 n cap) n xs/\∀k,(Value.slice a3 n cap).ownBlock=some k->(Value.slice (some ⟨g2,0,none⟩) k2 cap2).ownBlock≠some k:=by
 refine⟨?_,fun k e e2=> ?_⟩;refine Kp.row (F:=fun k=>(Value.slice av m cv).ownBlock=some k) (Kp.grown hg fun k _ e=>e.symm) (hr.alloc o) fun k e e2=>hn k e e2;simp only[Value.ownBlock,aT]at e2;subst e2;rcases hat with h|h;exact hn _ e h;have:=(hr.lt _ e).2;rw[World.size_alloc]at h;omega
theorem tQ(v:V)(ao:Option Addr)(cap bc:Nat)(F c:Int)(W w:World)(B:PB W w bc)(hI:Is W v ao)(hS:v.size<=20000)(hc:w.heap[bc]?=some (.cells #[.int .i64 c] 3 (0,0))):
 Calls prog 219 #[.agg #[.int .i64 v.kind,.int .i64 v.k,.int .i64 v.n,.slice ao v.l.length cap,.int .i64 0,.int .i64 F],.func (.func 220) #[] #[],.func (.func 221) #[] #[.pointer (some ⟨bc,0,none⟩)]] w fun e w'=>(∃r,e= .returned (.bool r))/\w'.heap[bc]?=some (.cells #[.int .i64 (v.bad F 0)] 3 (0,0))/\Kp (fun k=>k=bc) w w':=by
 obtain⟨i0,hi,hz0,hz1,hz2⟩:=bM sU;have HB:=hid B;have HI:=hid hI;have hst:=hid (show PS W w bc F (.slice (some ⟨w.heap.size+1,0,none⟩) 1 1) [(v,0,ao,cap)] c ((w.alloc (.cells #[.int .i64 v.kind,.int .i64 v.k,.int .i64 v.n,.slice ao v.l.length cap,.int .i64 0,.int .i64 F] 301)).alloc (.cells #[.int .i64 v.kind,.int .i64 v.k,.int .i64 v.n,.slice ao v.l.length cap,.int .i64 0,.int .i64 F] 301))by
  have q:aA w ((w.alloc (.cells #[.int .i64 v.kind,.int .i64 v.k,.int .i64 v.n,.slice ao v.l.length cap,.int .i64 0,.int .i64 F] 301)).alloc (.cells #[.int .i64 v.kind,.int .i64 v.k,.int .i64 v.n,.slice ao v.l.length cap,.int .i64 0,.int .i64 F] 301)):=(Kp.alloc _ _).trans (Kp.alloc _ _);refine⟨⟨by simp[Tt],.inr ⟨w.heap.size+1,1,_,rfl,by omega,Y2 w _ _,aj _,by decide,by simp,by simp[wZ,six]⟩⟩,fun p hp=> ?_,fun p hp=> ?_,q.mono fun _ _ e=>e.elim,(q.block bc B.lt fun e=>e).trans hc⟩;simp at hp;subst hp;exact hI
  ·simp at hp;subst hp;exact⟨Int.le_refl 0,show(0:Int)<=12 by decide⟩)
 clear hI B hc;go_enter func219,ntmps219;go_wp2;go_loopg [7] v.size (fun gk sv wr=>∃(ts:List Pc) (c:Int),psz ts=gk/\gk<=v.size/\PS W w bc F sv ts c wr/\ji F (ts.map vo).reverse=v.bad F 0/\(ts=[]->c=0));case atStart=>exact⟨[(v,0,ao,cap)],c,DY _,aj _,hst.out,Kv F v 0,fun e=>by simp at e⟩
 case round=>
  rename World=>wr;clear hst;obtain⟨ts,c,hsz,hle,H,hf,hcz⟩:=hrel;rcases eH ts with rfl|⟨ts,⟨u,o,ua,uc⟩,rfl⟩
  ·obtain⟨av,cv,hsv⟩:=YU H.row;have HH:=gp H hf (hcz rfl);subst hsv;clear hsz hle H hf hcz;go_wp2;go_ret;refine⟨⟨_,rfl⟩, ?_,HH.out.1.kp⟩;have h1:=HH.out.2.1;have h2:=HH.out.1.code;have h3:=HH.out.2.2;rw[<-h1,h2,h3];rfl
  ·rw[eO]at hsz H hf;have hr:=H.row;rw[Ay,wZ,ak,aL,bf,bP]at hr;obtain⟨g,cp,hv⟩:=fP hr (by omega);subst hv;obtain⟨hr',hc'⟩:=lU hr rfl;obtain⟨t0,t1,t2,t3,t4,t5⟩:=uL hc';have hui:=H.is HB.out (H.lie (u,o,ua,uc) (by simp));have huW:=H.lie (u,o,ua,uc) (by simp);have huo:=H.opn (u,o,ua,uc) (by simp);simp only at hui huo huW;rw[zo,DY]at hsz;simp only at hsz;have htl:=UB ts;have hus:=size_eq u;have hul:=fG u.l;have hcp:=kQ hr;have abz:u.l.length<=20000:=(by omega);have ach:ts.length<=20000:=(by omega);rw[bA,dz,List.map_nil,List.reverse_append,List.reverse_cons,List.reverse_nil,dm,List.singleton_append]at hf;have HX:=jR hsz hus hle hf;have HH:=hid (show PS W w bc F (.slice (some ⟨g,0,none⟩) ts.length cp) ts c wr from⟨hr',fun p hp=>H.lie p (by simp[hp]),fun p hp=>H.opn p (by simp[hp]),H.kp,H.code⟩);have HU:=bC huW huo;have hcd:=H.code;have hlt:=ae hcd;have HQ:=hid (fun(o':Obj)=>Jq u ua uc bc o F c (wr.alloc o') ((aB wr o' bc hlt).trans hcd));clear hc' hr hsz hle H hr' hui huW huo hcz hf hcd hus;by_cases hfz:YW F u o=0
   ·have hb:(YW F u o !=0)=false:=(by simp[hfz]);have HFZ:=hid hfz;clear hfz;go_wp2_with (first
     |(go_at_call 220;refine(TW u ua uc o F W w2 H2.out.2 HU.out.1 abz HU.out.2).mono ?_;rintro e w3 ⟨sv2,ps,rfl,r3,m3,i3,q3⟩;obtain⟨a3,c3,hs3⟩:=YU r3;subst hs3)
     |(go_at_call 221;refine(HQ.out _).mono ?_;rintro e w2 ⟨rfl,hb2,q2⟩;rw[hb];rw[HFZ.out]at hb2;have hbx:w2.heap[wr.heap.size]?=some (.cells #[.int .i64 u.kind,.int .i64 u.k,.int .i64 u.n,.slice ua u.l.length uc,.int .i64 o,.int .i64 F] 301 (0,0)):=(q2.block _ (by simp) (by show¬wr.heap.size=bc;omega)).trans (ah wr _);obtain⟨y0,y1,y2,y3,y4,y5⟩:=Yj hbx;have H2:=hid (JN HB.out HH.out q2 hb2);clear hbx q2 hb2))
    have hpl:ps.length=u.l.length:=(by have:=aC List.length m3;rwa[bE,xB]at this);rw[hpl];rw[hpl]at r3;have HP:=jR m3 hpl (Xa m3) (Gd HFZ.out HU.out.2);have H3:=hid (H2.out.1.quiet HB.out q3);have HI3:=hid i3;have hn3:∀k,(Value.slice a3 u.l.length c3).ownBlock=some k->(Value.slice (some ⟨g,0,none⟩) ts.length cp).ownBlock≠some k:=by
     intro k e e2;have h1:=(r3.lt k e).1;have h2:=(H2.out.1.row.lt k e2).2;omega
    have HR3:=bC r3 hn3;clear m3 i3 r3 q3 hpl y0 y1 y2 y3 y4 y5 t0 t1 t2 t3 t4 t5 hn3;go_loopw [7,35] (fun sv i w5=>∃(j:Nat),j<=u.l.length/\i= .int .i64 j/\PS W w bc F sv (ts++ps.reverse.take j) 0 w5/\w5.ownsRow w2.heap.size 301 6 (.slice a3 u.l.length c3) u.l.length (nZ F ps)/\∀k,(Value.slice a3 u.l.length c3).ownBlock=some k->sv.ownBlock≠some k) (fun _ i _=>u.l.length-(intOf i).toNat);case atStart=>exact⟨0,aP _,rfl,by simpa using H3.out,HR3.out⟩
    case round=>
     rename World=>wq;clear H3 HR3 HH;obtain⟨j,hj,rfl,H,hr3,hn3⟩:=hrel;have hl3:(ps.reverse.take j).length=j:=(by rw[dK,List.length_reverse,HP.out.2.1];omega);obtain⟨nk,hnk⟩:∃nk,nk=(ts++ps.reverse.take j).length:=⟨_,rfl⟩;have ac8:nk<=40000:=(by rw[hnk,ak,hl3];omega);have rR:=H.row;rw[<-hnk]at rR;obtain⟨av,cv,hsv⟩:=YU rR;have HNK:=hid hnk;clear hnk hl3;by_cases hlt:j<u.l.length
     ·have hidx:(u.l.length:Int)-1-(j:Int)=((u.l.length-1-j:Nat):Int):=(by omega);have hq:u.l.length-1-j<ps.length:=(by rw[HP.out.2.1];omega);obtain⟨g3,e3,d3⟩:=Zc hr3 (by omega);subst e3;obtain⟨x,xo,xa,xc,hx⟩:∃x xo xa xc,ps[u.l.length-1-j]=(x,xo,xa,xc):=⟨_,_,_,_,rfl⟩;have hcells:∀k,k<6->wq.cell? ⟨g3,(u.l.length-1-j)*6+k,none⟩=(six F (x,xo,xa,xc))[k]?:=fun k hk=>by
            rw[d3 _ (by omega),UN F ps _ k hq hk,hx]
      obtain⟨t0,t1,t2,t3,t4,t5⟩:=uL hcells;have hmem:(x,xo,xa,xc)∈ps:=hx▸aI hq;have hxo:0<=xo/\xo<=12:=by
            have h1:ps[u.l.length-1-j]∈ps:=aI hq;have h2:(ps.map vo)[u.l.length-1-j]'(by simpa using hq)=(x,xo):=(by rw[List.getElem_map,hx];rfl);have h3:=HP.out.1;simp only[h3]at h2;have h4:xo=opens u.kind o (u.l.length-1-j):=by
             have:=aC Prod.snd h2;simp only[kids,List.getElem_mapIdx]at this;exact this.symm
            rw[h4];exact HP.out.2.2.2 _
      have HN:=hid (show ps.reverse.take (j+1)=ps.reverse.take j++[(x,xo,xa,xc)]by
            rw[sP ps j (by rw[HP.out.2.1];exact hlt),<-hx];simp only[HP.out.2.1])
      have HXX:=bC (HI3.out _ hmem) hxo;have HH:=gp H hr3 hn3;have HRK:=hid rR;have hsz:=ae H.code;have hsE:=H.kp.size;subst hsv;clear hcells hmem hxo hx hq d3 H hr3 hn3 rR;go_wp2_with (at_builtin;refine aX _ rfl (.tmp 38) (.tmp 47) 327 rfl w.heap.size 301 i0 _ 6 64 mJ hi hz0 hz1 hz2 rfl (by decide) _ nk (nZ F (ts++ps.reverse.take j)) rfl (HRK.out.alloc _) ⟨wq.heap.size,0,none⟩ 1 1 (six F (x,xo,xa,xc)) rfl rfl (gT wq _ 301) (zu _ _) (by decide) (by unfold maxLen;omega) (by omega) (by simp;omega) _ rfl ?_;intro g2 cap2 w1 hr1 hg1 hat hlt1;have hD:=hid (HH.out.1.push HB.out (x:=(x,xo,xa,xc)) HXX.out.1 HXX.out.2 HNK.out hr1 hg1);have hI:=hid (Ja (k2:=nk+1) (cap2:=cap2) HH.out.2.1 HH.out.2.2 hg1 hat);clear hr1 hg1 hat hlt1);exact⟨⟨j+1,by omega,by go_num,by rw[HN.out,<-aV];exact hD.out,hI.out.1,hI.out.2⟩,by simp[intOf];omega⟩
     ·have hjl:j=u.l.length:=(by omega);subst hjl;have HH:=hid H;subst hsv;clear H hr3 hn3 rR;have hpr:ps.reverse.take u.l.length=ps.reverse:=cz (by rw[List.length_reverse,HP.out.2.1];exact aj _);rw[hpr]at HH;go_wp2;go_roundg (psz (ts++ps.reverse));case measure=>
            have h2:=HP.out.2.2.1;have h3:=HX.out;rw[zo,Lr];omega
      case rel=>
            refine⟨ts++ps.reverse,0,rfl, ?_,HH.out, ?_,fun _=>rfl⟩;have h2:=HP.out.2.2.1;have h3:=HX.out;rw[zo,Lr];omega;have h1:=HX.out.2.2.2;rw[bA,List.reverse_append,List.map_reverse,List.reverse_reverse,HP.out.1,<-h1];exact(JJ F u o _ HFZ.out).symm
   ·have hb:(YW F u o !=0)=true:=(by simp[hfz]);have hE:=hid (show v.bad F 0=YW F u o by have h:=HX.out.2.2.2;rw[<-h];exact FM F u o _ hfz);go_wp2_with (go_at_call 221;refine(HQ.out _).mono ?_;rintro e w2 ⟨rfl,hb2,q2⟩;rw[hb]);go_ret;refine⟨⟨_,rfl⟩,by rw[hE.out];exact hb2,HH.out.kp.adT ?_⟩;exact(Kp.alloc _ _).trans (q2.mono fun _ _ e=> .inl e)
theorem QX{w:World}{b:Nat}{v:V}{ao:Option Addr}{cap:Nat}(h:w.heap[b]?=some (.cells #[.int .i64 v.kind,.int .i64 v.k,.int .i64 v.n,.slice ao v.l.length cap] 129 (0,0))):v.head w b 0/\w.cell? ⟨b,0+3,none⟩=some (.slice ao v.l.length cap):=by
 obtain⟨h0,h1,h2,h3⟩:=aM h;exact⟨⟨h0,h1,h2⟩,h3⟩
theorem uK{w:World}{b:Nat}{v:V}{ao:Option Addr}{cap:Nat}(h:w.heap[b]?=some (.cells #[.int .i64 v.kind,.int .i64 v.k,.int .i64 v.n,.slice ao v.l.length cap] 129 (0,0)))(hI:Is w v ao):Fo w [v] (some ⟨b,0,none⟩):=by
 intro i hi;obtain rfl:i=0:=by simp at hi;omega
 refine⟨b,0,rfl, ?_⟩;have:=QX h;exact(Zt _ _ _ _).2 ⟨this.1,ao,cap,this.2,hI⟩
theorem Is.aaN{w w':World}{v:V}{ao:Option Addr}(h:Is (cln w) v ao)(q:aA w w'):Is (cln w') v ao:=h.kept (Cq q)
theorem Fo.aaN{w w':World}{l:List V}{ao:Option Addr}(h:Fo (cln w) l ao)(q:aA w w'):Fo (cln w') l ao:=h.kept (Cq q)
theorem Hf(v:V)(ao:Option Addr)(cap:Nat)(F:Int)(w:World)(hI:Is (cln w) v ao)(hS:v.size<=20000):
 Calls prog 188 #[.agg #[.int .i64 v.kind,.int .i64 v.k,.int .i64 v.n,.slice ao v.l.length cap],.int .i64 F] w fun e w'=>e= .returned (.int .i64 (pK F v))/\aA w w':=by
 have q2:aA w ((w.alloc (.cells #[.int .i64 v.kind,.int .i64 v.k,.int .i64 v.n,.slice ao v.l.length cap] 129)).alloc (.cells #[.int .i64 v.kind,.int .i64 v.k,.int .i64 v.n,.slice ao v.l.length cap] 129)):=(Kp.alloc _ _).trans (Kp.alloc _ _);have hF2:Fo (cln ((w.alloc (.cells #[.int .i64 v.kind,.int .i64 v.k,.int .i64 v.n,.slice ao v.l.length cap] 129)).alloc (.cells #[.int .i64 v.kind,.int .i64 v.k,.int .i64 v.n,.slice ao v.l.length cap] 129))) [v] (some ⟨w.heap.size+1,0,none⟩):=uK (xA (Y2 w _ _)) (hI.aaN q2);have hb0:((w.alloc (.cells #[.int .i64 v.kind,.int .i64 v.k,.int .i64 v.n,.slice ao v.l.length cap] 129)).alloc (.cells #[.int .i64 v.kind,.int .i64 v.k,.int .i64 v.n,.slice ao v.l.length cap] 129)).heap[w.heap.size]?=some (.cells #[.int .i64 v.kind,.int .i64 v.k,.int .i64 v.n,.slice ao v.l.length cap] 129 (0,0)):=by
  rw[aB _ _ _ (by simp)];exact ah w _
 have HD:=hid (IQ [v] (some ⟨w.heap.size+1,0,none⟩) 1 30 _ hF2 (by rw[ky];exact hS) (by decide));have HM:=hid (fun w3 (q:aA ((w.alloc (.cells #[.int .i64 v.kind,.int .i64 v.k,.int .i64 v.n,.slice ao v.l.length cap] 129)).alloc (.cells #[.int .i64 v.kind,.int .i64 v.k,.int .i64 v.n,.slice ao v.l.length cap] 129)) w3)=>wU [v] (some ⟨w.heap.size+1,0,none⟩) 1 120 w3 (hF2.unclean.quiet q) (by rw[ky];exact hS) (by decide));have HBX:=hid (fun w3 (q:aA ((w.alloc (.cells #[.int .i64 v.kind,.int .i64 v.k,.int .i64 v.n,.slice ao v.l.length cap] 129)).alloc (.cells #[.int .i64 v.kind,.int .i64 v.k,.int .i64 v.n,.slice ao v.l.length cap] 129)) w3)=>aM ((q.block _ (ae hb0) fun e=>e).trans hb0));rw[aJ]at HD HM;rw[ky]at HM;rw[LX]at HD;clear hF2 hb0;have HI:=hid hI.unclean;clear hI;by_cases h1:30<v.deep
 ·have hE:=hid (show pK F v=4 by unfold pK;rw[ag h1]);have hd:=hid (show decide (30+1<1+v.deep)=true by simp;omega);clear h1;go_enter func188,ntmps188;go_wp2_with (go_at_call 216;refine HD.out.mono ?_;rintro e w3 ⟨rfl,q3⟩;rw[hd.out]);go_ret;exact⟨by rw[hE.out];rfl,q2.trans q3⟩
 ·have hd:=hid (show decide (30+1<1+v.deep)=false by simp;omega);by_cases h2:120<v.size
  ·have hE:=hid (show pK F v=3 by unfold pK;rw[af h1,ag h2]);have hm:=hid (show decide (120<v.size)=true by simpa using h2);clear h1 h2;go_enter func188,ntmps188;go_wp2_with (first
    |(go_at_call 218;refine(HM.out w3 q3).mono ?_;rintro e w4 ⟨rfl,q4⟩;rw[hm.out])
    |(go_at_call 216;refine HD.out.mono ?_;rintro e w3 ⟨rfl,q3⟩;rw[hd.out]))
   go_ret;exact⟨by rw[hE.out];rfl,q2.trans (q3.trans q4)⟩
  ·have hE:=hid (show pK F v=v.bad F 0 by unfold pK;rw[af h1,af h2]);have hm:=hid (show decide (120<v.size)=false by simpa using h2);clear h1 h2;go_enter func188,ntmps188;go_wp2_with (first
    |(go_at_call 219;refine(tQ v ao cap w4.heap.size F 0 w (w4.alloc (.cells #[.int .i64 0] 3)) ⟨(q24.trans (Kp.alloc _ _)).low,q24.size,(by simp)⟩ HI.out hS (ah w4 _)).mono ?_;rintro e w5 ⟨⟨r,rfl⟩,hb5,q5⟩;have c5:=cell_of_one hb5)
    |(go_at_call 218;refine(HM.out w3 q3).mono ?_;rintro e w4 ⟨rfl,q4⟩;rw[hm.out];have q24:=q2.trans (q3.trans q4);obtain⟨y0,y1,y2,y3⟩:=HBX.out w4 (q3.trans q4);have z4:w.heap.size<w4.heap.size:=(by have:=(q3.trans q4).size;simp at this;omega))
    |(go_at_call 216;refine HD.out.mono ?_;rintro e w3 ⟨rfl,q3⟩;rw[hd.out]))
   go_ret;refine⟨by rw[hE.out];rfl, ?_⟩;exact q24.fresh (((Kp.alloc _ _).trans q5).mono fun k _ e=>by have:=q24.size;omega)
theorem Oi(F:Int)(l:List V)(j:Nat)(h:j<l.length)(h0:pK F l[j]=0):ZR F (l.drop j) j=ZR F (l.drop (j+1)) (j+1):=by
 rw[bO h,ZR,ag h0]
theorem Oz(F:Int)(l:List V)(j:Nat)(h:j<l.length)(h0:pK F l[j]≠0):ZR F (l.drop j) j=(pK F l[j],(j:Int)):=by
 rw[bO h,ZR,af h0]
theorem Po(F:Int)(l:List V):ZR F (l.drop l.length) l.length=(0,0):=by rw[List.drop_length,ZR]
theorem pQ{w:World}{x:Nat}{a b:Value}{t:TypeId}(h:w.heap[x]?=some (.cells #[a,b] t (0,0))):w.cell? ⟨x,0,none⟩=some a/\w.cell? ⟨x,1,none⟩=some b/\w.frozen? ⟨x,0,none⟩=false/\w.frozen? ⟨x,1,none⟩=false:=
 ⟨by simp[World.cell?,h],by simp[World.cell?,h],aG w x 0 _ t h,aG w x 1 _ t h⟩
theorem zT{w:World}{x:Nat}{a:Value}{t:TypeId}(h:w.heap[x]?=some (.cells #[a] t (0,0))):w.cell? ⟨x,0,none⟩=some a:=by simp[World.cell?,h]
theorem fQ(l:List V)(ao:Option Addr)(cap:Nat)(w:World)(hF:Fo (cln w) l ao)(hS:sizes l<=20000):
 Calls prog 170 #[.agg #[.slice ao l.length cap]] w fun e w'=>e= .returned (.agg #[.int .i64 (Y6 l).1,.int .i64 (Y6 l).2])/\aA w w':=by
 have q2:aA w ((w.alloc (.cells #[.slice ao l.length cap] 92)).alloc (.cells #[.int .i64 0,.int .i64 0] 31)):=(Kp.alloc _ _).trans (Kp.alloc _ _);have hb0:((w.alloc (.cells #[.slice ao l.length cap] 92)).alloc (.cells #[.int .i64 0,.int .i64 0] 31)).heap[w.heap.size]?=some (.cells #[.slice ao l.length cap] 92 (0,0)):=by
  rw[aB _ _ _ (by simp)];exact ah w _
 have hb1:=Y2 w (.cells #[.slice ao l.length cap] 92) (.cells #[.int .i64 0,.int .i64 0] 31);have hll:=fG l;have hl5:l.length<=20000:=by omega
 by_cases h1:l.length<1
 ·have hE:=hid (show Y6 l=(3, -1)by unfold Y6;rw[ag (.inl h1)]);have hl0:l.length=0:=by omega
  have h1':(l.length:Int)<1:=by omega
  clear h1 hl0;go_enter func170,ntmps170;go_wp2;refine au (v:= .agg #[.int .i64 3,.int .i64 (-1)]) (by simp[results,results170,go_sem]) rfl ?_;exact⟨by rw[hE.out],(Kp.alloc _ _).trans (Kp.alloc _ _)⟩
 have h1':¬(l.length:Int)<1:=by omega
 by_cases h2:6<l.length
 ·have hE:=hid (show Y6 l=(3, -1)by unfold Y6;rw[ag (.inr h2)]);have h2':(6:Int)<(l.length:Int):=by omega
  clear h1 h2;go_enter func170,ntmps170;go_wp2;refine au (v:= .agg #[.int .i64 3,.int .i64 (-1)]) (by simp[results,results170,go_sem]) rfl ?_;exact⟨by rw[hE.out],(Kp.alloc _ _).trans (Kp.alloc _ _)⟩
 have h2':¬(6:Int)<(l.length:Int):=by omega
 have HE:=hid (show Y6 l=ZR (l.length:Int) l 0 by unfold Y6;rw[af (by omega)]);have HF:=hid hF;have HB:=gp hb0 hb1 q2;clear hF hb0 hb1 q2 h1 h2;go_enter func170,ntmps170;go_wp2;go_loopw [20] (fun i wr=>∃j:Nat,j<=l.length/\i= .int .i64 j/\ZR (l.length:Int) l 0=ZR (l.length:Int) (l.drop j) j/\aA ((w.alloc (.cells #[.slice ao l.length cap] 92)).alloc (.cells #[.int .i64 0,.int .i64 0] 31)) wr) (fun i _=>l.length-(intOf i).toNat);case atStart=>exact⟨0,aP _,rfl,rfl,Kp.refl _ _⟩
 case round=>
  rename World=>wq;obtain⟨j,hj,rfl,hf,q⟩:=hrel;have x0:=zT ((q.block _ (ae HB.out.1) fun e=>e).trans HB.out.1);have hbf:=(q.block _ (ae HB.out.2.1) fun e=>e).trans HB.out.2.1;have hsz:=q.size;have z1:w.heap.size<wq.heap.size:=by simp at hsz;omega
  have z2:w.heap.size+1<wq.heap.size:=by simp at hsz;omega
  have HQ:=bC q hf;clear q hf hsz;by_cases hlt:j<l.length
  ·have hFq:=HF.out.aaN (HB.out.2.2.trans HQ.out.1);obtain⟨b,off,rfl,dh,ai,ci,ds,hci⟩:=hFq.get j hlt;obtain⟨d0,d9,d1⟩:=gq (fun a x hc=>(nC hc).1) dh;have dsk:=(nC ds).1;have HN:=bC (Oi (l.length:Int) l j hlt) (Oz (l.length:Int) l j hlt);have hsz:=sO l j hlt;generalize hcu:l[j]=c at*;have HC:=hid (Hf c ai ci (l.length:Int) (wq.alloc (.cells #[.int .i64 c.kind,.int .i64 c.k,.int .i64 c.n,.slice ai c.l.length ci] 129)) (hci.aaN (Kp.alloc _ _)) (by omega));have aeK:=(aB wq (.cells #[.int .i64 c.kind,.int .i64 c.k,.int .i64 c.n,.slice ai c.l.length ci] 129) _ z2).trans hbf;clear hcu dh ds hci hFq;by_cases hz:pK (l.length:Int) c=0
   ·have HZ:=hid hz;clear hz;go_wp2_with (go_at_call 188;refine HC.out.mono ?_;rintro e w3 ⟨rfl,q3⟩;rw[HZ.out]);exact⟨⟨j+1,by omega,by go_num,by rw[HQ.out.2];exact HN.out.1 HZ.out,HQ.out.1.trans ((Kp.alloc _ _).trans q3)⟩,by simp[intOf];omega⟩
   ·have HZ:=hid hz;have hz1:(pK (l.length:Int) c !=0)=true:=(by simpa using hz);go_wp2_with (go_at_call 188;refine HC.out.mono ?_;rintro e w3 ⟨rfl,q3⟩;obtain⟨k0,k1,k2,k3⟩:=pQ ((q3.block _ (ae aeK) (fun e=>e)).trans aeK));refine au (v:= .agg #[.int .i64 (pK (l.length:Int) c),.int .i64 j]) (by simp[results,results170,go_sem,k0,k1]) rfl ?_;refine⟨?_, ?_⟩;rw[HE.out,HQ.out.2,HN.out.2 HZ.out];exact(HB.out.2.2.trans (HQ.out.1.trans ((Kp.alloc _ _).trans q3))).fresh ((bF _ _ _ _).trans (bF _ _ _ _)|>.mono fun k _ e=>by omega)
  ·have hjl:j=l.length:=(by omega);subst hjl;obtain⟨k0,k1,k2,k3⟩:=pQ hbf;clear hbf;go_wp2;refine au (v:= .agg #[.int .i64 0,.int .i64 0]) (by simp[results,results170,go_sem,k0,k1]) rfl ?_;refine⟨?_, ?_⟩;rw[HE.out,HQ.out.2,Po];exact(HB.out.2.2.trans HQ.out.1).fresh ((bF _ _ _ _).trans (bF _ _ _ _)|>.mono fun k _ e=>by omega)
