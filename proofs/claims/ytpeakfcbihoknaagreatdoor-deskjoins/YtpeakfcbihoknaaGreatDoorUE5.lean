/- Parts. -/
import Derived.Test.YtpeakfcbihoknaaGreatDoorUE4
import Derived.Deep.QuietTactic
import Derived.RegionDies
import Derived.Defers
import Derived.Recover
open Go.ChangeShapes Go.WideShapes Go.ChangeAt Go.RowKit
set_option maxRecDepth 8000
set_option maxHeartbeats 4000000
namespace Go.Proofs.YtpeakfcbihoknaaGreatDoor
open Proofs.Tryz
namespace Ex
structure MS(W:World)(h:Nat)(l:List V)(j:Nat)(av:Option Addr)(n cv:Nat)(ps:List Kd)(w:World):Prop where
 obj:w.heap[h+2]?=some (.cells #[.slice av n cv] 92 (0,0))
 row:w.ownsRow (h+3) 129 4 (.slice av n cv) n (eB ps)
 len:n=ps.length
 all:∀p∈ps,lY (h+3) (Value.slice av n cv).ownBlock w p.1 p.2.1
 map:ps.map (·.1)=l.take j
 low:Below (h+2) W w
 sz:h+3<=w.heap.size
def nS(x:Ik)(o:Int):Int:=if x.op=101 then o+1 else if x.op=102 then o-1 else o
def A8(x:Ik):Int:=if x.op=100 then 1 else 0
def nO:List Ik->Int->Int
 |[],o=>o
 |x::c,o=>nO c (nS x o)
def pX:List Ik->Int
 |[]=>0
 |x::c=>A8 x+pX c
structure Ta(len i:Nat)(x:Ik)(o:Int):Prop where
 jump:x.op=103\/x.op=104->(i:Int)<x.k/\x.k<(len:Int)
 var:x.op=4->x.k<o
 lo:0<=nS x o
 hi:nS x o<=12
 back:x.op=105<->i+1=len
def oW(len:Nat):List Ik->Nat->Int->Prop
 |[],_,_=>True
 |x::c,i,o=>Ta len i x o/\oW len c (i+1) (nS x o)
theorem qE(a b:List Ik):∀o,nO (a++b) o=nO b (nO a o):=by
 induction a with
 |nil=>intro o;rfl
 |cons x a ih=>intro o;exact ih _
theorem qV(a b:List Ik):pX (a++b)=pX a+pX b:=by
 induction a with
 |nil=>simp[pX]
 |cons x a ih=>rw[bG,pX,pX,ih];omega
theorem qF(len:Nat)(a b:List Ik):∀i o,oW len (a++b) i o<->oW len a i o/\oW len b (i+a.length) (nO a o):=by
 induction a with
 |nil=>intro i o;simp[oW,nO]
 |cons x a ih=>
  intro i o;rw[bG,oW,oW,ih,aL,nO,show i+1+a.length=i+(a.length+1)by omega];exact and_assoc.symm
theorem acu(len:Nat)(c:List Ik):∀i o,oW len c i o->∀j (h:j<c.length),Ta len (i+j) c[j] (nO (c.take j) o):=by
 induction c with
 |nil=>intro i o _ j h;simp at h
 |cons x c ih=>
  intro i o h j hj;cases j with
  |zero=>exact h.1
  |succ j=>
   have:=ih (i+1) (nS x o) h.2 j (by simpa using hj);rw[show i+1+j=i+(j+1)by omega]at this;simpa [nO]using this
theorem zm{len i:Nat}{x:Ik}{o:Int}(h3:x.op≠103/\x.op≠104)(h4:x.op=4->x.k<o)(hl:0<=nS x o)(hh:nS x o<=12)(hb:x.op≠105)(hi:i+1<len):Ta len i x o:=
 ⟨fun h=>by omega,h4,hl,hh,⟨fun h=>absurd h hb,fun h=>by omega⟩⟩
theorem CX{len i:Nat}{x:Ik}{o:Int}(h3:x.op=103\/x.op=104)(hk:(i:Int)<x.k/\x.k<(len:Int))(hl:0<=o)(hh:o<=12)(hi:i+1<len):Ta len i x o:=by
 have e:nS x o=o:=by unfold nS;rw[af (by omega),af (by omega)]
 exact⟨fun _=>hk,fun h=>by omega,by rw[e];exact hl,by rw[e];exact hh,⟨fun h=>by omega,fun h=>by omega⟩⟩
def Fj(v:V):Prop:=∀(F o:Int)(p len:Nat),v.bad F o=0->0<=o->o<=12->p+(v.code p).length<len->oW len (v.code p) p o/\nO (v.code p) o=o/\pX (v.code p)=(v.size:Int)
theorem Jk(l:List V):(∀x∈l,Fj x)->∀(F o:Int)(p len:Nat),(∀x∈l,x.bad F o=0)->0<=o->o<=12->p+(iH l p).length<len->oW len (iH l p) p o/\nO (iH l p) o=o/\pX (iH l p)=(sizes l:Int):=by
 induction l with
 |nil=>intro _ F o p len _ _ _ _;rw[ZA,YX];exact⟨trivial,rfl,rfl⟩
 |cons x l ih=>
  intro hx F o p len hb h0 h12 hp;rw[Zq,ak]at hp;obtain⟨g1,g2,g3⟩:=hx x (by simp) F o p len (hb x (by simp)) h0 h12 (by omega);obtain⟨k1,k2,k3⟩:=ih (fun y hy=>hx y (by simp[hy])) F o (p+(x.code p).length) len (fun y hy=>hb y (by simp[hy])) h0 h12 (by omega);rw[Zq,qF,qE,qV,g2,g3,k3,YV];exact⟨⟨g1,k1⟩,k2,by simp⟩
theorem CP{F kind:Int}{l:List V}{o:Int}(hk:kind≠5):∀{i:Nat},Z5 F kind l i o=0->∀x∈l,x.bad F o=0:=by
 induction l with
 |nil=>intro i _ x hx;simp at hx
 |cons v l ih=>
  intro i h x hx;obtain⟨h1,h2⟩:=Zw h;rw[opens,af (by omega)]at h1;rcases aU.1 hx with rfl|hx;exact h1;exact ih h2 x hx
theorem OD(v:V):Fj v:=by
 induction v using V.aan with
 |h v ih=>
  intro F o p len hb h0 h12 hp;obtain⟨hf,hbs⟩:=aaz hb;obtain⟨hk,_,h4,h5⟩:=ZM hf;have tick:Ta len p ⟨100,0,0⟩ o:=zm (by decide) (fun h=>by simp at h) h0 h12 (by decide) (by have:=aaX v p;omega);have opn:nS ⟨100,0,0⟩ o=o:=rfl;by_cases e5:v.kind=5;obtain⟨a,b,hl⟩:=Ok.two ⟨F,o,hb⟩ e5;have ho:=h5 e5;rw[hl,e5]at hbs;obtain⟨ba,hbs⟩:=Zw hbs;obtain⟨bb,_⟩:=Zw hbs;rw[opens,af (by omega)]at ba;rw[opens,ag ⟨rfl,rfl⟩]at bb;rw[aaZ e5 hl]at hp|-;unfold aaY at hp|-;simp only[ak,aJ]at hp;obtain⟨g1,g2,g3⟩:=ih a (by simp[hl]) F o (p+1) len ba h0 h12 (by omega);obtain⟨k1,k2,k3⟩:=ih b (by simp[hl]) F (o+1) (p+1+(a.code (p+1)).length+1) len bb (by omega) (by omega) (by omega);have o1:nS ⟨101,0,0⟩ o=o+1:=rfl;have o2:nS ⟨102,0,0⟩ (o+1)=o:=(by show o+1-1=o;omega);simp only[qF,qE,qV,oW,nO,pX,A8,g2,g3,k2,k3,opn,o1,o2,aJ];refine⟨⟨⟨tick,trivial⟩,g1,⟨zm (by decide) (fun h=>by simp at h) (by rw[o1];omega) (by rw[o1];omega) (by decide) (by omega),trivial⟩,k1,zm (by decide) (fun h=>by simp at h) (by rw[o2];omega) (by rw[o2];omega) (by decide) (by omega),trivial⟩, ?_⟩;rw[size_eq v,hl,YV,YV,YX];refine⟨trivial, ?_⟩;simp;by_cases e7:v.kind=7;obtain⟨a,b,c,hl⟩:=Ok.three ⟨F,o,hb⟩ e7;have hall:=CP e5 hbs;rw[hl]at hall;rw[abk e7 hl]at hp|-;unfold ifC at hp|-;simp only[ak,aJ]at hp;have hE:ZF a b (p+1)=p+1+(a.code (p+1)).length+1+(b.code (p+1+(a.code (p+1)).length+1)).length+1:=rfl;obtain⟨g1,g2,g3⟩:=ih a (by simp[hl]) F o (p+1) len (hall a (by simp)) h0 h12 (by omega);obtain⟨k1,k2,k3⟩:=ih b (by simp[hl]) F o (p+1+(a.code (p+1)).length+1) len (hall b (by simp)) h0 h12 (by omega);obtain⟨m1,m2,m3⟩:=ih c (by simp[hl]) F o (ZF a b (p+1)) len (hall c (by simp)) h0 h12 (by omega);have o1:∀x,nS ⟨103,x,0⟩ o=o:=fun _=>rfl;have o2:∀x,nS ⟨104,x,0⟩ o=o:=fun _=>rfl;simp only[qF,qE,qV,oW,nO,pX,A8,g2,g3,k2,k3,m2,m3,opn,o1,o2,aJ];refine⟨⟨⟨tick,trivial⟩,g1,⟨CX (.inl rfl) (by constructor<;>simp only<;>omega) h0 h12 (by omega),trivial⟩,k1,⟨CX (.inr rfl) (by constructor<;>simp only<;>omega) h0 h12 (by omega),trivial⟩, ?_⟩,trivial, ?_⟩;rw[show p+1+(a.code (p+1)).length+1+(b.code (p+1+(a.code (p+1)).length+1)).length+1=ZF a b (p+1)from rfl];exact m1;rw[size_eq v,hl,YV,YV,YV,YX];simp;have hall:=CP e5 hbs;rw[aap e5 e7]at hp|-;simp only[ak,aJ]at hp;obtain⟨g1,g2,g3⟩:=Jk v.l ih F o (p+1) len hall h0 h12 (by omega);have o1:nS ⟨v.kind,v.k,v.n⟩ o=o:=(by unfold nS;rw[af (by simp only;omega),af (by simp only;omega)]);have t1:A8 ⟨v.kind,v.k,v.n⟩=0:=(by unfold A8;rw[af (by simp only;omega)]);have t0:A8 ⟨100,0,0⟩=1:=rfl;simp only[qF,qE,qV,oW,nO,pX,t0,t1,g2,g3,opn,o1,aJ];refine⟨⟨⟨tick,trivial⟩,g1,zm (by simp only;omega) h4 (by rw[o1];exact h0) (by rw[o1];exact h12) (by simp only;omega) (by omega),trivial⟩,trivial, ?_⟩;rw[size_eq v];simp
theorem acR{v:V}{F:Int}(h:v.bad F 0=0):oW (Zj v).length (Zj v) 0 0/\nO (Zj v) 0=0/\pX (Zj v)=(v.size:Int):=by
 have hl:(Zj v).length=(v.code 0).length+1:=by simp[Zj]
 obtain⟨g1,g2,g3⟩:=OD v F 0 0 (Zj v).length h (by decide) (by decide) (by omega);rw[hl]at g1|-;unfold Zj;simp only[qF,qE,qV,oW,nO,pX,g2,g3];refine⟨⟨g1,⟨fun h=>by simp at h,fun h=>by simp at h,by decide,by decide,⟨fun _=>by omega,fun _=>rfl⟩⟩,trivial⟩,rfl,by simp[A8]⟩
structure Rd(w:World)(rb:Nat):Prop where
 tab:Wds w
 gw:8<rb
 gb:9<rb
theorem Rl{w w':World}{rb g:Nat}{n:String}{cs:Array Value}(hg:prog.globalNamed n=some g)(hr:g<rb)(h:w.var? prog n=some cs)(q:Kr rb w w'):w'.var? prog n=some cs:=by
 unfold World.var? at*;simp only[hg,Option.bind_some]at h|-;have hlt:g<w.heap.size:=by
  rcases dO g w.heap.size with h'|h';exact h';rw[Array.getElem?_eq_none h']at h;simp at h
 rw[q.block g hlt (by omega)];exact h
theorem Rd.kr{w w':World}{rb:Nat}(h:Rd w rb)(q:Kr rb w w'):Rd w' rb:=⟨⟨Rl vR h.gw h.tab.words q,Rl vW h.gb h.tab.bins q⟩,h.gw,h.gb⟩
theorem Rd.quiet{w w':World}{rb:Nat}(h:Rd w rb)(q:aA w w'):Rd w' rb:=h.kr (aA.kr q)
theorem CJ{L:List (List UInt8)}{e:Int}{ts:List Tk}{x:Int×Int}(hm:rV L e ts= .error x):(ts=[]/\x=(6,e))\/∃t r,ts=t::r/\kH L t.text=0/\x=(5,(t.pos:Int)):=by
 cases ts with
 |nil=>cases hm;exact .inl ⟨rfl,rfl⟩
 |cons t r=>
  simp only[rV,pg,andThen]at hm;split at hm;cases hm;exact .inr ⟨t,r,rfl,by assumption,rfl⟩;cases hm
theorem MW(e:Int)(rb:Nat)(w:World)(h:RS w rb e []):Calls prog 263 #[.pointer (some ⟨rb,0,none⟩),.func (.func 264) #[] #[]] w fun e' w'=>e'= .panicked (r9 (6,e))/\Kr rb w w':=by
 have HN:=hid (uD e rb w h);clear h;go_enter func263,ntmps263;go_wp2_with (go_at_call 242;refine HN.out.mono ?_;rintro e' w1 ⟨rfl,q1⟩);exact⟨rfl,rfl,aA.kr q1⟩
theorem KD(e:Int)(rb:Nat)(k:Int)(ts r:List Tk)(w:World)(h:RS w rb e ts)(hw:Rd w rb)(hm:rV Zf e ts= .ok (k,r)):Calls prog 263 #[.pointer (some ⟨rb,0,none⟩),.func (.func 264) #[] #[]] w fun e' w'=>e'= .returned (.int .i64 k)/\RS w' rb e r/\Kr rb w w':=by
 obtain⟨t,rfl,hk0,rfl⟩:=yo hm;have hkl:=zF Zf t.text;rw[iM]at hkl;obtain⟨K,hK⟩:∃K,K=kH Zf t.text:=⟨_,rfl⟩;have HN:=hid (lq e rb t r w h);have HK:=hid hK;rw[<-hK]at hkl hk0|-;clear h hm hK;go_enter func263,ntmps263;go_wp2_with (go_at_call 242;refine HN.out.mono ?_;rintro e' w1 ⟨rfl,h1,q1⟩);have HW:=gp h1 q1 (hw.kr q1);clear h1 q1 hw;go_loopw [6] (fun n wr=>∃k:Nat,n= .int .i64 k/\1<=k/\k<=K/\aA (w1.alloc (.cells #[.int .i64 t.pos,.string ⟨t.text.toArray⟩,.bool t.num,.int .i64 t.n] 266)) wr) (fun n _=>22-(intOf n).toNat);case atStart=>exact⟨1,rfl,aj _,by omega,Kp.refl _ _⟩
 case round=>
  rename World=>wq;obtain⟨k,rfl,hk1,hkK,q⟩:=hrel;have hb:=gZ q;obtain⟨d0,d1,d2,d3⟩:=nH hb;have hwq:=(HW.out.2.2.quiet ((Kp.alloc _ _).trans q)).tab;have HQ:=hid q;clear hb q;by_cases hE:k=K
  ·have hn:eY Zf (k:Int)=t.text:=(qR tV t.text k hk1 (by rw[iM];omega)).2 (by rw[hE];exact HK.out.symm);subst hE;have hn1:(eY Zf (k:Int)==t.text)=true:=(by simpa using hn);have hn2:(eY Zf (k:Int) !=t.text)=false:=(by simpa using hn);go_wp2_with fail;go_quiet ((go_at_call 264;refine Calls.quiet_of_same (oN (k:Int) _ ?_);exact hwq.quiet (Kp.drewN _ _)));go_wp2_with fail;go_ret;exact⟨rfl,HW.out.1.quiet ((Kp.alloc _ _).trans (HQ.out.trans (Kp.drewN _ _))),HW.out.2.1.trans (aA.kr ((Kp.alloc _ _).trans (HQ.out.trans (Kp.drewN _ _))))⟩
  ·have hn:¬eY Zf (k:Int)=t.text:=fun e=>hE (by have:=(qR tV t.text k hk1 (by rw[iM];omega)).1 e;have:=HK.out;omega);have hf:¬eY Zf (k:Int)=[]:=uX AL k hk1 (by rw[iM];omega);have hn1:(eY Zf (k:Int)==t.text)=false:=(by simpa using hn);have hn2:(eY Zf (k:Int) !=t.text)=true:=(by simpa using hn);have hf1:(eY Zf (k:Int)==[])=false:=(by simpa using hf);go_wp2_with fail;go_quiet ((go_at_call 264;refine Calls.quiet_of_same (oN (k:Int) _ ?_);exact hwq.quiet (Kp.drewN _ _)));go_wp2_with (go_at_call 264;refine(oN (k:Int) _ (hwq.quiet (Kp.drewN _ _))).mono ?_;rintro e' w3 ⟨rfl,rfl⟩);exact⟨⟨k+1,by go_num,by omega,by omega,HQ.out.trans (Kp.drewN _ _)⟩,by simp[intOf];omega⟩
theorem IL(e:Int)(rb:Nat)(t:Tk)(r:List Tk)(w:World)(h:RS w rb e (t::r))(hw:Rd w rb)(hm:kH Zf t.text=0)(ht:t.text≠[]):Calls prog 263 #[.pointer (some ⟨rb,0,none⟩),.func (.func 264) #[] #[]] w fun e' w'=>e'= .panicked (r9 (5,(t.pos:Int)))/\Kr rb w w':=by
 have HN:=hid (lq e rb t r w h);have HK:=bC hm ht;clear h hm ht;go_enter func263,ntmps263;go_wp2_with (go_at_call 242;refine HN.out.mono ?_;rintro e' w1 ⟨rfl,h1,q1⟩);have HW:=gp h1 q1 (hw.kr q1);clear h1 q1 hw;go_loopw [6] (fun n wr=>∃k:Nat,n= .int .i64 k/\1<=k/\k<=Zf.length+1/\aA (w1.alloc (.cells #[.int .i64 t.pos,.string ⟨t.text.toArray⟩,.bool t.num,.int .i64 t.n] 266)) wr) (fun n _=>23-(intOf n).toNat);case atStart=>exact⟨1,rfl,aj _,by omega,Kp.refl _ _⟩
 case round=>
  rename World=>wq;obtain⟨k,rfl,hk1,hkK,q⟩:=hrel;rw[iM]at hkK;have hb:=gZ q;obtain⟨d0,d1,d2,d3⟩:=nH hb;have hwq:=(HW.out.2.2.quiet ((Kp.alloc _ _).trans q)).tab;have HQ:=hid q;clear hb q;by_cases hE:k=Zf.length+1
  ·have hf:eY Zf (k:Int)=[]:=mE Zf k (.inr (by rw[iM]at hE|-;omega));have hn:¬eY Zf (k:Int)=t.text:=fun e=>HK.out.2 (by rw[<-e,hf]);have hn1:(eY Zf (k:Int)==t.text)=false:=(by simpa using hn);have hn2:(eY Zf (k:Int) !=t.text)=true:=(by simpa using hn);have hf1:(eY Zf (k:Int)==[])=true:=(by simpa using hf);clear hE hf;go_wp2_with fail;go_quiet ((go_at_call 264;refine Calls.quiet_of_same (oN (k:Int) _ ?_);exact hwq.quiet (Kp.drewN _ _)));go_wp2_with (first
    |(go_at_call 264;refine(oN (k:Int) _ (hwq.quiet (Kp.drewN _ _))).mono ?_;rintro e' w3 ⟨rfl,rfl⟩)
    |(go_at_call 243;refine(oV 5 (t.pos:Int) _).mono ?_;rintro e' w4 ⟨rfl,rfl⟩))
   exact⟨rfl,rfl,HW.out.2.1.trans (aA.kr ((Kp.alloc _ _).trans (HQ.out.trans (Kp.drewN _ _))))⟩
  ·rw[iM]at hE;have hn:¬eY Zf (k:Int)=t.text:=fun e=>by
    have h1:=(qR tV t.text k hk1 (by rw[iM];omega)).1 e;have h2:=HK.out.1;omega
   have hf:¬eY Zf (k:Int)=[]:=uX AL k hk1 (by rw[iM];omega);have hn1:(eY Zf (k:Int)==t.text)=false:=(by simpa using hn);have hn2:(eY Zf (k:Int) !=t.text)=true:=(by simpa using hn);have hf1:(eY Zf (k:Int)==[])=false:=(by simpa using hf);go_wp2_with fail;go_quiet ((go_at_call 264;refine Calls.quiet_of_same (oN (k:Int) _ ?_);exact hwq.quiet (Kp.drewN _ _)));go_wp2_with (go_at_call 264;refine(oN (k:Int) _ (hwq.quiet (Kp.drewN _ _))).mono ?_;rintro e' w3 ⟨rfl,rfl⟩);exact⟨⟨k+1,by go_num,by omega,by rw[iM];omega,HQ.out.trans (Kp.drewN _ _)⟩,by simp[intOf];omega⟩
theorem Tv(e:Int)(rb:Nat)(ts:List Tk)(x:Int×Int)(w:World)(h:RS w rb e ts)(hw:Rd w rb)(hg:∀t∈ts,good t)(hm:rV Zf e ts= .error x):Calls prog 263 #[.pointer (some ⟨rb,0,none⟩),.func (.func 264) #[] #[]] w fun e' w'=>e'= .panicked (r9 x)/\Kr rb w w':=by
 rcases CJ hm with⟨rfl,rfl⟩|⟨t,r,rfl,h1,rfl⟩;exact MW e rb w h;exact IL e rb t r w h hw h1 (fun e=>by have:=zM (hg t (by simp));rw[e]at this;simp at this)
theorem Np(e:Int)(rb:Nat)(w:World)(h:RS w rb e []):Calls prog 263 #[.pointer (some ⟨rb,0,none⟩),.func (.func 267) #[] #[]] w fun e' w'=>e'= .panicked (r9 (6,e))/\Kr rb w w':=by
 have HN:=hid (uD e rb w h);clear h;go_enter func263,ntmps263;go_wp2_with (go_at_call 242;refine HN.out.mono ?_;rintro e' w1 ⟨rfl,q1⟩);exact⟨rfl,rfl,aA.kr q1⟩
theorem Uf(e:Int)(rb:Nat)(k:Int)(ts r:List Tk)(w:World)(h:RS w rb e ts)(hw:Rd w rb)(hm:rV Zo e ts= .ok (k,r)):Calls prog 263 #[.pointer (some ⟨rb,0,none⟩),.func (.func 267) #[] #[]] w fun e' w'=>e'= .returned (.int .i64 k)/\RS w' rb e r/\Kr rb w w':=by
 obtain⟨t,rfl,hk0,rfl⟩:=yo hm;have hkl:=zF Zo t.text;rw[jJ]at hkl;obtain⟨K,hK⟩:∃K,K=kH Zo t.text:=⟨_,rfl⟩;have HN:=hid (lq e rb t r w h);have HK:=hid hK;rw[<-hK]at hkl hk0|-;clear h hm hK;go_enter func263,ntmps263;go_wp2_with (go_at_call 242;refine HN.out.mono ?_;rintro e' w1 ⟨rfl,h1,q1⟩);have HW:=gp h1 q1 (hw.kr q1);clear h1 q1 hw;go_loopw [6] (fun n wr=>∃k:Nat,n= .int .i64 k/\1<=k/\k<=K/\aA (w1.alloc (.cells #[.int .i64 t.pos,.string ⟨t.text.toArray⟩,.bool t.num,.int .i64 t.n] 266)) wr) (fun n _=>22-(intOf n).toNat);case atStart=>exact⟨1,rfl,aj _,by omega,Kp.refl _ _⟩
 case round=>
  rename World=>wq;obtain⟨k,rfl,hk1,hkK,q⟩:=hrel;have hb:=gZ q;obtain⟨d0,d1,d2,d3⟩:=nH hb;have hwq:=(HW.out.2.2.quiet ((Kp.alloc _ _).trans q)).tab;have HQ:=hid q;clear hb q;by_cases hE:k=K
  ·have hn:eY Zo (k:Int)=t.text:=(qR vY t.text k hk1 (by rw[jJ];omega)).2 (by rw[hE];exact HK.out.symm);subst hE;have hn1:(eY Zo (k:Int)==t.text)=true:=(by simpa using hn);have hn2:(eY Zo (k:Int) !=t.text)=false:=(by simpa using hn);go_wp2_with fail;go_quiet ((go_at_call 267;refine Calls.quiet_of_same (rF (k:Int) _ ?_);exact hwq.quiet (Kp.drewN _ _)));go_wp2_with fail;go_ret;exact⟨rfl,HW.out.1.quiet ((Kp.alloc _ _).trans (HQ.out.trans (Kp.drewN _ _))),HW.out.2.1.trans (aA.kr ((Kp.alloc _ _).trans (HQ.out.trans (Kp.drewN _ _))))⟩
  ·have hn:¬eY Zo (k:Int)=t.text:=fun e=>hE (by have:=(qR vY t.text k hk1 (by rw[jJ];omega)).1 e;have:=HK.out;omega);have hf:¬eY Zo (k:Int)=[]:=uX Cy k hk1 (by rw[jJ];omega);have hn1:(eY Zo (k:Int)==t.text)=false:=(by simpa using hn);have hn2:(eY Zo (k:Int) !=t.text)=true:=(by simpa using hn);have hf1:(eY Zo (k:Int)==[])=false:=(by simpa using hf);go_wp2_with fail;go_quiet ((go_at_call 267;refine Calls.quiet_of_same (rF (k:Int) _ ?_);exact hwq.quiet (Kp.drewN _ _)));go_wp2_with (go_at_call 267;refine(rF (k:Int) _ (hwq.quiet (Kp.drewN _ _))).mono ?_;rintro e' w3 ⟨rfl,rfl⟩);exact⟨⟨k+1,by go_num,by omega,by omega,HQ.out.trans (Kp.drewN _ _)⟩,by simp[intOf];omega⟩
theorem Kk(e:Int)(rb:Nat)(t:Tk)(r:List Tk)(w:World)(h:RS w rb e (t::r))(hw:Rd w rb)(hm:kH Zo t.text=0)(ht:t.text≠[]):Calls prog 263 #[.pointer (some ⟨rb,0,none⟩),.func (.func 267) #[] #[]] w fun e' w'=>e'= .panicked (r9 (5,(t.pos:Int)))/\Kr rb w w':=by
 have HN:=hid (lq e rb t r w h);have HK:=bC hm ht;clear h hm ht;go_enter func263,ntmps263;go_wp2_with (go_at_call 242;refine HN.out.mono ?_;rintro e' w1 ⟨rfl,h1,q1⟩);have HW:=gp h1 q1 (hw.kr q1);clear h1 q1 hw;go_loopw [6] (fun n wr=>∃k:Nat,n= .int .i64 k/\1<=k/\k<=Zo.length+1/\aA (w1.alloc (.cells #[.int .i64 t.pos,.string ⟨t.text.toArray⟩,.bool t.num,.int .i64 t.n] 266)) wr) (fun n _=>23-(intOf n).toNat);case atStart=>exact⟨1,rfl,aj _,by omega,Kp.refl _ _⟩
 case round=>
  rename World=>wq;obtain⟨k,rfl,hk1,hkK,q⟩:=hrel;rw[jJ]at hkK;have hb:=gZ q;obtain⟨d0,d1,d2,d3⟩:=nH hb;have hwq:=(HW.out.2.2.quiet ((Kp.alloc _ _).trans q)).tab;have HQ:=hid q;clear hb q;by_cases hE:k=Zo.length+1
  ·have hf:eY Zo (k:Int)=[]:=mE Zo k (.inr (by rw[jJ]at hE|-;omega));have hn:¬eY Zo (k:Int)=t.text:=fun e=>HK.out.2 (by rw[<-e,hf]);have hn1:(eY Zo (k:Int)==t.text)=false:=(by simpa using hn);have hn2:(eY Zo (k:Int) !=t.text)=true:=(by simpa using hn);have hf1:(eY Zo (k:Int)==[])=true:=(by simpa using hf);clear hE hf;go_wp2_with fail;go_quiet ((go_at_call 267;refine Calls.quiet_of_same (rF (k:Int) _ ?_);exact hwq.quiet (Kp.drewN _ _)));go_wp2_with (first
    |(go_at_call 267;refine(rF (k:Int) _ (hwq.quiet (Kp.drewN _ _))).mono ?_;rintro e' w3 ⟨rfl,rfl⟩)
    |(go_at_call 243;refine(oV 5 (t.pos:Int) _).mono ?_;rintro e' w4 ⟨rfl,rfl⟩))
   exact⟨rfl,rfl,HW.out.2.1.trans (aA.kr ((Kp.alloc _ _).trans (HQ.out.trans (Kp.drewN _ _))))⟩
  ·rw[jJ]at hE;have hn:¬eY Zo (k:Int)=t.text:=fun e=>by
    have h1:=(qR vY t.text k hk1 (by rw[jJ];omega)).1 e;have h2:=HK.out.1;omega
   have hf:¬eY Zo (k:Int)=[]:=uX Cy k hk1 (by rw[jJ];omega);have hn1:(eY Zo (k:Int)==t.text)=false:=(by simpa using hn);have hn2:(eY Zo (k:Int) !=t.text)=true:=(by simpa using hn);have hf1:(eY Zo (k:Int)==[])=false:=(by simpa using hf);go_wp2_with fail;go_quiet ((go_at_call 267;refine Calls.quiet_of_same (rF (k:Int) _ ?_);exact hwq.quiet (Kp.drewN _ _)));go_wp2_with (go_at_call 267;refine(rF (k:Int) _ (hwq.quiet (Kp.drewN _ _))).mono ?_;rintro e' w3 ⟨rfl,rfl⟩);exact⟨⟨k+1,by go_num,by omega,by rw[jJ];omega,HQ.out.trans (Kp.drewN _ _)⟩,by simp[intOf];omega⟩
theorem Qj(e:Int)(rb:Nat)(ts:List Tk)(x:Int×Int)(w:World)(h:RS w rb e ts)(hw:Rd w rb)(hg:∀t∈ts,good t)(hm:rV Zo e ts= .error x):Calls prog 263 #[.pointer (some ⟨rb,0,none⟩),.func (.func 267) #[] #[]] w fun e' w'=>e'= .panicked (r9 x)/\Kr rb w w':=by
 rcases CJ hm with⟨rfl,rfl⟩|⟨t,r,rfl,h1,rfl⟩;exact Np e rb w h;exact Kk e rb t r w h hw h1 (fun e=>by have:=zM (hg t (by simp));rw[e]at this;simp at this)
theorem AR{w w1 w2:World}{o0 o1:Obj}{rb j:Nat}{y:Value}{e:Int}{ts:List Tk}(hr:rb<w.heap.size)(q1:Kr rb (w.alloc o0) w1)(q2:Kr rb (w1.alloc o1) w2)(h:RS w2 rb e ts)(a b c d:Value):
 RS (((((w2.setCell ⟨w1.heap.size,j,none⟩ y).setCell ⟨w.heap.size,0,none⟩ a).setCell ⟨w.heap.size,1,none⟩ b).setCell ⟨w.heap.size,2,none⟩ c).setCell ⟨w.heap.size,3,none⟩ d) rb e ts/\Kr rb w (((((w2.setCell ⟨w1.heap.size,j,none⟩ y).setCell ⟨w.heap.size,0,none⟩ a).setCell ⟨w.heap.size,1,none⟩ b).setCell ⟨w.heap.size,2,none⟩ c).setCell ⟨w.heap.size,3,none⟩ d):=by
 have hs:w.heap.size+1<=w1.heap.size:=by have:=q1.size;simpa using this
 refine Lx hr (((q1.trans (Kp.alloc _ _)).trans q2).fresh ?_) (Bu h (by omega) rfl) a b c d;exact Kp.setCell w2 ⟨w1.heap.size,j,none⟩ y (by simpa using hs)
theorem Wj(kd:Int):kd=2\/(kd=4\/kd=18\/kd=15)\/kd=6\/(kd≠2/\kd≠4/\kd≠18/\kd≠15/\kd≠6):=by omega
theorem Xu{e:Int}{r1 r:List Tk}{x:Int×Int}(h:kM e 2 r1= .ok (x,r)):∃t,pJ e r1= .ok (t,r)/\x=(0,t.n):=by
 rw[kM,ag rfl]at h;obtain⟨t,r2,h1,h2⟩:=iL h;cases h2;exact⟨t,h1,rfl⟩
theorem Xe{e kd:Int}{r1 r:List Tk}{x:Int×Int}(hk:kd=4\/kd=18\/kd=15)(h:kM e kd r1= .ok (x,r)):∃k,oH e r1= .ok (k,r)/\x=(k,0):=by
 rw[kM,af (by omega),ag hk]at h;obtain⟨t,r2,h1,h2⟩:=iL h;cases h2;exact⟨t,h1,rfl⟩
theorem XV{e:Int}{r1 r:List Tk}{x:Int×Int}(h:kM e 6 r1= .ok (x,r)):∃k,rV Zo e r1= .ok (k,r)/\x=(k,0):=by
 rw[kM,af (by decide),af (by decide),ag rfl]at h;obtain⟨t,r2,h1,h2⟩:=iL h;cases h2;exact⟨t,h1,rfl⟩
theorem XX{e kd:Int}{r1 r:List Tk}{x:Int×Int}(hk:kd≠2/\kd≠4/\kd≠18/\kd≠15/\kd≠6)(h:kM e kd r1= .ok (x,r)):x=(0,0)/\r1=r:=by
 rw[kM,af (by omega),af (by omega),af (by omega)]at h;cases h;exact⟨rfl,rfl⟩
theorem Im{e:Int}{ts r:List Tk}{x:Int×Int×Int}(h:sF e ts= .ok (x,r)):∃r1,rV Zf e ts= .ok (x.1,r1)/\kM e x.1 r1= .ok (x.2,r):=by
 unfold sF at h;obtain⟨kd,r1,h1,h2⟩:=iL h;obtain⟨y,r2,h3,h4⟩:=iL h2;cases h4;exact⟨r1,h1,h3⟩
theorem Bq(a n:Int)(s:ByteArray)(b:Bool)(w:World):(Instr.field 266 (.agg #[.int .i64 a,.string s,.bool b,.int .i64 n]) 3).run prog w= .ok (.int .i64 n) w:=by
 unfold Instr.field;simp[bR underlying266,part,asAgg,go_sem,Result.andThen]
theorem SG(e:Int)(rb:Nat)(x:Int×Int×Int)(ts r:List Tk)(w:World)(h:RS w rb e ts)(hw:Rd w rb)(hm:sF e ts= .ok (x,r)):Calls prog 245 #[.pointer (some ⟨rb,0,none⟩)] w fun e' w'=>e'= .returned (.agg #[.int .i64 x.1,.int .i64 x.2.1,.int .i64 x.2.2,.slice none 0 0])/\RS w' rb e r/\Kr rb w w':=by
 obtain⟨kd,kk,kn⟩:=x;obtain⟨r1,h1,h2⟩:=Im hm;simp only at h1 h2|-;have hlt:=h.lt;have HO:=hid (fun o=>KD e rb kd ts r1 (w.alloc o) (h.quiet (Kp.alloc _ _)) (hw.quiet (Kp.alloc _ _)) h1);have HW:=hid (fun(o:Obj) (w1:World) (q:Kr rb (w.alloc o) w1)=>(hw.quiet (Kp.alloc _ _)).kr q);clear h hw hm h1;rcases Wj kd with rfl|hk|rfl|hk
 ·obtain⟨t,h3,h4⟩:=Xu h2;cases h4;obtain⟨pos,text,num,n⟩:=t;have HT:=hid (fun(w1:World) (h1:RS w1 rb e r1) (o:Obj)=>yB e rb _ r1 r (w1.alloc o) (h1.quiet (Kp.alloc _ _)) h3);have hfd:=Bq;clear h2 h3 HW;go_enter func245,ntmps245;go_wp2_with (first
   |(go_at_call 265;refine(HT.out w1 h1 _).mono ?_;rintro e' w2 ⟨rfl,h2,q2⟩;have hb1:=rT hl1 q2;have hb0:=rT hlt ((q1.trans (Kp.alloc _ _)).trans q2);obtain⟨c0,c1,c2,c3⟩:=nH hb1;obtain⟨d0,d1,d2,d3⟩:=nH hb0;have hf1:=YZ hb1;have hf0:=YZ hb0;have hne:¬w.heap.size=w1.heap.size:=(by omega);have hne2:¬w1.heap.size=w.heap.size:=(by omega);clear hb0 hb1)
   |(go_at_call 263;refine(HO.out _).mono ?_;rintro e' w1 ⟨rfl,h1,q1⟩;have hl0:w.heap.size+1<=w1.heap.size:=(by have:=q1.size;simpa using this);have hl1:rb<w1.heap.size:=(by omega)))
  refine au (v:= .agg #[.int .i64 2,.int .i64 0,.int .i64 n,.slice none 0 0]) (by simp[results,results245,go_sem,d0,d1,d2,d3]) rfl ?_;exact⟨rfl,AR hlt q1 q2 h2 _ _ _ _⟩
 ·obtain⟨k,h3,h4⟩:=Xe hk h2;cases h4;have HT:=hid (fun(w1:World) (h1:RS w1 rb e r1) (o:Obj)=>LJ e rb _ r1 r (w1.alloc o) (h1.quiet (Kp.alloc _ _)) h3);clear h2 h3 HW;rcases hk with rfl|rfl|rfl;all_goals
   go_enter func245,ntmps245;go_wp2_with (first
    |(go_at_call 266;refine(HT.out w1 h1 _).mono ?_;rintro e' w2 ⟨rfl,h2,q2⟩;have hb1:=rT hl1 q2;have hb0:=rT hlt ((q1.trans (Kp.alloc _ _)).trans q2);obtain⟨c0,c1,c2,c3⟩:=nH hb1;obtain⟨d0,d1,d2,d3⟩:=nH hb0;have hf1:=YZ hb1;have hf0:=YZ hb0;have hne:¬w.heap.size=w1.heap.size:=(by omega);have hne2:¬w1.heap.size=w.heap.size:=(by omega);clear hb0 hb1)
    |(go_at_call 263;refine(HO.out _).mono ?_;rintro e' w1 ⟨rfl,h1,q1⟩;have hl0:w.heap.size+1<=w1.heap.size:=(by have:=q1.size;simpa using this);have hl1:rb<w1.heap.size:=(by omega)))
   refine au (v:= .agg #[.int .i64 _,.int .i64 kk,.int .i64 0,.slice none 0 0]) (by simp[results,results245,go_sem,d0,d1,d2,d3];rfl) rfl ?_;exact⟨rfl,AR hlt q1 q2 h2 _ _ _ _⟩
 ·obtain⟨k,h3,h4⟩:=XV h2;cases h4;have HT:=hid (fun(w1:World) (h1:RS w1 rb e r1) (o:Obj) (hd:Rd w1 rb)=>Uf e rb kk r1 r (w1.alloc o) (h1.quiet (Kp.alloc _ _)) (hd.quiet (Kp.alloc _ _)) h3);clear h2 h3;go_enter func245,ntmps245;go_wp2_with (first
   |(go_at_call 263;refine(HT.out w1 h1 _ (HW.out _ _ q1)).mono ?_;rintro e' w2 ⟨rfl,h2,q2⟩;have hb1:=rT hl1 q2;have hb0:=rT hlt ((q1.trans (Kp.alloc _ _)).trans q2);obtain⟨c0,c1,c2,c3⟩:=nH hb1;obtain⟨d0,d1,d2,d3⟩:=nH hb0;have hf1:=YZ hb1;have hf0:=YZ hb0;have hne:¬w.heap.size=w1.heap.size:=(by omega);have hne2:¬w1.heap.size=w.heap.size:=(by omega);clear hb0 hb1)
   |(go_at_call 263;refine(HO.out _).mono ?_;rintro e' w1 ⟨rfl,h1,q1⟩;have hl0:w.heap.size+1<=w1.heap.size:=(by have:=q1.size;simpa using this);have hl1:rb<w1.heap.size:=(by omega)))
  refine au (v:= .agg #[.int .i64 6,.int .i64 kk,.int .i64 0,.slice none 0 0]) (by simp[results,results245,go_sem,d0,d1,d2,d3]) rfl ?_;exact⟨rfl,AR hlt q1 q2 h2 _ _ _ _⟩
 ·obtain⟨h4,h3⟩:=XX hk h2;cases h4;subst h3;obtain⟨a1,a2,a3,a4,a5⟩:=hk;clear h2 HW;go_enter func245,ntmps245;go_wp2_with ((go_at_call 263;refine(HO.out _).mono ?_;rintro e' w1 ⟨rfl,h1,q1⟩;have hl0:w.heap.size+1<=w1.heap.size:=(by have:=q1.size;simpa using this);have hl1:rb<w1.heap.size:=(by omega);have hb0:=fun o=>rT hlt (q1.trans (Kp.alloc _ o));have hd:=fun o=>nH (hb0 o);have hf0:=fun o=>YZ (hb0 o)));refine au (v:= .agg #[.int .i64 kd,.int .i64 0,.int .i64 0,.slice none 0 0]) (by simp[results,results245,go_sem,hd]) rfl ?_;exact⟨rfl,Lx hlt (q1.trans (Kp.alloc _ _)) (h1.quiet (Kp.alloc _ _)) _ _ _ _⟩
theorem tq{α β:Type}{g:ZX α}{f:α->List Tk->ZX β}{x:Int×Int}(h:andThen g f= .error x):g= .error x\/∃a r,g= .ok (a,r)/\f a r= .error x:=by
 cases g with
 |error y=>cases h;exact .inl rfl
 |ok y=>exact .inr ⟨y.1,y.2,rfl,h⟩
theorem IG{e:Int}{ts:List Tk}{x:Int×Int}(h:sF e ts= .error x):rV Zf e ts= .error x\/∃kd r1,rV Zf e ts= .ok (kd,r1)/\kM e kd r1= .error x:=by
 unfold sF at h;rcases tq h with h1|⟨kd,r1,h1,h2⟩;exact .inl h1;rcases tq h2 with h3|⟨y,r2,_,h4⟩;exact .inr ⟨kd,r1,h1,h3⟩;cases h4
theorem KC{e kd:Int}{r1:List Tk}{x:Int×Int}(h:kM e kd r1= .error x):(kd=2/\pJ e r1= .error x)\/((kd=4\/kd=18\/kd=15)/\oH e r1= .error x)\/(kd=6/\rV Zo e r1= .error x):=by
 unfold kM at h;split at h;rcases tq h with h1|⟨_,_,_,h2⟩;exact .inl ⟨by assumption,h1⟩;cases h2
 ·split at h;rcases tq h with h1|⟨_,_,_,h2⟩;exact .inr (.inl ⟨by assumption,h1⟩);cases h2
  ·split at h;rcases tq h with h1|⟨_,_,_,h2⟩;exact .inr (.inr ⟨by assumption,h1⟩);cases h2;cases h
theorem Ox{L:List (List UInt8)}{e kd:Int}{ts r:List Tk}(hg:∀t∈ts,good t)(h:rV L e ts= .ok (kd,r)):∀t∈r,good t:=by
 obtain⟨t,rfl,_⟩:=yo h;exact fun u hu=>hg u (by simp[hu])
theorem MO(e:Int)(rb:Nat)(x:Int×Int)(ts:List Tk)(w:World)(h:RS w rb e ts)(hw:Rd w rb)(hg:∀t∈ts,good t)(hm:sF e ts= .error x):Calls prog 245 #[.pointer (some ⟨rb,0,none⟩)] w fun e' w'=>e'= .panicked (r9 x)/\Kr rb w w':=by
 rcases IG hm with h1|⟨kd,r1,h1,h2⟩
 ·have HO:=hid (fun o=>Tv e rb ts x (w.alloc o) (h.quiet (Kp.alloc _ _)) (hw.quiet (Kp.alloc _ _)) hg h1);clear h hw hg hm h1;go_enter func245,ntmps245;go_wp2_with (go_at_call 263;refine(HO.out _).mono ?_;rintro e' w1 ⟨rfl,q1⟩);exact⟨rfl,rfl,(Kp.alloc _ _).trans q1⟩
 ·have hg1:=Ox hg h1;have HO:=hid (fun o=>KD e rb kd ts r1 (w.alloc o) (h.quiet (Kp.alloc _ _)) (hw.quiet (Kp.alloc _ _)) h1);have HW:=hid (fun(o:Obj) (w1:World) (q:Kr rb (w.alloc o) w1)=>(hw.quiet (Kp.alloc _ _)).kr q);clear h hw hm h1 hg;rcases KC h2 with⟨rfl,h3⟩|⟨hk,h3⟩|⟨rfl,h3⟩
  ·have HT:=hid (fun(w1:World) (h1:RS w1 rb e r1) (o:Obj)=>Bv e rb r1 x (w1.alloc o) (h1.quiet (Kp.alloc _ _)) h3);clear h2 h3 HW hg1;go_enter func245,ntmps245;go_wp2_with (first
    |(go_at_call 265;refine(HT.out w1 h1 _).mono ?_;rintro e' w2 ⟨rfl,q2⟩)
    |(go_at_call 263;refine(HO.out _).mono ?_;rintro e' w1 ⟨rfl,h1,q1⟩))
   exact⟨rfl,rfl,(Kp.alloc _ _).trans (q1.trans ((Kp.alloc _ _).trans q2))⟩
  ·have HT:=hid (fun(w1:World) (h1:RS w1 rb e r1) (o:Obj)=>MN e rb r1 x (w1.alloc o) (h1.quiet (Kp.alloc _ _)) h3);clear h2 h3 HW hg1;rcases hk with rfl|rfl|rfl;all_goals
    go_enter func245,ntmps245;go_wp2_with (first
     |(go_at_call 266;refine(HT.out w1 h1 _).mono ?_;rintro e' w2 ⟨rfl,q2⟩)
     |(go_at_call 263;refine(HO.out _).mono ?_;rintro e' w1 ⟨rfl,h1,q1⟩))
    exact⟨rfl,rfl,(Kp.alloc _ _).trans (q1.trans ((Kp.alloc _ _).trans q2))⟩
  ·have HT:=hid (fun(w1:World) (h1:RS w1 rb e r1) (o:Obj) (hd:Rd w1 rb)=>Qj e rb r1 x (w1.alloc o) (h1.quiet (Kp.alloc _ _)) (hd.quiet (Kp.alloc _ _)) hg1 h3);clear h2 h3 hg1;go_enter func245,ntmps245;go_wp2_with (first
    |(go_at_call 263;refine(HT.out w1 h1 _ (HW.out _ _ q1)).mono ?_;rintro e' w2 ⟨rfl,q2⟩)
    |(go_at_call 263;refine(HO.out _).mono ?_;rintro e' w1 ⟨rfl,h1,q1⟩))
   exact⟨rfl,rfl,(Kp.alloc _ _).trans (q1.trans ((Kp.alloc _ _).trans q2))⟩
theorem lY.wider{lo lo':Nat}{row:Option Nat}{w:World}{v:V}{ao:Option Addr}(h:lY lo row w v ao)(hl:lo'<=lo):lY lo' row w v ao:=
 fun w' hk=>h w' fun k c t h1 h2 h3=>hk k c t (by omega) h2 h3
structure Row(W:World)(rb B:Nat)(acc:List V)(av:Option Addr)(m cv:Nat)(ps:List Kd)(w:World):Prop where
 row:w.ownsRow B 129 4 (.slice av m cv) m (eB ps)
 len:m=ps.length
 all:∀p∈ps,lY B (Value.slice av m cv).ownBlock w p.1 p.2.1
 map:ps.map (·.1)=acc
 kr:Kr rb W w
 sz:B<=w.heap.size
theorem Row.kp{W w w':World}{rb B:Nat}{acc:List V}{av:Option Addr}{m cv:Nat}{ps:List Kd}(H:Row W rb B acc av m cv ps w)(hr:rb<B)(q:Kr rb w w'):Row W rb B acc av m cv ps w':=
 ⟨q.row H.row fun k e hk=>by have:=(H.row.lt k e).1;omega,H.len,fun p hp=>(H.all p hp).kr q hr,H.map,H.kr.trans q,aF H.sz q.size⟩
theorem Row.nil(W w:World)(rb B:Nat)(k:Kr rb W w)(hB:B<=w.heap.size):Row W rb B [] none 0 0 [] w:=
 ⟨bq _ _ _ _,rfl,fun p hp=>by simp at hp,rfl,k,hB⟩
theorem Row.lens{W w:World}{rb B:Nat}{acc:List V}{av:Option Addr}{m cv:Nat}{ps:List Kd}(H:Row W rb B acc av m cv ps w):m=acc.length:=by rw[H.len,<-H.map,bE]
theorem Row.push{W w w3 w1:World}{rb B x j:Nat}{acc:List V}{av:Option Addr}{m cv:Nat}{ps:List Kd}{v:V}{a:Option Addr}{c g cap:Nat}{o:Obj}{e:Int}{ts:List Tk}(H:Row W rb B acc av m cv ps w)(hr:rb<x)(hx:x<B)(hW:W.heap.size<=x)
 (q3:Kr rb w.drew w3) (hc:lY w.heap.size none w3 v a) (hs:RS w3 rb e ts)
 (hr1:w1.ownsRow B 129 4 (.slice (some ⟨g,0,none⟩) (m+1) cap) (m+1) (eB ps++Zv (v,a,c))) (hg:(w3.alloc o).grownBy w1 (Value.slice av m cv).ownBlock) (hat:(Value.slice av m cv).ownBlock=some g\/g=w3.heap.size+1):
 Row W rb B (acc++[v]) (some ⟨g,0,none⟩) (m+1) cap (ps++[(v,a,c)]) (w1.setCell ⟨x,j,none⟩ (.slice (some ⟨g,0,none⟩) (m+1) cap))/\RS (w1.setCell ⟨x,j,none⟩ (.slice (some ⟨g,0,none⟩) (m+1) cap)) rb e ts/\w1.heap[x]?=w.heap[x]?:=by
 have hm:=H.len;have hs3:w.heap.size<=w3.heap.size:=q3.size;have hs1:w3.heap.size+1<=w1.heap.size:=by have:=hg.size;simpa using this
 have hrb:∀b,(Value.slice av m cv).ownBlock=some b->B<=b/\b<w.heap.size:=fun b e=>H.row.lt b e;have hk1:∀b,b<w.heap.size->b≠rb->(Value.slice av m cv).ownBlock≠some b->w1.heap[b]?=w.heap[b]?:=by
  intro b hb hbr hne;rw[hg.block b (by simp;omega) (fun e=>hne e.symm),aB w3 o b (by omega)];exact q3.block b hb hbr
 have hk3:∀b,w.heap.size<=b->b<w3.heap.size->w1.heap[b]?=w3.heap[b]?:=by
  intro b hb hb3;rw[hg.block b (by simp;omega) (fun e=>by have:=hrb b e.symm;omega),aB w3 o b hb3]
 have hset:∀b,b≠x->(w1.setCell ⟨x,j,none⟩ (.slice (some ⟨g,0,none⟩) (m+1) cap)).heap[b]?=w1.heap[b]?:=fun b hb=>Below.heap_setCell _ _ _ _ (fun e=>hb e);have hgl:B<=g:=by
  rcases hat with e|e;exact(hrb g e).1;have:=H.sz;omega
 refine⟨⟨?_, ?_, ?_, ?_, ?_, ?_⟩, ?_, ?_⟩;have:=(Kp.setCell (F:=fun b=>b=x) w1 ⟨x,j,none⟩ (.slice (some ⟨g,0,none⟩) (m+1) cap) rfl).row hr1 (fun b e=>by simp[Value.ownBlock]at e;omega);rw[jV,jI];simpa using this;rw[ak,hm];rfl
 ·intro p hp;have hrow':(Value.slice (some ⟨g,0,none⟩) (m+1) cap).ownBlock=some g:=rfl;rw[hrow'];rcases aK.1 hp with hp|hp;refine(H.all p hp).step (fun b h1 h2 h3=> ?_) ?_;rw[hset b (by omega)];exact hk1 b h2 (by omega) (fun e=>h3 e);rcases hat with e|e;exact .inl e.symm;exact .inr ⟨g,rfl,by omega⟩
  ·simp at hp;subst hp;intro w2 h2;refine hc w2 fun b c t h1 _ h3=>h2 b c t (by have:=H.sz;omega) ?_ ((hset b (by have:=H.sz;omega)).trans ((hk3 b h1 (ae h3)).trans h3));intro e;simp at e;have hb3:=ae h3;rcases hat with e'|e'
   ·have:=hrb g e';omega
   ·omega
 ·rw[bA,H.map];rfl
 ·refine⟨?_, ?_, ?_, ?_,fun b hb hbr=> ?_⟩;exact(hg.os.trans q3.os).trans H.kr.os;exact(hg.tape.trans q3.tape).trans H.kr.tape;exact(hg.output.trans q3.output).trans H.kr.output;have:=H.kr.size;simp[World.setCell];omega;have:=H.sz;rw[hset b (by omega),hk1 b (by omega) hbr (fun e=>by have:=hrb b e;omega)];exact H.kr.block b hb hbr
 ·have:=H.sz;simp[World.setCell];omega
 ·refine hs.above ?_;refine((Kp.alloc (F:=fun k=>rb<k) w3 o).trans (Kp.grown hg fun k _ e=> ?_)).trans (Kp.setCell w1 ⟨x,j,none⟩ _ hr);have:=hrb k e.symm;omega
 ·have:=H.sz;exact hk1 x (by omega) (by omega) (fun e=>by have:=hrb x e;omega)
theorem Row.hold{W w:World}{rb B:Nat}{v:V}{av:Option Addr}{m cv:Nat}{ps:List Kd}(H:Row W rb B v.l av m cv ps w)(hf:v.fits):lY B none w v av:=Gt hf H.map H.row H.len (aj _) H.all
theorem Row.aeT{W w:World}{rb B:Nat}{acc:List V}{av:Option Addr}{m cv:Nat}{ps:List Kd}(H:Row W rb B acc av m cv ps w):nR B w acc av:=by
 have:=uP H.row H.len (aj _) H.all;rw[H.map]at this;exact this
def Out(rb:Nat)(e:Int)(w:World)(g:ZX V)(e':Ending)(w':World):Prop:=match g with
 | .ok (v,r)=>∃ao cap,e'= .returned (.agg #[.int .i64 v.kind,.int .i64 v.k,.int .i64 v.n,.slice ao v.l.length cap])/\lY w.heap.size none w' v ao/\RS w' rb e r/\Kr rb w w'
 | .error x=>e'= .panicked (r9 x)/\Kr rb w w'
def iU(ts:List Tk):Prop:=∀t∈ts,good t/\dH t.n
theorem iU.aeU{ts:List Tk}(h:iU ts):∀t∈ts,good t:=fun t ht=>(h t ht).1
theorem iU.rest{p r:List Tk}(h:iU (p++r)):iU r:=fun t ht=>h t (aK.2 (.inr ht))
theorem Vg(L:List (List UInt8))(hL:L.length<=21)(t:List UInt8):dH (kH L t:Int):=by
 have:=zF L t;unfold dH;omega
theorem Nu{e:Int}{ts r:List Tk}{x:Int×Int×Int}(hF:iU ts)(h:sF e ts= .ok (x,r)):(1<=x.1/\x.1<=21)/\dH x.2.1/\dH x.2.2/\iU r/\r.length<ts.length:=by
 obtain⟨t,r1,rfl,h1,h2,h3⟩:=KE h;have hk:=zF Zf t.text;rw[iM]at hk;have h0:dH 0:=by unfold dH;omega
 have hF1:iU r1:=iU.rest (p:=[t]) hF;refine⟨by omega, ?_⟩;unfold kM at h3;split at h3;obtain⟨u,r2,h4,h5⟩:=iL h3;obtain⟨rfl,_⟩:=Aw h4;simp only[ed,df]at h5;obtain⟨e1,rfl⟩:=h5;rw[<-e1];exact⟨h0,(hF1 u (by simp)).2,iU.rest (p:=[u]) hF1,by simp;omega⟩
 ·split at h3;obtain⟨k,r2,h4,h5⟩:=iL h3;obtain⟨u,rfl,_,rfl,_⟩:=Au h4;simp only[ed,df]at h5;obtain⟨e1,rfl⟩:=h5;rw[<-e1];exact⟨(hF1 u (by simp)).2,h0,iU.rest (p:=[u]) hF1,by simp;omega⟩
  ·split at h3;obtain⟨k,r2,h4,h5⟩:=iL h3;obtain⟨u,rfl,_,rfl⟩:=yo h4;simp only[ed,df]at h5;obtain⟨e1,rfl⟩:=h5;rw[<-e1];exact⟨Vg Zo (by decide) _,h0,iU.rest (p:=[u]) hF1,by simp;omega⟩;simp only[ed,df]at h3;obtain⟨e1,rfl⟩:=h3;rw[<-e1];exact⟨h0,h0,hF1,by simp⟩
theorem Di(g:List Tk->ZX V)(n j:Nat)(hj:j<n)(acc:List V)(ts:List Tk):qb g (n-j) acc ts=andThen (g ts) fun v r=>qb g (n-(j+1)) (acc++[v]) r:=by
 rw[show n-j=(n-(j+1))+1 by omega,qb]
theorem NP(g:List Tk->ZX V)(n:Nat)(acc:List V)(ts:List Tk):qb g (n-n) acc ts= .ok (acc,ts):=by rw[Nat.sub_self,qb]
theorem Sw(k:Int):Y5 k<=3:=by
 unfold Y5;repeat' split
 all_goals omega
theorem NT{k:Int}(h:1<=k/\k<=21):0<=Y5 k:=by
 rcases VF k with h1|h1;rcases h1 with rfl|rfl|rfl|rfl|rfl|rfl|rfl|rfl|rfl|rfl|rfl|rfl|rfl|rfl|rfl|rfl|rfl|rfl|rfl|rfl|rfl<;>decide;omega
theorem LU(e:Int)(rb:Nat)(ts:List Tk)(w:World)(h:RS w rb e ts):Calls prog 215 #[.pointer (some ⟨rb,0,none⟩),.int .i64 31] w (Out rb e w (jT e 0 ts)):=by
 have HA:=hid (fun o=>WM e rb ts (w.alloc o) (h.quiet (Kp.alloc _ _)));clear h;go_enter func215,ntmps215;go_wp2_with (first
  |(go_at_call 243;refine(oV 4 (atT e ts) _).mono ?_;rintro e' w2 ⟨rfl,rfl⟩)
  |(go_at_call 244;refine(HA.out _).mono ?_;rintro e' w1 ⟨rfl,rfl⟩))
 exact⟨rfl,rfl,Kp.alloc _ _⟩
structure ESt(W:World)(rb:Nat)(e kd kk kn:Int)(g:List Tk->ZX V)(n:Nat)(tot:ZX (List V))(j:Nat)(acc:List V)(rest:List Tk)(av:Option Addr)(m cv:Nat)(ps:List Kd)(w:World):Prop where
 box:w.heap[W.heap.size]?=some (.cells #[.int .i64 kd,.int .i64 kk,.int .i64 kn,.slice av m cv] 129 (0,0))
 row:Row W rb (W.heap.size+1) acc av m cv ps w
 rs:RS w rb e rest
 tot:qb g (n-j) acc rest=tot
 fine:iU rest
 few:rest.length<=9000
 long:acc.length=j
theorem PX{w:World}{x:Nat}{a b c d y:Value}{t:TypeId}(h:w.heap[x]?=some (.cells #[a,b,c,d] t (0,0))):(w.setCell ⟨x,3,none⟩ y).heap[x]?=some (.cells #[a,b,c,y] t (0,0)):=by
 simp[World.setCell,aR,h]
theorem ESt.push{W w w3 w1:World}{rb:Nat}{e kd kk kn:Int}{g:List Tk->ZX V}{n:Nat}{tot:ZX (List V)}{j:Nat}{acc:List V}{rest r:List Tk}{av:Option Addr}{m cv:Nat}{ps:List Kd}{v:V}{a:Option Addr}{c gg cap:Nat}{o:Obj}(H:ESt W rb e kd kk kn g n tot j acc rest av m cv ps w)(hr:rb<W.heap.size)(hj:j<n)(hv:g rest= .ok (v,r))(hF:iU r)(hl:r.length<=9000)
 (q3:Kr rb w.drew w3) (hc:lY w.heap.size none w3 v a) (hs:RS w3 rb e r)
 (hr1:w1.ownsRow (W.heap.size+1) 129 4 (.slice (some ⟨gg,0,none⟩) (m+1) cap) (m+1) (eB ps++Zv (v,a,c))) (hg:(w3.alloc o).grownBy w1 (Value.slice av m cv).ownBlock) (hat:(Value.slice av m cv).ownBlock=some gg\/gg=w3.heap.size+1):
 ESt W rb e kd kk kn g n tot (j+1) (acc++[v]) r (some ⟨gg,0,none⟩) (m+1) cap (ps++[(v,a,c)]) (w1.setCell ⟨W.heap.size,3,none⟩ (.slice (some ⟨gg,0,none⟩) (m+1) cap))/\w1.cell? ⟨W.heap.size,3,none⟩=some (.slice av m cv)/\w1.frozen? ⟨W.heap.size,3,none⟩=false:=by
 obtain⟨k1,k2,k3⟩:=H.row.push (x:=W.heap.size) (j:=3) hr (Nat.lt_succ_self _) (aj _) q3 hc hs hr1 hg hat;have hb:=k3.trans H.box;refine⟨⟨PX hb,k1,k2, ?_,hF,hl,by rw[ak,H.long];rfl⟩,(nH hb).2.2.2,YZ hb 3⟩;have h0:=H.tot;rw[Di g n j hj,hv]at h0;exact h0
theorem NW{w W w5:World}{rb:Nat}{e kd kk kn:Int}{acc:List V}{r:List Tk}{av:Option Addr}{m cv:Nat}{ps:List Kd}{o0:Obj}(hr:rb<w.heap.size)(q:Kr rb (w.alloc o0) W)(H:Row W rb (W.heap.size+1) acc av m cv ps w5)(hs:RS w5 rb e r)(hf:V.fits ⟨kd,kk,kn,acc⟩)(a b c d:Value):
 lY w.heap.size none ((((w5.setCell ⟨w.heap.size,0,none⟩ a).setCell ⟨w.heap.size,1,none⟩ b).setCell ⟨w.heap.size,2,none⟩ c).setCell ⟨w.heap.size,3,none⟩ d) ⟨kd,kk,kn,acc⟩ av/\RS ((((w5.setCell ⟨w.heap.size,0,none⟩ a).setCell ⟨w.heap.size,1,none⟩ b).setCell ⟨w.heap.size,2,none⟩ c).setCell ⟨w.heap.size,3,none⟩ d) rb e r/\Kr rb w ((((w5.setCell ⟨w.heap.size,0,none⟩ a).setCell ⟨w.heap.size,1,none⟩ b).setCell ⟨w.heap.size,2,none⟩ c).setCell ⟨w.heap.size,3,none⟩ d):=by
 have hW:w.heap.size+1<=W.heap.size:=by have:=q.size;simpa using this
 have h1:lY (W.heap.size+1) none w5 ⟨kd,kk,kn,acc⟩ av:=Row.hold (v:=⟨kd,kk,kn,acc⟩) H hf;have hk:Kp (fun k=>k=w.heap.size) w5 ((((w5.setCell ⟨w.heap.size,0,none⟩ a).setCell ⟨w.heap.size,1,none⟩ b).setCell ⟨w.heap.size,2,none⟩ c).setCell ⟨w.heap.size,3,none⟩ d):=(((bF _ _ _ _).trans (bF _ _ _ _)).trans (bF _ _ _ _)).trans (bF _ _ _ _);refine⟨(h1.step (fun k h2 h3 _=>hk.block k h3 (by omega)) (.inl rfl)).wider (by omega), ?_⟩;exact Lx hr (q.trans H.kr) hs a b c d
theorem QV(e:Int)(rb:Nat):∀(f:Nat)(o:Int)(ts:List Tk)(w:World),o+f=31->0<=o->RS w rb e ts->Rd w rb->iU ts->ts.length<=9000->
 Calls prog 215 #[.pointer (some ⟨rb,0,none⟩),.int .i64 o] w (Out rb e w (jT e f ts)):=by
 obtain⟨i0,hi0,hz0,hz1,hz2⟩:=bM fM;intro f;induction f with
 |zero=>
  intro o ts w ho _ h _ _ _;obtain rfl:o=31:=by omega
  exact LU e rb ts w h
 |succ f ih=>
  intro o ts w ho ho0 h hw hF hl;have aih:¬30<o:=by omega
  have hlt:=h.lt;have ho1:(o+1)+(f:Int)=31:=by omega
  have hwr:IntKind.i64.wrap (o+1)=o+1:=by rw[eQ];omega
  cases h1:kG e Vd ts with
  |error x=>
   have hG:jT e (f+1) ts= .error x:=(by rw[jT,h1];rfl);rw[hG];have HS:=hid (fun o'=>zP e rb Vd ts x (w.alloc o') (h.quiet (Kp.alloc _ _)) h1);clear h hw hF hl h1 hG ih;go_enter func215,ntmps215;go_wp2_with (go_at_call 214;refine(HS.out _).mono ?_;rintro e' w1 ⟨rfl,q1⟩);exact⟨rfl,rfl,(Kp.alloc _ _).trans q1⟩
  |ok y=>
   obtain⟨u,r1⟩:=y;obtain⟨t1,hts,_⟩:=nV h1;have hF1:iU r1:=(by rw[hts]at hF;exact iU.rest (p:=[t1]) hF);have hl1:r1.length<=9000:=(by rw[hts]at hl;simp at hl;omega);have HS:=hid (fun o'=>Dv e rb Vd ts r1 u (w.alloc o') (h.quiet (Kp.alloc _ _)) h1);have HW:=hid (fun(o':Obj) (w1:World) (q:Kr rb (w.alloc o') w1)=>(hw.quiet (Kp.alloc _ _)).kr q);cases h2:sF e r1 with
   |error x=>
    have hG:jT e (f+1) ts= .error x:=(by rw[jT,h1];simp only[andThen];rw[h2]);rw[hG];have HH:=hid (fun(w1:World) (h1:RS w1 rb e r1) (hd:Rd w1 rb)=>MO e rb x r1 w1 h1 hd hF1.aeU h2);clear h hw hF hl h1 hG ih hts hF1 hl1 h2;go_enter func215,ntmps215;go_wp2_with (first
     |(go_at_call 245;refine(HH.out w1 h1 (HW.out _ _ q1)).mono ?_;rintro e' w2 ⟨rfl,q2⟩)
     |(go_at_call 214;refine(HS.out _).mono ?_;rintro e' w1 ⟨rfl,h1,q1⟩))
    exact⟨rfl,rfl,(Kp.alloc _ _).trans (q1.trans q2)⟩
   |ok y=>
    obtain⟨⟨kd,kk,kn⟩,r2⟩:=y;obtain⟨hkd,hkk,hkn,hF2,hl2⟩:=Nu hF1 h2;simp only at hkd hkk hkn;obtain⟨n,hn⟩:∃n:Nat,Y5 kd=(n:Int):=⟨(Y5 kd).toNat,by have:=NT hkd;omega⟩;have hn3:n<=3:=(by have:=Sw kd;omega);have hfit:∀acc:List V,V.fits ⟨kd,kk,kn,acc⟩:=fun acc=>⟨(show dH kd by unfold dH;omega),hkk,hkn⟩;obtain⟨tot,htot⟩:∃tot,tot=qb (jT e f) n [] r2:=⟨_,rfl⟩;obtain⟨G,hG⟩:∃G,G=jT e (f+1) ts:=⟨_,rfl⟩;have hGt:G=andThen tot fun l r=>andThen (kG e Ph r) fun _ r=> .ok (⟨kd,kk,kn,l⟩,r):=by
     rw[hG,jT,h1];simp only[andThen];rw[h2];simp only;rw[hn,Int.toNat_natCast,<-htot]
    rw[<-hG];have HH:=hid (fun(w1:World) (h1:RS w1 rb e r1) (hd:Rd w1 rb)=>SG e rb (kd,kk,kn) r1 r2 w1 h1 hd h2);have HG:=Dq hGt htot hF2 hfit (show r2.length<=9000 by omega) ih;clear h hw hF hl h1 hG ih hts hF1 hl1 h2 hl2 hfit hGt htot hF2 hkk hkn;go_enter func215,ntmps215;go_wp2_with (first
     |(go_at_call 246;refine(jN kd _).mono ?_;rintro e' w3 ⟨rfl,rfl⟩;rw[hn])
     |(go_at_call 245;refine(HH.out w1 h1 (HW.out _ _ q1)).mono ?_;rintro e' w2 ⟨rfl,h2,q2⟩;replace q2:=q1.trans q2)
     |(go_at_call 214;refine(HS.out _).mono ?_;rintro e' w1 ⟨rfl,h1,q1⟩))
    have hd2:=HW.out _ _ q2;have HB:=gp h2 q2 hd2;have hlt2:rb<w2.heap.size:=h2.lt;have hz2':w.heap.size+1<=w2.heap.size:=(by have:=q2.size;simpa using this);clear h1 h2 q1 q2 hd2 HS HH HW;go_loopw [18] (fun i wr=>∃(j m:Nat) (av:Option Addr) (cv:Nat) (ps:List Kd) (acc:List V) (rest:List Tk),i= .int .i64 j/\j<=n/\Hid (ESt w2 rb e kd kk kn (jT e f) n tot j acc rest av m cv ps wr)) (fun i _=>n-(intOf i).toNat);case atStart=>
     refine⟨0,0,none,0,[],[],r2,rfl,aP _, ?_⟩;exact⟨ah w2 _,Row.nil _ _ _ _ (Kp.alloc _ _) (by simp),HB.out.1.quiet (Kp.alloc _ _),by rw[Nat.sub_zero];exact HG.out.2.1.symm,HG.out.2.2.1,HG.out.2.2.2.2.1,rfl⟩
    case round=>
     obtain⟨j,m,av,cv,ps,acc,rest,rfl,hj,HE⟩:=hrel;have hbx:=HE.out.box;obtain⟨c0,c1,c2,c3⟩:=nH hbx;have ad3:w2.heap.size+1<=wr.heap.size:=HE.out.row.sz;clear hbx;by_cases hlt3:j<n
     ·cases hx:jT e f rest with
      |error x=>
       have hT:G= .error x:=by
            have h0:=HE.out.tot;rw[Di _ n j hlt3,hx]at h0;rw[HG.out.1,<-h0];rfl
       have HC:=hid (HG.out.2.2.2.2.2 (o+1) rest wr.drew ho1 (by omega) (HE.out.rs.quiet (Kp.drew _)) ((HB.out.2.2.kr HE.out.row.kr).quiet (Kp.drew _)) HE.out.fine HE.out.few);rw[hx]at HC;have HQ:=hid (show Kr rb w wr.drew from(Kp.alloc _ _).trans ((HB.out.2.1.trans HE.out.row.kr).trans (Kp.drew _)));clear hx;rw[hT];clear hT;go_wp2;go_region_dies;all_goals
            refine HC.out.mono ?_;rintro e' w3 ⟨rfl,q3⟩;exact⟨rfl,rfl,HQ.out.trans q3⟩
      |ok y=>
       obtain⟨v,r'⟩:=y;have HC:=hid (HG.out.2.2.2.2.2 (o+1) rest wr.drew ho1 (by omega) (HE.out.rs.quiet (Kp.drew _)) ((HB.out.2.2.kr HE.out.row.kr).quiet (Kp.drew _)) HE.out.fine HE.out.few);rw[hx]at HC;obtain⟨p,hp,_⟩:=uZ e f rest v r' hx;have hF':iU r':=iU.rest (p:=p) (hp▸HE.out.fine);have hl':r'.length<=9000:=(by have:=HE.out.few;rw[hp]at this;simp at this;omega);have HX:=gp hx hF' hl';have HR:=hid HE.out.row.row;have hm3:m<=3:=(by have:=HE.out.row.lens;have:=HE.out.long;omega);clear hx hp hF' hl';go_wp2;go_region_law ((first
            |(refine dM _ (by rfl) _ _ _ (by rfl) (w2.heap.size+1) 129 i0 _ 4 48 fE hi0 hz0 hz1 hz2 rfl (by omega) (.slice av m cv) m (eB ps) (by rfl) hr3 ⟨w3.heap.size,0,none⟩ 1 1 (Zv (v,xa,xc)) (by rfl) (by rfl) (gT w3 _ 129) (jO _) (by omega) (by unfold maxLen;omega) (by omega) (by simp;omega) (w3.heap.size+1) (by simp) ?_;intro gg cap2 w1 hown1 hgrow hat hlt1;have hD:=HE.out.push hlt2 hlt3 HX.out.1 HX.out.2.1 HX.out.2.2 q3 h3 s3 hown1 hgrow hat;have e1:=hD.2.1;have e2:=hD.2.2;have HD:=hid hD.1;clear hown1 hgrow hat hlt1 hD)
            |(go_simp;go_at_call 215;refine HC.out.mono ?_;rintro e' w3 ⟨xa,xc,rfl,h3,s3,q3⟩;have u3:w3.cell? ⟨w2.heap.size,3,none⟩=some (.slice av m cv):=q3.cell c3 (show¬w2.heap.size=rb by omega);have u4:(w3.alloc (.cells #[.int .i64 v.kind,.int .i64 v.k,.int .i64 v.n,.slice xa v.l.length xc] 129)).cell? ⟨w2.heap.size,3,none⟩=some (.slice av m cv):=(Kp.alloc (F:=fun _=>False) _ _).cell u3 (fun e=>e);have hr3:=(q3.row (HR.out.drew) (fun k e1 e2=>(by have:=(HR.out.lt k e1).1;omega))).alloc (.cells #[.int .i64 v.kind,.int .i64 v.k,.int .i64 v.n,.slice xa v.l.length xc] 129);have z3:w2.heap.size+1<=w3.heap.size:=aF ad3 q3.size)))
       all_goals
            go_wp2;exact⟨⟨j+1,_,_,_,_,_,_,by go_num,by omega,HD⟩,by simp[intOf];omega⟩
     ·obtain rfl:j=n:=(by omega);have hT:G=andThen (kG e Ph rest) fun _ r=> .ok (⟨kd,kk,kn,acc⟩,r):=by
            have h0:=HE.out.tot;rw[NP]at h0;rw[HG.out.1,<-h0];rfl
      cases h5:kG e Ph rest with
      |error x=>
       have hT2:G= .error x:=(by rw[hT,h5];rfl);have HS:=hid (zP e rb Ph rest x wr HE.out.rs h5);have HQ:=hid (show Kr rb w wr from(Kp.alloc _ _).trans (HB.out.2.1.trans HE.out.row.kr));clear hT h5;subst hT2;go_wp2_with (go_at_call 214;refine HS.out.mono ?_;rintro e' w3 ⟨rfl,q3⟩);exact⟨rfl,rfl,HQ.out.trans q3⟩
      |ok y=>
       obtain⟨u5,r5⟩:=y;have hT2:G= .ok (⟨kd,kk,kn,acc⟩,r5):=(by rw[hT,h5];rfl);have HS:=hid (Dv e rb Ph rest r5 u5 wr HE.out.rs h5);have hm:=hid HE.out.row.lens;clear hT h5;subst hT2;have hb0:∀w3,Kr rb wr w3->w3.heap[w.heap.size]?=some (.cells #[.int .i64 0,.int .i64 0,.int .i64 0,.slice none 0 0] 129 (0,0)):=fun w3 q=>rT hlt ((HB.out.2.1.trans HE.out.row.kr).trans q);have hbx:∀w3,Kr rb wr w3->w3.heap[w2.heap.size]?=some (.cells #[.int .i64 kd,.int .i64 kk,.int .i64 kn,.slice av m cv] 129 (0,0)):=fun w3 q=>(q.block _ (by omega) (by omega)).trans HE.out.box;go_wp2_with (go_at_call 214;refine HS.out.mono ?_;rintro e' w3 ⟨rfl,s3,q3⟩;obtain⟨x0,x1,x2,x3⟩:=nH (hb0 w3 q3);obtain⟨y0,y1,y2,y3⟩:=nH (hbx w3 q3);have hf0:=YZ (hb0 w3 q3));refine au (v:= .agg #[.int .i64 kd,.int .i64 kk,.int .i64 kn,.slice av m cv]) (by simp[results,results215,go_sem,x0,x1,x2,x3]) rfl ?_;refine⟨av,cv,by rw[hm.out], ?_⟩;exact NW hlt HB.out.2.1 (HE.out.row.kp (by omega) q3) s3 (HG.out.2.2.2.1 acc) _ _ _ _
def YI(rb:Nat)(w:World)(g:ZX (List V))(e':Ending)(w':World):Prop:=match g with
 | .ok (l,_)=>∃ao cap,e'= .returned (.agg #[.slice ao l.length cap])/\nR w.heap.size w' l ao/\Kr rb w w'
 | .error x=>e'= .panicked (r9 x)/\Kr rb w w'
structure MSt(W:World)(rb:Nat)(e:Int)(tot:ZX (List V))(acc:List V)(rest:List Tk)(av:Option Addr)(m cv:Nat)(ps:List Kd)(w:World):Prop where
 box:w.heap[W.heap.size]?=some (.cells #[.slice av m cv] 92 (0,0))
 row:Row W rb (W.heap.size+1) acc av m cv ps w
 rs:RS w rb e rest
 tot:gU e acc rest=tot
 fine:iU rest
 few:acc.length+rest.length<=9000
theorem RL{w:World}{x:Nat}{a y:Value}{t:TypeId}(h:w.heap[x]?=some (.cells #[a] t (0,0))):(w.setCell ⟨x,0,none⟩ y).heap[x]?=some (.cells #[y] t (0,0)):=by
 simp[World.setCell,aR,h]
theorem aar{w:World}{x:Nat}{a:Value}{t:TypeId}(h:w.heap[x]?=some (.cells #[a] t (0,0))):w.cell? ⟨x,0,none⟩=some a:=by simp[World.cell?,h]
theorem MSt.kp{W w w':World}{rb:Nat}{e:Int}{tot:ZX (List V)}{acc:List V}{rest:List Tk}{av:Option Addr}{m cv:Nat}{ps:List Kd}(H:MSt W rb e tot acc rest av m cv ps w)(hr:rb<W.heap.size)(q:Kr rb w w'):
 w'.heap[W.heap.size]?=some (.cells #[.slice av m cv] 92 (0,0))/\Row W rb (W.heap.size+1) acc av m cv ps w':=
 ⟨(q.block _ (ae H.box) (by omega)).trans H.box,H.row.kp (by omega) q⟩
theorem SV{W w w3 w1:World}{rb:Nat}{e:Int}{tot:ZX (List V)}{acc:List V}{r:List Tk}{av:Option Addr}{m cv:Nat}{ps:List Kd}{v:V}{a:Option Addr}{c gg cap:Nat}{o:Obj}(hb:w.heap[W.heap.size]?=some (.cells #[.slice av m cv] 92 (0,0)))(H:Row W rb (W.heap.size+1) acc av m cv ps w)(hr:rb<W.heap.size)(ht:gU e (acc++[v]) r=tot)(hF:iU r)(hl:acc.length+1+r.length<=9000)
 (q3:Kr rb w.drew w3) (hc:lY w.heap.size none w3 v a) (hs:RS w3 rb e r)
 (hr1:w1.ownsRow (W.heap.size+1) 129 4 (.slice (some ⟨gg,0,none⟩) (m+1) cap) (m+1) (eB ps++Zv (v,a,c))) (hg:(w3.alloc o).grownBy w1 (Value.slice av m cv).ownBlock) (hat:(Value.slice av m cv).ownBlock=some gg\/gg=w3.heap.size+1):
 MSt W rb e tot (acc++[v]) r (some ⟨gg,0,none⟩) (m+1) cap (ps++[(v,a,c)]) (w1.setCell ⟨W.heap.size,0,none⟩ (.slice (some ⟨gg,0,none⟩) (m+1) cap))/\w1.cell? ⟨W.heap.size,0,none⟩=some (.slice av m cv)/\w1.frozen? ⟨W.heap.size,0,none⟩=false:=by
 obtain⟨k1,k2,k3⟩:=H.push (x:=W.heap.size) (j:=0) hr (Nat.lt_succ_self _) (aj _) q3 hc hs hr1 hg hat;have hb2:=k3.trans hb;exact⟨⟨RL hb2,k1,k2,ht,hF,by rw[ak,aJ];exact hl⟩,aar hb2,YZ hb2 0⟩
theorem nR.step{lo:Nat}{w w':World}{l:List V}{ao:Option Addr}(h:nR lo w l ao)(hk:∀k,lo<=k->k<w.heap.size->w'.heap[k]?=w.heap[k]?):nR lo w' l ao:=
 fun w2 h2=>h w2 fun k c t h1 hc=>h2 k c t h1 ((hk k h1 (ae hc)).trans hc)
theorem nR.wider{lo lo':Nat}{w:World}{l:List V}{ao:Option Addr}(h:nR lo w l ao)(hl:lo'<=lo):nR lo' w l ao:=
 fun w2 h2=>h w2 fun k c t h1 hc=>h2 k c t (by omega) hc
theorem Sk{w W w5:World}{rb:Nat}{acc:List V}{av:Option Addr}{m cv:Nat}{ps:List Kd}{o0:Obj}(q:Kr rb (w.alloc o0) W)(H:Row W rb (W.heap.size+1) acc av m cv ps w5)(a:Value):
 nR w.heap.size (w5.setCell ⟨w.heap.size,0,none⟩ a) acc av/\Kr rb w (w5.setCell ⟨w.heap.size,0,none⟩ a):=by
 have hW:w.heap.size+1<=W.heap.size:=by have:=q.size;simpa using this
 have hk:Kp (fun k=>k=w.heap.size) w5 (w5.setCell ⟨w.heap.size,0,none⟩ a):=bF _ _ _ _;refine⟨(H.aeT.step fun k h1 h2=>hk.block k h2 (by omega)).wider (by omega), ?_⟩;exact((Kp.alloc w o0).trans (q.trans H.kr)).fresh (hk.mono fun k _ e=>by omega)
theorem wh(e:Int)(rb:Nat)(ts:List Tk)(w:World)(h:RS w rb e ts)(hw:Rd w rb)(hF:iU ts)(hl:ts.length<=9000):
 Calls prog 187 #[.pointer (some ⟨rb,0,none⟩)] w (YI rb w (gU e [] ts)):=by
 obtain⟨i0,hi0,hz0,hz1,hz2⟩:=bM fM;have hlt:=h.lt;obtain⟨tot,htot⟩:∃tot,tot=gU e [] ts:=⟨_,rfl⟩;rw[<-htot];obtain⟨W,hW⟩:∃W,W=w.alloc (.cells #[.slice none 0 0] 92):=⟨_,rfl⟩;have hsW:W.heap.size=w.heap.size+1:=by rw[hW];simp
 have hst:MSt W rb e tot [] ts none 0 0 [] (W.alloc (.cells #[.slice none 0 0] 92)):=by
  refine⟨ah W _,Row.nil _ _ _ _ (Kp.alloc _ _) (by simp), ?_,htot.symm,hF,by simpa using hl⟩;rw[hW];exact(h.quiet (Kp.alloc _ _)).quiet (Kp.alloc _ _)
 have HST:=hid hst;have HW:=gp hW hsW (show Rd W rb by rw[hW];exact hw.quiet (Kp.alloc _ _));have hltW:rb<W.heap.size:=by omega
 clear h hF hl htot hst hw hW hsW;go_enter func187,ntmps187;go_wp2;rw[<-HW.out.1];rw[<-HW.out.2.1];go_loopg [] ts.length (fun gk wr=>∃(m:Nat) (av:Option Addr) (cv:Nat) (ps:List Kd) (acc:List V) (rest:List Tk),gk=rest.length/\Hid (MSt W rb e tot acc rest av m cv ps wr));case atStart=>exact⟨0,none,0,[],[],ts,rfl,HST⟩
 case round=>
  obtain⟨m,av,cv,ps,acc,rest,hgk,HE⟩:=hrel;have ad3:W.heap.size+1<=wr.heap.size:=HE.out.row.sz;have hzw:w.heap.size<W.heap.size:=by have:=HW.out.2.1;omega
  cases rest with
  |nil=>
   obtain⟨ao,cap,hb,_,_⟩:=HE.out.rs;obtain⟨b0,b1⟩:=Z6 hb;simp only[bf]at b0;have hT:tot= .ok (acc,[]):=(by rw[<-HE.out.tot,EB]);have c0:=aar HE.out.box;have hb0:wr.heap[w.heap.size]?=some (.cells #[.slice none 0 0] 92 (0,0)):=by
    rw[HE.out.row.kr.block _ hzw (by omega),HW.out.1];exact ah w _
   have d0:=aar hb0;have hf0:=YZ hb0;have hm:=hid HE.out.row.lens;subst hT;clear hb hb0;go_wp2;refine au (v:= .agg #[.slice av m cv]) (by simp[results,results187,go_sem,d0]) rfl ?_;refine⟨av,cv,by rw[hm.out], ?_⟩;exact Sk (o0:= .cells #[.slice none 0 0] 92) (by rw[HW.out.1];exact Kp.refl _ _) HE.out.row _
  |cons t r=>
   obtain⟨ao,cap,hb,_,_⟩:=HE.out.rs;obtain⟨b0,b1⟩:=Z6 hb;simp only[aL]at b0;clear hb;cases h1:kG e J5 (t::r)with
   |error x=>
    have hT:tot= .error x:=(by rw[<-HE.out.tot,xH,h1];rfl);have HS:=hid (zP e rb J5 (t::r) x wr HE.out.rs h1);have HQ:=hid (show Kr rb w wr from(show Kr rb w W by rw[HW.out.1];exact Kp.alloc _ _).trans HE.out.row.kr);subst hT;clear h1;go_wp2_with (go_at_call 214;refine HS.out.mono ?_;rintro e' w3 ⟨rfl,q3⟩);exact⟨rfl,rfl,HQ.out.trans q3⟩
   |ok y=>
    obtain⟨u,r1⟩:=y;obtain⟨t',h2,_⟩:=nV h1;cases h2;have HS:=hid (Dv e rb J5 (t::r) r u wr HE.out.rs h1);have hT0:tot=andThen (jT e 31 r) fun v r=>gU e (acc++[v]) r:=(by rw[<-HE.out.tot,xH,h1];rfl);have hFr:iU r:=iU.rest (p:=[t]) HE.out.fine;have hlr:acc.length+1+r.length<=9000:=(by have:=HE.out.few;rw[aL]at this;omega);have HC:=hid (fun(w1:World) (s1:RS w1 rb e r) (q1:Kr rb wr w1)=>QV e rb 31 0 r w1.drew (by decide) (by decide) (s1.quiet (Kp.drew _)) (((HW.out.2.2.kr HE.out.row.kr).kr q1).quiet (Kp.drew _)) hFr (by omega));have HK:=hid (fun(w1:World) (q1:Kr rb wr w1)=>HE.out.kp hltW q1);have hm9:m<=9000:=(by have:=HE.out.row.lens;omega);cases h2:jT e 31 r with
    |error x=>
     have hT:tot= .error x:=(by rw[hT0,h2];rfl);rw[h2]at HC;have HQ:=hid (show Kr rb w wr from(show Kr rb w W by rw[HW.out.1];exact Kp.alloc _ _).trans HE.out.row.kr);clear h1 h2 hT0 hFr hlr;subst hT;go_wp2_with (go_at_call 214;refine HS.out.mono ?_;rintro e' w1 ⟨rfl,s1,q1⟩;have c0:=aar (HK.out w1 q1).1);go_region_dies;all_goals
           refine(HC.out w1 s1 q1).mono ?_;rintro e' w3 ⟨rfl,q3⟩;exact⟨rfl,rfl,HQ.out.trans (q1.trans ((Kp.drew _).trans q3))⟩
    |ok y=>
     obtain⟨v,r'⟩:=y;have hT:gU e (acc++[v]) r'=tot:=(by rw[hT0,h2];rfl);rw[h2]at HC;obtain⟨p,hp,_⟩:=uZ e 31 r v r' h2;have hF':iU r':=iU.rest (p:=p) (hp▸hFr);have hpl:r'.length<=r.length:=(by rw[hp];simp);have hl':acc.length+1+r'.length<=9000:=(by omega);have HX:=yY hT hF' hl' hpl hgk;clear h1 h2 hT0 hFr hlr hT hF' hl' hpl hp hgk;go_wp2_with (go_at_call 214;refine HS.out.mono ?_;rintro e' w1 ⟨rfl,s1,q1⟩;have c0:=aar (HK.out w1 q1).1);have HR:=hid (HK.out w1 q1).2.row;have hsz1:W.heap.size+1<=w1.heap.size:=aF ad3 q1.size;go_region_law ((first
           |(refine dM _ (by rfl) _ _ _ (by rfl) (W.heap.size+1) 129 i0 _ 4 48 fE hi0 hz0 hz1 hz2 rfl (by omega) (.slice av m cv) m (eB ps) (by rfl) hr3 ⟨w3.heap.size,0,none⟩ 1 1 (Zv (v,xa,xc)) (by rfl) (by rfl) (gT w3 _ 129) (jO _) (by omega) (by unfold maxLen;omega) (by omega) (by simp;omega) (w3.heap.size+1) (by simp) ?_;intro gg cap2 w4 hown1 hgrow hat hlt1;have hD:=SV (HK.out w1 q1).1 (HK.out w1 q1).2 hltW HX.out.1 HX.out.2.1 HX.out.2.2.1 q3 h3 s3 hown1 hgrow hat;have e1:=hD.2.1;have e2:=hD.2.2;have HD:=hid hD.1;clear hown1 hgrow hat hlt1 hD)
           |(go_simp;go_at_call 215;refine(HC.out w1 s1 q1).mono ?_;rintro e' w3 ⟨xa,xc,rfl,h3,s3,q3⟩;have u3:w3.cell? ⟨W.heap.size,0,none⟩=some (.slice av m cv):=q3.cell c0 (show¬W.heap.size=rb by omega);have u4:(w3.alloc (.cells #[.int .i64 v.kind,.int .i64 v.k,.int .i64 v.n,.slice xa v.l.length xc] 129)).cell? ⟨W.heap.size,0,none⟩=some (.slice av m cv):=(Kp.alloc (F:=fun _=>False) _ _).cell u3 (fun e=>e);have hr3:=(q3.row (HR.out.drew) (fun k e1 e2=>(by have:=(HR.out.lt k e1).1;omega))).alloc (.cells #[.int .i64 v.kind,.int .i64 v.k,.int .i64 v.n,.slice xa v.l.length xc] 129);have z3:W.heap.size+1<=w3.heap.size:=aF hsz1 q3.size)))
     all_goals
           go_wp2;go_roundg r'.length;case measure=>have h7:=HX.out.2.2.2;rw[aL]at h7;omega
           case rel=>exact⟨_,_,_,_,_,r',rfl,HD⟩
theorem IX(w:World):(Instr.typeAssert .nilIface 20 270 true).run prog w= .ok (.tuple #[.agg #[.int .i64 0,.int .i64 0],.bool false]) w:=by kernel_rfl
theorem IW(c a:Int)(w:World):(Instr.typeAssert (.iface 270 (.agg #[.int .i64 c,.int .i64 a])) 20 270 true).run prog w= .ok (.tuple #[.agg #[.int .i64 c,.int .i64 a],.bool true]) w:=by kernel_rfl
theorem vK(p:Addr)(w:World):
 CallsD prog 186 #[.pointer (some p)] .returning w fun e u' w'=>e= .returned (.tuple #[])/\u'= .returning/\w'=w.alloc (.cells #[.int .i64 0,.int .i64 0] 270):=by
 refine callsD_of_wpS func186 rfl fun c₀ cs hu=> ?_;apply wpS_seq;apply wpS_region;simp[wpOpsS,go_sem,recoverD,hu,ntmps186,Exit.thenS,IX];apply wpS_seq;apply wpS_region;simp[wpOpsS,go_sem,Exit.thenS];refine wpS_cond (t:=false) (by simp[Act.eval,Array.replicate]) ?_;simp only[Bool.false_eq_true,if_false];refine wpS_of_wp (wp_skip ?_);cases c₀
 simp_all [bodyPostS,results,results186]
theorem nJ(p:Nat)(x y:Value)(c a:Int)(t:TypeId)(older:List PanicEntry)(w:World)(hb:w.heap[p]?=some (.cells #[x,y] t (0,0))):
 CallsD prog 186 #[.pointer (some ⟨p,0,none⟩)] (.panicking ({v:= .iface 270 (.agg #[.int .i64 c,.int .i64 a]),recovered:=false}::older)) w fun e u' w'=>
  e= .returned (.tuple #[])/\u'= .panicking ({v:= .iface 270 (.agg #[.int .i64 c,.int .i64 a]),recovered:=true}::older)/\w'=((w.alloc (.cells #[.int .i64 c,.int .i64 a] 270)).setCell ⟨p,0,none⟩ (.int .i64 c)).setCell ⟨p,1,none⟩ (.int .i64 a):=by
 have hlt:=ae hb;obtain⟨c0,c1⟩:=Z6 hb;have hf:=YZ hb;clear hb;refine callsD_of_wpS func186 rfl fun c₀ cs hu=> ?_;apply wpS_seq;apply wpS_region;simp[wpOpsS,go_sem,recoverD,hu,ntmps186,Exit.thenS,IW];apply wpS_seq;apply wpS_region;simp[wpOpsS,go_sem,Exit.thenS];refine wpS_cond (t:=true) (by simp[Act.eval,Array.replicate]) ?_;simp only[if_true];apply wpS_region;simp[wpOpsS,go_sem,c0,c1,hf,hlt,bodyPostS,results,results186]
theorem PU{w w':World}{a b:Obj}{rb:Nat}(hr:rb<w.heap.size)(q:Kr rb ((w.alloc a).alloc b) w'):w'.heap[w.heap.size]?=some a/\w'.heap[w.heap.size+1]?=some b:=by
 have h0:((w.alloc a).alloc b).heap[w.heap.size]?=some a:=by rw[aB _ _ _ (by simp)];exact ah w _
 have h1:=Y2 w a b;exact⟨(q.block _ (ae h0) (by omega)).trans h0,(q.block _ (ae h1) (by omega)).trans h1⟩
def YG(rb:Nat)(w:World)(g:ZX (List V))(e':Ending)(w':World):Prop:=match g with
 | .ok (l,_)=>∃ao cap,e'= .returned (.tuple #[.agg #[.slice ao l.length cap],.agg #[.int .i64 0,.int .i64 0]])/\nR w.heap.size w' l ao/\Kr rb w w'
 | .error x=>e'= .returned (.tuple #[.agg #[.slice none 0 0],.agg #[.int .i64 x.1,.int .i64 x.2]])/\Kr rb w w'
theorem aag(e:Int)(rb:Nat)(ts:List Tk)(w:World)(h:RS w rb e ts)(hw:Rd w rb)(hF:iU ts)(hl:ts.length<=9000):
 Calls prog 169 #[.pointer (some ⟨rb,0,none⟩)] w (YG rb w (gU e [] ts)):=by
 have hmf:∀(fn:Fn)(first cap:Array Value)(w:World),(Instr.makeFunc fn first cap).run prog w= .ok (.func fn first cap) w:=fun _ _ _ _=>rfl;have hlt:=h.lt;have HM:=hid (fun o1 o2=>wh e rb ts ((w.alloc o1).alloc o2) ((h.quiet (Kp.alloc _ _)).quiet (Kp.alloc _ _)) ((hw.quiet (Kp.alloc _ _)).quiet (Kp.alloc _ _)) hF hl);clear h hw hF hl;cases hm:gU e [] ts with
 |error x=>
  rw[hm]at HM;clear hm;go_enter_defers func169,ntmps169;go_wp2_with (go_at_call 187;refine(HM.out _ _).mono ?_;rintro e' w1 ⟨rfl,q1⟩);obtain⟨hb0,hb1⟩:=PU hlt q1;refine leaves_cons (f:=186) (args:= #[.pointer (some ⟨w.heap.size+1,0,none⟩)]) (by simp) (by simp[go_sem]) ?_;refine(nJ (w.heap.size+1) _ _ x.1 x.2 31 [] _ hb1).mono ?_;rintro e' u' w'' ⟨rfl,rfl,rfl⟩;have hl0:=ae hb0;have hl1:=ae hb1;have c0:=aar hb0;obtain⟨d0,d1⟩:=Z6 hb1;simp[Leaves,settle,results,results169,go_sem,c0,d0,d1,hl0,hl1];refine⟨rfl, ?_⟩;exact((Kp.alloc _ _).trans ((Kp.alloc _ _).trans q1)).fresh (((Kp.setCell (F:=fun i=>w.heap.size<=i) _ ⟨w.heap.size+1,0,none⟩ _ (dA _)).trans (Kp.setCell _ ⟨w.heap.size+1,1,none⟩ _ (dA _))).trans (Kp.alloc _ _))
 |ok y=>
  obtain⟨l,r⟩:=y;rw[hm]at HM;clear hm;go_enter_defers func169,ntmps169;go_wp2_with (go_at_call 187;refine(HM.out _ _).mono ?_;rintro e' w1 ⟨ao,cap,rfl,h1,q1⟩;obtain⟨hb0,hb1⟩:=PU hlt q1;have c0:=aar hb0;have f0:=YZ hb0;obtain⟨d0,d1⟩:=Z6 hb1;have f1:=YZ hb1;have hl0:=ae hb0;have hl1:=ae hb1);refine leaves_cons (f:=186) (args:= #[.pointer (some ⟨w.heap.size+1,0,none⟩)]) (by simp) (by simp[go_sem]) ?_;refine(vK _ _).mono ?_;rintro e' u' w'' ⟨rfl,rfl,rfl⟩;simp[Leaves,settle,results,results169,go_sem,c0,d0,d1,hl0,hl1];have hk:Kp (fun i=>i=w.heap.size\/i=w.heap.size+1) w1 ((((w1.setCell ⟨w.heap.size,0,none⟩ (.slice ao l.length cap)).setCell ⟨w.heap.size+1,0,none⟩ (.int .i64 0)).setCell ⟨w.heap.size+1,1,none⟩ (.int .i64 0)).alloc (.cells #[.int .i64 0,.int .i64 0] 270)):=
   (((Kp.setCell _ ⟨w.heap.size,0,none⟩ _ (.inl rfl)).trans (Kp.setCell _ ⟨w.heap.size+1,0,none⟩ _ (.inr rfl))).trans (Kp.setCell _ ⟨w.heap.size+1,1,none⟩ _ (.inr rfl))).trans (Kp.alloc _ _)
  refine⟨ao,cap,rfl, ?_, ?_⟩;have hz:((w.alloc (.cells #[.slice none 0 0] 92)).alloc (.cells #[.int .i64 0,.int .i64 0] 31)).heap.size=w.heap.size+2:=(by simp);rw[hz]at h1;exact(h1.step fun k h2 h3=>hk.block k h3 (by omega)).wider (by omega);exact((Kp.alloc _ _).trans ((Kp.alloc _ _).trans q1)).fresh (hk.mono fun k _ e=>by omega)
theorem Um(l:List UInt8)(i S:Nat)(n:Int)(hi:i<l.length)(hl:l.length<=9000)(hS:Hid (gF jG l (i+1)=S))(s1:i<=S)(s2:S<=l.length)(c:List UInt8)(hc:Hid (cut l i S=c))(hcl:c.length<=9000)
 (h1:Hid (Lib.parseIntB 64 c= .ok n)) (h2:Hid (Lib.itoa n=c)) (w:World) (hw:Laid w):
 Calls prog 213 #[.string ⟨l.toArray⟩,.int .i64 i] w fun e w'=>e= .returned (.tuple #[.agg #[.int .i64 i,.string ⟨c.toArray⟩,.bool true,.int .i64 n],.bool true])/\aA w w':=by
 have hn:=Z7 h1.out;have E0:∀w,Calls prog 183 #[.string ⟨l.toArray⟩,.int .i64 ((i:Int)+1),.func (.func 212) #[] #[]] w fun e w'=>e= .returned (.int .i64 (S:Nat))/\w'=w:=by
  intro w;have:=Cm l (i+1) w hl (by omega);rw[hS.out]at this
  exact_mod_cast this
 have E1:∀w,Calls prog 210 #[.string ⟨l.toArray⟩,.int .i64 i,.int .i64 S] w fun e w'=>e= .returned (.string ⟨c.toArray⟩)/\aA w w':=by
  intro w;have:=uE l i S s1 s2 hl w;rw[hc.out]at this;exact this
 go_enter func213,ntmps213;go_wp2_with (first
  |(go_at_call 37;refine(Zz n hn _ (((hw.quiet (Kp.alloc _ _)).quiet q1).quiet q2)).mono ?_;rw[h2.out];rintro e w3 ⟨rfl,q3⟩;have hx:=gZ ((q1.trans q2).trans q3);obtain⟨c0,c1,c2,c3⟩:=nH hx;have hf:=YZ hx)
  |(go_at_call 46;refine(Gy c hcl n h1.out _).mono ?_;rintro e w2 ⟨rfl,q2⟩)
  |(go_at_call 210;refine(E1 _).mono ?_;rintro e w1 ⟨rfl,q1⟩)
  |(go_at_call 183;refine(E0 _).mono ?_;rintro e w0 ⟨rfl,rfl⟩))
 exact au (v:= .tuple #[.agg #[.int .i64 i,.string ⟨c.toArray⟩,.bool true,.int .i64 n],.bool true]) (by simp[results,results213,go_sem,c0,c1,c2,c3]) rfl ⟨rfl,DV ((q1.trans q2).trans q3) _ _ _ _⟩
theorem Wz(l:List UInt8)(i S:Nat)(hi:i<l.length)(hl:l.length<=9000)(hS:Hid (gF jG l (i+1)=S))(s1:i<=S)(s2:S<=l.length)(c:List UInt8)(hc:Hid (cut l i S=c))(hcl:c.length<=9000)
 (h:Hid (Za c=none)) (w:World) (hw:Laid w):
 Calls prog 213 #[.string ⟨l.toArray⟩,.int .i64 i] w fun e w'=>e= .returned (.tuple #[.agg #[.int .i64 0,.string ⟨#[]⟩,.bool false,.int .i64 0],.bool false])/\aA w w':=by
 have E0:∀w,Calls prog 183 #[.string ⟨l.toArray⟩,.int .i64 ((i:Int)+1),.func (.func 212) #[] #[]] w fun e w'=>e= .returned (.int .i64 (S:Nat))/\w'=w:=by
  intro w;have:=Cm l (i+1) w hl (by omega);rw[hS.out]at this
  exact_mod_cast this
 have E1:∀w,Calls prog 210 #[.string ⟨l.toArray⟩,.int .i64 i,.int .i64 S] w fun e w'=>e= .returned (.string ⟨c.toArray⟩)/\aA w w':=by
  intro w;have:=uE l i S s1 s2 hl w;rw[hc.out]at this;exact this
 rcases aa2 h.out with hb|⟨n,h1,h2⟩
 ·have HB:=hid hb;clear hb;go_enter func213,ntmps213;go_wp2_with (first
   |(go_at_call 46;refine(MG c hcl HB.out _ ((hw.quiet (Kp.alloc _ _)).quiet q1)).mono ?_;rintro e w2 ⟨z,tp,p,rfl,q2⟩;have hx:=gZ (q1.trans q2);obtain⟨c0,c1,c2,c3⟩:=nH hx;have hf:=YZ hx)
   |(go_at_call 210;refine(E1 _).mono ?_;rintro e w1 ⟨rfl,q1⟩)
   |(go_at_call 183;refine(E0 _).mono ?_;rintro e w0 ⟨rfl,rfl⟩))
  exact au (v:= .tuple #[.agg #[.int .i64 0,.string ⟨#[]⟩,.bool false,.int .i64 0],.bool false]) (by simp[results,results213,go_sem,c0,c1,c2,c3]) rfl ⟨rfl,DV (q1.trans q2) _ _ _ _⟩
 ·have hn:=Z7 h1;have H1:=hid h1;have hne:(Lib.itoa n==c)=false:=by simpa using h2
  clear h1 h2;go_enter func213,ntmps213;go_wp2_with (first
   |(go_at_call 37;refine(Zz n hn _ (((hw.quiet (Kp.alloc _ _)).quiet q1).quiet q2)).mono ?_;rintro e w3 ⟨rfl,q3⟩;have hx:=gZ ((q1.trans q2).trans q3);obtain⟨c0,c1,c2,c3⟩:=nH hx;have hf:=YZ hx)
   |(go_at_call 46;refine(Gy c hcl n H1.out _).mono ?_;rintro e w2 ⟨rfl,q2⟩)
   |(go_at_call 210;refine(E1 _).mono ?_;rintro e w1 ⟨rfl,q1⟩)
   |(go_at_call 183;refine(E0 _).mono ?_;rintro e w0 ⟨rfl,rfl⟩))
  exact au (v:= .tuple #[.agg #[.int .i64 0,.string ⟨#[]⟩,.bool false,.int .i64 0],.bool false]) (by simp[results,results213,go_sem,c0,c1,c2,c3]) rfl ⟨rfl,DV ((q1.trans q2).trans q3) _ _ _ _⟩
structure PE(l:List UInt8)(i:Nat)(A:Int)(B:List UInt8)(C:Bool)(D:Int)(f:Bool):Prop where
 does:∀w,Laid w->Calls prog 213 #[.string ⟨l.toArray⟩,.int .i64 i] w fun e w'=>e= .returned (.tuple #[.agg #[.int .i64 A,.string ⟨B.toArray⟩,.bool C,.int .i64 D],.bool f])/\aA w w'
theorem Lu(l:List UInt8)(i:Nat)(hi:i<l.length)(h:l[i].toNat=45\/jG l[i]=true)(A:Int)(B:List UInt8)(C:Bool)(D:Int)(f:Bool)(N:PE l i A B C D f)(w:World)(hw:Laid w):
 Calls prog 185 #[.string ⟨l.toArray⟩,.int .i64 i] w fun e w'=>e= .returned (.tuple #[.agg #[.int .i64 A,.string ⟨B.toArray⟩,.bool C,.int .i64 D],.bool f])/\aA w w':=by
 have hz:=Y8 l;have hs:i<(ByteArray.mk l.toArray).size:=by omega
 have hx:45<=l[i].toNat/\l[i].toNat<=57:=by
  rcases h with h|h;omega;simp[jG,tC]at h;omega
 generalize hc:l[i]=c at*;have hcc:((ByteArray.mk l.toArray)[i]'hs)=c:=hc;have h0:¬(c.toNat:Int)=40:=by omega
 have bh0:((c.toNat:Int)==40)=false:=by simpa using h0
 have h1:¬(c.toNat:Int)=41:=by omega
 have bh1:((c.toNat:Int)==41)=false:=by simpa using h1
 have h2:kS (c.toNat:Int)=false:=by simp[kS];omega
 have HC:=hid hc;clear hc;rcases h with h|h
 ·have h3:(c.toNat:Int)=45:=by omega
  have h4:kS 45=false:=rfl;clear h hx h0 h1 h2 bh0 bh1;go_enter func185,ntmps185;go_wp2_with (first
   |(go_at_call 213;refine(N.does _ (hw.quiet (Kp.alloc _ _))).mono ?_;rintro e w1 ⟨rfl,q1⟩;have hx:=gZ q1;obtain⟨c0,c1,c2,c3⟩:=nH hx;have hf:=YZ hx)
   |(go_at_call 211;refine(kY _ _).mono ?_;rintro e w' ⟨rfl,rfl⟩))
  exact au (v:= .tuple #[.agg #[.int .i64 A,.string ⟨B.toArray⟩,.bool C,.int .i64 D],.bool f]) (by simp[results,results185,go_sem,c0,c1,c2,c3]) rfl ⟨rfl,DV q1 _ _ _ _⟩
 ·by_cases h3:(c.toNat:Int)=45
  ·have h4:kS 45=false:=rfl;clear h hx h0 h1 h2 bh0 bh1;go_enter func185,ntmps185;go_wp2_with (first
    |(go_at_call 213;refine(N.does _ (hw.quiet (Kp.alloc _ _))).mono ?_;rintro e w1 ⟨rfl,q1⟩;have hx:=gZ q1;obtain⟨c0,c1,c2,c3⟩:=nH hx;have hf:=YZ hx)
    |(go_at_call 211;refine(kY _ _).mono ?_;rintro e w' ⟨rfl,rfl⟩))
   exact au (v:= .tuple #[.agg #[.int .i64 A,.string ⟨B.toArray⟩,.bool C,.int .i64 D],.bool f]) (by simp[results,results185,go_sem,c0,c1,c2,c3]) rfl ⟨rfl,DV q1 _ _ _ _⟩
  ·have h5:tC (c.toNat:Int)=true:=h;have bh3:((c.toNat:Int)==45)=false:=(by simpa using h3);clear h hx;go_enter func185,ntmps185;go_wp2_with (first
    |(go_at_call 213;refine(N.does _ (hw.quiet (Kp.alloc _ _))).mono ?_;rintro e w1 ⟨rfl,q1⟩;have hx:=gZ q1;obtain⟨c0,c1,c2,c3⟩:=nH hx;have hf:=YZ hx)
    |(go_at_call 212;refine(uW _ _).mono ?_;rintro e w' ⟨rfl,rfl⟩)
    |(go_at_call 211;refine(kY _ _).mono ?_;rintro e w' ⟨rfl,rfl⟩))
   exact au (v:= .tuple #[.agg #[.int .i64 A,.string ⟨B.toArray⟩,.bool C,.int .i64 D],.bool f]) (by simp[results,results185,go_sem,c0,c1,c2,c3]) rfl ⟨rfl,DV q1 _ _ _ _⟩
theorem Ux(l:List UInt8)(i:Nat)(hi:i<l.length)(h0:¬l[i].toNat=40)(h1:¬l[i].toNat=41)(h2:gJ l[i]=false)(h3:¬l[i].toNat=45)(h4:jG l[i]=false)(w:World):
 Calls prog 185 #[.string ⟨l.toArray⟩,.int .i64 i] w fun e w'=>e= .returned (.tuple #[.agg #[.int .i64 0,.string ⟨#[]⟩,.bool false,.int .i64 0],.bool false])/\aA w w':=by
 have hz:=Y8 l;have hs:i<(ByteArray.mk l.toArray).size:=by omega
 generalize hc:l[i]=c at*;have hcc:((ByteArray.mk l.toArray)[i]'hs)=c:=hc;have g0:¬(c.toNat:Int)=40:=by omega
 have bg0:((c.toNat:Int)==40)=false:=by simpa using g0
 have g1:¬(c.toNat:Int)=41:=by omega
 have bg1:((c.toNat:Int)==41)=false:=by simpa using g1
 have g2:kS (c.toNat:Int)=false:=h2;have g3:¬(c.toNat:Int)=45:=by omega
 have bg3:((c.toNat:Int)==45)=false:=by simpa using g3
 have g4:tC (c.toNat:Int)=false:=h4;clear hc h0 h1 h2 h3 h4;go_enter func185,ntmps185;go_wp2_with (first
  |(go_at_call 212;refine(uW _ _).mono ?_;rintro e w' ⟨rfl,rfl⟩)
  |(go_at_call 211;refine(kY _ _).mono ?_;rintro e w' ⟨rfl,rfl⟩))
 exact au (v:= .tuple #[.agg #[.int .i64 0,.string ⟨#[]⟩,.bool false,.int .i64 0],.bool false]) (by simp[results,results185,go_sem]) rfl ⟨rfl,Kp.alloc _ _⟩
theorem Gi(l:List UInt8)(i:Nat)(hi:i<l.length)(hl:l.length<=9000)(h:l[i].toNat=40\/l[i].toNat=41)(w:World):
 Calls prog 185 #[.string ⟨l.toArray⟩,.int .i64 i] w fun e w'=>e= .returned (.tuple #[.agg #[.int .i64 i,.string ⟨(cut l i (i+1)).toArray⟩,.bool false,.int .i64 0],.bool true])/\aA w w':=by
 have hz:=Y8 l;have hs:i<(ByteArray.mk l.toArray).size:=by omega
 have E1:∀w,Calls prog 210 #[.string ⟨l.toArray⟩,.int .i64 i,.int .i64 ((i:Int)+1)] w fun e w'=>e= .returned (.string ⟨(cut l i (i+1)).toArray⟩)/\aA w w':=by
  intro w;have:=uE l i (i+1) (by omega) (by omega) hl w
  exact_mod_cast this
 generalize hc:l[i]=c at*;have hcc:((ByteArray.mk l.toArray)[i]'hs)=c:=hc;clear hc;generalize cut l i (i+1)=t at*;rcases h with h|h
 ·have g0:(c.toNat:Int)=40:=by omega
  clear h;go_enter func185,ntmps185;go_wp2_with (go_at_call 210;refine(E1 _).mono ?_;rintro e w1 ⟨rfl,q1⟩;have hx:=gZ q1;obtain⟨c0,c1,c2,c3⟩:=nH hx;have hf:=YZ hx);exact au (v:= .tuple #[.agg #[.int .i64 i,.string ⟨t.toArray⟩,.bool false,.int .i64 0],.bool true]) (by simp[results,results185,go_sem,c0,c1,c2,c3]) rfl ⟨rfl,DV q1 _ _ _ _⟩
 ·have g0:(c.toNat:Int)=41:=by omega
  clear h;go_enter func185,ntmps185;go_wp2_with (go_at_call 210;refine(E1 _).mono ?_;rintro e w1 ⟨rfl,q1⟩;have hx:=gZ q1;obtain⟨c0,c1,c2,c3⟩:=nH hx;have hf:=YZ hx);exact au (v:= .tuple #[.agg #[.int .i64 i,.string ⟨t.toArray⟩,.bool false,.int .i64 0],.bool true]) (by simp[results,results185,go_sem,c0,c1,c2,c3]) rfl ⟨rfl,DV q1 _ _ _ _⟩
theorem SK(l:List UInt8)(i:Nat)(hi:i<l.length)(hl:l.length<=9000)(h:gJ l[i]=true)(w:World):
 Calls prog 185 #[.string ⟨l.toArray⟩,.int .i64 i] w fun e w'=>e= .returned (.tuple #[.agg #[.int .i64 i,.string ⟨(cut l i (gF gJ l i)).toArray⟩,.bool false,.int .i64 0],.bool true])/\aA w w':=by
 have hz:=Y8 l;have hs:i<(ByteArray.mk l.toArray).size:=by omega
 have E0:=fun w=>Kh l i w hl (by omega);have E1:=fun w=>uE l i (gF gJ l i) (lI gJ l i) (rG gJ l i (by omega)) hl w;generalize cut l i (gF gJ l i)=t at*;generalize gF gJ l i=S at*;have hx:97<=l[i].toNat:=by simp[gJ,kS]at h;omega
 generalize hc:l[i]=c at*;have hcc:((ByteArray.mk l.toArray)[i]'hs)=c:=hc;clear hc;have g0:¬(c.toNat:Int)=40:=by omega
 have bg0:((c.toNat:Int)==40)=false:=by simpa using g0
 have g1:¬(c.toNat:Int)=41:=by omega
 have bg1:((c.toNat:Int)==41)=false:=by simpa using g1
 have g2:kS (c.toNat:Int)=true:=h;clear h hx;go_enter func185,ntmps185;go_wp2_with (first
  |(go_at_call 210;refine(E1 _).mono ?_;rintro e w1 ⟨rfl,q1⟩;have hx:=gZ q1;obtain⟨c0,c1,c2,c3⟩:=nH hx;have hf:=YZ hx)
  |(go_at_call 183;refine(E0 _).mono ?_;rintro e w' ⟨rfl,rfl⟩)
  |(go_at_call 211;refine(kY _ _).mono ?_;rintro e w' ⟨rfl,rfl⟩))
 exact au (v:= .tuple #[.agg #[.int .i64 i,.string ⟨t.toArray⟩,.bool false,.int .i64 0],.bool true]) (by simp[results,results185,go_sem,c0,c1,c2,c3]) rfl ⟨rfl,DV q1 _ _ _ _⟩
theorem EC{l:List UInt8}{i:Nat}(hi:i<l.length)(hl:l.length<=9000){t:Tk}(h:AB l i=some t):PE l i t.pos t.text t.num t.n true:=by
 unfold AB at h;have s1:=lI jG l (i+1);have s2:=rG jG l (i+1) (by omega);obtain⟨n,hn,rfl⟩:=dF.1 h;obtain⟨h1,h2⟩:=aak hn;exact⟨fun w hw=>Um l i _ n hi hl rfl (by omega) s2 _ rfl (by rw[uI _ _ _ s2];omega) h1 h2 w hw⟩
theorem Fe{l:List UInt8}{i:Nat}(hi:i<l.length)(hl:l.length<=9000)(h:AB l i=none):PE l i 0 [] false 0 false:=by
 unfold AB at h;have s1:=lI jG l (i+1);have s2:=rG jG l (i+1) (by omega);exact⟨fun w hw=>Wz l i _ hi hl rfl (by omega) s2 _ rfl (by rw[uI _ _ _ s2];omega) (hid (by simpa using h)) w hw⟩
theorem R6(l:List UInt8)(i:Nat)(hi:i<l.length)(hl:l.length<=9000)(t:Tk)(h:kK l i=some t)(w:World)(hw:Laid w):
 Calls prog 185 #[.string ⟨l.toArray⟩,.int .i64 i] w fun e w'=>e= .returned (.tuple #[.agg #[.int .i64 t.pos,.string ⟨t.text.toArray⟩,.bool t.num,.int .i64 t.n],.bool true])/\aA w w':=by
 unfold kK at h;rw[aQ hi]at h;simp only at h;split at h;rename_i hb;cases h;exact Gi l i hi hl hb w
 ·split at h;rename_i hb;cases h;exact SK l i hi hl hb w
  ·split at h;rename_i hb;exact Lu l i hi hb _ _ _ _ _ (EC hi hl h) w hw;cases h
theorem PW(l:List UInt8)(i:Nat)(hi:i<l.length)(hl:l.length<=9000)(h:kK l i=none)(w:World)(hw:Laid w):
 Calls prog 185 #[.string ⟨l.toArray⟩,.int .i64 i] w fun e w'=>e= .returned (.tuple #[.agg #[.int .i64 0,.string ⟨#[]⟩,.bool false,.int .i64 0],.bool false])/\aA w w':=by
 unfold kK at h;rw[aQ hi]at h;simp only at h;split at h;cases h
 ·rename_i h0;split at h;cases h
  ·rename_i h1;split at h;rename_i hb;exact Lu l i hi hb _ _ _ _ _ (Fe hi hl h) w hw;rename_i h2;exact Ux l i hi (fun e=>h0 (.inl e)) (fun e=>h0 (.inr e)) (by simpa using h1) (fun e=>h2 (.inl e)) (by simpa using fun e=>h2 (.inr e)) w
theorem zi:(prog.info? 266).map (fun i=>(i.zero,i.size,i.bytes))=some (some (.agg #[.int .i64 0,.string ⟨#[]⟩,.bool false,.int .i64 0]),4,40):=by kernel_rfl
theorem zG:prog.underlying 246=some (.slice 266):=by kernel_rfl
structure SD(w:World)(l:List UInt8)(wr:World)(k:Nat)(v:Value)(acc:List Tk):Prop where
 le:k<=l.length
 few:acc.length<=k
 stopped:gF gI l k=k
 row:oM wr (w.heap.size+1) 266 v acc
 quiet:aA (w.alloc (.cells #[.int .i64 0,.int .i64 0] 31)) wr
 same:gY l k acc=gY l 0 []
theorem OP(l:List UInt8)(hl:l.length<=9000)(h:6000<l.length)(w:World):
 Calls prog 168 #[.string ⟨l.toArray⟩] w fun e w'=>e= .returned (.tuple #[.slice none 0 0,.agg #[.int .i64 3,.int .i64 6000]])/\aA w w':=by
 have hz:=Y8 l;go_enter func168,ntmps168;go_wp2;exact au (v:= .tuple #[.slice none 0 0,.agg #[.int .i64 3,.int .i64 6000]]) (by simp[results,results168,go_sem]) rfl ⟨rfl,Kp.alloc _ _⟩
theorem SD.push{w wr w1 w2:World}{l:List UInt8}{k m:Nat}{v:Value}{acc:List Tk}{t:Tk}{g cap:Nat}{o1 o2:Obj}(h:SD w l wr k v acc)(hm:acc.length=m)(ht:kK l k=some t)(q:aA wr w1)
 (hr:w2.ownsRow (w.heap.size+1) 266 4 (.slice (some ⟨g,0,none⟩) (m+1) cap) (m+1) (cellsOf acc++t.cells)) (hg:((w1.alloc o1).alloc o2).grownBy w2 v.ownBlock):
 SD w l w2 (gF gI l (k+t.text.length)) (.slice (some ⟨g,0,none⟩) (m+1) cap) (acc++[t]):=by
 have h1:=kU ht;refine⟨rG gI l _ h1.2.2.2, ?_,yj gI l _, ?_, ?_, ?_⟩;have h2:=h.few;have h3:=lI gI l (k+t.text.length);rw[ak,aJ];omega;subst hm;unfold oM;rw[GV,Gz,ak];exact hr;refine h.quiet.fresh ?_;refine((Kp.mono q fun _ _ e=>e.elim).trans (Kp.alloc _ o1)).trans ((Kp.alloc _ o2).trans (Kp.grown hg fun k _ e=> ?_));have:=(h.row.lt k e.symm).1;simpa using this;rw[vB,<-h.same,Ev acc (by rw[h.stopped];exact h1.1) (by rw[h.stopped];exact ht),h.stopped]
theorem SD.bad{w wr:World}{l:List UInt8}{k:Nat}{v:Value}{acc:List Tk}(h:SD w l wr k v acc)(hk:k<l.length)(ht:kK l k=none):gY l 0 []=([],7,(k:Int)):=by
 rw[<-h.same,DD acc (by rw[h.stopped];exact hk) (by rw[h.stopped];exact ht),h.stopped]
theorem SD.done{w wr:World}{l:List UInt8}{k:Nat}{v:Value}{acc:List Tk}(h:SD w l wr k v acc)(hk:¬k<l.length):gY l 0 []=(acc,0,0):=by
 rw[<-h.same,DI acc (by rw[h.stopped];omega)]
theorem OJ{wr w1 w2:World}{o1 o2:Obj}{v:Value}{B n:Nat}{e:TypeId}{xs:List Value}(q:aA wr w1)(hr:wr.ownsRow B e 4 v n xs)(hg:((w1.alloc o1).alloc o2).grownBy w2 v.ownBlock):w2.heap[w1.heap.size]?=some o1:=by
 rw[hg.block w1.heap.size (by simp;omega) (fun e=>by have:=(hr.lt _ e.symm).2;have:=q.size;omega)];rw[aB _ _ _ (by simp)];exact ah w1 o1
theorem SD.told{w wr:World}{l:List UInt8}{k:Nat}{v a b:Value}{acc:List Tk}(h:SD w l wr k v acc):oM ((wr.setCell ⟨w.heap.size,0,none⟩ a).setCell ⟨w.heap.size,1,none⟩ b) w.heap.size 266 v acc:=by
 have hk:Kp (fun i=>i=w.heap.size) wr ((wr.setCell ⟨w.heap.size,0,none⟩ a).setCell ⟨w.heap.size,1,none⟩ b):=(Kp.setCell (F:=fun i=>i=w.heap.size) wr ⟨w.heap.size,0,none⟩ a rfl).trans (Kp.setCell (F:=fun i=>i=w.heap.size) _ ⟨w.heap.size,1,none⟩ b rfl);refine gL (hk.row h.row fun k hk e=> ?_) (dA _);have:=(h.row.lt k hk).1;omega
theorem Sq(l:List UInt8)(h:l.length<=6000)(w:World)(hw:Laid w):
 Calls prog 168 #[.string ⟨l.toArray⟩] w fun e w'=>∃v,e= .returned (.tuple #[v,.agg #[.int .i64 (gY l 0 []).2.1,.int .i64 (gY l 0 []).2.2]])/\oM w' w.heap.size 266 v (gY l 0 []).1/\aA w w':=by
 have hz:=Y8 l;obtain⟨i0,hi0,hz0,hz1,hz2⟩:=jw zi;have E0:=fun w=>CF l 0 w (by omega) (by omega);go_enter func168,ntmps168;go_wp2_with (go_at_call 183;refine(E0 _).mono ?_;rintro e w' ⟨rfl,rfl⟩);go_loopw [4,5] (fun v n wr=>∃(k:Nat) (acc:List Tk),n= .int .i64 k/\Hid (SD w l wr k v acc)) (fun _ n _=>l.length-(intOf n).toNat);case atStart=>exact⟨_,[],rfl,rG gI l 0 (by omega),aP _,yj gI l 0,oM.nil _ _ _,Kp.refl _ _,vB l 0 []⟩
 case round=>
  obtain⟨k,acc,rfl,hD⟩:=hrel;have hk:=hD.out.le;by_cases hlt:k<l.length
  ·obtain⟨ao,m,cap,rfl,hm,hr⟩:=hD.out.row.part;have HR:=hid hr;have HM:=hid hm;have hmk:m<=k:=(by have:=hD.out.few;omega);have hlw:=(hw.quiet (Kp.alloc _ _)).quiet hD.out.quiet;have hsz:w.heap.size+1<=wr.heap.size:=(by have:=hD.out.quiet.size;simpa using this);clear hr hm;cases ht:kK l k with
   |none=>
    have HT:=hid ht;have HE:=hid (hD.out.bad hlt ht);clear ht;go_wp2_with (go_at_call 185;refine(PW l k hlt (by omega) HT.out _ hlw).mono ?_;rintro e w1 ⟨rfl,q1⟩;have hx:=fun o=>gZ (hD.out.quiet.trans (q1.trans (Kp.alloc _ o)));have hx0:=fun o=>(Z6 (hx o)).1;have hx1:=fun o=>(Z6 (hx o)).2;have hf:=fun o=>YZ (hx o));refine au (v:= .tuple #[.slice none 0 0,.agg #[.int .i64 7,.int .i64 k]]) (by simp[results,results168,go_sem,hx0,hx1]) rfl ⟨.slice none 0 0, ?_, ?_, ?_⟩;rw[HE.out];rw[HE.out];exact oM.nil _ _ _;exact Xz (hD.out.quiet.trans (q1.trans (Kp.alloc _ _))) _ _
   |some t=>
    have HT:=hid ht;obtain⟨pos,text,num,n⟩:=t;obtain⟨_,hp,h2,h3⟩:=kU ht;simp only at h2 h3 hp;have hp2:=hp.symm;subst hp2;clear ht hp;have E1:=fun w=>CF l (k+text.length) w (by omega) (by omega);go_wp2_with (first
     |(at_builtin;refine aX _ rfl (.tmp 31) (.tmp 33) 246 rfl (w.heap.size+1) 266 i0 _ 4 40 zG hi0 hz0 hz1 hz2 rfl (by decide) _ m (cellsOf acc) rfl ((q1.row HR.out (fun _ _ e=>e)).alloc _|>.alloc _) ⟨w1.heap.size+1,0,none⟩ 1 1 (Tk.cells ⟨k,text,num,n⟩) rfl rfl (kE (t:=266) (Y2 w1 _ _)) (by simp[Value.oneCell',Tk.cells]) (by decide) (by unfold maxLen;omega) (by omega) (by have:=q1.size;simp;omega) (w1.heap.size+2) (by simp) ?_;intro g2 cap2 w2 hr2 hg2 hat hlt2;have HP:=hid (hD.out.push HM.out HT.out q1 hr2 hg2);have hy:=(nH (OJ q1 HR.out hg2)).2.1;clear hr2 hg2 hat hlt2)
     |(go_at_call 183;refine(E1 _).mono ?_;rintro e w3 ⟨rfl,rfl⟩)
     |(go_at_call 185;refine(R6 l k hlt (by omega) ⟨k,text,num,n⟩ HT.out _ hlw).mono ?_;rintro e w1 ⟨rfl,q1⟩))
    have h4:=lI gI l (k+text.length);exact⟨⟨_,_,rfl,HP⟩,by simp[intOf];omega⟩
  ·have hx:=gZ hD.out.quiet;obtain⟨hx0,hx1⟩:=Z6 hx;have hf:=YZ hx;have HE:=hid (hD.out.done hlt);go_wp2;refine au (v:= .tuple #[u4,.agg #[.int .i64 0,.int .i64 0]]) (by simp[results,results168,go_sem,hx0,hx1]) rfl ⟨u4, ?_, ?_, ?_⟩;rw[HE.out];rw[HE.out];exact hD.out.told;exact Xz hD.out.quiet _ _
theorem Gn(l:List UInt8)(hl:l.length<=9000)(w:World)(hw:Laid w):
 Calls prog 168 #[.string ⟨l.toArray⟩] w fun e w'=>∃v,e= .returned (.tuple #[v,.agg #[.int .i64 (scan l).2.1,.int .i64 (scan l).2.2]])/\oM w' w.heap.size 266 v (scan l).1/\aA w w':=by
 unfold scan;split;rename_i h;refine(OP l hl h w).mono ?_;rintro e w' ⟨rfl,q⟩;exact⟨_,rfl,oM.nil _ _ _,q⟩;exact Sq l (by omega) w hw
theorem Rm(l:List UInt8):∀(f i:Nat)(acc:List Tk),(jK l f i acc).2.1=0->(jK l f i acc).2.2=0:=by
 intro f;induction f with
 |zero=>intro i acc _;rfl
 |succ f ih=>
  intro i acc h;rw[jK]at h|-;split
  ·rename_i hlt;rw[ag hlt]at h;cases ht:kK l (gF gI l i)with
   |none=>rw[ht]at h;simp at h
   |some t=>rw[ht]at h;exact ih _ _ h
  ·rfl
theorem Vi{l:List UInt8}(h:(scan l).2.1=0):scan l=((scan l).1,0,0):=by
 have h2:(scan l).2.2=0:=by
  unfold scan at h|-;split;rename_i h1;rw[ag h1]at h;simp at h;rename_i h1;rw[af h1]at h;exact Rm l _ _ _ h
 exact Prod.ext rfl (Prod.ext h h2)
