/- Parts. -/
import Derived.Test.YtpeakfcbihoknaaGreatDoorUE2
import Derived.Lib.ParseIntB
import Derived.Lib.ItoaNum
open Go.ChangeShapes Go.WideShapes Go.ChangeAt Go.RowKit
set_option maxRecDepth 8000
set_option maxHeartbeats 4000000
namespace Go.Proofs.YtpeakfcbihoknaaGreatDoor
open Proofs.Tryz
namespace Ex
theorem zH:(prog.info? 328).map (fun i=>(i.zero,i.size,i.bytes))=some (some (.slice none 0 0),1,24):=by kernel_rfl
theorem Ca:prog.underlying 140=some (.slice 328):=by kernel_rfl
abbrev Ls:=List Ik×Option Addr×Nat
def lsv(x:Ls):Value:= .slice x.2.1 x.1.length x.2.2
structure Md(B:Nat)(w:World)(sv:Value)(n:Nat)(ps:List Ls):Prop where
 row:w.ownsRow B 328 1 sv n (ps.map lsv)
 len:n=ps.length
 all:∀p∈ps,w.ownsRow B 334 3 (lsv p) p.1.length (ZN p.1)
theorem Md.kept{B:Nat}{w w':World}{sv:Value}{n:Nat}{ps:List Ls}{F:Nat->Prop}(h:Md B w sv n ps)(q:Kp F w w')(hF:∀k,B<=k->k<w.heap.size->¬F k):Md B w' sv n ps:=
 ⟨q.row h.row fun k e=>hF k (h.row.lt k e).1 (h.row.lt k e).2,h.len,fun p hp=>q.row (h.all p hp) fun k e=>hF k ((h.all p hp).lt k e).1 ((h.all p hp).lt k e).2⟩
theorem Md.mono{B B':Nat}{w:World}{sv:Value}{n:Nat}{ps:List Ls}(h:Md B w sv n ps)(hB:B'<=B):Md B' w sv n ps:=⟨gL h.row hB,h.len,fun p hp=>gL (h.all p hp) hB⟩
theorem Ra{b:Nat}{w w':World}(h:Below b w w'):Kp (fun k=>b<=k) w w':=⟨h.os,h.tape,h.output,h.size,fun k _ hk=>h.block k (by omega)⟩
theorem rP{w:World}{B B' s s' n n':Nat}{e e':TypeId}{v v':Value}{xs xs':List Value}(h:w.ownsRow B e s v n xs)(h':w.ownsRow B' e' s' v' n' xs')(he:e≠e')(k:Nat)(hk:v.ownBlock=some k):v'.ownBlock≠some k:=by
 intro hk';rcases h.2 with⟨rfl,_⟩|⟨g,cap,cur,rfl,_,hg,_⟩;simp[Value.ownBlock]at hk;rcases h'.2 with⟨rfl,_⟩|⟨g',cap',cur',rfl,_,hg',_⟩;simp[Value.ownBlock]at hk';simp[Value.ownBlock]at hk hk';subst hk;rw[hk',hg]at hg';simp at hg';exact he hg'.2
theorem UY{B g cap m:Nat}{w w':World}{sv:Value}{ps:List Ls}{p:Ls}{o:Obj}(M:Md B w sv m ps)(hp:w.ownsRow B 334 3 (lsv p) p.1.length (ZN p.1))
 (hr:w'.ownsRow B 328 1 (.slice (some ⟨g,0,none⟩) (m+1) cap) (m+1) (ps.map lsv++[lsv p])) (hg:(w.alloc o).grownBy w' sv.ownBlock):Md B w' (.slice (some ⟨g,0,none⟩) (m+1) cap) (m+1) (ps++[p]):=by
 have hk:∀x:Ls,w.ownsRow B 334 3 (lsv x) x.1.length (ZN x.1)->w'.ownsRow B 334 3 (lsv x) x.1.length (ZN x.1):=by
  intro x hx;have q:Kp (fun k=>some k=sv.ownBlock) w w':=(Kp.alloc w o).trans (Kp.grown hg fun k _ e=>e);exact q.row hx fun k e e'=>rP hx M.row (by decide) k e e'.symm
 refine⟨by simpa using hr,by rw[ak,M.len];rfl,fun x hx=> ?_⟩;rcases aK.1 hx with hx|hx;exact hk x (M.all x hx);simp at hx;subst hx;exact hk _ hp
def ab6(P:Int×Int->Prop)(l:List V)(w:World)(e:Ending)(w':World):Prop:=∃f:Int×Int,P f/\aA w w'/\
 ((f.1≠0/\e= .returned (.tuple #[.slice none 0 0,.agg #[.int .i64 f.1,.int .i64 f.2]]))\/
  (f.1=0/\∃ao cap ps,e= .returned (.tuple #[.slice ao l.length cap,.agg #[.int .i64 0,.int .i64 0]])/\Md w.heap.size w' (.slice ao l.length cap) l.length ps/\ps.map (·.1)=l.map Zj))
theorem Ng(l:List V)(j:Nat)(h:j<l.length):(l.take (j+1)).map Zj=(l.take j).map Zj++[Zj l[j]]:=by rw[iF l j h,bA];rfl
theorem KM(w0 w:World)(x o:Nat)(y:Value)(h:w0.heap.size<=x):Kp (fun i=>w0.heap.size<=i) w (w.setCell ⟨x,o,none⟩ y):=Kp.setCell w ⟨x,o,none⟩ y h
theorem K3(w0 w:World)(x:Nat)(y z:Value)(h:w0.heap.size<=x):Kp (fun i=>w0.heap.size<=i) w ((w.setCell ⟨x,0,none⟩ y).setCell ⟨x,1,none⟩ z):=(KM w0 _ x 0 y h).trans (KM w0 _ x 1 z h)
theorem V6(w:World)(x:Nat)(y z:Value):Kp (fun i=>i=x) w ((w.setCell ⟨x,0,none⟩ y).setCell ⟨x,1,none⟩ z):=(bF w x 0 y).trans (bF _ x 1 z)
structure MkS(w:World)(l:List V)(j:Nat)(sv:Value)(ps:List Ls)(wr:World):Prop where
 made:Md (w.heap.size+2) wr sv j ps
 ZR:ps.map (·.1)=(l.take j).map Zj
 low:Below w.heap.size w wr
 box:wr.heap[w.heap.size+1]?=some (.cells #[.int .i64 0,.int .i64 0] 31 (0,0))
theorem MkS.mid{w wr A w5:World}{l:List V}{j:Nat}{sv:Value}{ps:List Ls}(H:MkS w l j sv ps wr)(q:aA wr A)(k:KI (wr.heap.size+1) A w5):MkS w l j sv ps w5:=by
 have kp:Kp (fun k=>wr.heap.size+1<=k) wr w5:=(q.mono fun _ _ e=>e.elim).trans (Ra k.low);have hz:=ae H.box;refine⟨H.made.kept kp fun k _ h=>by omega,H.ZR,H.low.trans (kp.below H.low.size fun k hk=>by have:=H.low.size;omega), ?_⟩;rw[kp.block _ hz (by omega)];exact H.box
theorem MkS.step{w w5 w6:World}{l:List V}{j g cap:Nat}{sv:Value}{ps:List Ls}{u:V}{p:Ls}{o:Obj}(H:MkS w l j sv ps w5)(hN:(l.take (j+1)).map Zj=(l.take j).map Zj++[Zj u])(hp:p.1=Zj u)(hr5:w5.ownsRow (w.heap.size+2) 334 3 (lsv p) p.1.length (ZN p.1))
 (hr:w6.ownsRow (w.heap.size+2) 328 1 (.slice (some ⟨g,0,none⟩) (j+1) cap) (j+1) (ps.map lsv++[lsv p])) (hg:(w5.alloc o).grownBy w6 sv.ownBlock):MkS w l (j+1) (.slice (some ⟨g,0,none⟩) (j+1) cap) (ps++[p]) w6:=by
 have hz:=ae H.box;have kp:Kp (fun k=>w.heap.size+2<=k) w5 w6:=(Kp.alloc w5 o).trans (Kp.grown hg fun k _ e=>(H.made.row.lt k e.symm).1);refine⟨UY H.made hr5 hr hg, ?_,H.low.trans (kp.below H.low.size fun k hk=>by omega), ?_⟩;rw[bA,H.ZR,hN,List.map_singleton,hp];rw[kp.block _ hz (by omega)];exact H.box
theorem UQ(l:List V)(ao:Option Addr)(cap:Nat)(w:World)(hF:Fo w l ao)(hS:sizes l<=20000)(P:Int×Int->Prop)(hP1:∀f,P f->f.1=0->∀v∈l,Ok v)
 (hC:∀w1,aA w w1->Calls prog 170 #[.agg #[.slice ao l.length cap]] w1 fun e w'=>∃f:Int×Int,e= .returned (.agg #[.int .i64 f.1,.int .i64 f.2])/\P f/\aA w1 w'):
 Calls prog 223 #[.agg #[.slice ao l.length cap]] w fun e w'=>ab6 P l w e w':=by
 obtain⟨i0,hi,hz0,hz1,hz2⟩:=jw zH;have q2:aA w ((w.alloc (.cells #[.slice ao l.length cap] 92)).alloc (.cells #[.int .i64 0,.int .i64 0] 31)):=(Kp.alloc _ _).trans (Kp.alloc _ _);have hb0:((w.alloc (.cells #[.slice ao l.length cap] 92)).alloc (.cells #[.int .i64 0,.int .i64 0] 31)).heap[w.heap.size]?=some (.cells #[.slice ao l.length cap] 92 (0,0)):=by
  rw[aB _ _ _ (by simp)];exact ah w _
 have hb1:=Y2 w (.cells #[.slice ao l.length cap] 92) (.cells #[.int .i64 0,.int .i64 0] 31);have hll:=fG l;have hl5:l.length<=20000:=by omega
 have HC:=hid (hC _ q2);have HF:=hid hF;have HP:=hid hP1;clear hC hF hP1;go_enter func223,ntmps223;go_wp2_with (go_at_call 170;refine HC.out.mono ?_);rintro e w3 ⟨⟨c,a⟩,rfl,hPf,q3⟩;simp only;have adb:=(q3.block _ (ae hb0) fun e=>e).trans hb0;have acP:=(q3.block _ (ae hb1) fun e=>e).trans hb1;have x0:=zT adb;obtain⟨k0,k1,k2,k3⟩:=pQ acP;have z3:w.heap.size<w3.heap.size:=ae adb;have z3':w.heap.size+1<w3.heap.size:=ae acP;have q23:=q2.trans q3;by_cases hc:c=0
 ·subst hc;have HO:=hid (HP.out _ hPf rfl);have q4:aA w (w3.alloc (.cells #[.int .i64 0,.int .i64 a] 31)):=q23.trans (Kp.alloc _ _);have aeM:=(aB w3 (.cells #[.int .i64 0,.int .i64 a] 31) _ z3').trans acP;have HQ4:=bC q4 aeM;have HPF:=hid hPf;clear adb acP aeM hb0 hb1 q2 q3 q4 hPf;go_wp2;go_loopw [5,18] (fun sv i wr=>∃(j:Nat) (ps:List Ls),j<=l.length/\i= .int .i64 j/\MkS w l j sv ps wr) (fun _ i _=>l.length-(intOf i).toNat);case atStart=>
   exact⟨0,[],aP _,rfl,⟨⟨bq _ _ _ _,rfl,fun p hp=>by simp at hp⟩,rfl,HQ4.out.1.low,HQ4.out.2⟩⟩
  case round=>
   obtain⟨j,ps,hj,rfl,hM⟩:=hrel;have hzw:=ae hM.box;have hB:=hM.low;by_cases hlt:j<l.length
   ·obtain⟨bb,oo,rfl,dh,ca,cc,ds,hk⟩:=HF.out.get j hlt;obtain⟨d0,d1,d2⟩:=gq (eZ hB) dh;have dsk:=eZ hB _ _ ds;have hus:=sO l j hlt;have hO:=HO.out l[j] (aI hlt);have HN:=hid (Ng l j hlt);generalize l[j]=u at*;obtain⟨sa,sc,hsv⟩:=YU hM.made.row;subst hsv;obtain⟨A,hA⟩:∃A,A=(wr.alloc (.cells #[.int .i64 u.kind,.int .i64 u.k,.int .i64 u.n,.slice ca u.l.length cc] 129)).alloc (.cells #[.slice none 0 0] 330):=⟨_,rfl⟩;have qA:aA wr A:=(by rw[hA];exact(Kp.alloc _ _).trans (Kp.alloc _ _));have hLA:Lst (wr.heap.size+1) [] A:=(by rw[hA];have:=Uy (wr.alloc (.cells #[.int .i64 u.kind,.int .i64 u.k,.int .i64 u.n,.slice ca u.l.length cc] 129));simpa using this);have hBA:Below w.heap.size w A:=sj hB qA hB.size;have HL:=hid (Ni w (wr.heap.size+1) u ca cc [] A hk hO hBA (by have:=hB.size;omega) hLA (by simp;omega));rw[dm,bf,hA]at HL;have hul:=nE u 0;have HA:=gp hA qA hBA;have HM:=hid hM;have hBs:=hB.size;clear dh ds hk hM hB k0 k1 k2 k3 hA qA hLA hBA hO;go_wp2_with (first
     |(at_builtin;refine aX _ rfl (.tmp 26) (.tmp 29) 140 rfl (w.heap.size+2) 328 i0 _ 1 24 Ca hi hz0 hz1 hz2 rfl (by decide) _ j (ps.map lsv) rfl (HM5.out.made.row.alloc _) ⟨w5.heap.size,0,none⟩ 1 1 [.slice fa fn fc] rfl rfl (gT w5 _ 328) (by simp[Value.oneCell']) (by decide) (by unfold maxLen;omega) (by omega) (by simp;omega) _ rfl ?_;intro g2 cap2 w6 hr6 hg6 hat acg;have HD:=hid (HM5.out.step (p:=(Zj u,fa,fc)) HN.out rfl HR5.out.1 (by rw[HR5.out.2];exact hr6) hg6);clear hr6 hg6 hat acg)
     |(go_at_call 250;refine(lQ _ _ ⟨105,0,0⟩ _ h4 (by omega)).mono ?_;rintro e w5 ⟨rfl,h5,k5⟩;have HM5:=hid (HM.out.mid HA.out.2.1 (k4.trans k5));obtain⟨fa,fc,y1,y2⟩:=h5;obtain⟨fn,hfn⟩:∃n,(u.code 0++[(⟨105,0,0⟩:Ik)]).length=n:=⟨_,rfl⟩;have HR5:=bC (show w5.ownsRow (w.heap.size+2) 334 3 (lsv (Zj u,fa,fc)) (Zj u).length (ZN (Zj u))from gL y2 (by omega)) (show lsv (Zj u,fa,fc)= .slice fa fn fc by rw[<-hfn];rfl);rw[hfn]at y1;have y3:=zT y1;have y4:=ae y1;clear y1 y2 hfn)
     |(go_at_call 249;refine HL.out.mono ?_;rintro e w4 ⟨rfl,h4,k4⟩;rw[<-HA.out.1]at k4))
    exact⟨⟨j+1,_,by omega,by go_num,HD.out⟩,by simp[intOf];omega⟩
   ·have hjl:j=l.length:=(by omega);subst hjl;obtain⟨sa,sc,hsv⟩:=YU hM.made.row;subst hsv;obtain⟨r0,r1,r2,r3⟩:=pQ hM.box;have HM:=hid hM;clear hM hB k0 k1 k2 k3;go_wp2;refine au (v:= .tuple #[.slice sa l.length sc,.agg #[.int .i64 0,.int .i64 0]]) (by simp[results,results223,go_sem,r0,r1]) rfl ?_;refine⟨(0,a),HPF.out,(gV HM.out.low).fresh (K3 w _ _ _ _ (by omega)),.inr ⟨rfl,sa,sc,ps,rfl, ?_, ?_⟩⟩;exact(HM.out.made.kept (V6 _ _ _ _) fun k h _=>by omega).mono (by omega);have:=HM.out.ZR;rwa[aZ]at this
 ·have hz1:(c !=0)=true:=by simpa using hc
  have HPF:=bC hPf hc;clear adb acP hb0 hb1 hPf hc;go_wp2;go_region;all_goals
   go_wp2;refine au (v:= .tuple #[.slice none 0 0,.agg #[.int .i64 c,.int .i64 a]]) (by simp[results,results223,go_sem,k0,k1,z3']) rfl ?_;exact⟨(c,a),HPF.out.1,q23.fresh ((K3 w _ _ _ _ (by omega)).trans ((Kp.alloc _ _).trans (Kp.drew _))),.inl ⟨HPF.out.2,rfl⟩⟩
theorem ab7(F:Int)(l:List V):∀i,(ZR F l i).1=0->∀v∈l,pK F v=0:=by
 induction l with
 |nil=>intro i _ v hv;simp at hv
 |cons x l ih=>
  intro i h v hv;rw[ZR]at h;by_cases h0:pK F x=0;rw[ag h0]at h;rcases aU.1 hv with rfl|hv;exact h0;exact ih _ h v hv;rw[af h0]at h;exact absurd h h0
theorem ab8{F:Int}{v:V}(h:pK F v=0):v.bad F 0=0:=by
 unfold pK at h;by_cases h1:30<v.deep;rw[ag h1]at h;cases h;rw[af h1]at h;by_cases h2:120<v.size;rw[ag h2]at h;cases h;rwa[af h2]at h
theorem G9{l:List V}(h:(Y6 l).1=0):∀v∈l,Ok v:=by
 unfold Y6 at h;by_cases h1:l.length<1\/6<l.length;rw[ag h1]at h;cases h;rw[af h1]at h;exact fun v hv=>⟨_,0,ab8 (ab7 _ l 0 h v hv)⟩
theorem abD(l:List V)(ao:Option Addr)(cap:Nat)(w:World)(hF:Fo (cln w) l ao)(hS:sizes l<=20000):
 Calls prog 223 #[.agg #[.slice ao l.length cap]] w fun e w'=>ab6 (fun f=>f=Y6 l) l w e w':=by
 refine UQ l ao cap w hF.unclean hS (fun f=>f=Y6 l) (fun f hf h0=>G9 (hf▸h0)) fun w1 q=> ?_;refine(fQ l ao cap w1 (hF.aaN q) hS).mono ?_;rintro e w' ⟨he,q'⟩;exact⟨Y6 l,he,rfl,q'⟩
theorem Md.get{B:Nat}{w:World}{ao:Option Addr}{n cap:Nat}{ps:List Ls}(h:Md B w (.slice ao n cap) n ps)(j:Nat)(c:List Ik)(hc:(ps.map (·.1))[j]?=some c):
 ∃g fa fc,ao=some ⟨g,0,none⟩/\w.cell? ⟨g,j,none⟩=some (.slice fa c.length fc)/\w.ownsRow B 334 3 (.slice fa c.length fc) c.length (ZN c):=by
 rw[fe]at hc;obtain⟨p,hp,rfl⟩:∃p,ps[j]?=some p/\p.1=c:=by
  cases e:ps[j]? with
  |none=>rw[e]at hc;simp at hc
  |some p=>rw[e]at hc;exact⟨p,rfl,by simpa using hc⟩
 obtain⟨hj,hp2⟩:=dn.1 hp;have hl:=h.len;obtain⟨g,e,d⟩:=Zc h.row (by omega);refine⟨g,p.2.1,p.2.2,e, ?_,h.all p (hp2▸aI hj)⟩;rw[d j (by omega),fe,hp];rfl
def cv:V:=⟨2,0,5,[]⟩
theorem dZ{w:World}{a:Addr}{x:Value}(h:w.cell? a=some x)(o:Obj):(w.alloc o).cell? a=some x:=(Kp.alloc (F:=fun _=>False) w o).cell h fun e=>e
def AV(z:Int):Bool:=z==32||z==9||z==10||z==13
def kS(z:Int):Bool:=decide (97<=z)&&decide (z<=122)
def tC(z:Int):Bool:=decide (48<=z)&&decide (z<=57)
def gI(c:UInt8):Bool:=AV c.toNat
def gJ(c:UInt8):Bool:=kS c.toNat
def jG(c:UInt8):Bool:=tC c.toNat
def gF(p:UInt8->Bool)(l:List UInt8)(i:Nat):Nat:=i+((l.drop i).takeWhile p).length
def cut(l:List UInt8)(a b:Nat):List UInt8:=(l.take b).drop a
theorem BL{α:Type}(p:α->Bool)(l:List α):(l.takeWhile p).length<=l.length:=by
 induction l with
 |nil=>simp
 |cons a l ih=>rw[fq];split<;>simp<;>omega
theorem rG(p:UInt8->Bool)(l:List UInt8)(i:Nat)(h:i<=l.length):gF p l i<=l.length:=by
 have:=BL p (l.drop i);rw[eP]at this;unfold gF;omega
theorem lI(p:UInt8->Bool)(l:List UInt8)(i:Nat):i<=gF p l i:=bQ _ _
theorem xx(p:UInt8->Bool)(l:List UInt8)(i:Nat)(h:i<l.length)(hp:p l[i]=true):gF p l i=gF p l (i+1):=by
 unfold gF;rw[bO h,fq,ag hp];simp;omega
theorem zy(p:UInt8->Bool)(l:List UInt8)(i:Nat)(h:i<l.length)(hp:p l[i]=false):gF p l i=i:=by
 unfold gF;rw[bO h,fq,af (by simp[hp])];rfl
theorem wK(p:UInt8->Bool)(l:List UInt8)(i:Nat)(h:l.length<=i):gF p l i=i:=by
 unfold gF;rw[List.drop_of_length_le h];rfl
theorem Sm{α:Type}(p:α->Bool)(m:List α)(h:(m.takeWhile p).length<m.length):p (m[(m.takeWhile p).length])=false:=by
 induction m with
 |nil=>simp at h
 |cons a m ih=>
  cases hp:p a with
  |false=>simp[hp]
  |true=>
   have e:(a::m).takeWhile p=a::m.takeWhile p:=(by rw[fq,ag hp]);have h':(m.takeWhile p).length<m.length:=(by rw[e]at h;simpa using h);have:=ih h';simp only[e,aL,List.getElem_cons_succ];exact this
theorem TE(p:UInt8->Bool)(l:List UInt8)(i:Nat)(hs:gF p l i<l.length):p l[gF p l i]=false:=by
 have h:((l.drop i).takeWhile p).length<(l.drop i).length:=by rw[eP];unfold gF at hs;omega
 have:=Sm p (l.drop i) h;rw[List.getElem_drop]at this;exact this
theorem yj(p:UInt8->Bool)(l:List UInt8)(i:Nat):gF p l (gF p l i)=gF p l i:=by
 by_cases hs:gF p l i<l.length;exact zy p l _ hs (TE p l i hs);exact wK p l _ (by omega)
theorem uI(l:List UInt8)(a b:Nat)(hb:b<=l.length):(cut l a b).length=b-a:=by
 unfold cut;rw[eP,dK];omega
def Za(t:List UInt8):Option Int:=match Lib.parseIntB 64 t with
 | .ok n=>if Lib.itoa n=t then some n else none
 |_=>none
structure Tk where
 pos:Nat
 text:List UInt8
 num:Bool
 n:Int
def AB(l:List UInt8)(i:Nat):Option Tk:=(Za (cut l i (gF jG l (i+1)))).map fun n=>⟨i,cut l i (gF jG l (i+1)),true,n⟩
def kK(l:List UInt8)(i:Nat):Option Tk:=match l[i]? with
 |none=>none
 |some c=>
  if c.toNat=40\/c.toNat=41 then some ⟨i,cut l i (i+1),false,0⟩
  else if gJ c then some ⟨i,cut l i (gF gJ l i),false,0⟩
  else if c.toNat=45\/jG c=true then AB l i
  else none
theorem kU{l:List UInt8}{i:Nat}{t:Tk}(h:kK l i=some t):i<l.length/\t.pos=i/\1<=t.text.length/\i+t.text.length<=l.length:=by
 unfold kK at h;by_cases hi:i<l.length
 ·rw[aQ hi]at h;simp only at h;split at h;cases h;refine⟨hi,rfl, ?_, ?_⟩<;>simp only<;>rw[uI l i (i+1) hi]<;>omega
  ·split at h;rename_i hl;cases h;have e:=xx gJ l i hi hl;have h1:=lI gJ l (i+1);have h2:=rG gJ l i (by omega);refine⟨hi,rfl, ?_, ?_⟩<;>simp only<;>rw[uI _ _ _ h2]<;>omega
   ·split at h;unfold AB at h;obtain⟨n,_,rfl⟩:=dF.1 h;have h1:=lI jG l (i+1);have h2:=rG jG l (i+1) (by omega);refine⟨hi,rfl, ?_, ?_⟩<;>simp only<;>rw[uI _ _ _ h2]<;>omega;cases h
 ·rw[di (by omega)]at h;cases h
def jK(l:List UInt8):Nat->Nat->List Tk->List Tk×Int×Int
 |0,_,acc=>(acc,0,0)
 |f+1,i,acc=>
  if gF gI l i<l.length then
   match kK l (gF gI l i)with
   |none=>(([],7,((gF gI l i:Nat):Int)):List Tk×Int×Int)
   |some t=>jK l f (gF gI l i+t.text.length) (acc++[t])
  else(acc,0,0)
theorem Ig(l:List UInt8):∀(f g i:Nat)(acc:List Tk),l.length<f+i->l.length<g+i->jK l f i acc=jK l g i acc:=by
 intro f;induction f with
 |zero=>
  intro g i acc hf hg;cases g with
  |zero=>rfl
  |succ g=>have:=lI gI l i;rw[jK,jK,af (by omega)]
 |succ f ih=>
  intro g i acc hf hg;cases g with
  |zero=>have:=lI gI l i;rw[jK,jK,af (by omega)]
  |succ g=>
   rw[jK,jK];split
   ·cases ht:kK l (gF gI l i)with
    |none=>rfl
    |some t=>
     have h1:=kU ht;have h2:=lI gI l i;exact ih g _ _ (by omega) (by omega)
   ·rfl
def gY(l:List UInt8)(i:Nat)(acc:List Tk):List Tk×Int×Int:=jK l (l.length+1) i acc
theorem nu(l:List UInt8)(i:Nat)(acc:List Tk):gY l i acc=
 (if gF gI l i<l.length then
   match kK l (gF gI l i)with
   |none=>(([],7,((gF gI l i:Nat):Int)):List Tk×Int×Int)
   |some t=>gY l (gF gI l i+t.text.length) (acc++[t])
 else(acc,0,0):List Tk×Int×Int):=by
 unfold gY;rw[jK];split
 ·cases ht:kK l (gF gI l i)with
  |none=>rfl
  |some t=>
   have h1:=kU ht;exact Ig l _ _ _ _ (by omega) (by omega)
 ·rfl
theorem DI{l:List UInt8}{i:Nat}(acc:List Tk)(h:l.length<=gF gI l i):gY l i acc=(acc,0,0):=by
 rw[nu,af (by omega)]
theorem DD{l:List UInt8}{i:Nat}(acc:List Tk)(h:gF gI l i<l.length)(ht:kK l (gF gI l i)=none):gY l i acc=([],7,((gF gI l i:Nat):Int)):=by
 rw[nu,ag h,ht]
theorem Ev{l:List UInt8}{i:Nat}(acc:List Tk){t:Tk}(h:gF gI l i<l.length)(ht:kK l (gF gI l i)=some t):gY l i acc=gY l (gF gI l i+t.text.length) (acc++[t]):=by
 rw[nu,ag h,ht]
theorem vB(l:List UInt8)(i:Nat)(acc:List Tk):gY l (gF gI l i) acc=gY l i acc:=by
 rw[nu,yj,<-nu]
def scan(l:List UInt8):List Tk×Int×Int:=if 6000<l.length then([],3,6000)else gY l 0 []
def good(t:Tk):Prop:=
 ((t.text=[40]\/t.text=[41])/\t.num=false/\t.n=0)\/(t.text≠[]/\(∀c∈t.text,gJ c=true)/\t.num=false/\t.n=0)\/
 (∃c ds,t.text=c::ds/\(c.toNat=45\/jG c=true)/\(∀d∈ds,jG d=true)/\Za t.text=some t.n/\t.num=true)
theorem zV{α:Type}(p:α->Bool)(m:List α):m.take (m.takeWhile p).length=m.takeWhile p:=by
 induction m with
 |nil=>rfl
 |cons a m ih=>
  rw[fq];split;simp[ih];rfl
theorem CB{α:Type}(p:α->Bool)(m:List α):∀c∈m.takeWhile p,p c=true:=by
 induction m with
 |nil=>intro c hc;cases hc
 |cons a m ih=>
  rw[fq];split;rename_i h;intro c hc;rcases aU.1 hc with rfl|hc;exact h;exact ih c hc;intro c hc;cases hc
theorem Ah(l:List UInt8)(a n:Nat):cut l a (a+n)=(l.drop a).take n:=by
 unfold cut;rw[List.drop_take];congr 1;omega
theorem Ff(p:UInt8->Bool)(l:List UInt8)(i:Nat):cut l i (gF p l i)=(l.drop i).takeWhile p:=by
 unfold gF;rw[Ah,zV]
theorem OX(p:UInt8->Bool)(l:List UInt8)(i:Nat)(hi:i<l.length):cut l i (gF p l (i+1))=l[i]::(l.drop (i+1)).takeWhile p:=by
 unfold gF;rw[show i+1+((l.drop (i+1)).takeWhile p).length=i+(1+((l.drop (i+1)).takeWhile p).length)by omega,Ah,bO hi,Nat.add_comm 1,List.take_succ_cons,zV]
theorem I4{l:List UInt8}{i:Nat}{t:Tk}(h:kK l i=some t):good t:=by
 have hi:=(kU h).1;unfold kK at h;rw[aQ hi]at h;simp only at h;split at h;rename_i hc;cases h;refine .inl ⟨?_,rfl,rfl⟩;simp only;rw[Ah,bO hi,List.take_succ_cons,List.take_zero];rcases hc with hc|hc;exact .inl (by rw[show l[i]=40 from UInt8.toNat_inj.1 hc]);exact .inr (by rw[show l[i]=41 from UInt8.toNat_inj.1 hc])
 ·split at h;rename_i hc;cases h;refine .inr (.inl ⟨?_, ?_,rfl,rfl⟩);simp only;rw[Ff,bO hi,fq,ag hc];simp;simp only;rw[Ff];exact CB _ _
  ·split at h;rename_i hc;unfold AB at h;obtain⟨n,hn,rfl⟩:=dF.1 h;refine .inr (.inr ⟨l[i],(l.drop (i+1)).takeWhile jG, ?_,hc,CB _ _,hn,rfl⟩);exact OX jG l i hi;cases h
theorem Jf(l:List UInt8):∀(f i:Nat)(acc:List Tk),(∀t∈acc,good t)->∀t∈(jK l f i acc).1,good t:=by
 intro f;induction f with
 |zero=>intro i acc h;exact h
 |succ f ih=>
  intro i acc h;rw[jK];split
  ·cases ht:kK l (gF gI l i)with
   |none=>intro t h;cases h
   |some t=>
    refine ih _ _ fun u hu=> ?_;rcases aK.1 hu with hu|hu
    ·exact h u hu
    ·rw[bD.1 hu];exact I4 ht
  ·exact h
def sG(ts:List Tk):Nat:=(ts.map fun t=>t.text.length).sum
theorem CR(a b:List Tk):sG (a++b)=sG a+sG b:=by simp[sG]
theorem GA(l:List UInt8):∀(f i:Nat)(acc:List Tk),i<=l.length->sG acc<=i->sG (jK l f i acc).1<=l.length:=by
 intro f;induction f with
 |zero=>intro i acc h1 h2;exact aF h2 h1
 |succ f ih=>
  intro i acc h1 h2;rw[jK];split
  ·cases ht:kK l (gF gI l i)with
   |none=>exact aP _
   |some t=>
    have h3:=kU ht;have h4:=lI gI l i;refine ih _ _ h3.2.2.2 ?_;rw[CR];have:sG [t]=t.text.length:=(by simp[sG]);omega
  ·exact aF h2 h1
theorem Dn(l:List UInt8):∀t∈(scan l).1,good t:=by
 unfold scan;split;intro t h;cases h;exact Jf l _ _ _ fun t h=>by cases h
theorem J6(l:List UInt8):sG (scan l).1<=l.length:=by
 unfold scan;split;exact aP _;exact GA l _ _ _ (aP _) (aj _)
theorem zM{t:Tk}(h:good t):1<=t.text.length:=by
 rcases h with⟨h|h,_⟩|⟨h,_⟩|⟨c,ds,h,_⟩;rw[h];decide;rw[h];decide;exact List.length_pos_iff.2 h;rw[h];simp
def back(ts:List Tk):List UInt8:=ts.flatMap fun t=>t.text++[32,10]
theorem OE{ts:List Tk}(h:∀t∈ts,good t):ts.length<=sG ts:=by
 induction ts with
 |nil=>exact aP _
 |cons t ts ih=>
  have h1:=zM (h t (by simp));have h2:=ih fun u hu=>h u (by simp[hu]);rw[show t::ts=[t]++ts from rfl,CR];have:sG [t]=t.text.length:=by simp[sG]
  simp;omega
def Zf:List (List UInt8):=[[110,105,108],[110,117,109],[97,114,103],[118,97,114],[108,101,116],[98,105,110],[105,102],[112,97,105,114],[102,115,116],[115,110,100],[115,101,97,108],[111,112,101,110],[114,101,97,100],[119,114,105,116,101],[110,97,114,114,111,119],[119,114,97,112],[99,117,116],[99,97,108,108],[97,115,107],[107,101,101,112],[107,101,112,116]]
def Zo:List (List UInt8):=[[97,100,100],[115,117,98],[109,117,108],[108,101,115,115],[101,113]]
def eY(L:List (List UInt8))(k:Int):List UInt8:=if 1<=k then(L[(k-1).toNat]?).getD []else[]
def kH(L:List (List UInt8))(t:List UInt8):Nat:=if t∈L then L.idxOf t+1 else 0
theorem zF(L:List (List UInt8))(t:List UInt8):kH L t<=L.length:=by
 unfold kH;split;rename_i h;have:=List.idxOf_lt_length_of_mem h;omega;omega
theorem Eh(L:List (List UInt8))(k:Nat)(h:1<=k)(hk:k<=L.length):eY L (k:Int)=L[k-1]:=by
 unfold eY;rw[ag (by omega),show((k:Int)-1).toNat=k-1 by omega,aQ (by omega)];rfl
theorem qR{L:List (List UInt8)}(hL:L.Nodup)(t:List UInt8)(k:Nat)(h:1<=k)(hk:k<=L.length):eY L (k:Int)=t<->kH L t=k:=by
 rw[Eh L k h hk];unfold kH;constructor;rintro rfl;rw[ag (aI _),hL.idxOf_getElem];omega
 ·intro e;split at e;rename_i hm;have hi:=List.idxOf_lt_length_of_mem hm;have h2:L[L.idxOf t]=t:=List.getElem_idxOf hi;have h3:L.idxOf t=k-1:=(by omega);simp only[h3]at h2;exact h2;omega
theorem mE(L:List (List UInt8))(k:Int)(h:k<1\/(L.length:Int)<k):eY L k=[]:=by
 unfold eY;split;rw[di (by omega)];rfl;rfl
theorem tV:Zf.Nodup:=by decide
theorem vY:Zo.Nodup:=by decide
theorem iM:Zf.length=21:=rfl
theorem jJ:Zo.length=5:=rfl
theorem AL:∀x∈Zf,x≠[]/\∀c∈x,gJ c=true:=by decide
theorem Cy:∀x∈Zo,x≠[]/\∀c∈x,gJ c=true:=by decide
theorem uX{L:List (List UInt8)}(hL:∀x∈L,x≠[]/\∀c∈x,gJ c=true)(k:Nat)(h:1<=k)(hk:k<=L.length):eY L (k:Int)≠[]:=by
 rw[Eh L k h hk];exact(hL _ (aI _)).1
def Vd:List UInt8:=[40]
def Ph:List UInt8:=[41]
def J5:List UInt8:=[102,117,110]
abbrev ZX(α:Type):=Except (Int×Int) (α×List Tk)
def andThen{α β:Type}(g:ZX α)(f:α->List Tk->ZX β):ZX β:=match g with
 | .error x=> .error x
 | .ok x=>f x.1 x.2
theorem andThen_ok{α β:Type}(a:α)(r:List Tk)(f:α->List Tk->ZX β):andThen (.ok (a,r)) f=f a r:=rfl
def pg(e:Int)(ts:List Tk):ZX Tk:=match ts with
 |[]=> .error (6,e)
 |t::r=> .ok (t,r)
def atT(e:Int)(ts:List Tk):Int:=match ts with
 |[]=>e
 |t::_=>(t.pos:Int)
def kG(e:Int)(s:List UInt8)(ts:List Tk):ZX Unit:=andThen (pg e ts) fun t r=>if t.text=s then .ok ((),r)else .error (5,(t.pos:Int))
def rV(L:List (List UInt8))(e:Int)(ts:List Tk):ZX Int:=andThen (pg e ts) fun t r=>if kH L t.text=0 then .error (5,(t.pos:Int))else .ok ((kH L t.text:Int),r)
def pJ(e:Int)(ts:List Tk):ZX Tk:=andThen (pg e ts) fun t r=>if t.num=true then .ok (t,r)else .error (5,(t.pos:Int))
def oH(e:Int)(ts:List Tk):ZX Int:=andThen (pJ e ts) fun t r=>if t.n<0\/999<t.n then .error (1,(t.pos:Int))else .ok (t.n,r)
def kM(e kd:Int)(r:List Tk):ZX (Int×Int):=
 if kd=2 then andThen (pJ e r) fun t r=> .ok ((0,t.n),r)
 else if kd=4\/kd=18\/kd=15 then andThen (oH e r) fun k r=> .ok ((k,0),r)
 else if kd=6 then andThen (rV Zo e r) fun k r=> .ok ((k,0),r)
 else .ok ((0,0),r)
def sF(e:Int)(ts:List Tk):ZX (Int×Int×Int):=andThen (rV Zf e ts) fun kd r=>andThen (kM e kd r) fun x r=> .ok ((kd,x),r)
def qb(g:List Tk->ZX V):Nat->List V->List Tk->ZX (List V)
 |0,acc,r=> .ok (acc,r)
 |n+1,acc,r=>andThen (g r) fun v r=>qb g n (acc++[v]) r
def jT(e:Int):Nat->List Tk->ZX V
 |0,ts=> .error (4,atT e ts)
 |f+1,ts=>andThen (kG e Vd ts) fun _ r=>andThen (sF e r) fun h r=>andThen (qb (jT e f) (Y5 h.1).toNat [] r) fun l r=>andThen (kG e Ph r) fun _ r=> .ok (⟨h.1,h.2.1,h.2.2,l⟩,r)
def vF(e:Int):Nat->List V->List Tk->ZX (List V)
 |0,acc,ts=> .ok (acc,ts)
 |f+1,acc,ts=>match ts with
  |[]=> .ok (acc,[])
  |t::r=>andThen (kG e J5 (t::r)) fun _ r=>andThen (jT e 31 r) fun v r=>vF e f (acc++[v]) r
theorem nV{e:Int}{s:List UInt8}{ts r:List Tk}{u:Unit}(h:kG e s ts= .ok (u,r)):∃t,ts=t::r/\t.text=s:=by
 cases ts with
 |nil=>cases h
 |cons a b=>
  simp only[kG,pg,andThen]at h;split at h;cases h;exact⟨a,rfl,by assumption⟩;cases h
theorem yo{L:List (List UInt8)}{e:Int}{ts r:List Tk}{k:Int}(h:rV L e ts= .ok (k,r)):∃t,ts=t::r/\kH L t.text≠0/\k=kH L t.text:=by
 cases ts with
 |nil=>cases h
 |cons a b=>
  simp only[rV,pg,andThen]at h;split at h;cases h;cases h;exact⟨a,rfl,by assumption,rfl⟩
theorem Aw{e:Int}{ts r:List Tk}{t:Tk}(h:pJ e ts= .ok (t,r)):ts=t::r/\t.num=true:=by
 cases ts with
 |nil=>cases h
 |cons a b=>
  simp only[pJ,pg,andThen]at h;split at h;cases h;exact⟨rfl,by assumption⟩;cases h
theorem Au{e:Int}{ts r:List Tk}{k:Int}(h:oH e ts= .ok (k,r)):∃t,ts=t::r/\t.num=true/\k=t.n/\0<=k/\k<=999:=by
 unfold oH at h;cases hn:pJ e ts with
 |error x=>rw[hn]at h;cases h
 |ok x=>
  obtain⟨t,r'⟩:=x;rw[hn]at h;simp only[andThen]at h;obtain⟨h1,h2⟩:=Aw hn;split at h;cases h;cases h;exact⟨t,h1,h2,rfl,by omega,by omega⟩
theorem TL{e kd:Int}{ts r:List Tk}{x:Int×Int}(h:kM e kd ts= .ok (x,r)):∃p,ts=p++r:=by
 unfold kM at h;split at h
 ·cases hn:pJ e ts with
  |error y=>rw[hn]at h;cases h
  |ok y=>rw[hn]at h;cases h;exact⟨[y.1],by simpa using(Aw hn).1⟩
 ·split at h
  ·cases hn:oH e ts with
   |error y=>rw[hn]at h;cases h
   |ok y=>rw[hn]at h;cases h;obtain⟨t,h1,_⟩:=Au hn;exact⟨[t],by simpa using h1⟩
  ·split at h
   ·cases hn:rV Zo e ts with
    |error y=>rw[hn]at h;cases h
    |ok y=>rw[hn]at h;cases h;obtain⟨t,h1,_⟩:=yo hn;exact⟨[t],by simpa using h1⟩
   ·cases h;exact⟨[],rfl⟩
theorem iL{α β:Type}{g:ZX α}{f:α->List Tk->ZX β}{b:β}{r:List Tk}(h:andThen g f= .ok (b,r)):∃a r1,g= .ok (a,r1)/\f a r1= .ok (b,r):=by
 cases g with
 |error x=>cases h
 |ok x=>exact⟨x.1,x.2,rfl,h⟩
theorem KE{e:Int}{ts r:List Tk}{x:Int×Int×Int}(h:sF e ts= .ok (x,r)):(∃t r1,ts=t::r1/\kH Zf t.text≠0/\x.1=kH Zf t.text/\kM e x.1 r1= .ok (x.2,r)):=by
 unfold sF at h;obtain⟨kd,r1,h1,h2⟩:=iL h;obtain⟨y,r2,h3,h4⟩:=iL h2;obtain⟨t,rfl,h5,h6⟩:=yo h1;cases h4;exact⟨t,r1,rfl,h5,h6,h3⟩
theorem TZ{g:List Tk->ZX V}(hg:∀ts v r,g ts= .ok (v,r)->∃p,ts=p++r/\v.size<=p.length):∀(n:Nat)(acc:List V)(ts:List Tk)(l:List V)(r:List Tk),qb g n acc ts= .ok (l,r)->∃p,ts=p++r/\sizes l<=sizes acc+p.length/\l.length=acc.length+n:=by
 intro n;induction n with
 |zero=>intro acc ts l r h;rw[qb]at h;cases h;exact⟨[],rfl,aj _,rfl⟩
 |succ n ih=>
  intro acc ts l r h;rw[qb]at h;obtain⟨v,r1,h1,h2⟩:=iL h;obtain⟨p,rfl,hp⟩:=hg _ _ _ h1;obtain⟨q,rfl,hq,hl⟩:=ih _ _ _ _ h2;refine⟨p++q,by simp, ?_, ?_⟩;rw[iZ,ky]at hq;rw[ak];omega;rw[hl,ak,aJ];omega
theorem uZ(e:Int):∀(f:Nat)(ts:List Tk)(v:V)(r:List Tk),jT e f ts= .ok (v,r)->∃p,ts=p++r/\v.size<=p.length:=by
 intro f;induction f with
 |zero=>intro ts v r h;cases h
 |succ f ih=>
  intro ts v r h;rw[jT]at h;obtain⟨_,r1,h1,h⟩:=iL h;obtain⟨x,r2,h2,h⟩:=iL h;obtain⟨l,r3,h3,h⟩:=iL h;obtain⟨_,r4,h4,h⟩:=iL h;cases h;obtain⟨t1,rfl,_⟩:=nV h1;obtain⟨t2,r5,rfl,_,_,h6⟩:=KE h2;obtain⟨p,rfl⟩:=TL h6;obtain⟨q,rfl,hq,_⟩:=TZ ih _ _ _ _ _ h3;obtain⟨t3,rfl,_⟩:=nV h4;refine⟨t1::t2::(p++q++[t3]),by simp, ?_⟩;rw[size_eq];rw[YX]at hq;simp only[aL,ak,bf];omega
theorem R8(e:Int):∀(f g:Nat)(acc:List V)(ts:List Tk),ts.length<f->ts.length<g->vF e f acc ts=vF e g acc ts:=by
 intro f;induction f with
 |zero=>intro g acc ts h;omega
 |succ f ih=>
  intro g acc ts hf hg;cases g with
  |zero=>omega
  |succ g=>
   cases ts with
   |nil=>rfl
   |cons t r=>
    rw[vF,vF];cases hm:kG e J5 (t::r)with
    |error x=>rfl
    |ok x=>
     obtain⟨u,r1⟩:=x;obtain⟨t',h1,_⟩:=nV hm;cases h1;simp only[andThen];cases hx:jT e 31 r with
     |error x=>rfl
     |ok x=>
      obtain⟨v,r2⟩:=x;obtain⟨p,rfl,hp⟩:=uZ e _ _ _ _ hx;simp only[aL,ak]at hf hg;exact ih g _ _ (by show r2.length<f;omega) (by show r2.length<g;omega)
def gU(e:Int)(acc:List V)(ts:List Tk):ZX (List V):=vF e (ts.length+1) acc ts
theorem EB(e:Int)(acc:List V):gU e acc []= .ok (acc,[]):=rfl
theorem xH(e:Int)(acc:List V)(t:Tk)(r:List Tk):gU e acc (t::r)=andThen (kG e J5 (t::r)) fun _ r=>andThen (jT e 31 r) fun v r=>gU e (acc++[v]) r:=by
 unfold gU;rw[vF];cases hm:kG e J5 (t::r)with
 |error x=>rfl
 |ok x=>
  obtain⟨u,r1⟩:=x;obtain⟨t',h1,_⟩:=nV hm;cases h1;simp only[andThen];cases hx:jT e 31 r with
  |error x=>rfl
  |ok x=>
   obtain⟨v,r2⟩:=x;obtain⟨p,rfl,hp⟩:=uZ e _ _ _ _ hx;simp only[aL,ak];exact R8 e _ _ _ _ (by omega) (by omega)
theorem Rq(e:Int):∀(f:Nat)(acc:List V)(ts:List Tk)(l:List V)(r:List Tk),vF e f acc ts= .ok (l,r)->sizes l<=sizes acc+ts.length:=by
 intro f;induction f with
 |zero=>intro acc ts l r h;cases h;omega
 |succ f ih=>
  intro acc ts l r h;cases ts with
  |nil=>cases h;omega
  |cons t r1=>
   rw[vF]at h;obtain⟨_,r2,h1,h⟩:=iL h;obtain⟨v,r3,h2,h4⟩:=iL h;obtain⟨t',h3,_⟩:=nV h1;cases h3;obtain⟨p,rfl,hp⟩:=uZ e _ _ _ _ h2;have:=ih _ _ _ _ h4;rw[iZ,ky]at this;simp only[aL,ak];omega
def o6(e:Int)(ts:List Tk):List V×Int×Int:=match gU e [] ts with
 | .error x=>([],x.1,x.2)
 | .ok x=>if(Y6 x.1).1=0 then(x.1,0,0)else([],(Y6 x.1).1,(Y6 x.1).2)
def Zd(l:List UInt8):List V×Int×Int:=if(scan l).2.1=0 then o6 (l.length:Int) (scan l).1 else([],(scan l).2.1,(scan l).2.2)
theorem abE(e:Int)(ts:List Tk):sizes (o6 e ts).1<=ts.length:=by
 unfold o6;cases h:gU e [] ts with
 |error x=>simp[YX]
 |ok x=>
  obtain⟨l,r⟩:=x;simp only;split;have:=Rq e _ _ _ _ _ h;rw[YX]at this;simpa using this;simp[YX]
theorem gZ{w w':World}{o:Obj}(q:aA (w.alloc o) w'):w'.heap[w.heap.size]?=some o:=by
 rw[q.block w.heap.size (by simp) (fun h=>h)];exact ah w o
theorem nH{w:World}{x:Nat}{a b c d:Value}{t:TypeId}(h:w.heap[x]?=some (.cells #[a,b,c,d] t (0,0))):w.cell? ⟨x,0,none⟩=some a/\w.cell? ⟨x,1,none⟩=some b/\w.cell? ⟨x,2,none⟩=some c/\w.cell? ⟨x,3,none⟩=some d:=by
 refine⟨?_, ?_, ?_, ?_⟩<;>simp[World.cell?,h]
theorem Z6{w:World}{x:Nat}{a b:Value}{t:TypeId}(h:w.heap[x]?=some (.cells #[a,b] t (0,0))):w.cell? ⟨x,0,none⟩=some a/\w.cell? ⟨x,1,none⟩=some b:=by
 refine⟨?_, ?_⟩<;>simp[World.cell?,h]
theorem YZ{w:World}{x:Nat}{cs:Array Value}{t:TypeId}(h:w.heap[x]?=some (.cells cs t (0,0))):∀j,w.frozen? ⟨x,j,none⟩=false:=fun j=>Lib.frozen_of_heap h j
theorem Cc(w:World)(x j:Nat)(a:Value):Kp (fun i=>x<=i) w (w.setCell ⟨x,j,none⟩ a):=Kp.setCell w ⟨x,j,none⟩ a (aj x)
theorem DV{w w':World}{o:Obj}(q:aA (w.alloc o) w')(a b c d:Value):aA w ((((w'.setCell ⟨w.heap.size,0,none⟩ a).setCell ⟨w.heap.size,1,none⟩ b).setCell ⟨w.heap.size,2,none⟩ c).setCell ⟨w.heap.size,3,none⟩ d):=
 ((Kp.alloc w o).trans q).fresh (((((Cc _ _ 0 a).trans (Cc _ _ 1 b)).trans (Cc _ _ 2 c)).trans (Cc _ _ 3 d)))
theorem Xz{w w':World}{o:Obj}(q:aA (w.alloc o) w')(a b:Value):aA w ((w'.setCell ⟨w.heap.size,0,none⟩ a).setCell ⟨w.heap.size,1,none⟩ b):=
 ((Kp.alloc w o).trans q).fresh ((Cc _ _ 0 a).trans (Cc _ _ 1 b))
def Tk.cells(t:Tk):List Value:=[.int .i64 t.pos,.string ⟨t.text.toArray⟩,.bool t.num,.int .i64 t.n]
def cellsOf(ts:List Tk):List Value:=ts.flatMap Tk.cells
theorem GV(a b:List Tk):cellsOf (a++b)=cellsOf a++cellsOf b:=by simp[cellsOf]
theorem Gz(t:Tk):cellsOf [t]=t.cells:=by simp[cellsOf]
theorem qf(ts:List Tk)(i j:Nat)(hi:i<ts.length)(hj:j<4):(cellsOf ts)[i*4+j]?=ts[i].cells[j]?:=by
 induction ts generalizing i with
 |nil=>simp at hi
 |cons t ts ih=>
  rw[show cellsOf (t::ts)=t.cells++cellsOf ts from rfl];have h4:t.cells.length=4:=rfl;cases i with
  |zero=>rw[dP (by omega)];simp
  |succ i=>
   rw[bX (by omega),h4,show(i+1)*4+j-4=i*4+j by omega];simpa using ih i (by simpa using hi)
def oM(w:World)(B:Nat)(e:TypeId)(v:Value)(ts:List Tk):Prop:=w.ownsRow B e 4 v ts.length (cellsOf ts)
theorem oM.quiet{w w':World}{B:Nat}{e:TypeId}{v:Value}{ts:List Tk}(h:oM w B e v ts)(q:aA w w'):oM w' B e v ts:=q.row h fun _ _ h=>h
theorem oM.shape{w:World}{B:Nat}{e:TypeId}{v:Value}{ts:List Tk}(h:oM w B e v ts):∃ao cap,v= .slice ao ts.length cap:=YU h
theorem oM.part{w:World}{B:Nat}{e:TypeId}{v:Value}{ts:List Tk}(h:oM w B e v ts):∃ao m cap,v= .slice ao m cap/\ts.length=m/\w.ownsRow B e 4 (.slice ao m cap) m (cellsOf ts):=by
 obtain⟨ao,cap,rfl⟩:=h.shape;exact⟨ao,_,cap,rfl,rfl,h⟩
theorem oM.at{w:World}{B:Nat}{e:TypeId}{ao:Option Addr}{cap:Nat}{ts:List Tk}(h:oM w B e (.slice ao ts.length cap) ts)(i:Nat)(hi:i<ts.length):
 ∃g,ao=some ⟨g,0,none⟩/\w.cell? ⟨g,i*4,none⟩=some (.int .i64 ts[i].pos)/\w.cell? ⟨g,i*4+1,none⟩=some (.string ⟨ts[i].text.toArray⟩)/\w.cell? ⟨g,i*4+2,none⟩=some (.bool ts[i].num)/\w.cell? ⟨g,i*4+3,none⟩=some (.int .i64 ts[i].n):=by
 obtain⟨g,e,h⟩:=Zc h (by omega);refine⟨g,e, ?_, ?_, ?_, ?_⟩;rw[h (i*4) (by omega),show i*4=i*4+0 from rfl,qf ts i 0 hi (by omega)];rfl;rw[h _ (by omega),qf ts i 1 hi (by omega)];rfl;rw[h _ (by omega),qf ts i 2 hi (by omega)];rfl;rw[h _ (by omega),qf ts i 3 hi (by omega)];rfl
theorem oM.tok{w:World}{B:Nat}{e:TypeId}{ao:Option Addr}{m cap:Nat}{ts:List Tk}(h:oM w B e (.slice ao m cap) ts)(hm:ts.length=m)(i:Nat)(t:Tk)(ht:ts[i]?=some t):
 ∃g,ao=some ⟨g,0,none⟩/\w.cell? ⟨g,i*4,none⟩=some (.int .i64 t.pos)/\w.cell? ⟨g,i*4+1,none⟩=some (.string ⟨t.text.toArray⟩)/\w.cell? ⟨g,i*4+2,none⟩=some (.bool t.num)/\w.cell? ⟨g,i*4+3,none⟩=some (.int .i64 t.n):=by
 subst hm;obtain⟨hi,rfl⟩:=dn.1 ht;exact h.at i hi
theorem oM.nil(w:World)(B:Nat)(e:TypeId):oM w B e (.slice none 0 0) []:=⟨rfl,.inl ⟨rfl,rfl⟩⟩
