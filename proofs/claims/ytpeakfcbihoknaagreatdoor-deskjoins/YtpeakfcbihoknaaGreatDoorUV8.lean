/- Parts. -/
import Derived.Test.YtpeakfcbihoknaaGreatDoorUYGiven
import Derived.Test.YtpeakfcbihoknaaGreatDoorUM6
open Go.ChangeShapes Go.WideShapes Go.ChangeAt Go.RowKit
set_option maxRecDepth 8000
set_option maxHeartbeats 2000000
namespace Go.Proofs.YtpeakfcbihoknaaGreatDoor
open Proofs.Tryz
open Gr (Nd ZH nd0 YT mf aS dJ bJ dV mV fO Zx funcOf bS Y0 bN eX YS Wf jg GS fJ ZL)
theorem Ui{bit:Nat}(h:bit<=1):nT bit (JB bit):=by
 obtain rfl|rfl:bit=0\/bit=1:=by omega
 ·exact .inl ⟨rfl,rfl⟩
 ·exact .inr (.inl ⟨rfl,rfl⟩)
def Px(tr:List (Sp×Int))(e:Wo.ZI):Prop:=bY e.plugin=true/\∃bit:Nat,bit<=1/\e.right=JB bit/\D8 tr e.plugin e.cell bit=true
theorem XO{tr:List (Sp×Int)}(ht:oI tr)(hr:∀y∈tr,y.1.kind=2->y.2=0->0<=y.1.r/\y.1.r<=15):Su (fun p=>cZ tr p):=by
 intro p _ n hn hp;obtain⟨y,h1,h2,h3,_,rfl⟩:=qB.1 hn;have k:y.1.kind=2:=by
  rcases h3 with k|k;exact k;exact absurd ((qK ht h1 h2 (.inr k)).1.2 k) (by omega)
 have:=hr y h1 k h2;unfold lL;rw[ag k];exact this
theorem JQ{B:Nat}{a:Nat->Option Addr×Nat}{tr:List (Sp×Int)}{w:World}(H:GfS B a (fun p=>cZ tr p) w)(ht:oI tr)(hr:∀y∈tr,y.1.kind=2->y.2=0->0<=y.1.r/\y.1.r<=15)(p cell:Int)(bit:Nat)(hp:bY p=true)(hb:bit<=1):Calls prog 199 #[.agg (gfC a (fun p=>cZ tr p)),.int .i64 p,.int .i64 cell,.int .i64 (JB bit)] w fun e w'=>e= .returned (.bool (D8 tr p cell bit))/\aA w w':=by
 have hpp:0<=p/\p<4:=by simpa [bY]using hp
 obtain⟨j,rfl⟩:∃j:Nat,p=j:=⟨p.toNat,by omega⟩;refine(M3 H (Ui hb) (XO ht hr) j (by omega)).mono ?_;rintro e w' ⟨c,hc,rfl,q⟩;exact⟨by rw[LK ht (by omega) hc],q⟩
def vU(w:World)(es:List Wo.ZI)(ao:Option Addr):Prop:=∀k (h:k<es.length),∃g off,ao=some ⟨g,off,none⟩/\w.cell? ⟨g,off+k*4,none⟩=some (.int .i64 es[k].plugin)/\w.cell? ⟨g,off+k*4+1,none⟩=some (.int .i64 es[k].cell)/\w.cell? ⟨g,off+k*4+2,none⟩=some (.int .i64 es[k].right)/\w.cell? ⟨g,off+k*4+3,none⟩=some (.int .i64 es[k].node)
theorem vU.quiet{w w':World}{es:List Wo.ZI}{ao:Option Addr}(h:vU w es ao)(k:aA w w'):vU w' es ao:=fun i hi=>by
 obtain⟨g,off,e,c0,c1,c2,c3⟩:=h i hi;exact⟨g,off,e,k.cell c0 fun e=>e,k.cell c1 fun e=>e,k.cell c2 fun e=>e,k.cell c3 fun e=>e⟩
section
variable{B:Nat}{a:Nat->Option Addr×Nat}{tr:List (Sp×Int)}{w:World}{bg:Nat}
theorem J3(H:GfS B a (fun p=>cZ tr p) w)(hb:w.heap[bg]?=some (.cells (gfC a (fun p=>cZ tr p)) 275 (0,0)))(ht:oI tr)(hr:∀y∈tr,y.1.kind=2->y.2=0->0<=y.1.r/\y.1.r<=15)(e:Wo.ZI)(he:Px tr e):Calls prog 198 #[.agg #[.int .i64 e.plugin,.int .i64 e.cell,.int .i64 e.right,.int .i64 e.node],.pointer (some ⟨bg,0,none⟩)] w fun r w'=>r= .returned (.bool false)/\aA w w':=by
 obtain⟨hp,bit,hbit,hri,hm⟩:=he;obtain⟨ep,ec,er,en⟩:=e;simp only at hp hri hm|-;subst hri;have q1:aA w (w.alloc (.cells #[.int .i64 ep,.int .i64 ec,.int .i64 (JB bit),.int .i64 en] 101)):=Kp.alloc _ _;obtain⟨m0,m1,m2,m3⟩:=xO ((q1.block _ (ae hb) fun e=>e).trans hb);have HC:=hid (JQ (H.quiet q1) ht hr ep ec bit hp hbit);rw[hm]at HC;have HQ:=hid q1;clear H hb q1 hm hr;unfold gfC at HC;generalize JB bit=rt at*;go_enter func198,ntmps198;go_wp2_with (go_at_call 199;refine HC.out.mono ?_;rintro e w2 ⟨rfl,q2⟩;have H2:=hid (HQ.out.trans q2);clear q2);go_ret;exact⟨rfl,H2.out⟩
theorem Od(H:GfS B a (fun p=>cZ tr p) w)(hb:w.heap[bg]?=some (.cells (gfC a (fun p=>cZ tr p)) 275 (0,0)))(ht:oI tr)(hr:∀y∈tr,y.1.kind=2->y.2=0->0<=y.1.r/\y.1.r<=15)(es:List Wo.ZI)(he:∀e∈es,Px tr e)(ao:Option Addr)(cap:Nat)(ha:vU w es ao)(hl:es.length<=900000):
 Calls prog 228 #[.slice ao es.length cap,.func (.func 198) #[] #[.pointer (some ⟨bg,0,none⟩)]] w fun e w'=>e= .returned (.int .i64 (-1))/\aA w w':=by
 have HH:=Dq H hb ht hr he ha;clear H hb ht hr he ha;go_enter func228,ntmps228;go_wp2;go_loopw [8] (fun i wr=>∃k:Nat,i= .int .i64 k/\k<=es.length/\Hid (aA w wr)) (fun i _=>es.length-(intOf i).toNat);case atStart=>exact⟨0,rfl,aP _,hid (Kp.refl _ _)⟩
 case round=>
  rename World=>wr;obtain⟨k,rfl,hk,D⟩:=hrel;by_cases hlt:k<es.length
  ·obtain⟨H,hb,ht,hr,he,ha⟩:=HH.out;obtain⟨g,off,hao,c0,c1,c2,c3⟩:=(ha.quiet D.out) k hlt;subst hao;have HK:=hid (J3 (H.quiet D.out) ((D.out.block _ (ae hb) fun e=>e).trans hb) ht hr es[k] (he _ (aI hlt)));clear H hb ht hr he ha;generalize es[k]=en at*;obtain⟨ep,ec,er,en⟩:=en;simp only at c0 c1 c2 c3 HK;go_wp2_with (go_at_call 198;refine HK.out.mono ?_;rintro e w2 ⟨rfl,q2⟩;have Q2:=hid (D.out.trans q2);clear q2);refine⟨⟨k+1,by go_num,by omega,hid Q2.out⟩,by simp[intOf];omega⟩
  ·obtain rfl:k=es.length:=(by omega);have hnl:¬((es.length:Int)<(es.length:Int)):=(by omega);go_wp2;go_ret;exact⟨rfl,D.out⟩
theorem Ns(H:GfS B a (fun p=>cZ tr p) w)(hb:w.heap[bg]?=some (.cells (gfC a (fun p=>cZ tr p)) 275 (0,0)))(ht:oI tr)(hr:∀y∈tr,y.1.kind=2->y.2=0->0<=y.1.r/\y.1.r<=15)(es:List Wo.ZI)(he:∀e∈es,Px tr e)(ao:Option Addr)(cap:Nat)(ha:vU w es ao)(hl:es.length<=900000):
 Calls prog 197 #[.slice ao es.length cap,.func (.func 198) #[] #[.pointer (some ⟨bg,0,none⟩)]] w fun e w'=>e= .returned (.bool false)/\aA w w':=by
 have HI:=hid (Od H hb ht hr es he ao cap ha hl);clear H hb ht hr he ha;go_enter func197,ntmps197;go_wp2_with (go_at_call 228;refine HI.out.mono ?_;rintro e w2 ⟨rfl,q2⟩;have H2:=hid q2;clear q2);go_ret;exact⟨rfl,H2.out⟩
end
theorem CL{X:Nat->Prop}{P:Yx}{q:Hq}{h:Hs}{tr:List (Sp×Int)}{n:Nat}{w:World}(H:YN X P q h tr n w)(hl:tr.length<=1000)(ht:oI tr)(hr:∀y∈tr,y.1.kind=2->y.2=0->0<=y.1.r/\y.1.r<=15)(es:List Wo.ZI)(he:∀e∈es,Px tr e)(ao:Option Addr)(cap:Nat)(ha:vU w es ao)(hle:es.length<=900000):
 Calls prog 173 #[.pointer (some ⟨P.wb,0,none⟩),.slice ao es.length cap] w fun e w'=>e= .returned (.tuple #[])/\aA w w':=by
 have HG:=hid (JE H hl);have HH:=jR ht hr he ha;clear H ht hr he ha;go_enter func173,ntmps173;go_wp2_with (first
  |(go_at_call 197;refine HD.out.2.mono ?_;rintro e w4 ⟨rfl,q4⟩;have H4:=hid q4;clear q4)
  |(go_at_call 196;refine HG.out.mono ?_;rintro e w2 ⟨a,rfl,g2,q2⟩;have q3:aA w2 (w2.alloc (.cells (gfC a (fun p=>cZ tr p)) 275)):=Kp.alloc _ _;have HD:=bC (q2.trans q3) (Ns (g2.quiet q3) (ah w2 _) HH.out.1 HH.out.2.1 es HH.out.2.2.1 ao cap (HH.out.2.2.2.quiet (q2.trans q3)) hle);clear g2 q2 q3;unfold gfC ZK at HD|-))
 go_end0;exact⟨rfl,HD.out.1.trans H4.out⟩
section
variable{M:Hx}{q:Hq}{h:Hs}{w:World}{X:Nat->Prop}
def Pn(X:Nat->Prop)(P:Int×Int->Prop)(M:Hx)(q:Hq)(h:Hs)(x:Sx)(w:World)(e:Ending)(w':World):Prop:=
 ∃c,(bY x.p=true->∃f,P f/\f.1=c)/\e= .returned (.int .i64 (iV h (x.sp c)).1.code)/\bH X M q (iV h (x.sp c)).2 w'/\fZ M q w q w'
theorem TA(h:Hs)(x:Sx)(hp:bY x.p=false):iV h (x.sp 0)=(⟨1,0,v0⟩,h):=by
 unfold iV Sx.sp;simp only;rw[hp];rfl
theorem Q9(h:Hs)(x:Sx){c:Int}(hp:bY x.p=true)(hc:c≠0):iV h (x.sp c)=(⟨c,0,v0⟩,h):=by
 unfold iV Sx.sp;simp only;rw[hp,ag rfl,af hc]
theorem La(h:Hs)(x:Sx)(hp:bY x.p=true):iV h (x.sp 0)=(⟨0,0,v0⟩,{h with ms:=h.ms.set x.p.toNat (some x.fs),s:={h.s with ks:=h.s.ks.set x.p.toNat v0}}):=by
 unfold iV Sx.sp;simp only;rw[hp];simp
theorem HOk.load{h:Hs}(ok:HOk h){j:Nat}(hj:j<4)(fs:List Ex.V):HOk ⟨{h.s with ks:=h.s.ks.set j v0},h.ms.set j (some fs),h.hs⟩:=by
 have hp:bY (j:Int)=true:=by simp[bY];omega
 have h1:=ok.step ⟨1,j,0,0,0,0,0,0,0,fs⟩;have h2:=La h ⟨1,j,0,0,0,0,0,0,fs,none,0⟩ hp;unfold Sx.sp at h2;unfold dL at h1;rw[ag rfl,h2]at h1;exact h1
theorem bH.afd(H:bH X M q h w)(j:Nat)(hj:j<4):(∃t0 t1 t2 t3 t4,w.cell? ⟨M.bb,2+j*5,none⟩=some t0/\w.cell? ⟨M.bb,2+j*5+1,none⟩=some t1/\w.cell? ⟨M.bb,2+j*5+2,none⟩=some t2/\w.cell? ⟨M.bb,2+j*5+3,none⟩=some t3/\w.cell? ⟨M.bb,2+j*5+4,none⟩=some t4)/\(∀k,w.frozen? ⟨M.bb,k,none⟩=false)/\M.bb<w.heap.size:=by
 obtain⟨a,b,c,d,hb,_⟩:=H.box;have key:∀k x,(pI M.g M.wd a b c d)[k]?=some x->w.cell? ⟨M.bb,k,none⟩=some x:=fun k x hx=>by
  rw[<-hx];simp[World.cell?,hb.obj]
 refine⟨?_,fun k=>aG w _ k _ _ hb.obj,ae hb.obj⟩;obtain rfl|rfl|rfl|rfl:j=0\/j=1\/j=2\/j=3:=by omega
 all_goals exact⟨_,_,_,_,_,key _ _ rfl,key _ _ rfl,key _ _ rfl,key _ _ rfl,key _ _ rfl⟩
theorem O1(H:bH X M q h w)(x:Sx)(hx:x.Fit){P:Int×Int->Prop}(hM:tT P x w):Calls prog 190 #[.pointer (some ⟨M.hb,0,none⟩),.int .i64 x.p,.agg #[.slice x.fa x.fs.length x.fc]] w fun e w'=>Pn X P M q h x w e w':=by
 have q1:aA w (w.alloc (.cells #[.slice x.fa x.fs.length x.fc] 92)):=Kp.alloc _ _;cases hp:bY x.p with
 |false=>
  have HE:=hid (TA h x hp);have HH:=bC (H.quiet q1) q1;clear H hM q1;obtain⟨kind,p,qq,k,hh,r,g,n,fs,fa,fc⟩:=x;simp only at*;go_enter func190,ntmps190;go_wp2_with (go_at_call 150;refine(lG p _).mono ?_;rintro e w' ⟨rfl,h2⟩;replace h2:=h2.symm;subst h2;rw[hp]);go_ret;refine⟨0,fun e=>(by simp only[hp]at e;cases e), ?_⟩;rw[HE.out];exact⟨rfl,HH.out.1,fZ.quiet M q HH.out.2⟩
 |true=>
  have HE:=bC (fun c=>Q9 h x (c:=c) hp) (La h x hp);have HM:=hid (hM.2 _ q1);have HP:=hid hM.1;have HF:=hid hx.ins;have HH:=bC (H.quiet q1) q1;have hpp:0<=x.p/\x.p<4:=by simpa [bY]using hp
  clear H hM q1 hx;obtain⟨kind,p,qq,k,hh,r,g,n,fs,fa,fc⟩:=x;simp only at*;obtain⟨j,rfl⟩:∃j:Nat,p=j:=⟨p.toNat,by omega⟩;have hj4:(j:Int)<4:=hpp.2;have hj:j<4:=by omega
  clear hpp;go_enter func190,ntmps190;go_wp2_with (first
   |(go_at_call 223;refine HM.out.mono ?_)
   |(go_at_call 150;refine(lG j _).mono ?_;rintro e w' ⟨rfl,h2⟩;replace h2:=h2.symm;subst h2;rw[hp]))
  rintro e w2 ⟨f,hf,q2,⟨h0,rfl⟩|⟨h0,ao,cap,ps,rfl,md,hps⟩⟩
  ·have HQ:=bC hf q2;clear hf q2;go_wp2;go_ret;refine⟨f.1,fun _=>⟨f,HQ.out.1,rfl⟩, ?_⟩;rw[HE.out.1 _ h0];have q3:=HQ.out.2.trans (Kp.alloc w2 (.cells #[.int .i64 f.1,.int .i64 f.2] 31));exact⟨rfl,HH.out.1.quiet q3,fZ.quiet M q (HH.out.2.trans q3)⟩
  ·have q3:=q2.trans (Kp.alloc w2 (.cells #[.int .i64 0,.int .i64 0] 31));have H3:=HH.out.1.quiet q3;have hca:=(Uv md hps).kept (Kp.alloc (F:=fun _=>False) w2 (.cells #[.int .i64 0,.int .i64 0] 31)) (fun _ _ _ _ _ e=>e);have hl:=H3.load hj hca (HP.out f hf h0) HF.out (HH.out.1.ok.load hj fs);obtain⟨⟨t0,t1,t2,t3,t4,c0,c1,c2,c3,c4⟩,hfz,hlt⟩:=H3.afd j hj;have z0:=hfz (2+j*5);have z1:=hfz (2+j*5+1);have z2:=hfz (2+j*5+2);have z3:=hfz (2+j*5+3);have z4:=hfz (2+j*5+4);have d0:=H3.cells.1;have HL:=jR hl hf h0 (HH.out.2.trans q3);clear hfz hl q3 H3 hca hf q2 md hps;go_wp2;go_ret;refine⟨0,fun _=>⟨f,HL.out.2.1,HL.out.2.2.1⟩, ?_⟩;rw[HE.out.2];exact⟨rfl,HL.out.1.1,(fZ.quiet M q HL.out.2.2.2).trans HL.out.1.2⟩
end
section
variable{M:Hx}{q:Hq}{h:Hs}{w:World}{X:Nat->Prop}
theorem wM{w:World}{g:Nat}{a b c d e f k l m:Value}{t:TypeId}(h:w.heap[g]?=some (.cells #[a,b,c,d,e,f,k,l,m] t (0,0))):w.cell? ⟨g,0,none⟩=some a/\w.cell? ⟨g,1,none⟩=some b/\w.cell? ⟨g,2,none⟩=some c/\w.cell? ⟨g,3,none⟩=some d/\w.cell? ⟨g,4,none⟩=some e/\w.cell? ⟨g,5,none⟩=some f/\w.cell? ⟨g,6,none⟩=some k/\w.cell? ⟨g,7,none⟩=some l/\w.cell? ⟨g,8,none⟩=some m:=by
 refine⟨?_, ?_, ?_, ?_, ?_, ?_, ?_, ?_, ?_⟩<;>simp[World.cell?,h]
theorem iA(w:World)(x:Nat)(a b c d e:Value):Kp (fun k=>k=x) w (((((w.setCell ⟨x,0,none⟩ a).setCell ⟨x,1,none⟩ b).setCell ⟨x,2,none⟩ c).setCell ⟨x,3,none⟩ d).setCell ⟨x,4,none⟩ e):=((((bF w x 0 a).trans (bF _ x 1 b)).trans (bF _ x 2 c)).trans (bF _ x 3 d)).trans (bF _ x 4 e)
theorem iE{w:World}{g:Nat}{x0 x1 x2 x3 x4:Value}{t:TypeId}(h:w.heap[g]?=some (.cells #[x0,x1,x2,x3,x4] t (0,0)))(t0 t1 t2 t3 t4:Value):(((((w.setCell ⟨g,0,none⟩ t0).setCell ⟨g,1,none⟩ t1).setCell ⟨g,2,none⟩ t2).setCell ⟨g,3,none⟩ t3).setCell ⟨g,4,none⟩ t4).heap[g]?=some (.cells #[t0,t1,t2,t3,t4] t (0,0)):=by
 simp[World.setCell,aR,h]
theorem bZ{w:World}{g:Nat}{a b c d e:Value}{t:TypeId}(h:w.heap[g]?=some (.cells #[a,b,c,d,e] t (0,0))):(w.cell? ⟨g,0,none⟩=some a/\w.cell? ⟨g,1,none⟩=some b/\w.cell? ⟨g,2,none⟩=some c/\w.cell? ⟨g,3,none⟩=some d/\w.cell? ⟨g,4,none⟩=some e)/\w.frozen? ⟨g,0,none⟩=false/\w.frozen? ⟨g,1,none⟩=false/\w.frozen? ⟨g,2,none⟩=false/\w.frozen? ⟨g,3,none⟩=false/\w.frozen? ⟨g,4,none⟩=false:=by
 refine⟨⟨?_, ?_, ?_, ?_, ?_⟩,aG w g 0 _ t h,aG w g 1 _ t h,aG w g 2 _ t h,aG w g 3 _ t h,aG w g 4 _ t h⟩<;>simp[World.cell?,h]
def gN(h:Hs)(x:Sx):ZH:=if x.kind=3 then funcOf h.s.ns h.s.os x.q x.k x.r x.g else fO h.s.ns h.s.os x.k x.r x.g
def QB(M:Hx)(q:Hq)(R:ZH)(w:World)(e:Ending)(w':World):Prop:=e= .returned (.tuple #[.int .i64 R.num,.int .i64 R.code])/\∃Y4 Y3,GS 184 M.B w' M.g Y4 Y3 R.ns R.os/\Gr.Goes M.g q.n q.o w Y4 Y3 w'
structure HX(X:Nat->Prop)(M:Hx)(q:Hq)(h:Hs)(x:Sx)(b:Nat)(W:World):Prop where
 s:bH X M q h W
 b:W.heap[b]?=some (.cells x.vals 98 (0,0))
theorem HX.free{x:Sx}{b:Nat}{W:World}(H:HX X M q h x b W):¬jC M q b:=H.s.free H.b (by decide) (by decide) (by decide) (by decide) (by decide) (by decide) (by decide) (by decide)
theorem HX.cells{x:Sx}{b:Nat}{W w':World}(H:HX X M q h x b W)(k:Kp (Gr.Own M.g q.n q.o) W w'):
 (w'.cell? ⟨M.hb,0,none⟩=some (.pointer (some ⟨M.bb,0,none⟩))/\w'.cell? ⟨M.bb,0,none⟩=some (.pointer (some ⟨M.g,0,none⟩)))/\w'.cell? ⟨b,0,none⟩=some (.int .i64 x.kind)/\w'.cell? ⟨b,1,none⟩=some (.int .i64 x.p)/\w'.cell? ⟨b,2,none⟩=some (.int .i64 x.q)/\w'.cell? ⟨b,3,none⟩=some (.int .i64 x.k)/\w'.cell? ⟨b,5,none⟩=some (.int .i64 x.r)/\w'.cell? ⟨b,6,none⟩=some (.int .i64 x.g):=by
 have hf:=H.free;have hg:∀k,Gr.Own M.g q.n q.o k->gX M.bb M.g M.wd q.n q.o q.l k:=fun k e=> .inr (.inl e);obtain⟨d0,d1,_⟩:=H.s.cells;obtain⟨c0,c1,c2,c3,_,c5,c6,_,_⟩:=wM H.b;have n1:¬Gr.Own M.g q.n q.o M.hb:=fun e=>H.s.abh.1 (hg _ e);have n2:¬Gr.Own M.g q.n q.o M.bb:=by
  obtain⟨a,b,c,d,hb⟩:=H.s.box.is;exact H.s.gs.Zi hb.obj (by decide) (by decide) (by decide)
 have n3:¬Gr.Own M.g q.n q.o b:=fun e=>hf (.inl (hg _ e));exact⟨⟨k.cell d0 n1,k.cell d1 n2⟩,k.cell c0 n3,k.cell c1 n3,k.cell c2 n3,k.cell c3 n3,k.cell c5 n3,k.cell c6 n3⟩
theorem Gb(H:bH X M q h w)(x:Sx):Calls prog 224 #[.pointer (some ⟨M.hb,0,none⟩),.agg x.vals] w fun e w'=>QB M q (gN h x) w e w':=by
 obtain⟨W,hW⟩:∃W,W=w.alloc (.cells x.vals 98):=⟨_,rfl⟩;have qW:aA w W:=by rw[hW];exact Kp.alloc _ _
 have HH:HX X M q h x w.heap.size W:=⟨H.quiet qW,by rw[hW];exact ah w _⟩;obtain⟨⟨d0,d1⟩,c0,c1,c2,c3,c5,c6⟩:=HH.cells (Kp.refl _ _);rw[hW]at d0 d1 c0 c1 c2 c3 c5 c6;by_cases hk:x.kind=3
 ·have hE:=hid (show gN h x=funcOf h.s.ns h.s.os x.q x.k x.r x.g by unfold gN;rw[ag hk]);have HG:=hid (Gr.acG (HH.s.quiet (Kp.drew _)).gs x.q x.k x.r x.g);have ZW:=hid (fun(w':World) (z:Kp (Gr.Own M.g q.n q.o) W w')=>HH.cells z);obtain⟨kind,p,qq,k,hh,r,g,n,fs,fa,fc⟩:=x;simp only[Sx.vals]at*;subst hk;have HQ:=hid qW;clear H HH qW;go_enter func224,ntmps224;go_wp2_with fail;rw[<-hW];clear hW;have z0:Kp (Gr.Own M.g q.n q.o) W W.drew:=Kp.drew _;go_region_held3 (fun w'=>(w'.cell? ⟨M.hb,0,none⟩=some (.pointer (some ⟨M.bb,0,none⟩))/\w'.cell? ⟨M.bb,0,none⟩=some (.pointer (some ⟨M.g,0,none⟩)))/\w'.cell? ⟨w.heap.size,0,none⟩=some (.int .i64 3)/\w'.cell? ⟨w.heap.size,1,none⟩=some (.int .i64 p)/\w'.cell? ⟨w.heap.size,2,none⟩=some (.int .i64 qq)/\w'.cell? ⟨w.heap.size,3,none⟩=some (.int .i64 k)/\w'.cell? ⟨w.heap.size,5,none⟩=some (.int .i64 r)/\w'.cell? ⟨w.heap.size,6,none⟩=some (.int .i64 g)) ((refine ZW.out _ ?_;assumption)) (first|(go_at_call 251;refine HG.out.mono ?_;rintro e w3 ⟨rfl,Y4,Y3,g3,o3⟩;have z3:Kp (Gr.Own M.g q.n q.o) W w3:=z0.trans o3.kp;have H3:=bC g3 (o3.after (HQ.out.trans (Kp.drew _)));clear g3 o3 z0));go_wp2;go_ret2;rw[hE.out];exact⟨rfl,_,_,H3.out.1,H3.out.2⟩
 ·have hE:=hid (show gN h x=fO h.s.ns h.s.os x.k x.r x.g by unfold gN;rw[af hk]);have HG:=hid (Gr.acF (HH.s.quiet (Kp.drew _)).gs x.k x.r x.g);have ZW:=hid (fun(w':World) (z:Kp (Gr.Own M.g q.n q.o) W w')=>HH.cells z);obtain⟨kind,p,qq,k,hh,r,g,n,fs,fa,fc⟩:=x;simp only[Sx.vals]at*;have HQ:=hid qW;clear H HH qW;go_enter func224,ntmps224;go_wp2_with fail;rw[<-hW];clear hW;have z0:Kp (Gr.Own M.g q.n q.o) W W.drew:=Kp.drew _;go_region_held3 (fun w'=>(w'.cell? ⟨M.hb,0,none⟩=some (.pointer (some ⟨M.bb,0,none⟩))/\w'.cell? ⟨M.bb,0,none⟩=some (.pointer (some ⟨M.g,0,none⟩)))/\w'.cell? ⟨w.heap.size,0,none⟩=some (.int .i64 kind)/\w'.cell? ⟨w.heap.size,1,none⟩=some (.int .i64 p)/\w'.cell? ⟨w.heap.size,2,none⟩=some (.int .i64 qq)/\w'.cell? ⟨w.heap.size,3,none⟩=some (.int .i64 k)/\w'.cell? ⟨w.heap.size,5,none⟩=some (.int .i64 r)/\w'.cell? ⟨w.heap.size,6,none⟩=some (.int .i64 g)) ((refine ZW.out _ ?_;assumption)) (first|(go_at_call 252;refine HG.out.mono ?_;rintro e w3 ⟨rfl,Y4,Y3,g3,o3⟩;have z3:Kp (Gr.Own M.g q.n q.o) W w3:=z0.trans o3.kp;have H3:=bC g3 (o3.after (HQ.out.trans (Kp.drew _)));clear g3 o3 z0));go_wp2;go_ret2;rw[hE.out];exact⟨rfl,_,_,H3.out.1,H3.out.2⟩
end
section
variable{M:Hx}{q q':Hq}{h h':Hs}{w W w' w3:World}{X:Nat->Prop}
def XC(w:World)(n:Nat)(X:Nat->Prop)(k:Nat):Prop:=(w.heap.size<=k/\k<w.heap.size+n)\/X k
structure HC(X:Nat->Prop)(M:Hx)(q:Hq)(h:Hs)(x:Sx)(w:World)(n:Nat)(v:V)(W:World):Prop where
 s:bH (XC w n X) M q h W
 g:fZ M q w q W
 b0:W.heap[w.heap.size]?=some (.cells x.vals 98 (0,0))
 b1:W.heap[w.heap.size+1]?=some (.cells #[.int .i64 0,.int .i64 0,.int .i64 0,.int .i64 0,.slice none 0 0] 133 (0,0))
 b2:W.heap[w.heap.size+1+1]?=some (.cells #[.int .i64 v.kind,.int .i64 v.n,.slice none v.l.length 0] 71 (0,0))
 l:v.l=[]/\v.fits
 n3:3<=n
theorem HC.start(H:bH X M q h w)(x:Sx)(v:V)(hv:v.l=[]/\v.fits):HC X M q h x w 3 v (((w.alloc (.cells x.vals 98)).alloc (.cells #[.int .i64 0,.int .i64 0,.int .i64 0,.int .i64 0,.slice none 0 0] 133)).alloc (.cells #[.int .i64 v.kind,.int .i64 v.n,.slice none 0 0] 71)):=by
 have q3:aA w (((w.alloc (.cells x.vals 98)).alloc (.cells #[.int .i64 0,.int .i64 0,.int .i64 0,.int .i64 0,.slice none 0 0] 133)).alloc (.cells #[.int .i64 v.kind,.int .i64 v.n,.slice none 0 0] 71)):=((Kp.alloc _ _).trans (Kp.alloc _ _)).trans (Kp.alloc _ _);obtain⟨a,b,c⟩:=jk w (.cells x.vals 98) (.cells #[.int .i64 0,.int .i64 0,.int .i64 0,.int .i64 0,.slice none 0 0] 133) (.cells #[.int .i64 v.kind,.int .i64 v.n,.slice none 0 0] 71);refine⟨H.step q3 (fun i hi e=> ?_) (fun i e=> ?_),fZ.quiet M q q3,a,b,by rw[hv.1];exact c,hv,aj _⟩;rcases e with e|e;omega;exact e;rcases e with e|e;simp;omega;exact az (H.xo i e).1 q3.size
theorem HC.more{x:Sx}{v:V}(H:HC X M q h x w 3 v W)(hz:W.heap.size=w.heap.size+3)(o:Obj):HC X M q h x w 4 v (W.alloc o):=by
 have q1:aA W (W.alloc o):=Kp.alloc _ _;refine⟨H.s.step q1 (fun i hi e=> ?_) (fun i e=> ?_),H.g.trans (fZ.quiet M q q1),(q1.block _ (ae H.b0) fun e=>e).trans H.b0,(q1.block _ (ae H.b1) fun e=>e).trans H.b1,(q1.block _ (ae H.b2) fun e=>e).trans H.b2,H.l,by decide⟩;rcases e with e|e;exact .inl (by omega);exact .inr e;rcases e with e|e;simp;omega;exact az (H.s.xo i (.inr e)).1 q1.size
theorem HC.drew{x:Sx}{v:V}{n:Nat}(H:HC X M q h x w n v W):HC X M q h x w n v W.drew:=⟨H.s.quiet (Kp.drew _),H.g.trans (fZ.quiet M q (Kp.drew _)),H.b0,H.b1,H.b2,H.l,H.n3⟩
theorem yJ.kp{Y:Nat->Prop}{B bb g wd:Nat}{vn vo vl:Value}{ms:fA}{R:Except Int V×Int×Sg}{e:Ending}(H:yJ Y B bb g wd vn vo vl ms R w e w'):Kp (gX bb g wd vn vo vl) w w':=by
 obtain⟨_,_,_,_,_,_,_,_,g,_⟩:=H;exact g.kp
theorem HC.cells{x:Sx}{v:V}(H:HC X M q h x w 3 v W)(k:Kp (fun i=>gX M.bb M.g M.wd q.n q.o q.l i\/W.heap.size<=i) W w'):
 w'.cell? ⟨M.hb,0,none⟩=some (.pointer (some ⟨M.bb,0,none⟩))/\(w'.cell? ⟨w.heap.size,1,none⟩=some (.int .i64 x.p)/\w'.cell? ⟨w.heap.size,3,none⟩=some (.int .i64 x.k))/\w'.cell? ⟨w.heap.size+1+1,0,none⟩=some (.int .i64 v.kind)/\w'.cell? ⟨w.heap.size+1+1,1,none⟩=some (.int .i64 v.n)/\w'.cell? ⟨w.heap.size+1+1,2,none⟩=some (.slice none 0 0):=by
 have key:∀(i:Nat)(o:Obj),W.heap[i]?=some o->¬gX M.bb M.g M.wd q.n q.o q.l i->¬(gX M.bb M.g M.wd q.n q.o q.l i\/W.heap.size<=i):=fun i o ho hn e=>by
  rcases e with e|e;exact hn e;have:=ae ho;omega
 have n1:=key _ _ H.s.obj H.s.abh.1;have n2:=key _ _ H.b0 fun e=>(H.s.xo w.heap.size (.inl (by omega))).2 (.inl e);have n3:=key _ _ H.b2 fun e=>(H.s.xo (w.heap.size+1+1) (.inl (by omega))).2 (.inl e);obtain⟨c0,c1,c2,c3,_⟩:=wM H.b0;obtain⟨d0,d1,d2⟩:=aM H.b2;rw[H.l.1]at d2;exact⟨k.cell H.s.cells.1 n1,⟨k.cell c1 n2,k.cell c3 n2⟩,k.cell d0 n3,k.cell d1 n3,k.cell d2 n3⟩
theorem HC.run{x:Sx}{v:V}{n:Nat}(H:HC X M q h x w n v W)(hes:h.s.es.length<=900000):Calls prog 225 #[.pointer (some ⟨M.bb,0,none⟩),.int .i64 x.p,.int .i64 x.k,.agg #[.int .i64 v.kind,.int .i64 v.n,.slice none 0 0],.int .i64 2000] W fun e w'=>yJ (fun k=>wH M q k\/XC w n X k) M.B M.bb M.g M.wd q.n q.o q.l h.ms (gM h.ms x.p x.k v 2000 h.s) W e w':=by
 have hs:v.size<=500:=by rw[size_eq,H.l.1,YX];omega
 have h1:=XF (fun k=>wH M q k\/XC w n X k) M.B M.bb M.g M.wd q.n q.o q.l h.ms h.s x.p x.k 2000 v none 0 W H.s.box (fun k e=>by
  rcases e with e|e;exact(H.s.own k (.inr e)).2
  ·exact(H.s.xo k e).1) H.s.fit H.s.ci hes (dY v H.l.2 H.l.1 none) hs
 rw[H.l.1]at h1;exact h1
structure HD(X:Nat->Prop)(M:Hx)(q:Hq)(h:Hs)(w:World)(v:V)(ao:Option Addr)(cap nb:Nat)(w4:World):Prop where
 is:∃(Y:Nat->Prop) (q3:Hq),bH Y M q3 h w4/\fZ M q w q3 w4/\Y (w.heap.size+1)/\Y nb/\bu (fun k=>jC M q3 k\/Y k) (fun w=>Is w v ao) w4/\∀k,X k->Y k
 b1:w4.heap[w.heap.size+1]?=some (.cells #[.int .i64 0,.int .i64 0,.int .i64 0,.int .i64 0,.slice none 0 0] 133 (0,0))
 b2:w4.heap[nb]?=some (.cells #[.int .i64 v.kind,.int .i64 v.n,.slice ao v.l.length cap] 71 (0,0))
 lo:w.heap.size<=nb
theorem HC.ran{x:Sx}{v:V}{n:Nat}{e:Ending}(H:HC X M q h x w n v W)(hr:yJ (fun k=>wH M q k\/XC w n X k) M.B M.bb M.g M.wd q.n q.o q.l h.ms (gM h.ms x.p x.k v 2000 h.s) W e w3):
 ∃q3 ao cap,e= .returned (.tuple #[.agg #[.int .i64 (iT (gM h.ms x.p x.k v 2000 h.s).1).kind,.int .i64 (iT (gM h.ms x.p x.k v 2000 h.s).1).n,.slice ao (iT (gM h.ms x.p x.k v 2000 h.s).1).l.length cap],.int .i64 (gM h.ms x.p x.k v 2000 h.s).2.1,.int .i64 (Ba (gM h.ms x.p x.k v 2000 h.s).1)])/\bH (XC w n X) M q3 (lM h x.p x.k v).2 w3/\fZ M q w q3 w3/\bu (fun k=>jC M q3 k\/XC w n X k) (fun w=>Is w (iT (gM h.ms x.p x.k v 2000 h.s).1) ao) w3/\
 w3.heap[w.heap.size+1]?=some (.cells #[.int .i64 0,.int .i64 0,.int .i64 0,.int .i64 0,.slice none 0 0] 133 (0,0)):=by
 have hk:=hr.kp;obtain⟨q3,ao,cap,he,h3,g3,s3⟩:=H.s.run hr;have hn3:=H.n3;exact⟨q3,ao,cap,he,h3,H.g.trans g3,s3,(hk.block _ (ae H.b1) fun e=>(H.s.xo _ (.inl (by omega))).2 (.inl e)).trans H.b1⟩
theorem HD.first{q3:Hq}{v:V}{ao:Option Addr}{n:Nat}(hn:3<=n)(h3:bH (XC w n X) M q3 h w3)(g3:fZ M q w q3 w3)(s3:bu (fun k=>jC M q3 k\/XC w n X k) (fun w=>Is w v ao) w3)(b1:w3.heap[w.heap.size+1]?=some (.cells #[.int .i64 0,.int .i64 0,.int .i64 0,.int .i64 0,.slice none 0 0] 133 (0,0)))(cap:Nat):
 HD X M q h w v ao cap w3.heap.size (w3.alloc (.cells #[.int .i64 v.kind,.int .i64 v.n,.slice ao v.l.length cap] 71)):=by
 have q1:aA w3 (w3.alloc (.cells #[.int .i64 v.kind,.int .i64 v.n,.slice ao v.l.length cap] 71)):=Kp.alloc _ _;have hX:∀i,i<w3.heap.size->(XC w n X i\/i=w3.heap.size)->XC w n X i:=fun i hi e=>by
  rcases e with e|e;exact e;omega
 refine⟨⟨fun k=>XC w n X k\/k=w3.heap.size,q3,h3.step q1 hX fun i e=> ?_,g3.trans (fZ.quiet M q3 q1),.inl (.inl (by omega)),.inr rfl,s3.step (q1.mono fun _ _ e=>e.elim) fun k hk e=> ?_,fun k e=> .inl (.inr e)⟩,(q1.block _ (ae b1) fun e=>e).trans b1,ah w3 _,g3.kp.size⟩;rcases e with e|e;exact az (h3.xo i e).1 q1.size;rw[e];simp;rcases e with e|e;exact .inl e;exact .inr (hX k hk e)
theorem HD.second{q3:Hq}{v:V}{ao:Option Addr}{nb:Nat}{t0 t1 t2:Value}(hnb:nb=w.heap.size+3)(h3:bH (XC w 4 X) M q3 h w3)(g3:fZ M q w q3 w3)(s3:bu (fun k=>jC M q3 k\/XC w 4 X k) (fun w=>Is w v ao) w3)(b1:w3.heap[w.heap.size+1]?=some (.cells #[.int .i64 0,.int .i64 0,.int .i64 0,.int .i64 0,.slice none 0 0] 133 (0,0)))(bn:w3.heap[nb]?=some (.cells #[t0,t1,t2] 71 (0,0)))(cap:Nat):
 HD X M q h w v ao cap nb (((w3.setCell ⟨nb,0,none⟩ (.int .i64 v.kind)).setCell ⟨nb,1,none⟩ (.int .i64 v.n)).setCell ⟨nb,2,none⟩ (.slice ao v.l.length cap)):=by
 have k1:=dE w3 nb (.int .i64 v.kind) (.int .i64 v.n) (.slice ao v.l.length cap);have xn:XC w 4 X nb:= .inl (by omega);refine⟨⟨XC w 4 X,q3,h3.turn k1 (fun i e=>e▸xn) (fun i cs t hi ht e=> ?_),g3.fresh (k1.mono fun i _ e=>by omega),.inl (by omega),xn,s3.step (k1.mono fun i _ e=> .inr (e▸xn)) fun _ _ e=>e,fun k e=> .inr e⟩,(k1.block _ (ae b1) (by omega)).trans b1,kz bn _ _ _,by omega⟩;rw[e,bn]at hi;simp at hi;rcases ht with ht|ht<;>rw[ht]at hi<;>exact absurd hi.2 (by decide)
theorem HD.done{v:V}{ao:Option Addr}{cap nb:Nat}{w4 w5:World}{R:Evt×Hs}(H:HD X M q R.2 w v ao cap nb w4)(k5:Kp (fun k=>k=w.heap.size+1) w4 w5)(hv:R.1.v=v):lW X M q R w (.returned (.agg #[.int .i64 R.1.code,.int .i64 R.1.fuel,.int .i64 v.kind,.int .i64 v.n,.slice ao v.l.length cap])) w5:=by
 obtain⟨Y,q3,h4,g4,y1,y2,s4,hXY⟩:=H.is;have h5:=h4.turn k5 (fun i e=>e▸y1) (fun i cs t hi ht e=>by
  rw[e,H.b1]at hi;simp at hi;rcases ht with ht|ht<;>rw[ht]at hi<;>exact absurd hi.2 (by decide))
 refine⟨q3,ao,cap,by rw[hv],h5.step (Kp.refl _ _) (fun i _ e=>hXY i e) (fun i e=>(h5.xo i (hXY i e)).1),g4.fresh (k5.mono fun i _ e=>by omega), ?_⟩;rw[hv];refine s4.step (k5.mono fun i _ e=> .inr (e▸y1)) fun k _ e=> ?_;rcases e with e|e
 ·exact .inl e
 ·exact .inr (hXY k e)
theorem Lh(o:Except Int V×Int×Sg):(RI o).code=Ba o.1/\(RI o).fuel=o.2.1/\(RI o).v=iT o.1:=by
 obtain⟨a,b,c⟩:=o;cases a<;>exact⟨rfl,rfl,rfl⟩
theorem NB(H:bH X M q h w)(x:Sx)(hx:x.Fit)(hes:h.s.es.length<=900000)(hneg:x.h<0):Calls prog 192 #[.pointer (some ⟨M.hb,0,none⟩),.agg x.vals] w fun e w'=>lW X M q (lM h x.p x.k (iX x.n)) w e w':=by
 have HS0:=HC.start H x (iX x.n) ⟨rfl,iP 1 (by decide),hx.n⟩;obtain⟨W,hW⟩:∃W,W=(((w.alloc (.cells x.vals 98)).alloc (.cells #[.int .i64 0,.int .i64 0,.int .i64 0,.int .i64 0,.slice none 0 0] 133)).alloc (.cells #[.int .i64 1,.int .i64 x.n,.slice none 0 0] 71)):=⟨_,rfl⟩;have HS0:HC X M q h x w 3 (iX x.n) W:=by rw[hW];exact HS0
 have HS:=hid HS0;have hz:W.heap.size=w.heap.size+3:=by rw[hW];simp
 have HA:=hid (HS0.drew.run hes);have HB0:=HS0.more hz (.cells #[.int .i64 0,.int .i64 0,.slice none 0 0] 71);have HB:=bC HB0.drew (HB0.drew.run hes);have HZ:=hid hz;have HE:=hid (Lh (gM h.ms x.p x.k (iX x.n) 2000 h.s));have ZW:=hid (fun(w':World) (z:Kp (fun i=>gX M.bb M.g M.wd q.n q.o q.l i\/W.heap.size<=i) W w')=>HS0.cells z);clear H hes hx HS0 HB0 hz;obtain⟨kind,p,qq,k,hh,r,g,n,fs,fa,fc⟩:=x;simp only[Sx.vals,iX]at*;have hn:¬0<=hh:=by omega
 have hd:decide (0<=hh)=false:=by simpa using hn
 go_enter func192,ntmps192;go_wp2_with fail;rw[<-hW];clear hW;have z0:Kp (fun i=>gX M.bb M.g M.wd q.n q.o q.l i\/W.heap.size<=i) W W.drew:=Kp.drew _;go_region_held3 (fun w'=>w'.cell? ⟨M.hb,0,none⟩=some (.pointer (some ⟨M.bb,0,none⟩))/\(w'.cell? ⟨w.heap.size,1,none⟩=some (.int .i64 p)/\w'.cell? ⟨w.heap.size,3,none⟩=some (.int .i64 k))/\w'.cell? ⟨w.heap.size+1+1,0,none⟩=some (.int .i64 1)/\w'.cell? ⟨w.heap.size+1+1,1,none⟩=some (.int .i64 n)/\w'.cell? ⟨w.heap.size+1+1,2,none⟩=some (.slice none 0 0)) ((refine ZW.out _ ?_;first|assumption|exact Kp.alloc _ _|exact(Kp.alloc _ _).trans (Kp.drew _)|exact z3.trans (Kp.alloc _ _)|exact z3.trans ((dE _ W.heap.size _ _ _).mono fun i _ e=> .inr (by omega))))
  (first
    |(go_at_call 225;refine HA.out.mono ?_;rintro e w3 hq3;have z3:=z0.trans (hq3.kp.mono fun i _ e=>Or.inl e);obtain⟨q3,ao,cap,rfl,h3,g3,s3,b3⟩:=HS.out.drew.ran hq3;have H3:=hid (HD.first (by decide) h3 g3 s3 b3 cap);have HW:=hid True.intro;clear hq3 z0 h3 g3 s3 b3)
    |(go_at_call 225;refine HB.out.2.mono ?_;rintro e w3 hq3;have z3:=((Kp.alloc (F:=fun i=>gX M.bb M.g M.wd q.n q.o q.l i\/W.heap.size<=i) W _).trans (Kp.drew _)).trans (hq3.kp.mono fun i _ e=>Or.inl e);obtain⟨q3,ao,cap,rfl,h3,g3,s3,b3⟩:=HB.out.1.ran hq3;have bn:=(hq3.kp.block _ (by simp) (fun e=>(HB.out.1.s.xo W.heap.size (.inl (by have:=HZ.out;omega))).2 (.inl e))).trans (ah W (.cells #[.int .i64 0,.int .i64 0,.slice none 0 0] 71));obtain⟨m0,m1,m2⟩:=aM bn;obtain⟨f0,f1,f2⟩:=bI bn;have hz3:=ae bn;have H3:=hid (HD.second HZ.out h3 g3 s3 b3 bn cap);clear hq3 z0 h3 g3 s3 b3 bn))
 ·generalize iT (gM h.ms p k ⟨1,n,[]⟩ 2000 h.s).1=v at*;generalize(gM h.ms p k ⟨1,n,[]⟩ 2000 h.s).2.1=fu at*;generalize Ba (gM h.ms p k ⟨1,n,[]⟩ 2000 h.s).1=co at*;generalize w3.alloc (.cells #[.int .i64 v.kind,.int .i64 v.n,.slice ao v.l.length cap] 71)=W4 at*;have hb1:=H3.out.b1;obtain⟨t0,t1,t2⟩:=aM H3.out.b2;obtain⟨⟨y0,y1,y2,y3,y4⟩,x0,x1,x2,x3,x4⟩:=bZ hb1;have hl1:=ae hb1;clear hb1;go_wp2;have hb5:=iE H3.out.b1 (.int .i64 co) (.int .i64 fu) (.int .i64 v.kind) (.int .i64 v.n) (.slice ao v.l.length cap);have k5:=iA W4 (w.heap.size+1) (.int .i64 co) (.int .i64 fu) (.int .i64 v.kind) (.int .i64 v.n) (.slice ao v.l.length cap);generalize((((W4.setCell ⟨w.heap.size+1,0,none⟩ (.int .i64 co)).setCell ⟨w.heap.size+1,1,none⟩ (.int .i64 fu)).setCell ⟨w.heap.size+1,2,none⟩ (.int .i64 v.kind)).setCell ⟨w.heap.size+1,3,none⟩ (.int .i64 v.n)).setCell ⟨w.heap.size+1,4,none⟩ (.slice ao v.l.length cap)=W5 at*;obtain⟨⟨u0,u1,u2,u3,u4⟩,_⟩:=bZ hb5;refine au (v:= .agg #[.int .i64 co,.int .i64 fu,.int .i64 v.kind,.int .i64 v.n,.slice ao v.l.length cap]) (by simp[results,results192,go_sem,u0,u1,u2,u3,u4]) rfl ?_;have hd:=HD.done H3.out k5 HE.out.2.2;rw[show(lM h p k ⟨1,n,[]⟩).1.code=co from HE.out.1,show(lM h p k ⟨1,n,[]⟩).1.fuel=fu from HE.out.2.1]at hd;exact hd
 ·generalize iT (gM h.ms p k ⟨1,n,[]⟩ 2000 h.s).1=v at*;generalize(gM h.ms p k ⟨1,n,[]⟩ 2000 h.s).2.1=fu at*;generalize Ba (gM h.ms p k ⟨1,n,[]⟩ 2000 h.s).1=co at*;generalize((w3.setCell ⟨W.heap.size,0,none⟩ (.int .i64 v.kind)).setCell ⟨W.heap.size,1,none⟩ (.int .i64 v.n)).setCell ⟨W.heap.size,2,none⟩ (.slice ao v.l.length cap)=W4 at*;have hb1:=H3.out.b1;obtain⟨t0,t1,t2⟩:=aM H3.out.b2;obtain⟨⟨y0,y1,y2,y3,y4⟩,x0,x1,x2,x3,x4⟩:=bZ hb1;have hl1:=ae hb1;clear hb1;go_wp2;have hb5:=iE H3.out.b1 (.int .i64 co) (.int .i64 fu) (.int .i64 v.kind) (.int .i64 v.n) (.slice ao v.l.length cap);have k5:=iA W4 (w.heap.size+1) (.int .i64 co) (.int .i64 fu) (.int .i64 v.kind) (.int .i64 v.n) (.slice ao v.l.length cap);generalize((((W4.setCell ⟨w.heap.size+1,0,none⟩ (.int .i64 co)).setCell ⟨w.heap.size+1,1,none⟩ (.int .i64 fu)).setCell ⟨w.heap.size+1,2,none⟩ (.int .i64 v.kind)).setCell ⟨w.heap.size+1,3,none⟩ (.int .i64 v.n)).setCell ⟨w.heap.size+1,4,none⟩ (.slice ao v.l.length cap)=W5 at*;obtain⟨⟨u0,u1,u2,u3,u4⟩,_⟩:=bZ hb5;refine au (v:= .agg #[.int .i64 co,.int .i64 fu,.int .i64 v.kind,.int .i64 v.n,.slice ao v.l.length cap]) (by simp[results,results192,go_sem,u0,u1,u2,u3,u4]) rfl ?_;have hd:=HD.done H3.out k5 HE.out.2.2;rw[show(lM h p k ⟨1,n,[]⟩).1.code=co from HE.out.1,show(lM h p k ⟨1,n,[]⟩).1.fuel=fu from HE.out.2.1]at hd;exact hd
theorem BC(H:bH X M q h w)(x:Sx)(h0:0<=x.h)(hl:((fC h x.p).length:Int)<=x.h):Calls prog 192 #[.pointer (some ⟨M.hb,0,none⟩),.agg x.vals] w fun e w'=>lW X M q (⟨8,0,v0⟩,h) w e w':=by
 obtain⟨hrow,_⟩:=xU H x.p;have q0:aA w (((w.alloc (.cells x.vals 98)).alloc (.cells #[.int .i64 0,.int .i64 0,.int .i64 0,.int .i64 0,.slice none 0 0] 133)).alloc (.cells #[.int .i64 1,.int .i64 x.n,.slice none 0 0] 71)):=((Kp.alloc _ _).trans (Kp.alloc _ _)).trans (Kp.alloc _ _);have HX:=hid (yh (H.quiet q0) x.p);obtain⟨ao1,agA,es⟩:=Gr.YU hrow;rw[es]at HX;obtain⟨_,b1,_⟩:=jk w (.cells x.vals 98) (.cells #[.int .i64 0,.int .i64 0,.int .i64 0,.int .i64 0,.slice none 0 0] 133) (.cells #[.int .i64 1,.int .i64 x.n,.slice none 0 0] 71);have HH:=gp H q0 b1;generalize hnl:(fC h x.p).length=nl at*;clear H q0 hrow es hnl b1;obtain⟨kind,p,qq,k,hh,r,g,n,fs,fa,fc⟩:=x;simp only[Sx.vals]at*;go_enter func192,ntmps192;go_wp2_with (go_at_call 147;refine HX.out.mono ?_;rintro e w' ⟨rfl,h2⟩;replace h2:=h2.symm;subst h2);refine au (v:= .agg #[.int .i64 8,.int .i64 0,.int .i64 0,.int .i64 0,.slice none 0 0]) (by simp[results,results192,go_sem]) rfl ?_;have q9:aA w (((w.alloc (.cells #[.int .i64 kind,.int .i64 p,.int .i64 qq,.int .i64 k,.int .i64 hh,.int .i64 r,.int .i64 g,.int .i64 n,.slice fa fs.length fc] 98)).alloc (.cells #[.int .i64 8,.int .i64 0,.int .i64 0,.int .i64 0,.slice none 0 0] 133)).alloc (.cells #[.int .i64 1,.int .i64 n,.slice none 0 0] 71)):=((Kp.alloc _ _).trans (Kp.alloc _ _)).trans (Kp.alloc _ _);exact⟨q,none,0,rfl,HH.out.1.quiet q9,fZ.quiet M q q9,dY v0 iR rfl none⟩
theorem Ha(H:bH X M q h w)(x:Sx)(hes:h.s.es.length<=900000)(v1:V)(i1:Nat)(hi1:x.h=(i1:Int))(hv1:(fC h x.p)[i1]?=some v1):Calls prog 192 #[.pointer (some ⟨M.hb,0,none⟩),.agg x.vals] w fun e w'=>lW X M q (lM h x.p x.k v1) w e w':=by
 obtain⟨hrow,adG⟩:=xU H x.p;have hl1:=adG v1 (dx hv1);have HS0:=HC.start H x v1 hl1;obtain⟨W,hW⟩:∃W,W=(((w.alloc (.cells x.vals 98)).alloc (.cells #[.int .i64 0,.int .i64 0,.int .i64 0,.int .i64 0,.slice none 0 0] 133)).alloc (.cells #[.int .i64 v1.kind,.int .i64 v1.n,.slice none 0 0] 71)):=⟨_,rfl⟩;have HS0:HC X M q h x w 3 v1 W:=by rw[hW];exact HS0
 have HS:=hid HS0;have hz:W.heap.size=w.heap.size+3:=by rw[hW];simp
 have HA:=hid (HS0.drew.run hes);have HB0:=HS0.more hz (.cells #[.int .i64 0,.int .i64 0,.slice none 0 0] 71);have HB:=bC HB0.drew (HB0.drew.run hes);have HZ:=hid hz;have HE:=hid (Lh (gM h.ms x.p x.k v1 2000 h.s));have ZW:=hid (fun(w':World) (z:Kp (fun i=>gX M.bb M.g M.wd q.n q.o q.l i\/W.heap.size<=i) W w')=>HS0.cells z);have q0:aA w (((w.alloc (.cells x.vals 98)).alloc (.cells #[.int .i64 0,.int .i64 0,.int .i64 0,.int .i64 0,.slice none 0 0] 133)).alloc (.cells #[.int .i64 1,.int .i64 x.n,.slice none 0 0] 71)):=((Kp.alloc _ _).trans (Kp.alloc _ _)).trans (Kp.alloc _ _);have HX:=hid (yh (H.quiet q0) x.p);obtain⟨ao1,agA,es⟩:=Gr.YU hrow;rw[es]at HX hrow;have hil:i1<(fC h x.p).length:=(dn.1 hv1).1;obtain⟨g1,rfl,hc1⟩:=Gr.Zc hrow (by omega);have key:∀j,j<3->(((w.alloc (.cells x.vals 98)).alloc (.cells #[.int .i64 0,.int .i64 0,.int .i64 0,.int .i64 0,.slice none 0 0] 133)).alloc (.cells #[.int .i64 1,.int .i64 x.n,.slice none 0 0] 71)).cell? ⟨g1,i1*3+j,none⟩=(Zv (v1,none,0))[j]?:=fun j hj=>by
  have h1:=hc1 (i1*3+j) (by omega);have e1:(hd (fC h x.p))[i1]'(by simp[hd];exact hil)=(v1,none,0):=by
   have:=(dn.1 hv1).2;simp[hd,this]
  rw[ru _ i1 j (by simp[hd];exact hil) hj,e1]at h1;have hj3:j<(Zv (v1,none,0)).length:=hj;rw[aQ hj3]at h1|-;exact q0.cell h1 fun e=>e
 have a0:=key 0 (by decide);have a1:=key 1 (by decide);have a2:=key 2 (by decide);simp only[Zv,hl1.1,List.getElem?_cons_zero,List.getElem?_cons_succ,bf,eD]at a0 a1 a2;generalize hnl:(fC h x.p).length=nl at*;have hi2:(i1:Int)<nl:=by omega
 have hn0:¬(nl:Int)<=i1:=by omega
 clear H hes HS0 HB0 hz key hc1 hrow adG hl1 hv1 es hnl q0;obtain⟨kind,p,qq,k,hh,r,g,n,fs,fa,fc⟩:=x;simp only[Sx.vals]at*;subst hi1;go_enter func192,ntmps192;go_wp2_with (go_at_call 147;refine HX.out.mono ?_;rintro e w' ⟨rfl,h2⟩;replace h2:=h2.symm;subst h2);rw[<-hW];clear hW;have z0:Kp (fun i=>gX M.bb M.g M.wd q.n q.o q.l i\/W.heap.size<=i) W W.drew:=Kp.drew _;go_region_held3 (fun w'=>w'.cell? ⟨M.hb,0,none⟩=some (.pointer (some ⟨M.bb,0,none⟩))/\(w'.cell? ⟨w.heap.size,1,none⟩=some (.int .i64 p)/\w'.cell? ⟨w.heap.size,3,none⟩=some (.int .i64 k))/\w'.cell? ⟨w.heap.size+1+1,0,none⟩=some (.int .i64 v1.kind)/\w'.cell? ⟨w.heap.size+1+1,1,none⟩=some (.int .i64 v1.n)/\w'.cell? ⟨w.heap.size+1+1,2,none⟩=some (.slice none 0 0)) ((refine ZW.out _ ?_;first|assumption|exact Kp.alloc _ _|exact(Kp.alloc _ _).trans (Kp.drew _)|exact z3.trans (Kp.alloc _ _)|exact z3.trans ((dE _ W.heap.size _ _ _).mono fun i _ e=> .inr (by omega))))
  (first
    |(go_at_call 225;refine HA.out.mono ?_;rintro e w3 hq3;have z3:=z0.trans (hq3.kp.mono fun i _ e=>Or.inl e);obtain⟨q3,ao,cap,rfl,h3,g3,s3,b3⟩:=HS.out.drew.ran hq3;have H3:=hid (HD.first (by decide) h3 g3 s3 b3 cap);have HW:=hid True.intro;clear hq3 z0 h3 g3 s3 b3)
    |(go_at_call 225;refine HB.out.2.mono ?_;rintro e w3 hq3;have z3:=((Kp.alloc (F:=fun i=>gX M.bb M.g M.wd q.n q.o q.l i\/W.heap.size<=i) W _).trans (Kp.drew _)).trans (hq3.kp.mono fun i _ e=>Or.inl e);obtain⟨q3,ao,cap,rfl,h3,g3,s3,b3⟩:=HB.out.1.ran hq3;have bn:=(hq3.kp.block _ (by simp) (fun e=>(HB.out.1.s.xo W.heap.size (.inl (by have:=HZ.out;omega))).2 (.inl e))).trans (ah W (.cells #[.int .i64 0,.int .i64 0,.slice none 0 0] 71));obtain⟨m0,m1,m2⟩:=aM bn;obtain⟨f0,f1,f2⟩:=bI bn;have hz3:=ae bn;have H3:=hid (HD.second HZ.out h3 g3 s3 b3 bn cap);clear hq3 z0 h3 g3 s3 b3 bn))
 ·generalize iT (gM h.ms p k v1 2000 h.s).1=v at*;generalize(gM h.ms p k v1 2000 h.s).2.1=fu at*;generalize Ba (gM h.ms p k v1 2000 h.s).1=co at*;generalize w3.alloc (.cells #[.int .i64 v.kind,.int .i64 v.n,.slice ao v.l.length cap] 71)=W4 at*;have hb1:=H3.out.b1;obtain⟨t0,t1,t2⟩:=aM H3.out.b2;obtain⟨⟨y0,y1,y2,y3,y4⟩,x0,x1,x2,x3,x4⟩:=bZ hb1;have hl1:=ae hb1;clear hb1;go_wp2;have hb5:=iE H3.out.b1 (.int .i64 co) (.int .i64 fu) (.int .i64 v.kind) (.int .i64 v.n) (.slice ao v.l.length cap);have k5:=iA W4 (w.heap.size+1) (.int .i64 co) (.int .i64 fu) (.int .i64 v.kind) (.int .i64 v.n) (.slice ao v.l.length cap);generalize((((W4.setCell ⟨w.heap.size+1,0,none⟩ (.int .i64 co)).setCell ⟨w.heap.size+1,1,none⟩ (.int .i64 fu)).setCell ⟨w.heap.size+1,2,none⟩ (.int .i64 v.kind)).setCell ⟨w.heap.size+1,3,none⟩ (.int .i64 v.n)).setCell ⟨w.heap.size+1,4,none⟩ (.slice ao v.l.length cap)=W5 at*;obtain⟨⟨u0,u1,u2,u3,u4⟩,_⟩:=bZ hb5;refine au (v:= .agg #[.int .i64 co,.int .i64 fu,.int .i64 v.kind,.int .i64 v.n,.slice ao v.l.length cap]) (by simp[results,results192,go_sem,u0,u1,u2,u3,u4]) rfl ?_;have hd:=HD.done H3.out k5 HE.out.2.2;rw[show(lM h p k v1).1.code=co from HE.out.1,show(lM h p k v1).1.fuel=fu from HE.out.2.1]at hd;exact hd
 ·generalize iT (gM h.ms p k v1 2000 h.s).1=v at*;generalize(gM h.ms p k v1 2000 h.s).2.1=fu at*;generalize Ba (gM h.ms p k v1 2000 h.s).1=co at*;generalize((w3.setCell ⟨W.heap.size,0,none⟩ (.int .i64 v.kind)).setCell ⟨W.heap.size,1,none⟩ (.int .i64 v.n)).setCell ⟨W.heap.size,2,none⟩ (.slice ao v.l.length cap)=W4 at*;have hb1:=H3.out.b1;obtain⟨t0,t1,t2⟩:=aM H3.out.b2;obtain⟨⟨y0,y1,y2,y3,y4⟩,x0,x1,x2,x3,x4⟩:=bZ hb1;have hl1:=ae hb1;clear hb1;go_wp2;have hb5:=iE H3.out.b1 (.int .i64 co) (.int .i64 fu) (.int .i64 v.kind) (.int .i64 v.n) (.slice ao v.l.length cap);have k5:=iA W4 (w.heap.size+1) (.int .i64 co) (.int .i64 fu) (.int .i64 v.kind) (.int .i64 v.n) (.slice ao v.l.length cap);generalize((((W4.setCell ⟨w.heap.size+1,0,none⟩ (.int .i64 co)).setCell ⟨w.heap.size+1,1,none⟩ (.int .i64 fu)).setCell ⟨w.heap.size+1,2,none⟩ (.int .i64 v.kind)).setCell ⟨w.heap.size+1,3,none⟩ (.int .i64 v.n)).setCell ⟨w.heap.size+1,4,none⟩ (.slice ao v.l.length cap)=W5 at*;obtain⟨⟨u0,u1,u2,u3,u4⟩,_⟩:=bZ hb5;refine au (v:= .agg #[.int .i64 co,.int .i64 fu,.int .i64 v.kind,.int .i64 v.n,.slice ao v.l.length cap]) (by simp[results,results192,go_sem,u0,u1,u2,u3,u4]) rfl ?_;have hd:=HD.done H3.out k5 HE.out.2.2;rw[show(lM h p k v1).1.code=co from HE.out.1,show(lM h p k v1).1.fuel=fu from HE.out.2.1]at hd;exact hd
theorem ME(H:bH X M q h w)(x:Sx)(hx:x.Fit)(hes:h.s.es.length<=900000)(c:Int):Calls prog 192 #[.pointer (some ⟨M.hb,0,none⟩),.agg x.vals] w fun e w'=>lW X M q (kR h (x.sp c)) w e w':=by
 have e:kR h (x.sp c)=if 0<=x.h then(if bY x.p then(match(h.hs.getD x.p.toNat [])[x.h.toNat]? with
  |some v=>lM h x.p x.k v
  |none=>(⟨8,0,v0⟩,h))else(⟨8,0,v0⟩,h))else lM h x.p x.k (iX x.n):=rfl
 rw[e];clear e;by_cases h0:0<=x.h
 ·rw[ag h0];have hho:fC h x.p=if bY x.p then h.hs.getD x.p.toNat []else[]:=by
   unfold fC bY;by_cases e:0<=x.p/\x.p<4;rw[ag e,ag (by simpa using e)];rw[af e,af (by simpa using e)]
  cases hp:bY x.p with
  |false=>
   rw[hp,af (by decide)]at hho;rw[af (by decide)];exact BC H x h0 (by rw[hho];simpa using h0)
  |true=>
   rw[hp,ag rfl]at hho;rw[ag rfl];cases hv:(h.hs.getD x.p.toNat [])[x.h.toNat]? with
   |none=>
    have:=List.getElem?_eq_none_iff.1 hv;exact BC H x h0 (by rw[hho];omega)
   |some v=>exact Ha H x hes v x.h.toNat (by omega) (by rw[hho];exact hv)
 ·rw[af h0];exact NB H x hx hes (by omega)
end
section
variable{M:Hx}{q:Hq}{h:Hs}{w:World}{X:Nat->Prop}
theorem Lm{ns:List Nd}{os:List Bool}{n:Nd}(h:(dJ ns os n).code≠0):(dJ ns os n).ns=ns/\(dJ ns os n).os=os:=by
 unfold dJ at h|-;repeat' split
 all_goals first
  |exact⟨rfl,rfl⟩
  |(exfalso;apply h;repeat' split
    all_goals first|rfl|contradiction)
theorem KH{x:Sx}(hc:(gN h x).code≠0):(gN h x).ns=h.s.ns/\(gN h x).os=h.s.os:=by
 unfold gN fO funcOf at hc|-;by_cases h1:x.kind=3;rw[ag h1]at hc|-;by_cases h2:Zx x.q x.k=true;rw[ag h2]at hc|-;exact Lm hc;rw[af h2];exact⟨rfl,rfl⟩;rw[af h1]at hc|-;by_cases h2:mV x.k=true;rw[ag h2]at hc|-;exact Lm hc;rw[af h2];exact⟨rfl,rfl⟩
theorem Ae(hi:HOk h){x:Sx}(hc:(gN h x).code=0):Nx h.s.os h.s.ns (gN h x).ns/\(gN h x).os=h.s.os/\0<=(gN h x).num/\(gN h x).num<100:=by
 unfold gN at hc|-;by_cases h1:x.kind=3
 ·rw[ag h1]at hc|-;obtain⟨_,a,b,c,_⟩:=uS hi.inv.wf hi.inv.ln hc;have:=a.len;have:0<=(funcOf h.s.ns h.s.os x.q x.k x.r x.g).num/\(funcOf h.s.ns h.s.os x.q x.k x.r x.g).num<(funcOf h.s.ns h.s.os x.q x.k x.r x.g).ns.length:=by simpa [YT]using c
  exact⟨a,b,by omega,by omega⟩
 ·rw[af h1]at hc|-;obtain⟨a,b,c,_⟩:=uO hi.inv.wf hi.inv.ln hc;have:=a.len;have:0<=(fO h.s.ns h.s.os x.k x.r x.g).num/\(fO h.s.ns h.s.os x.k x.r x.g).num<(fO h.s.ns h.s.os x.k x.r x.g).ns.length:=by simpa [YT]using c
  exact⟨a,b,by omega,by omega⟩
theorem bH.abt{w':World}{x:Sx}{e:Ending}(H:bH X M q h w)(hq:QB M q (gN h x) w e w'):
 e= .returned (.tuple #[.int .i64 (gN h x).num,.int .i64 (gN h x).code])/\∃Y4 Y3,bH X M ⟨Y4,Y3,q.l,q.r⟩ {h with s:={h.s with ns:=(gN h x).ns,os:=(gN h x).os}} w'/\fZ M q w ⟨Y4,Y3,q.l,q.r⟩ w':=by
 obtain⟨he,Y4,Y3,hg,go⟩:=hq;refine⟨he,Y4,Y3, ?_⟩;by_cases hc:(gN h x).code=0;obtain⟨a,b,_⟩:=Ae H.ok hc;refine H.graph go hg (by rw[b];exact a.wf) ⟨⟨?_,a.len, ?_,H.ok.inv.cs,H.ok.inv.ks,H.ok.inv.good⟩,H.ok.ms,H.ok.len,H.ok.hand⟩;simp only;rw[b];exact a.wf;simp only;rw[b];exact H.ok.inv.lg;obtain⟨a,b⟩:=KH hc;rw[a,b]at hg|-;exact H.graph go hg H.ok.inv.wf H.ok
def l6(h:Hs)(x:Sx):Evt×Hs:=if bY x.p then iB h x.p (gN h x)else(⟨1,0,v0⟩,h)
theorem NM(H:bH X M q h w)(x:Sx)(hp:bY x.p=false):Calls prog 191 #[.pointer (some ⟨M.hb,0,none⟩),.agg x.vals] w fun e w'=>lW X M q (l6 h x) w e w':=by
 have hE:=hid (show l6 h x=(⟨1,0,v0⟩,h)by unfold l6;rw[hp];rfl);have HH:=hid H;clear H;obtain⟨kind,p,qq,k,hh,r,g,n,fs,fa,fc⟩:=x;simp only[Sx.vals]at*;go_enter func191,ntmps191;go_wp2_with (go_at_call 150;refine(lG p _).mono ?_;rintro e w' ⟨rfl,h2⟩;replace h2:=h2.symm;subst h2;rw[hp]);refine au (v:= .agg #[.int .i64 1,.int .i64 0,.int .i64 0,.int .i64 0,.slice none 0 0]) (by simp[results,results191,go_sem]) rfl ?_;have q9:aA w ((w.alloc (.cells #[.int .i64 kind,.int .i64 p,.int .i64 qq,.int .i64 k,.int .i64 hh,.int .i64 r,.int .i64 g,.int .i64 n,.slice fa fs.length fc] 98)).alloc (.cells #[.int .i64 1,.int .i64 0,.int .i64 0,.int .i64 0,.slice none 0 0] 133)):=(Kp.alloc _ _).trans (Kp.alloc _ _);rw[hE.out];exact⟨q,none,0,rfl,HH.out.quiet q9,fZ.quiet M q q9,dY v0 iR rfl none⟩
def XG(w:World)(X:Nat->Prop)(k:Nat):Prop:=k=w.heap.size\/k=w.heap.size+1\/X k
structure HG(X:Nat->Prop)(M:Hx)(q0:Hq)(q:Hq)(h:Hs)(x:Sx)(w:World)(W:World):Prop where
 s:bH (XG w X) M q h W
 g:fZ M q0 w q W
 b0:W.heap[w.heap.size]?=some (.cells x.vals 98 (0,0))
 b1:W.heap[w.heap.size+1]?=some (.cells #[.int .i64 0,.int .i64 0,.int .i64 0,.int .i64 0,.slice none 0 0] 133 (0,0))
theorem HG.start(H:bH X M q h w)(x:Sx):HG X M q q h x w ((w.alloc (.cells x.vals 98)).alloc (.cells #[.int .i64 0,.int .i64 0,.int .i64 0,.int .i64 0,.slice none 0 0] 133)):=by
 have q2:aA w ((w.alloc (.cells x.vals 98)).alloc (.cells #[.int .i64 0,.int .i64 0,.int .i64 0,.int .i64 0,.slice none 0 0] 133)):=(Kp.alloc _ _).trans (Kp.alloc _ _);refine⟨H.step q2 (fun i hi e=> ?_) (fun i e=> ?_),fZ.quiet M q q2,by rw[aB _ _ _ (by simp)];exact ah w _,Y2 w _ _⟩;rcases e with e|e|e;omega;omega;exact e;rcases e with e|e|e;simp;omega;simp;omega;exact az (H.xo i e).1 q2.size
theorem HG.quiet{q0:Hq}{x:Sx}{W w':World}(H:HG X M q0 q h x w W)(k:aA W w'):HG X M q0 q h x w w':=
 ⟨H.s.quiet k,H.g.trans (fZ.quiet M q k),(k.block _ (ae H.b0) fun e=>e).trans H.b0,(k.block _ (ae H.b1) fun e=>e).trans H.b1⟩
theorem HG.abt{q0:Hq}{x:Sx}{W w':World}{e:Ending}(H:HG X M q0 q h x w W)(hq:QB M q (gN h x) W e w'):
 e= .returned (.tuple #[.int .i64 (gN h x).num,.int .i64 (gN h x).code])/\∃q2,q2.r=q.r/\HG X M q0 q2 {h with s:={h.s with ns:=(gN h x).ns,os:=(gN h x).os}} x w w':=by
 obtain⟨he,Y4,Y3,h2,g2⟩:=H.s.abt hq;exact⟨he,⟨Y4,Y3,q.l,q.r⟩,rfl,h2,H.g.trans g2,(g2.block H.b0 (H.s.xo _ (.inl rfl)).2).1,(g2.block H.b1 (H.s.xo _ (.inr (.inl rfl))).2).1⟩
theorem HG.done{q0:Hq}{x:Sx}{W w5:World}{R:Evt×Hs}{ao:Option Addr}{cap:Nat}(H:HG X M q0 q R.2 x w W)(k5:Kp (fun k=>k=w.heap.size+1) W w5)(hs:bu (fun k=>jC M q k\/X k) (fun w=>Is w R.1.v ao) w5):lW X M q0 R w (.returned (.agg #[.int .i64 R.1.code,.int .i64 R.1.fuel,.int .i64 R.1.v.kind,.int .i64 R.1.v.n,.slice ao R.1.v.l.length cap])) w5:=by
 have h5:=H.s.turn k5 (fun i e=> .inr (.inl e)) (fun i cs t hi ht e=>by
  rw[e,H.b1]at hi;simp at hi;rcases ht with ht|ht<;>rw[ht]at hi<;>exact absurd hi.2 (by decide))
 exact⟨q,ao,cap,rfl,h5.step (Kp.refl _ _) (fun i _ e=> .inr (.inr e)) (fun i e=>(h5.xo i (.inr (.inr e))).1),H.g.fresh (k5.mono fun i _ e=>by omega),hs⟩
theorem OA(H:bH X M q h w)(x:Sx)(hp:bY x.p=true)(hc:(gN h x).code≠0):Calls prog 191 #[.pointer (some ⟨M.hb,0,none⟩),.agg x.vals] w fun e w'=>lW X M q (l6 h x) w e w':=by
 have hE:=hid (show l6 h x=(⟨(gN h x).code,0,v0⟩,h)by unfold l6 iB;rw[hp,ag rfl,af hc]);have H2:=HG.start H x;have HS:=hid H2;have HC:=hid (Gb H2.s x);have HB:=hid (KH hc);have HD:=hid (fun(w2:World) (q2:Hq) (k:HG X M q q2 {h with s:={h.s with ns:=(gN h x).ns,os:=(gN h x).os}} x w w2)=>show HG X M q q2 h x w w2 from by rw[HB.out.1,HB.out.2]at k;exact k);have hK:=hid (fun(w2:World) (e:Ending) (k:QB M q (gN h x) _ e w2)=>HS.out.abt k);clear H H2;generalize(gN h x).code=cd at*;generalize(gN h x).num=nm at*;obtain⟨kind,p,qq,k,hh,r,g,n,fs,fa,fc⟩:=x;simp only[Sx.vals]at*;go_enter func191,ntmps191;go_wp2_with (first
  |(go_at_call 195;refine(KR 4 nm cd hc _).mono ?_;rintro e w4 ⟨rfl,q4⟩;have H4:=hid (HH.out.quiet (q4.trans (Kp.alloc w4 (.cells #[.int .i64 cd,.int .i64 0,.int .i64 0,.int .i64 0,.slice none 0 0] 133))));have hb4:=H4.out.b1;obtain⟨⟨y0,y1,y2,y3,y4⟩,x0,x1,x2,x3,x4⟩:=bZ hb4;have hl4:=ae hb4;clear q4 hb4)
  |(go_at_call 224;refine HC.out.mono ?_;rintro e w3 hq3;obtain⟨he,q2,_,h3⟩:=hK.out _ _ hq3;subst he;have HH:=hid (HD.out _ _ h3);clear hq3 h3)
  |(go_at_call 150;refine(lG p _).mono ?_;rintro e w' ⟨rfl,h2⟩;replace h2:=h2.symm;subst h2;rw[hp]))
 generalize w4.alloc (.cells #[.int .i64 cd,.int .i64 0,.int .i64 0,.int .i64 0,.slice none 0 0] 133)=W4 at*;have hb5:=iE H4.out.b1 (.int .i64 cd) (.int .i64 0) (.int .i64 0) (.int .i64 0) (.slice none 0 0);have k5:=iA W4 (w.heap.size+1) (.int .i64 cd) (.int .i64 0) (.int .i64 0) (.int .i64 0) (.slice none 0 0);generalize((((W4.setCell ⟨w.heap.size+1,0,none⟩ (.int .i64 cd)).setCell ⟨w.heap.size+1,1,none⟩ (.int .i64 0)).setCell ⟨w.heap.size+1,2,none⟩ (.int .i64 0)).setCell ⟨w.heap.size+1,3,none⟩ (.int .i64 0)).setCell ⟨w.heap.size+1,4,none⟩ (.slice none 0 0)=W5 at*;obtain⟨⟨u0,u1,u2,u3,u4⟩,_⟩:=bZ hb5;refine au (v:= .agg #[.int .i64 cd,.int .i64 0,.int .i64 0,.int .i64 0,.slice none 0 0]) (by simp[results,results191,go_sem,u0,u1,u2,u3,u4]) rfl ?_;rw[hE.out];exact HG.done (R:=(⟨cd,0,v0⟩,h)) H4.out k5 (dY v0 iR rfl none)
theorem bH.pushed{W w1:World}{Y:Nat->Prop}{j gg cap n:Nat}{z:Kd}{v:V}(H:bH Y M q h w)(kW:aA w W)(hj:j<4)(hv:v.l=[]/\v.fits)(ok:HOk {h with hs:=h.hs.set j (h.hs.getD j []++[v])})(hn:(h.hs.getD j []).length=n)
 (hr:w1.ownsRow M.B 71 3 (.slice (some ⟨gg,0,none⟩) (n+1) cap) (n+1) (eB (hd (h.hs.getD j []))++Zv z)) (hg:W.grownBy w1 (gK q h j).ownBlock) (hat:(gK q h j).ownBlock=some gg\/W.heap.size<=gg):
 (z=(v,none,0)->∃q',bH Y M q' {h with hs:=h.hs.set j (h.hs.getD j []++[v])} (w1.setCell ⟨M.hb,1+j,none⟩ (.slice (some ⟨gg,0,none⟩) (n+1) cap))/\fZ M q w q' (w1.setCell ⟨M.hb,1+j,none⟩ (.slice (some ⟨gg,0,none⟩) (n+1) cap)))/\
 (∃q',bH Y M q' {h with hs:=h.hs.set j (h.hs.getD j []++[v])} ((((w1.setCell ⟨M.hb,1+j,none⟩ (.slice (some ⟨gg,0,none⟩) (n+1) cap)).setCell ⟨gg,n*3,none⟩ (.int .i64 v.kind)).setCell ⟨gg,n*3+1,none⟩ (.int .i64 v.n)).setCell ⟨gg,n*3+2,none⟩ (.slice none v.l.length 0))/\fZ M q w q' ((((w1.setCell ⟨M.hb,1+j,none⟩ (.slice (some ⟨gg,0,none⟩) (n+1) cap)).setCell ⟨gg,n*3,none⟩ (.int .i64 v.kind)).setCell ⟨gg,n*3+1,none⟩ (.int .i64 v.n)).setCell ⟨gg,n*3+2,none⟩ (.slice none v.l.length 0)))/\
 (w1.cell? ⟨M.hb,1+j,none⟩=some (gK q h j)/\w1.frozen? ⟨M.hb,1+j,none⟩=false/\M.hb<w1.heap.size)/\gg≠M.hb:=by
 subst hn;have HW:=H.quiet kW;have hrow:∀k,(gK q h j).ownBlock=some k<->(Value.slice (q.r j).1 0 0).ownBlock=some k:=fun k=>by unfold gK;rw[iQ]
 have f2:=(HW.abh).2 j hj;have hne:gg≠M.hb:=by
  rcases hat with e|e;exact(f2 gg ((hrow gg).1 e)).2;have:=ae HW.obj;omega
 have hl:(h.hs.getD j []).length=(hd (h.hs.getD j [])).length:=by simp[hd]
 refine⟨fun ez=> ?_, ?_, ?_,hne⟩;subst ez;obtain⟨a,b⟩:=H.push kW hj hv ok hr hg hat;exact⟨_,a,b⟩;obtain⟨a3,b3⟩:=Eu (v,none,0) z hl hr;obtain⟨a,b⟩:=H.push kW hj hv ok a3 (yQ hg b3 hat) hat;have hf:(⟨M.hb,1+j,none⟩:Addr).block≠gg:=fun e=>hne e.symm;rw[lH w1 ⟨M.hb,1+j,none⟩ ⟨gg,(h.hs.getD j []).length*3,none⟩ _ _ hf,lH _ ⟨M.hb,1+j,none⟩ ⟨gg,(h.hs.getD j []).length*3+1,none⟩ _ _ hf,lH _ ⟨M.hb,1+j,none⟩ ⟨gg,(h.hs.getD j []).length*3+2,none⟩ _ _ hf];exact⟨_,a,b⟩
 ·have k1:Kp (fun k=>(gK q h j).ownBlock=some k) W w1:=Kp.grown hg fun k _ e=>e.symm;have hb:w1.heap[M.hb]?=_:=(k1.block _ (ae HW.obj) fun e=>(f2 _ ((hrow _).1 e)).2 rfl).trans HW.obj;refine⟨?_,aG w1 _ (1+j) _ _ hb,ae hb⟩;obtain rfl|rfl|rfl|rfl:j=0\/j=1\/j=2\/j=3:=by omega
  all_goals simp[World.cell?,hb]
theorem HG.cells{q0:Hq}{x:Sx}{W w':World}{nb j:Nat}{nm:Int}{sa:Option Addr}{n sc:Nat}(H:HG X M q0 q h x w W)(hx:x.p=(j:Int))(hj:j<4)(hs:gK q h j= .slice sa n sc)(hb:W.heap[nb]?=some (.cells #[.int .i64 0,.int .i64 0,.int .i64 4,.int .i64 nm,.slice none 0 0] 133 (0,0)))(k:aA W w'):
 w'.cell? ⟨w.heap.size,1,none⟩=some (.int .i64 j)/\w'.cell? ⟨M.hb,1+j,none⟩=some (.slice sa n sc)/\w'.cell? ⟨nb,2,none⟩=some (.int .i64 4)/\w'.cell? ⟨nb,3,none⟩=some (.int .i64 nm)/\w'.cell? ⟨nb,4,none⟩=some (.slice none 0 0):=by
 obtain⟨_,c1,_⟩:=wM H.b0;obtain⟨⟨_,_,d2,d3,d4⟩,_⟩:=bZ hb;rw[hx]at c1;have ch:=H.s.adD j hj;rw[hs]at ch;exact⟨k.cell c1 fun e=>e,k.cell ch fun e=>e,k.cell d2 fun e=>e,k.cell d3 fun e=>e,k.cell d4 fun e=>e⟩
theorem HG.push{q0:Hq}{x:Sx}{W W' w1:World}{nb j gg cap n:Nat}{nm:Int}{sa:Option Addr}{sc:Nat}{z:Kd}{v:V}(H:HG X M q0 q h x w W)(hx:x.p=(j:Int))(hb:W.heap[nb]?=some (.cells #[.int .i64 0,.int .i64 0,.int .i64 4,.int .i64 nm,.slice none 0 0] 133 (0,0)))(kW:aA W W')(hj:j<4)(hv:v.l=[]/\v.fits)(ok:HOk {h with hs:=h.hs.set j (h.hs.getD j []++[v])})(hs:gK q h j= .slice sa n sc)(hn:(h.hs.getD j []).length=n)
 (hr:w1.ownsRow M.B 71 3 (.slice (some ⟨gg,0,none⟩) (n+1) cap) (n+1) (eB (hd (h.hs.getD j []))++Zv z)) (hg:W'.grownBy w1 (Value.slice sa n sc).ownBlock) (hat:(Value.slice sa n sc).ownBlock=some gg\/W'.heap.size<=gg):
 (z=(v,none,0)->∃q',HG X M q0 q' {h with hs:=h.hs.set j (h.hs.getD j []++[v])} x w (w1.setCell ⟨M.hb,1+j,none⟩ (.slice (some ⟨gg,0,none⟩) (n+1) cap))/\(w1.setCell ⟨M.hb,1+j,none⟩ (.slice (some ⟨gg,0,none⟩) (n+1) cap)).heap[nb]?=some (.cells #[.int .i64 0,.int .i64 0,.int .i64 4,.int .i64 nm,.slice none 0 0] 133 (0,0)))/\
 (∃q',HG X M q0 q' {h with hs:=h.hs.set j (h.hs.getD j []++[v])} x w ((((w1.setCell ⟨M.hb,1+j,none⟩ (.slice (some ⟨gg,0,none⟩) (n+1) cap)).setCell ⟨gg,n*3,none⟩ (.int .i64 v.kind)).setCell ⟨gg,n*3+1,none⟩ (.int .i64 v.n)).setCell ⟨gg,n*3+2,none⟩ (.slice none v.l.length 0))/\((((w1.setCell ⟨M.hb,1+j,none⟩ (.slice (some ⟨gg,0,none⟩) (n+1) cap)).setCell ⟨gg,n*3,none⟩ (.int .i64 v.kind)).setCell ⟨gg,n*3+1,none⟩ (.int .i64 v.n)).setCell ⟨gg,n*3+2,none⟩ (.slice none v.l.length 0)).heap[nb]?=some (.cells #[.int .i64 0,.int .i64 0,.int .i64 4,.int .i64 nm,.slice none 0 0] 133 (0,0)))/\
 (w1.cell? ⟨M.hb,1+j,none⟩=some (.slice sa n sc)/\w1.frozen? ⟨M.hb,1+j,none⟩=false/\M.hb<w1.heap.size)/\(¬gg=M.hb/\¬M.hb=gg/\¬M.hb=nb/\¬nb=M.hb)/\(w1.cell? ⟨w.heap.size,1,none⟩=some (.int .i64 j)/\w1.cell? ⟨nb,2,none⟩=some (.int .i64 4)/\w1.cell? ⟨nb,3,none⟩=some (.int .i64 nm)/\w1.cell? ⟨nb,4,none⟩=some (.slice none 0 0)):=by
 have hg2:W'.grownBy w1 (gK q h j).ownBlock:=by rw[hs];exact hg
 have agB:(gK q h j).ownBlock=some gg\/W'.heap.size<=gg:=by rw[hs];exact hat
 obtain⟨a,b,⟨c,d,l⟩,hne⟩:=H.s.pushed kW hj hv ok hn hr hg2 agB;have fb:¬jC M q nb:=H.s.free hb (by decide) (by decide) (by decide) (by decide) (by decide) (by decide) (by decide) (by decide);have f0:=(H.s.xo _ (Or.inl rfl:XG w X w.heap.size)).2;have f1:=(H.s.xo _ (Or.inr (Or.inl rfl):XG w X (w.heap.size+1))).2;have go:∀(q':Hq)(h':Hs)(W2:World),bH (XG w X) M q' h' W2->fZ M q W q' W2->HG X M q0 q' h' x w W2/\W2.heap[nb]?=some (.cells #[.int .i64 0,.int .i64 0,.int .i64 4,.int .i64 nm,.slice none 0 0] 133 (0,0)):=fun q' h' W2 s g=>⟨⟨s,H.g.trans g,(g.block H.b0 f0).1,(g.block H.b1 f1).1⟩,(g.block hb fb).1⟩;have afe:nb≠M.hb:=fun e=>fb (.inr (.inl e));have k1:Kp (fun k=>jC M q k) W w1:=(kW.mono fun _ _ e=>e.elim).trans (Kp.grown hg2 fun k _ e=>by
  unfold gK at e;exact .inr (.inr ⟨j,hj,((iQ _ _ _ _ _).trans e.symm)⟩))
 obtain⟨_,c1,_⟩:=wM H.b0;obtain⟨⟨_,_,d2,d3,d4⟩,_⟩:=bZ hb;rw[hx]at c1;refine⟨fun ez=> ?_, ?_,⟨by rw[<-hs];exact c,d,l⟩,⟨hne,fun e=>hne e.symm,fun e=>afe e.symm,afe⟩,k1.cell c1 f0,k1.cell d2 fb,k1.cell d3 fb,k1.cell d4 fb⟩;obtain⟨q',s,g⟩:=a ez;exact⟨q',go _ _ _ s g⟩;obtain⟨q',s,g⟩:=b;exact⟨q',go _ _ _ s g⟩
end
