/- Parts. -/
import Derived.Test.YtpeakfcbihoknaaGreatDoorUHProgF
open Go.ChangeShapes Go.WideShapes Go.ChangeAt Go.RowKit
set_option maxRecDepth 8000
set_option maxHeartbeats 4000000
namespace Go.Proofs.YtpeakfcbihoknaaGreatDoor
open Proofs.Tryz
section
open Gr (Nd ZH nd0 YT mf aS dJ bJ dV mV fO Zx funcOf bS Y0 bN eX YS Wf jg GS fJ)
theorem VK:X9:=by
 intro X B w hX hB;go_enter func19,ntmps19;go_wp2_with (go_at_call 38;refine(XU w.heap.size w (aj _)).mono ?_;rintro e w1 ⟨bb,g,wd,vn,vo,vl,rfl,h1,hb1,q1⟩;have H1:=bC h1 q1;clear h1);go_ret;obtain⟨h1,q2⟩:=H1.out;obtain⟨a,b,c,d,hb⟩:=h1;have hlow:yM B w1 bb g wd vn vo vl [none,none,none,none] s0:=⟨a,b,c,d,Ti hb hB⟩;refine⟨_,_,rfl,rfl,Nt hlow (fun k hk=>⟨az (hX k hk) q2.size,fun e=>by have:=(hb.own k e).1;have:=hX k hk;omega⟩) (aF hB q2.size),fun k e=> ?_,q2.trans (Kp.alloc _ _)⟩;rcases e with e|e|⟨p,_,e⟩;exact(hb.own k e).1;simp only at e;have:=q2.size;omega;simp[Value.ownBlock]at e
section
variable{M:Hx}{q:Hq}{h:Hs}{w:World}{X:Nat->Prop}
theorem HG.event{q0:Hq}{x:Sx}{W w3:World}{R:Evt×Hs}{e:Ending}(H:HG X M q0 q h x w W)(hr:lW (XG w X) M q R W e w3):
 ∃ao cap,e= .returned (.agg #[.int .i64 R.1.code,.int .i64 R.1.fuel,.int .i64 R.1.v.kind,.int .i64 R.1.v.n,.slice ao R.1.v.l.length cap])/\w3.heap[w.heap.size+1]?=some (.cells #[.int .i64 0,.int .i64 0,.int .i64 0,.int .i64 0,.slice none 0 0] 133 (0,0))/\
 ∀w5,Kp (fun k=>k=w.heap.size+1) w3 w5->lW X M q0 R w e w5:=by
 obtain⟨q3,ao,cap,he,h3,g3,s3⟩:=hr;have b1:=(g3.block H.b1 (H.s.xo _ (.inr (.inl rfl))).2).1;refine⟨ao,cap,he,b1,fun w5 k5=> ?_⟩;have h5:=h3.turn k5 (fun i e=> .inr (.inl e)) (fun i cs t hi ht e=>by
  rw[e,b1]at hi;simp at hi;rcases ht with ht|ht<;>rw[ht]at hi<;>exact absurd hi.2 (by decide))
 refine⟨q3,ao,cap,he,h5.step (Kp.refl _ _) (fun i _ e=> .inr (.inr e)) (fun i e=>(h5.xo i (.inr (.inr e))).1),(H.g.trans g3).fresh (k5.mono fun i _ e=>by omega),s3.step (k5.mono fun i _ e=> .inr (.inr (.inl e))) fun k _ e=> ?_⟩;rcases e with e|e;exact .inl e;exact .inr (.inr (.inr e))
theorem Te(H:bH X M q h w)(x:Sx)(hx:x.Fit)(hes:h.s.es.length<=900000)(c:Int)(hk:x.kind=4):Calls prog 172 #[.pointer (some ⟨M.hb,0,none⟩),.agg x.vals] w fun e w'=>lW X M q (kR h (x.sp c)) w e w':=by
 have H2:=HG.start H x;have HS:=hid H2;have HC:=hid (ME H2.s x hx hes c);generalize kR h (x.sp c)=R at*;obtain⟨⟨code,fuel,v⟩,h'⟩:=R;clear H H2 hx hes;obtain⟨kind,p,qq,k,hh,r,g,n,fs,fa,fc⟩:=x;simp only[Sx.vals]at*;subst hk;go_enter func172,ntmps172;go_wp2_with (go_at_call 192;refine HC.out.mono ?_;rintro e w3 hq3;obtain⟨ao,cap,he,b3,hd⟩:=HS.out.event hq3;subst he;obtain⟨⟨y0,y1,y2,y3,y4⟩,x0,x1,x2,x3,x4⟩:=bZ b3;have hl3:=ae b3;have HB3:=hid b3;have HD:=hid hd;clear hq3 b3 hd);have hb5:=iE HB3.out (.int .i64 code) (.int .i64 fuel) (.int .i64 v.kind) (.int .i64 v.n) (.slice ao v.l.length cap);have k5:=iA w3 (w.heap.size+1) (.int .i64 code) (.int .i64 fuel) (.int .i64 v.kind) (.int .i64 v.n) (.slice ao v.l.length cap);generalize((((w3.setCell ⟨w.heap.size+1,0,none⟩ (.int .i64 code)).setCell ⟨w.heap.size+1,1,none⟩ (.int .i64 fuel)).setCell ⟨w.heap.size+1,2,none⟩ (.int .i64 v.kind)).setCell ⟨w.heap.size+1,3,none⟩ (.int .i64 v.n)).setCell ⟨w.heap.size+1,4,none⟩ (.slice ao v.l.length cap)=W5 at*;obtain⟨⟨u0,u1,u2,u3,u4⟩,_⟩:=bZ hb5;refine au (v:= .agg #[(.int .i64 code),(.int .i64 fuel),(.int .i64 v.kind),(.int .i64 v.n),(.slice ao v.l.length cap)]) (by simp[results,results172,go_sem,u0,u1,u2,u3,u4]) rfl ?_;exact HD.out _ k5
theorem Ch(H:bH X M q h w)(x:Sx)(hf:BQ h):Calls prog 191 #[.pointer (some ⟨M.hb,0,none⟩),.agg x.vals] w fun e w'=>lW X M q (l6 h x) w e w':=by
 cases hp:bY x.p with
 |false=>exact NM H x hp
 |true=>
  by_cases hc:(gN h x).code=0;exact Rk H x hp hc hf;exact OA H x hp hc
theorem Nq(H:bH X M q h w)(x:Sx)(hf:BQ h)(hk:x.kind=2):Calls prog 172 #[.pointer (some ⟨M.hb,0,none⟩),.agg x.vals] w fun e w'=>lW X M q (l6 h x) w e w':=by
 have H2:=HG.start H x;have HS:=hid H2;have HC:=hid (Ch H2.s x hf);generalize l6 h x=R at*;obtain⟨⟨code,fuel,v⟩,h'⟩:=R;clear H H2 hf;obtain⟨kind,p,qq,k,hh,r,g,n,fs,fa,fc⟩:=x;simp only[Sx.vals]at*;subst hk;go_enter func172,ntmps172;go_wp2_with (go_at_call 191;refine HC.out.mono ?_;rintro e w3 hq3;obtain⟨ao,cap,he,b3,hd⟩:=HS.out.event hq3;subst he;obtain⟨⟨y0,y1,y2,y3,y4⟩,x0,x1,x2,x3,x4⟩:=bZ b3;have hl3:=ae b3;have HB3:=hid b3;have HD:=hid hd;clear hq3 b3 hd);have hb5:=iE HB3.out (.int .i64 code) (.int .i64 fuel) (.int .i64 v.kind) (.int .i64 v.n) (.slice ao v.l.length cap);have k5:=iA w3 (w.heap.size+1) (.int .i64 code) (.int .i64 fuel) (.int .i64 v.kind) (.int .i64 v.n) (.slice ao v.l.length cap);generalize((((w3.setCell ⟨w.heap.size+1,0,none⟩ (.int .i64 code)).setCell ⟨w.heap.size+1,1,none⟩ (.int .i64 fuel)).setCell ⟨w.heap.size+1,2,none⟩ (.int .i64 v.kind)).setCell ⟨w.heap.size+1,3,none⟩ (.int .i64 v.n)).setCell ⟨w.heap.size+1,4,none⟩ (.slice ao v.l.length cap)=W5 at*;obtain⟨⟨u0,u1,u2,u3,u4⟩,_⟩:=bZ hb5;refine au (v:= .agg #[(.int .i64 code),(.int .i64 fuel),(.int .i64 v.kind),(.int .i64 v.n),(.slice ao v.l.length cap)]) (by simp[results,results172,go_sem,u0,u1,u2,u3,u4]) rfl ?_;exact HD.out _ k5
theorem Qb(H:bH X M q h w)(x:Sx)(hf:BQ h)(hk:x.kind=3):Calls prog 172 #[.pointer (some ⟨M.hb,0,none⟩),.agg x.vals] w fun e w'=>lW X M q (l6 h x) w e w':=by
 have H2:=HG.start H x;have HS:=hid H2;have HC:=hid (Ch H2.s x hf);generalize l6 h x=R at*;obtain⟨⟨code,fuel,v⟩,h'⟩:=R;clear H H2 hf;obtain⟨kind,p,qq,k,hh,r,g,n,fs,fa,fc⟩:=x;simp only[Sx.vals]at*;subst hk;go_enter func172,ntmps172;go_wp2_with (go_at_call 191;refine HC.out.mono ?_;rintro e w3 hq3;obtain⟨ao,cap,he,b3,hd⟩:=HS.out.event hq3;subst he;obtain⟨⟨y0,y1,y2,y3,y4⟩,x0,x1,x2,x3,x4⟩:=bZ b3;have hl3:=ae b3;have HB3:=hid b3;have HD:=hid hd;clear hq3 b3 hd);have hb5:=iE HB3.out (.int .i64 code) (.int .i64 fuel) (.int .i64 v.kind) (.int .i64 v.n) (.slice ao v.l.length cap);have k5:=iA w3 (w.heap.size+1) (.int .i64 code) (.int .i64 fuel) (.int .i64 v.kind) (.int .i64 v.n) (.slice ao v.l.length cap);generalize((((w3.setCell ⟨w.heap.size+1,0,none⟩ (.int .i64 code)).setCell ⟨w.heap.size+1,1,none⟩ (.int .i64 fuel)).setCell ⟨w.heap.size+1,2,none⟩ (.int .i64 v.kind)).setCell ⟨w.heap.size+1,3,none⟩ (.int .i64 v.n)).setCell ⟨w.heap.size+1,4,none⟩ (.slice ao v.l.length cap)=W5 at*;obtain⟨⟨u0,u1,u2,u3,u4⟩,_⟩:=bZ hb5;refine au (v:= .agg #[(.int .i64 code),(.int .i64 fuel),(.int .i64 v.kind),(.int .i64 v.n),(.slice ao v.l.length cap)]) (by simp[results,results172,go_sem,u0,u1,u2,u3,u4]) rfl ?_;exact HD.out _ k5
theorem PT(H:bH X M q h w)(x:Sx)(h1:x.kind≠1)(h2:x.kind≠2)(h3:x.kind≠3)(h4:x.kind≠4)(h5:x.kind≠5)(h6:x.kind≠6):Calls prog 172 #[.pointer (some ⟨M.hb,0,none⟩),.agg x.vals] w fun e w'=>lW X M q (⟨2,0,v0⟩,h) w e w':=by
 have HH:=hid H;clear H;obtain⟨kind,p,qq,k,hh,r,g,n,fs,fa,fc⟩:=x;simp only[Sx.vals]at*;go_enter func172,ntmps172;go_wp2;refine au (v:= .agg #[.int .i64 2,.int .i64 0,.int .i64 0,.int .i64 0,.slice none 0 0]) (by simp[results,results172,go_sem]) rfl ?_;have q9:aA w ((w.alloc (.cells #[.int .i64 kind,.int .i64 p,.int .i64 qq,.int .i64 k,.int .i64 hh,.int .i64 r,.int .i64 g,.int .i64 n,.slice fa fs.length fc] 98)).alloc (.cells #[.int .i64 2,.int .i64 0,.int .i64 0,.int .i64 0,.slice none 0 0] 133)):=(Kp.alloc _ _).trans (Kp.alloc _ _);exact⟨q,none,0,rfl,HH.out.quiet q9,fZ.quiet M q q9,dY v0 iR rfl none⟩
theorem F9(h:Hs)(x:Sp):(iV h x).1=⟨(iV h x).1.code,0,v0⟩:=by
 unfold iV;repeat' split
 all_goals rfl
theorem HG.loaded{q0:Hq}{x:Sx}{W w3:World}{P:Int×Int->Prop}{e:Ending}(H:HG X M q0 q h x w W)(hr:Pn (XG w X) P M q h x W e w3):
 ∃c,(bY x.p=true->∃f,P f/\f.1=c)/\e= .returned (.int .i64 (iV h (x.sp c)).1.code)/\w3.heap[w.heap.size+1]?=some (.cells #[.int .i64 0,.int .i64 0,.int .i64 0,.int .i64 0,.slice none 0 0] 133 (0,0))/\
 ∀w5,Kp (fun k=>k=w.heap.size+1) w3 w5->lW X M q0 (iV h (x.sp c)) w (.returned (.agg #[.int .i64 (iV h (x.sp c)).1.code,.int .i64 0,.int .i64 0,.int .i64 0,.slice none 0 0])) w5:=by
 obtain⟨c,hc,he,h3,g3⟩:=hr;have h4:lW (XG w X) M q (iV h (x.sp c)) W (.returned (.agg #[.int .i64 (iV h (x.sp c)).1.code,.int .i64 0,.int .i64 0,.int .i64 0,.slice none 0 0])) w3:=by
  refine⟨q,none,0, ?_,h3,g3, ?_⟩;rw[F9 h (x.sp c)];rfl;rw[F9 h (x.sp c)];exact dY v0 iR rfl none
 obtain⟨_,_,_,b3,hd⟩:=H.event h4;exact⟨c,hc,he,b3,hd⟩
theorem Tw(H:bH X M q h w)(x:Sx)(hx:x.Fit){P:Int×Int->Prop}(hM:tT P x w)(hk:x.kind=1):Calls prog 172 #[.pointer (some ⟨M.hb,0,none⟩),.agg x.vals] w fun e w'=>∃c,(bY x.p=true->∃f,P f/\f.1=c)/\lW X M q (iV h (x.sp c)) w e w':=by
 have H2:=HG.start H x;have HS:=hid H2;have hq2:aA w ((w.alloc (.cells x.vals 98)).alloc (.cells #[.int .i64 0,.int .i64 0,.int .i64 0,.int .i64 0,.slice none 0 0] 133)):=(Kp.alloc _ _).trans (Kp.alloc _ _);have HC:=hid (O1 H2.s x hx (P:=P) ⟨hM.1,fun w1 k1=>hM.2 w1 (hq2.trans k1)⟩);have HX:=hid (fun(w3:World) (e:Ending) (hr:Pn (XG w X) P M q h x _ e w3)=>HS.out.loaded hr);clear H H2 hM hx hq2;obtain⟨kind,p,qq,k,hh,r,g,n,fs,fa,fc⟩:=x;simp only[Sx.vals]at*;subst hk;go_enter func172,ntmps172;go_wp2_with (go_at_call 190;refine HC.out.mono ?_;rintro e w3 hq3;obtain⟨c,hc,he,b3,hd⟩:=HX.out _ _ hq3;subst he;obtain⟨⟨y0,y1,y2,y3,y4⟩,x0,x1,x2,x3,x4⟩:=bZ b3;have hl3:=ae b3;have HB3:=hid b3;have HD:=bC hc hd;clear hq3 b3 hd hc;generalize hcd:(iV h _).1.code=cd at*);have hb5:=iE HB3.out (.int .i64 cd) (.int .i64 0) (.int .i64 0) (.int .i64 0) (.slice none 0 0);have k5:=iA w3 (w.heap.size+1) (.int .i64 cd) (.int .i64 0) (.int .i64 0) (.int .i64 0) (.slice none 0 0);generalize((((w3.setCell ⟨w.heap.size+1,0,none⟩ (.int .i64 cd)).setCell ⟨w.heap.size+1,1,none⟩ (.int .i64 0)).setCell ⟨w.heap.size+1,2,none⟩ (.int .i64 0)).setCell ⟨w.heap.size+1,3,none⟩ (.int .i64 0)).setCell ⟨w.heap.size+1,4,none⟩ (.slice none 0 0)=W5 at*;obtain⟨⟨u0,u1,u2,u3,u4⟩,_⟩:=bZ hb5;refine au (v:= .agg #[(.int .i64 cd),(.int .i64 0),(.int .i64 0),(.int .i64 0),(.slice none 0 0)]) (by simp[results,results172,go_sem,u0,u1,u2,u3,u4]) rfl ?_;exact⟨c,HD.out.1,by have h9:=HD.out.2 _ k5;exact h9⟩
theorem HG.graph{q0:Hq}{x:Sx}{W w3:World}{Y4 Y3:Value}{ns':List Nd}{os':List Bool}(H:HG X M q0 q h x w W)(go:Gr.Goes M.g q.n q.o W Y4 Y3 w3)(hg:GS 184 M.B w3 M.g Y4 Y3 ns' os')(ok:HOk {h with s:={h.s with ns:=ns',os:=os'}}):
 HG X M q0 ⟨Y4,Y3,q.l,q.r⟩ {h with s:={h.s with ns:=ns',os:=os'}} x w w3:=by
 obtain⟨h2,g2⟩:=H.s.graph go hg ok.inv.wf ok;exact⟨h2,H.g.trans g2,(g2.block H.b0 (H.s.xo _ (.inl rfl)).2).1,(g2.block H.b1 (H.s.xo _ (.inr (.inl rfl))).2).1⟩
theorem V9(ns:List Nd)(os:List Bool)(k:Int):(dV ns os k).ns=ns:=by
 unfold dV;split<;>rfl
theorem Gg(ns:List Nd)(os:List Bool):(bJ ns os).ns=ns:=by
 unfold bJ;split<;>rfl
theorem HG.still{q0:Hq}{x:Sx}{W w':World}(H:HG X M q0 q h x w W)(k:Kp (fun i=>Gr.Own M.g q.n q.o i\/i=w.heap.size+1) W w'):
 w'.cell? ⟨M.hb,0,none⟩=some (.pointer (some ⟨M.bb,0,none⟩))/\w'.cell? ⟨M.bb,0,none⟩=some (.pointer (some ⟨M.g,0,none⟩))/\w'.cell? ⟨w.heap.size,6,none⟩=some (.int .i64 x.g):=by
 obtain⟨d0,d1,_⟩:=H.s.cells;obtain⟨_,_,_,_,_,_,c6,_⟩:=wM H.b0;have ne:∀i,jC M q i->i≠w.heap.size+1:=fun i hi e=>(H.s.xo (w.heap.size+1) (.inr (.inl rfl))).2 (e▸hi);have hg:∀k,Gr.Own M.g q.n q.o k->gX M.bb M.g M.wd q.n q.o q.l k:=fun k e=> .inr (.inl e);have n1:¬(Gr.Own M.g q.n q.o M.hb\/M.hb=w.heap.size+1):=fun e=>by
  rcases e with e|e;exact H.s.abh.1 (hg _ e);exact ne _ (.inr (.inl rfl)) e
 have n2:¬(Gr.Own M.g q.n q.o M.bb\/M.bb=w.heap.size+1):=fun e=>by
  rcases e with e|e;obtain⟨a,b,c,d,hb⟩:=H.s.box.is;exact H.s.gs.Zi hb.obj (by decide) (by decide) (by decide) e;exact ne _ (.inl (.inl rfl)) e
 have n3:¬(Gr.Own M.g q.n q.o w.heap.size\/w.heap.size=w.heap.size+1):=fun e=>by
  rcases e with e|e;exact(H.s.xo w.heap.size (.inl rfl)).2 (.inl (hg _ e));omega
 exact⟨k.cell d0 n1,k.cell d1 n2,k.cell c6 n3⟩
theorem UT(H:bH X M q h w)(x:Sx)(hk:x.kind=5):Calls prog 172 #[.pointer (some ⟨M.hb,0,none⟩),.agg x.vals] w fun e w'=>lW X M q (⟨(dV h.s.ns h.s.os x.g).code,0,v0⟩,{h with s:={h.s with os:=(dV h.s.ns h.s.os x.g).os}}) w e w':=by
 have H2:=HG.start H x;have HS:=hid H2;obtain⟨W,hW⟩:∃W,W=((w.alloc (.cells x.vals 98)).alloc (.cells #[.int .i64 0,.int .i64 0,.int .i64 0,.int .i64 0,.slice none 0 0] 133)):=⟨_,rfl⟩;have H3:HG X M q q h x w W:=by rw[hW];exact H2
 have HG3:=hid (Gr.ab4 (H3.quiet (Kp.drew _)).s.gs x.g);have ok:HOk {h with s:={h.s with os:=(dV h.s.ns h.s.os x.g).os}}:=by
  have h1:=H.ok.step ⟨5,0,0,0,0,0,x.g,0,0,[]⟩;exact h1
 rw[V9]at HG3;have HX:=hid (fun(w3:World) (hg:GS 184 M.B w3 M.g q.n q.o h.s.ns (dV h.s.ns h.s.os x.g).os) (go:Gr.Goes M.g q.n q.o W.drew q.n q.o w3)=>(H3.quiet (Kp.drew _)).graph go hg ok);have ZW:=hid (fun(w':World) (z:Kp (fun i=>Gr.Own M.g q.n q.o i\/i=w.heap.size+1) W w')=>H3.still z);clear H H2 HS H3 ok;generalize dV h.s.ns h.s.os x.g=R at*;obtain⟨kind,p,qq,k,hh,r,g,n,fs,fa,fc⟩:=x;simp only[Sx.vals]at*;subst hk;go_enter func172,ntmps172;go_wp2_with fail;rw[<-hW];clear hW;have z0:Kp (fun i=>Gr.Own M.g q.n q.o i\/i=w.heap.size+1) W W.drew:=Kp.drew _;go_region_held3 (fun w'=>w'.cell? ⟨M.hb,0,none⟩=some (.pointer (some ⟨M.bb,0,none⟩))/\w'.cell? ⟨M.bb,0,none⟩=some (.pointer (some ⟨M.g,0,none⟩))/\w'.cell? ⟨w.heap.size,6,none⟩=some (.int .i64 g)) ((refine ZW.out _ ?_;first|assumption|exact z3.trans ((iA _ _ _ _ _ _ _).mono fun i _ e=> .inr e))) (first|(go_at_call 193;refine HG3.out.mono ?_;rintro e w3 ⟨rfl,g3,o3⟩;have z3:=z0.trans (o3.kp.mono fun i _ e=>Or.inl e);have b3:=(HX.out _ g3 o3).b1;obtain⟨⟨y0,y1,y2,y3,y4⟩,x0,x1,x2,x3,x4⟩:=bZ b3;have hl3:=ae b3;have HB3:=hid b3;have H3:=hid (HX.out _ g3 o3);clear g3 o3 b3 z0));go_wp2;have hb5:=iE HB3.out (.int .i64 R.code) (.int .i64 0) (.int .i64 0) (.int .i64 0) (.slice none 0 0);have k5:=iA w3 (w.heap.size+1) (.int .i64 R.code) (.int .i64 0) (.int .i64 0) (.int .i64 0) (.slice none 0 0);generalize((((w3.setCell ⟨w.heap.size+1,0,none⟩ (.int .i64 R.code)).setCell ⟨w.heap.size+1,1,none⟩ (.int .i64 0)).setCell ⟨w.heap.size+1,2,none⟩ (.int .i64 0)).setCell ⟨w.heap.size+1,3,none⟩ (.int .i64 0)).setCell ⟨w.heap.size+1,4,none⟩ (.slice none 0 0)=W5 at*;obtain⟨⟨u0,u1,u2,u3,u4⟩,_⟩:=bZ hb5;refine au (v:= .agg #[(.int .i64 R.code),(.int .i64 0),(.int .i64 0),(.int .i64 0),(.slice none 0 0)]) (by simp[results,results172,go_sem,u0,u1,u2,u3,u4]) rfl ?_;exact HG.done (R:=(⟨R.code,0,v0⟩,_)) H3.out k5 (dY v0 iR rfl none)
theorem PG(H:bH X M q h w)(x:Sx)(hk:x.kind=6)(hc:(bJ h.s.ns h.s.os).code=0):Calls prog 172 #[.pointer (some ⟨M.hb,0,none⟩),.agg x.vals] w fun e w'=>lW X M q (⟨(bJ h.s.ns h.s.os).code,0,iX (bJ h.s.ns h.s.os).num⟩,{h with s:={h.s with os:=(bJ h.s.ns h.s.os).os}}) w e w':=by
 have H2:=HG.start H x;have HS:=hid H2;obtain⟨d0,d1,_⟩:=H2.s.cells;have HG3:=hid (Gr.aaU H2.s.gs);have ok:HOk {h with s:={h.s with os:=(bJ h.s.ns h.s.os).os}}:=by
  have h1:=H.ok.step ⟨6,0,0,0,0,0,0,0,0,[]⟩;exact h1
 have abZ:dH (bJ h.s.ns h.s.os).num:=by
  have:=H.ok.inv.lg;unfold bJ;split;exact⟨by simp only;omega,by simp only;omega⟩;exact⟨by simp only;omega,by simp only;omega⟩
 rw[Gg]at HG3;have HX:=hid (fun(w3:World) (Y3:Value) (hg:GS 184 M.B w3 M.g q.n Y3 h.s.ns (bJ h.s.ns h.s.os).os) (go:Gr.Goes M.g q.n q.o _ q.n Y3 w3)=>HS.out.graph go hg ok);clear H H2 ok;generalize bJ h.s.ns h.s.os=R at*;obtain⟨kind,p,qq,k,hh,r,g,n,fs,fa,fc⟩:=x;simp only[Sx.vals]at*;subst hk;go_enter func172,ntmps172;go_wp2_with (first
  |(go_at_call 195;refine(FL 1 R.num _).mono ?_;rintro e w4 ⟨rfl,q4⟩;have H4:=hid (H3.out.quiet q4);have b3:=H4.out.b1;obtain⟨⟨y0,y1,y2,y3,y4⟩,x0,x1,x2,x3,x4⟩:=bZ b3;have hl3:=ae b3;have HB3:=hid b3;clear b3 q4)
  |(go_at_call 194;refine HG3.out.mono ?_;rintro e w3 ⟨rfl,Y3,g3,o3⟩;rw[hc];have H3:=hid (HX.out _ _ g3 o3);clear g3 o3))
 have hb5:=iE HB3.out (.int .i64 0) (.int .i64 0) (.int .i64 1) (.int .i64 R.num) (.slice none 0 0);have k5:=iA w4 (w.heap.size+1) (.int .i64 0) (.int .i64 0) (.int .i64 1) (.int .i64 R.num) (.slice none 0 0);generalize((((w4.setCell ⟨w.heap.size+1,0,none⟩ (.int .i64 0)).setCell ⟨w.heap.size+1,1,none⟩ (.int .i64 0)).setCell ⟨w.heap.size+1,2,none⟩ (.int .i64 1)).setCell ⟨w.heap.size+1,3,none⟩ (.int .i64 R.num)).setCell ⟨w.heap.size+1,4,none⟩ (.slice none 0 0)=W5 at*;obtain⟨⟨u0,u1,u2,u3,u4⟩,_⟩:=bZ hb5;refine au (v:= .agg #[(.int .i64 0),(.int .i64 0),(.int .i64 1),(.int .i64 R.num),(.slice none 0 0)]) (by simp[results,results172,go_sem,u0,u1,u2,u3,u4]) rfl ?_;rw[hc];exact HG.done (R:=(⟨0,0,iX R.num⟩,_)) H4.out k5 (dY _ ⟨iP 1 (by decide),abZ⟩ rfl none)
theorem QP(H:bH X M q h w)(x:Sx)(hk:x.kind=6)(hc:(bJ h.s.ns h.s.os).code≠0):Calls prog 172 #[.pointer (some ⟨M.hb,0,none⟩),.agg x.vals] w fun e w'=>lW X M q (⟨(bJ h.s.ns h.s.os).code,0,v0⟩,{h with s:={h.s with os:=(bJ h.s.ns h.s.os).os}}) w e w':=by
 have H2:=HG.start H x;have HS:=hid H2;obtain⟨d0,d1,_⟩:=H2.s.cells;have HG3:=hid (Gr.aaU H2.s.gs);have ok:HOk {h with s:={h.s with os:=(bJ h.s.ns h.s.os).os}}:=by
  have h1:=H.ok.step ⟨6,0,0,0,0,0,0,0,0,[]⟩;exact h1
 rw[Gg]at HG3;have HX:=hid (fun(w3:World) (Y3:Value) (hg:GS 184 M.B w3 M.g q.n Y3 h.s.ns (bJ h.s.ns h.s.os).os) (go:Gr.Goes M.g q.n q.o _ q.n Y3 w3)=>HS.out.graph go hg ok);clear H H2 ok;generalize bJ h.s.ns h.s.os=R at*;obtain⟨kind,p,qq,k,hh,r,g,n,fs,fa,fc⟩:=x;simp only[Sx.vals]at*;subst hk;go_enter func172,ntmps172;go_wp2_with (first
  |(go_at_call 195;refine(KR 1 R.num R.code hc _).mono ?_;rintro e w4 ⟨rfl,q4⟩;have H4:=hid (H3.out.quiet q4);have b3:=H4.out.b1;obtain⟨⟨y0,y1,y2,y3,y4⟩,x0,x1,x2,x3,x4⟩:=bZ b3;have hl3:=ae b3;have HB3:=hid b3;clear b3 q4)
  |(go_at_call 194;refine HG3.out.mono ?_;rintro e w3 ⟨rfl,Y3,g3,o3⟩;have H3:=hid (HX.out _ _ g3 o3);clear g3 o3))
 have hb5:=iE HB3.out (.int .i64 R.code) (.int .i64 0) (.int .i64 0) (.int .i64 0) (.slice none 0 0);have k5:=iA w4 (w.heap.size+1) (.int .i64 R.code) (.int .i64 0) (.int .i64 0) (.int .i64 0) (.slice none 0 0);generalize((((w4.setCell ⟨w.heap.size+1,0,none⟩ (.int .i64 R.code)).setCell ⟨w.heap.size+1,1,none⟩ (.int .i64 0)).setCell ⟨w.heap.size+1,2,none⟩ (.int .i64 0)).setCell ⟨w.heap.size+1,3,none⟩ (.int .i64 0)).setCell ⟨w.heap.size+1,4,none⟩ (.slice none 0 0)=W5 at*;obtain⟨⟨u0,u1,u2,u3,u4⟩,_⟩:=bZ hb5;refine au (v:= .agg #[(.int .i64 R.code),(.int .i64 0),(.int .i64 0),(.int .i64 0),(.slice none 0 0)]) (by simp[results,results172,go_sem,u0,u1,u2,u3,u4]) rfl ?_;exact HG.done (R:=(⟨R.code,0,v0⟩,_)) H4.out k5 (dY _ iR rfl none)
end
theorem Xk:Yk:=by
 intro X M q h w x P H hx hes hf hM;have wrap:∀{R:Int->Evt×Hs},(∀c,dL h (x.sp c)=R c)->x.kind≠1->(Calls prog 172 #[.pointer (some ⟨M.hb,0,none⟩),.agg x.vals] w fun e w'=>lW X M q (R 0) w e w')->Calls prog 172 #[.pointer (some ⟨M.hb,0,none⟩),.agg x.vals] w fun e w'=>∃c,(x.kind=1->bY x.p=true->∃f,P f/\f.1=c)/\lW X M q (dL h (x.sp c)) w e w':=fun hR hk hC=>hC.mono fun e w' hq=>⟨0,fun e1=>absurd e1 hk,by rw[hR];exact hq⟩;have hs:∀c,dL h (x.sp c)=if x.kind=1 then iV h (x.sp c)
  else if x.kind=2 then(if bY x.p then iB h x.p (fO h.s.ns h.s.os x.k x.r x.g)else(⟨1,0,v0⟩,h))
  else if x.kind=3 then(if bY x.p then iB h x.p (funcOf h.s.ns h.s.os x.q x.k x.r x.g)else(⟨1,0,v0⟩,h))
  else if x.kind=4 then kR h (x.sp c)
  else if x.kind=5 then(⟨(dV h.s.ns h.s.os x.g).code,0,v0⟩,{h with s:={h.s with os:=(dV h.s.ns h.s.os x.g).os}})
  else if x.kind=6 then(⟨(bJ h.s.ns h.s.os).code,0,if(bJ h.s.ns h.s.os).code=0 then iX (bJ h.s.ns h.s.os).num else v0⟩,{h with s:={h.s with os:=(bJ h.s.ns h.s.os).os}})
  else(⟨2,0,v0⟩,h):=fun _=>rfl
 by_cases k1:x.kind=1;refine(Tw H x hx hM k1).mono fun e w' hq=> ?_;obtain⟨c,hc,hq⟩:=hq;exact⟨c,fun _=>hc,by rw[hs,ag k1];exact hq⟩;by_cases k2:x.kind=2;refine wrap (R:=fun _=>l6 h x) (fun c=> ?_) k1 (Nq H x hf k2);rw[hs,af k1,ag k2];unfold l6 gN;rw[af (by omega:¬x.kind=3)];by_cases k3:x.kind=3;refine wrap (R:=fun _=>l6 h x) (fun c=> ?_) k1 (Qb H x hf k3);rw[hs,af k1,af k2,ag k3];unfold l6 gN;rw[ag k3];by_cases k4:x.kind=4;exact wrap (R:=fun c=>kR h (x.sp c)) (fun c=>by rw[hs,af k1,af k2,af k3,ag k4]) k1 (Te H x hx hes 0 k4);by_cases k5:x.kind=5;exact wrap (R:=fun _=>(⟨(dV h.s.ns h.s.os x.g).code,0,v0⟩,{h with s:={h.s with os:=(dV h.s.ns h.s.os x.g).os}})) (fun c=>by rw[hs,af k1,af k2,af k3,af k4,ag k5]) k1 (UT H x k5);by_cases k6:x.kind=6;by_cases hc:(bJ h.s.ns h.s.os).code=0;exact wrap (R:=fun _=>(⟨(bJ h.s.ns h.s.os).code,0,iX (bJ h.s.ns h.s.os).num⟩,{h with s:={h.s with os:=(bJ h.s.ns h.s.os).os}})) (fun c=>by rw[hs,af k1,af k2,af k3,af k4,af k5,ag k6,ag hc]) k1 (PG H x k6 hc);exact wrap (R:=fun _=>(⟨(bJ h.s.ns h.s.os).code,0,v0⟩,{h with s:={h.s with os:=(bJ h.s.ns h.s.os).os}})) (fun c=>by rw[hs,af k1,af k2,af k3,af k4,af k5,ag k6,af hc]) k1 (QP H x k6 hc);exact wrap (R:=fun _=>(⟨2,0,v0⟩,h)) (fun c=>by rw[hs,af k1,af k2,af k3,af k4,af k5,af k6]) k1 (PT H x k1 k2 k3 k4 k5 k6)
theorem WO:XH yT:=by
 intro X B w hX hB;have HN:=hid (VK X B w hX hB);go_enter func12,ntmps12;go_wp2_with (go_at_call 19;refine HN.out.mono ?_;rintro e w1 ⟨M,q,rfl,rfl,s1,o1,q1⟩;have H1:=gp s1 o1 q1;clear s1 o1 q1);go_ret;obtain⟨s1,o1,q1⟩:=H1.out;have k2:aA w1 (w1.alloc (.cells (yC ⟨M,w1.heap.size⟩ 0) 59)):=Kp.alloc _ _;refine⟨⟨M,w1.heap.size⟩,q,rfl,rfl,⟨s1.step k2 (fun i hi e=> ?_) (fun i e=> ?_),ah w1 _, ?_,fun e=> ?_,WG⟩,fun k e=> ?_,q1.trans k2⟩;rcases e with e|e;simp only at e;omega;exact e;rcases e with e|e;simp only at e;rw[e];simp;exact az (s1.xo i e).1 k2.size;have:=s1.lo;have:=ae s1.obj;simp only;omega;have:=(s1.xo _ e).1;simp only at this;omega;rcases e with e|e;exact o1 k e;have:=q1.size;simp only at e;omega
def XD(w:World)(X:Nat->Prop)(k:Nat):Prop:=(w.heap.size<=k/\k<w.heap.size+3)\/X k
def ev0:Array Value:= #[.int .i64 0,.int .i64 0,.int .i64 0,.int .i64 0,.slice none 0 0]
structure YB(X:Nat->Prop)(P:Yx)(q q':Hq)(h:Hs)(n:Nat)(w W:World):Prop where
 s:bH (fun k=>k=P.wb\/XD w X k) P.h q' h W
 g:fZ P.h q w q' W
 obj:W.heap[P.wb]?=some (.cells (yC P n) 59 (0,0))
 b1:W.heap[w.heap.size+1]?=some (.cells ev0 133 (0,0))
 b2:W.heap[w.heap.size+1+1]?=some (.cells #[.int .i64 0,.int .i64 0] 31 (0,0))
section
variable{X X2:Nat->Prop}{P:Yx}{q q':Hq}{h h':Hs}{tr:List (Sp×Int)}{n:Nat}{w W W' w3:World}
theorem YB.quiet(H:YB X P q q' h n w W)(k:aA W W'):YB X P q q' h n w W':=
 ⟨H.s.quiet k,H.g.trans (fZ.quiet _ _ k),(k.block _ (ae H.obj) fun e=>e).trans H.obj,(k.block _ (ae H.b1) fun e=>e).trans H.b1,(k.block _ (ae H.b2) fun e=>e).trans H.b2⟩
theorem YN.begin(H:YN X P q h tr n w)(x:Sx):YB X P q q h n w (((w.alloc (.cells x.vals 98)).alloc (.cells ev0 133)).alloc (.cells #[.int .i64 0,.int .i64 0] 31)):=by
 have k:aA w (((w.alloc (.cells x.vals 98)).alloc (.cells ev0 133)).alloc (.cells #[.int .i64 0,.int .i64 0] 31)):=((Kp.alloc _ _).trans (Kp.alloc _ _)).trans (Kp.alloc _ _);obtain⟨_,b1,b2⟩:=jk w (.cells x.vals 98) (.cells ev0 133) (.cells #[.int .i64 0,.int .i64 0] 31);have hz:=ae b2;have hl:=ae H.obj;refine⟨H.s.step k (fun i hi e=> ?_) (fun i e=> ?_),fZ.quiet _ _ k,(k.block _ hl fun e=>e).trans H.obj,b1,b2⟩;rcases e with e|e|e;exact .inl e;omega;exact .inr e;rcases e with e|e|e;rw[e];exact az hl k.size;omega;exact az (H.xo e).1 k.size
theorem YB.did{e:Ending}{r:Evt×Hs}(A:YB X P q q h n w W)(S:bH X2 P.h q h W)(hX:∀k,k=P.wb\/XD w X k->X2 k)(hq:lW X2 P.h q r W e w3):
 ∃q' ao cap,e= .returned (.agg #[.int .i64 r.1.code,.int .i64 r.1.fuel,.int .i64 r.1.v.kind,.int .i64 r.1.v.n,.slice ao r.1.v.l.length cap])/\YB X P q q' r.2 n w w3/\bH X2 P.h q' r.2 w3/\bu (fun k=>jC P.h q' k\/X2 k) (fun w=>Is w r.1.v ao) w3/\fZ P.h q W q' w3:=by
 obtain⟨q',ao,cap,rfl,s3,g3,f3⟩:=hq;have nb:∀k,k=P.wb\/XD w X k->¬jC P.h q k:=fun k e=>(S.xo k (hX k e)).2;refine⟨q',ao,cap,rfl,⟨?_,A.g.trans g3,(g3.block A.obj (nb _ (.inl rfl))).1,(g3.block A.b1 (nb _ (.inr (.inl (by omega))))).1,(g3.block A.b2 (nb _ (.inr (.inl (by omega))))).1⟩,s3,f3,g3⟩;exact s3.step (Kp.refl _ _) (fun i _ e=>hX i e) fun i e=>(s3.xo i (hX i e)).1
structure YE(X:Nat->Prop)(P:Yx)(q q':Hq)(r:Evt×Hs)(n:Nat)(ao:Option Addr)(cap tb:Nat)(w W:World):Prop where
 s:YB X P q q' r.2 n w W
 bt:W.heap[tb]?=some (.cells #[.int .i64 r.1.code,.int .i64 r.1.fuel,.int .i64 r.1.v.kind,.int .i64 r.1.v.n,.slice ao r.1.v.l.length cap] 133 (0,0))
 n0:tb≠P.wb
 n1:tb≠w.heap.size+1
 n2:tb≠w.heap.size+1+1
 f:bu (fun k=>jC P.h q' k\/k=P.wb\/XD w X k) (fun w=>Is w r.1.v ao) W
theorem YE.quiet{r:Evt×Hs}{ao:Option Addr}{cap tb:Nat}(H:YE X P q q' r n ao cap tb w W)(k:aA W W'):YE X P q q' r n ao cap tb w W':=
 ⟨H.s.quiet k,(k.block _ (ae H.bt) fun e=>e).trans H.bt,H.n0,H.n1,H.n2,H.f.step (k.mono fun _ _ e=>e.elim) fun _ _ e=>e⟩
theorem YE.first{e:Ending}{r:Evt×Hs}(A:YB X P q q h n w W)(hq:lW (fun k=>k=P.wb\/XD w X k) P.h q r W.drew e w3):
 ∃q' ao cap,e= .returned (.agg #[.int .i64 r.1.code,.int .i64 r.1.fuel,.int .i64 r.1.v.kind,.int .i64 r.1.v.n,.slice ao r.1.v.l.length cap])/\YE X P q q' r n ao cap w3.heap.size w (w3.alloc (.cells #[.int .i64 r.1.code,.int .i64 r.1.fuel,.int .i64 r.1.v.kind,.int .i64 r.1.v.n,.slice ao r.1.v.l.length cap] 133))/\Kp (fun k=>jC P.h q k\/W.heap.size<=k) W w3:=by
 have A2:=A.quiet (Kp.drew W);obtain⟨q',ao,cap,he,B3,S3,F3,G3⟩:=A2.did A2.s (fun _ e=>e) hq;have k:aA w3 (w3.alloc (.cells #[.int .i64 r.1.code,.int .i64 r.1.fuel,.int .i64 r.1.v.kind,.int .i64 r.1.v.n,.slice ao r.1.v.l.length cap] 133)):=Kp.alloc _ _;refine⟨q',ao,cap,he,⟨B3.quiet k,ah w3 _, ?_, ?_, ?_,F3.step (k.mono fun _ _ e=>e.elim) fun _ _ e=>e⟩, ?_⟩;have:=ae B3.obj;omega;have:=ae B3.b1;omega;have:=ae B3.b2;omega;exact((Kp.drew W).trans G3.kp).mono fun i _ e=> .inl e
theorem YB.more(A:YB X P q q h n w W):bH (fun k=>(k=P.wb\/XD w X k)\/k=W.heap.size) P.h q h (W.alloc (.cells ev0 133)).drew:=by
 have k1:aA W (W.alloc (.cells ev0 133)).drew:=(Kp.alloc _ _).trans (Kp.drew _);have hz:W.heap.size<(W.alloc (.cells ev0 133)).drew.heap.size:=by show W.heap.size<(W.alloc (.cells ev0 133)).heap.size;simp
 exact A.s.step k1 (fun i hi e=>by
  rcases e with e|e;exact e
  ·omega) fun i e=>by
  rcases e with e|e;exact az (A.s.xo i e).1 k1.size;rw[e];exact hz
theorem YE.second{e:Ending}{r:Evt×Hs}(A:YB X P q q h n w W)(hq:lW (fun k=>(k=P.wb\/XD w X k)\/k=W.heap.size) P.h q r (W.alloc (.cells ev0 133)).drew e w3):
 ∃q' ao cap,e= .returned (.agg #[.int .i64 r.1.code,.int .i64 r.1.fuel,.int .i64 r.1.v.kind,.int .i64 r.1.v.n,.slice ao r.1.v.l.length cap])/\w3.heap[W.heap.size]?=some (.cells ev0 133 (0,0))/\(∀W4,Kp (fun k=>k=W.heap.size) w3 W4->W4.heap[W.heap.size]?=some (.cells #[.int .i64 r.1.code,.int .i64 r.1.fuel,.int .i64 r.1.v.kind,.int .i64 r.1.v.n,.slice ao r.1.v.l.length cap] 133 (0,0))->YE X P q q' r n ao cap W.heap.size w W4)/\Kp (fun k=>jC P.h q k\/W.heap.size<=k) W w3:=by
 have k1:aA W (W.alloc (.cells ev0 133)).drew:=(Kp.alloc _ _).trans (Kp.drew _);have A2:=A.quiet k1;have S2:=A.more;obtain⟨q',ao,cap,he,B3,S3,F3,G3⟩:=A2.did S2 (fun _ e=> .inl e) hq;have bn:w3.heap[W.heap.size]?=some (.cells ev0 133 (0,0)):=(G3.block (show(W.alloc (.cells ev0 133)).drew.heap[W.heap.size]?=_ from ah W _) (S2.xo _ (.inr rfl)).2).1;have z0:=ae A.obj;have z1:=ae A.b1;have z2:=ae A.b2;have hw:w.heap.size<=W.heap.size:=A.g.kp.size;refine⟨q',ao,cap,he,bn,fun W4 k5 b5=>⟨⟨?_, ?_,(k5.block _ (ae B3.obj) (by omega)).trans B3.obj,(k5.block _ (ae B3.b1) (by omega)).trans B3.b1,(k5.block _ (ae B3.b2) (by omega)).trans B3.b2⟩,b5,by omega,by omega,by omega,F3.step (k5.mono fun i _ e=> .inr (.inr e)) fun i _ e=> ?_⟩, ?_⟩;refine S3.abJ k5 (fun i e=> .inr e) (fun i cs t hi ht e=> ?_) (fun i _ e=> .inl e) fun i e=>⟨az (S3.xo i (.inl e)).1 k5.size,(S3.xo i (.inl e)).2⟩;rw[e,bn]at hi;simp at hi;rcases ht with ht|ht<;>rw[ht]at hi<;>exact absurd hi.2 (by decide)
 ·exact B3.g.fresh (k5.mono fun i _ e=>by omega)
 ·rcases e with e|e;exact .inl e;exact .inr (.inl e)
 ·exact(k1.mono fun _ _ e=>e.elim).trans (G3.kp.mono fun i _ e=> .inl e)
theorem YB.watch(H:YB X P q q' h' n w W)(H0:YN X P q h tr n w){tr':List (Sp×Int)}(hd:oO tr' h'):YN (XD w X) P q' h' tr' n W:=
 ⟨H.s,H.obj,H0.lo,fun e=>by
  have hl:=ae H0.obj;rcases e with e|e;omega
  ·exact H0.xw e,hd⟩
theorem sK{n:Nat}(h:W.heap[P.wb]?=some (.cells (yC P n) 59 (0,0)))(m:Nat):(W.setCell ⟨P.wb,1,none⟩ (.int .i64 (m:Nat))).heap[P.wb]?=some (.cells (yC P m) 59 (0,0)):=by
 unfold yC at h|-;simp[World.setCell,aR,h]
theorem YE.done{r:Evt×Hs}{y:Sp}{ao:Option Addr}{cap tb:Nat}{W9:World}(H:YE X P q q' r n ao cap tb w W)(H0:YN X P q h tr n w)(hn:n=tr.length)(hd:oO (tr++[(y,r.1.code)]) r.2)
 (k9:Kp (fun k=>k=P.wb\/k=w.heap.size+1\/k=w.heap.size+1+1) W W9) (b9:W9.heap[P.wb]?=some (.cells (yC P (n+1)) 59 (0,0))):
 WC yT X P q tr y r w (.returned (.tuple #[.agg #[.int .i64 r.1.code,.int .i64 r.1.fuel,.int .i64 r.1.v.kind,.int .i64 r.1.v.n,.slice ao r.1.v.l.length cap],.agg #[.int .i64 0,.int .i64 0]])) W9:=by
 have hl:=ae H0.obj;have fx:∀i,i=P.wb\/i=w.heap.size+1\/i=w.heap.size+1+1->i=P.wb\/XD w X i:=fun i e=>by
  rcases e with e|e|e;exact .inl e;exact .inr (.inl (by omega));exact .inr (.inl (by omega))
 have s9:bH (fun k=>k=P.wb\/X k) P.h q' r.2 W9:=H.s.s.abJ k9 fx (fun i cs t hi ht e=>by
  rcases e with e|e|e;rw[e,H.s.obj]at hi;simp at hi;rcases ht with ht|ht<;>rw[ht]at hi<;>exact absurd hi.2 (by decide);rw[e,H.s.b1]at hi;simp at hi;rcases ht with ht|ht<;>rw[ht]at hi<;>exact absurd hi.2 (by decide)
  ·rw[e,H.s.b2]at hi;simp at hi;rcases ht with ht|ht<;>rw[ht]at hi<;>exact absurd hi.2 (by decide)) (fun i _ e=>by
  rcases e with e|e;exact .inl e
  ·exact .inr (.inr e)) (fun i e=>by
  have e2:i=P.wb\/XD w X i:=by
   rcases e with e|e;exact .inl e;exact .inr (.inr e)
  exact⟨az (H.s.s.xo i e2).1 k9.size,(H.s.s.xo i e2).2⟩)
 refine⟨q',ao,cap,rfl, ?_,⟨?_, ?_⟩, ?_⟩;show YN X P q' r.2 (tr++[(y,r.1.code)]) (tr++[(y,r.1.code)]).length W9;rw[show(tr++[(y,r.1.code)]).length=n+1 by simp[hn]];exact⟨s9,b9,H0.lo,H0.xw,hd⟩
 ·show Kp (mq P q) w W9;have k1:Kp (mq P q) w W:=H.s.g.kp.mono fun i _ e=> .inl e;refine⟨k9.os.trans k1.os,k9.tape.trans k1.tape,k9.output.trans k1.output,aF k1.size k9.size,fun i hi hF=> ?_⟩;refine(k9.block i (az hi k1.size) fun e=> ?_).trans (k1.block i hi hF);rcases e with e|e|e
  ·exact hF (.inr e)
  ·omega
  ·omega
 ·intro i e;rcases(show mq P q' i from e)with e|e;rcases H.s.g.own i e with e|e;exact .inl (.inl e);exact .inr e;exact .inl (.inr e)
 ·show bu (fun k=>mq P q' k\/X k) (fun w=>Is w r.1.v ao) W9;refine H.f.step (k9.mono fun i _ e=> .inr (fx i e)) fun i _ e=> ?_;rcases e with(e|e)|e
  ·exact .inl e
  ·exact .inr (.inl e)
  ·exact .inr (.inr (.inr e))
theorem uQ{n:Nat}(h:W.heap[P.wb]?=some (.cells (yC P n) 59 (0,0))):(W.cell? ⟨P.wb,0,none⟩=some (.pointer (some ⟨P.h.hb,0,none⟩))/\W.cell? ⟨P.wb,1,none⟩=some (.int .i64 (n:Nat))/\W.cell? ⟨P.wb,2,none⟩=some (.int .i64 0)/\W.cell? ⟨P.wb,3,none⟩=some (.int .i64 0))/\W.frozen? ⟨P.wb,1,none⟩=false:=by
 refine⟨⟨?_, ?_, ?_, ?_⟩,aG W P.wb 1 _ 59 h⟩<;>simp[World.cell?,h,yC]
theorem uC{g:Nat}{x0 x1:Value}{t:TypeId}(h:W.heap[g]?=some (.cells #[x0,x1] t (0,0)))(t0 t1:Value):((W.setCell ⟨g,0,none⟩ t0).setCell ⟨g,1,none⟩ t1).heap[g]?=some (.cells #[t0,t1] t (0,0)):=by
 simp[World.setCell,aR,h]
end
theorem Ya:Yo yT:=by
 intro X (P:Yx) (q:Hq) h tr w x Pm H0 ht hx hes hf hl hm;have H:YN X P q h tr tr.length w:=H0;have HX:=hid hx;have HS:=hid H;have HT:=hid ht;have HM:=hid hm;have HA:=hid (H.begin x);obtain⟨W,hW⟩:∃W,W=((w.alloc (.cells x.vals 98)).alloc (.cells ev0 133)).alloc (.cells #[.int .i64 0,.int .i64 0] 31):=⟨_,rfl⟩;rw[<-hW]at HA;have hb0:W.heap[w.heap.size]?=some (.cells x.vals 98 (0,0)):=by rw[hW];exact(jk w _ _ _).1
 have HB0:=bC hb0 (show aA w W by rw[hW];exact((Kp.alloc _ _).trans (Kp.alloc _ _)).trans (Kp.alloc _ _));have c0:W.cell? ⟨P.wb,0,none⟩=some (.pointer (some ⟨P.h.hb,0,none⟩)):=by simp[World.cell?,HA.out.obj,yC]
 obtain⟨c1,c2,c3⟩:=HA.out.s.cells;have HFW:=hid hf;clear H H0 ht hm hx hb0 hf;show Calls prog 145 #[.pointer (some ⟨P.wb,0,none⟩),.agg x.vals] w fun e w'=>∃c,(x.kind=1->bY x.p=true->∃f,Pm f/\f.1=c)/\WC yT X P q tr (x.sp c) (dL h (x.sp c)) w e w';unfold ev0 at hW;have HVV:=hid (show x.vals= #[.int .i64 x.kind,.int .i64 x.p,.int .i64 x.q,.int .i64 x.k,.int .i64 x.h,.int .i64 x.r,.int .i64 x.g,.int .i64 x.n,.slice x.fa x.fs.length x.fc]from rfl);rw[HVV.out]at hW|-;go_enter func145,ntmps145;go_upto_region 1 with fail;rw[<-hW];clear hW;go_upto_region 2 with(go_at_call 117;refine(Wo.aaA _ W _ _ _ _ HA.out.s.ws (by omega)).mono ?_;rintro e w1 ⟨v1,rfl,r1,k1⟩;obtain⟨la,lc,rfl⟩:=Gr.YU r1;have H1:=hid (HA.out.quiet k1);have K1:=hid k1;clear r1 k1);have q01:=HB0.out.2.trans K1.out;have HCC:=hid (fun(w':World) (k:aA w1 w') (X2:Nat->Prop) (S:bH X2 P.h q h w')=>Xk X2 P.h q h w' x Pm S HX.out (by omega) HFW.out ⟨HM.out.1,fun w2 k2=>HM.out.2 w2 ((q01.trans k).trans k2)⟩);have hb0:=(K1.out.block _ (ae HB0.out.1) fun e=>e).trans HB0.out.1;have ZW:=hid (fun(w':World) (z:aA w1 w')=>show w'.cell? ⟨P.wb,0,none⟩=some (.pointer (some ⟨P.h.hb,0,none⟩))/\w'.heap[w.heap.size]?=some (.cells x.vals 98 (0,0))from⟨z.cell (K1.out.cell c0 fun e=>e) fun e=>e,(z.block _ (ae hb0) fun e=>e).trans hb0⟩);have HQ1:=hid q01;clear c0 c1 c2 c3 q01 hb0;obtain⟨s1,sb⟩:=ZW.out w1 (Kp.refl _ _);obtain⟨s1a,sba⟩:=ZW.out (w1.alloc (.cells #[.int .i64 0,.int .i64 0,.int .i64 0,.int .i64 0,.slice none 0 0] 133)) (Kp.alloc _ _);rw[HVV.out]at sb sba HCC;obtain⟨n0,n1,n2,n3,n4,n5,n6,n7,n8⟩:=VE sb;obtain⟨m0,m1,m2,m3,m4,m5,m6,m7,m8⟩:=VE sba;clear sb sba;go_cut [7]from 20 to 25 (fun pt wx=>∃tb,pt= .pointer (some ⟨tb,0,none⟩)/\Hid (∃c q' ao cap,(x.kind=1->bY x.p=true->∃f,Pm f/\f.1=c)/\YE X P q q' (dL h (x.sp c)) tr.length ao cap tb w wx));case first=>
  have HC2:=hid (HCC.out _ ((Kp.alloc _ _).trans (Kp.drew _)) _ H1.out.more);have H12:=hid (fun e w3 r=>YE.second (e:=e) (w3:=w3) (r:=r) H1.out);unfold ev0 at HC2 H12;go_region_law ((go_simp;go_at_call 172;first
   |(refine(HCC.out _ (Kp.drew _) _ (H1.out.quiet (Kp.drew _)).s).mono ?_;rintro e w3 ⟨c,hc,hq⟩;obtain⟨q',ao,cap,rfl,hE,kq⟩:=YE.first H1.out hq;clear hq kq;generalize hr:dL h (x.sp c)=r at*;have HE:=gp hc hr hE;clear hE hc hr;obtain⟨⟨cd,fu,v⟩,h3⟩:=r;simp only at HE|-)
   |(refine HC2.out.mono ?_;rintro e w3 ⟨c,hc,hq⟩;obtain⟨q',ao,cap,rfl,bn,hE,kq⟩:=H12.out _ _ _ hq;clear hq kq;generalize hr:dL h (x.sp c)=r at*;have HE:=gp hc hr hE;clear hE hc hr;obtain⟨⟨cd,fu,v⟩,h3⟩:=r;simp only at HE|-;have BN:=hid bn;obtain⟨⟨y0,y1,y2,y3,y4⟩,x0,x1,x2,x3,x4⟩:=bZ bn;have hl1:=ae bn;clear bn)))
  all_goals
   go_wp2_with fail;go_meet;first
    |exact⟨_,rfl,hid ⟨c,q',ao,cap,HE.out.1,by rw[HE.out.2.1];exact HE.out.2.2⟩⟩
    |exact⟨_,rfl,hid ⟨c,q',ao,cap,HE.out.1,by rw[HE.out.2.1];exact HE.out.2.2 _ (iA _ _ _ _ _ _ _) (iE BN.out _ _ _ _ _)⟩⟩
 case rest=>
  clear m0 m1 m2 m3 m4 m5 m6 m7 m8 n0 n1 n2 n3 n4 n5 n6 n7 n8 s1 s1a ZW HCC H1 K1 HA HB0 HQ1;obtain⟨tb,rfl,K⟩:=hcut;obtain⟨c,q',ao,cap,hc,hE⟩:=K.out;have HAD:=hid (CQ HS.out.s.ok (x.sp c));have HMA:=Ot HT.out.ok HT.out.inv (x.sp c);have HTR:=hid (HT.out.step (x.sp c));have HHD:=hid (HS.out.hand.step HT.out.inv (x.sp c));obtain⟨new,aed,hnew⟩:=HMA;have HNW:=hid (show∀e∈new,Px (tr++[(x.sp c,(dL h (x.sp c)).1.code)]) e from fun e he=>by
   obtain⟨a1,bit,a2,a3,a4,_⟩:=hnew e he;exact⟨a1,bit,a2,a3,N8 HT.out.ok HTR.out.ok a1 a4⟩)
  have HCC:=hid hc;clear hnew K hc;generalize hr:dL h (x.sp c)=r at*;have HR:=hid hr;clear hr;obtain⟨⟨cd,fu,v⟩,h3⟩:=r;simp only at*;have hen:h3.s.es.length=h.s.es.length+new.length:=by rw[aed];simp
  have hel:h3.s.es.length<=802000:=by have:=HAD.out.1;omega
  have HES:=hid aed;have d0:wc.cell? ⟨P.wb,0,none⟩=some (.pointer (some ⟨P.h.hb,0,none⟩)):=by simp[World.cell?,hE.s.obj,yC]
  obtain⟨d1,d2,d3⟩:=hE.s.s.cells;have HL:=hid (Wo.aaA _ wc _ _ _ _ hE.s.s.ws (show h3.s.es.length<=1000000 by omega));have HE:=hid hE;rw[hen]at HL;clear aed hE HAD;generalize hna:h.s.es.length=na at*;generalize hnb:new.length=nb at*;have HNA:=gp hna hnb hen;clear hna hen;go_wp2_with (go_at_call 117;refine HL.out.mono ?_);intro e w5 v5 he r5 k5;have HE5:=hid (HE.out.quiet k5);have HWD:=hid (HE5.out.s.watch HS.out HHD.out);have afj:∀w6,aA w5 w6->YE X P q q' (⟨cd,fu,v⟩,h3) tr.length ao cap tb w w6:=fun w6 k6=>HE5.out.quiet k6;have HFN:=hid afj;clear afj;rcases r5.2 with⟨hv,h0⟩|⟨g5,cap5,aiV,hv,hrest⟩
  ·subst hv;subst he;obtain⟨rfl,rfl⟩:na=0/\nb=0:=(by omega);obtain rfl:new=[]:=List.length_eq_zero_iff.1 HNA.out.2.1;have HLK:=hid (CL HWD.out (by simp;omega) HTR.out.ok HTR.out.Y1 [] HNW.out none 0 (fun k hk=>by simp at hk) (by simp));simp only[bf]at HLK;clear r5 k5;go_upto_region 4 with(go_at_call 173;refine HLK.out.mono ?_;rintro e w6 ⟨rfl,k6⟩;have H6:=hid (HFN.out w6 k6);clear k6);obtain⟨⟨y0,y1,y2,y3⟩,fz⟩:=uQ H6.out.s.obj;have hlw:=ae H6.out.s.obj;obtain⟨W7,hW7⟩:∃W7,W7=w6.setCell ⟨P.wb,1,none⟩ (.int .i64 ((tr.length:Int)+1)):=⟨_,rfl⟩;have k7:Kp (fun k=>k=P.wb) w6 W7:=(by rw[hW7];exact bF w6 P.wb 1 _);have b7:W7.heap[P.wb]?=some (.cells (yC P (tr.length+1)) 59 (0,0)):=(by rw[hW7];have:=sK H6.out.s.obj (tr.length+1);simpa using this);go_upto_region 5 with fail;rw[<-hW7];clear hW7 y0 y1 y2 y3 fz hlw;obtain⟨⟨y0,y1,y2,y3⟩,fz⟩:=uQ b7;have bt:=(k7.block _ (ae H6.out.bt) H6.out.n0).trans H6.out.bt;have hwl:=ae HS.out.obj;have bb1:=(k7.block _ (ae H6.out.s.b1) (by omega)).trans H6.out.s.b1;have bb2:=(k7.block _ (ae H6.out.s.b2) (by omega)).trans H6.out.s.b2;obtain⟨⟨t0,t1,t2,t3,t4⟩,_⟩:=bZ bt;unfold ev0 at bb1;obtain⟨⟨p0,p1,p2,p3,p4⟩,x0,x1,x2,x3,x4⟩:=bZ bb1;have hl1:=ae bb1;have hl2:=ae bb2;have r0:=aG W7 (w.heap.size+1+1) 0 _ _ bb2;have r1:=aG W7 (w.heap.size+1+1) 1 _ _ bb2;obtain⟨g0,g1⟩:=qo bb2;have H7:=jR k7 b7 bb1 bb2;have k8:=iA W7 (w.heap.size+1) (.int .i64 cd) (.int .i64 fu) (.int .i64 v.kind) (.int .i64 v.n) (.slice ao v.l.length cap);have b8:=iE bb1 (.int .i64 cd) (.int .i64 fu) (.int .i64 v.kind) (.int .i64 v.n) (.slice ao v.l.length cap);have H8:=bC k8 b8;clear bt k7 b7 bb1 bb2 k8 b8;go_wp2_with fail;obtain⟨k8,b8⟩:=H8.out;generalize(((((W7.setCell ⟨w.heap.size+1,0,none⟩ (.int .i64 cd)).setCell ⟨w.heap.size+1,1,none⟩ (.int .i64 fu)).setCell ⟨w.heap.size+1,2,none⟩ (.int .i64 v.kind)).setCell ⟨w.heap.size+1,3,none⟩ (.int .i64 v.n)).setCell ⟨w.heap.size+1,4,none⟩ (.slice ao v.l.length cap))=W8 at*;obtain⟨k7,b7,bb1,bb2⟩:=H7.out;have c2:=(k8.block _ (ae bb2) (by omega)).trans bb2;have k9:=(bF W8 (w.heap.size+1+1) 0 (.int .i64 0)).trans (bF _ (w.heap.size+1+1) 1 (.int .i64 0));have b9:=uC c2 (.int .i64 0) (.int .i64 0);generalize(W8.setCell ⟨w.heap.size+1+1,0,none⟩ (.int .i64 0)).setCell ⟨w.heap.size+1+1,1,none⟩ (.int .i64 0)=W9 at*;have b8':=(k9.block _ (ae b8) (by omega)).trans b8;have b7':=(k9.block _ (az (ae b7) k8.size) (by omega)).trans ((k8.block _ (ae b7) (by omega)).trans b7);obtain⟨⟨z0,z1,z2,z3,z4⟩,_⟩:=bZ b8';obtain⟨z5,z6⟩:=qo b9;refine au (v:= .tuple #[.agg #[.int .i64 cd,.int .i64 fu,.int .i64 v.kind,.int .i64 v.n,.slice ao v.l.length cap],.agg #[.int .i64 0,.int .i64 0]]) (by simp[results,results145,go_sem,z0,z1,z2,z3,z4,z5,z6]) rfl ⟨c, ?_, ?_⟩
   ·first
     |exact HCC.out
     |exact fun a b=>by
       obtain⟨f,h1,h2⟩:=HCC.out a b;exact⟨f.2,by rw[<-h2];exact h1⟩
   ·rw[HR.out];exact H6.out.done HS.out rfl HHD.out (((k7.mono fun i _ e=> .inl e).trans (k8.mono fun i _ e=> .inr (.inl e))).trans (k9.mono fun i _ e=> .inr (.inr e))) b7'
  ·have h5:=hrest.2.2.1;subst hv;subst he;have i1:(na:Int)<=((na+nb:Nat):Int):=(by omega);have i2:((na+nb:Nat):Int)<=(cap5:Int):=(by omega);have HEA:vU w5 new (if cap5=na then some ⟨g5,0,none⟩else some ⟨g5,na*4,none⟩):=fun k hk=>by
    have e5:h3.s.es.length=na+nb:=HNA.out.2.2;have hk2:k<nb:=(by rw[<-HNA.out.2.1];exact hk);have hb5:na+nb<=cap5:=h5;rw[af (by omega)];have r6:w5.ownsRow wc.heap.size 101 4 (.slice (some ⟨g5,0,none⟩) h3.s.es.length cap5) h3.s.es.length (Wo.Ze h3.s.es):=(by rw[e5];exact r5);obtain⟨g',cap',el,l0,l1,l2,l3⟩:=LB r6 (na+k) (by omega);cases el;have e6:h3.s.es[na+k]'(by omega)=new[k]:=by
     have h1:∀(l:List Wo.ZI)(hl:l=h.s.es++new)(hi:na+k<l.length),l[na+k]=new[k]:=fun l hl hi=>by
      subst hl;rw[List.getElem_append_right (by rw[HNA.out.1];omega)];congr 1;rw[HNA.out.1];omega
     exact h1 _ HES.out _
    rw[e6]at l0 l1 l2 l3;refine⟨g5,na*4,rfl, ?_, ?_, ?_, ?_⟩;rw[show na*4+k*4=(na+k)*4 by omega];exact l0;rw[show na*4+k*4+1=(na+k)*4+1 by omega];exact l1;rw[show na*4+k*4+2=(na+k)*4+2 by omega];exact l2;rw[show na*4+k*4+3=(na+k)*4+3 by omega];exact l3
   have HLK:=hid (CL HWD.out (by simp;omega) HTR.out.ok HTR.out.Y1 new HNW.out _ (cap5-na) HEA (by rw[hnb];have:=HNA.out.2.2;omega));rw[hnb]at HLK;clear hrest r5 k5 HEA;by_cases hcn:cap5=na
   ·rw[ag hcn]at HLK;subst hcn;obtain rfl:nb=0:=(by omega);rw[Nat.sub_self]at HLK;go_upto_region 4 with(go_at_call 173;refine HLK.out.mono ?_;rintro e w6 ⟨rfl,k6⟩;have H6:=hid (HFN.out w6 k6);clear k6);obtain⟨⟨y0,y1,y2,y3⟩,fz⟩:=uQ H6.out.s.obj;have hlw:=ae H6.out.s.obj;obtain⟨W7,hW7⟩:∃W7,W7=w6.setCell ⟨P.wb,1,none⟩ (.int .i64 ((tr.length:Int)+1)):=⟨_,rfl⟩;have k7:Kp (fun k=>k=P.wb) w6 W7:=(by rw[hW7];exact bF w6 P.wb 1 _);have b7:W7.heap[P.wb]?=some (.cells (yC P (tr.length+1)) 59 (0,0)):=(by rw[hW7];have:=sK H6.out.s.obj (tr.length+1);simpa using this);go_upto_region 5 with fail;rw[<-hW7];clear hW7 y0 y1 y2 y3 fz hlw;obtain⟨⟨y0,y1,y2,y3⟩,fz⟩:=uQ b7;have bt:=(k7.block _ (ae H6.out.bt) H6.out.n0).trans H6.out.bt;have hwl:=ae HS.out.obj;have bb1:=(k7.block _ (ae H6.out.s.b1) (by omega)).trans H6.out.s.b1;have bb2:=(k7.block _ (ae H6.out.s.b2) (by omega)).trans H6.out.s.b2;obtain⟨⟨t0,t1,t2,t3,t4⟩,_⟩:=bZ bt;unfold ev0 at bb1;obtain⟨⟨p0,p1,p2,p3,p4⟩,x0,x1,x2,x3,x4⟩:=bZ bb1;have hl1:=ae bb1;have hl2:=ae bb2;have r0:=aG W7 (w.heap.size+1+1) 0 _ _ bb2;have r1:=aG W7 (w.heap.size+1+1) 1 _ _ bb2;obtain⟨g0,g1⟩:=qo bb2;have H7:=jR k7 b7 bb1 bb2;have k8:=iA W7 (w.heap.size+1) (.int .i64 cd) (.int .i64 fu) (.int .i64 v.kind) (.int .i64 v.n) (.slice ao v.l.length cap);have b8:=iE bb1 (.int .i64 cd) (.int .i64 fu) (.int .i64 v.kind) (.int .i64 v.n) (.slice ao v.l.length cap);have H8:=bC k8 b8;clear bt k7 b7 bb1 bb2 k8 b8;go_wp2_with fail;obtain⟨k8,b8⟩:=H8.out;generalize(((((W7.setCell ⟨w.heap.size+1,0,none⟩ (.int .i64 cd)).setCell ⟨w.heap.size+1,1,none⟩ (.int .i64 fu)).setCell ⟨w.heap.size+1,2,none⟩ (.int .i64 v.kind)).setCell ⟨w.heap.size+1,3,none⟩ (.int .i64 v.n)).setCell ⟨w.heap.size+1,4,none⟩ (.slice ao v.l.length cap))=W8 at*;obtain⟨k7,b7,bb1,bb2⟩:=H7.out;have c2:=(k8.block _ (ae bb2) (by omega)).trans bb2;have k9:=(bF W8 (w.heap.size+1+1) 0 (.int .i64 0)).trans (bF _ (w.heap.size+1+1) 1 (.int .i64 0));have b9:=uC c2 (.int .i64 0) (.int .i64 0);generalize(W8.setCell ⟨w.heap.size+1+1,0,none⟩ (.int .i64 0)).setCell ⟨w.heap.size+1+1,1,none⟩ (.int .i64 0)=W9 at*;have b8':=(k9.block _ (ae b8) (by omega)).trans b8;have b7':=(k9.block _ (az (ae b7) k8.size) (by omega)).trans ((k8.block _ (ae b7) (by omega)).trans b7);obtain⟨⟨z0,z1,z2,z3,z4⟩,_⟩:=bZ b8';obtain⟨z5,z6⟩:=qo b9;refine au (v:= .tuple #[.agg #[.int .i64 cd,.int .i64 fu,.int .i64 v.kind,.int .i64 v.n,.slice ao v.l.length cap],.agg #[.int .i64 0,.int .i64 0]]) (by simp[results,results145,go_sem,z0,z1,z2,z3,z4,z5,z6]) rfl ⟨c, ?_, ?_⟩
    ·first
      |exact HCC.out
      |exact fun a b=>by
        obtain⟨f,h1,h2⟩:=HCC.out a b;exact⟨f.2,by rw[<-h2];exact h1⟩
    ·rw[HR.out];exact H6.out.done HS.out rfl HHD.out (((k7.mono fun i _ e=> .inl e).trans (k8.mono fun i _ e=> .inr (.inl e))).trans (k9.mono fun i _ e=> .inr (.inr e))) b7'
   ·rw[af hcn]at HLK;go_upto_region 4 with(go_at_call 173;refine HLK.out.mono ?_;rintro e w6 ⟨rfl,k6⟩;have H6:=hid (HFN.out w6 k6);clear k6);obtain⟨⟨y0,y1,y2,y3⟩,fz⟩:=uQ H6.out.s.obj;have hlw:=ae H6.out.s.obj;obtain⟨W7,hW7⟩:∃W7,W7=w6.setCell ⟨P.wb,1,none⟩ (.int .i64 ((tr.length:Int)+1)):=⟨_,rfl⟩;have k7:Kp (fun k=>k=P.wb) w6 W7:=(by rw[hW7];exact bF w6 P.wb 1 _);have b7:W7.heap[P.wb]?=some (.cells (yC P (tr.length+1)) 59 (0,0)):=(by rw[hW7];have:=sK H6.out.s.obj (tr.length+1);simpa using this);go_upto_region 5 with fail;rw[<-hW7];clear hW7 y0 y1 y2 y3 fz hlw;obtain⟨⟨y0,y1,y2,y3⟩,fz⟩:=uQ b7;have bt:=(k7.block _ (ae H6.out.bt) H6.out.n0).trans H6.out.bt;have hwl:=ae HS.out.obj;have bb1:=(k7.block _ (ae H6.out.s.b1) (by omega)).trans H6.out.s.b1;have bb2:=(k7.block _ (ae H6.out.s.b2) (by omega)).trans H6.out.s.b2;obtain⟨⟨t0,t1,t2,t3,t4⟩,_⟩:=bZ bt;unfold ev0 at bb1;obtain⟨⟨p0,p1,p2,p3,p4⟩,x0,x1,x2,x3,x4⟩:=bZ bb1;have hl1:=ae bb1;have hl2:=ae bb2;have r0:=aG W7 (w.heap.size+1+1) 0 _ _ bb2;have r1:=aG W7 (w.heap.size+1+1) 1 _ _ bb2;obtain⟨g0,g1⟩:=qo bb2;have H7:=jR k7 b7 bb1 bb2;have k8:=iA W7 (w.heap.size+1) (.int .i64 cd) (.int .i64 fu) (.int .i64 v.kind) (.int .i64 v.n) (.slice ao v.l.length cap);have b8:=iE bb1 (.int .i64 cd) (.int .i64 fu) (.int .i64 v.kind) (.int .i64 v.n) (.slice ao v.l.length cap);have H8:=bC k8 b8;clear bt k7 b7 bb1 bb2 k8 b8;go_wp2_with fail;obtain⟨k8,b8⟩:=H8.out;generalize(((((W7.setCell ⟨w.heap.size+1,0,none⟩ (.int .i64 cd)).setCell ⟨w.heap.size+1,1,none⟩ (.int .i64 fu)).setCell ⟨w.heap.size+1,2,none⟩ (.int .i64 v.kind)).setCell ⟨w.heap.size+1,3,none⟩ (.int .i64 v.n)).setCell ⟨w.heap.size+1,4,none⟩ (.slice ao v.l.length cap))=W8 at*;obtain⟨k7,b7,bb1,bb2⟩:=H7.out;have c2:=(k8.block _ (ae bb2) (by omega)).trans bb2;have k9:=(bF W8 (w.heap.size+1+1) 0 (.int .i64 0)).trans (bF _ (w.heap.size+1+1) 1 (.int .i64 0));have b9:=uC c2 (.int .i64 0) (.int .i64 0);generalize(W8.setCell ⟨w.heap.size+1+1,0,none⟩ (.int .i64 0)).setCell ⟨w.heap.size+1+1,1,none⟩ (.int .i64 0)=W9 at*;have b8':=(k9.block _ (ae b8) (by omega)).trans b8;have b7':=(k9.block _ (az (ae b7) k8.size) (by omega)).trans ((k8.block _ (ae b7) (by omega)).trans b7);obtain⟨⟨z0,z1,z2,z3,z4⟩,_⟩:=bZ b8';obtain⟨z5,z6⟩:=qo b9;refine au (v:= .tuple #[.agg #[.int .i64 cd,.int .i64 fu,.int .i64 v.kind,.int .i64 v.n,.slice ao v.l.length cap],.agg #[.int .i64 0,.int .i64 0]]) (by simp[results,results145,go_sem,z0,z1,z2,z3,z4,z5,z6]) rfl ⟨c, ?_, ?_⟩
    ·first
      |exact HCC.out
      |exact fun a b=>by
        obtain⟨f,h1,h2⟩:=HCC.out a b;exact⟨f.2,by rw[<-h2];exact h1⟩
    ·rw[HR.out];exact H6.out.done HS.out rfl HHD.out (((k7.mono fun i _ e=> .inl e).trans (k8.mono fun i _ e=> .inr (.inl e))).trans (k9.mono fun i _ e=> .inr (.inr e))) b7'
theorem pE{n:Int}(h:dH n):(Lib.itoa n).length<=21:=Lib.itoa_length_le n h.1 h.2
theorem Is.kid{w:World}{v:V}{ao:Option Addr}(h:Is w v ao){x:V}(hx:x∈v.l):∃ax,Is w x ax:=by
 obtain⟨i,hi,rfl⟩:=bT hx;obtain⟨b,off,_,_,_,ai,_,_,k⟩:=h.adg i hi;exact⟨ai,k⟩
theorem NK{l:List V}(h:∀x∈l,x.text.length+1<=32*x.size):(texts l).length<=32*sizes l:=by
 induction l with
 |nil=>simp[Ms]
 |cons x l ih=>
  have h0:=h x (by simp);have h1:=ih fun y hy=>h y (by simp[hy]);rw[YV];cases l with
  |nil=>rw[yt];omega
  |cons y l=>rw[Da,ak,aL];omega
theorem ZG(w:World)(v:V):∀ao,Is w v ao->v.text.length+1<=32*v.size:=by
 induction v using V.ind with
 |h k n l ih=>
  intro ao hI;have ht:(texts l).length<=32*sizes l:=NK fun x hx=>by
   obtain⟨ax,hx'⟩:=hI.kid hx;exact ih x hx ax hx'
  have hn:=pE hI.fit.2;rw[rD,j6];simp only at hn|-;split;omega
  ·split;simp;omega
   ·split;simp;omega
    ·split;simp;omega
     ·split<;>simp<;>omega
structure StW(w0:World)(b x:Nat)(k n:Int)(sl:Value)(l:List UInt8)(w:World):Prop where
 bld:Bld w0.heap.size b l w
 low:Below w0.heap.size w0 w
 box:w.heap[x]?=some (.cells #[.int .i64 k,.int .i64 n,sl] 71 (0,0))
 ne:x≠b
theorem Bld.quiet{B b:Nat}{l:List UInt8}{w w':World}(h:Bld B b l w)(q:aA w w'):Bld B b l w':=by
 have key:∀p,Lib.BuilderAt 50 5 B b p (Lib.byteCells l) w->Lib.BuilderAt 50 5 B b p (Lib.byteCells l) w':=by
  rintro p ⟨hB,v,hb,hr,hne⟩;exact⟨hB,v,(q.block b (ae hb) fun e=>e).trans hb,q.row hr fun _ _ e=>e,hne⟩
 rcases h with h|h;exact .inl (key _ h);exact .inr (key _ h)
theorem kg{e:TypeId}{b:Option Nat}{w w':World}(q:aA w w'):Lib.OthersKept e b w w':=fun k _ hk _ _=>(q.block k (ae hk) fun e=>e).trans hk
section
variable{w0 w w':World}{b x:Nat}{k n:Int}{sl:Value}{l:List UInt8}
theorem StW.quiet(h:StW w0 b x k n sl l w)(q:aA w w'):StW w0 b x k n sl l w':=
 ⟨h.bld.quiet q,h.low.trans (q.low.mono h.low.size),(q.block x (ae h.box) fun e=>e).trans h.box,h.ne⟩
theorem StW.next{l':List UInt8}(h:StW w0 b x k n sl l w)(hb:Bld w0.heap.size b l' w')(hl:Below w0.heap.size w w')(ho:Lib.OthersKept 5 (some b) w w'):StW w0 b x k n sl l' w':=
 ⟨hb,h.low.trans hl,ho x _ h.box (by intro e;simp at e;exact h.ne e) (by intro c fz e;simp at e),h.ne⟩
theorem StW.cells(h:StW w0 b x k n sl l w):w.cell? ⟨x,0,none⟩=some (.int .i64 k)/\w.cell? ⟨x,1,none⟩=some (.int .i64 n)/\w.cell? ⟨x,2,none⟩=some sl:=by
 refine⟨?_, ?_, ?_⟩<;>rw[Lib.cell_of_heap h.box]<;>rfl
theorem UL(h:StW w0 b x k n sl l w)(s:List UInt8)(hlen:l.length+s.length<=140737488355328):
 Calls prog 75 #[.pointer (some ⟨b,0,none⟩),.string ⟨s.toArray⟩] w fun e w'=>e= .returned (.tuple #[.int .i64 s.length,.nilIface])/\StW w0 b x k n sl (l++s) w'/\Below w0.heap.size w w'/\Lib.OthersKept 5 (some b) w w':=by
 refine(PD _ b l s w h.bld hlen h.low.size).mono ?_;rintro e w' ⟨rfl,h1,h2,h3⟩;exact⟨rfl,h.next h1 h2 h3,h2,h3⟩
end
def mQ(w0:World)(b:Nat)(v:V):Prop:=∀(ao:Option Addr)(cap:Nat)(l:List UInt8)(w:World),Is w0 v ao->Below w0.heap.size w0 w->Bld w0.heap.size b l w->l.length+32*v.size<=1000000->
 Calls prog 149 #[.pointer (some ⟨b,0,none⟩),.agg #[.int .i64 v.kind,.int .i64 v.n,.slice ao v.l.length cap]] w fun e w'=>e= .returned (.tuple #[])/\Bld w0.heap.size b (l++v.text) w'/\Below w0.heap.size w w'/\Lib.OthersKept 5 (some b) w w'
theorem VR{B b:Nat}{l:List UInt8}{w:World}(h:Bld B b l w):b<w.heap.size:=by
 rcases h with h|h<;>exact h.lt
theorem qX{w0 w:World}{b:Nat}{l:List UInt8}(hl:Below w0.heap.size w0 w)(hb:Bld w0.heap.size b l w)(k n:Int)(sl:Value):StW w0 b w.heap.size k n sl l (w.alloc (.cells #[.int .i64 k,.int .i64 n,sl] 71)):=
 ⟨hb.quiet (Kp.alloc _ _),hl.alloc hl.size _,ah w _,by have:=VR hb;omega⟩
theorem DT(a b:List UInt8):(ByteArray.mk a.toArray++ByteArray.mk b.toArray)=ByteArray.mk (a++b).toArray:=by
 apply ByteArray.ext;rw[ByteArray.data_append];simp
theorem lS{w0 w:World}{b x:Nat}{k n:Int}{sl:Value}{l:List UInt8}(h:StW w0 b x k n sl l w)(s:ByteArray)(t:List UInt8)(hs:s=⟨t.toArray⟩)(hlen:l.length+t.length<=140737488355328):
 Calls prog 75 #[.pointer (some ⟨b,0,none⟩),.string s] w fun e w'=>e= .returned (.tuple #[.int .i64 t.length,.nilIface])/\StW w0 b x k n sl (l++t) w'/\Below w0.heap.size w w'/\Lib.OthersKept 5 (some b) w w':=by
 subst hs;exact UL h t hlen
theorem xY{w0 w:World}{bb oo:Nat}{x:V}{ca:Option Addr}{cc:Nat}(hl:Below w0.heap.size w0 w)(d0:w0.cell? ⟨bb,oo,none⟩=some (.int .i64 x.kind))(d1:w0.cell? ⟨bb,oo+1,none⟩=some (.int .i64 x.n))(d2:w0.cell? ⟨bb,oo+2,none⟩=some (.slice ca x.l.length cc)):
 w.cell? ⟨bb,oo,none⟩=some (.int .i64 x.kind)/\w.cell? ⟨bb,oo+1,none⟩=some (.int .i64 x.n)/\w.cell? ⟨bb,oo+2,none⟩=some (.slice ca x.l.length cc):=
 ⟨rq hl d0 (aW w0 _ d0),rq hl d1 (aW w0 _ d1),rq hl d2 (aW w0 _ d2)⟩
theorem JK(w0:World)(ht:Tab w0)(b:Nat)(n:Int)(x:V)(hx:mQ w0 b x):mQ w0 b ⟨3,n,[x]⟩:=by
 intro ao cap l w hI hB hb hlen;have h1:=qX hB hb 3 n (.slice ao 1 cap);have hn:=hI.fit.2;have hnl:=pE hn;simp only at hn hnl;have t1:=ht.low h1.low;obtain⟨bb,oo,e,d0,d1,ca,cc,d2,hk⟩:=hI.adg 0 (by simp);simp only[List.getElem_cons_zero,Nat.zero_mul,eD]at d0 d1 d2 hk;subst e;rw[j6,YV,YX]at hlen;have hxl:=ZG w0 x ca hk;have hE:=hid (show(V.mk 3 n [x]).text=91::(Lib.itoa n++32::(x.text++[93]))by rw[rD];simp[yt]);go_enter func149,ntmps149;go_wp2_with (first
  |(go_at_call 37;refine(Zz n hn _ t1).mono ?_;rintro e w2 ⟨rfl,q2⟩;have h2:=h1.quiet q2;obtain⟨c0,c1,c2⟩:=h2.cells)
  |(go_at_call 75;refine(lS h2 _ (91::(Lib.itoa n++[32])) (by rw[show(ByteArray.mk #[91])=ByteArray.mk [91].toArray from rfl,show(ByteArray.mk #[32])=ByteArray.mk [32].toArray from rfl,DT,DT];rfl) (by simp;omega)).mono ?_;rintro e w3 ⟨rfl,h3,b3,k3⟩;obtain⟨c0',c1',c2'⟩:=h3.cells;obtain⟨d0',d1',d2'⟩:=xY h3.low d0 d1 d2)
  |(go_at_call 149;refine(hx ca cc _ _ hk h3.low h3.bld (by simp;omega)).mono ?_;rintro e w4 ⟨rfl,hb4,b4,k4⟩;have h4:=h3.next hb4 b4 k4)
  |(go_at_call 75;refine(lS h4 _ [93] rfl (by simp;omega)).mono ?_;rintro e w5 ⟨rfl,h5,b5,k5⟩))
 go_end0;refine⟨rfl, ?_, ?_, ?_⟩;have:=h5.bld;rw[hE.out];simpa only[aV,bG,dm]using this;exact(((cK _ _).alloc hB.size _).trans (q2.low.mono (by have:=h1.low.size;exact this))).trans (b3.trans (b4.trans b5));exact(((dB _ _ _).alloc _).trans (kg q2)).trans (k3.trans (k4.trans k5))
theorem O9(w0:World)(ht:Tab w0)(b:Nat)(n:Int):mQ w0 b ⟨0,n,[]⟩:=by
 intro ao cap l w hI hB hb hlen;have h1:=qX hB hb 0 n (.slice ao 0 cap);have hn:=hI.fit.2;have hnl:=pE hn;simp only at hn hnl;have t1:=ht.low h1.low;rw[j6,YX]at hlen;have hE:=hid (show(V.mk 0 n []).text=[110,105,108]by rw[rD];simp);go_enter func149,ntmps149;go_wp2_with (first
  |(go_at_call 37;refine(Zz n hn _ t1).mono ?_;rintro e w2 ⟨rfl,q2⟩;have h2:=h1.quiet q2;obtain⟨c0,c1,c2⟩:=h2.cells)
  |(go_at_call 75;refine(lS h2 _ [110,105,108] rfl (by simp;omega)).mono ?_;rintro e w3 ⟨rfl,h3,b3,k3⟩))
 go_end0;refine⟨rfl, ?_, ?_, ?_⟩;have:=h3.bld;rw[hE.out];simpa only[aV,bG,dm]using this;exact(((cK _ _).alloc hB.size _).trans (q2.low.mono (by have:=h1.low.size;exact this))).trans b3;exact(((dB _ _ _).alloc _).trans (kg q2)).trans k3
theorem LD(w0:World)(ht:Tab w0)(b:Nat)(n:Int):mQ w0 b ⟨1,n,[]⟩:=by
 intro ao cap l w hI hB hb hlen;have h1:=qX hB hb 1 n (.slice ao 0 cap);have hn:=hI.fit.2;have hnl:=pE hn;simp only at hn hnl;have t1:=ht.low h1.low;rw[j6,YX]at hlen;have hE:=hid (show(V.mk 1 n []).text=Lib.itoa n by rw[rD];simp);go_enter func149,ntmps149;go_wp2_with (first
  |(go_at_call 37;refine(Zz n hn _ t1).mono ?_;rintro e w2 ⟨rfl,q2⟩;have h2:=h1.quiet q2;obtain⟨c0,c1,c2⟩:=h2.cells)
  |(go_at_call 75;refine(lS h2 _ (Lib.itoa n) rfl (by omega)).mono ?_;rintro e w3 ⟨rfl,h3,b3,k3⟩))
 go_end0;refine⟨rfl, ?_, ?_, ?_⟩;have:=h3.bld;rw[hE.out];simpa only[aV,bG,dm]using this;exact(((cK _ _).alloc hB.size _).trans (q2.low.mono (by have:=h1.low.size;exact this))).trans b3;exact(((dB _ _ _).alloc _).trans (kg q2)).trans k3
theorem NA(w0:World)(ht:Tab w0)(b:Nat)(n:Int):mQ w0 b ⟨4,n,[]⟩:=by
 intro ao cap l w hI hB hb hlen;have h1:=qX hB hb 4 n (.slice ao 0 cap);have hn:=hI.fit.2;have hnl:=pE hn;simp only at hn hnl;have t1:=ht.low h1.low;rw[j6,YX]at hlen;have hE:=hid (show(V.mk 4 n []).text=35::Lib.itoa n by rw[rD];simp);go_enter func149,ntmps149;go_wp2_with (first
  |(go_at_call 37;refine(Zz n hn _ t1).mono ?_;rintro e w2 ⟨rfl,q2⟩;have h2:=h1.quiet q2;obtain⟨c0,c1,c2⟩:=h2.cells)
  |(go_at_call 75;refine(lS h2 _ (35::Lib.itoa n) (by rw[show(ByteArray.mk #[35])=ByteArray.mk [35].toArray from rfl,DT];rfl) (by simp;omega)).mono ?_;rintro e w3 ⟨rfl,h3,b3,k3⟩))
 go_end0;refine⟨rfl, ?_, ?_, ?_⟩;have:=h3.bld;rw[hE.out];simpa only[aV,bG,dm]using this;exact(((cK _ _).alloc hB.size _).trans (q2.low.mono (by have:=h1.low.size;exact this))).trans b3;exact(((dB _ _ _).alloc _).trans (kg q2)).trans k3
theorem Kg(w0:World)(ht:Tab w0)(b:Nat)(n:Int):mQ w0 b ⟨5,n,[]⟩:=by
 intro ao cap l w hI hB hb hlen;have h1:=qX hB hb 5 n (.slice ao 0 cap);have hn:=hI.fit.2;have hnl:=pE hn;simp only at hn hnl;have t1:=ht.low h1.low;rw[j6,YX]at hlen;have hE:=hid (show(V.mk 5 n []).text=33::Lib.itoa n by rw[rD];simp);go_enter func149,ntmps149;go_wp2_with (first
  |(go_at_call 37;refine(Zz n hn _ t1).mono ?_;rintro e w2 ⟨rfl,q2⟩;have h2:=h1.quiet q2;obtain⟨c0,c1,c2⟩:=h2.cells)
  |(go_at_call 75;refine(lS h2 _ (33::Lib.itoa n) (by rw[show(ByteArray.mk #[33])=ByteArray.mk [33].toArray from rfl,DT];rfl) (by simp;omega)).mono ?_;rintro e w3 ⟨rfl,h3,b3,k3⟩))
 go_end0;refine⟨rfl, ?_, ?_, ?_⟩;have:=h3.bld;rw[hE.out];simpa only[aV,bG,dm]using this;exact(((cK _ _).alloc hB.size _).trans (q2.low.mono (by have:=h1.low.size;exact this))).trans b3;exact(((dB _ _ _).alloc _).trans (kg q2)).trans k3
theorem Ku(w0:World)(ht:Tab w0)(b:Nat)(n:Int)(x y:V)(hx:mQ w0 b x)(hy:mQ w0 b y):mQ w0 b ⟨2,n,[x,y]⟩:=by
 intro ao cap l w hI hB hb hlen;have h1:=qX hB hb 2 n (.slice ao 2 cap);have hn:=hI.fit.2;have hnl:=pE hn;simp only at hn hnl;have t1:=ht.low h1.low;obtain⟨bb,oo,e,d0,d1,ca,cc,d2,hk⟩:=hI.adg 0 (by simp);obtain⟨bb',oo',e',f0,f1,fa,fc,f2,hk2⟩:=hI.adg 1 (by simp);subst e;cases e';simp only[List.getElem_cons_zero,List.getElem_cons_succ,Nat.zero_mul,Nat.one_mul,eD]at d0 d1 d2 hk f0 f1 f2 hk2;rw[j6,YV,YV,YX]at hlen;have hxl:=ZG w0 x ca hk;have hyl:=ZG w0 y fa hk2;have hE:=hid (show(V.mk 2 n [x,y]).text=40::(x.text++32::(y.text++[41]))by rw[rD];simp[yt,Da]);go_enter func149,ntmps149;go_wp2_with (first
  |(go_at_call 75;refine(lS h6 _ [41] rfl (by simp;omega)).mono ?_;rintro e w7 ⟨rfl,h7,b7,k7⟩)
  |(go_at_call 149;refine(hy fa fc _ _ hk2 h5.low h5.bld (by simp;omega)).mono ?_;rintro e w6 ⟨rfl,hb6,b6,k6⟩;have h6:=h5.next hb6 b6 k6)
  |(go_at_call 75;refine(lS h4 _ [32] rfl (by simp;omega)).mono ?_;rintro e w5 ⟨rfl,h5,b5,k5⟩;obtain⟨aiW,aiX,aiY⟩:=h5.cells;obtain⟨f0',f1',f2'⟩:=xY h5.low f0 f1 f2)
  |(go_at_call 149;refine(hx ca cc _ _ hk h3.low h3.bld (by simp;omega)).mono ?_;rintro e w4 ⟨rfl,hb4,b4,k4⟩;have h4:=h3.next hb4 b4 k4)
  |(go_at_call 75;refine(lS h2 _ [40] rfl (by simp;omega)).mono ?_;rintro e w3 ⟨rfl,h3,b3,k3⟩;obtain⟨c0',c1',c2'⟩:=h3.cells;obtain⟨d0',d1',d2'⟩:=xY h3.low d0 d1 d2)
  |(go_at_call 37;refine(Zz n hn _ t1).mono ?_;rintro e w2 ⟨rfl,q2⟩;have h2:=h1.quiet q2;obtain⟨c0,c1,c2⟩:=h2.cells))
 go_end0;refine⟨rfl, ?_, ?_, ?_⟩;have:=h7.bld;rw[hE.out];simpa only[aV,bG,dm]using this;exact(((cK _ _).alloc hB.size _).trans (q2.low.mono (by have:=h1.low.size;exact this))).trans (b3.trans (b4.trans (b5.trans (b6.trans b7))));exact(((dB _ _ _).alloc _).trans (kg q2)).trans (k3.trans (k4.trans (k5.trans (k6.trans k7))))
theorem aaM(w0:World)(ht:Tab w0)(b:Nat)(v:V):v.fault=0->mQ w0 b v:=by
 induction v using V.ind with
 |h k n l ih=>
  intro hf;have h1:=xW hf;have hk:∀x∈l,x.fault=0:=by
   intro x hx;obtain⟨i,hi,rfl⟩:=bT hx;exact ui hf i hi
  unfold V.YW at h1;cases hp:jc k with
  |none=>simp[hp]at h1
  |some p=>
   simp only[hp]at h1;have hl:l.length=p:=by
    by_cases h:l.length=p;exact h;simp[h]at h1
   rcases tH hp with⟨rfl,rfl⟩|⟨rfl,rfl⟩|⟨rfl,rfl⟩|⟨rfl,rfl⟩|⟨rfl,rfl⟩|⟨rfl,rfl⟩
   ·match l,hl with
    |[x,y],_=>exact Ku w0 ht b n x y (ih x (by simp) (hk x (by simp))) (ih y (by simp) (hk y (by simp)))
   ·match l,hl with
    |[x],_=>exact JK w0 ht b n x (ih x (by simp) (hk x (by simp)))
   ·obtain rfl:=bB hl;exact O9 w0 ht b n
   ·obtain rfl:=bB hl;exact LD w0 ht b n
   ·obtain rfl:=bB hl;exact NA w0 ht b n
   ·obtain rfl:=bB hl;exact Kg w0 ht b n
theorem aah(v:V)(ao:Option Addr)(cap:Nat)(w:World)(ht:Tab w)(hI:Is w v ao)(hC:v.check=0):
 Calls prog 115 #[.agg #[.int .i64 v.kind,.int .i64 v.n,.slice ao v.l.length cap]] w fun e w'=>e= .returned (.string ⟨v.text.toArray⟩)/\aA w w':=by
 have q1:aA w (w.alloc (.cells #[.int .i64 v.kind,.int .i64 v.n,.slice ao v.l.length cap] 71)):=Kp.alloc _ _;have hS:v.size<=40:=fV hC;have hm:=hid (fQ v ao cap _ (hI.quiet q1) (by omega));have hs:∀w2,aA w w2->_:=fun w2 q2=>aaM w ht w2.heap.size v (jX hC) ao cap [] (w2.alloc (.cells #[.pointer none,.slice none 0 0] 50)) hI (q2.trans (Kp.alloc _ _)).low (.inl ⟨q2.size,.slice none 0 0,ah w2 _,bq _ _ _ _,by simp[Value.ownBlock]⟩) (by simp;omega);have HC:=hid hC;clear hC;go_enter func115,ntmps115;go_wp2_with (first
  |(go_at_call 148;refine hm.out.mono ?_;rintro e w2 ⟨rfl,q2⟩;rw[HC.out];have q12:=q1.trans q2;have c0:w2.cell? ⟨w.heap.size,0,none⟩=some (.int .i64 v.kind):=q2.cell (by simp) (fun e=>e);have c1:w2.cell? ⟨w.heap.size,1,none⟩=some (.int .i64 v.n):=q2.cell (by simp) (fun e=>e);have c2:w2.cell? ⟨w.heap.size,2,none⟩=some (.slice ao v.l.length cap):=q2.cell (by simp) (fun e=>e);have z2:w.heap.size<w2.heap.size:=by have:=q2.size;simp at this;omega)
  |(go_at_call 149;refine(hs w2 q12).mono ?_;rintro e w3 ⟨rfl,hb3,b3,k3⟩;rw[dm]at hb3;have z3:w.heap.size<=w3.heap.size:=by have:=b3.size;simp at this;omega)
  |(go_at_call 16;refine(II w.heap.size w2.heap.size v.text w3 hb3 z3).mono ?_;rintro e w4 ⟨rfl,b4⟩))
 go_ret;exact⟨rfl,gV (((q12.low.trans ((cK _ _).alloc q12.size _)).trans b3).trans b4)⟩
end
namespace Dk
structure Mid(w W:World):Prop where
 q:aA w W
 ni:∀i,w.heap.size<=i->i<W.heap.size->∃cs t,W.heap[i]?=some (.cells cs t (0,0))/\t≠334/\t≠328
theorem Mid.refl(w:World):Mid w w:=⟨Kp.refl _ _,fun i h1 h2=>by omega⟩
theorem Mid.drew{w W:World}(h:Mid w W):Mid w W.drew:=⟨h.q.trans (Kp.drew _),h.ni⟩
theorem Mid.alloc{w W:World}(h:Mid w W)(cs:Array Value)(t:TypeId)(h1:t≠334)(h2:t≠328):Mid w (W.alloc (.cells cs t)):=by
 refine⟨h.q.trans (Kp.alloc _ _),fun i hi hl=> ?_⟩;by_cases e:i=W.heap.size;rw[e];exact⟨cs,t,ah W _,h1,h2⟩
 ·have:i<W.heap.size:=by simp at hl;omega
  rw[aB _ _ _ this];exact h.ni i hi this
def XE(X:Nat->Prop)(K:Kx)(v:Value)(w W:World)(k:Nat):Prop:=(w.heap.size<=k/\k<W.heap.size)\/(k=K.db\/nK K.tb v k)\/X k
structure EvB(X:Nat->Prop)(K:Kx)(q q':Qx)(v:Value)(n:Nat)(d:Ds)(r:Evt×Hs)(ao:Option Addr)(w W w3:World):Prop where
 m:Mid w W
 y0:∀k,XE X K v w W k->¬mq K.p q.q k
 y:YN (XE X K v w W) K.p q'.q r.2 q'.tr q'.tr.length w3
 g:VG yT K.p q.q W q'.q w3
 f:bu (fun k=>mq K.p q'.q k\/XE X K v w W k) (fun w=>Is w r.1.v ao) w3
 i:U2 (n+1) q'.tr ⟨d.txt,r.2⟩
 e:zU r.1
theorem Oj{tr:List (Sp×Int)}{h:Hs}(H:TrS tr h)(h0:∀e∈h.s.es,Qo e)(x:Sp):∀e∈(dL h x).2.s.es,Qo e:=by
 obtain⟨new,e1,g⟩:=F4 H.ok H.inv x;have hw:=(rA H.inv x).1.gs.wf;have hl:=(rA H.inv x).1.gs.ln;intro e he;rw[e1]at he;rcases aK.1 he with he|he;exact h0 e he;obtain⟨a,bit,b,c,_,d,_⟩:=g e he;obtain⟨j,ej,hj⟩:=Gr.Zg c;obtain⟨k,hk⟩:=yN hw (j+1) j (by omega) hj;rw[<-ej]at hk;have c0:=hk.c0;have c1:=hk.c1;rw[d]at c0 c1;simp[bY]at a;refine⟨⟨by omega,by omega⟩,⟨by omega,by omega⟩,⟨by omega,by omega⟩,⟨by omega,by omega⟩⟩
theorem OB(h:Hs)(x:Sx)(c:Int)(hc:x.kind=1->bY x.p=true->c=0):dL h (x.sp c)=dL h (x.sp 0):=by
 unfold dL;by_cases h1:x.kind=1;by_cases h2:bY x.p=true;rw[hc h1 h2];simp[Sx.sp,h1,iV,h2];simp only[Sx.sp,h1,if_false];rfl
section
variable{X:Nat->Prop}{K:Kx}{q q':Qx}{v:Value}{n:Nat}{d:Ds}{l:List UInt8}{r:Evt×Hs}{ao:Option Addr}{w W w3 W9:World}
theorem EvB.kept(B:EvB X K q q' v n d r ao w W w3){i:Nat}{o:Obj}(hi:W.heap[i]?=some o)(hX:XE X K v w W i):w3.heap[i]?=some o:=(B.g.kp.block i (ae hi) (B.y0 i hX)).trans hi
theorem VH(H:TS X K q v n d l w)(hn:n+1<=400)(x:Sx)(hx:x.Fit)(Pm:Int×Int->Prop)(hm:tT Pm x w)(hP:x.kind=1->∀f,Pm f->f.1=0)(m:Mid w W):
 Calls prog 145 #[.pointer (some ⟨K.p.wb,0,none⟩),.agg x.vals] W fun e w3=>∃q' ao cap,e= .returned (.tuple #[.agg #[.int .i64 (dL d.h (x.sp 0)).1.code,.int .i64 (dL d.h (x.sp 0)).1.fuel,.int .i64 (dL d.h (x.sp 0)).1.v.kind,.int .i64 (dL d.h (x.sp 0)).1.v.n,.slice ao (dL d.h (x.sp 0)).1.v.l.length cap],.agg #[.int .i64 0,.int .i64 0]])/\EvB X K q q' v n d (dL d.h (x.sp 0)) ao w W w3:=by
 have Y:YN (XE X K v w W) K.p q.q d.h q.tr q.tr.length W:=H.y.step m.q (fun i hi e=>by
  rcases e with e|e;omega
  ·rcases e with e|e;exact .inl e
   ·exact .inr e) fun i e=>by
  have hs:=m.q.size;rcases e with e|(e|e)|e;exact e.2;rw[e];exact az (ae H.Zm) hs;exact az (H.ZY.lt e).2 hs;exact az (H.xo i e).1 hs
 have hes:d.h.s.es.length<=800000:=by have:=H.inv.es;omega
 refine(Ya (XE X K v w W) K.p q.q d.h q.tr W x Pm Y H.inv.trs hx hes (fun p=>by have:=H.inv.few p;omega) (by have:=H.inv.tr;omega) ⟨hm.1,fun w1 k=>hm.2 w1 (m.q.trans k)⟩).mono ?_;rintro e w3 ⟨c,hc,q',ao,cap,rfl,y3,g3,f3⟩;have hs:=OB d.h x c fun h1 h2=>by
  obtain⟨f,hf,e⟩:=hc h1 h2;rw[<-e];exact hP h1 f hf
 rw[hs]at y3 f3;have hok:=WT.ok (T:=yT) Y;obtain⟨a1,a2⟩:=CQ hok (x.sp 0);refine⟨⟨q',q.tr++[(x.sp c,(dL d.h (x.sp 0)).1.code)]⟩,ao,cap,by rw[hs],m,fun k e=>(Y.xo e).2,y3,g3,f3,⟨?_, ?_, ?_,fun p=> ?_,H.inv.txt,Oj H.inv.trs H.inv.ent _⟩,FZ hok _ (by simp[Sx.sp,Sc])⟩;have:=H.inv.trs.step (x.sp c);rw[hs]at this;exact this;have:=H.inv.tr;simp;omega;have:=H.inv.es;simp only;omega;have:=H.inv.few p;have:=a2 p;simp only;omega
theorem EvB.fin(B:EvB X K q q' v n d r ao w W w3)(H:TS X K q v n d l w)(k:Kp (fun i=>w.heap.size<=i/\i<W.heap.size) w3 W9):
 TS X K q' v (n+1) ⟨d.txt,r.2⟩ l W9/\gH K q v w q' v W9/\Is W9 r.1.v ao:=by
 have hs:=B.m.q.size;have hs3:=B.g.kp.size;have hold:∀i o,w.heap[i]?=some o->¬mq K.p q.q i->W9.heap[i]?=some o:=fun i o hi hn=>by
  have h1:=ae hi;have h2:=(B.m.q.block i h1 fun e=>e).trans hi;have h3:=(B.g.kp.block i (ae h2) hn).trans h2;exact(k.block i (ae h3) (by omega)).trans h3
 have ha:∀i,(i=K.db\/nK K.tb v i)\/X i->i<w.heap.size/\¬mq K.p q.q i:=fun i e=>H.y.xo e;have kw0:Kp (mq K.p q.q) w W9:=by
  refine⟨k.os.trans (B.g.kp.os.trans B.m.q.os),k.tape.trans (B.g.kp.tape.trans B.m.q.tape),k.output.trans (B.g.kp.output.trans B.m.q.output),by have:=k.size;omega,fun i hi hF=> ?_⟩;have h2:=B.m.q.block i hi fun e=>e;have h3:=B.g.kp.block i (by omega) hF;exact(k.block i (by omega) (by omega)).trans (h3.trans h2)
 have kw:Kp (yn K q v) w W9:=kw0.mono fun i _ e=> .inl e;have go:∀i,mq K.p q'.q i->mq K.p q.q i\/w.heap.size<=i:=fun i e=>by
  rcases B.g.own i e with e|e;exact .inl e;exact .inr (by omega)
 have g:gH K q v w q' v W9:=⟨kw,fun i e=>by
  rcases e with e|e;rcases go i e with e|e;exact .inl (.inl e);exact .inr e
  ·exact .inl (.inr e)⟩
 have hnew:∀i,(i=K.db\/nK K.tb v i)\/X i->¬mq K.p q'.q i:=fun i e e2=>by
  rcases go i e2 with e2|e2;exact(ha i e).2 e2;have:=(ha i e).1;omega
 refine⟨⟨B.y.turn k (fun i e=> .inl e) (fun i cs t hi ht e=> ?_) (fun i hi e=> .inr ?_) (fun i e=>⟨?_,hnew i e⟩),hold _ _ H.Zm (ha _ (.inl (.inl rfl))).2, ?_,H.lz.low (H.low g),B.i,H.lo,fun i e=>⟨?_,fun e2=> ?_⟩⟩,g, ?_⟩;obtain⟨cs',t',hb,h1,h2⟩:=B.m.ni i e.1 e.2;have h3:=B.kept hb (.inl e);rw[h3]at hi;simp at hi;rcases ht with ht|ht;exact h1 (hi.2.trans ht);exact h2 (hi.2.trans ht);rcases e with e|e;exact .inl e;exact .inr e;have:=(ha i e).1;have:=k.size;omega;obtain⟨a,h1,hb⟩:=H.ZY.obj;refine⟨⟨a,h1,hold _ _ hb (ha _ (.inl (.inr (.inl rfl)))).2⟩, ?_,H.ZY.lo,H.ZY.nil⟩;exact kw0.row H.ZY.row fun i e e2=>(ha i (.inl (.inr (.inr e)))).2 e2;have:=(H.xo i e).1;have:=kw.size;omega;rcases g.own i e2 with e2|e2;exact(H.xo i e).2 e2;have:=(H.xo i e).1;omega;exact(B.f.step (k.mono fun i _ e=> .inr (.inl e)) fun _ _ e=>e).now
structure EvF(X:Nat->Prop)(K:Kx)(q q':Qx)(v:Value)(n:Nat)(d:Ds)(x:Sx)(r:Evt×Hs)(l:List UInt8)(eb fb:Nat)(w W:World):Prop where
 ts:TS X K q' v (n+1) ⟨d.txt,r.2⟩ l W
 g:gH K q v w q' v W
 b:W.heap[w.heap.size]?=some (.cells x.vals 98 (0,0))
 e:∃ao cap,W.heap[eb]?=some (.cells #[.int .i64 r.1.code,.int .i64 r.1.fuel,.int .i64 r.1.v.kind,.int .i64 r.1.v.n,.slice ao r.1.v.l.length cap] 133 (0,0))/\Is W r.1.v ao
 f:W.heap[fb]?=some (.cells #[.int .i64 0,.int .i64 0] 31 (0,0))
 o:zU r.1
def evC(r:Evt)(ao:Option Addr)(cap:Nat):Array Value:= #[.int .i64 r.code,.int .i64 r.fuel,.int .i64 r.v.kind,.int .i64 r.v.n,.slice ao r.v.l.length cap]
theorem EvB.done{x:Sx}{cap eb fb:Nat}(B:EvB X K q q' v n d r ao w W w3)(H:TS X K q v n d l w)(k:Kp (fun i=>w.heap.size<=i/\i<W.heap.size) w3 W9)(hb:W9.heap[w.heap.size]?=some (.cells x.vals 98 (0,0)))
 (he:W9.heap[eb]?=some (.cells (evC r.1 ao cap) 133 (0,0))) (hf:W9.heap[fb]?=some (.cells #[.int .i64 0,.int .i64 0] 31 (0,0))):EvF X K q q' v n d x r l eb fb w W9:=by
 obtain⟨h1,h2,h3⟩:=B.fin H k;exact⟨h1,h2,hb,⟨ao,cap,he,h3⟩,hf,B.e⟩
end
