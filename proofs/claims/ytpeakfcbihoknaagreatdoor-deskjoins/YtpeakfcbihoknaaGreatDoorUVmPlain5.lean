/- Parts. -/
import Derived.Test.YtpeakfcbihoknaaGreatDoorUM2
open Go.ChangeShapes Go.WideShapes Go.ChangeAt Go.RowKit
set_option maxRecDepth 8000
set_option maxHeartbeats 4000000
namespace Go.Proofs.YtpeakfcbihoknaaGreatDoor
open Proofs.Tryz
open Gr (Nd ZH nd0 YT aS dJ bJ dV bS Y0 bN eX YS Wf jg GS fJ)
section
variable{C:Cx}{q:Vs}{s:Sg}{left:Nat}{w:World}{g nn sc mm nc:Nat}{ps qs:List Kd}{a b:V}{aa ba na:Option Addr}{ac bc:Nat}
theorem qG{R:Rw}{w':World}{b:Nat}{cs:Array Value}{t:TypeId}{P:World->Prop}(h:bu (fun k=>C.m.own q k\/C.x R k) P w)(k:aA w w')(hb:w.heap.size<=b):bu (fun k=>C.m.own q k\/(C.ext b cs t).x R k) P w':=
 h.step (k.mono fun _ _ e=>e.elim) fun i hi e=>by
  rcases e with e|(e|e)|e;exact .inl e;exact .inr (.inl e);omega;exact .inr (.inr e)
theorem Ad{R:Rw}{b:Nat}{cs:Array Value}{t:TypeId}{P:World->Prop}(h:bu (fun k=>C.m.own q k\/(C.ext b cs t).x R k) P w):bu (fun k=>C.m.own q k\/C.x R k) P w:=
 h.mono fun i _ e=>by
  rcases e with e|e|e;exact .inl e;exact .inr (.inl (.inl e));exact .inr (.inr e)
theorem Oc.on{w':World}{P:World->Prop}(h:Oc C q s left ⟨some ⟨g,0,none⟩,nn,sc,ps,na,mm,nc,qs⟩ a aa w w')(hs:bu (fun k=>C.m.own q k\/C.x ⟨some ⟨g,0,none⟩,nn+1,sc,ps++[(a,aa,ac)],na,mm,nc,qs⟩ k) P w):bu (fun k=>C.m.own q k\/C.x ⟨some ⟨g,0,none⟩,nn,sc,ps,na,mm,nc,qs⟩ k) P w':=
 hs.step (h.kp.mono fun _ _ e=> .inr (.inr (.inl e))) fun _ _ e=>e
theorem Bi{v:V}(hk:∀x∈v.l,x.check=0)(h1:v.YW=0):v.check=0\/v.check=3:=by
 unfold V.check;by_cases hs:40<v.size;right;rw[ag hs]
 ·left;rw[af hs];rw[ny,ag h1];have:∀l:List V,(∀x∈l,x.check=0)->first (Zh l)=0:=by
   intro l;induction l with
   |nil=>intro _;rw[iI];rfl
   |cons x l ih=>
    intro hx;rw[gm,nX];have hf:first x.pre=0:=jX (hx x (by simp))
    rw[ag hf];exact ih fun y hy=>hx y (by simp[hy])
  exact this v.l hk
theorem Nh{a b:V}(ha:a.check=0)(hb:b.check=0):(⟨2,0,[a,b]⟩:V).check=0\/(⟨2,0,[a,b]⟩:V).check=3:=Bi (fun x hx=>by
 simp at hx;rcases hx with rfl|rfl;exact ha
 ·exact hb) (by unfold V.YW;rfl)
theorem NI{a:V}{j:Nat}(hj:j<4)(ha:a.check=0):(⟨3,j,[a]⟩:V).check=0\/(⟨3,j,[a]⟩:V).check=3:=Bi (fun x hx=>by
 simp at hx;rw[hx];exact ha) (by
 unfold V.YW;rw[show jc (⟨3,(j:Int),[a]⟩:V).kind=some 1 from rfl];simp only;rw[af (by simp),af (by simp),af (by omega)])
theorem Ic(H:Zb C q s left ⟨some ⟨g,0,none⟩,nn+1+1,sc,(ps++[(a,aa,ac)])++[(b,ba,bc)],na,mm,nc,qs⟩ w)(hn:nn<=1999)(ha:a.size<=40)(hb:b.size<=40)(hc:(⟨2,0,[a,b]⟩:V).check=0)(k n:Int):Calls prog 286 #[.pointer (some ⟨C.fb,0,none⟩),.agg #[.int .i64 8,.int .i64 k,.int .i64 n]] w fun e w'=>bU C ⟨some ⟨g,0,none⟩,nn,sc,ps,na,mm,nc,qs⟩ (okV ⟨2,0,[a,b]⟩ left s) e w':=by
 obtain⟨W,hW⟩:∃W,W=ZE w 8 k n:=⟨_,rfl⟩;have H1:=dI H 8 k n;rw[<-hW]at H1;obtain⟨i0,i1,i2⟩:=eU H1;obtain⟨s0,s1,s2,s3,s4⟩:=eF H1;have HH:=bC H H1;have HT:=hid (iJ H1 (by omega));have hS:(⟨2,0,[a,b]⟩:V).size<=500:=by
  rw[size_eq];simp only[YV,YX];omega
 have HC:=bC hS hc;clear H H1 hc hS ha hb;unfold ZE at hW;go_enter func286,ntmps286;rw[hW]at HT i0 i1 i2;go_wp2_with (go_at_call 283;refine HT.out.mono ?_;rintro e w2 ⟨rfl,h2⟩;rw[<-hW]at h2;have hq2:aA w2 (w2.alloc (.cells #[.int .i64 b.kind,.int .i64 b.n,.slice ba b.l.length bc] 71)):=Kp.alloc _ _;have h3:=h2.fs.ext hq2 w2.heap.size (aj _) (ah w2 (.cells #[.int .i64 b.kind,.int .i64 b.n,.slice ba b.l.length bc] 71)) (.inl rfl);have hs3:=qG (cs:= #[.int .i64 b.kind,.int .i64 b.n,.slice ba b.l.length bc]) (t:=71) h2.safe hq2 (aj _);have H3:=jR h3 hs3 h2.fs.xm h2.fs.abI;obtain⟨y0,y1,y2⟩:=aM (ah w2 (.cells #[.int .i64 b.kind,.int .i64 b.n,.slice ba b.l.length bc] 71));clear h2 h3 hs3 hq2);obtain⟨W3,hW3⟩:∃W3,W3=w2.alloc (.cells #[.int .i64 b.kind,.int .i64 b.n,.slice ba b.l.length bc] 71):=⟨_,rfl⟩;rw[<-hW3]at H3 y0 y1 y2|-;clear hW3;have HP:=hid (fun(w':World) (z:aA W3 w')=>dX (iJ (H3.out.1.quiet z) (by omega)) (cu H3.out.2.1 z));go_region_with (first
  |(go_at_call 291;refine(Bw ⟨2,0,[a,b]⟩ pa 2 _ H6.out.2.now HC.out.1 HC.out.2).mono ?_;rintro e w7 ⟨rfl,q7⟩;have h5:=(H6.out.1.quiet q7).unread H3.out.2.2.1 H3.out.2.2.2;have hb5:=gP h5;obtain⟨m0,m1,m2⟩:=aM hb5;obtain⟨f0,f1,f2⟩:=bI hb5;have hz:=ae hb5;clear hb5;have H5:=bC h5 (Ad (C:=C.pl w 8 k n) (b:=w2.heap.size) (cs:= #[.int .i64 b.kind,.int .i64 b.n,.slice ba b.l.length bc]) (t:=71) (cu H6.out.2 q7));clear h5 q7)
  |(go_at_call 292;refine(xM _ a b aa ba ac bc _ H4.out.1.fs.m.Z8 H4.out.1.safe H4.out.2).mono ?_;rintro e w6 ⟨pa,rfl,s6,q6⟩;have H6:=bC (H4.out.1.fs.quiet q6) s6;clear s6 q6)
  |(go_at_call 283;refine(HP.out _ (Kp.drew _)).1.mono ?_;rintro e w4 ⟨rfl,h4⟩;have sb4:=h4.on (HP.out _ (Kp.drew _)).2;obtain⟨x0,x1,x2⟩:=aM (show w4.heap[w2.heap.size]?=some (.cells #[.int .i64 b.kind,.int .i64 b.n,.slice ba b.l.length bc] 71 (0,0))from(h4.fs.st (w2.heap.size,#[.int .i64 b.kind,.int .i64 b.n,.slice ba b.l.length bc],71) (by simp[Cx.ext])).1);have H4:=bC h4 sb4;clear h4 sb4))
 all_goals
  go_wp2;refine au (v:= .agg #[.int .i64 2,.int .i64 0,.slice pa 2 2]) (by simp[results,results286,go_sem,m0,m1,m2]) rfl ?_;exact pq (o:=okV ⟨2,0,[a,b]⟩ left s) (v:=⟨2,0,[a,b]⟩) (ao:=pa) (cap:=2) HH.out.1 rfl H5.out.1 H5.out.2
theorem AZ(H:Zb C q s left ⟨some ⟨g,0,none⟩,nn+1+1,sc,(ps++[(a,aa,ac)])++[(b,ba,bc)],na,mm,nc,qs⟩ w)(hn:nn<=1999)(ha:a.size<=40)(hb:b.size<=40)(hc:(⟨2,0,[a,b]⟩:V).check=3)(k n:Int):Calls prog 286 #[.pointer (some ⟨C.fb,0,none⟩),.agg #[.int .i64 8,.int .i64 k,.int .i64 n]] w fun e w'=>bU C ⟨some ⟨g,0,none⟩,nn,sc,ps,na,mm,nc,qs⟩ (bad 3 left s) e w':=by
 obtain⟨W,hW⟩:∃W,W=ZE w 8 k n:=⟨_,rfl⟩;have H1:=dI H 8 k n;rw[<-hW]at H1;obtain⟨i0,i1,i2⟩:=eU H1;obtain⟨s0,s1,s2,s3,s4⟩:=eF H1;have HH:=bC H H1;have HT:=hid (iJ H1 (by omega));have hS:(⟨2,0,[a,b]⟩:V).size<=500:=by
  rw[size_eq];simp only[YV,YX];omega
 have HC:=bC hS hc;clear H H1 hc hS ha hb;unfold ZE at hW;go_enter func286,ntmps286;rw[hW]at HT i0 i1 i2;go_wp2_with (go_at_call 283;refine HT.out.mono ?_;rintro e w2 ⟨rfl,h2⟩;rw[<-hW]at h2;have hq2:aA w2 (w2.alloc (.cells #[.int .i64 b.kind,.int .i64 b.n,.slice ba b.l.length bc] 71)):=Kp.alloc _ _;have h3:=h2.fs.ext hq2 w2.heap.size (aj _) (ah w2 (.cells #[.int .i64 b.kind,.int .i64 b.n,.slice ba b.l.length bc] 71)) (.inl rfl);have hs3:=qG (cs:= #[.int .i64 b.kind,.int .i64 b.n,.slice ba b.l.length bc]) (t:=71) h2.safe hq2 (aj _);have H3:=jR h3 hs3 h2.fs.xm h2.fs.abI;obtain⟨y0,y1,y2⟩:=aM (ah w2 (.cells #[.int .i64 b.kind,.int .i64 b.n,.slice ba b.l.length bc] 71));clear h2 h3 hs3 hq2);obtain⟨W3,hW3⟩:∃W3,W3=w2.alloc (.cells #[.int .i64 b.kind,.int .i64 b.n,.slice ba b.l.length bc] 71):=⟨_,rfl⟩;rw[<-hW3]at H3 y0 y1 y2|-;clear hW3;have HP:=hid (fun(w':World) (z:aA W3 w')=>dX (iJ (H3.out.1.quiet z) (by omega)) (cu H3.out.2.1 z));go_region_law ((first
  |(go_simp;go_at_call 291;refine jU (.agg #[.int .i64 0,.int .i64 0,.slice none 0 0]) (Cu ⟨2,0,[a,b]⟩ pa 2 _ H6.out.2.now HC.out.1 (by rw[HC.out.2];decide)) ?_;intro w7 q7;have h5:=(H6.out.1.quiet q7).unread H3.out.2.2.1 H3.out.2.2.2;have hb5:=gP h5;obtain⟨m0,m1,m2⟩:=aM hb5;obtain⟨f0,f1,f2⟩:=bI hb5;have hz:=ae hb5;clear hb5;refine⟨?_,fun hF=> ?_⟩;exact⟨rfl,bU.Y9 rfl (by rw[HC.out.2]) (iW HH.out.1 h5.bad)⟩;have HF:=hid hF;clear hF h5 q7)
  |(go_simp;go_at_call 292;refine(xM _ a b aa ba ac bc _ H4.out.1.fs.m.Z8 H4.out.1.safe H4.out.2).mono ?_;rintro e w6 ⟨pa,rfl,s6,q6⟩;have H6:=bC (H4.out.1.fs.quiet q6) s6;clear s6 q6)
  |(go_simp;go_at_call 283;refine(HP.out _ (Kp.drew _)).1.mono ?_;rintro e w4 ⟨rfl,h4⟩;have sb4:=h4.on (HP.out _ (Kp.drew _)).2;obtain⟨x0,x1,x2⟩:=aM (show w4.heap[w2.heap.size]?=some (.cells #[.int .i64 b.kind,.int .i64 b.n,.slice ba b.l.length bc] 71 (0,0))from(h4.fs.st (w2.heap.size,#[.int .i64 b.kind,.int .i64 b.n,.slice ba b.l.length bc],71) (by simp[Cx.ext])).1);have H4:=bC h4 sb4;clear h4 sb4)))
 all_goals exact HF.out.elim
theorem De{R:Rw}(H:Zb C q s left R w)(hs:bu (fun k=>C.m.own q k\/C.x R k) (fun w=>Is w a aa) w)(hj:C.j<4)(ac:Nat):bu (fun k=>C.m.own q k\/C.x R k) (fun u=>Is u ⟨3,C.j,[a]⟩ (some ⟨w.heap.size,0,none⟩)) (w.alloc (.cells #[.int .i64 a.kind,.int .i64 a.n,.slice aa a.l.length ac] 71)):=by
 intro w' k;have hb:=ah w (.cells #[.int .i64 a.kind,.int .i64 a.n,.slice aa a.l.length ac] 71);refine VT 3 C.j (iP 3 (by decide)) (iP _ (by omega)) ((k.block _ (ae hb) fun e=> ?_).trans hb) (cu hs (Kp.alloc _ _) w' k);have:=H.m.Z8 _ e;omega
theorem Kn(H:Zb C q s left ⟨some ⟨g,0,none⟩,nn+1,sc,ps++[(a,aa,ac)],na,mm,nc,qs⟩ w)(hn:nn<=1999)(ha:a.size<=40)(hj:C.j<4)(hc:(⟨3,C.j,[a]⟩:V).check=0)(k n:Int):Calls prog 286 #[.pointer (some ⟨C.fb,0,none⟩),.agg #[.int .i64 11,.int .i64 k,.int .i64 n]] w fun e w'=>bU C ⟨some ⟨g,0,none⟩,nn,sc,ps,na,mm,nc,qs⟩ (okV ⟨3,C.j,[a]⟩ left s) e w':=by
 obtain⟨W,hW⟩:∃W,W=ZE w 11 k n:=⟨_,rfl⟩;have H1:=dI H 11 k n;rw[<-hW]at H1;obtain⟨i0,i1,i2⟩:=eU H1;obtain⟨s0,s1,s2,s3,s4⟩:=eF H1;have HH:=bC H H1;have HT:=hid (fun(w':World) (z:aA W w')=>iJ (H1.quiet z) (by omega));have hS:(⟨3,C.j,[a]⟩:V).size<=500:=by
  rw[size_eq];simp only[YV,YX];omega
 have HC:=gp hS hc hj;clear H H1 hc hS ha hj;unfold ZE at hW;go_enter func286,ntmps286;go_wp2;rw[<-hW];clear hW;go_region_with (first
  |(go_at_call 291;refine(Bw ⟨3,C.j,[a]⟩ (some ⟨w2.heap.size,0,none⟩) 1 _ H2.out.2.now HC.out.1 HC.out.2.1).mono ?_;rintro e w7 ⟨rfl,q7⟩;have h5:=H2.out.1.quiet q7;have hb5:=gP h5;obtain⟨m0,m1,m2⟩:=aM hb5;obtain⟨f0,f1,f2⟩:=bI hb5;have hz:=ae hb5;clear hb5;have H5:=bC h5 (cu H2.out.2 q7);clear h5 q7)
  |(go_at_call 283;refine(HT.out _ (Kp.drew _)).mono ?_;rintro e w2 ⟨rfl,h2⟩;have d1:=(eF h2.fs).2.1;have hq2:aA w2 (w2.alloc (.cells #[.int .i64 a.kind,.int .i64 a.n,.slice aa a.l.length ac] 71)):=Kp.alloc _ _;have d2:=dZ d1 (.cells #[.int .i64 a.kind,.int .i64 a.n,.slice aa a.l.length ac] 71);have H2:=bC (h2.fs.quiet hq2) (De (C:=C.pl w 11 k n) h2.fs h2.safe HC.out.2.2 ac);clear h2 hq2))
 all_goals
  go_wp2;refine au (v:= .agg #[.int .i64 3,.int .i64 C.j,.slice (some ⟨w2.heap.size,0,none⟩) 1 1]) (by simp[results,results286,go_sem,m0,m1,m2]) rfl ?_;exact pq (o:=okV ⟨3,C.j,[a]⟩ left s) (v:=⟨3,C.j,[a]⟩) (ao:=some ⟨w2.heap.size,0,none⟩) (cap:=1) HH.out.1 rfl H5.out.1 H5.out.2
theorem zK(H:Zb C q s left ⟨some ⟨g,0,none⟩,nn+1,sc,ps++[(a,aa,ac)],na,mm,nc,qs⟩ w)(hn:nn<=1999)(ha:a.size<=40)(hj:C.j<4)(hc:(⟨3,C.j,[a]⟩:V).check=3)(k n:Int):Calls prog 286 #[.pointer (some ⟨C.fb,0,none⟩),.agg #[.int .i64 11,.int .i64 k,.int .i64 n]] w fun e w'=>bU C ⟨some ⟨g,0,none⟩,nn,sc,ps,na,mm,nc,qs⟩ (bad 3 left s) e w':=by
 obtain⟨W,hW⟩:∃W,W=ZE w 11 k n:=⟨_,rfl⟩;have H1:=dI H 11 k n;rw[<-hW]at H1;obtain⟨i0,i1,i2⟩:=eU H1;obtain⟨s0,s1,s2,s3,s4⟩:=eF H1;have HH:=bC H H1;have HT:=hid (fun(w':World) (z:aA W w')=>iJ (H1.quiet z) (by omega));have hS:(⟨3,C.j,[a]⟩:V).size<=500:=by
  rw[size_eq];simp only[YV,YX];omega
 have HC:=gp hS hc hj;clear H H1 hc hS ha hj;unfold ZE at hW;go_enter func286,ntmps286;go_wp2;rw[<-hW];clear hW;go_region_law ((first
  |(go_simp;go_at_call 291;refine jU (.agg #[.int .i64 0,.int .i64 0,.slice none 0 0]) (Cu ⟨3,C.j,[a]⟩ (some ⟨w2.heap.size,0,none⟩) 1 _ H2.out.2.now HC.out.1 (by rw[HC.out.2.1];decide)) ?_;intro w7 q7;have h5:=H2.out.1.quiet q7;have hb5:=gP h5;obtain⟨m0,m1,m2⟩:=aM hb5;obtain⟨f0,f1,f2⟩:=bI hb5;have hz:=ae hb5;clear hb5;refine⟨?_,fun hF=> ?_⟩;exact⟨rfl,bU.Y9 rfl (by rw[HC.out.2.1]) (iW HH.out.1 h5.bad)⟩;have HF:=hid hF;clear hF h5 q7)
  |(go_simp;go_at_call 283;refine(HT.out _ (Kp.drew _)).mono ?_;rintro e w2 ⟨rfl,h2⟩;have d1:=(eF h2.fs).2.1;have hq2:aA w2 (w2.alloc (.cells #[.int .i64 a.kind,.int .i64 a.n,.slice aa a.l.length ac] 71)):=Kp.alloc _ _;have d2:=dZ d1 (.cells #[.int .i64 a.kind,.int .i64 a.n,.slice aa a.l.length ac] 71);have H2:=bC (h2.fs.quiet hq2) (De (C:=C.pl w 11 k n) h2.fs h2.safe HC.out.2.2 ac);clear h2 hq2)))
 all_goals exact HF.out.elim
end
