/- Parts. -/
import Derived.Test.YtpeakfcbihoknaaGreatDoorUM1
import Derived.Test.YtpeakfcbihoknaaGreatDoorUVmReadBad
import Derived.Test.YtpeakfcbihoknaaGreatDoorUVmWriteBad
import Derived.Test.YtpeakfcbihoknaaGreatDoorUVmAcross
open Go.ChangeShapes Go.WideShapes Go.ChangeAt Go.RowKit
set_option maxRecDepth 8000
set_option maxHeartbeats 4000000
namespace Go.Proofs.YtpeakfcbihoknaaGreatDoor
open Proofs.Tryz
open Gr (Nd ZH nd0 YT aS dJ bJ dV bS Y0 bN eX YS Wf jg GS fJ)
section
variable{C:Cx}{q:Vs}{s:Sg}{left:Nat}{w:World}{g nn sc mm nc:Nat}{ps qs:List Kd}{a b:V}{aa ba na:Option Addr}{ac bc:Nat}
theorem SC{C:Cx}{R:Rw}{v x:V}{va:Option Addr}(h:O7 C q s left R v va w)(hi:0<v.l.length)(hx:v.l[0]=x):∃bb oo ca cc,va=some ⟨bb,oo,none⟩/\w.cell? ⟨bb,oo,none⟩=some (.int .i64 x.kind)/\w.cell? ⟨bb,oo+1,none⟩=some (.int .i64 x.n)/\w.cell? ⟨bb,oo+2,none⟩=some (.slice ca x.l.length cc)/\bu (fun k=>C.m.own q k\/C.x R k) (fun w=>Is w x ca) w:=by
 obtain⟨bb,oo,ca,cc,e,_,⟨⟨k0,k1⟩,k2⟩,hk⟩:=h.safe.kid 0 hi;rw[hx]at k0 k1 k2 hk;exact⟨bb,oo,ca,cc,e,k0,k1,k2,hk⟩
theorem RA{C:Cx}{R:Rw}{v x:V}{va:Option Addr}(h:O7 C q s left R v va w)(hi:1<v.l.length)(hx:v.l[1]=x):∃bb oo ca cc,va=some ⟨bb,oo,none⟩/\w.cell? ⟨bb,oo+3,none⟩=some (.int .i64 x.kind)/\w.cell? ⟨bb,oo+3+1,none⟩=some (.int .i64 x.n)/\w.cell? ⟨bb,oo+3+2,none⟩=some (.slice ca x.l.length cc)/\bu (fun k=>C.m.own q k\/C.x R k) (fun w=>Is w x ca) w:=by
 obtain⟨bb,oo,ca,cc,e,_,⟨⟨k0,k1⟩,k2⟩,hk⟩:=h.safe.kid 1 hi;rw[hx]at k0 k1 k2 hk;exact⟨bb,oo,ca,cc,e,k0,k1,k2,hk⟩
theorem Ep(H:Zb C q s left ⟨some ⟨g,0,none⟩,nn+1,sc,ps++[(a,aa,ac)],na,mm,nc,qs⟩ w)(hn:nn<=1999)(hk:a.kind≠2)(k n:Int):Calls prog 286 #[.pointer (some ⟨C.fb,0,none⟩),.agg #[.int .i64 9,.int .i64 k,.int .i64 n]] w fun e w'=>bU C ⟨some ⟨g,0,none⟩,nn,sc,ps,na,mm,nc,qs⟩ (bad 2 left s) e w':=by
 have H1:=dI H 9 k n;obtain⟨i0,i1,i2⟩:=eU H1;have HH:=bC H H1;have HT:=hid (qJ 2 H1 (by omega) hk);unfold ZE at i0 i1 i2 HT;clear H H1 hk;go_enter func286,ntmps286;go_wp2_with (go_at_call 288;refine HT.out.mono ?_;rintro e w2 ⟨rfl,h2⟩);exact⟨rfl,bU.Y9 rfl rfl (iW HH.out.1 h2)⟩
theorem DU(H:Zb C q s left ⟨some ⟨g,0,none⟩,nn+1,sc,ps++[(a,aa,ac)],na,mm,nc,qs⟩ w)(hn:nn<=1999)(hk:a.kind≠2)(k n:Int):Calls prog 286 #[.pointer (some ⟨C.fb,0,none⟩),.agg #[.int .i64 10,.int .i64 k,.int .i64 n]] w fun e w'=>bU C ⟨some ⟨g,0,none⟩,nn,sc,ps,na,mm,nc,qs⟩ (bad 2 left s) e w':=by
 have H1:=dI H 10 k n;obtain⟨i0,i1,i2⟩:=eU H1;have HH:=bC H H1;have HT:=hid (qJ 2 H1 (by omega) hk);unfold ZE at i0 i1 i2 HT;clear H H1 hk;go_enter func286,ntmps286;go_wp2_with (go_at_call 288;refine HT.out.mono ?_;rintro e w2 ⟨rfl,h2⟩);exact⟨rfl,bU.Y9 rfl rfl (iW HH.out.1 h2)⟩
theorem BI(H:Zb C q s left ⟨some ⟨g,0,none⟩,nn+1,sc,ps++[(a,aa,ac)],na,mm,nc,qs⟩ w)(hn:nn<=1999)(hk:a.kind≠3)(k n:Int):Calls prog 286 #[.pointer (some ⟨C.fb,0,none⟩),.agg #[.int .i64 12,.int .i64 k,.int .i64 n]] w fun e w'=>bU C ⟨some ⟨g,0,none⟩,nn,sc,ps,na,mm,nc,qs⟩ (bad 2 left s) e w':=by
 have H1:=dI H 12 k n;obtain⟨i0,i1,i2⟩:=eU H1;have HH:=bC H H1;have HT:=hid (qJ 3 H1 (by omega) hk);unfold ZE at i0 i1 i2 HT;clear H H1 hk;go_enter func286,ntmps286;go_wp2_with (go_at_call 288;refine HT.out.mono ?_;rintro e w2 ⟨rfl,h2⟩);exact⟨rfl,bU.Y9 rfl rfl (iW HH.out.1 h2)⟩
theorem J7(H:Zb C q s left ⟨some ⟨g,0,none⟩,nn+1,sc,ps++[(a,aa,ac)],na,mm,nc,qs⟩ w)(hn:nn<=1999)(hj:C.j<4)(hc:a.check=0)(hS:a.size<=500)(k n:Int):Calls prog 286 #[.pointer (some ⟨C.fb,0,none⟩),.agg #[.int .i64 20,.int .i64 k,.int .i64 n]] w fun e w'=>bU C ⟨some ⟨g,0,none⟩,nn,sc,ps,na,mm,nc,qs⟩ (okV (s.ks.getD C.j v0) left {s with ks:=s.ks.set C.j a}) e w':=by
 have H1:=dI H 20 k n;obtain⟨i0,i1,i2⟩:=eU H1;have HH:=bC H H1;have HT:=hid (iJ H1 (by omega));generalize hy:s.ks.getD C.j v0=y;have HKP:=hid (fun(w2:World) (h:O7 (C.pl w 20 k n) q s left ⟨some ⟨g,0,none⟩,nn,sc,ps,na,mm,nc,qs⟩ a aa w2)=>(show Calls prog 301 #[.pointer (some ⟨C.fb,0,none⟩),.agg #[.int .i64 a.kind,.int .i64 a.n,.slice aa a.l.length ac]] w2 fun e w'=>MQ C.m ((C.pl w 20 k n).x ⟨some ⟨g,0,none⟩,nn,sc,ps,na,mm,nc,qs⟩) q C.fr (okV y left {s with ks:=s.ks.set C.j a}) w2 e w' by rw[<-hy];exact NL h.fs hj a aa ac h.safe hc hS));unfold ZE at i0 i1 i2 HT;clear H H1 hj hc hS hy;go_enter func286,ntmps286;go_wp2_with (first
  |(go_at_call 301;refine(HKP.out _ H2.out.toO7).mono ?_;rintro e w5 x5;obtain⟨q5,a5,c5,rfl,g5,m5,s5⟩:=x5.ok rfl;have h5:=H2.out.fs.abq g5 m5;have hb5:=gP h5;obtain⟨m0,m1,m2⟩:=aM hb5;obtain⟨f0,f1,f2⟩:=bI hb5;have hz:=ae hb5;clear hb5;have H5:=bC h5 s5;clear h5 g5 m5 s5 x5)
  |(go_at_call 283;refine HT.out.mono ?_;rintro e w2 ⟨rfl,h2⟩;have H2:=hid h2;clear h2))
 refine au (v:= .agg #[.int .i64 y.kind,.int .i64 y.n,.slice a5 y.l.length c5]) (by simp[results,results286,go_sem,m0,m1,m2]) rfl ?_;exact pq (o:=okV y left {s with ks:=s.ks.set C.j a}) HH.out.1 rfl H5.out.1 H5.out.2
theorem M9(H:Zb C q s left ⟨some ⟨g,0,none⟩,nn+1,sc,ps++[(a,aa,ac)],na,mm,nc,qs⟩ w)(hn:nn<=1999)(hk:a.kind=2)(hl:0<a.l.length)(k n:Int):Calls prog 286 #[.pointer (some ⟨C.fb,0,none⟩),.agg #[.int .i64 9,.int .i64 k,.int .i64 n]] w fun e w'=>bU C ⟨some ⟨g,0,none⟩,nn,sc,ps,na,mm,nc,qs⟩ (okV a.l[0] left s) e w':=by
 have H1:=dI H 9 k n;obtain⟨i0,i1,i2⟩:=eU H1;have HH:=bC H H1;have HT:=hid (mF 2 H1 (by omega) hk);have hl0:(0:Int)<a.l.length:=by omega
 have hfd:=Rp;have HL:=hid hl;unfold ZE at i0 i1 i2 HT;generalize hx:a.l[0]=x;have HX:=hid hx;clear H H1 hk hx;go_enter func286,ntmps286;go_wp2_with (go_at_call 288;refine HT.out.mono ?_;rintro e w2 ⟨rfl,h2⟩;obtain⟨bb,oo,ca,cc,e3,k0,k1,k2,hk2⟩:=SC h2.toO7 HL.out HX.out;subst e3;have h5:=h2.fs;have hb5:=gP h5;obtain⟨m0,m1,m2⟩:=aM hb5;obtain⟨f0,f1,f2⟩:=bI hb5;have hz:=ae hb5;clear hb5;have H5:=bC h5 hk2;clear h5 hk2 h2);refine au (v:= .agg #[.int .i64 x.kind,.int .i64 x.n,.slice ca x.l.length cc]) (by simp[results,results286,go_sem,m0,m1,m2]) rfl ?_;exact pq (o:=okV x left s) HH.out.1 rfl H5.out.1 H5.out.2
theorem MF(H:Zb C q s left ⟨some ⟨g,0,none⟩,nn+1,sc,ps++[(a,aa,ac)],na,mm,nc,qs⟩ w)(hn:nn<=1999)(hk:a.kind=2)(hl:1<a.l.length)(k n:Int):Calls prog 286 #[.pointer (some ⟨C.fb,0,none⟩),.agg #[.int .i64 10,.int .i64 k,.int .i64 n]] w fun e w'=>bU C ⟨some ⟨g,0,none⟩,nn,sc,ps,na,mm,nc,qs⟩ (okV a.l[1] left s) e w':=by
 have H1:=dI H 10 k n;obtain⟨i0,i1,i2⟩:=eU H1;have HH:=bC H H1;have HT:=hid (mF 2 H1 (by omega) hk);have hl0:(1:Int)<a.l.length:=by omega
 have hfd:=Rp;have HL:=hid hl;unfold ZE at i0 i1 i2 HT;generalize hx:a.l[1]=x;have HX:=hid hx;clear H H1 hk hx;go_enter func286,ntmps286;go_wp2_with (go_at_call 288;refine HT.out.mono ?_;rintro e w2 ⟨rfl,h2⟩;obtain⟨bb,oo,ca,cc,e3,k0,k1,k2,hk2⟩:=RA h2.toO7 HL.out HX.out;subst e3;have h5:=h2.fs;have hb5:=gP h5;obtain⟨m0,m1,m2⟩:=aM hb5;obtain⟨f0,f1,f2⟩:=bI hb5;have hz:=ae hb5;clear hb5;have H5:=bC h5 hk2;clear h5 hk2 h2);refine au (v:= .agg #[.int .i64 x.kind,.int .i64 x.n,.slice ca x.l.length cc]) (by simp[results,results286,go_sem,m0,m1,m2]) rfl ?_;exact pq (o:=okV x left s) HH.out.1 rfl H5.out.1 H5.out.2
theorem Ir(H:Zb C q s left ⟨some ⟨g,0,none⟩,nn+1,sc,ps++[(a,aa,ac)],na,mm,nc,qs⟩ w)(hn:nn<=1999)(hk:a.kind=3)(hl:0<a.l.length)(hj:a.n=C.j)(k n:Int):Calls prog 286 #[.pointer (some ⟨C.fb,0,none⟩),.agg #[.int .i64 12,.int .i64 k,.int .i64 n]] w fun e w'=>bU C ⟨some ⟨g,0,none⟩,nn,sc,ps,na,mm,nc,qs⟩ (okV a.l[0] left s) e w':=by
 have H1:=dI H 12 k n;obtain⟨i0,i1,i2⟩:=eU H1;have HH:=bC H H1;have HT:=hid (mF 3 H1 (by omega) hk);have HJ:=bC hl hj;unfold ZE at i0 i1 i2 HT;generalize hx:a.l[0]=x;have HX:=hid hx;clear H H1 hk hx hj;go_enter func286,ntmps286;go_wp2_with (first
  |(go_at_call 293;refine(BZ _ H2.out.fs a aa ac HJ.out.2 HJ.out.1 H2.out.safe).mono ?_;rintro e w5 ⟨ca,cc,rfl,s5,q5⟩;rw[HX.out]at s5|-;have h5:=H2.out.fs.quiet q5;have hb5:=gP h5;obtain⟨m0,m1,m2⟩:=aM hb5;obtain⟨f0,f1,f2⟩:=bI hb5;have hz:=ae hb5;clear hb5;have H5:=bC h5 s5;clear h5 s5)
  |(go_at_call 288;refine HT.out.mono ?_;rintro e w2 ⟨rfl,h2⟩;have H2:=hid h2;clear h2))
 refine au (v:= .agg #[.int .i64 x.kind,.int .i64 x.n,.slice ca x.l.length cc]) (by simp[results,results286,go_sem,m0,m1,m2]) rfl ?_;exact pq (o:=okV x left s) HH.out.1 rfl H5.out.1 H5.out.2
theorem Ar(H:Zb C q s left ⟨some ⟨g,0,none⟩,nn+1,sc,ps++[(a,aa,ac)],na,mm,nc,qs⟩ w)(hn:nn<=1999)(hk:a.kind=3)(hj:a.n≠C.j)(k n:Int):Calls prog 286 #[.pointer (some ⟨C.fb,0,none⟩),.agg #[.int .i64 12,.int .i64 k,.int .i64 n]] w fun e w'=>bU C ⟨some ⟨g,0,none⟩,nn,sc,ps,na,mm,nc,qs⟩ (bad 10 left s) e w':=by
 have H1:=dI H 12 k n;obtain⟨i0,i1,i2⟩:=eU H1;have HH:=bC H H1;have HT:=hid (mF 3 H1 (by omega) hk);have HJ:=hid hj;unfold ZE at i0 i1 i2 HT;clear H H1 hk hj;go_enter func286,ntmps286;go_wp2_with (first
  |(go_at_call 293;refine(Es H2.out.fs a aa ac HJ.out).mono ?_;rintro e w5 ⟨rfl,q5⟩)
  |(go_at_call 288;refine HT.out.mono ?_;rintro e w2 ⟨rfl,h2⟩;have H2:=hid h2;clear h2))
 exact⟨rfl,bU.Y9 rfl rfl (iW HH.out.1 (H2.out.fs.bad.quiet q5))⟩
theorem BK(H:Zb C q s left ⟨some ⟨g,0,none⟩,nn+1,sc,ps++[(a,aa,ac)],na,mm,nc,qs⟩ w)(hn:nn<=1999)(hk:a.kind≠4)(k n:Int):Calls prog 286 #[.pointer (some ⟨C.fb,0,none⟩),.agg #[.int .i64 13,.int .i64 k,.int .i64 n]] w fun e w'=>bU C ⟨some ⟨g,0,none⟩,nn,sc,ps,na,mm,nc,qs⟩ (bad 2 left s) e w':=by
 have H1:=dI H 13 k n;obtain⟨i0,i1,i2⟩:=eU H1;have HH:=bC H H1;have HT:=hid (nA H1 (by omega) hk);unfold ZE at i0 i1 i2 HT;clear H H1 hk;go_enter func286,ntmps286;go_wp2_with (go_at_call 295;refine HT.out.mono ?_;rintro e w2 ⟨rfl,h2⟩);exact⟨rfl,bU.Y9 rfl rfl (iW HH.out.1 h2)⟩
theorem AQ(H:Zb C q s left ⟨some ⟨g,0,none⟩,nn+1,sc,ps++[(a,aa,ac)],na,mm,nc,qs⟩ w)(hn:nn<=1999)(hk:a.kind=4){c:Int}(hc:iG s (iw a.n) 0= .error c)(k n:Int):Calls prog 286 #[.pointer (some ⟨C.fb,0,none⟩),.agg #[.int .i64 13,.int .i64 k,.int .i64 n]] w fun e w'=>bU C ⟨some ⟨g,0,none⟩,nn,sc,ps,na,mm,nc,qs⟩ (bad c left s) e w':=by
 have H1:=dI H 13 k n;obtain⟨i0,i1,i2⟩:=eU H1;have HH:=bC H H1;have HT:=hid (il H1 (by omega) hk);have HC:=hid hc;unfold ZE at i0 i1 i2 HT;clear H H1 hk hc;go_enter func286,ntmps286;go_wp2_with (first
  |(go_at_call 294;refine(LZ H2.out.fs a.n c HC.out).mono ?_;rintro e w5 x5;obtain⟨rfl,q5,c5,g5,m5⟩:=x5.bad rfl;have H5:=bC g5 m5;clear x5 g5 m5)
  |(go_at_call 295;refine HT.out.mono ?_;rintro e w2 ⟨rfl,h2⟩;have H2:=hid h2;clear h2))
 exact⟨rfl,bU.Y9 rfl rfl (iW HH.out.1 (H2.out.fs.acr H5.out.1 H5.out.2))⟩
theorem Jo(H:Zb C q s left ⟨some ⟨g,0,none⟩,nn+1,sc,ps++[(a,aa,ac)],na,mm,nc,qs⟩ w)(hn:nn<=1999)(hk:a.kind=4){c:Int}(hes:s.es.length<=1000000)(hc:iG s (iw a.n) 0= .ok c)(k n:Int):Calls prog 286 #[.pointer (some ⟨C.fb,0,none⟩),.agg #[.int .i64 13,.int .i64 k,.int .i64 n]] w fun e w'=>bU C ⟨some ⟨g,0,none⟩,nn,sc,ps,na,mm,nc,qs⟩ (okV (iX (s.cs.getD c.toNat 0)) left {s with es:=s.es++[⟨C.j,c,1,a.n⟩]}) e w':=by
 have H1:=dI H 13 k n;obtain⟨i0,i1,i2⟩:=eU H1;have HH:=bC H H1;have HT:=hid (il H1 (by omega) hk);generalize hy:s.cs.getD c.toNat 0=y;have HRD:=hid (fun(w2:World) (h:O7 (C.pl w 13 k n) q s left ⟨some ⟨g,0,none⟩,nn,sc,ps,na,mm,nc,qs⟩ a aa w2)=>(show Calls prog 294 #[.pointer (some ⟨C.fb,0,none⟩),.int .i64 a.n] w2 fun e w'=>MQ C.m ((C.pl w 13 k n).x ⟨some ⟨g,0,none⟩,nn,sc,ps,na,mm,nc,qs⟩) q C.fr (okV (iX y) left {s with es:=s.es++[⟨C.j,c,1,a.n⟩]}) w2 e w' by rw[<-hy];exact PH h.fs a.n c hes hc));unfold ZE at i0 i1 i2 HT;clear H H1 hk hc hes hy;go_enter func286,ntmps286;go_wp2_with (first
  |(go_at_call 294;refine(HRD.out _ H2.out.toO7).mono ?_;rintro e w5 x5;obtain⟨q5,a5,c5,rfl,g5,m5,s5⟩:=x5.ok rfl;have h5:=H2.out.fs.abq g5 m5;have hb5:=gP h5;obtain⟨m0,m1,m2⟩:=aM hb5;obtain⟨f0,f1,f2⟩:=bI hb5;have hz:=ae hb5;clear hb5;have H5:=bC h5 s5;clear h5 g5 m5 s5 x5)
  |(go_at_call 295;refine HT.out.mono ?_;rintro e w2 ⟨rfl,h2⟩;have H2:=hid h2;clear h2))
 refine au (v:= .agg #[.int .i64 (iX y).kind,.int .i64 (iX y).n,.slice a5 (iX y).l.length c5]) (by simp[results,results286,go_sem,m0,m1,m2]) rfl ?_;exact pq (o:=okV (iX y) left {s with es:=s.es++[⟨C.j,c,1,a.n⟩]}) HH.out.1 rfl H5.out.1 H5.out.2
theorem zf(H:Zb C q s left ⟨some ⟨g,0,none⟩,nn+1+1,sc,(ps++[(a,aa,ac)])++[(b,ba,bc)],na,mm,nc,qs⟩ w)(hn:nn<=1999)(hk:b.kind≠1)(k n:Int):Calls prog 286 #[.pointer (some ⟨C.fb,0,none⟩),.agg #[.int .i64 14,.int .i64 k,.int .i64 n]] w fun e w'=>bU C ⟨some ⟨g,0,none⟩,nn,sc,ps,na,mm,nc,qs⟩ (bad 2 left s) e w':=by
 have H1:=dI H 14 k n;obtain⟨i0,i1,i2⟩:=eU H1;have HH:=bC H H1;have HT:=hid (pM H1 (by omega) hk);unfold ZE at i0 i1 i2 HT;clear H H1 hk;go_enter func286,ntmps286;go_wp2_with (go_at_call 284;refine HT.out.mono ?_;rintro e w2 ⟨rfl,h2⟩);exact⟨rfl,bU.Y9 rfl rfl (iW HH.out.1 h2)⟩
theorem zg(H:Zb C q s left ⟨some ⟨g,0,none⟩,nn+1+1,sc,(ps++[(a,aa,ac)])++[(b,ba,bc)],na,mm,nc,qs⟩ w)(hn:nn<=1999)(hk:b.kind=1)(hk1:a.kind≠4)(k n:Int):Calls prog 286 #[.pointer (some ⟨C.fb,0,none⟩),.agg #[.int .i64 14,.int .i64 k,.int .i64 n]] w fun e w'=>bU C ⟨some ⟨g,0,none⟩,nn,sc,ps,na,mm,nc,qs⟩ (bad 2 left s) e w':=by
 have H1:=dI H 14 k n;obtain⟨i0,i1,i2⟩:=eU H1;have HH:=bC H H1;have HT:=hid (jA H1 (by omega) hk);have HK:=hid hk1;unfold ZE at i0 i1 i2 HT;clear H H1 hk hk1;go_enter func286,ntmps286;go_wp2_with (first
  |(go_at_call 295;refine(nA H2.out.fs (by omega) HK.out).mono ?_;rintro e w3 ⟨rfl,h3⟩)
  |(go_at_call 284;refine HT.out.mono ?_;rintro e w2 ⟨rfl,h2⟩;have H2:=hid h2;clear h2))
 exact⟨rfl,bU.Y9 rfl rfl (iW HH.out.1 h3)⟩
theorem zh(H:Zb C q s left ⟨some ⟨g,0,none⟩,nn+1+1,sc,(ps++[(a,aa,ac)])++[(b,ba,bc)],na,mm,nc,qs⟩ w)(hn:nn<=1999)(hk:b.kind=1)(hk1:a.kind=4){c:Int}(hc:iG s (iw a.n) 1= .error c)(k n:Int):Calls prog 286 #[.pointer (some ⟨C.fb,0,none⟩),.agg #[.int .i64 14,.int .i64 k,.int .i64 n]] w fun e w'=>bU C ⟨some ⟨g,0,none⟩,nn,sc,ps,na,mm,nc,qs⟩ (bad c left s) e w':=by
 have H1:=dI H 14 k n;obtain⟨i0,i1,i2⟩:=eU H1;have HH:=bC H H1;have HT:=hid (jA H1 (by omega) hk);have HK:=bC hk1 hc;unfold ZE at i0 i1 i2 HT;clear H H1 hk hk1 hc;go_enter func286,ntmps286;go_wp2_with (first
  |(go_at_call 296;refine(IY H3.out.fs a.n b.n c HK.out.2).mono ?_;rintro e w5 x5;obtain⟨rfl,q5,c5,g5,m5⟩:=x5.bad rfl;have H5:=bC g5 m5;clear x5 g5 m5)
  |(go_at_call 295;refine(il H2.out.fs (by omega) HK.out.1).mono ?_;rintro e w3 ⟨rfl,h3⟩;have H3:=hid h3;clear h3)
  |(go_at_call 284;refine HT.out.mono ?_;rintro e w2 ⟨rfl,h2⟩;have H2:=hid h2;clear h2))
 exact⟨rfl,bU.Y9 rfl rfl (iW HH.out.1 (H3.out.fs.acr H5.out.1 H5.out.2))⟩
theorem GM(H:Zb C q s left ⟨some ⟨g,0,none⟩,nn+1+1,sc,(ps++[(a,aa,ac)])++[(b,ba,bc)],na,mm,nc,qs⟩ w)(hn:nn<=1999)(hk:b.kind=1)(hk1:a.kind=4){c:Int}(hes:s.es.length<=1000000)(hb:dH b.n)(hc:iG s (iw a.n) 1= .ok c)(k n:Int):Calls prog 286 #[.pointer (some ⟨C.fb,0,none⟩),.agg #[.int .i64 14,.int .i64 k,.int .i64 n]] w fun e w'=>bU C ⟨some ⟨g,0,none⟩,nn,sc,ps,na,mm,nc,qs⟩ (okV (iX b.n) left {s with cs:=s.cs.set c.toNat b.n,es:=s.es++[⟨C.j,c,2,a.n⟩]}) e w':=by
 have H1:=dI H 14 k n;obtain⟨i0,i1,i2⟩:=eU H1;have HH:=bC H H1;have HT:=hid (jA H1 (by omega) hk);have HK:=jR hk1 hc hes hb;unfold ZE at i0 i1 i2 HT;clear H H1 hk hk1 hc hes hb;go_enter func286,ntmps286;go_wp2_with (first
  |(go_at_call 296;refine(LH H3.out.fs a.n b.n c HK.out.2.2.1 HK.out.2.2.2 HK.out.2.1).mono ?_;rintro e w5 x5;obtain⟨q5,a5,c5,rfl,g5,m5,s5⟩:=x5.ok rfl;have h5:=H3.out.fs.abq g5 m5;have hb5:=gP h5;obtain⟨m0,m1,m2⟩:=aM hb5;obtain⟨f0,f1,f2⟩:=bI hb5;have hz:=ae hb5;clear hb5;have H5:=bC h5 s5;clear h5 g5 m5 s5 x5)
  |(go_at_call 295;refine(il H2.out.fs (by omega) HK.out.1).mono ?_;rintro e w3 ⟨rfl,h3⟩;have H3:=hid h3;clear h3)
  |(go_at_call 284;refine HT.out.mono ?_;rintro e w2 ⟨rfl,h2⟩;have H2:=hid h2;clear h2))
 refine au (v:= .agg #[.int .i64 (iX b.n).kind,.int .i64 (iX b.n).n,.slice a5 (iX b.n).l.length c5]) (by simp[results,results286,go_sem,m0,m1,m2]) rfl ?_;exact pq (o:=okV (iX b.n) left {s with cs:=s.cs.set c.toNat b.n,es:=s.es++[⟨C.j,c,2,a.n⟩]}) HH.out.1 rfl H5.out.1 H5.out.2
end
section
variable{C:Cx}{q:Vs}{s:Sg}{left:Nat}{w:World}
theorem jU{P:Program}{f:FuncId}{args:Array Value}{w:World}{T:Ending->World->Prop}{c:List PanicEntry}{S:World->Prop}(d:Value)(h:Calls P f args w fun e w'=>e= .panicked c/\S w')(k:∀w',S w'->T (.panicked c) w'/\(False->T (.returned d) w')):Calls P f args w T:=
 h.mono fun _ w' hx=>hx.1▸(k w' hx.2).1
theorem eF{R:Rw}{w5:World}{op k n:Int}(H:Zb (C.pl w op k n) q s left R w5):w5.cell? ⟨C.fb,0,none⟩=some (.pointer (some ⟨C.m.mb,0,none⟩))/\w5.cell? ⟨C.fb,1,none⟩=some (.int .i64 C.j)/\w5.cell? ⟨C.m.mb,0,none⟩=some (.pointer (some ⟨C.m.bb,0,none⟩))/\w5.cell? ⟨C.m.bb,0,none⟩=some (.pointer (some ⟨C.m.g,0,none⟩))/\w5.cell? ⟨C.m.bb,1,none⟩=some (.pointer (some ⟨C.m.wd,0,none⟩)):=ja (C:=C.pl w op k n) H (mK (C:=C.pl w op k n) H (Kp.refl _ _))
end
section
variable{C:Cx}{q:Vs}{s:Sg}{left:Nat}{w:World}{g nn sc mm nc:Nat}{ps qs:List Kd}{a b:V}{aa ba na:Option Addr}{ac bc:Nat}
theorem Cf(H:Zb C q s left ⟨some ⟨g,0,none⟩,nn+1+1,sc,(ps++[(a,aa,ac)])++[(b,ba,bc)],na,mm,nc,qs⟩ w)(hn:nn<=1999)(hk:b.kind≠1)(k n:Int):Calls prog 286 #[.pointer (some ⟨C.fb,0,none⟩),.agg #[.int .i64 6,.int .i64 k,.int .i64 n]] w fun e w'=>bU C ⟨some ⟨g,0,none⟩,nn,sc,ps,na,mm,nc,qs⟩ (bad 2 left s) e w':=by
 obtain⟨W,hW⟩:∃W,W=ZE w 6 k n:=⟨_,rfl⟩;have H1:=dI H 6 k n;rw[<-hW]at H1;obtain⟨i0,i1,i2⟩:=eU H1;obtain⟨s0,s1,s2,s3,s4⟩:=eF H1;have HH:=bC H H1;have HT:=hid (pM H1 (by omega) hk);clear H H1 hk;unfold ZE at hW;go_enter func286,ntmps286;rw[hW]at HT i0 i1 i2;go_wp2_with (go_at_call 284;refine HT.out.mono ?_;rintro e w2 ⟨rfl,h2⟩);exact⟨rfl,bU.Y9 rfl rfl (iW HH.out.1 h2)⟩
theorem Ce(H:Zb C q s left ⟨some ⟨g,0,none⟩,nn+1+1,sc,(ps++[(a,aa,ac)])++[(b,ba,bc)],na,mm,nc,qs⟩ w)(hn:nn<=1999)(hk:b.kind=1)(hk1:a.kind≠1)(k n:Int):Calls prog 286 #[.pointer (some ⟨C.fb,0,none⟩),.agg #[.int .i64 6,.int .i64 k,.int .i64 n]] w fun e w'=>bU C ⟨some ⟨g,0,none⟩,nn,sc,ps,na,mm,nc,qs⟩ (bad 2 left s) e w':=by
 obtain⟨W,hW⟩:∃W,W=ZE w 6 k n:=⟨_,rfl⟩;have H1:=dI H 6 k n;rw[<-hW]at H1;obtain⟨i0,i1,i2⟩:=eU H1;obtain⟨s0,s1,s2,s3,s4⟩:=eF H1;have HH:=bC H H1;have HT:=hid (jA H1 (by omega) hk);have HT2:=hid (fun(w':World) (h:Zb (C.pl w 6 k n) q s left ⟨some ⟨g,0,none⟩,nn+1,sc,ps++[(a,aa,ac)],na,mm,nc,qs⟩ w')=>pM h (by omega) hk1);clear H H1 hk hk1;unfold ZE at hW;go_enter func286,ntmps286;rw[hW]at HT i0 i1 i2;go_wp2_with (go_at_call 284;refine HT.out.mono ?_;rintro e w2 ⟨rfl,h2⟩;obtain⟨j0,j1,j2⟩:=eU h2.fs;have H2:=hid h2;clear h2);go_region_dies;all_goals(refine(HT2.out _ (H2.out.fs.quiet (Kp.drew _))).mono ?_;rintro e w3 ⟨rfl,h3⟩;exact⟨rfl,bU.Y9 rfl rfl (iW HH.out.1 h3)⟩)
theorem Sb(k a b:Int):dH (nP k a b):=by
 have hw:∀z,dH (wrap64 z):=fun z=>by unfold dH wrap64;omega
 unfold nP;repeat' split
 all_goals first
  |exact hw _
  |exact iP _ (by decide)
theorem MV(H:Zb C q s left ⟨some ⟨g,0,none⟩,nn+1+1,sc,(ps++[(a,aa,ac)])++[(b,ba,bc)],na,mm,nc,qs⟩ w)(hn:nn<=1999)(hk:b.kind=1)(hk1:a.kind=1)(ha:dH a.n)(hb:dH b.n)(k n:Int):Calls prog 286 #[.pointer (some ⟨C.fb,0,none⟩),.agg #[.int .i64 6,.int .i64 k,.int .i64 n]] w fun e w'=>bU C ⟨some ⟨g,0,none⟩,nn,sc,ps,na,mm,nc,qs⟩ (okV (iX (nP k a.n b.n)) left s) e w':=by
 obtain⟨W,hW⟩:∃W,W=ZE w 6 k n:=⟨_,rfl⟩;have H1:=dI H 6 k n;rw[<-hW]at H1;obtain⟨i0,i1,i2⟩:=eU H1;obtain⟨s0,s1,s2,s3,s4⟩:=eF H1;have HH:=bC H H1;have HT:=hid (jA H1 (by omega) hk);have HT2:=hid (fun(w':World) (h:Zb (C.pl w 6 k n) q s left ⟨some ⟨g,0,none⟩,nn+1,sc,ps++[(a,aa,ac)],na,mm,nc,qs⟩ w')=>jA h (by omega) hk1);have HA:=hid (fun w=>Ub k a.n b.n w ha hb);have hr:=Sb k a.n b.n;generalize nP k a.n b.n=r at*;have HR:=hid hr;clear H H1 hk hk1 ha hb hr;unfold ZE at hW;go_enter func286,ntmps286;rw[hW]at HT i0 i1 i2;go_wp2_with (go_at_call 284;refine HT.out.mono ?_;rintro e w2 ⟨rfl,h2⟩;obtain⟨j0,j1,j2⟩:=eU h2.fs;have H2:=hid h2;clear h2);go_region_with (first
  |(go_at_call 289;refine(pR _ _).mono ?_;rintro e w5 ⟨rfl,q5⟩;have h5:=(H3.out.fs.quiet q4).quiet q5;have hb5:=gP h5;obtain⟨m0,m1,m2⟩:=aM hb5;obtain⟨f0,f1,f2⟩:=bI hb5;have hz:=ae hb5;clear hb5;have H5:=hid h5;clear h5 q5 q4)
  |(go_at_call 290;refine(HA.out _).mono ?_;rintro e w4 ⟨rfl,q4⟩)
  |(go_at_call 284;refine(HT2.out _ (H2.out.fs.quiet (Kp.drew _))).mono ?_;rintro e w3 ⟨rfl,h3⟩;obtain⟨l0,l1,l2⟩:=eU h3.fs;have H3:=hid h3;clear h3))
 all_goals
  go_wp2;refine au (v:= .agg #[.int .i64 (iX r).kind,.int .i64 (iX r).n,.slice none (iX r).l.length 0]) (by simp[results,results286,go_sem,m0,m1,m2,iX]) rfl ?_;exact pq (o:=okV (iX r) left s) HH.out.1 rfl H5.out (dY _ ⟨iP 1 (by decide),HR.out⟩ rfl none)
end
def qy(M:Mx)(fr:Nat):Prop:=∀(X:Nat->Prop)(q:Vs)(s:Sg)(left:Nat)(w:World)(p f:Int)(v:V)(va:Option Addr)(vc:Nat),MS M X q s left fr w->(iD M.ms p f).isSome=true->v.check=0->s.es.length+left<=902000->
 bu (fun k=>M.own q k\/X k) (fun w=>Is w v va) w->
 Calls prog 276 #[.pointer (some ⟨M.mb,0,none⟩),.int .i64 p,.int .i64 f,.agg #[.int .i64 v.kind,.int .i64 v.n,.slice va v.l.length vc]] w fun e w'=>MQ M X q fr (cO M.ms fr p f v left s) w e w'
section
variable{M:Mx}{X:Nat->Prop}{q:Vs}{s:Sg}{left:Nat}{calls:Int}{w:World}
theorem MS.inv(H:MS M X q s left calls w):Inv s:=by
 obtain⟨a,b,c,d,hb,_⟩:=H.box;obtain⟨ma,mb,mc,md,e,ha,hb',hc,hd⟩:=hb.abn;refine⟨hb.wf,hb.gs.ln,hb.gs.lg,hb.ws.obj.len,by rw[hb.ks];rfl,fun v hv=> ?_⟩;rw[hb.ks]at hv;simp only[aU,dN,or_false]at hv;rcases hv with rfl|rfl|rfl|rfl;exact ha.good;exact hb'.good;exact hc.good;exact hd.good
structure Kc(M:Mx)(w:World)(j:Nat)(th:Bool)(ao:Option Addr)(n cap:Nat)(x y z:Value):Prop where
 c0:w.cell? ⟨M.bb,2+j*5,none⟩=some (.bool th)
 c1:w.cell? ⟨M.bb,2+j*5+1,none⟩=some (.slice ao n cap)
 c2:w.cell? ⟨M.bb,2+j*5+2,none⟩=some x
 c3:w.cell? ⟨M.bb,2+j*5+3,none⟩=some y
 c4:w.cell? ⟨M.bb,2+j*5+4,none⟩=some z
 has:∀f:Int,(th&&decide (0<=f)&&decide (f<(n:Int)))=(iD M.ms j f).isSome
 code:∀l,M.ms.getD j none=some l->n=l.length/\rC w (.slice ao n cap) l/\∀v∈l,v.bad l.length 0=0
theorem p9{F:Nat->Prop}{m:Option (List Ex.V)}{p:Pg}{j:Nat}(h:PgS w F m p)(hm:M.ms.getD j none=m)
 (h0:w.cell? ⟨M.bb,2+j*5,none⟩=some (.bool p.there)) (h1:w.cell? ⟨M.bb,2+j*5+1,none⟩=some p.code) (h2:w.cell? ⟨M.bb,2+j*5+2,none⟩=some (.int .i64 p.kept.kind)) (h3:w.cell? ⟨M.bb,2+j*5+3,none⟩=some (.int .i64 p.kept.n)) (h4:w.cell? ⟨M.bb,2+j*5+4,none⟩=some (.slice p.ao p.kept.l.length p.cap)):
 ∃th ao n cap x y z,Kc M w j th ao n cap x y z:=by
 obtain⟨ao,n,cap,hs⟩:=h.shape;rw[hs]at h1;refine⟨p.there,ao,n,cap,_,_,_,h0,h1,h2,h3,h4,fun f=> ?_,fun l hl=> ?_⟩
 ·rw[h.there];unfold iD;rw[Int.toNat_natCast,hm];cases m with
  |none=>simp
  |some l=>
   obtain⟨⟨ao',cap',ps,e,hmd,_⟩,_⟩:=h.code l rfl;rw[hs]at e;simp only[aY]at e;obtain⟨_,rfl,_⟩:=e;by_cases hf:0<=f;obtain⟨i,rfl⟩:∃i:Nat,f=i:=⟨f.toNat,by omega⟩;by_cases hi:i<l.length;simp[hi];simp[hi];simp[hf]
 ·rw[hm]at hl;subst hl;obtain⟨hc,hb⟩:=h.code l rfl;have hc':=hc;obtain⟨ao',cap',ps,e,hmd,_⟩:=hc';rw[hs]at e hc;simp only[aY]at e;obtain⟨_,rfl,_⟩:=e;exact⟨rfl,hc,hb⟩
theorem MS.acv(H:MS M X q s left calls w)(j:Nat)(hj:j<4):∃th ao n cap x y z,Kc M w j th ao n cap x y z:=by
 obtain⟨a,b,c,d,hb,_⟩:=H.box;obtain⟨ma,mb,mc,md,e,ha,hb',hc,hd⟩:=hb.abn;have key:∀k x,(pI M.g M.wd a b c d)[k]?=some x->w.cell? ⟨M.bb,k,none⟩=some x:=fun k x hx=>by
  rw[<-hx];simp[World.cell?,hb.obj]
 obtain rfl|rfl|rfl|rfl:j=0\/j=1\/j=2\/j=3:=by omega
 ·exact p9 ha (by rw[e];rfl) (key _ _ rfl) (key _ _ rfl) (key _ _ rfl) (key _ _ rfl) (key _ _ rfl)
 ·exact p9 hb' (by rw[e];rfl) (key _ _ rfl) (key _ _ rfl) (key _ _ rfl) (key _ _ rfl) (key _ _ rfl)
 ·exact p9 hc (by rw[e];rfl) (key _ _ rfl) (key _ _ rfl) (key _ _ rfl) (key _ _ rfl) (key _ _ rfl)
 ·exact p9 hd (by rw[e];rfl) (key _ _ rfl) (key _ _ rfl) (key _ _ rfl) (key _ _ rfl) (key _ _ rfl)
theorem MS.ae5(H:MS M X q s left calls w):M.ms.length=4:=by
 obtain⟨a,b,c,d,hb,_⟩:=H.box;obtain⟨ma,mb,mc,md,e,_⟩:=hb.abn;rw[e];rfl
end
