/- Parts. -/
import Derived.Test.YtpeakfcbihoknaaGreatDoorUM5
open Go.ChangeShapes Go.WideShapes Go.ChangeAt Go.RowKit
set_option maxRecDepth 8000
set_option maxHeartbeats 8000000
namespace Go.Proofs.YtpeakfcbihoknaaGreatDoor
open Proofs.Tryz
open Gr (Nd ZH nd0 YT aS dJ bJ dV bS Y0 bN eX YS Wf jg GS fJ)
structure DoS(C:Cx)(ms:fA)(fr:Nat)(p:Int)(arg:V)(c:List Ex.Ik)(F M K:Nat)(r:Except End Fm)(m:Nat)(x:Fm)(q:Vs)(R:Rw)(w:World):Prop where
 fs:Zb C q x.s x.left R w
 st:R.ps.map (·.1)=x.st
 nm:R.qs.map (·.1)=x.nm
 run:qp (cO ms) ms fr p arg c m x=r
 safe:qU (cO ms) ms fr p arg c F M K m x
 fi:Fi x
def DoQ(C:Cx)(o:Out)(e:Ending)(w':World):Prop:=match o.got with
 | .ok v=>∃q' R,Zb C q' o.s o.left R w'/\∃ao cap,e= .returned (.agg #[.int .i64 v.kind,.int .i64 v.n,.slice ao v.l.length cap])/\bu (fun k=>C.m.own q' k\/C.x R k) (fun w=>Is w v ao) w'
 | .error c=>e= .panicked (lC c)/\mr C o.s o.left w'
theorem Bn{C:Cx}{o:Out}{L:Nat}{c:Int}{l:Nat}{s':Sg}{e:Ending}{w':World}(h:(Except.error (c,l,s'):Except End Fm)=kD L [] [] o)(he:e= .panicked (lC c))(hb:mr C s' l w'):DoQ C o e w':=by
 unfold kD at h;unfold DoQ;cases ho:o.got with
 |ok v=>rw[ho]at h;cases h
 |error c'=>
  rw[ho]at h;simp only[Except.error.injEq,df]at h;obtain⟨rfl,rfl,rfl⟩:=h;exact⟨he,hb⟩
theorem Ql{w:World}{base:Nat}{e:TypeId}{size:Nat}{ao:Option Addr}{cap n:Nat}{xs:List Value}(h:w.ownsRow base e size (.slice ao n cap) n xs):n<=maxLen:=by
 rcases h.2 with⟨_,h0⟩|⟨g,cap',cur,e,_,_,h1,h2,_⟩;omega;simp only[aY]at e;omega
section
variable{C:Cx}{q:Vs}{s:Sg}{left:Nat}{w:World}
theorem UC(H:Zb C q s left ⟨none,0,0,[],none,0,0,[]⟩ w)(hj:C.j<4)(hfr:C.fr<=20)(hC:C.fr<20->qy C.m C.fr)(x:Ex.V)(F:Nat)(hx:x.bad F 0=0)(hF:∀k:Int,0<=k->k<F->(iD C.m.ms C.j k).isSome=true)(hin:∀i∈Ex.Zj x,dH i.n)(hjp:∀i∈Ex.Zj x,i.op=103\/i.op=104->0<=i.k)
 (afc:C.arg.check=0) (hes:s.es.length+left<=902000) (hl:left<=2000) (ca:Option Addr) (cc:Nat) (hcode:C.w0.ownsRow 0 334 3 (.slice ca (Ex.Zj x).length cc) (Ex.Zj x).length (Ex.ZN (Ex.Zj x))) (hown:∀k,(Value.slice ca (Ex.Zj x).length cc).ownBlock=some k->¬C.m.own C.q0 k/\k≠C.m.mb):
 Calls prog 280 #[.pointer (some ⟨C.fb,0,none⟩),.slice ca (Ex.Zj x).length cc] w fun e w'=>DoQ C (EvF C.m.ms C.fr C.j x C.arg [] left s) e w':=by
 obtain⟨⟨m0,hm0,hrun,aa3⟩,hback⟩:=Sz C.m.ms F x hx C.fr C.j C.arg left s hl;have q1:aA w (w.alloc (.cells #[.int .i64 0,.int .i64 0,.slice none 0 0] 71)):=Kp.alloc _ _;have H1:=H.ext q1 w.heap.size (aj _) (ah w (.cells #[.int .i64 0,.int .i64 0,.slice none 0 0] 71)) (.inl rfl);have HS:=hid (show DoS (C.ext w.heap.size #[.int .i64 0,.int .i64 0,.slice none 0 0] 71) C.m.ms C.fr C.j C.arg (Ex.Zj x) F left (s.es.length+left) (kD (x.code 0).length [] [] (EvF C.m.ms C.fr C.j x C.arg [] left s)) m0 ⟨0,[],[],left,s⟩ q ⟨none,0,0,[],none,0,0,[]⟩ (w.alloc (.cells #[.int .i64 0,.int .i64 0,.slice none 0 0] 71))from⟨H1,rfl,rfl,hrun,aa3,⟨H.m.inv,fun v hv=>by simp at hv,fun v hv=>by simp at hv⟩⟩);have HH:=gp H hcode hown;have HJ:=hid hjp;have HK:=Xf hj hfr hC hF hin afc hes hl hback;generalize EvF C.m.ms C.fr C.j x C.arg [] left s=o at*;generalize(x.code 0).length=L at*;generalize Ex.Zj x=c at*;clear H H1 hjp hcode hown hj hfr hC hF hin afc hes hl hback q1 hrun aa3 hm0 hx;obtain⟨W,hW⟩:∃W,W=w.alloc (.cells #[.int .i64 0,.int .i64 0,.slice none 0 0] 71):=⟨_,rfl⟩;go_enter func280,ntmps280;go_wp2;rw[<-hW]at HS|-;clear hW;go_loopg [5] (m0+1) (fun gk at_ wr=>∃(m:Nat) (y:Fm) (q':Vs) (R:Rw),gk=m+1/\at_= .int .i64 y.pc/\Hid (DoS (C.ext w.heap.size #[.int .i64 0,.int .i64 0,.slice none 0 0] 71) C.m.ms C.fr C.j C.arg c F left (s.es.length+left) (kD L [] [] o) m y q' R wr));case atStart=>exact⟨m0,⟨0,[],[],left,s⟩,q,_,rfl,rfl,HS⟩
 case round=>
  obtain⟨m,y,q',R,rfl,rfl,D⟩:=hrel;clear HS;obtain⟨i,hi,hmm⟩:∃i,c[y.pc]?=some i/\((m=0/\i=⟨105,0,0⟩)\/∃m',m=m'+1/\pW F left (s.es.length+left) i y/\∀y',gu (cO C.m.ms) C.m.ms C.fr C.j C.arg i y= .ok y'->qU (cO C.m.ms) C.m.ms C.fr C.j C.arg c F left (s.es.length+left) m' y'):=by
   cases m with
   |zero=>
    have h:=D.out.run;rw[qp]at h;unfold kD at h;cases ho:o.got with
    |error e=>rw[ho]at h;cases h
    |ok v=>
     rw[ho]at h;simp only[ed]at h;refine⟨⟨105,0,0⟩, ?_,.inl ⟨rfl,rfl⟩⟩;rw[h];exact HK.out.2.2.2.2.2.2.2.2
   |succ m=>
    obtain⟨i,hi,hs,hn⟩:=D.out.safe;exact⟨i,hi,.inr ⟨m,rfl,hs,hn⟩⟩
  have hpc:y.pc<c.length:=(dn.1 hi).1;have hci:c[y.pc]=i:=(dn.1 hi).2;have hcr:=D.out.fs.went.kp.row HH.out.2.1 (fun k hk e=>by
   obtain⟨h1,h2⟩:=HH.out.2.2 k hk;rcases e with e|e;exact h1 e
   ·exact h2 e)
  obtain⟨g,hca,k0,k1,k2⟩:=Ex.acJ hcr rfl y.pc hpc;rw[hci]at k0 k1 k2;have hcm:=Ql hcr;unfold maxLen at hcm;have hpi:(y.pc:Int)<(c.length:Int):=by omega
  have hwr:IntKind.i64.wrap ((y.pc:Int)+1)=(y.pc:Int)+1:=by rw[eQ];omega
  subst hca;clear hcr hci;have HI:=jR hi hmm hpc hcm;obtain⟨op,ik,ZV⟩:=i;simp only at k0 k1 k2;clear hi hmm hpc hcm;by_cases abM:op=100
  ·subst abM;obtain⟨m',rfl,hs,hnx⟩:∃m',m=m'+1/\pW F left (s.es.length+left) ⟨100,ik,ZV⟩ y/\∀y',gu (cO C.m.ms) C.m.ms C.fr C.j C.arg ⟨100,ik,ZV⟩ y= .ok y'->qU (cO C.m.ms) C.m.ms C.fr C.j C.arg c F left (s.es.length+left) m' y':=by
    rcases HI.out.2.1 with⟨_,h⟩|h;cases h;exact h
   have hq:aA wr (wr.alloc (.cells #[.int .i64 100,.int .i64 ik,.int .i64 ZV] 334)):=Kp.alloc _ _;have d0:(wr.alloc (.cells #[.int .i64 100,.int .i64 ik,.int .i64 ZV] 334)).cell? ⟨C.fb,0,none⟩=some (.pointer (some ⟨C.m.mb,0,none⟩)):=(D.out.fs.quiet hq).cells.1;have hrun:=D.out.run;rw[qp,HI.out.1]at hrun;simp only at hrun;by_cases h0:y.left=0
   ·have hst:gu (cO C.m.ms) C.m.ms C.fr C.j C.arg ⟨100,ik,ZV⟩ y= .error (12,0,y.s):=(by unfold gu;simp[h0]);rw[hst]at hrun;have hfs:=D.out.fs.quiet hq;have HM:=hid (show Calls prog 282 #[.pointer (some ⟨C.m.mb,0,none⟩)] (wr.alloc (.cells #[.int .i64 100,.int .i64 ik,.int .i64 ZV] 334)) fun e w'=>e= .panicked (lC 12)/\aA (wr.alloc (.cells #[.int .i64 100,.int .i64 ik,.int .i64 ZV] 334)) w' from by
     have h:=hfs.m;rw[h0]at h;exact RD h)
    have HE:=bC hrun (show mr (C.ext w.heap.size #[.int .i64 0,.int .i64 0,.slice none 0 0] 71) y.s 0 (wr.alloc (.cells #[.int .i64 100,.int .i64 ik,.int .i64 ZV] 334))from h0▸hfs.bad);clear hrun hst hnx hs hfs h0;go_wp2_with (go_at_call 282;refine HM.out.mono ?_;rintro e w5 ⟨rfl,q5⟩);refine⟨rfl, ?_⟩;exact Bn HE.out.1 rfl (mr.less (C:=C) (HE.out.2.quiet q5) HH.out.1.xm)
   ·obtain⟨yl,hyl⟩:∃yl,y.left=yl+1:=⟨y.left-1,by omega⟩;have hst:gu (cO C.m.ms) C.m.ms C.fr C.j C.arg ⟨100,ik,ZV⟩ y= .ok {y with pc:=y.pc+1,left:=yl}:=(by unfold gu;simp[hyl]);rw[hst]at hrun;have hfs:=D.out.fs.quiet hq;have HM:=hid (show Calls prog 282 #[.pointer (some ⟨C.m.mb,0,none⟩)] (wr.alloc (.cells #[.int .i64 100,.int .i64 ik,.int .i64 ZV] 334)) fun e w'=>e= .returned (.tuple #[])/\Zb (C.ext w.heap.size #[.int .i64 0,.int .i64 0,.slice none 0 0] 71) q' y.s yl R w' from by
     have h:=hfs.m;rw[hyl]at h;refine(MU h).mono ?_;rintro e w' ⟨he,m5,g5⟩;exact⟨he,hfs.abq g5 m5⟩)
    have HE:=yY hrun (hnx _ hst) D.out.st D.out.nm D.out.fi;clear hrun hst hnx hs hfs h0;go_wp2_with (go_at_call 282;refine HM.out.mono ?_;rintro e w5 ⟨rfl,h5⟩);go_roundg (m'+1);case measure=>omega
    case rel=>exact⟨m',{y with pc:=y.pc+1,left:=yl},q',R,rfl,by simp,⟨h5,HE.out.2.2.1,HE.out.2.2.2.1,HE.out.1,HE.out.2.1,⟨HE.out.2.2.2.2.inv,HE.out.2.2.2.2.st,HE.out.2.2.2.2.nm⟩⟩⟩
  by_cases ab1:op=104
  ·subst ab1;clear abM;obtain⟨m',rfl,hs,hnx⟩:∃m',m=m'+1/\pW F left (s.es.length+left) ⟨104,ik,ZV⟩ y/\∀y',gu (cO C.m.ms) C.m.ms C.fr C.j C.arg ⟨104,ik,ZV⟩ y= .ok y'->qU (cO C.m.ms) C.m.ms C.fr C.j C.arg c F left (s.es.length+left) m' y':=by
    rcases HI.out.2.1 with⟨_,h⟩|h;cases h;exact h
   have hik:0<=ik:=HJ.out _ (dx HI.out.1) (.inr rfl);have hq:aA wr (wr.alloc (.cells #[.int .i64 104,.int .i64 ik,.int .i64 ZV] 334)):=Kp.alloc _ _;have hrun:=D.out.run;rw[qp,HI.out.1]at hrun;simp only at hrun;have hst:gu (cO C.m.ms) C.m.ms C.fr C.j C.arg ⟨104,ik,ZV⟩ y= .ok {y with pc:=ik.toNat}:=(by unfold gu;simp);rw[hst]at hrun;have HE:=Dq hrun (hnx _ hst) D.out.st D.out.nm D.out.fi (D.out.fs.quiet hq);clear hrun hst hnx hs;go_wp2;go_roundg (m'+1);case measure=>omega
   case rel=>exact⟨m',{y with pc:=ik.toNat},q',R,rfl,by simp;omega,⟨HE.out.2.2.2.2.2,HE.out.2.2.1,HE.out.2.2.2.1,HE.out.1,HE.out.2.1,⟨HE.out.2.2.2.2.1.inv,HE.out.2.2.2.2.1.st,HE.out.2.2.2.2.1.nm⟩⟩⟩
  by_cases ab2:op=105
  ·subst ab2;clear abM ab1;have hm:m=0:=by
    rcases HI.out.2.1 with⟨h,_⟩|⟨m',_,hs,_⟩;exact h;have:=hs.kind;simp only at this;omega
   subst hm;obtain⟨v,hv,hst,hnm,hsl⟩:∃v,o.got= .ok v/\y.st=[v]/\y.nm=[]/\y.s=o.s/\y.left=o.left:=by
    have h:=D.out.run;rw[qp]at h;unfold kD at h;cases ho:o.got with
    |error e=>rw[ho]at h;cases h
    |ok v=>
     rw[ho]at h;simp only[ed]at h;subst h;exact⟨v,rfl,rfl,rfl,rfl,rfl⟩
   obtain⟨⟨v',va,vc⟩,hps⟩:∃p,R.ps=[]++[p]:=by
    have h:=D.out.st;rw[hst]at h;cases hR:R.ps with
    |nil=>rw[hR]at h;simp at h
    |cons p t=>rw[hR]at h;simp at h;exact⟨p,by simp[h.2]⟩
   have hvv:v'=v:=by
    have h:=D.out.st;rw[hst,hps]at h;simpa using h
   subst hvv;obtain⟨g',hR⟩:=D.out.fs.shape hps;have hq:aA wr (wr.alloc (.cells #[.int .i64 105,.int .i64 ik,.int .i64 ZV] 334)):=Kp.alloc _ _;have hfs:=D.out.fs.quiet hq;rw[hR]at hfs;have HP:=hid (iJ hfs (by simp));have HV:=bC hv hsl;clear hfs hR hv hst hnm hsl;go_wp2_with (go_at_call 283;refine HP.out.mono ?_;rintro e w2 ⟨rfl,h2⟩;have hb2:=(h2.fs.st (w.heap.size,#[.int .i64 0,.int .i64 0,.slice none 0 0],71) (by simp[Cx.ext])).1;obtain⟨m0,m1,m2⟩:=aM hb2;obtain⟨f0,f1,f2⟩:=bI hb2;have hz:=ae hb2;have H2:=bC h2 hb2;clear h2 hb2);have k1:=dE w2 w.heap.size (.int .i64 v'.kind) (.int .i64 v'.n) (.slice va v'.l.length vc);have b3:=kz H2.out.2 (.int .i64 v'.kind) (.int .i64 v'.n) (.slice va v'.l.length vc);generalize((w2.setCell ⟨w.heap.size,0,none⟩ (.int .i64 v'.kind)).setCell ⟨w.heap.size,1,none⟩ (.int .i64 v'.n)).setCell ⟨w.heap.size,2,none⟩ (.slice va v'.l.length vc)=W3 at*;obtain⟨y0,y1,y2⟩:=aM b3;refine au (v:= .agg #[.int .i64 v'.kind,.int .i64 v'.n,.slice va v'.l.length vc]) (by simp[results,results280,go_sem,y0,y1,y2]) rfl ?_;have hf:=H2.out.1.fs.aai k1 HH.out.1.xm HH.out.1.went.kp.size HH.out.1.abI;rw[HV.out.2.1,HV.out.2.2]at hf;unfold DoQ;rw[HV.out.1];exact⟨_,_,hf,_,_,rfl,sM H2.out.1.safe k1⟩
  by_cases ac0:op=102
  ·subst ac0;clear abM ab1 ab2;obtain⟨m',rfl,hs,hnx⟩:∃m',m=m'+1/\pW F left (s.es.length+left) ⟨102,ik,ZV⟩ y/\∀y',gu (cO C.m.ms) C.m.ms C.fr C.j C.arg ⟨102,ik,ZV⟩ y= .ok y'->qU (cO C.m.ms) C.m.ms C.fr C.j C.arg c F left (s.es.length+left) m' y':=by
    rcases HI.out.2.1 with⟨_,h⟩|h;cases h;exact h
   obtain⟨qs,p,hqs⟩:∃qs p,R.qs=qs++[p]:=by
    have h1:=hs.drop rfl;have h2:=D.out.nm;have h3:R.qs≠[]:=fun e=>by rw[e]at h2;rw[<-h2]at h1;simp at h1
    exact⟨_,_,(dR h3).symm⟩
   obtain⟨g',hR⟩:=D.out.fs.adZ hqs;have hql:qs.length<=2000:=by
    have h1:=hs.st;have h2:=aC List.length D.out.nm;rw[hqs]at h2;simp at h2;have h3:=HK.out.2.2.2.2.2.2.2.1;omega
   have hnm:y.nm.dropLast=qs.map (·.1):=(by rw[<-D.out.nm,hqs];simp);have hq:aA wr (wr.alloc (.cells #[.int .i64 102,.int .i64 ik,.int .i64 ZV] 334)):=Kp.alloc _ _;have hfs:=D.out.fs.quiet hq;have hrun:=D.out.run;rw[qp,HI.out.1]at hrun;simp only at hrun;have hst:gu (cO C.m.ms) C.m.ms C.fr C.j C.arg ⟨102,ik,ZV⟩ y= .ok {y with pc:=y.pc+1,nm:=y.nm.dropLast}:=(by unfold gu;simp);rw[hst]at hrun;rw[hR]at hfs;have d5:(wr.alloc (.cells #[.int .i64 102,.int .i64 ik,.int .i64 ZV] 334)).cell? ⟨C.fb,5,none⟩=some (.slice (some ⟨g',0,none⟩) (qs.length+1) R.nc):=by
    obtain⟨_,_,_,_,_,d5,_⟩:=hfs.cells;exact d5
   have f5:(wr.alloc (.cells #[.int .i64 102,.int .i64 ik,.int .i64 ZV] 334)).frozen? ⟨C.fb,5,none⟩=false:=aG _ C.fb 5 _ _ hfs.fr;have hz:C.fb<(wr.alloc (.cells #[.int .i64 102,.int .i64 ik,.int .i64 ZV] 334)).heap.size:=ae hfs.fr;have hw:IntKind.i64.wrap ((qs.length:Int)+1-1)=qs.length:=(by rw[eQ];omega);have hcp:=kQ hfs.two.rn;simp only at hcp;have HE:=Dq hrun (hnx _ hst) D.out.st hnm D.out.fi hfs;clear hrun hst hnx hs hnm hfs hR;go_wp2;go_region;go_wp2;go_roundg (m'+1);case measure=>omega
   case rel=>
    obtain⟨e1,e2,e3,e4,e5,e6⟩:=HE.out;have k1:=bF (wr.alloc (.cells #[.int .i64 102,.int .i64 ik,.int .i64 ZV] 334)) C.fb 5 (.slice (some ⟨g',0,none⟩) qs.length R.nc);have hb1:((wr.alloc (.cells #[.int .i64 102,.int .i64 ik,.int .i64 ZV] 334)).setCell ⟨C.fb,5,none⟩ (.slice (some ⟨g',0,none⟩) qs.length R.nc)).heap[C.fb]?=some (.cells #[.pointer (some ⟨C.m.mb,0,none⟩),.int .i64 C.j,.int .i64 C.arg.kind,.int .i64 C.arg.n,.slice C.aa C.arg.l.length C.ac,.slice (some ⟨g',0,none⟩) qs.length R.nc,.slice R.sa R.n R.sc] 355 (0,0)):=by
     have h:=e6.fr;rw[show(C.ext w.heap.size #[.int .i64 0,.int .i64 0,.slice none 0 0] 71).fb=C.fb from rfl]at h;simp[World.setCell,aR,h,Cx.ext]
    exact⟨m',{y with pc:=y.pc+1,nm:=y.nm.dropLast},q',_,rfl,by simp,⟨(e6.drop k1 hb1).quiet (Kp.drew _),e3,e4.symm,e1,e2,⟨e5.inv,e5.st,fun v hv=>e5.nm v (List.dropLast_subset _ hv)⟩⟩⟩
  by_cases adp:op=103
  ·subst adp;clear abM ab1 ab2 ac0;obtain⟨m',rfl,hs,hnx⟩:∃m',m=m'+1/\pW F left (s.es.length+left) ⟨103,ik,ZV⟩ y/\∀y',gu (cO C.m.ms) C.m.ms C.fr C.j C.arg ⟨103,ik,ZV⟩ y= .ok y'->qU (cO C.m.ms) C.m.ms C.fr C.j C.arg c F left (s.es.length+left) m' y':=by
    rcases HI.out.2.1 with⟨_,h⟩|h;cases h;exact h
   have hik:0<=ik:=HJ.out _ (dx HI.out.1) (.inl rfl);obtain⟨ps,⟨v,va,vc⟩,hps⟩:∃ps p,R.ps=ps++[p]:=by
    have h1:=hs.one (.inr rfl);have h2:=D.out.st;have h3:R.ps≠[]:=fun e=>by rw[e]at h2;rw[<-h2]at h1;simp at h1
    exact⟨_,_,(dR h3).symm⟩
   obtain⟨g',hR⟩:=D.out.fs.shape hps;have hpl:ps.length<=2000:=by
    have h1:=hs.st;have h2:=aC List.length D.out.st;rw[hps]at h2;simp at h2;have h3:=HK.out.2.2.2.2.2.2.2.1;omega
   have hys:y.st=ps.map (·.1)++[v]:=(by rw[<-D.out.st,hps];simp);have hyl:y.st.getLastD v0=v:=(by rw[hys];simp);have hyd:y.st.dropLast=ps.map (·.1):=(by rw[hys];simp);have hq:aA wr (wr.alloc (.cells #[.int .i64 103,.int .i64 ik,.int .i64 ZV] 334)):=Kp.alloc _ _;have hfs:=D.out.fs.quiet hq;have hrun:=D.out.run;rw[qp,HI.out.1]at hrun;simp only at hrun;rw[hR]at hfs;by_cases hk:v.kind=1
   ·have hst:gu (cO C.m.ms) C.m.ms C.fr C.j C.arg ⟨103,ik,ZV⟩ y= .ok {y with pc:=if v.n=0 then ik.toNat else y.pc+1,st:=ps.map (·.1)}:=(by unfold gu;simp[hys,hk]);rw[hst]at hrun;have HP:=hid (jA hfs hpl hk);have HE:=yY hrun (hnx _ hst) hyd D.out.nm D.out.fi;clear hrun hst hnx hs hfs hR hys hyl hyd;have HB:=hid (show∀w2,Kp (fun k=>k=C.fb) (wr.alloc (.cells #[.int .i64 103,.int .i64 ik,.int .i64 ZV] 334)) w2->w2.cell? ⟨wr.heap.size,1,none⟩=some (.int .i64 ik)from fun w2 k=>by
     have h1:=ae D.out.fs.fr;have h2:=ah wr (.cells #[.int .i64 103,.int .i64 ik,.int .i64 ZV] 334);have h3:=k.block _ (ae h2) (fun e=>by rw[e]at h1;exact Nat.lt_irrefl _ h1);exact(aM (h3.trans h2)).2.1)
    by_cases hn0:v.n=0
    ·have hv0:(v.n==0)=true:=(by simpa using hn0);go_wp2_with (go_at_call 284;refine HP.out.mono ?_;rintro e w2 ⟨rfl,h2⟩;have hx1:=HB.out w2 h2.kp;have H2:=hid h2;clear h2);go_roundg (m'+1);case measure=>omega
     case rel=>exact⟨m',{y with pc:=if v.n=0 then ik.toNat else y.pc+1,st:=ps.map (·.1)},q',_,rfl,by simp[hn0];omega,⟨H2.out.fs,rfl,HE.out.2.2.2.1,HE.out.1,HE.out.2.1,⟨HE.out.2.2.2.2.inv,fun v hv=>HE.out.2.2.2.2.st v (List.dropLast_subset _ (HE.out.2.2.1▸hv)),HE.out.2.2.2.2.nm⟩⟩⟩
    ·have hv0:(v.n==0)=false:=(by simpa using hn0);go_wp2_with (go_at_call 284;refine HP.out.mono ?_;rintro e w2 ⟨rfl,h2⟩;have hx1:=HB.out w2 h2.kp;have H2:=hid h2;clear h2);go_roundg (m'+1);case measure=>omega
     case rel=>exact⟨m',{y with pc:=if v.n=0 then ik.toNat else y.pc+1,st:=ps.map (·.1)},q',_,rfl,by simp[hn0],⟨H2.out.fs,rfl,HE.out.2.2.2.1,HE.out.1,HE.out.2.1,⟨HE.out.2.2.2.2.inv,fun v hv=>HE.out.2.2.2.2.st v (List.dropLast_subset _ (HE.out.2.2.1▸hv)),HE.out.2.2.2.2.nm⟩⟩⟩
   ·have hst:gu (cO C.m.ms) C.m.ms C.fr C.j C.arg ⟨103,ik,ZV⟩ y= .error (2,y.left,y.s):=(by unfold gu;simp[hys,hk]);rw[hst]at hrun;have HP:=hid (pM hfs hpl hk);have HE:=hid hrun;clear hrun hst hnx hs hfs hR hys hyl hyd;go_wp2_with (go_at_call 284;refine HP.out.mono ?_;rintro e w5 ⟨rfl,b5⟩;have H5:=hid b5;clear b5);refine⟨rfl, ?_⟩;exact Bn HE.out rfl (mr.less (C:=C) H5.out HH.out.1.xm)
  by_cases aeb:op=101
  ·subst aeb;clear abM ab1 ab2 ac0 adp;obtain⟨m',rfl,hs,hnx⟩:∃m',m=m'+1/\pW F left (s.es.length+left) ⟨101,ik,ZV⟩ y/\∀y',gu (cO C.m.ms) C.m.ms C.fr C.j C.arg ⟨101,ik,ZV⟩ y= .ok y'->qU (cO C.m.ms) C.m.ms C.fr C.j C.arg c F left (s.es.length+left) m' y':=by
    rcases HI.out.2.1 with⟨_,h⟩|h;cases h;exact h
   obtain⟨ps,⟨v,va,vc⟩,hps⟩:∃ps p,R.ps=ps++[p]:=by
    have h1:=hs.one (.inl rfl);have h2:=D.out.st;have h3:R.ps≠[]:=fun e=>by rw[e]at h2;rw[<-h2]at h1;simp at h1
    exact⟨_,_,(dR h3).symm⟩
   obtain⟨g',hR⟩:=D.out.fs.shape hps;have hpl:ps.length<=2000/\R.m<=2000:=by
    have h1:=hs.st;have h2:=aC List.length D.out.st;have h4:=aC List.length D.out.nm;have h5:=D.out.fs.two.ln;rw[hps]at h2;simp at h2 h4;have h3:=HK.out.2.2.2.2.2.2.2.1;omega
   have hys:y.st=ps.map (·.1)++[v]:=(by rw[<-D.out.st,hps];simp);have hyn:y.nm++[v]=(R.qs++[(v,va,vc)]).map (·.1):=(by rw[<-D.out.nm];simp);obtain⟨sc,na,mm,nc,qs,hRR⟩:∃sc na mm nc qs,R=⟨some ⟨g',0,none⟩,ps.length+1,sc,ps++[(v,va,vc)],na,mm,nc,qs⟩:=⟨_,_,_,_,_,hR⟩;clear hR hps;subst hRR;simp only at hpl hyn;obtain⟨hpl,hmm⟩:=hpl;have hyd:y.st.dropLast=ps.map (·.1):=(by rw[hys];simp);have hrun:=D.out.run;rw[qp,HI.out.1]at hrun;simp only at hrun;have hst:gu (cO C.m.ms) C.m.ms C.fr C.j C.arg ⟨101,ik,ZV⟩ y= .ok {y with pc:=y.pc+1,st:=ps.map (·.1),nm:=y.nm++[v]}:=(by unfold gu;simp[hys]);rw[hst]at hrun;obtain⟨i0,hi0,hz0,hz1,hz2⟩:=jw fM;obtain⟨W,hW⟩:∃W,W=wr.alloc (.cells #[.int .i64 101,.int .i64 ik,.int .i64 ZV] 334):=⟨_,rfl⟩;have hq:aA wr W:=(by rw[hW];exact Kp.alloc _ _);have hfs:=D.out.fs.quiet hq;have d5:W.cell? ⟨C.fb,5,none⟩=some (.slice na mm nc):=hfs.cells.2.2.2.2.2.1;have k5:(W.alloc (.cells #[.int .i64 0,.int .i64 0,.slice none 0 0] 71)).cell? ⟨C.fb,5,none⟩=some (.slice na mm nc):=(hfs.quiet (Kp.alloc _ _)).cells.2.2.2.2.2.1;have HP:=hid (fun w2 (k:aA W w2)=>iJ (hfs.quiet k) hpl);have hlo:C.w0.heap.size<=W.heap.size:=hfs.went.kp.size;have HL:=hid (show C.fb<W.heap.size from ae hfs.fr);have HE:=Dq hrun (hnx _ hst) hyn D.out.fi hys hyd;have hm3:(mm:Int)<(mm:Int)+1:=(by omega);clear hrun hst hnx hs hyn hys hyd hfs hq;go_wp2;rw[<-hW];clear hW;go_region_law ((first
    |(refine dM _ (by rfl) _ _ _ (by rfl) C.w0.heap.size 71 i0 _ 3 40 fE hi0 hz0 hz1 hz2 rfl (by omega) (.slice na mm nc) mm (eB qs) (by rfl) hrB ⟨W.heap.size,0,none⟩ 1 1 (Zv (v0,none,0)) (by rfl) (by rfl) (Gr.ZQ (t:=71) (l:=Zv (v0,none,0)) hbB) (jO _) (by omega) (by unfold maxLen;omega) (by omega) (by first|omega|(simp;omega)) w3.heap.size (by first|rfl|simp) ?_;intro gg cap2 w1 hown1 hgrow hat hlt;obtain⟨e1,e2,⟨e3,e4,e5⟩,e6⟩:=CY (p:=(v,va,vc)) H3.out.fs (Kp.refl _ _) H3.out.safe rfl hown1 hgrow (by rcases hat with h|h;exact .inl h;exact .inr (by omega));obtain⟨⟨d0,d1,d2⟩,d3,d4⟩:=uh H3.out.fs.two.ln hown1;have HX:=bC e1 e2;have g3:w1.cell? ⟨C.fb,5,none⟩=some (.slice na mm nc):=e3;have g4:w1.frozen? ⟨C.fb,5,none⟩=false:=e4;have g5:C.fb<w1.heap.size:=e5;clear e3 e4 e5;have hd0:=d4 (mm*3);have hd1:=d4 (mm*3+1);have hd2:=d4 (mm*3+2);have e7:¬C.fb=gg:=(fun e=>e6 e.symm);clear hown1 hgrow hat e1 e2 d4)
    |(refine dM _ (by rfl) _ _ _ (by rfl) C.w0.heap.size 71 i0 _ 3 40 fE hi0 hz0 hz1 hz2 rfl (by omega) (.slice na mm nc) mm (eB qs) (by rfl) hrA ⟨w3.heap.size,0,none⟩ 1 1 (Zv (v0,none,0)) (by rfl) (by rfl) (Gr.ZQ (t:=71) (l:=Zv (v0,none,0)) (ah w3 _)) (jO _) (by omega) (by unfold maxLen;omega) (by omega) (by simp;omega) (w3.heap.size+1) (by simp) ?_;intro gg cap2 w1 hown1 hgrow hat hlt;obtain⟨e1,e2,⟨e3,e4,e5⟩,e6⟩:=CY (p:=(v,va,vc)) H3.out.fs (Kp.alloc _ _) H3.out.safe rfl hown1 hgrow (by rcases hat with h|h;exact .inl h;exact .inr (by simp;omega));obtain⟨⟨d0,d1,d2⟩,d3,d4⟩:=uh H3.out.fs.two.ln hown1;have HX:=bC e1 e2;have g3:w1.cell? ⟨C.fb,5,none⟩=some (.slice na mm nc):=e3;have g4:w1.frozen? ⟨C.fb,5,none⟩=false:=e4;have g5:C.fb<w1.heap.size:=e5;clear e3 e4 e5;have hd0:=d4 (mm*3);have hd1:=d4 (mm*3+1);have hd2:=d4 (mm*3+2);have e7:¬C.fb=gg:=(fun e=>e6 e.symm);clear hown1 hgrow hat e1 e2 d4)
    |(go_simp;go_at_call 283;refine(HP.out W.drew (Kp.drew _)).mono ?_;rintro e w3 ⟨rfl,h3⟩;have u5:w3.cell? ⟨C.fb,5,none⟩=some (.slice na mm nc):=h3.fs.cells.2.2.2.2.2.1;have u6:(w3.alloc (.cells #[.int .i64 0,.int .i64 0,.slice none 0 0] 71)).cell? ⟨C.fb,5,none⟩=some (.slice na mm nc):=(h3.fs.quiet (Kp.alloc _ _)).cells.2.2.2.2.2.1;have hrA:(w3.alloc (.cells #[.int .i64 0,.int .i64 0,.slice none 0 0] 71)).ownsRow C.w0.heap.size 71 3 (.slice na mm nc) mm (eB qs):=h3.fs.two.rn.alloc _;have z3:W.heap.size<=w3.heap.size:=h3.kp.size;have H3:=hid h3;clear h3)
    |(go_simp;go_at_call 283;refine(HP.out _ ((Kp.drew _).trans (Kp.alloc _ (.cells #[.int .i64 0,.int .i64 0,.slice none 0 0] 71)))).mono ?_;rintro e w3 ⟨rfl,h3⟩;have u5:w3.cell? ⟨C.fb,5,none⟩=some (.slice na mm nc):=h3.fs.cells.2.2.2.2.2.1;have hrB:w3.ownsRow C.w0.heap.size 71 3 (.slice na mm nc) mm (eB qs):=h3.fs.two.rn;have z3:W.heap.size+1<=w3.heap.size:=(by have:=h3.kp.size;simpa using this);have hbB:w3.heap[W.heap.size]?=some (.cells #[.int .i64 0,.int .i64 0,.slice none 0 0] 71 (0,0)):=((h3.kp.block _ (by simp) (fun e=>Nat.lt_irrefl _ (e▸HL.out))).trans (ah W.drew (.cells #[.int .i64 0,.int .i64 0,.slice none 0 0] 71)));have H3:=hid h3;clear h3)))
   all_goals
    go_wp2;go_roundg (m'+1);case measure=>omega
    case rel=>
     obtain⟨f1,f2,f3,f4,f5,f6⟩:=HE.out;have hfi:Fi {y with pc:=y.pc+1,st:=ps.map (·.1),nm:=y.nm++[v]}:=⟨f4.inv,fun u hu=>f4.st u (List.dropLast_subset _ (f6▸hu)),fun u hu=>by
           rcases aK.1 hu with hu|hu;exact f4.nm u hu
           ·rw[bD.1 hu];exact f4.st v (by rw[f5];simp)⟩
     first
           |exact⟨m',{y with pc:=y.pc+1,st:=ps.map (·.1),nm:=y.nm++[v]},q',_,rfl,by simp,⟨HX.out.1,rfl,f3.symm,f1,f2,hfi⟩⟩
           |exact⟨m',{y with pc:=y.pc+1,st:=ps.map (·.1),nm:=y.nm++[v]},q',_,rfl,by simp,⟨HX.out.2,rfl,f3.symm,f1,f2,hfi⟩⟩
  ·obtain⟨m',rfl,hs,hnx⟩:∃m',m=m'+1/\pW F left (s.es.length+left) ⟨op,ik,ZV⟩ y/\∀y',gu (cO C.m.ms) C.m.ms C.fr C.j C.arg ⟨op,ik,ZV⟩ y= .ok y'->qU (cO C.m.ms) C.m.ms C.fr C.j C.arg c F left (s.es.length+left) m' y':=by
    rcases HI.out.2.1 with⟨_,h⟩|h;cases h;exact absurd rfl ab2;exact h
   have hkd:1<=op/\op<=21/\op≠5/\op≠7:=(by have:=hs.kind;simp only at this;omega);have hq:aA wr (wr.alloc (.cells #[.int .i64 op,.int .i64 ik,.int .i64 ZV] 334)):=Kp.alloc _ _;obtain⟨R0,o',hst,hqs,hR0,hpl⟩:=Q6 (C:=C.ext w.heap.size #[.int .i64 0,.int .i64 0,.slice none 0 0] 71) (D.out.fs.quiet hq) D.out.st D.out.nm D.out.fi ⟨op,ik,ZV⟩ hs ⟨hkd.1,hkd.2.1⟩ hkd.2.2.1 hkd.2.2.2 HK.out.2.2.2.2.2.2.2.1 HK.out.2.2.2.2.2.2.1 HK.out.1 HK.out.2.1 HK.out.2.2.1 HK.out.2.2.2.1 (HK.out.2.2.2.2.1 _ (dx HI.out.1)) (fun p hp=>((D.out.fs.quiet hq).two.all p (.inl hp)).now.fit.2);have hfi:=UU (ms:=C.m.ms) (fr:=C.fr) (p:=C.j) (i:=⟨op,ik,ZV⟩) HK.out.2.2.2.2.2.1 D.out.fi;rw[show gu (cO C.m.ms) C.m.ms C.fr C.j C.arg ⟨op,ik,ZV⟩ y=_ from hst]at hfi;have hrun:=D.out.run;rw[qp,HI.out.1]at hrun;simp only at hrun;rw[show gu (cO C.m.ms) C.m.ms C.fr C.j C.arg ⟨op,ik,ZV⟩ y=_ from hst]at hrun;have adq:=fun y' h=>hnx y' (hst.trans h);have HP:=hid hpl;unfold bU kD at*;cases ho:o'.got with
   |error cc=>
    rw[ho]at hrun;have HP:=hid (show Calls prog 286 #[.pointer (some ⟨C.fb,0,none⟩),.agg #[.int .i64 op,.int .i64 ik,.int .i64 ZV]] (wr.alloc (.cells #[.int .i64 op,.int .i64 ik,.int .i64 ZV] 334)) fun e w'=>e= .panicked (lC cc)/\mr (C.ext w.heap.size #[.int .i64 0,.int .i64 0,.slice none 0 0] 71) o'.s o'.left w' from by
     refine HP.out.mono ?_;intro e w' h;rw[ho]at h;exact h)
    have HE:=hid hrun;obtain⟨n0,n1,n2⟩:=aM (ah wr (.cells #[.int .i64 op,.int .i64 ik,.int .i64 ZV] 334));have g0:(op==100)=false:=(by simpa using abM);have g1:(op==101)=false:=(by simpa using aeb);have g2:(op==102)=false:=(by simpa using ac0);have g3:(op==103)=false:=(by simpa using adp);have g4:(op==104)=false:=(by simpa using ab1);have g5:(op==105)=false:=(by simpa using ab2);clear hrun hnx adq hs hfi hst hqs hpl;go_wp2_with (go_at_call 286;refine HP.out.mono ?_;rintro e w5 ⟨rfl,b5⟩;have H5:=hid b5;clear b5);refine⟨rfl, ?_⟩;exact Bn HE.out rfl (mr.less (C:=C) H5.out HH.out.1.xm)
   |ok v=>
    rw[ho]at hrun hfi adq;have HP:=hid (show Calls prog 286 #[.pointer (some ⟨C.fb,0,none⟩),.agg #[.int .i64 op,.int .i64 ik,.int .i64 ZV]] (wr.alloc (.cells #[.int .i64 op,.int .i64 ik,.int .i64 ZV] 334)) fun e w'=>∃q5,Zb (C.ext w.heap.size #[.int .i64 0,.int .i64 0,.slice none 0 0] 71) q5 o'.s o'.left R0 w'/\∃ao cap,e= .returned (.agg #[.int .i64 v.kind,.int .i64 v.n,.slice ao v.l.length cap])/\bu (fun k=>(C.ext w.heap.size #[.int .i64 0,.int .i64 0,.slice none 0 0] 71).m.own q5 k\/(C.ext w.heap.size #[.int .i64 0,.int .i64 0,.slice none 0 0] 71).x R0 k) (fun w=>Is w v ao) w' from by
     refine HP.out.mono ?_;intro e w' h;rw[ho]at h;exact h)
    have HE:=yY hrun (adq _ rfl) hfi.1 hqs hR0;obtain⟨n0,n1,n2⟩:=aM (ah wr (.cells #[.int .i64 op,.int .i64 ik,.int .i64 ZV] 334));have g0:(op==100)=false:=(by simpa using abM);have g1:(op==101)=false:=(by simpa using aeb);have g2:(op==102)=false:=(by simpa using ac0);have g3:(op==103)=false:=(by simpa using adp);have g4:(op==104)=false:=(by simpa using ab1);have g5:(op==105)=false:=(by simpa using ab2);clear hrun hnx adq hs hfi hst hqs hpl hR0;go_wp2_with (first
     |(go_at_call 286;refine HP.out.mono ?_;rintro e w5 ⟨q5,b5,ao,cap,rfl,s5⟩;have H5:=bC b5 s5;clear b5 s5)
     |(go_at_call 285;refine(NC (C:=C.ext w.heap.size #[.int .i64 0,.int .i64 0,.slice none 0 0] 71) H5.out.1 H5.out.2 HE.out.2.2.2.2).mono ?_;rintro e w6 ⟨rfl,b6⟩;have H6:=hid b6;clear b6))
    obtain⟨g6,cap6,b6⟩:=H6.out;go_roundg (m'+1);case measure=>omega
    case rel=>exact⟨m',⟨y.pc+1,R0.ps.map (·.1)++[v],y.nm,o'.left,o'.s⟩,q5,_,rfl,by simp,⟨b6,by simp,HE.out.2.2.2.1,HE.out.1,HE.out.2.1,HE.out.2.2.1⟩⟩
end
