/- Parts. -/
import Derived.Test.YtpeakfcbihoknaaGreatDoorUVmPlain3
import Derived.Test.YtpeakfcbihoknaaGreatDoorUVmPlain7
import Derived.Test.YtpeakfcbihoknaaGreatDoorUVmPush
open Go.ChangeShapes Go.WideShapes Go.ChangeAt Go.RowKit
namespace Go.Proofs.YtpeakfcbihoknaaGreatDoor
open Proofs.Tryz
open Gr (Nd ZH nd0 YT aS dJ bJ dV bS Y0 bN eX YS Wf jg GS fJ)
theorem uY{v:V}(h:v.check=0){m:Nat}(hp:jc v.kind=some m):v.l.length=m:=by
 have h1:=(wX (jX h)).1;unfold V.YW at h1;rw[hp]at h1;simp only at h1;by_cases e:v.l.length=m;exact e;rw[ag e]at h1;cases h1
section
variable{C:Cx}{q:Vs}{s:Sg}{left:Nat}{R:Rw}{w:World}{g nn sc mm nc:Nat}{ps qs:List Kd}{a b:V}{aa ba na:Option Addr}{ac bc:Nat}
theorem Tz{sa:Option Addr}(H:Zb C q s left ⟨sa,nn,sc,ps,na,mm,nc,qs⟩ w)(hj:C.j<4)(hm:mm<=2000)(op k n:Int)(hop:Ex.Y5 op=0)(hin:dH n)(hvar:op=4->0<=k/\k<(qs.length:Int)):
 Calls prog 286 #[.pointer (some ⟨C.fb,0,none⟩),.agg #[.int .i64 op,.int .i64 k,.int .i64 n]] w fun e w'=>bU C ⟨sa,nn,sc,ps,na,mm,nc,qs⟩ (nD C.j op k n C.arg (qs.map (·.1)) left s) e w':=by
 have hc:op=1\/op=2\/op=3\/op=4\/op=21:=by
  unfold Ex.Y5 at hop;by_cases h:op=1\/op=2\/op=3\/op=4\/op=21;exact h
  ·rw[af h]at hop;(repeat' split at hop);all_goals omega
 rcases hc with rfl|rfl|rfl|rfl|rfl;exact Nk H k n;exact Pe H hin k;exact L6 H k n
 ·obtain⟨h0,h1⟩:=hvar rfl;obtain⟨kn,rfl⟩:∃kn:Nat,k=kn:=⟨k.toNat,by omega⟩;have h:=NV H kn n (by omega) hm;have e:nD C.j 4 kn n C.arg (qs.map (·.1)) left s=okV ((qs.map (·.1)).getD (qs.length-1-kn) v0) left s:=by simp[nD]
  rw[e];exact h
 ·have e:nD C.j 21 k n C.arg (qs.map (·.1)) left s=okV (s.ks.getD C.j v0) left s:=by simp[nD]
  rw[e];exact Ie H hj k n
theorem wE{v:V}(hk:v.kind=4)(s:Sg)(bit:Nat):iG s v bit=iG s (iw v.n) bit:=by unfold iG;rw[ag hk,ag (show(iw v.n).kind=4 from rfl)];rfl
theorem LW{v:V}(hk:v.kind≠4)(s:Sg)(bit:Nat):iG s v bit= .error 2:=by unfold iG;rw[af hk]
theorem Ua(H:Zb C q s left ⟨some ⟨g,0,none⟩,nn+1,sc,ps++[(a,aa,ac)],na,mm,nc,qs⟩ w)(hn:nn<=1999)(hj:C.j<4)(hfr:C.fr<=20)(hC:C.fr<20->qy C.m C.fr)(hes:s.es.length+left<=902000)(ha:a.check=0)(op k n:Int)(hop:Ex.Y5 op=1)(hcall:op=18->(iD C.m.ms C.j k).isSome=true):
 Calls prog 286 #[.pointer (some ⟨C.fb,0,none⟩),.agg #[.int .i64 op,.int .i64 k,.int .i64 n]] w fun e w'=>bU C ⟨some ⟨g,0,none⟩,nn,sc,ps,na,mm,nc,qs⟩ (gQ (cO C.m.ms) C.fr C.j op k a left s) e w':=by
 have hsz:=fV ha;have hc:op=9\/op=10\/op=11\/op=12\/op=13\/op=15\/op=16\/op=17\/op=18\/op=20:=by
  unfold Ex.Y5 at hop;by_cases h:op=9\/op=10\/op=11\/op=12\/op=13\/op=15\/op=16\/op=17\/op=18\/op=20;exact h
  ·rw[af h]at hop;(repeat' split at hop);all_goals omega
 rcases hc with rfl|rfl|rfl|rfl|rfl|rfl|rfl|rfl|rfl|rfl;by_cases hk:a.kind=2;have hl:=uY ha (m:=2) (by rw[hk];rfl);have e:gQ (cO C.m.ms) C.fr C.j 9 k a left s=okV (a.l[0]'(by omega)) left s:=(by simp[gQ,hk,hl]);rw[e];exact M9 H hn hk (by omega) k n;have e:gQ (cO C.m.ms) C.fr C.j 9 k a left s=bad 2 left s:=(by simp[gQ,hk]);rw[e];exact Ep H hn hk k n;by_cases hk:a.kind=2;have hl:=uY ha (m:=2) (by rw[hk];rfl);have e:gQ (cO C.m.ms) C.fr C.j 10 k a left s=okV (a.l[1]'(by omega)) left s:=(by simp[gQ,hk,hl]);rw[e];exact MF H hn hk (by omega) k n;have e:gQ (cO C.m.ms) C.fr C.j 10 k a left s=bad 2 left s:=(by simp[gQ,hk]);rw[e];exact DU H hn hk k n;rcases NI hj ha with hk|hk;have e:gQ (cO C.m.ms) C.fr C.j 11 k a left s=okV ⟨3,C.j,[a]⟩ left s:=(by simp[gQ,hk]);rw[e];exact Kn H hn hsz hj hk k n;have e:gQ (cO C.m.ms) C.fr C.j 11 k a left s=bad 3 left s:=(by simp[gQ,hk]);rw[e];exact zK H hn hsz hj hk k n;by_cases hk:a.kind=3;by_cases hp:a.n=C.j;have hl:=uY ha (m:=1) (by rw[hk];rfl);have e:gQ (cO C.m.ms) C.fr C.j 12 k a left s=okV (a.l[0]'(by omega)) left s:=(by simp[gQ,hk,hp,hl]);rw[e];exact Ir H hn hk (by omega) hp k n;have e:gQ (cO C.m.ms) C.fr C.j 12 k a left s=bad 10 left s:=(by simp[gQ,hk,hp]);rw[e];exact Ar H hn hk hp k n;have e:gQ (cO C.m.ms) C.fr C.j 12 k a left s=bad 2 left s:=(by simp[gQ,hk]);rw[e];exact BI H hn hk k n
 ·by_cases hk:a.kind=4
  ·cases hcl:iG s (iw a.n) 0 with
   |error c=>
    have e:gQ (cO C.m.ms) C.fr C.j 13 k a left s=bad c left s:=(by simp[gQ,wE hk,hcl]);rw[e];exact AQ H hn hk hcl k n
   |ok c=>
    have e:gQ (cO C.m.ms) C.fr C.j 13 k a left s=okV (iX (s.cs.getD c.toNat 0)) left {s with es:=s.es++[⟨C.j,c,1,a.n⟩]}:=(by simp[gQ,wE hk,hcl]);rw[e];exact Jo H hn hk (by omega) hcl k n
  ·have e:gQ (cO C.m.ms) C.fr C.j 13 k a left s=bad 2 left s:=(by simp[gQ,LW hk]);rw[e];exact BK H hn hk k n
 ·by_cases hk:a.kind=4
  ·have e:gQ (cO C.m.ms) C.fr C.j 15 k a left s=jf (aS s.ns s.os a.n k (-1)) left s:=(by simp[gQ,hk]);rw[e];cases hg:(jf (aS s.ns s.os a.n k (-1)) left s).got with
   |error c=>exact yg H hn hk k n hg
   |ok v=>exact y7 H hn hk k n hg
  ·have e:gQ (cO C.m.ms) C.fr C.j 15 k a left s=bad 2 left s:=(by simp[gQ,hk]);rw[e];exact y8 H hn hk k n
 ·by_cases hk:a.kind=4
  ·have e:gQ (cO C.m.ms) C.fr C.j 16 k a left s=ug a.n left s:=(by simp[gQ,hk,ug]);rw[e];cases hg:(ug a.n left s).got with
   |error c=>exact AP H hn hk k n hg
   |ok v=>exact BG H hn hk k n hg
  ·have e:gQ (cO C.m.ms) C.fr C.j 16 k a left s=bad 2 left s:=(by simp[gQ,hk]);rw[e];exact BU H hn hk k n
 ·by_cases hk:a.kind=5;have e:gQ (cO C.m.ms) C.fr C.j 17 k a left s=okV v0 left {s with os:=(dV s.ns s.os a.n).os}:=(by simp[gQ,hk]);rw[e];exact NY H hn hk k n;have e:gQ (cO C.m.ms) C.fr C.j 17 k a left s=bad 2 left s:=(by simp[gQ,hk]);rw[e];exact DW H hn hk k n
 ·have e:gQ (cO C.m.ms) C.fr C.j 18 k a left s=cO C.m.ms C.fr C.j k a left s:=by simp[gQ]
  rw[e];by_cases h20:C.fr=20;have e2:cO C.m.ms C.fr C.j k a left s=bad 4 left s:=(by simp[cO,jY,h20]);rw[e2];exact y9 H hn (by omega) k n;exact Ii H hn (by omega) k n (hC (by omega)) (hcall rfl) ha hes
 ·have e:gQ (cO C.m.ms) C.fr C.j 20 k a left s=okV (s.ks.getD C.j v0) left {s with ks:=s.ks.set C.j a}:=by simp[gQ]
  rw[e];exact J7 H hn hj ha (by omega) k n
theorem Ug(H:Zb C q s left ⟨some ⟨g,0,none⟩,nn+1+1,sc,(ps++[(a,aa,ac)])++[(b,ba,bc)],na,mm,nc,qs⟩ w)(hn:nn<=1999)(hfr:C.fr<=20)(hC:C.fr<20->qy C.m C.fr)(hes:s.es.length+left<=902000)(ha:a.check=0)(hb:b.check=0)(hai:dH a.n)(hbi:dH b.n)(op k n:Int)(hop:Ex.Y5 op=2)(h5:op≠5):
 Calls prog 286 #[.pointer (some ⟨C.fb,0,none⟩),.agg #[.int .i64 op,.int .i64 k,.int .i64 n]] w fun e w'=>bU C ⟨some ⟨g,0,none⟩,nn,sc,ps,na,mm,nc,qs⟩ (jy (cO C.m.ms) C.m.ms C.fr C.j op k a b left s) e w':=by
 have hsa:=fV ha;have hsb:=fV hb;have hc:op=6\/op=8\/op=14\/op=19:=by
  unfold Ex.Y5 at hop;repeat' split at hop
  all_goals omega
 rcases hc with rfl|rfl|rfl|rfl;by_cases hkb:b.kind=1;by_cases hka:a.kind=1;have e:jy (cO C.m.ms) C.m.ms C.fr C.j 6 k a b left s=okV (iX (nP k a.n b.n)) left s:=(by simp[jy,hka,hkb]);rw[e];exact MV H hn hkb hka hai hbi k n;have e:jy (cO C.m.ms) C.m.ms C.fr C.j 6 k a b left s=bad 2 left s:=(by simp[jy,hka]);rw[e];exact Ce H hn hkb hka k n;have e:jy (cO C.m.ms) C.m.ms C.fr C.j 6 k a b left s=bad 2 left s:=(by simp[jy,hkb]);rw[e];exact Cf H hn hkb k n;rcases Nh ha hb with hk|hk;have e:jy (cO C.m.ms) C.m.ms C.fr C.j 8 k a b left s=okV ⟨2,0,[a,b]⟩ left s:=(by simp[jy,hk]);rw[e];exact Ic H hn hsa hsb hk k n;have e:jy (cO C.m.ms) C.m.ms C.fr C.j 8 k a b left s=bad 3 left s:=(by simp[jy,hk]);rw[e];exact AZ H hn hsa hsb hk k n
 ·by_cases hkb:b.kind=1
  ·by_cases hka:a.kind=4
   ·have hl:=uY hb (m:=0) (by rw[hkb];rfl);have hbe:b=iX b.n:=by
     obtain⟨bk,bn,bl⟩:=b;simp only at hkb hl;rw[List.length_eq_zero_iff]at hl;subst hkb hl;rfl
    cases hcl:iG s (iw a.n) 1 with
    |error c=>
     have e:jy (cO C.m.ms) C.m.ms C.fr C.j 14 k a b left s=bad c left s:=(by simp[jy,hka,hkb,wE hka,hcl]);rw[e];exact zh H hn hkb hka hcl k n
    |ok c=>
     have e:jy (cO C.m.ms) C.m.ms C.fr C.j 14 k a b left s=okV (iX b.n) left {s with cs:=s.cs.set c.toNat b.n,es:=s.es++[⟨C.j,c,2,a.n⟩]}:=by
           rw[<-hbe];simp[jy,hka,hkb,wE hka,hcl]
     rw[e];exact GM H hn hkb hka (by omega) hbi hcl k n
   ·have e:jy (cO C.m.ms) C.m.ms C.fr C.j 14 k a b left s=bad 2 left s:=(by simp[jy,hka]);rw[e];exact zg H hn hkb hka k n
  ·have e:jy (cO C.m.ms) C.m.ms C.fr C.j 14 k a b left s=bad 2 left s:=(by simp[jy,hkb]);rw[e];exact zf H hn hkb k n
 ·by_cases hka:a.kind=4
  ·have e:jy (cO C.m.ms) C.m.ms C.fr C.j 19 k a b left s=mU (cO C.m.ms) C.m.ms C.fr (iw a.n) b left s:=by
    simp only[jy];rw[af (by decide),af (by decide),af (by decide)];unfold mU;rw[ag hka,ag (show(iw a.n).kind=4 from rfl)];rfl
   rw[e];cases hg:(mU (cO C.m.ms) C.m.ms C.fr (iw a.n) b left s).got with
   |error c=>exact BR H hn hka hfr hC hb hes k n hg
   |ok v=>exact OM H hn hka hfr hC hb hes k n hg
  ·have e:jy (cO C.m.ms) C.m.ms C.fr C.j 19 k a b left s=bad 2 left s:=by
    simp only[jy];rw[af (by decide),af (by decide),af (by decide)];unfold mU;rw[af hka]
   rw[e];exact DN H hn hka k n
end
section
variable{C:Cx}{q:Vs}{R:Rw}{w:World}
theorem Q6{y:Fm}{F M K:Nat}(H:Zb C q y.s y.left R w)(hst:R.ps.map (·.1)=y.st)(hnm:R.qs.map (·.1)=y.nm)(hfi:Fi y)(i:Ex.Ik)(hs:pW F M K i y)(hop:1<=i.op/\i.op<=21)(h5:i.op≠5)(h7:i.op≠7)(hM:M<=2000)(hK:K<=902000)(hj:C.j<4)(hfr:C.fr<=20)(hC:C.fr<20->qy C.m C.fr)(hF:∀k:Int,0<=k->k<F->(iD C.m.ms C.j k).isSome=true)(hin:dH i.n)(hI:∀p∈R.ps,dH p.1.n):
 ∃(R0:Rw) (o:Out),gu (cO C.m.ms) C.m.ms C.fr C.j C.arg i y=kD (y.pc+1) (R0.ps.map (·.1)) y.nm o/\R0.qs.map (·.1)=y.nm/\R0.n<=2000/\
  Calls prog 286 #[.pointer (some ⟨C.fb,0,none⟩),.agg #[.int .i64 i.op,.int .i64 i.k,.int .i64 i.n]] w fun e w'=>bU C R0 o e w':=by
 have hl1:=aC List.length hst;have hl2:=aC List.length hnm;simp only[bE]at hl1 hl2;have hb:=hs.st;have hlg:=hs.log;have hpt:=hs.parts hop.2;have hn1:=H.two.ls;have hn2:=H.two.ln;obtain⟨pc,st,nm,lf,sg⟩:=y;simp only at*;subst hst hnm;have agx:Ex.Y5 i.op=0\/Ex.Y5 i.op=1\/Ex.Y5 i.op=2:=by
  unfold Ex.Y5;repeat' split
  all_goals first|omega|simp
 rcases agx with hp|hp|hp;obtain⟨sa,n,sc,ps,na,m,nc,qs⟩:=R;simp only at*;exact⟨⟨sa,n,sc,ps,na,m,nc,qs⟩,_,Cj hop hp,rfl,(by simp at hb;show n<=2000;omega),Tz H hj (by simp at hb;omega) i.op i.k i.n hp hin (fun e=>by have:=hs.var e;simpa using this)⟩
 ·obtain⟨ps,⟨a,aa,ac⟩,hps⟩:∃ps p,R.ps=ps++[p]:=by
   have h3:R.ps≠[]:=fun e=>by rw[e]at hpt;simp at hpt;omega
   exact⟨_,_,(dR h3).symm⟩
  obtain⟨g,hR⟩:=H.shape hps;rw[hR]at H;rw[hps]at hfi hl1 hb|-;simp only[bA,dz,List.map_nil]at*;refine⟨⟨some ⟨g,0,none⟩,ps.length,R.sc,ps,R.na,R.m,R.nc,R.qs⟩,_,FQ hop hp,rfl, ?_,Ua H ?_ hj hfr hC ?_ ?_ i.op i.k i.n hp ?_⟩;simp at hb|-;omega;simp at hb;omega;omega;exact hfi.st a (by simp);intro e;have:=hs.call e;exact hF _ this.1 this.2
 ·obtain⟨ps,⟨b,ba,bc⟩,hps⟩:∃ps p,R.ps=ps++[p]:=by
   have h3:R.ps≠[]:=fun e=>by rw[e]at hpt;simp at hpt;omega
   exact⟨_,_,(dR h3).symm⟩
  obtain⟨ps,⟨a,aa,ac⟩,rfl⟩:∃ps' p,ps=ps'++[p]:=by
   have h3:ps≠[]:=fun e=>by rw[hps,e]at hpt;simp at hpt;omega
   exact⟨_,_,(dR h3).symm⟩
  obtain⟨g,hR⟩:=H.shape hps;have hia:=hI (a,aa,ac) (by rw[hps];simp);have hib:=hI (b,ba,bc) (by rw[hps];simp);rw[hR]at H;rw[show(ps++[(a,aa,ac)]).length+1=ps.length+1+1 by simp]at H;rw[hps]at hfi hl1 hb|-;simp only[bA,dz,List.map_nil]at*;refine⟨⟨some ⟨g,0,none⟩,ps.length,R.sc,ps,R.na,R.m,R.nc,R.qs⟩,_,FO hop hp,rfl, ?_,Ug H ?_ hfr hC ?_ ?_ ?_ hia hib i.op i.k i.n hp h5⟩;simp at hb|-;omega;simp at hb;omega;omega;exact hfi.st a (by simp);exact hfi.st b (by simp)
end
theorem yQ{W w3 w4:World}{row:Option Nat}{g:Nat}(h:W.grownBy w3 row)(k:w3.grownBy w4 (some g))(hat:row=some g\/W.heap.size<=g):W.grownBy w4 row:=by
 refine⟨by rw[k.os,h.os],by rw[k.tape,h.tape],by rw[k.output,h.output],aF h.size k.size,fun i hi hne=> ?_⟩;rw[k.block i (az hi h.size) (fun e=> ?_),h.block i hi hne];simp only[aT]at e;rcases hat with e2|e2;exact hne (by rw[e2,e]);omega
section
variable{F F':Nat->Prop}{lo:Nat}{w w':World}{sa:Option Addr}{n sc:Nat}{ps:List Kd}{na:Option Addr}{m nc:Nat}{qs:List Kd}
theorem Two.afa{g cap:Nat}{p:Kd}(H:Two F lo w sa n sc ps na m nc qs)(hv:bu (fun k=>F k\/blk sa n sc=some k\/blk na m nc=some k) (fun w=>Is w p.1 p.2.1) w)
 (hr:w'.ownsRow lo 71 3 (.slice (some ⟨g,0,none⟩) (n+1) cap) (n+1) (eB ps++Zv p)) (hg:w.grownBy w' (blk sa n sc)) (hat:blk sa n sc=some g\/w.heap.size<=g):
 Two F lo w' (some ⟨g,0,none⟩) (n+1) cap (ps++[p]) na m nc qs/\Kp (fun k=>blk sa n sc=some k) w w':=by
 have k1:Kp (fun k=>blk sa n sc=some k) w w':=Kp.grown hg fun k _ e=>e.symm;refine⟨⟨by rw[jV,jI];exact hr,k1.row H.rn fun k e e2=>H.ap k e2 e,by rw[ak,<-H.ls];rfl,H.ln,fun k e e2=> ?_,fun x hx=> ?_⟩,k1⟩;simp[Value.ownBlock]at e;subst e;rcases hat with e|e;exact H.ap g e e2;have:=(H.rn.lt g e2).2;omega
 ·have hs:bu (fun k=>F k\/blk sa n sc=some k\/blk na m nc=some k) (fun w=>Is w x.1 x.2.1) w:=by
   rcases hx with hx|hx;rcases aK.1 hx with hx|hx;exact H.all x (.inl hx);simp at hx;subst hx;exact hv;exact H.all x (.inr hx)
  refine hs.step (k1.mono fun k _ e=> .inr (.inl e)) fun k hk e=> ?_;rcases e with e|e|e
  ·exact .inl e
  ·simp[Value.ownBlock]at e;subst e;rcases hat with e|e;exact .inr (.inl e);omega
  ·exact .inr (.inr e)
end
section
variable{C:Cx}{q:Vs}{s:Sg}{left:Nat}{R:Rw}{w:World}
theorem Zb.afb{W w4:World}{g cap:Nat}{p:Kd}(H:Zb C q s left R w)(kW:aA w W)(hv:bu (fun k=>C.m.own q k\/C.x R k) (fun w=>Is w p.1 p.2.1) w)
 (hr:w4.ownsRow C.w0.heap.size 71 3 (.slice (some ⟨g,0,none⟩) (R.m+1) cap) (R.m+1) (eB R.qs++Zv p)) (hg:W.grownBy w4 (blk R.na R.m R.nc)) (hat:blk R.na R.m R.nc=some g\/W.heap.size<=g):
 Zb C q s left ⟨R.sa,R.n,R.sc,R.ps,some ⟨g,0,none⟩,R.m+1,cap,R.qs++[p]⟩ (w4.setCell ⟨C.fb,5,none⟩ (.slice (some ⟨g,0,none⟩) (R.m+1) cap))/\
 w4.cell? ⟨C.fb,5,none⟩=some (.slice R.na R.m R.nc)/\w4.frozen? ⟨C.fb,5,none⟩=false/\C.fb<w4.heap.size:=by
 have HW:=H.quiet kW;obtain⟨t1,k1⟩:=HW.two.swap.afa (p:=p) ((cu hv kW).mono fun i _ e=>by
  rcases e with(e|e|e)|e;exact .inl e;exact .inr (.inl e);exact .inr (.inr (.inl e))
  ·exact .inr (.inr (.inr e.symm))) hr hg hat
 replace t1:=t1.swap;have hfr:∀i,blk R.sa R.n R.sc=some i\/blk R.na R.m R.nc=some i->i≠C.fb:=fun i e=>(HW.Zr i e).2.2.1;have hb4:w4.heap[C.fb]?=some (.cells #[.pointer (some ⟨C.m.mb,0,none⟩),.int .i64 C.j,.int .i64 C.arg.kind,.int .i64 C.arg.n,.slice C.aa C.arg.l.length C.ac,.slice R.na R.m R.nc,.slice R.sa R.n R.sc] 355 (0,0)):=(k1.block _ (ae HW.fr) fun e=>hfr _ (.inr e) rfl).trans HW.fr;have k2:=bF w4 C.fb 5 (.slice (some ⟨g,0,none⟩) (R.m+1) cap);have hgn:(Value.slice (some ⟨g,0,none⟩) (R.m+1) cap).ownBlock=some g:=rfl;have hgf:g≠C.fb:=by
  rcases hat with e|e;exact hfr _ (.inr e);have:=ae HW.fr;omega
 have ht:=t1.goes (F':=fun k=>C.m.own q k\/C.X k\/k=C.fb) (k2.mono fun i _ e=> .inr (.inr e)) (fun i hi e=>by
  have hx:¬C.m.own q i/\¬C.X i/\i≠C.fb:=by
   rcases hi.symm with hi|hi;simp only[blk,hgn,aT]at hi;subst hi;rcases hat with e|e;obtain⟨h1,_,h3,h4,_⟩:=HW.Zr _ (.inr e);exact⟨h1,h4,h3⟩;refine⟨fun h=> ?_,fun h=> ?_,hgf⟩;have:=HW.m.Z8 _ (.inl h);omega;have:=HW.m.xo _ (.inl h);omega;obtain⟨h1,_,h3,h4,_⟩:=HW.Zr _ (.inl hi);exact⟨h1,h4,h3⟩
  rcases e with e|e|e;exact hx.1 e;exact hx.2.1 e
  ·exact hx.2.2 e) (fun i e=> .inl e)
 refine⟨HW.turn ((k1.mono fun i _ e=> .inr (.inr e)).trans (k2.mono fun i _ e=> .inl e)) (by simp[World.setCell,aR,hb4]) ht fun i e=> ?_,by simp[World.cell?,hb4],aG w4 _ 5 _ _ hb4,ae hb4⟩;rcases e.symm with e|e;simp only[blk,hgn,aT]at e;subst e;rcases hat with e|e;exact .inl (.inr e);exact .inr e;exact .inl (.inl e)
theorem CY{W w1:World}{gg cap n:Nat}{p z:Kd}(H:Zb C q s left R w)(kW:aA w W)(hv:bu (fun k=>C.m.own q k\/C.x R k) (fun w=>Is w p.1 p.2.1) w)(hn:R.m=n)
 (hr:w1.ownsRow C.w0.heap.size 71 3 (.slice (some ⟨gg,0,none⟩) (n+1) cap) (n+1) (eB R.qs++Zv z)) (hg:W.grownBy w1 (blk R.na R.m R.nc)) (hat:blk R.na R.m R.nc=some gg\/W.heap.size<=gg):
 Zb C q s left ⟨R.sa,R.n,R.sc,R.ps,some ⟨gg,0,none⟩,R.m+1,cap,R.qs++[p]⟩ ((((w1.setCell ⟨gg,n*3,none⟩ (.int .i64 p.1.kind)).setCell ⟨gg,n*3+1,none⟩ (.int .i64 p.1.n)).setCell ⟨gg,n*3+2,none⟩ (.slice p.2.1 p.1.l.length p.2.2)).setCell ⟨C.fb,5,none⟩ (.slice (some ⟨gg,0,none⟩) (n+1) cap))/\
 Zb C q s left ⟨R.sa,R.n,R.sc,R.ps,some ⟨gg,0,none⟩,R.m+1,cap,R.qs++[p]⟩ ((((w1.setCell ⟨C.fb,5,none⟩ (.slice (some ⟨gg,0,none⟩) (n+1) cap)).setCell ⟨gg,n*3,none⟩ (.int .i64 p.1.kind)).setCell ⟨gg,n*3+1,none⟩ (.int .i64 p.1.n)).setCell ⟨gg,n*3+2,none⟩ (.slice p.2.1 p.1.l.length p.2.2))/\
 (w1.cell? ⟨C.fb,5,none⟩=some (.slice R.na R.m R.nc)/\w1.frozen? ⟨C.fb,5,none⟩=false/\C.fb<w1.heap.size)/\gg≠C.fb:=by
 subst hn;have hl:=H.two.ln;obtain⟨a3,b3⟩:=Eu p z hl hr;have hg4:=yQ hg b3 hat;obtain⟨f1,f2,f3,f4⟩:=H.afb kW hv a3 hg4 hat;have hne:gg≠C.fb:=by
  rcases hat with e|e;exact(H.Zr _ (.inr e)).2.2.1;have:=ae H.fr;have:=kW.size;omega
 have hf:(⟨C.fb,5,none⟩:Addr).block≠gg:=fun e=>hne e.symm;refine⟨f1, ?_, ?_,hne⟩;rw[lH w1 ⟨C.fb,5,none⟩ ⟨gg,R.m*3,none⟩ _ _ hf,lH _ ⟨C.fb,5,none⟩ ⟨gg,R.m*3+1,none⟩ _ _ hf,lH _ ⟨C.fb,5,none⟩ ⟨gg,R.m*3+2,none⟩ _ _ hf];exact f1;have HW:=H.quiet kW;have k1:Kp (fun k=>blk R.na R.m R.nc=some k) W w1:=Kp.grown hg fun k _ e=>e.symm;have hb:w1.heap[C.fb]?=_:=(k1.block _ (ae HW.fr) fun e=>(HW.Zr _ (.inr e)).2.2.1 rfl).trans HW.fr;exact⟨by simp[World.cell?,hb],aG w1 _ 5 _ _ hb,ae hb⟩
end
