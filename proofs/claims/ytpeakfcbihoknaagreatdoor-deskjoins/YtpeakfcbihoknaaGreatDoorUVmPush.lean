/- Parts. -/
import Derived.Test.YtpeakfcbihoknaaGreatDoorUM0
open Go.ChangeShapes Go.WideShapes Go.ChangeAt Go.RowKit
set_option maxRecDepth 8000
set_option maxHeartbeats 4000000
namespace Go.Proofs.YtpeakfcbihoknaaGreatDoor
open Proofs.Tryz
open Gr (Nd ZH nd0 YT aS dJ bJ dV bS Y0 bN eX YS Wf jg GS fJ)
section
variable{C:Cx}{q:Vs}{s:Sg}{left:Nat}{R:Rw}{w:World}{v:V}{va:Option Addr}{vc:Nat}
theorem lH(w:World)(a b:Addr)(x y:Value)(h:a.block≠b.block):(w.setCell a x).setCell b y=(w.setCell b y).setCell a x:=by
 unfold World.setCell;simp only;congr 1;apply Array.ext_getElem?;intro i;simp only[aR];by_cases h1:a.block=i;have h2:¬b.block=i:=fun e=>h (h1.trans e.symm);simp[h1,h2];simp[h1]
theorem uh{lo gg n cap:Nat}{w1:World}{ps:List Kd}{z:Kd}(hl:n=ps.length)(h:w1.ownsRow lo 71 3 (.slice (some ⟨gg,0,none⟩) (n+1) cap) (n+1) (eB ps++Zv z)):
 (w1.cell? ⟨gg,n*3,none⟩=some (.int .i64 z.1.kind)/\w1.cell? ⟨gg,n*3+1,none⟩=some (.int .i64 z.1.n)/\w1.cell? ⟨gg,n*3+2,none⟩=some (.slice z.2.1 z.1.l.length z.2.2))/\gg<w1.heap.size/\∀j,w1.frozen? ⟨gg,j,none⟩=false:=by
 have hL:(eB ps).length=n*3:=by rw[mZ,hl]
 have hc:∀j,j<3->w1.cell? ⟨gg,n*3+j,none⟩=(Zv z)[j]?:=fun j hj=>by
  rw[h.cellAt (n*3+j) (by omega),bX (by omega)];congr 1;omega
 exact⟨⟨hc 0 (by decide),hc 1 (by decide),hc 2 (by decide)⟩,(h.lt gg rfl).2,fun j=>h.frozenAt j⟩
theorem Ow{W w1:World}{gg cap n:Nat}{p z:Kd}{o:Obj}(H:Zb C q s left R w)(kW:aA w W)(hv:bu (fun k=>C.m.own q k\/C.x R k) (fun w=>Is w p.1 p.2.1) w)(hn:R.n=n)
 (hr:w1.ownsRow C.w0.heap.size 71 3 (.slice (some ⟨gg,0,none⟩) (n+1) cap) (n+1) (eB R.ps++Zv z)) (hg:(W.alloc o).grownBy w1 (blk R.sa R.n R.sc)) (hat:blk R.sa R.n R.sc=some gg\/gg=W.heap.size+1):
 Zb C q s left ⟨some ⟨gg,0,none⟩,R.n+1,cap,R.ps++[p],R.na,R.m,R.nc,R.qs⟩ ((((w1.setCell ⟨gg,n*3,none⟩ (.int .i64 p.1.kind)).setCell ⟨gg,n*3+1,none⟩ (.int .i64 p.1.n)).setCell ⟨gg,n*3+2,none⟩ (.slice p.2.1 p.1.l.length p.2.2)).setCell ⟨C.fb,6,none⟩ (.slice (some ⟨gg,0,none⟩) (n+1) cap))/\
 Zb C q s left ⟨some ⟨gg,0,none⟩,R.n+1,cap,R.ps++[p],R.na,R.m,R.nc,R.qs⟩ ((((w1.setCell ⟨C.fb,6,none⟩ (.slice (some ⟨gg,0,none⟩) (n+1) cap)).setCell ⟨gg,n*3,none⟩ (.int .i64 p.1.kind)).setCell ⟨gg,n*3+1,none⟩ (.int .i64 p.1.n)).setCell ⟨gg,n*3+2,none⟩ (.slice p.2.1 p.1.l.length p.2.2))/\
 (w1.cell? ⟨C.fb,6,none⟩=some (.slice R.sa R.n R.sc)/\w1.frozen? ⟨C.fb,6,none⟩=false/\C.fb<w1.heap.size)/\gg≠C.fb:=by
 subst hn;have hl:=H.two.ls;obtain⟨a3,b3⟩:=Eu p z hl hr;have hg4:=Jz hg b3 (by simpa using hat);obtain⟨f1,f2,f3,f4⟩:=H.push kW hv a3 hg4 hat;have hne:gg≠C.fb:=by
  rcases hat with e|e;exact(H.Zr _ (.inl e)).2.2.1;have:=ae H.fr;have:=kW.size;omega
 have hf:(⟨C.fb,6,none⟩:Addr).block≠gg:=fun e=>hne e.symm;refine⟨f1, ?_, ?_,hne⟩;rw[lH w1 ⟨C.fb,6,none⟩ ⟨gg,R.n*3,none⟩ _ _ hf,lH _ ⟨C.fb,6,none⟩ ⟨gg,R.n*3+1,none⟩ _ _ hf,lH _ ⟨C.fb,6,none⟩ ⟨gg,R.n*3+2,none⟩ _ _ hf];exact f1;have HW:=H.quiet (kW.trans (Kp.alloc W o));have k1:Kp (fun k=>blk R.sa R.n R.sc=some k) (W.alloc o) w1:=Kp.grown hg fun k _ e=>e.symm;have hb:w1.heap[C.fb]?=_:=(k1.block _ (ae HW.fr) fun e=>(HW.Zr _ (.inl e)).2.2.1 rfl).trans HW.fr;exact⟨by simp[World.cell?,hb],aG w1 _ 6 _ _ hb,ae hb⟩
theorem vX{W w1:World}{row:Option Nat}(h:W.drew.grownBy w1 row):W.grownBy w1 row:=⟨h.os,h.tape,h.output,h.size,h.block⟩
theorem NC(H:Zb C q s left R w)(hv:bu (fun k=>C.m.own q k\/C.x R k) (fun w=>Is w v va) w)(hn:R.n<=2000):Calls prog 285 #[.pointer (some ⟨C.fb,0,none⟩),.agg #[.int .i64 v.kind,.int .i64 v.n,.slice va v.l.length vc]] w fun e w'=>e= .returned (.tuple #[])/\∃g cap,Zb C q s left ⟨some ⟨g,0,none⟩,R.n+1,cap,R.ps++[(v,va,vc)],R.na,R.m,R.nc,R.qs⟩ w':=by
 obtain⟨i0,hi,hz0,hz1,hz2⟩:=jw fM;have q1:aA w (w.alloc (.cells #[.int .i64 v.kind,.int .i64 v.n,.slice va v.l.length vc] 71)):=Kp.alloc _ _;have H1:=H.quiet q1;have c6:=H1.cells.2.2.2.2.2.2;have B1:=ah w (.cells #[.int .i64 v.kind,.int .i64 v.n,.slice va v.l.length vc] 71);obtain⟨m0,m1,m2⟩:=aM B1;have q2:aA (w.alloc (.cells #[.int .i64 v.kind,.int .i64 v.n,.slice va v.l.length vc] 71)) ((w.alloc (.cells #[.int .i64 v.kind,.int .i64 v.n,.slice va v.l.length vc] 71)).alloc (.cells #[.int .i64 0,.int .i64 0,.slice none 0 0] 71)):=Kp.alloc _ _;have k6:=(H1.quiet q2).cells.2.2.2.2.2.2;obtain⟨k0,k1,k2⟩:=aM ((q2.block _ (ae B1) fun e=>e).trans B1);obtain⟨sa,n,sc,ps,na,m,nc,qs⟩:=R;simp only at hn c6 k6;have HR:=hid H1.two.rs;have HH:=bC H1 (cu hv q1);clear H H1 hv q1 q2 B1;go_enter func285,ntmps285;have hlo:=aF HH.out.1.went.kp.size (aj _);have HZ:=hid (show(w.alloc (.cells #[.int .i64 v.kind,.int .i64 v.n,.slice va v.l.length vc] 71)).heap.size=w.heap.size+1 by simp);have hn3:(n:Int)<(n:Int)+1:=by omega
 go_wp2;go_region_law ((refine dM _ (by rfl) _ _ _ (by rfl) C.w0.heap.size 71 i0 _ 3 40 fE hi hz0 hz1 hz2 rfl (by omega) (.slice sa n sc) n (eB ps) (by rfl) ((HR.out.alloc _).drew) ⟨w.heap.size+1,0,none⟩ 1 1 (Zv (v0,none,0)) (by rfl) (by rfl) (Gr.ZQ (t:=71) (l:=Zv (v0,none,0)) (Y2 w _ _)) (jO _) (by omega) (by unfold maxLen;omega) (by omega) (by simp at hlo|-;omega) (w.heap.size+2) (by simp) ?_;intro gg cap2 w1 hown1 hgrow hat hlt;obtain⟨e1,e2,⟨e3,e4,e5⟩,e6⟩:=Ow (p:=(v,va,vc)) HH.out.1 (Kp.refl _ _) HH.out.2 rfl hown1 (vX hgrow) (by simpa using hat);obtain⟨⟨d0,d1,d2⟩,d3,d4⟩:=uh HH.out.1.two.ls hown1;have HE:=bC e1 e2;have hd0:=d4 (n*3);have hd1:=d4 (n*3+1);have hd2:=d4 (n*3+2);have e7:¬C.fb=gg:=(fun e=>e6 e.symm);clear hown1 hgrow hat e1 e2 d4));all_goals
  go_wp2;go_end0;first|exact⟨rfl,_,_,HE.out.1⟩|exact⟨rfl,_,_,HE.out.2⟩
end
