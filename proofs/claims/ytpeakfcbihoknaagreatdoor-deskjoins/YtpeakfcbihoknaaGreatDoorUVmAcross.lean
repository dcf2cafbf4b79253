/- Parts. -/
import Derived.Test.YtpeakfcbihoknaaGreatDoorUM0
import Derived.Deep.RegionWith
import Derived.Deep.CutRange
open Go.ChangeShapes Go.WideShapes Go.ChangeAt Go.RowKit
set_option maxRecDepth 8000
set_option maxHeartbeats 4000000
namespace Go.Proofs.YtpeakfcbihoknaaGreatDoor
open Proofs.Tryz
open Gr (Nd ZH nd0 YT aS dJ bJ dV bS Y0 bN eX YS Wf jg GS fJ)
section
variable{M:Mx}{q:Vs}{w:World}{X:Nat->Prop}{s:Sg}{left:Nat}{calls:Int}
theorem yO{W W2 w2:World}{k1:Nat}{Y4 Y3:Value}{Y:Nat->Prop}{y:V}{a:Option Addr}(H1:MS M (fun k=>X k\/k=k1) q s left calls W)(kW:aA W W2)(hY:∀k,Y k->(X k\/k=k1)\/k<W2.heap.size)(hs:bu (fun k=>Gr.Own M.g Y4 Y3 k\/k<W2.heap.size) (fun w=>Is w y a) w2):
 bu (fun k=>M.own ⟨Y4,Y3,q.l⟩ k\/Y k) (fun w=>Is w y a) w2:=by
 refine hs.mono fun k _ e=> ?_;obtain⟨pa,pb,pc,pd,hb,_⟩:=H1.box;have hsz:=kW.size;rcases e with(e|e|e)|e
 ·right;have:=hb.lt;omega
 ·exact .inl e
 ·right;have:=(hb.ws.acL k e).2;omega
 ·right;rcases hY k e with e|e;have:=H1.xo k e;omega;exact e
theorem UO{W w2:World}{k1 k2:Nat}{o1:Array Value}{Y4 Y3:Value}{ns':List Nd}{y:V}{a:Option Addr}(H1:MS M (fun k=>X k\/k=k1) q s left calls W)(bW:W.heap[k1]?=some (.cells o1 71 (0,0)))(h2:W.heap.size=k2)
 (hgo:Gr.Goes M.g q.n q.o (W.drew.alloc (.cells #[.int .i64 0,.int .i64 0,.slice none 0 0] 71)) Y4 Y3 w2) (hg:GS 184 M.B w2 M.g Y4 Y3 ns' s.os) (hwf:Wf ns' s.os.length) (hs:bu (fun k=>Gr.Own M.g Y4 Y3 k\/k<(W.drew.alloc (.cells #[.int .i64 0,.int .i64 0,.slice none 0 0] 71)).heap.size) (fun w=>Is w y a) w2):
 MS M (fun k=>(X k\/k=k1)\/k=k2) ⟨Y4,Y3,q.l⟩ {s with ns:=ns',os:=s.os} left calls w2/\dG M q W ⟨Y4,Y3,q.l⟩ w2/\w2.heap[k1]?=some (.cells o1 71 (0,0))/\w2.heap[k2]?=some (.cells #[.int .i64 0,.int .i64 0,.slice none 0 0] 71 (0,0))/\bu (fun k=>M.own ⟨Y4,Y3,q.l⟩ k\/((X k\/k=k1)\/k=k2)) (fun w=>Is w y a) w2:=by
 subst h2;have kW:aA W (W.drew.alloc (.cells #[.int .i64 0,.int .i64 0,.slice none 0 0] 71)):=(Kp.drew W).trans (Kp.alloc _ _);have b2:(W.drew.alloc (.cells #[.int .i64 0,.int .i64 0,.slice none 0 0] 71)).heap[W.heap.size]?=some (.cells #[.int .i64 0,.int .i64 0,.slice none 0 0] 71 (0,0)):=ah W.drew _;have H2:=H1.ext kW W.heap.size (aj _) (ae b2);have hx:=H2.graph hgo hg hwf;have b1:=(kW.block _ (ae bW) fun e=>e).trans bW;refine⟨hx.1,hx.2.after kW,(hx.2.block b1 (H2.apart b1).2 (H2.apart b1).1).1,(hx.2.block b2 (H2.apart b2).2 (H2.apart b2).1).1,yO H1 kW (fun k e=> ?_) hs⟩;rcases e with e|e;exact .inl e;right;rw[e];exact ae b2
theorem Uh{W w2:World}{k1:Nat}{o1:Array Value}{Y4 Y3:Value}{ns':List Nd}{y:V}{a:Option Addr}(H1:MS M (fun k=>X k\/k=k1) q s left calls W)(bW:W.heap[k1]?=some (.cells o1 71 (0,0)))
 (hgo:Gr.Goes M.g q.n q.o W.drew Y4 Y3 w2) (hg:GS 184 M.B w2 M.g Y4 Y3 ns' s.os) (hwf:Wf ns' s.os.length) (hs:bu (fun k=>Gr.Own M.g Y4 Y3 k\/k<W.drew.heap.size) (fun w=>Is w y a) w2):
 MS M (fun k=>X k\/k=k1) ⟨Y4,Y3,q.l⟩ {s with ns:=ns',os:=s.os} left calls w2/\dG M q W ⟨Y4,Y3,q.l⟩ w2/\w2.heap[k1]?=some (.cells o1 71 (0,0))/\bu (fun k=>M.own ⟨Y4,Y3,q.l⟩ k\/(X k\/k=k1)) (fun w=>Is w y a) w2:=by
 have kW:aA W W.drew:=Kp.drew W;have H2:=H1.quiet kW;have hx:=H2.graph hgo hg hwf;have b1:=(kW.block _ (ae bW) fun e=>e).trans bW;exact⟨hx.1,hx.2.after kW,(hx.2.block b1 (H2.apart b1).2 (H2.apart b1).1).1,yO H1 kW (fun k e=> .inl e) hs⟩
structure AX(M:Mx)(X:Nat->Prop)(q q':Vs)(s':Sg)(left:Nat)(calls:Int)(k1 k2:Nat)(y:V)(a:Option Addr)(c:Nat)(W wx:World):Prop where
 m:MS M (fun k=>X k\/k=k1) q' s' left calls wx
 g:dG M q W q' wx
 b1:wx.heap[k1]?=some (.cells #[.int .i64 0,.int .i64 0,.slice none 0 0] 71 (0,0))
 b2:wx.heap[k2]?=some (.cells #[.int .i64 y.kind,.int .i64 y.n,.slice a y.l.length c] 71 (0,0))
 safe:bu (fun k=>M.own q' k\/(X k\/k=k1)) (fun w=>Is w y a) wx
theorem WI{W w2:World}{k1 k2:Nat}{q':Vs}{s':Sg}{y:V}{a:Option Addr}(c:Nat)(h12:k1≠k2)(hw:W.heap.size<=k2)(hx:X M.mb)
 (h:MS M (fun k=>(X k\/k=k1)\/k=k2) q' s' left calls w2/\dG M q W q' w2/\w2.heap[k1]?=some (.cells #[.int .i64 0,.int .i64 0,.slice none 0 0] 71 (0,0))/\w2.heap[k2]?=some (.cells #[.int .i64 0,.int .i64 0,.slice none 0 0] 71 (0,0))/\bu (fun k=>M.own q' k\/((X k\/k=k1)\/k=k2)) (fun w=>Is w y a) w2):
 AX M X q q' s' left calls k1 k2 y a c W (((w2.setCell ⟨k2,0,none⟩ (.int .i64 y.kind)).setCell ⟨k2,1,none⟩ (.int .i64 y.n)).setCell ⟨k2,2,none⟩ (.slice a y.l.length c)):=by
 obtain⟨h1,h2,h3,h4,h5⟩:=h;have hk:=dE w2 k2 (.int .i64 y.kind) (.int .i64 y.n) (.slice a y.l.length c);exact⟨h1.aai hk h4 (.inl hx),h2.fresh (hk.mono fun k _ e=>by omega),(hk.block _ (ae h3) h12).trans h3,kz h4 _ _ _,pz h5 hk⟩
theorem XM{W w2:World}{k1:Nat}{q':Vs}{s':Sg}{y:V}{a:Option Addr}(c:Nat)
 (h:MS M (fun k=>X k\/k=k1) q' s' left calls w2/\dG M q W q' w2/\w2.heap[k1]?=some (.cells #[.int .i64 0,.int .i64 0,.slice none 0 0] 71 (0,0))/\bu (fun k=>M.own q' k\/(X k\/k=k1)) (fun w=>Is w y a) w2):
 AX M X q q' s' left calls k1 w2.heap.size y a c W (w2.alloc (.cells #[.int .i64 y.kind,.int .i64 y.n,.slice a y.l.length c] 71)):=by
 obtain⟨h1,h2,h3,h5⟩:=h;have hk:aA w2 (w2.alloc (.cells #[.int .i64 y.kind,.int .i64 y.n,.slice a y.l.length c] 71)):=Kp.alloc _ _;exact⟨h1.quiet hk,h2.trans (dG.quiet M q' hk),(hk.block _ (ae h3) fun e=>e).trans h3,ah _ _,cu h5 hk⟩
theorem pV(H:MS M X q s left calls w)(v:V)(ao:Option Addr)(cap:Nat)(gs:List Int)(ga:Option Addr)(gc:Nat)(hS:v.size<=500)(hgl:gs.length<=100)
 (hI:bu (fun k=>M.own q k\/X k) (fun w=>Is w v ao) w) (hG:bu (M.own q) (fun w=>fJ w ga gs) w):
 Calls prog 310 #[.pointer (some ⟨M.mb,0,none⟩),.agg #[.int .i64 v.kind,.int .i64 v.n,.slice ao v.l.length cap],.slice ga gs.length gc] w fun e w'=>MQ M X q calls (fB v gs left s) w e w':=by
 obtain⟨W,hW⟩:∃W,W=(w.alloc (.cells #[.int .i64 v.kind,.int .i64 v.n,.slice ao v.l.length cap] 71)).alloc (.cells #[.int .i64 0,.int .i64 0,.slice none 0 0] 71):=⟨_,rfl⟩;have qW:aA w W:=by rw[hW];exact(Kp.alloc _ _).trans (Kp.alloc _ _)
 have bV:W.heap[w.heap.size]?=some (.cells #[.int .i64 v.kind,.int .i64 v.n,.slice ao v.l.length cap] 71 (0,0)):=by rw[hW,aB _ _ _ (by simp)];exact ah w _
 have bW:W.heap[w.heap.size+1]?=some (.cells #[.int .i64 0,.int .i64 0,.slice none 0 0] 71 (0,0)):=by rw[hW];exact Y2 w _ _
 have H1:=H.ext qW (w.heap.size+1) (by omega) (ae bW);obtain⟨c0,c1,c2,c3⟩:=H1.cells;obtain⟨b0,b1⟩:=H1.ZP;obtain⟨z0,z1,z2⟩:=aM bV;have kW2:aA W (W.alloc (.cells #[.int .i64 0,.int .i64 0,.slice none 0 0] 71)):=Kp.alloc _ _;have d0:=(H1.quiet kW2).cells.1;have e0:=(H1.quiet kW2).ZP.1;obtain⟨y0,y1,y2⟩:=aM ((kW2.block _ (ae bV) fun e=>e).trans bV);have hos:=H1.gs.2;have HA:=hid (fun(w':World) (k:aA W w')=>QM M.B M.g s.os gs v ao cap ga gc w' q.n q.o s.ns (H1.quiet k).gs.1 (H1.quiet k).gs.2 hS hgl ((cu hI (qW.trans k)).mono fun i _ e=> .inl (.inr (.inl e))) ((cu hG (qW.trans k)).mono fun i _ e=> .inr (.inl e)));obtain⟨P,hP⟩:∃P,P=fK s.ns s.os gs v:=⟨_,rfl⟩;have HN:=hid (show Wf P.2.2 s.os.length by rw[hP];exact(qQ H1.gs.2 H1.gs.1.ln).1.wf);unfold fB;rw[<-hP]at HA|-;obtain⟨y,cd,ns'⟩:=P;simp only at HN HA|-;unfold KU at HA;simp only at HA;have HH:=yY H1 qW bW H.xm hW;have HS:=hid (show W.heap.size=w.heap.size+1+1 by rw[hW];simp);rw[hW]at c0 c1 c2 c3 b0 b1 z0 z1 z2 d0 e0 y0 y1 y2 HA;clear kW2 H H1 qW bW hI hG hS hgl hos hP bV hW;obtain⟨o,ho⟩:∃o,o=(if cd=0 then okV y left {s with ns:=ns'}else bad cd left {s with ns:=ns'}):=⟨_,rfl⟩;rw[<-ho];have HO:=hid ho;clear ho;go_enter func310,ntmps310;go_wp2;go_cut [7,8]from 9 to 21 (fun p c wx=>∃k2 Y4 Y3 a cc,p= .pointer (some ⟨k2,0,none⟩)/\c= .int .i64 cd/\Hid (AX M X q ⟨Y4,Y3,q.l⟩ {s with ns:=ns',os:=s.os} left calls (w.heap.size+1) k2 y a cc W wx));case first=>
  go_region_with (go_at_call 313;first
   |(refine(HA.out _ ((Kp.drew _).trans (Kp.alloc _ (.cells #[.int .i64 0,.int .i64 0,.slice none 0 0] 71)))).mono ?_;rintro e w2 ⟨a,c,Y4,Y3,rfl,hs,hg,hgo⟩;rw[<-HH.out.2.2.2.2]at hgo hs;have HX:=hid (UO HH.out.1 HH.out.2.2.1 HS.out hgo hg HN.out hs);obtain⟨m0,m1,m2⟩:=aM HX.out.2.2.1;obtain⟨f0,f1,f2⟩:=bI HX.out.2.2.1;have hz:=ae HX.out.2.2.1;obtain⟨l0,l1,l2⟩:=aM HX.out.2.2.2.1;obtain⟨g0,g1,g2⟩:=bI HX.out.2.2.2.1;have hz2:=ae HX.out.2.2.2.1;clear hs hg hgo)
   |(refine(HA.out _ (Kp.drew _)).mono ?_;rintro e w2 ⟨a,c,Y4,Y3,rfl,hs,hg,hgo⟩;rw[<-HH.out.2.2.2.2]at hgo hs;have HX:=hid (Uh HH.out.1 HH.out.2.2.1 hgo hg HN.out hs);obtain⟨m0,m1,m2⟩:=aM HX.out.2.2.1;obtain⟨f0,f1,f2⟩:=bI HX.out.2.2.1;have hz:=ae HX.out.2.2.1;clear hs hg hgo))
  all_goals
   go_wp2_with fail;go_meet;first
    |exact⟨_,Y4,Y3,a,c,rfl,rfl,WI c (by omega) (by rw[HS.out];omega) HH.out.2.2.2.1 HX.out⟩
    |exact⟨_,Y4,Y3,a,c,rfl,rfl,XM c HX.out⟩
 case rest=>
  obtain⟨k2,Y4,Y3,a,cc,rfl,rfl,HX⟩:=hcut;obtain⟨l0,l1,l2⟩:=aM HX.out.b2;obtain⟨m0,m1,m2⟩:=aM HX.out.b1;obtain⟨f0,f1,f2⟩:=bI HX.out.b1;have hz:=ae HX.out.b1;clear d0 e0 y0 y1 y2 c0 c1 c2 c3 b0 b1 z0 z1 z2;by_cases hc:cd=0
  ·subst hc;go_wp2_with (go_at_call 287;refine(fT _ _).mono ?_;rintro e w4 ⟨rfl,h4⟩;replace h4:=h4.symm;subst h4);refine au (v:= .agg #[.int .i64 y.kind,.int .i64 y.n,.slice a y.l.length cc]) (by simp[results,results310,go_sem,m0,m1,m2]) rfl ?_;have hk:=dE wc (w.heap.size+1) (.int .i64 y.kind) (.int .i64 y.n) (.slice a y.l.length cc);have ho:=HO.out;rw[ag trivial]at ho;subst ho;exact MQ.ZZ (q':=⟨Y4,Y3,q.l⟩) (v:=y) (ao:=a) (cap:=cc) rfl ((HX.out.g.after HH.out.2.1).fresh (hk.mono fun k _ e=>by omega)) (HX.out.m.aai hk HX.out.b1 HH.out.2.2.2.1) rfl (pz HX.out.safe hk)
  ·have hcb:(cd==0)=false:=(by simpa using hc);have HC:=hid hc;clear hc;go_wp2_with (go_at_call 287;refine(jH _ _).mono ?_;rintro e w4 ⟨rfl,h4⟩;replace h4:=h4.symm;subst h4);refine⟨rfl, ?_⟩;have ho:=HO.out;rw[af HC.out]at ho;subst ho;exact MQ.Y9 (q':=⟨Y4,Y3,q.l⟩) (calls':=calls) rfl (HX.out.g.after HH.out.2.1) (HX.out.m.less (fun k e=> .inl e) HH.out.2.2.2.1) rfl
end
