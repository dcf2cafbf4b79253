/- Parts. -/
import Derived.Test.YtpeakfcbihoknaaGreatDoorUM0
open Go.ChangeShapes Go.WideShapes Go.ChangeAt Go.RowKit
set_option maxRecDepth 8000
set_option maxHeartbeats 4000000
namespace Go.Proofs.YtpeakfcbihoknaaGreatDoor
open Proofs.Tryz
open Gr (Nd ZH nd0 YT aS dJ bJ dV bS Y0 bN eX YS Wf jg GS fJ)
section
variable{C:Cx}{q:Vs}{s:Sg}{left:Nat}{R:Rw}{w:World}
theorem IY(H:Zb C q s left R w)(n x c:Int)(hc:iG s (iw n) 1= .error c):Calls prog 296 #[.pointer (some ⟨C.fb,0,none⟩),.int .i64 n,.int .i64 x] w fun e w'=>MQ C.m (C.x R) q C.fr (bad c left s) w e w':=by
 obtain⟨W,hW⟩:∃W,W=w.alloc (.cells #[.int .i64 0,.int .i64 0,.slice none 0 0] 71):=⟨_,rfl⟩;have qW:aA w W:=by rw[hW];exact Kp.alloc _ _
 have H1:=H.quiet qW;obtain⟨s0,s1,s2,s3,s4⟩:=ja H1 (mK H1 (Kp.refl _ _));have HC:=hid (fun(w':World) (k:aA W w')=>uA (H1.quiet k).m (.inr (.inl ⟨rfl,rfl⟩):nT 1 2) n);rw[hc]at HC;have HH:=gp H qW H1.m;clear H H1 hc;go_enter func296,ntmps296;go_wp2;rw[<-hW];clear hW;go_region_dies;all_goals(refine(HC.out _ (Kp.drew _)).mono ?_;rintro e w3 ⟨rfl,q3⟩;exact⟨rfl,MQ.Y9 (q':=q) (calls':=C.fr) rfl (dG.quiet _ _ (HH.out.2.1.trans ((Kp.drew _).trans q3))) (HH.out.2.2.quiet ((Kp.drew _).trans q3)) rfl⟩)
end
