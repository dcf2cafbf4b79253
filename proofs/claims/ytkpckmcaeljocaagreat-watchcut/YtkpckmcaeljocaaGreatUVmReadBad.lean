/- Parts. -/
import Derived.Test.YtkpckmcaeljocaaGreatUM1
namespace Go.Proofs.YtkpckmcaeljocaaGreat
open Go.ChangeShapes Go.WideShapes Go.ChangeAt Go.RowKit
open Gr (Nd Res nd0 thereB deriveOf addOf gateOf cutOf rightsN wayOf gatesOf gatesW targetOf Wf NdOk GS IntsAt)
section
variable {C : Cx} {q : Vs} {s : Sg} {left : Nat} {R : Rw} {w : World}
set_option maxRecDepth 8000 in
set_option maxHeartbeats 4000000 in
theorem xread_bad (H : FrS C q s left R w) (n c : Int) (hc : cellR s (capV n) 0 = .error c) : Calls Tryz.prog 161 #[.pointer (some ⟨C.fb, 0, none⟩), .int .i64 n] w fun e w' => MQ C.m (C.x R) q C.fr (bad c left s) w e w' := by
  obtain ⟨W, hW⟩ : ∃ W, W = w.alloc (.cells #[.int .i64 0, .int .i64 0, .slice none 0 0] 38) := ⟨_, rfl⟩
  have qW : Quiet w W := by rw [hW]; exact Kp.alloc _ _
  have H1 := H.quiet qW
  obtain ⟨s0, s1, s2, s3, s4⟩ := same3_cells H1 (same3_q H1 (Kp.refl _ _))
  have HC := hid (fun (w' : World) (k : Quiet W w') => xcell_any (H1.quiet k).m (.inl ⟨rfl, rfl⟩ : RBit 0 1) n)
  rw [hc] at HC
  have HH := hid (And.intro H (And.intro qW H1.m))
  clear H H1 hc
  go_enter Tryz.func161, Tryz.ntmps161
  go_wp2
  rw [← hW]
  clear hW
  go_region_dies
  all_goals (refine (HC.out _ (Kp.drew _)).mono ?_; rintro e w3 ⟨rfl, q3⟩; exact ⟨rfl, MQ.mk_bad (q' := q) (calls' := C.fr) rfl (GoesM.quiet _ _ (HH.out.2.1.trans ((Kp.drew _).trans q3))) (HH.out.2.2.quiet ((Kp.drew _).trans q3)) rfl⟩)
end
end Go.Proofs.YtkpckmcaeljocaaGreat
