/- Proved: for every list l of steps, letterlocklaw.WatchGiven returns true: each entry of the log is of a plugin that was given a capability of that very cell with that right, or is linked with one that was; and the capability that it names leads to that cell, and has that right on its whole way.
  No condition beyond the row's own. -/
import Derived.Test.YtkpckmcaeljocaaGreatUGivenWalk
import Derived.Test.YtkpckmcaeljocaaGreatUV11
import Derived.SizedLaws
namespace Go.Proofs.YtkpckmcaeljocaaGreat.watchGiven
open Go.ChangeShapes Go.WideShapes Go.ChangeAt Go.RowKit
theorem own : ownKnob Tryz.prog.godebug = none := by kernel_rfl
theorem laidOut : laidOutB Tryz.prog = true := by kernel_rfl
set_option maxRecDepth 100000 in
theorem lifted {T : WT} (hN : WNewC T) (hD : WDoC T) (hM : WMayC T) (hH : HHandC) (os : Os) (started : os.Started) (H : Type) (enc : TypeId × Value → H) :
    ReturnsInHanded {} Tryz.checked os 4 .any (Rows.watchGivenSpec.pre6 enc Tryz.prog Tryz.f4 Rows.watchGivenRow.domain false) (Rows.watchGivenSpec.post enc Tryz.prog Tryz.f4 false true false false) := by
  refine returnsInHanded_of_change (C := Tryz.checked) own started (by kernel_rfl) Tryz.func4
    (ChangeSpec.witness6 (enc := enc) (C := Tryz.checked) false ⟨#[], #[.slice none 0 0], []⟩ 8 (by kernel_rfl) (by kernel_rfl) (by kernel_rfl) (by kernel_rfl)) ?_
  intro W base args ds gs before hval0 hW hcnd _
  have hval : ∀ (j : Nat) t v, Tryz.f4.params[j]? = some t → args[j]? = some v → Value.okWide Tryz.prog W .any base t v := hval0
  have hW' := hW
  obtain ⟨p, q, hA0, hV, rfl, hfz, hnd⟩ := hW
  have hA : DataW.TrodAll enc Tryz.prog W 0 (fun _ => true) true Tryz.f4.params.toList args.toList ds p := hA0
  rw [Tryz.params4] at hA hval
  obtain ⟨v0, vs0, d0, ds0, p0, q0, hargs, rfl, rfl, h0, r0⟩ := trodAll_cons hA
  obtain ⟨rfl, rfl, rfl⟩ := trodAll_nil r0
  obtain rfl : args = #[v0] := by cases args; simp_all
  obtain ⟨rfl, rfl⟩ := trodVars_none hV
  have h0k := h0
  obtain ⟨sa, sl, sc, rfl⟩ := okWide_slice Tryz.underlying22 (hval 0 22 v0 rfl rfl)
  have hcap := openStepsC h0
  obtain ⟨ss, rfl, hS⟩ := openStepsz h0 (fun b off hp => hfz b off (by simp [hp]))
  clear hA0 hval0
  simp only [List.append_nil] at hW'
  have hlt : ∀ x ∈ p0, x.block < W.heap.size := fun x hx => by simpa using hW'.lt x (by simpa using hx)
  refine (givenLaw hN hD hM hH W ss sa sc hS hcap).mono fun e W' ⟨he, hg⟩ => ?_
  subst he
  exact ⟨_, rfl, _, _, _, [], p0 ++ [], [], hW', trodAll_cons_mk (shut_bool Tryz.underlying4 _) trodAll_mk0, trodAll_cons_mk (Below.trod laidOut (by kernel_rfl) (of_decide_eq_true (by kernel_rfl)) h0k hg fun y hy => hlt y (by simp [hy])) trodAll_mk0, rfl, hg.frame _, fun h => by cases h⟩
theorem over {T : WT} (hN : WNewC T) (hD : WDoC T) (hM : WMayC T) (hH : HHandC) : Rows.watchGivenRow.holds Tryz.pinned (OpenSpec.ofChange Rows.watchGivenSpec) :=
  OpenClaim.holds_of_wide 4 Tryz.f4 rfl rfl rfl rfl rfl rfl rfl ⟨rfl, rfl, rfl, rfl, rfl⟩ rfl rfl rfl rfl rfl (by kernel_rfl) Tryz.func4 (by kernel_rfl)
    (of_decide_eq_true (by kernel_rfl)) (by unfold Func.isWrapper; first | (rw [if_pos (by decide +kernel)]; kernel_rfl) | (rw [if_neg (by decide +kernel)]; exact ⟨rfl, rfl⟩))
    (fun os started H enc _ => lifted hN hD hM hH os started H enc)
theorem proved : Rows.WatchGivenSaid :=
  over ynew_c ydo_c ymay_c hhand_c
#print axioms proved
end Go.Proofs.YtkpckmcaeljocaaGreat.watchGiven
namespace Go.Proofs.YtkpckmcaeljocaaGreat
theorem watchGiven_holds : Rows.WatchGivenSaid := watchGiven.proved
end Go.Proofs.YtkpckmcaeljocaaGreat
