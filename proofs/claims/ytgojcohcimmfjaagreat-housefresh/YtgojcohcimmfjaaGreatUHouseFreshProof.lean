/- Proved: for every list l of steps and every step x, letterlocklaw.HouseFresh returns true: behind a loading a plugin keeps nothing, its hand is as it was, and all others keep what they kept.
  No condition beyond the row's own. -/
import Derived.Test.YtgojcohcimmfjaaGreatRows
import Derived.Test.YtgojcohcimmfjaaGreatUV2
import Derived.Test.YtgojcohcimmfjaaGreatUFreshWalk
import Derived.Test.YtgojcohcimmfjaaGreatUV9
import Derived.ProofKit
import Derived.SizedLaws
import Derived.Carry
namespace Go.Proofs.YtgojcohcimmfjaaGreat.houseFresh
open Go.ChangeShapes Go.WideShapes Go.ChangeAt Go.RowKit

theorem own : ownKnob Tryz.prog.godebug = none := by kernel_rfl
theorem laidOut : laidOutB Tryz.prog = true := by kernel_rfl

set_option maxRecDepth 100000 in
theorem lifted (hN : HNewC) (hD : HDoC) (hH : HHandC) (hK : HKeptC) (os : Os) (started : os.Started) (H : Type) (enc : TypeId × Value → H) :
    ReturnsInHanded {} Tryz.checked os 4 .any (Rows.houseFreshSpec.pre6 enc Tryz.prog Tryz.f4 Rows.houseFreshRow.domain false) (Rows.houseFreshSpec.post enc Tryz.prog Tryz.f4 false true false false) := by
  refine returnsInHanded_of_change (C := Tryz.checked) own started (by kernel_rfl) Tryz.func4
    (ChangeSpec.witness6 (enc := enc) (C := Tryz.checked) false ⟨#[], #[.slice none 0 0, .agg #[.int .i64 0, .int .i64 0, .int .i64 0, .int .i64 0, .int .i64 0, .int .i64 0, .int .i64 0, .int .i64 0, .slice none 0 0]], []⟩ 8 (by kernel_rfl) (by kernel_rfl) (by kernel_rfl) (by kernel_rfl)) ?_
  intro W base args ds gs before hval0 hW hcnd _
  have hval : ∀ (j : Nat) t v, Tryz.f4.params[j]? = some t → args[j]? = some v → Value.okWide Tryz.prog W .any base t v := hval0
  have hW' := hW
  obtain ⟨p, q, hA0, hV, rfl, hfz, hnd⟩ := hW
  have hA : DataW.TrodAll enc Tryz.prog W 0 (fun _ => true) true Tryz.f4.params.toList args.toList ds p := hA0
  rw [Tryz.params4] at hA hval
  obtain ⟨v0, vs0, d0, ds0, p0, q0, hargs, rfl, rfl, h0, r0⟩ := trodAll_cons hA
  obtain ⟨v1, vs1, d1, ds1, p1, q1, rfl, rfl, rfl, h1, r1⟩ := trodAll_cons r0
  obtain ⟨rfl, rfl, rfl⟩ := trodAll_nil r1
  obtain rfl : args = #[v0, v1] := by cases args; simp_all
  obtain ⟨rfl, rfl⟩ := trodVars_none hV
  have h0k := h0
  have h1k := h1
  obtain ⟨sa, sl, sc, rfl⟩ := okWide_slice Tryz.underlying22 (hval 0 22 v0 rfl rfl)
  obtain ⟨cs1, hcs1, _⟩ := okWide_struct Tryz.underlying39 (hval 1 39 v1 rfl rfl)
  obtain ⟨ss, rfl, hS⟩ := openStepsz h0 (fun b off hp => hfz b off (by simp [hp]))
  obtain ⟨x, rfl, hx⟩ := openStepz ⟨cs1, hcs1⟩ h1 (fun b off hp => hfz b off (by simp [hp]))
  clear hcs1
  clear hA0 hval0
  simp only [List.append_nil] at hW'
  have hlt : ∀ x ∈ p0 ++ p1, x.block < W.heap.size := fun x hx => by simpa using hW'.lt x (by simpa using hx)
  refine (freshLaw hN hD hH hK W ss sa sc x hS hx).mono fun e W' ⟨he, hg⟩ => ?_
  subst he
  exact ⟨_, rfl, _, _, _, [], p0 ++ (p1 ++ []), [], hW', trodAll_cons_mk (shut_bool Tryz.underlying4 _) trodAll_mk0, trodAll_cons_mk (Below.trod laidOut (by kernel_rfl) (of_decide_eq_true (by kernel_rfl)) h0k hg fun y hy => hlt y (by simp [hy])) (trodAll_cons_mk (Below.trod laidOut (by kernel_rfl) (of_decide_eq_true (by kernel_rfl)) h1k hg fun y hy => hlt y (by simp [hy])) trodAll_mk0), rfl, hg.frame _, fun h => by cases h⟩

theorem over (hN : HNewC) (hD : HDoC) (hH : HHandC) (hK : HKeptC) : Rows.houseFreshRow.holds Tryz.pinned (OpenSpec.ofChange Rows.houseFreshSpec) :=
  OpenClaim.holds_of_wide 4 Tryz.f4 rfl rfl rfl rfl rfl rfl rfl ⟨rfl, rfl, rfl, rfl, rfl⟩ rfl rfl rfl rfl rfl (by kernel_rfl) Tryz.func4 (by kernel_rfl)
    (of_decide_eq_true (by kernel_rfl)) (by unfold Func.isWrapper; first | (rw [if_pos (by decide +kernel)]; kernel_rfl) | (rw [if_neg (by decide +kernel)]; exact ⟨rfl, rfl⟩))
    (fun os started H enc _ => lifted hN hD hH hK os started H enc)

/-- ████ THE STATEMENT ████ -/
theorem proved : Rows.HouseFreshSaid :=
  over hnew_c hdo_c hhand_c hkept_c
#print axioms proved
end Go.Proofs.YtgojcohcimmfjaaGreat.houseFresh
namespace Go.Proofs.YtgojcohcimmfjaaGreat
theorem houseFresh_holds : Rows.HouseFreshSaid := houseFresh.proved
end Go.Proofs.YtgojcohcimmfjaaGreat
