/- Proved: for all lists l and m of steps and every number p, letterlocklaw.WatchCut returns true: a plugin all of whose capabilities were given through one gate, and whose functions nobody may ask, adds nothing to the log once the gate was cut, and none of its calls asks another plugin.
  No condition beyond the row's own. -/
import Derived.Test.YtkpckmcaeljocaaGreatUV12
import Derived.Test.YtkpckmcaeljocaaGreatUV11
import Derived.SizedLaws
namespace Go.Proofs.YtkpckmcaeljocaaGreat.watchCut
open Go.ChangeShapes Go.WideShapes Go.ChangeAt Go.RowKit
theorem own : ownKnob Tryz.prog.godebug = none := by kernel_rfl
theorem laidOut : laidOutB Tryz.prog = true := by kernel_rfl
set_option maxRecDepth 100000 in
theorem lifted {T : WT} (hN : WNewC T) (hD : WDoC T) (hM : WMayC T) (hH : HHandC) (os : Os) (started : os.Started) (H : Type) (enc : TypeId × Value → H) :
    ReturnsInHanded {} Tryz.checked os 5 .any (Rows.watchCutSpec.pre6 enc Tryz.prog Tryz.f5 Rows.watchCutRow.domain false) (Rows.watchCutSpec.post enc Tryz.prog Tryz.f5 false true false false) := by
  refine returnsInHanded_of_change (C := Tryz.checked) own started (by kernel_rfl) Tryz.func5
    (ChangeSpec.witness6 (enc := enc) (C := Tryz.checked) false ⟨#[], #[.slice none 0 0, .slice none 0 0, .int .i64 0], []⟩ 8 (by kernel_rfl) (by kernel_rfl) (by kernel_rfl) (by kernel_rfl)) ?_
  intro W base args ds gs before hval0 hW hcnd _
  have hval : ∀ (j : Nat) t v, Tryz.f5.params[j]? = some t → args[j]? = some v → Value.okWide Tryz.prog W .any base t v := hval0
  have hW' := hW
  obtain ⟨p, q, hA0, hV, rfl, hfz, hnd⟩ := hW
  have hA : DataW.TrodAll enc Tryz.prog W 0 (fun _ => true) true Tryz.f5.params.toList args.toList ds p := hA0
  rw [Tryz.params5] at hA hval
  obtain ⟨v0, vs0, d0, ds0, p0, q0, hargs, rfl, rfl, h0, r0⟩ := trodAll_cons hA
  obtain ⟨v1, vs1, d1, ds1, p1, q1, rfl, rfl, rfl, h1, r1⟩ := trodAll_cons r0
  obtain ⟨v2, vs2, d2, ds2, p2, q2, rfl, rfl, rfl, h2, r2⟩ := trodAll_cons r1
  obtain ⟨rfl, rfl, rfl⟩ := trodAll_nil r2
  obtain rfl : args = #[v0, v1, v2] := by cases args; simp_all
  obtain ⟨rfl, rfl⟩ := trodVars_none hV
  have h0k := h0
  have h1k := h1
  have h2k := h2
  obtain ⟨sa, sl, sc, rfl⟩ := okWide_slice Tryz.underlying22 (hval 0 22 v0 rfl rfl)
  obtain ⟨ya, yl, yc, rfl⟩ := okWide_slice Tryz.underlying22 (hval 1 22 v1 rfl rfl)
  obtain ⟨ss, rfl, hS⟩ := openStepsz h0 (fun b off hp => hfz b off (by simp [hp]))
  obtain ⟨ys, rfl, hY⟩ := openStepsz h1 (fun b off hp => hfz b off (by simp [hp]))
  obtain ⟨n2, rfl, _, _, _⟩ := open_int Tryz.underlying3 (hval 2 3 v2 rfl rfl) h2
  clear hA0 hval0
  simp only [List.append_nil] at hW'
  have hlt : ∀ x ∈ p0 ++ (p1 ++ p2), x.block < W.heap.size := fun x hx => by simpa using hW'.lt x (by simpa using hx)
  refine (cutLaw hN hD hM hH W ss ys sa ya sc yc n2 hS hY).mono fun e W' ⟨he, hg⟩ => ?_
  subst he
  exact ⟨_, rfl, _, _, _, [], p0 ++ (p1 ++ (p2 ++ [])), [], hW', trodAll_cons_mk (shut_bool Tryz.underlying4 _) trodAll_mk0, trodAll_cons_mk (Below.trod laidOut (by kernel_rfl) (of_decide_eq_true (by kernel_rfl)) h0k hg fun y hy => hlt y (by simp [hy])) (trodAll_cons_mk (Below.trod laidOut (by kernel_rfl) (of_decide_eq_true (by kernel_rfl)) h1k hg fun y hy => hlt y (by simp [hy])) (trodAll_cons_mk (Below.trod laidOut (by kernel_rfl) (of_decide_eq_true (by kernel_rfl)) h2k hg fun y hy => hlt y (by simp [hy])) trodAll_mk0)), rfl, hg.frame _, fun h => by cases h⟩
theorem over {T : WT} (hN : WNewC T) (hD : WDoC T) (hM : WMayC T) (hH : HHandC) : Rows.watchCutRow.holds Tryz.pinned (OpenSpec.ofChange Rows.watchCutSpec) :=
  OpenClaim.holds_of_wide 5 Tryz.f5 rfl rfl rfl rfl rfl rfl rfl ⟨rfl, rfl, rfl, rfl, rfl⟩ rfl rfl rfl rfl rfl (by kernel_rfl) Tryz.func5 (by kernel_rfl)
    (of_decide_eq_true (by kernel_rfl)) (by unfold Func.isWrapper; first | (rw [if_pos (by decide +kernel)]; kernel_rfl) | (rw [if_neg (by decide +kernel)]; exact ⟨rfl, rfl⟩))
    (fun os started H enc _ => lifted hN hD hM hH os started H enc)
theorem proved : Rows.WatchCutSaid :=
  over ynew_c ydo_c ymay_c hhand_c
#print axioms proved
end Go.Proofs.YtkpckmcaeljocaaGreat.watchCut
namespace Go.Proofs.YtkpckmcaeljocaaGreat
theorem watchCut_holds : Rows.WatchCutSaid := watchCut.proved
end Go.Proofs.YtkpckmcaeljocaaGreat
