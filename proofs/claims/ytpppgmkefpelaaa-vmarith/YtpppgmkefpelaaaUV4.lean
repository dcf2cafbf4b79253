/- The contract of vals.Own: what it answers stays, whatever some old blocks become. -/
import Derived.Test.YtpppgmkefpelaaaUOwnWalk
import Derived.Test.YtpppgmkefpelaaaUV2
import Derived.Test.YtpppgmkefpelaaaUP0
namespace Go.Proofs.Ytpppgmkefpelaaa
open Go.ChangeShapes Go.WideShapes Go.ChangeAt Go.RowKit
theorem keeps_kp {w w' : World} {R : Nat → Bool} {h : Nat} (q : Kp (fun k => R k = true) w w') (hh : h ≤ w.heap.size) : Keeps R h w w' :=
  ⟨fun k hr hk => q.block k (by omega) (by simp [hr]), fun k _ _ hr e => (q.block k (lt_of_block e) (by simp [hr])).trans e⟩
/-- The blocks of F that are old, and one more. -/
def SetR (F : Nat → Prop) (n x : Nat) (R : Nat → Bool) : Prop := ∀ k, R k = true ↔ ((F k ∧ k < n) ∨ k = x)
theorem setR_ex (F : Nat → Prop) (n x : Nat) : ∃ R, SetR F n x R := by
  classical
  exact ⟨fun k => decide ((F k ∧ k < n) ∨ k = x), fun k => decide_eq_true_iff⟩
theorem SetR.no {F : Nat → Prop} {n x k : Nat} {R : Nat → Bool} (hR : SetR F n x R) (h : ¬ F k) (hx : k ≠ x) : R k = false := by
  cases e : R k with
  | false => rfl
  | true => rcases (hR k).1 e with e | e; exact absurd e.1 h; exact absurd e hx
theorem SetR.yes {F : Nat → Prop} {n x k : Nat} {R : Nat → Bool} (hR : SetR F n x R) (h : R k = false) (hk : k < n) : ¬ F k := fun e => by
  rw [(hR k).2 (.inl ⟨e, hk⟩)] at h; cases h
/-- The old memory without blocks of F: what stays whatever these become lies there. -/
theorem cut_kp {F : Nat → Prop} {w W : World} {x : Nat} {R : Nat → Bool} (hR : SetR F w.heap.size x R) (q : Quiet w W) (hx : w.heap.size ≤ x) : Kp F w (cutV R W.heap.size W) := by
  refine ⟨q.os, q.tape, q.output, by simpa [cutV] using q.size, fun k hk hF => ?_⟩
  rw [cutV_old (hR.no hF (by omega)) (by have := q.size; omega)]
  exact q.block k hk fun e => e
theorem uncut_safe {F : Nat → Prop} {n h x : Nat} {w : World} {v : V} {ao : Option Addr} {R : Nat → Bool} (hR : SetR F n x R) (hF : ∀ k, F k → k < n) (hi : Is (cutV R h w) v ao) : SafeF F (fun w => Is w v ao) w := by
  intro w2 k2
  refine hi.kept fun a u hc => ?_
  obtain ⟨h1, h2, _⟩ := cutV_cell hc
  refine k2.cell h1 fun e => ?_
  exact hR.yes h2 (hF _ e) e
set_option maxRecDepth 8000 in
set_option maxHeartbeats 1000000 in
theorem ownS_any (F : Nat → Prop) (v : V) (ao : Option Addr) (cap : Nat) (w : World) (hF : ∀ k, F k → k < w.heap.size) (hI : SafeF F (fun w => Is w v ao) w) (hS : v.size ≤ 500) :
    Calls Try.prog 26 #[.agg #[.int .i64 v.kind, .int .i64 v.n, .slice ao v.l.length cap]] w fun e w' => ∃ ao' cap', e = .returned (.agg #[.int .i64 v.kind, .int .i64 v.n, .slice ao' v.l.length cap']) ∧ SafeF F (fun w => Is w v ao') w' ∧ Quiet w w' := by
  obtain ⟨W, hW⟩ : ∃ W, W = ((w.alloc (.cells #[.int .i64 v.kind, .int .i64 v.n, .slice ao v.l.length cap] 40)).alloc (.cells #[.int .i64 0, .int .i64 0, .slice none 0 0] 40)).alloc (.cells #[.int .i64 v.kind, .int .i64 v.n, .slice ao v.l.length cap] 40) := ⟨_, rfl⟩
  have q3 : Quiet w W := by rw [hW]; exact (Kp.alloc _ _).trans ((Kp.alloc _ _).trans (Kp.alloc _ _))
  have sW : W.heap.size = w.heap.size + 3 := by rw [hW]; simp
  have b1 : W.heap[w.heap.size + 1]? = some (.cells #[.int .i64 0, .int .i64 0, .slice none 0 0] 40 (0, 0)) := by
    rw [hW, Below.heap_alloc _ _ _ (by simp)]; exact heap_two w _ _
  have b2 : W.heap[w.heap.size + 2]? = some (.cells #[.int .i64 v.kind, .int .i64 v.n, .slice ao v.l.length cap] 40 (0, 0)) := by
    rw [hW]; have := heap_alloc_new ((w.alloc (.cells #[.int .i64 v.kind, .int .i64 v.n, .slice ao v.l.length cap] 40)).alloc (.cells #[.int .i64 0, .int .i64 0, .slice none 0 0] 40)) (.cells #[.int .i64 v.kind, .int .i64 v.n, .slice ao v.l.length cap] 40); simpa using this
  obtain ⟨R, hR⟩ := setR_ex F w.heap.size (w.heap.size + 1)
  have hRn : ∀ k, w.heap.size ≤ k → k ≠ w.heap.size + 1 → R k = false := fun k h1 h2 => hR.no (fun e => by have := hF k e; omega) h2
  have hF1 : Fo (cutV R W.heap.size W) [v] (some ⟨w.heap.size + 2, 0, none⟩) := by
    refine fo_single (ao := ao) (cap := cap) ?_ (hI _ (cut_kp hR q3 (by omega)))
    rw [cutV_old (hRn _ (by omega) (by omega)) (by omega)]; exact b2
  have hr0 : ∀ k, R k = true → k < W.heap.size := by
    intro k e
    rcases Nat.lt_or_ge k W.heap.size with h | h
    · exact h
    · rw [hRn k (by omega) (by omega)] at e; cases e
  have HO := hid (own_any [v] (some ⟨w.heap.size + 2, 0, none⟩) 1 R W hr0 hF1 (by rw [sizes_one]; omega))
  rw [List.length_singleton] at HO
  have HB := hid (And.intro q3 (And.intro sW b1))
  have HW := hid hW
  have HR := hid (And.intro hR hF)
  rw [hW] at HO
  clear b1 b2 hF1 q3 sW hW hI hr0 hRn hR hF
  go_enter Try.func26, Try.ntmps26
  go_wp2_with (go_at_call 40; refine HO.out.mono ?_; rintro e w3 ⟨a3, c3, rfl, f3, q3⟩; rw [← HW.out] at f3 q3; obtain ⟨b, off, rfl, hh, ai, ci, cs, hci⟩ := f3.get 0 (by simp); simp only [List.getElem_cons_zero, Nat.zero_mul, Nat.add_zero] at hh cs hci; obtain ⟨d0, d1⟩ := head_kept (fun a x hc => (cutV_cell hc).1) hh; have ds := (cutV_cell cs).1; have hb3 := (q3.block _ (lt_of_block HB.out.2.2) (fun e => e)).trans HB.out.2.2; obtain ⟨r0, r1, rs⟩ := box_cells hb3; have f0 := frozen_of_row w3 (w.heap.size + 1) 0 _ 40 hb3; have f1 := frozen_of_row w3 (w.heap.size + 1) 1 _ 40 hb3; have f2 := frozen_of_row w3 (w.heap.size + 1) 2 _ 40 hb3; have hz3 := lt_of_block hb3; have HC := hid hci; clear hci hh cs f3 hb3)
  refine bodyPost_ret (v := .agg #[.int .i64 v.kind, .int .i64 v.n, .slice ai v.l.length ci]) (by simp [results, Try.results26, go_sem, r0, r1, rs]) rfl ?_
  have qz : Kp (fun k => k = w.heap.size + 1) w3 (((w3.setCell ⟨w.heap.size + 1, 0, none⟩ (.int .i64 v.kind)).setCell ⟨w.heap.size + 1, 1, none⟩ (.int .i64 v.n)).setCell ⟨w.heap.size + 1, 2, none⟩ (.slice ai v.l.length ci)) := ((kp_set _ _ _ _).trans (kp_set _ _ _ _)).trans (kp_set _ _ _ _)
  have qr : Kp (fun k => R k = true) w3 (((w3.setCell ⟨w.heap.size + 1, 0, none⟩ (.int .i64 v.kind)).setCell ⟨w.heap.size + 1, 1, none⟩ (.int .i64 v.n)).setCell ⟨w.heap.size + 1, 2, none⟩ (.slice ai v.l.length ci)) := qz.mono fun k _ e => (HR.out.1 k).2 (.inr e)
  refine ⟨ai, ci, rfl, ?_, (HB.out.1.trans q3).fresh (qz.mono fun k _ e => by omega)⟩
  have h1 := HC.out.kept (keeps_kp qr (by have := q3.size; omega)).cell
  exact uncut_safe HR.out.1 HR.out.2 h1
end Go.Proofs.Ytpppgmkefpelaaa
