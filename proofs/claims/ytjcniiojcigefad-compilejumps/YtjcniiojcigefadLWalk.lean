/- What a lister lists: let, choice, plain, expr. -/
import Derived.Test.YtjcniiojcigefadLMem
import Derived.Laws.OwnMore
namespace Go.Proofs.Ytjcniiojcigefad
open Go.ChangeShapes Go.WideShapes Go.ChangeAt Go.RowKit
/-- What is asked of expr at an expression. -/
def ExprL (w0 : World) (b : Nat) (v : V) : Prop := ∀ (ao : Option Addr) (cap : Nat) (c : List Ik) (w : World), Is w0 v ao → Ok v → Below w0.heap.size w0 w → w0.heap.size ≤ b → Lst b c w → c.length + 3 * v.size ≤ 8000000 →
    Calls Try.prog 16 #[.pointer (some ⟨b, 0, none⟩), .agg #[.int .i64 v.kind, .int .i64 v.k, .int .i64 v.n, .slice ao v.l.length cap]] w fun e w' => e = .returned (.tuple #[]) ∧ Lst b (c ++ v.code c.length) w' ∧ KI b w w'
theorem Lst.ex {b : Nat} {c : List Ik} {w : World} (h : Lst b c w) : ∃ d, d = c ∧ Lst b d w := ⟨c, rfl, h⟩
theorem low_ki {w0 w w' : World} {b : Nat} (h : Below w0.heap.size w0 w) (k : KI b w w') (hb : w0.heap.size ≤ b) : Below w0.heap.size w0 w' := h.trans (k.low.mono hb)
set_option maxRecDepth 8000 in
set_option maxHeartbeats 2000000 in
theorem llet_of (w0 : World) (b : Nat) (v u : V) (hv : ExprL w0 b v) (hu : ExprL w0 b u) (va ua : Option Addr) (vc uc : Nat) (c : List Ik) (w : World) (iv : Is w0 v va) (iu : Is w0 u ua) (ov : Ok v) (ou : Ok u)
    (hB : Below w0.heap.size w0 w) (hb : w0.heap.size ≤ b) (h : Lst b c w) (hl : c.length + 3 * v.size + 3 * u.size + 2 ≤ 8000000) :
    Calls Try.prog 23 #[.pointer (some ⟨b, 0, none⟩), .agg #[.int .i64 v.kind, .int .i64 v.k, .int .i64 v.n, .slice va v.l.length vc], .agg #[.int .i64 u.kind, .int .i64 u.k, .int .i64 u.n, .slice ua u.l.length uc]] w fun e w' => e = .returned (.tuple #[]) ∧ Lst b (c ++ letC v u c.length) w' ∧ KI b w w' := by
  obtain ⟨W, hW⟩ : ∃ W, W = (w.alloc (.cells #[.int .i64 v.kind, .int .i64 v.k, .int .i64 v.n, .slice va v.l.length vc] 38)).alloc (.cells #[.int .i64 u.kind, .int .i64 u.k, .int .i64 u.n, .slice ua u.l.length uc] 38) := ⟨_, rfl⟩
  have q : Quiet w W := by rw [hW]; exact (Kp.alloc _ _).trans (Kp.alloc _ _)
  have hlt := h.lt
  have b1 : W.heap[w.heap.size + 1]? = some (.cells #[.int .i64 u.kind, .int .i64 u.k, .int .i64 u.n, .slice ua u.l.length uc] 38 (0, 0)) := by rw [hW]; exact heap_two w _ _
  have HBX := hid (fun (w' : World) (k : KI b W w') => box_cells (k.box b1 (by omega) (by decide)))
  have HW := hid (And.intro hW (KI.quiet q (Nat.le_of_lt hlt)))
  have HV := hid (hv va vc c W iv ov (low_ki hB (KI.quiet q (Nat.le_of_lt hlt)) hb) hb (h.quiet q) (by omega))
  have HB := hid (low_ki hB (KI.quiet q (Nat.le_of_lt hlt)) hb)
  have HU := hid (fun (d : List Ik) (w' : World) (k : Below w0.heap.size w0 w') (h : Lst b d w') (hd : d.length + 3 * u.size ≤ 8000000) => hu ua uc d w' iu ou k hb h hd)
  have hcl := code_len v c.length
  have hcu := code_len u (c.length + (v.code c.length).length + 1)
  have HE := hid (show letC v u c.length = _ from rfl)
  rw [hW] at HV
  clear hv hu iv iu q b1 hW h
  go_enter Try.func23, Try.ntmps23
  go_wp2_with (first
    | (go_at_call 17; refine (lput_any b c5 ⟨102, 0, 0⟩ _ h5 l5).mono ?_; rintro e w6 ⟨rfl, h6, k6⟩)
    | (go_at_call 16; refine (HU.out c4 w4 (low_ki HB.out k4 hb) h4 l4).mono ?_; rintro e w5 ⟨rfl, h5, k5⟩; replace k5 := k4.trans k5; obtain ⟨c5, E5, h5⟩ := h5.ex; replace E5 := hid E5; have l5 : c5.length ≤ 9000000 := (by rw [E5.out, E4.out, E3.out]; simp only [List.length_append, List.length_singleton]; omega))
    | (go_at_call 17; refine (lput_any b c3 ⟨101, 0, 0⟩ _ h3 l3).mono ?_; rintro e w4 ⟨rfl, h4, k4⟩; replace k4 := k3.trans k4; obtain ⟨c4, E4, h4⟩ := h4.ex; replace E4 := hid E4; obtain ⟨z0, z9, z1, z2⟩ := HBX.out _ k4; have l4 : c4.length + 3 * u.size ≤ 8000000 := (by rw [E4.out, E3.out]; simp only [List.length_append, List.length_singleton]; omega))
    | (go_at_call 16; refine HV.out.mono ?_; rintro e w3 ⟨rfl, h3, k3⟩; rw [← HW.out.1] at k3; obtain ⟨c3, E3, h3⟩ := h3.ex; replace E3 := hid E3; have l3 : c3.length ≤ 9000000 := (by rw [E3.out]; simp only [List.length_append]; omega)))
  go_end0
  refine ⟨rfl, ?_, HW.out.2.trans (k5.trans k6)⟩
  have e5 : c5 ++ [⟨102, 0, 0⟩] = c ++ letC v u c.length := by
    rw [E5.out, E4.out, E3.out]
    unfold letC
    simp only [List.length_append, List.length_singleton, List.append_assoc, Nat.add_assoc]
  rw [← e5]; exact h6
theorem insC_set (A R : List Ik) (x : Ik) (z : Int) : (insC (A ++ ([x] ++ R))).set (A.length * 3 + 1) (.int .i64 z) = insC (A ++ ([⟨x.op, z, x.n⟩] ++ R)) := by
  rw [insC_app, insC_app, insC_app, insC_app, List.set_append_right _ _ (by rw [insC_len]; omega), insC_len, show A.length * 3 + 1 - A.length * 3 = 1 by omega, insC_one, insC_one]
  rfl
/-- The place of an instruction in the list is written anew. -/
theorem lst_set {b : Nat} {A R : List Ik} {x : Ik} {w : World} (h : Lst b (A ++ ([x] ++ R)) w) : ∃ g cap, (w.cell? ⟨b, 0, none⟩ = some (.slice (some ⟨g, 0, none⟩) (A ++ ([x] ++ R)).length cap) ∧ w.frozen? ⟨g, A.length * 3 + 1, none⟩ = false ∧ w.cell? ⟨g, A.length * 3 + 1, none⟩ = some (.int .i64 x.k) ∧ g < w.heap.size) ∧
    ∀ z, Lst b (A ++ ([⟨x.op, z, x.n⟩] ++ R)) (w.setCell ⟨g, A.length * 3 + 1, none⟩ (.int .i64 z)) ∧ KI b w (w.setCell ⟨g, A.length * 3 + 1, none⟩ (.int .i64 z)) := by
  obtain ⟨ao, cap, h1, h2⟩ := h
  have hi : A.length < (A ++ ([x] ++ R)).length := by simp
  obtain ⟨g, rfl, d0, d1, d2⟩ := ins_at h2 rfl A.length hi
  have e : (A ++ ([x] ++ R))[A.length] = x := by simp
  rw [e] at d1
  refine ⟨g, cap, ⟨by simp [World.cell?, h1], h2.frozenAt _, d1, (h2.lt g rfl).2⟩, fun z => ?_⟩
  obtain ⟨s1, s2⟩ := h2.stored (A.length * 3 + 1) (.int .i64 z)
  have hb := lt_of_block h1
  have hl : (A ++ ([(⟨x.op, z, x.n⟩ : Ik)] ++ R)).length = (A ++ ([x] ++ R)).length := by simp
  have hk := ki_grown h2 (Nat.le_of_lt hb) s2
  refine ⟨⟨some ⟨g, 0, none⟩, cap, ?_, ?_⟩, hk⟩
  · rw [hl]
    have hg := (h2.lt g rfl).1
    rw [s2.block b hb (fun e => by have := Option.some.inj e; omega)]; exact h1
  · rw [hl, ← insC_set]; exact s1
end Go.Proofs.Ytjcniiojcigefad
