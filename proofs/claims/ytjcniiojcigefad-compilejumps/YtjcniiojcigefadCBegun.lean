/- Make of what is in memory of its own, and of what came in; the laws' own beginning. -/
import Derived.Test.YtjcniiojcigefadMakeL
namespace Go.Proofs.Ytjcniiojcigefad
open Go.ChangeShapes Go.WideShapes Go.ChangeAt Go.RowKit
theorem funs_ok (F : Int) (l : List V) : ∀ i, (funs F l i).1 = 0 → ∀ v ∈ l, fun1 F v = 0 := by
  induction l with
  | nil => intro i _ v hv; simp at hv
  | cons x l ih =>
    intro i h v hv
    rw [funs] at h
    by_cases h0 : fun1 F x = 0
    · rw [if_pos h0] at h
      rcases List.mem_cons.1 hv with rfl | hv
      · exact h0
      · exact ih _ h v hv
    · rw [if_neg h0] at h; exact absurd h h0
theorem fun1_ok {F : Int} {v : V} (h : fun1 F v = 0) : v.bad F 0 = 0 := by
  unfold fun1 at h
  by_cases h1 : 30 < v.deep
  · rw [if_pos h1] at h; cases h
  · rw [if_neg h1] at h
    by_cases h2 : 120 < v.size
    · rw [if_pos h2] at h; cases h
    · rwa [if_neg h2] at h
theorem modFault_ok {l : List V} (h : (modFault l).1 = 0) : ∀ v ∈ l, Ok v := by
  unfold modFault at h
  by_cases h1 : l.length < 1 ∨ 6 < l.length
  · rw [if_pos h1] at h; cases h
  · rw [if_neg h1] at h
    exact fun v hv => ⟨_, 0, fun1_ok (funs_ok _ l 0 h v hv)⟩
theorem make_any (l : List V) (ao : Option Addr) (cap : Nat) (w : World) (hF : Fo (cln w) l ao) (hS : sizes l ≤ 20000) :
    Calls Try.prog 8 #[.agg #[.slice ao l.length cap]] w fun e w' => MakeQ (fun f => f = modFault l) l w e w' := by
  refine make_of l ao cap w hF.unclean hS (fun f => f = modFault l) (fun f hf h0 => modFault_ok (hf ▸ h0)) fun w1 q => ?_
  refine (check_any l ao cap w1 (hF.cleanQ q) hS).mono ?_
  rintro e w' ⟨he, q'⟩
  exact ⟨modFault l, he, rfl, q'⟩
theorem make_z (l : List V) (ao : Option Addr) (cap : Nat) (w : World) (hF : Fo (thw w) l ao) (hS : sizes l ≤ 20000) :
    Calls Try.prog 8 #[.agg #[.slice ao l.length cap]] w fun e w' => MakeQ (fun f => f.1 = 0 → 1 ≤ l.length ∧ ∀ v ∈ l, v.bad l.length 0 = 0) l w e w' :=
  make_of l ao cap w hF.unthaw hS _ (fun _ hf h0 v hv => ⟨_, 0, (hf h0).2 v hv⟩) fun w1 q => (check_z l ao cap w1 (hF.thawQ q) hS).mono fun _ _ h => h
/-- The cells of a list among those that were made. -/
theorem Md.get {B : Nat} {w : World} {ao : Option Addr} {n cap : Nat} {ps : List Ls} (h : Md B w (.slice ao n cap) n ps) (j : Nat) (c : List Ik) (hc : (ps.map (·.1))[j]? = some c) :
    ∃ g fa fc, ao = some ⟨g, 0, none⟩ ∧ w.cell? ⟨g, j, none⟩ = some (.slice fa c.length fc) ∧ w.ownsRow B 42 3 (.slice fa c.length fc) c.length (insC c) := by
  rw [List.getElem?_map] at hc
  obtain ⟨p, hp, rfl⟩ : ∃ p, ps[j]? = some p ∧ p.1 = c := by
    cases e : ps[j]? with
    | none => rw [e] at hc; simp at hc
    | some p => rw [e] at hc; exact ⟨p, rfl, by simpa using hc⟩
  obtain ⟨hj, hp2⟩ := List.getElem?_eq_some_iff.1 hp
  have hl := h.len
  obtain ⟨g, e, d⟩ := owns_at h.row (by omega)
  refine ⟨g, p.2.1, p.2.2, e, ?_, h.all p (hp2 ▸ List.getElem_mem hj)⟩
  rw [d j (by omega), List.getElem?_map, hp]; rfl
def cv : V := ⟨2, 0, 5, []⟩
theorem cv_fault : modFault [cv] = (0, 0) := by
  have h1 : fun1 1 cv = 0 := by
    unfold fun1
    rw [if_neg (by rw [deep_eq]; simp [deeps_nil, cv]), if_neg (by rw [size_eq]; simp [sizes_nil, cv]), bad_eq]
    simp [cv, fault1, partsI, faultK, bads_nil]
  unfold modFault
  simp [funs, h1]
theorem cv_code : funC cv = [⟨100, 0, 0⟩, ⟨2, 0, 5⟩, ⟨105, 0, 0⟩] := by
  unfold funC
  rw [code_other (by decide) (by decide)]
  simp [cv, codesP_nil]
theorem cv_sizes : sizes [cv] = 1 := by simp [sizes_cons, sizes_nil, size_eq, cv]
theorem in_small (z : Int) (h : 0 ≤ z ∧ z ≤ 100) : In64 z := ⟨by omega, by omega⟩
theorem num_any (n : Int) (w : World) : Calls Try.prog 13 #[.int .i64 n] w fun e w' => e = .returned (.agg #[.int .i64 2, .int .i64 0, .int .i64 n, .slice none 0 0]) ∧ Quiet w w' := by
  go_enter Try.func13, Try.ntmps13
  go_wp2
  refine bodyPost_ret (v := .agg #[.int .i64 2, .int .i64 0, .int .i64 n, .slice none 0 0]) (by simp [results, Try.results13, go_sem]) rfl ?_
  exact ⟨rfl, Kp.alloc _ _⟩
/-- What the beginning is told. -/
theorem make_cv (w : World) : Calls Try.prog 8 #[.agg #[.slice (some ⟨w.heap.size, 0, none⟩) 1 1]] (w.alloc (.cells #[.int .i64 2, .int .i64 0, .int .i64 5, .slice none 0 0] 38)) fun e w' =>
    ∃ g cap g' cap', e = .returned (.tuple #[.slice (some ⟨g, 0, none⟩) 1 cap, .agg #[.int .i64 0, .int .i64 0]]) ∧ (w'.cell? ⟨g, 0, none⟩ = some (.slice (some ⟨g', 0, none⟩) 3 cap') ∧ w'.cell? ⟨g', 0, none⟩ = some (.int .i64 100) ∧ w'.cell? ⟨g', 5, none⟩ = some (.int .i64 5) ∧ w'.cell? ⟨g', 6, none⟩ = some (.int .i64 105)) ∧ Quiet w w' := by
  have hF : Fo (cln (w.alloc (.cells #[.int .i64 2, .int .i64 0, .int .i64 5, .slice none 0 0] 38))) [cv] (some ⟨w.heap.size, 0, none⟩) :=
    fo_single (v := cv) (ao := none) (cap := 0) (cln_same (heap_alloc_new w _)) (Is.leaf _ _ ⟨in_small 2 (by decide), in_small 0 (by decide), in_small 5 (by decide)⟩ rfl _)
  refine (make_any [cv] _ 1 _ hF (by rw [cv_sizes]; decide)).mono ?_
  rintro e w' ⟨f, hf, q, h⟩
  rw [cv_fault] at hf
  subst hf
  rcases h with ⟨h0, _⟩ | ⟨_, ao, cap, ps, he, hM, hp⟩
  · exact absurd rfl h0
  · rw [List.length_singleton] at hM he
    obtain ⟨g, fa, fc, rfl, c0, hr⟩ := hM.get 0 (funC cv) (by rw [hp]; rfl)
    obtain ⟨g', rfl, d0, _, _⟩ := ins_at hr rfl 0 (by rw [cv_code]; decide)
    obtain ⟨g2, e2, _, _, d1⟩ := ins_at hr rfl 1 (by rw [cv_code]; decide)
    obtain ⟨g3, e3, d2, _, _⟩ := ins_at hr rfl 2 (by rw [cv_code]; decide)
    cases e2
    cases e3
    simp only [cv_code] at c0 d0 d1 d2
    exact ⟨g, cap, g', fc, he, ⟨c0, d0, d1, d2⟩, (Kp.alloc _ _).trans q⟩
theorem cell_on {w : World} {a : Addr} {x : Value} (h : w.cell? a = some x) (o : Obj) : (w.alloc o).cell? a = some x := (Kp.alloc (F := fun _ => False) w o).cell h fun e => e
set_option maxRecDepth 8000 in
set_option maxHeartbeats 4000000 in
theorem cbegun_any (w : World) : Calls Try.prog 5 #[] w fun e w' => e = .returned (.bool true) ∧ Quiet w w' := by
  go_enter Try.func5, Try.ntmps5
  go_wp2_with (first
    | (go_at_call 8; refine (make_cv w2).mono ?_; rintro e w3 ⟨g, cap, g', cap', rfl, ⟨d0, d1, d2, d3⟩, q3⟩; have y0 := cell_on d0; have y1 := cell_on d1; have y2 := cell_on d2; have y3 := cell_on d3)
    | (go_at_call 13; refine (num_any 5 _).mono ?_; rintro e w2 ⟨rfl, q2⟩))
  go_ret
  exact ⟨rfl, q2.trans (q3.trans (Kp.alloc _ _))⟩
theorem eqF (a b c d : Int) (w : World) : (Op.equalIn 10000 30 (.agg #[.int .i64 a, .int .i64 b]) (.agg #[.int .i64 c, .int .i64 d])).run Try.prog w = .ok (a == c && b == d) w := by
  have hS : Try.prog.underlying 30 = some (.struct (Try.prog.fieldsOf 30)) := by kernel_rfl
  have hp : Try.prog.stoodInHeld 30 = false := by kernel_rfl
  rw [show (10000 : Nat) = 9999 + 1 from rfl, run_equalIn_agg w 9999 30 _ _ hS hp]
  simp only [Program.fieldsOf, Try.underlying30]
  go_simp
  by_cases h1 : a = c <;> by_cases h2 : b = d <;> simp [h1, h2]
end Go.Proofs.Ytjcniiojcigefad
