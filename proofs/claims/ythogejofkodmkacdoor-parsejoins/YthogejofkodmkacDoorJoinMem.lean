/- Two modules one behind the other, in memory. -/
import Derived.Test.YthogejofkodmkacDoorPBegun
import Derived.Test.YthogejofkodmkacDoorRefSame
import Derived.Test.YthogejofkodmkacDoorRefTell
namespace Go.Proofs.YthogejofkodmkacDoor
open Go.ChangeShapes Go.WideShapes Go.ChangeAt Go.RowKit
theorem eqFault (a b c d : Int) (w : World) : (Op.equalIn 10000 25 (.agg #[.int .i64 a, .int .i64 b]) (.agg #[.int .i64 c, .int .i64 d])).run Tryd.prog w = .ok (a == c && b == d) w := by
  have hS : Tryd.prog.underlying 25 = some (.struct (Tryd.prog.fieldsOf 25)) := by kernel_rfl
  have hp : Tryd.prog.stoodInHeld 25 = false := by kernel_rfl
  rw [show (10000 : Nat) = 9999 + 1 from rfl, run_equalIn_agg w 9999 25 _ _ hS hp]
  simp only [Program.fieldsOf, Tryd.underlying25]
  go_simp
  by_cases h1 : a = c <;> by_cases h2 : b = d <;> simp [h1, h2]
theorem parseB_small (l : List UInt8) (hl : l.length ≤ 5900) : sizes (parseB l).1 ≤ 6000 := by
  unfold parseB
  split
  · have h1 := parseT_size (l.length : Int) (scan l).1
    have h2 := scan_few_len l
    omega
  · simp [sizes_nil]
theorem funs_zero (F : Int) (l : List V) : ∀ i, (funs F l i).1 = 0 → funs F l i = (0, 0) := by
  induction l with
  | nil => intro i _; rfl
  | cons v l ih =>
    intro i h
    rw [funs] at h ⊢
    split
    · rename_i h0; rw [if_pos h0] at h; exact ih _ h
    · rename_i h0; rw [if_neg h0] at h; exact absurd h h0
theorem mod_zero {l : List V} (h : (modFault l).1 = 0) : modFault l = (0, 0) ∧ 1 ≤ l.length ∧ l.length ≤ 6 := by
  unfold modFault at h ⊢
  split
  · rename_i h0; rw [if_pos h0] at h; simp at h
  · rename_i h0; rw [if_neg h0] at h; exact ⟨funs_zero _ _ _ h, by omega, by omega⟩
/-- The things of a list, with where what is in them lies; their cells. -/
theorem kids_of {w : World} {l : List V} {b o : Nat} (h : Fo w l (some ⟨b, o, none⟩)) : ∃ ps : List Kd, ps.map (·.1) = l ∧ (∀ p ∈ ps, Is w p.1 p.2.1) ∧ ∀ j x, (tris ps)[j]? = some x → w.cell? ⟨b, o + j, none⟩ = some x := by
  have key : ∀ i, i < l.length → ∃ p : Option Addr × Nat, ∀ hi : i < l.length, Is w l[i] p.1 ∧ ∀ c, c < 4 → w.cell? ⟨b, o + i * 4 + c, none⟩ = (tri (l[i], p))[c]? := by
    intro i hi
    obtain ⟨b', o', e, hh, ai, ci, c2, hI⟩ := h.get i hi
    cases e
    refine ⟨(ai, ci), fun _ => ⟨hI, fun c hc => ?_⟩⟩
    match c, hc with
    | 0, _ => exact hh.1
    | 1, _ => exact hh.2.1
    | 2, _ => exact hh.2.2
    | 3, _ => exact c2
  haveI : Inhabited (Option Addr × Nat) := ⟨(none, 0)⟩
  obtain ⟨f, hf⟩ := Deep.choose_lt key
  refine ⟨l.mapIdx fun i x => (x, f i), ?_, fun p hp => ?_, fun j x hx => ?_⟩
  · apply List.ext_getElem <;> simp
  · obtain ⟨i, hi, rfl⟩ := List.getElem_of_mem hp
    have hi' : i < l.length := by simpa using hi
    simpa using (hf i hi' hi').1
  · have hlen := tris_len (l.mapIdx fun i x => (x, f i))
    have hj : j < (l.mapIdx fun i x => (x, f i)).length * 4 := by
      rw [← hlen]
      rcases Nat.lt_or_ge j (tris (l.mapIdx fun i x => (x, f i))).length with h' | h'
      · exact h'
      · rw [List.getElem?_eq_none h'] at hx; simp at hx
    have hi : j / 4 < l.length := by simp at hj; omega
    have e : j = j / 4 * 4 + j % 4 := by omega
    have h1 := (hf (j / 4) hi hi).2 (j % 4) (by omega)
    have h2 := tris_at (l.mapIdx fun i x => (x, f i)) (j / 4) (j % 4) (by simpa using hi) (by omega)
    rw [← e] at h2
    rw [h2] at hx
    simp only [List.getElem_mapIdx] at hx
    rw [show o + j = o + j / 4 * 4 + j % 4 by omega, h1]
    exact hx
/-- What a module is when its functions lie in a world: where they begin, and their cells. -/
theorem mod_lies {w : World} {l : List V} {ao : Option Addr} (h : Fo w l ao) (hl : 1 ≤ l.length) : ∃ b o, ao = some ⟨b, o, none⟩ ∧ ∃ ps : List Kd, ps.map (·.1) = l ∧ (∀ p ∈ ps, Is w p.1 p.2.1) ∧ ∀ j x, (tris ps)[j]? = some x → w.cell? ((⟨b, o, none⟩ : Addr).add j) = some x := by
  obtain ⟨b, o, rfl, _⟩ := h 0 (by omega)
  obtain ⟨ps, h1, h2, h3⟩ := kids_of h
  exact ⟨b, o, rfl, ps, h1, h2, fun j x hx => by rw [Addr.add_lit]; exact h3 j x hx⟩
theorem joined {W w6 w7 : World} {B g n cap : Nat} {psA psB : List Kd} {ma mb : List V} (h : w6.ownsRow B 53 4 (.slice (some ⟨g, 0, none⟩) n cap) n (tris psA ++ tris psB)) (hn : n = ma.length + mb.length) (hA : psA.map (·.1) = ma) (hB : psB.map (·.1) = mb) (iA : ∀ p ∈ psA, Is W p.1 p.2.1) (iB : ∀ p ∈ psB, Is W p.1 p.2.1) (hlow : Below W.heap.size W w7) (hg : w7.heap[g]? = w6.heap[g]?) : Fo w7 (ma ++ mb) (some ⟨g, 0, none⟩) := by
  have e : ma ++ mb = (psA ++ psB).map (·.1) := by rw [List.map_append, hA, hB]
  rw [e]
  have hn2 : n = (psA ++ psB).length := by rw [hn, ← hA, ← hB]; simp
  refine fo_row (B := B) (n := n) (cap := cap) ?_ hn2 fun p hp => ?_
  · rw [tris_app]
    refine ⟨h.1, ?_⟩
    rcases h.2 with hn | ⟨g', cap', cur, e', hb, hgg, rest⟩
    · exact .inl hn
    · simp only [Value.slice.injEq, Option.some.injEq, Addr.mk.injEq] at e'
      obtain ⟨⟨rfl, _⟩, _, rfl⟩ := e'
      exact .inr ⟨g, cap, cur, rfl, hb, hg.trans hgg, rest⟩
  · rcases List.mem_append.1 hp with h' | h'
    · exact (iA p h').low hlow
    · exact (iB p h').low hlow
/-- A text that is too long, however long. -/
theorem scan_huge (l : List UInt8) (h : 6000 < l.length) (w : World) :
    Calls Tryd.prog 8 #[.string ⟨l.toArray⟩] w fun e w' => e = .returned (.tuple #[.slice none 0 0, .agg #[.int .i64 3, .int .i64 6000]]) ∧ Quiet w w' := by
  have hz := bytes_size l
  have h' : (6000 : Int) < (l.length : Int) := by omega
  clear h
  go_enter Tryd.func8, Tryd.ntmps8
  go_wp2
  exact bodyPost_ret (v := .tuple #[.slice none 0 0, .agg #[.int .i64 3, .int .i64 6000]]) (by simp [results, Tryd.results8, go_sem]) rfl ⟨rfl, Kp.alloc _ _⟩
set_option maxRecDepth 8000 in
set_option maxHeartbeats 2000000 in
theorem parse_huge (l : List UInt8) (h : 6000 < l.length) (w : World) : Calls Tryd.prog 11 #[.string ⟨l.toArray⟩] w (OutP w ([], 3, 6000)) := by
  have HS := hid (fun w1 => scan_huge l h w1)
  clear h
  go_enter Tryd.func11, Tryd.ntmps11
  go_wp2_with (go_at_call 8; refine (HS.out _).mono ?_; rintro e' w1 ⟨rfl, q1⟩; obtain ⟨hb0, hb1⟩ := two_q q1; have c0 := box1 hb0; have f0 := box_free hb0; obtain ⟨d0, d1⟩ := box2 hb1; have f1 := box_free hb1; have hl0 := lt_of_block hb0; have hl1 := lt_of_block hb1; clear hb0 hb1)
  go_region
  go_wp2
  refine bodyPost_ret (v := .tuple #[.agg #[.slice none 0 0], .agg #[.int .i64 3, .int .i64 6000]]) (by simp [results, Tryd.results11, go_sem, c0, d0, d1, hl0, hl1]) rfl ⟨none, 0, rfl, Fo.nil _ _, parse_told q1 ?_⟩
  exact (((res_set0 w _ 0 _).trans (res_set w _ 1 0 _)).trans (res_set w _ 1 1 _)).trans ((Kp.alloc _ _).trans (Kp.drew _))
theorem parseB_huge {l : List UInt8} (h : 6000 < l.length) : parseB l = ([], 3, 6000) := by
  unfold parseB scan
  rw [if_pos h]
  rfl
theorem parse_all (l : List UInt8) (w : World) (hw : Laid w) (hd : Wds w) : Calls Tryd.prog 11 #[.string ⟨l.toArray⟩] w (OutP w (parseB l)) := by
  by_cases h : l.length ≤ 9000
  · exact parse_any l h w hw hd
  · rw [parseB_huge (by omega)]; exact parse_huge l (by omega) w
theorem wrap_small64 {x : Int} (h0 : 0 ≤ x) (h1 : x ≤ 20000) : wrap64 x = x := by
  unfold wrap64; omega
end Go.Proofs.YthogejofkodmkacDoor
