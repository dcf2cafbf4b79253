/- The contracts of faultOf and Check. -/
import Derived.Test.YtjcniiojcigefadSearch
import Derived.Test.YtjcniiojcigefadDeepWalk
namespace Go.Proofs.Ytjcniiojcigefad
open Go.ChangeShapes Go.WideShapes Go.ChangeAt Go.RowKit
theorem head_box {w : World} {b : Nat} {v : V} {ao : Option Addr} {cap : Nat} (h : w.heap[b]? = some (.cells #[.int .i64 v.kind, .int .i64 v.k, .int .i64 v.n, .slice ao v.l.length cap] 38 (0, 0))) : v.head w b 0 ∧ w.cell? ⟨b, 0 + 3, none⟩ = some (.slice ao v.l.length cap) := by
  obtain ⟨h0, h1, h2, h3⟩ := box_cells h
  exact ⟨⟨h0, h1, h2⟩, h3⟩
/-- One thing in a row of its own. -/
theorem fo_single {w : World} {b : Nat} {v : V} {ao : Option Addr} {cap : Nat} (h : w.heap[b]? = some (.cells #[.int .i64 v.kind, .int .i64 v.k, .int .i64 v.n, .slice ao v.l.length cap] 38 (0, 0))) (hI : Is w v ao) : Fo w [v] (some ⟨b, 0, none⟩) := by
  intro i hi
  obtain rfl : i = 0 := by simp at hi; omega
  refine ⟨b, 0, rfl, ?_⟩
  have := head_box h
  exact (at_iff _ _ _ _).2 ⟨this.1, ao, cap, this.2, hI⟩
theorem Is.cleanQ {w w' : World} {v : V} {ao : Option Addr} (h : Is (cln w) v ao) (q : Quiet w w') : Is (cln w') v ao := h.kept (cln_quiet q)
theorem Fo.cleanQ {w w' : World} {l : List V} {ao : Option Addr} (h : Fo (cln w) l ao) (q : Quiet w w') : Fo (cln w') l ao := h.kept (cln_quiet q)
set_option maxRecDepth 8000 in
set_option maxHeartbeats 2000000 in
theorem faultOf_any (v : V) (ao : Option Addr) (cap : Nat) (F : Int) (w : World) (hI : Is (cln w) v ao) (hS : v.size ≤ 20000) :
    Calls Try.prog 22 #[.agg #[.int .i64 v.kind, .int .i64 v.k, .int .i64 v.n, .slice ao v.l.length cap], .int .i64 F] w fun e w' => e = .returned (.int .i64 (fun1 F v)) ∧ Quiet w w' := by
  have q2 : Quiet w ((w.alloc (.cells #[.int .i64 v.kind, .int .i64 v.k, .int .i64 v.n, .slice ao v.l.length cap] 38)).alloc (.cells #[.int .i64 v.kind, .int .i64 v.k, .int .i64 v.n, .slice ao v.l.length cap] 38)) := (Kp.alloc _ _).trans (Kp.alloc _ _)
  have hF2 : Fo (cln ((w.alloc (.cells #[.int .i64 v.kind, .int .i64 v.k, .int .i64 v.n, .slice ao v.l.length cap] 38)).alloc (.cells #[.int .i64 v.kind, .int .i64 v.k, .int .i64 v.n, .slice ao v.l.length cap] 38))) [v] (some ⟨w.heap.size + 1, 0, none⟩) := fo_single (cln_same (heap_two w _ _)) (hI.cleanQ q2)
  have hb0 : ((w.alloc (.cells #[.int .i64 v.kind, .int .i64 v.k, .int .i64 v.n, .slice ao v.l.length cap] 38)).alloc (.cells #[.int .i64 v.kind, .int .i64 v.k, .int .i64 v.n, .slice ao v.l.length cap] 38)).heap[w.heap.size]? = some (.cells #[.int .i64 v.kind, .int .i64 v.k, .int .i64 v.n, .slice ao v.l.length cap] 38 (0, 0)) := by
    rw [Below.heap_alloc _ _ _ (by simp)]; exact heap_alloc_new w _
  have HD := hid (deeper_any [v] (some ⟨w.heap.size + 1, 0, none⟩) 1 30 _ hF2 (by rw [sizes_one]; exact hS) (by decide))
  have HM := hid (fun w3 (q : Quiet ((w.alloc (.cells #[.int .i64 v.kind, .int .i64 v.k, .int .i64 v.n, .slice ao v.l.length cap] 38)).alloc (.cells #[.int .i64 v.kind, .int .i64 v.k, .int .i64 v.n, .slice ao v.l.length cap] 38)) w3) => more_any [v] (some ⟨w.heap.size + 1, 0, none⟩) 1 120 w3 (hF2.unclean.quiet q) (by rw [sizes_one]; exact hS) (by decide))
  have HBX := hid (fun w3 (q : Quiet ((w.alloc (.cells #[.int .i64 v.kind, .int .i64 v.k, .int .i64 v.n, .slice ao v.l.length cap] 38)).alloc (.cells #[.int .i64 v.kind, .int .i64 v.k, .int .i64 v.n, .slice ao v.l.length cap] 38)) w3) => box_cells ((q.block _ (lt_of_block hb0) fun e => e).trans hb0))
  rw [List.length_singleton] at HD HM
  rw [sizes_one] at HM
  rw [deeps_one] at HD
  clear hF2 hb0
  have HI := hid hI.unclean
  clear hI
  by_cases h1 : 30 < v.deep
  · have hE := hid (show fun1 F v = 4 by unfold fun1; rw [if_pos h1])
    have hd := hid (show decide (30 + 1 < 1 + v.deep) = true by simp; omega)
    clear h1
    go_enter Try.func22, Try.ntmps22
    go_wp2_with (go_at_call 27; refine HD.out.mono ?_; rintro e w3 ⟨rfl, q3⟩; rw [hd.out])
    go_ret
    exact ⟨by rw [hE.out]; rfl, q2.trans q3⟩
  · have hd := hid (show decide (30 + 1 < 1 + v.deep) = false by simp; omega)
    by_cases h2 : 120 < v.size
    · have hE := hid (show fun1 F v = 3 by unfold fun1; rw [if_neg h1, if_pos h2])
      have hm := hid (show decide (120 < v.size) = true by simpa using h2)
      clear h1 h2
      go_enter Try.func22, Try.ntmps22
      go_wp2_with (first
        | (go_at_call 29; refine (HM.out w3 q3).mono ?_; rintro e w4 ⟨rfl, q4⟩; rw [hm.out])
        | (go_at_call 27; refine HD.out.mono ?_; rintro e w3 ⟨rfl, q3⟩; rw [hd.out]))
      go_ret
      exact ⟨by rw [hE.out]; rfl, q2.trans (q3.trans q4)⟩
    · have hE := hid (show fun1 F v = v.bad F 0 by unfold fun1; rw [if_neg h1, if_neg h2])
      have hm := hid (show decide (120 < v.size) = false by simpa using h2)
      clear h1 h2
      go_enter Try.func22, Try.ntmps22
      go_wp2_with (first
        | (go_at_call 30; refine (searchP_any v ao cap w4.heap.size F 0 w (w4.alloc (.cells #[.int .i64 0] 3)) ⟨(q24.trans (Kp.alloc _ _)).low, q24.size, (by simp)⟩ HI.out hS (heap_alloc_new w4 _)).mono ?_; rintro e w5 ⟨⟨r, rfl⟩, hb5, q5⟩; have c5 := cell_of_one hb5)
        | (go_at_call 29; refine (HM.out w3 q3).mono ?_; rintro e w4 ⟨rfl, q4⟩; rw [hm.out]; have q24 := q2.trans (q3.trans q4); obtain ⟨y0, y1, y2, y3⟩ := HBX.out w4 (q3.trans q4); have z4 : w.heap.size < w4.heap.size := (by have := (q3.trans q4).size; simp at this; omega))
        | (go_at_call 27; refine HD.out.mono ?_; rintro e w3 ⟨rfl, q3⟩; rw [hd.out]))
      go_ret
      refine ⟨by rw [hE.out]; rfl, ?_⟩
      exact q24.fresh (((Kp.alloc _ _).trans q5).mono fun k _ e => by have := q24.size; omega)
theorem funs_next (F : Int) (l : List V) (j : Nat) (h : j < l.length) (h0 : fun1 F l[j] = 0) : funs F (l.drop j) j = funs F (l.drop (j + 1)) (j + 1) := by
  rw [List.drop_eq_getElem_cons h, funs, if_pos h0]
theorem funs_stop (F : Int) (l : List V) (j : Nat) (h : j < l.length) (h0 : fun1 F l[j] ≠ 0) : funs F (l.drop j) j = (fun1 F l[j], (j : Int)) := by
  rw [List.drop_eq_getElem_cons h, funs, if_neg h0]
theorem funs_end (F : Int) (l : List V) : funs F (l.drop l.length) l.length = (0, 0) := by rw [List.drop_length, funs]
/-- A block of a fault, and of a module. -/
theorem fault_cells {w : World} {x : Nat} {a b : Value} {t : TypeId} (h : w.heap[x]? = some (.cells #[a, b] t (0, 0))) : w.cell? ⟨x, 0, none⟩ = some a ∧ w.cell? ⟨x, 1, none⟩ = some b ∧ w.frozen? ⟨x, 0, none⟩ = false ∧ w.frozen? ⟨x, 1, none⟩ = false :=
  ⟨by simp [World.cell?, h], by simp [World.cell?, h], frozen_of_row w x 0 _ t h, frozen_of_row w x 1 _ t h⟩
theorem mod_cell {w : World} {x : Nat} {a : Value} {t : TypeId} (h : w.heap[x]? = some (.cells #[a] t (0, 0))) : w.cell? ⟨x, 0, none⟩ = some a := by simp [World.cell?, h]
set_option maxRecDepth 8000 in
set_option maxHeartbeats 2000000 in
theorem check_any (l : List V) (ao : Option Addr) (cap : Nat) (w : World) (hF : Fo (cln w) l ao) (hS : sizes l ≤ 20000) :
    Calls Try.prog 15 #[.agg #[.slice ao l.length cap]] w fun e w' => e = .returned (.agg #[.int .i64 (modFault l).1, .int .i64 (modFault l).2]) ∧ Quiet w w' := by
  have q2 : Quiet w ((w.alloc (.cells #[.slice ao l.length cap] 24)).alloc (.cells #[.int .i64 0, .int .i64 0] 30)) := (Kp.alloc _ _).trans (Kp.alloc _ _)
  have hb0 : ((w.alloc (.cells #[.slice ao l.length cap] 24)).alloc (.cells #[.int .i64 0, .int .i64 0] 30)).heap[w.heap.size]? = some (.cells #[.slice ao l.length cap] 24 (0, 0)) := by
    rw [Below.heap_alloc _ _ _ (by simp)]; exact heap_alloc_new w _
  have hb1 := heap_two w (.cells #[.slice ao l.length cap] 24) (.cells #[.int .i64 0, .int .i64 0] 30)
  have hll := sizes_len l
  have hl5 : l.length ≤ 20000 := by omega
  by_cases h1 : l.length < 1
  · have hE := hid (show modFault l = (3, -1) by unfold modFault; rw [if_pos (.inl h1)])
    have hl0 : l.length = 0 := by omega
    have h1' : (l.length : Int) < 1 := by omega
    clear h1 hl0
    go_enter Try.func15, Try.ntmps15
    go_wp2
    refine bodyPost_ret (v := .agg #[.int .i64 3, .int .i64 (-1)]) (by simp [results, Try.results15, go_sem]) rfl ?_
    exact ⟨by rw [hE.out], (Kp.alloc _ _).trans (Kp.alloc _ _)⟩
  have h1' : ¬ (l.length : Int) < 1 := by omega
  by_cases h2 : 6 < l.length
  · have hE := hid (show modFault l = (3, -1) by unfold modFault; rw [if_pos (.inr h2)])
    have h2' : (6 : Int) < (l.length : Int) := by omega
    clear h1 h2
    go_enter Try.func15, Try.ntmps15
    go_wp2
    refine bodyPost_ret (v := .agg #[.int .i64 3, .int .i64 (-1)]) (by simp [results, Try.results15, go_sem]) rfl ?_
    exact ⟨by rw [hE.out], (Kp.alloc _ _).trans (Kp.alloc _ _)⟩
  have h2' : ¬ (6 : Int) < (l.length : Int) := by omega
  have HE := hid (show modFault l = funs (l.length : Int) l 0 by unfold modFault; rw [if_neg (by omega)])
  have HF := hid hF
  have HB := hid (And.intro hb0 (And.intro hb1 q2))
  clear hF hb0 hb1 q2 h1 h2
  go_enter Try.func15, Try.ntmps15
  go_wp2
  go_loopw [20] (fun i wr => ∃ j : Nat, j ≤ l.length ∧ i = .int .i64 j ∧ funs (l.length : Int) l 0 = funs (l.length : Int) (l.drop j) j ∧ Quiet ((w.alloc (.cells #[.slice ao l.length cap] 24)).alloc (.cells #[.int .i64 0, .int .i64 0] 30)) wr) (fun i _ => l.length - (intOf i).toNat)
  case atStart => exact ⟨0, Nat.zero_le _, rfl, rfl, Kp.refl _ _⟩
  case round =>
    rename World => wq
    obtain ⟨j, hj, rfl, hf, q⟩ := hrel
    have x0 := mod_cell ((q.block _ (lt_of_block HB.out.1) fun e => e).trans HB.out.1)
    have hbf := (q.block _ (lt_of_block HB.out.2.1) fun e => e).trans HB.out.2.1
    have hsz := q.size
    have z1 : w.heap.size < wq.heap.size := by simp at hsz; omega
    have z2 : w.heap.size + 1 < wq.heap.size := by simp at hsz; omega
    have HQ := hid (And.intro q hf)
    clear q hf hsz
    by_cases hlt : j < l.length
    · have hFq := HF.out.cleanQ (HB.out.2.2.trans HQ.out.1)
      obtain ⟨b, off, rfl, dh, ai, ci, ds, hci⟩ := hFq.get j hlt
      obtain ⟨d0, d9, d1⟩ := head_kept (fun a x hc => (cln_cell hc).1) dh
      have dsk := (cln_cell ds).1
      have HN := hid (And.intro (funs_next (l.length : Int) l j hlt) (funs_stop (l.length : Int) l j hlt))
      have hsz := size_get l j hlt
      generalize hcu : l[j] = c at *
      have HC := hid (faultOf_any c ai ci (l.length : Int) (wq.alloc (.cells #[.int .i64 c.kind, .int .i64 c.k, .int .i64 c.n, .slice ai c.l.length ci] 38)) (hci.cleanQ (Kp.alloc _ _)) (by omega))
      have hbf2 := (Below.heap_alloc wq (.cells #[.int .i64 c.kind, .int .i64 c.k, .int .i64 c.n, .slice ai c.l.length ci] 38) _ z2).trans hbf
      clear hcu dh ds hci hFq
      by_cases hz : fun1 (l.length : Int) c = 0
      · have HZ := hid hz
        clear hz
        go_wp2_with (go_at_call 22; refine HC.out.mono ?_; rintro e w3 ⟨rfl, q3⟩; rw [HZ.out])
        exact ⟨⟨j + 1, by omega, by go_num, by rw [HQ.out.2]; exact HN.out.1 HZ.out, HQ.out.1.trans ((Kp.alloc _ _).trans q3)⟩, by simp [intOf]; omega⟩
      · have HZ := hid hz
        have hz1 : (fun1 (l.length : Int) c != 0) = true := by simpa using hz
        go_wp2_with (go_at_call 22; refine HC.out.mono ?_; rintro e w3 ⟨rfl, q3⟩; obtain ⟨k0, k1, k2, k3⟩ := fault_cells ((q3.block _ (lt_of_block hbf2) (fun e => e)).trans hbf2))
        refine bodyPost_ret (v := .agg #[.int .i64 (fun1 (l.length : Int) c), .int .i64 j]) (by simp [results, Try.results15, go_sem, k0, k1]) rfl ?_
        refine ⟨?_, ?_⟩
        · rw [HE.out, HQ.out.2, HN.out.2 HZ.out]
        · exact (HB.out.2.2.trans (HQ.out.1.trans ((Kp.alloc _ _).trans q3))).fresh ((kp_set _ _ _ _).trans (kp_set _ _ _ _) |>.mono fun k _ e => by omega)
    · have hjl : j = l.length := by omega
      subst hjl
      obtain ⟨k0, k1, k2, k3⟩ := fault_cells hbf
      clear hbf
      go_wp2
      refine bodyPost_ret (v := .agg #[.int .i64 0, .int .i64 0]) (by simp [results, Try.results15, go_sem, k0, k1]) rfl ?_
      refine ⟨?_, ?_⟩
      · rw [HE.out, HQ.out.2, funs_end]
      · exact (HB.out.2.2.trans HQ.out.1).fresh ((kp_set _ _ _ _).trans (kp_set _ _ _ _) |>.mono fun k _ e => by omega)
end Go.Proofs.Ytjcniiojcigefad
