/- What Check does in memory whose blocks may be marked: where it tells no fault, nothing is wrong with what stands by itself. -/
import Derived.Test.YtjcniiojcigefadDeepZ
import Derived.Test.YtjcniiojcigefadTell
namespace Go.Proofs.Ytjcniiojcigefad
open Go.ChangeShapes Go.WideShapes Go.ChangeAt Go.RowKit
theorem frozen_new {w : World} {b : Nat} {a : Array Value} {t : TypeId} (h : w.heap[b]? = some (.cells a t (0, 0))) (o : Nat) : w.frozen? ⟨b, o, none⟩ = false := by simp [World.frozen?, h]
theorem head_boxz {w : World} {b : Nat} {v : V} {ao : Option Addr} {cap : Nat} (h : w.heap[b]? = some (.cells #[.int .i64 v.kind, .int .i64 v.k, .int .i64 v.n, .slice ao v.l.length cap] 38 (0, 0))) (hI : Is (thw w) v ao) : Fo (thw w) [v] (some ⟨b, 0, none⟩) := by
  intro i hi
  obtain rfl : i = 0 := by simp at hi; omega
  refine ⟨b, 0, rfl, ?_⟩
  obtain ⟨h0, h1, h2, h3⟩ := box_cells h
  exact (at_iff _ _ _ _).2 ⟨⟨thw_mk h0 (frozen_new h _), thw_mk h1 (frozen_new h _), thw_mk h2 (frozen_new h _)⟩, ao, cap, thw_mk h3 (frozen_new h _), hI⟩
set_option maxRecDepth 8000 in
set_option maxHeartbeats 2000000 in
theorem faultOf_z (v : V) (ao : Option Addr) (cap : Nat) (F : Int) (w : World) (hI : Is (thw w) v ao) (hS : v.size ≤ 20000) :
    Calls Try.prog 22 #[.agg #[.int .i64 v.kind, .int .i64 v.k, .int .i64 v.n, .slice ao v.l.length cap], .int .i64 F] w fun e w' => ∃ c, e = .returned (.int .i64 c) ∧ (c = 0 → v.bad F 0 = 0) ∧ Quiet w w' := by
  have q2 : Quiet w ((w.alloc (.cells #[.int .i64 v.kind, .int .i64 v.k, .int .i64 v.n, .slice ao v.l.length cap] 38)).alloc (.cells #[.int .i64 v.kind, .int .i64 v.k, .int .i64 v.n, .slice ao v.l.length cap] 38)) := (Kp.alloc _ _).trans (Kp.alloc _ _)
  have hF2 : Fo (thw ((w.alloc (.cells #[.int .i64 v.kind, .int .i64 v.k, .int .i64 v.n, .slice ao v.l.length cap] 38)).alloc (.cells #[.int .i64 v.kind, .int .i64 v.k, .int .i64 v.n, .slice ao v.l.length cap] 38))) [v] (some ⟨w.heap.size + 1, 0, none⟩) := head_boxz (heap_two w _ _) (hI.thawQ q2)
  have hb0 : ((w.alloc (.cells #[.int .i64 v.kind, .int .i64 v.k, .int .i64 v.n, .slice ao v.l.length cap] 38)).alloc (.cells #[.int .i64 v.kind, .int .i64 v.k, .int .i64 v.n, .slice ao v.l.length cap] 38)).heap[w.heap.size]? = some (.cells #[.int .i64 v.kind, .int .i64 v.k, .int .i64 v.n, .slice ao v.l.length cap] 38 (0, 0)) := by
    rw [Below.heap_alloc _ _ _ (by simp)]; exact heap_alloc_new w _
  have HD := hid (deeper_z [v] (some ⟨w.heap.size + 1, 0, none⟩) 1 30 _ hF2 (by rw [sizes_one]; exact hS) (by decide))
  have HM := hid (fun w3 (q : Quiet ((w.alloc (.cells #[.int .i64 v.kind, .int .i64 v.k, .int .i64 v.n, .slice ao v.l.length cap] 38)).alloc (.cells #[.int .i64 v.kind, .int .i64 v.k, .int .i64 v.n, .slice ao v.l.length cap] 38)) w3) => more_any [v] (some ⟨w.heap.size + 1, 0, none⟩) 1 120 w3 (hF2.unthaw.quiet q) (by rw [sizes_one]; exact hS) (by decide))
  have HBX := hid (fun w3 (q : Quiet ((w.alloc (.cells #[.int .i64 v.kind, .int .i64 v.k, .int .i64 v.n, .slice ao v.l.length cap] 38)).alloc (.cells #[.int .i64 v.kind, .int .i64 v.k, .int .i64 v.n, .slice ao v.l.length cap] 38)) w3) => box_cells ((q.block _ (lt_of_block hb0) fun e => e).trans hb0))
  rw [List.length_singleton] at HD HM
  rw [sizes_one] at HM
  clear hF2 hb0
  have HI := hid hI.unthaw
  clear hI
  go_enter Try.func22, Try.ntmps22
  go_wp2_with (go_at_call 27; refine HD.out.mono ?_)
  rintro e w3 ⟨⟨bd, rfl⟩, q3⟩
  cases bd with
  | true =>
    go_wp2
    go_ret
    exact ⟨4, rfl, fun h => (by cases h), q2.trans q3⟩
  | false =>
    by_cases h2 : 120 < v.size
    · have hm := hid (show decide (120 < v.size) = true by simpa using h2)
      clear h2
      go_wp2_with (go_at_call 29; refine (HM.out w3 q3).mono ?_; rintro e w4 ⟨rfl, q4⟩; rw [hm.out])
      go_ret
      exact ⟨3, rfl, fun h => (by cases h), q2.trans (q3.trans q4)⟩
    · have hm := hid (show decide (120 < v.size) = false by simpa using h2)
      clear h2
      go_wp2_with (first
        | (go_at_call 30; refine (searchP_any v ao cap w4.heap.size F 0 w (w4.alloc (.cells #[.int .i64 0] 3)) ⟨(q24.trans (Kp.alloc _ _)).low, q24.size, (by simp)⟩ HI.out hS (heap_alloc_new w4 _)).mono ?_; rintro e w5 ⟨⟨r, rfl⟩, hb5, q5⟩; have c5 := cell_of_one hb5)
        | (go_at_call 29; refine (HM.out w3 q3).mono ?_; rintro e w4 ⟨rfl, q4⟩; rw [hm.out]; have q24 := q2.trans (q3.trans q4); obtain ⟨y0, y1, y2, y3⟩ := HBX.out w4 (q3.trans q4); have z4 : w.heap.size < w4.heap.size := (by have := (q3.trans q4).size; simp at this; omega)))
      go_ret
      refine ⟨_, rfl, fun h => h, ?_⟩
      exact q24.fresh (((Kp.alloc _ _).trans q5).mono fun k _ e => by have := q24.size; omega)
/-- What Check tells: where it is no fault, there is a function, and nothing is wrong with what stands by itself. -/
def CheckQ (l : List V) (w : World) (e : Ending) (w' : World) : Prop := ∃ f : Int × Int, e = .returned (.agg #[.int .i64 f.1, .int .i64 f.2]) ∧ (f.1 = 0 → 1 ≤ l.length ∧ ∀ v ∈ l, v.bad l.length 0 = 0) ∧ Quiet w w'
theorem checkQ_mk {l : List V} {w w' : World} {e : Ending} (f : Int × Int) (h1 : e = .returned (.agg #[.int .i64 f.1, .int .i64 f.2])) (h2 : f.1 = 0 → 1 ≤ l.length ∧ ∀ v ∈ l, v.bad l.length 0 = 0) (h3 : Quiet w w') : CheckQ l w e w' := ⟨f, h1, h2, h3⟩
set_option maxRecDepth 8000 in
set_option maxHeartbeats 2000000 in
theorem check_z (l : List V) (ao : Option Addr) (cap : Nat) (w : World) (hF : Fo (thw w) l ao) (hS : sizes l ≤ 20000) :
    Calls Try.prog 15 #[.agg #[.slice ao l.length cap]] w fun e w' => CheckQ l w e w' := by
  have q2 : Quiet w ((w.alloc (.cells #[.slice ao l.length cap] 24)).alloc (.cells #[.int .i64 0, .int .i64 0] 30)) := (Kp.alloc _ _).trans (Kp.alloc _ _)
  have hb0 : ((w.alloc (.cells #[.slice ao l.length cap] 24)).alloc (.cells #[.int .i64 0, .int .i64 0] 30)).heap[w.heap.size]? = some (.cells #[.slice ao l.length cap] 24 (0, 0)) := by
    rw [Below.heap_alloc _ _ _ (by simp)]; exact heap_alloc_new w _
  have hb1 := heap_two w (.cells #[.slice ao l.length cap] 24) (.cells #[.int .i64 0, .int .i64 0] 30)
  have hll := sizes_len l
  have hl5 : l.length ≤ 20000 := by omega
  by_cases h1 : l.length < 1
  · have h1' : (l.length : Int) < 1 := by omega
    clear h1
    go_enter Try.func15, Try.ntmps15
    go_wp2
    refine bodyPost_ret (v := .agg #[.int .i64 3, .int .i64 (-1)]) (by simp [results, Try.results15, go_sem]) rfl ?_
    exact checkQ_mk (3, -1) rfl (fun h => (by cases h)) ((Kp.alloc _ _).trans (Kp.alloc _ _))
  have h1' : ¬ (l.length : Int) < 1 := by omega
  by_cases h2 : 6 < l.length
  · have h2' : (6 : Int) < (l.length : Int) := by omega
    clear h1 h2
    go_enter Try.func15, Try.ntmps15
    go_wp2
    refine bodyPost_ret (v := .agg #[.int .i64 3, .int .i64 (-1)]) (by simp [results, Try.results15, go_sem]) rfl ?_
    exact checkQ_mk (3, -1) rfl (fun h => (by cases h)) ((Kp.alloc _ _).trans (Kp.alloc _ _))
  have h2' : ¬ (6 : Int) < (l.length : Int) := by omega
  have HL := hid (show 1 ≤ l.length by omega)
  have HF := hid hF
  have HB := hid (And.intro hb0 (And.intro hb1 q2))
  clear hF hb0 hb1 q2 h1 h2
  go_enter Try.func15, Try.ntmps15
  go_wp2
  go_loopw [20] (fun i wr => ∃ j : Nat, j ≤ l.length ∧ i = .int .i64 j ∧ (∀ v ∈ l.take j, v.bad l.length 0 = 0) ∧ Quiet ((w.alloc (.cells #[.slice ao l.length cap] 24)).alloc (.cells #[.int .i64 0, .int .i64 0] 30)) wr) (fun i _ => l.length - (intOf i).toNat)
  case atStart => exact ⟨0, Nat.zero_le _, rfl, fun v hv => by simp at hv, Kp.refl _ _⟩
  case round =>
    rename World => wq
    obtain ⟨j, hj, rfl, hf, q⟩ := hrel
    have x0 := mod_cell ((q.block _ (lt_of_block HB.out.1) fun e => e).trans HB.out.1)
    have hbf := (q.block _ (lt_of_block HB.out.2.1) fun e => e).trans HB.out.2.1
    have hsz := q.size
    have z1 : w.heap.size < wq.heap.size := by simp at hsz; omega
    have z2 : w.heap.size + 1 < wq.heap.size := by simp at hsz; omega
    have HQ := hid (And.intro q hf)
    clear q hf hsz
    by_cases hlt : j < l.length
    · have hFq := HF.out.thawQ (HB.out.2.2.trans HQ.out.1)
      obtain ⟨b, off, rfl, dh, ai, ci, ds, hci⟩ := hFq.get j hlt
      obtain ⟨d0, d1, d2⟩ := dh
      have d0 := (thw_cell d0 (by simp)).1
      have d1 := (thw_cell d1 (by simp)).1
      have d2 := (thw_cell d2 (by simp)).1
      have dsk := (thw_cell ds (by simp)).1
      have hsz := size_get l j hlt
      have HN := hid (show l.take (j + 1) = l.take j ++ [l[j]] from take_snoc l j hlt)
      generalize hcu : l[j] = c at *
      have HC := hid (faultOf_z c ai ci (l.length : Int) (wq.alloc (.cells #[.int .i64 c.kind, .int .i64 c.k, .int .i64 c.n, .slice ai c.l.length ci] 38)) (hci.thawQ (Kp.alloc _ _)) (by omega))
      have hbf2 := (Below.heap_alloc wq (.cells #[.int .i64 c.kind, .int .i64 c.k, .int .i64 c.n, .slice ai c.l.length ci] 38) _ z2).trans hbf
      clear hcu ds hci hFq
      go_wp2_with (go_at_call 22; refine HC.out.mono ?_)
      rintro e w3 ⟨cd, rfl, hcd, q3⟩
      obtain ⟨k0, k1, k2, k3⟩ := fault_cells ((q3.block _ (lt_of_block hbf2) (fun e => e)).trans hbf2)
      have z3 : w.heap.size + 1 < w3.heap.size := by have := q3.size; simp at this; omega
      by_cases hz : cd = 0
      · subst hz
        have HCD := hid (hcd rfl)
        clear hcd
        go_wp2
        refine ⟨⟨j + 1, by omega, by go_num, fun v hv => ?_, HQ.out.1.trans ((Kp.alloc _ _).trans q3)⟩, by simp [intOf]; omega⟩
        rw [HN.out] at hv
        rcases List.mem_append.1 hv with hv | hv
        · exact HQ.out.2 v hv
        · simp at hv; subst hv; exact HCD.out
      · have HZ := hid hz
        have hz1 : (cd != 0) = true := by simpa using hz
        clear hcd
        go_wp2
        refine bodyPost_ret (v := .agg #[.int .i64 cd, .int .i64 j]) (by simp [results, Try.results15, go_sem, k0, k1]) rfl ?_
        exact checkQ_mk (cd, j) rfl (fun h => absurd h HZ.out) ((HB.out.2.2.trans (HQ.out.1.trans ((Kp.alloc _ _).trans q3))).fresh ((kp_set _ _ _ _).trans (kp_set _ _ _ _) |>.mono fun k _ e => by omega))
    · have hjl : j = l.length := by omega
      subst hjl
      obtain ⟨k0, k1, k2, k3⟩ := fault_cells hbf
      clear hbf
      go_wp2
      refine bodyPost_ret (v := .agg #[.int .i64 0, .int .i64 0]) (by simp [results, Try.results15, go_sem, k0, k1]) rfl ?_
      refine checkQ_mk (0, 0) rfl (fun _ => ⟨HL.out, fun v hv => HQ.out.2 v (by rw [List.take_length]; exact hv)⟩) ?_
      exact (HB.out.2.2.trans HQ.out.1).fresh ((kp_set _ _ _ _).trans (kp_set _ _ _ _) |>.mono fun k _ e => by omega)
end Go.Proofs.Ytjcniiojcigefad
