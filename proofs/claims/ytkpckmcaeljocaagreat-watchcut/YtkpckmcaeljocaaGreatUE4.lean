/- Parts. -/
import Derived.Test.YtkpckmcaeljocaaGreatUE3
namespace Go.Proofs.YtkpckmcaeljocaaGreat.Ex
open Go.ChangeShapes Go.WideShapes Go.ChangeAt Go.RowKit
theorem frozen_new {w : World} {b : Nat} {a : Array Value} {t : TypeId} (h : w.heap[b]? = some (.cells a t (0, 0))) (o : Nat) : w.frozen? ⟨b, o, none⟩ = false := by simp [World.frozen?, h]
theorem head_boxz {w : World} {b : Nat} {v : V} {ao : Option Addr} {cap : Nat} (h : w.heap[b]? = some (.cells #[.int .i64 v.kind, .int .i64 v.k, .int .i64 v.n, .slice ao v.l.length cap] 105 (0, 0))) (hI : Is (thw w) v ao) : Fo (thw w) [v] (some ⟨b, 0, none⟩) := by
  intro i hi
  obtain rfl : i = 0 := by simp at hi; omega
  refine ⟨b, 0, rfl, ?_⟩
  obtain ⟨h0, h1, h2, h3⟩ := box_cells h
  exact (at_iff _ _ _ _).2 ⟨⟨thw_mk h0 (frozen_new h _), thw_mk h1 (frozen_new h _), thw_mk h2 (frozen_new h _)⟩, ao, cap, thw_mk h3 (frozen_new h _), hI⟩
set_option maxRecDepth 8000 in
set_option maxHeartbeats 2000000 in
theorem faultOf_z (v : V) (ao : Option Addr) (cap : Nat) (F : Int) (w : World) (hI : Is (thw w) v ao) (hS : v.size ≤ 20000) :
    Calls Tryz.prog 98 #[.agg #[.int .i64 v.kind, .int .i64 v.k, .int .i64 v.n, .slice ao v.l.length cap], .int .i64 F] w fun e w' => ∃ c, e = .returned (.int .i64 c) ∧ (c = 0 → v.bad F 0 = 0) ∧ Quiet w w' := by
  have q2 : Quiet w ((w.alloc (.cells #[.int .i64 v.kind, .int .i64 v.k, .int .i64 v.n, .slice ao v.l.length cap] 105)).alloc (.cells #[.int .i64 v.kind, .int .i64 v.k, .int .i64 v.n, .slice ao v.l.length cap] 105)) := (Kp.alloc _ _).trans (Kp.alloc _ _)
  have hF2 : Fo (thw ((w.alloc (.cells #[.int .i64 v.kind, .int .i64 v.k, .int .i64 v.n, .slice ao v.l.length cap] 105)).alloc (.cells #[.int .i64 v.kind, .int .i64 v.k, .int .i64 v.n, .slice ao v.l.length cap] 105))) [v] (some ⟨w.heap.size + 1, 0, none⟩) := head_boxz (heap_two w _ _) (hI.thawQ q2)
  have hb0 : ((w.alloc (.cells #[.int .i64 v.kind, .int .i64 v.k, .int .i64 v.n, .slice ao v.l.length cap] 105)).alloc (.cells #[.int .i64 v.kind, .int .i64 v.k, .int .i64 v.n, .slice ao v.l.length cap] 105)).heap[w.heap.size]? = some (.cells #[.int .i64 v.kind, .int .i64 v.k, .int .i64 v.n, .slice ao v.l.length cap] 105 (0, 0)) := by
    rw [Below.heap_alloc _ _ _ (by simp)]; exact heap_alloc_new w _
  have HD := hid (deeper_z [v] (some ⟨w.heap.size + 1, 0, none⟩) 1 30 _ hF2 (by rw [sizes_one]; exact hS) (by decide))
  have HM := hid (fun w3 (q : Quiet ((w.alloc (.cells #[.int .i64 v.kind, .int .i64 v.k, .int .i64 v.n, .slice ao v.l.length cap] 105)).alloc (.cells #[.int .i64 v.kind, .int .i64 v.k, .int .i64 v.n, .slice ao v.l.length cap] 105)) w3) => more_any [v] (some ⟨w.heap.size + 1, 0, none⟩) 1 120 w3 (hF2.unthaw.quiet q) (by rw [sizes_one]; exact hS) (by decide))
  have HBX := hid (fun w3 (q : Quiet ((w.alloc (.cells #[.int .i64 v.kind, .int .i64 v.k, .int .i64 v.n, .slice ao v.l.length cap] 105)).alloc (.cells #[.int .i64 v.kind, .int .i64 v.k, .int .i64 v.n, .slice ao v.l.length cap] 105)) w3) => box_cells ((q.block _ (lt_of_block hb0) fun e => e).trans hb0))
  rw [List.length_singleton] at HD HM
  rw [sizes_one] at HM
  clear hF2 hb0
  have HI := hid hI.unthaw
  clear hI
  go_enter Tryz.func98, Tryz.ntmps98
  go_wp2_with (go_at_call 117; refine HD.out.mono ?_)
  rintro e w3 ⟨⟨bd, rfl⟩, q3⟩
  cases bd with
  | true =>
    go_wp2
    go_ret
    exact ⟨4, rfl, fun h => (by cases h), q2.trans q3⟩
  | false =>
    by_cases h2 : 120 < v.size
    · have hm := hid (show decide (120 < v.size) = true by simpa using h2)
      clear h2
      go_wp2_with (go_at_call 119; refine (HM.out w3 q3).mono ?_; rintro e w4 ⟨rfl, q4⟩; rw [hm.out])
      go_ret
      exact ⟨3, rfl, fun h => (by cases h), q2.trans (q3.trans q4)⟩
    · have hm := hid (show decide (120 < v.size) = false by simpa using h2)
      clear h2
      go_wp2_with (first
        | (go_at_call 120; refine (searchP_any v ao cap w4.heap.size F 0 w (w4.alloc (.cells #[.int .i64 0] 3)) ⟨(q24.trans (Kp.alloc _ _)).low, q24.size, (by simp)⟩ HI.out hS (heap_alloc_new w4 _)).mono ?_; rintro e w5 ⟨⟨r, rfl⟩, hb5, q5⟩; have c5 := cell_of_one hb5)
        | (go_at_call 119; refine (HM.out w3 q3).mono ?_; rintro e w4 ⟨rfl, q4⟩; rw [hm.out]; have q24 := q2.trans (q3.trans q4); obtain ⟨y0, y1, y2, y3⟩ := HBX.out w4 (q3.trans q4); have z4 : w.heap.size < w4.heap.size := (by have := (q3.trans q4).size; simp at this; omega)))
      go_ret
      refine ⟨_, rfl, fun h => h, ?_⟩
      exact q24.fresh (((Kp.alloc _ _).trans q5).mono fun k _ e => by have := q24.size; omega)
def CheckQ (l : List V) (w : World) (e : Ending) (w' : World) : Prop := ∃ f : Int × Int, e = .returned (.agg #[.int .i64 f.1, .int .i64 f.2]) ∧ (f.1 = 0 → 1 ≤ l.length ∧ ∀ v ∈ l, v.bad l.length 0 = 0) ∧ Quiet w w'
theorem checkQ_mk {l : List V} {w w' : World} {e : Ending} (f : Int × Int) (h1 : e = .returned (.agg #[.int .i64 f.1, .int .i64 f.2])) (h2 : f.1 = 0 → 1 ≤ l.length ∧ ∀ v ∈ l, v.bad l.length 0 = 0) (h3 : Quiet w w') : CheckQ l w e w' := ⟨f, h1, h2, h3⟩
set_option maxRecDepth 8000 in
set_option maxHeartbeats 2000000 in
theorem check_z (l : List V) (ao : Option Addr) (cap : Nat) (w : World) (hF : Fo (thw w) l ao) (hS : sizes l ≤ 20000) :
    Calls Tryz.prog 87 #[.agg #[.slice ao l.length cap]] w fun e w' => CheckQ l w e w' := by
  have q2 : Quiet w ((w.alloc (.cells #[.slice ao l.length cap] 45)).alloc (.cells #[.int .i64 0, .int .i64 0] 27)) := (Kp.alloc _ _).trans (Kp.alloc _ _)
  have hb0 : ((w.alloc (.cells #[.slice ao l.length cap] 45)).alloc (.cells #[.int .i64 0, .int .i64 0] 27)).heap[w.heap.size]? = some (.cells #[.slice ao l.length cap] 45 (0, 0)) := by
    rw [Below.heap_alloc _ _ _ (by simp)]; exact heap_alloc_new w _
  have hb1 := heap_two w (.cells #[.slice ao l.length cap] 45) (.cells #[.int .i64 0, .int .i64 0] 27)
  have hll := sizes_len l
  have hl5 : l.length ≤ 20000 := by omega
  by_cases h1 : l.length < 1
  · have h1' : (l.length : Int) < 1 := by omega
    clear h1
    go_enter Tryz.func87, Tryz.ntmps87
    go_wp2
    refine bodyPost_ret (v := .agg #[.int .i64 3, .int .i64 (-1)]) (by simp [results, Tryz.results87, go_sem]) rfl ?_
    exact checkQ_mk (3, -1) rfl (fun h => (by cases h)) ((Kp.alloc _ _).trans (Kp.alloc _ _))
  have h1' : ¬ (l.length : Int) < 1 := by omega
  by_cases h2 : 6 < l.length
  · have h2' : (6 : Int) < (l.length : Int) := by omega
    clear h1 h2
    go_enter Tryz.func87, Tryz.ntmps87
    go_wp2
    refine bodyPost_ret (v := .agg #[.int .i64 3, .int .i64 (-1)]) (by simp [results, Tryz.results87, go_sem]) rfl ?_
    exact checkQ_mk (3, -1) rfl (fun h => (by cases h)) ((Kp.alloc _ _).trans (Kp.alloc _ _))
  have h2' : ¬ (6 : Int) < (l.length : Int) := by omega
  have HL := hid (show 1 ≤ l.length by omega)
  have HF := hid hF
  have HB := hid (And.intro hb0 (And.intro hb1 q2))
  clear hF hb0 hb1 q2 h1 h2
  go_enter Tryz.func87, Tryz.ntmps87
  go_wp2
  go_loopw [20] (fun i wr => ∃ j : Nat, j ≤ l.length ∧ i = .int .i64 j ∧ (∀ v ∈ l.take j, v.bad l.length 0 = 0) ∧ Quiet ((w.alloc (.cells #[.slice ao l.length cap] 45)).alloc (.cells #[.int .i64 0, .int .i64 0] 27)) wr) (fun i _ => l.length - (intOf i).toNat)
  case atStart => exact ⟨0, Nat.zero_le _, rfl, fun v hv => by simp at hv, Kp.refl _ _⟩
  case round =>
    rename World => wq
    obtain ⟨j, hj, rfl, hf, q⟩ := hrel
    have x0 := mod_cell ((q.block _ (lt_of_block HB.out.1) fun e => e).trans HB.out.1)
    have hbf := (q.block _ (lt_of_block HB.out.2.1) fun e => e).trans HB.out.2.1
    have hsz := q.size
    have z1 : w.heap.size < wq.heap.size := by simp at hsz; omega
    have z2 : w.heap.size + 1 < wq.heap.size := by simp at hsz; omega
    have HQ := hid (And.intro q hf)
    clear q hf hsz
    by_cases hlt : j < l.length
    · have hFq := HF.out.thawQ (HB.out.2.2.trans HQ.out.1)
      obtain ⟨b, off, rfl, dh, ai, ci, ds, hci⟩ := hFq.get j hlt
      obtain ⟨d0, d1, d2⟩ := dh
      have d0 := (thw_cell d0 (by simp)).1
      have d1 := (thw_cell d1 (by simp)).1
      have d2 := (thw_cell d2 (by simp)).1
      have dsk := (thw_cell ds (by simp)).1
      have hsz := size_get l j hlt
      have HN := hid (show l.take (j + 1) = l.take j ++ [l[j]] from take_snoc l j hlt)
      generalize hcu : l[j] = c at *
      have HC := hid (faultOf_z c ai ci (l.length : Int) (wq.alloc (.cells #[.int .i64 c.kind, .int .i64 c.k, .int .i64 c.n, .slice ai c.l.length ci] 105)) (hci.thawQ (Kp.alloc _ _)) (by omega))
      have hbf2 := (Below.heap_alloc wq (.cells #[.int .i64 c.kind, .int .i64 c.k, .int .i64 c.n, .slice ai c.l.length ci] 105) _ z2).trans hbf
      clear hcu ds hci hFq
      go_wp2_with (go_at_call 98; refine HC.out.mono ?_)
      rintro e w3 ⟨cd, rfl, hcd, q3⟩
      obtain ⟨k0, k1, k2, k3⟩ := fault_cells ((q3.block _ (lt_of_block hbf2) (fun e => e)).trans hbf2)
      have z3 : w.heap.size + 1 < w3.heap.size := by have := q3.size; simp at this; omega
      by_cases hz : cd = 0
      · subst hz
        have HCD := hid (hcd rfl)
        clear hcd
        go_wp2
        refine ⟨⟨j + 1, by omega, by go_num, fun v hv => ?_, HQ.out.1.trans ((Kp.alloc _ _).trans q3)⟩, by simp [intOf]; omega⟩
        rw [HN.out] at hv
        rcases List.mem_append.1 hv with hv | hv
        · exact HQ.out.2 v hv
        · simp at hv; subst hv; exact HCD.out
      · have HZ := hid hz
        have hz1 : (cd != 0) = true := by simpa using hz
        clear hcd
        go_wp2
        refine bodyPost_ret (v := .agg #[.int .i64 cd, .int .i64 j]) (by simp [results, Tryz.results87, go_sem, k0, k1]) rfl ?_
        exact checkQ_mk (cd, j) rfl (fun h => absurd h HZ.out) ((HB.out.2.2.trans (HQ.out.1.trans ((Kp.alloc _ _).trans q3))).fresh ((kp_set _ _ _ _).trans (kp_set _ _ _ _) |>.mono fun k _ e => by omega))
    · have hjl : j = l.length := by omega
      subst hjl
      obtain ⟨k0, k1, k2, k3⟩ := fault_cells hbf
      clear hbf
      go_wp2
      refine bodyPost_ret (v := .agg #[.int .i64 0, .int .i64 0]) (by simp [results, Tryz.results87, go_sem, k0, k1]) rfl ?_
      refine checkQ_mk (0, 0) rfl (fun _ => ⟨HL.out, fun v hv => HQ.out.2 v (by rw [List.take_length]; exact hv)⟩) ?_
      exact (HB.out.2.2.trans HQ.out.1).fresh ((kp_set _ _ _ _).trans (kp_set _ _ _ _) |>.mono fun k _ e => by omega)
theorem Tryz.infoLs : (Tryz.prog.info? 159).map (fun i => (i.zero, i.size, i.bytes)) = some (some (.slice none 0 0), 1, 24) := by kernel_rfl
theorem Tryz.undLs : Tryz.prog.underlying 62 = some (.slice 159) := by kernel_rfl
abbrev Ls := List Ik × Option Addr × Nat
def lsv (x : Ls) : Value := .slice x.2.1 x.1.length x.2.2
structure Md (B : Nat) (w : World) (sv : Value) (n : Nat) (ps : List Ls) : Prop where
  row : w.ownsRow B 159 1 sv n (ps.map lsv)
  len : n = ps.length
  all : ∀ p ∈ ps, w.ownsRow B 165 3 (lsv p) p.1.length (insC p.1)
theorem Md.kept {B : Nat} {w w' : World} {sv : Value} {n : Nat} {ps : List Ls} {F : Nat → Prop} (h : Md B w sv n ps) (q : Kp F w w') (hF : ∀ k, B ≤ k → k < w.heap.size → ¬ F k) : Md B w' sv n ps :=
  ⟨q.row h.row fun k e => hF k (h.row.lt k e).1 (h.row.lt k e).2, h.len, fun p hp => q.row (h.all p hp) fun k e => hF k ((h.all p hp).lt k e).1 ((h.all p hp).lt k e).2⟩
theorem Md.quiet {B : Nat} {w w' : World} {sv : Value} {n : Nat} {ps : List Ls} (h : Md B w sv n ps) (q : Quiet w w') : Md B w' sv n ps := h.kept q fun _ _ _ e => e
theorem Md.mono {B B' : Nat} {w : World} {sv : Value} {n : Nat} {ps : List Ls} (h : Md B w sv n ps) (hB : B' ≤ B) : Md B' w sv n ps := ⟨owns_mono h.row hB, h.len, fun p hp => owns_mono (h.all p hp) hB⟩
theorem below_kp {b : Nat} {w w' : World} (h : Below b w w') : Kp (fun k => b ≤ k) w w' := ⟨h.os, h.tape, h.output, h.size, fun k _ hk => h.block k (by omega)⟩
theorem rows_apart {w : World} {B B' s s' n n' : Nat} {e e' : TypeId} {v v' : Value} {xs xs' : List Value} (h : w.ownsRow B e s v n xs) (h' : w.ownsRow B' e' s' v' n' xs') (he : e ≠ e') (k : Nat) (hk : v.ownBlock = some k) : v'.ownBlock ≠ some k := by
  intro hk'
  rcases h.2 with ⟨rfl, _⟩ | ⟨g, cap, cur, rfl, _, hg, _⟩
  · simp [Value.ownBlock] at hk
  · rcases h'.2 with ⟨rfl, _⟩ | ⟨g', cap', cur', rfl, _, hg', _⟩
    · simp [Value.ownBlock] at hk'
    · simp [Value.ownBlock] at hk hk'
      subst hk
      rw [hk', hg] at hg'
      simp at hg'
      exact he hg'.2
theorem md_push {B g cap m : Nat} {w w' : World} {sv : Value} {ps : List Ls} {p : Ls} {o : Obj} (M : Md B w sv m ps) (hp : w.ownsRow B 165 3 (lsv p) p.1.length (insC p.1))
    (hr : w'.ownsRow B 159 1 (.slice (some ⟨g, 0, none⟩) (m + 1) cap) (m + 1) (ps.map lsv ++ [lsv p])) (hg : (w.alloc o).grownBy w' sv.ownBlock) : Md B w' (.slice (some ⟨g, 0, none⟩) (m + 1) cap) (m + 1) (ps ++ [p]) := by
  have hk : ∀ x : Ls, w.ownsRow B 165 3 (lsv x) x.1.length (insC x.1) → w'.ownsRow B 165 3 (lsv x) x.1.length (insC x.1) := by
    intro x hx
    have q : Kp (fun k => some k = sv.ownBlock) w w' := (Kp.alloc w o).trans (Kp.grown hg fun k _ e => e)
    exact q.row hx fun k e e' => rows_apart hx M.row (by decide) k e e'.symm
  refine ⟨by simpa using hr, by rw [List.length_append, M.len]; rfl, fun x hx => ?_⟩
  rcases List.mem_append.1 hx with hx | hx
  · exact hk x (M.all x hx)
  · simp at hx; subst hx; exact hk _ hp
def MakeQ (P : Int × Int → Prop) (l : List V) (w : World) (e : Ending) (w' : World) : Prop := ∃ f : Int × Int, P f ∧ Quiet w w' ∧
  ((f.1 ≠ 0 ∧ e = .returned (.tuple #[.slice none 0 0, .agg #[.int .i64 f.1, .int .i64 f.2]])) ∨
   (f.1 = 0 ∧ ∃ ao cap ps, e = .returned (.tuple #[.slice ao l.length cap, .agg #[.int .i64 0, .int .i64 0]]) ∧ Md w.heap.size w' (.slice ao l.length cap) l.length ps ∧ ps.map (·.1) = l.map funC))
theorem funs_take (l : List V) (j : Nat) (h : j < l.length) : (l.take (j + 1)).map funC = (l.take j).map funC ++ [funC l[j]] := by rw [take_snoc l j h, List.map_append]; rfl
theorem far_set (w0 w : World) (x o : Nat) (y : Value) (h : w0.heap.size ≤ x) : Kp (fun i => w0.heap.size ≤ i) w (w.setCell ⟨x, o, none⟩ y) := Kp.setCell w ⟨x, o, none⟩ y h
theorem far_two (w0 w : World) (x : Nat) (y z : Value) (h : w0.heap.size ≤ x) : Kp (fun i => w0.heap.size ≤ i) w ((w.setCell ⟨x, 0, none⟩ y).setCell ⟨x, 1, none⟩ z) := (far_set w0 _ x 0 y h).trans (far_set w0 _ x 1 z h)
theorem at_two (w : World) (x : Nat) (y z : Value) : Kp (fun i => i = x) w ((w.setCell ⟨x, 0, none⟩ y).setCell ⟨x, 1, none⟩ z) := (kp_set w x 0 y).trans (kp_set _ x 1 z)
structure MkS (w : World) (l : List V) (j : Nat) (sv : Value) (ps : List Ls) (wr : World) : Prop where
  made : Md (w.heap.size + 2) wr sv j ps
  funs : ps.map (·.1) = (l.take j).map funC
  low : Below w.heap.size w wr
  box : wr.heap[w.heap.size + 1]? = some (.cells #[.int .i64 0, .int .i64 0] 27 (0, 0))
theorem MkS.mid {w wr A w5 : World} {l : List V} {j : Nat} {sv : Value} {ps : List Ls} (H : MkS w l j sv ps wr) (q : Quiet wr A) (k : KI (wr.heap.size + 1) A w5) : MkS w l j sv ps w5 := by
  have kp : Kp (fun k => wr.heap.size + 1 ≤ k) wr w5 := (q.mono fun _ _ e => e.elim).trans (below_kp k.low)
  have hz := lt_of_block H.box
  refine ⟨H.made.kept kp fun k _ h => by omega, H.funs, H.low.trans (kp.below H.low.size fun k hk => by have := H.low.size; omega), ?_⟩
  rw [kp.block _ hz (by omega)]; exact H.box
theorem MkS.step {w w5 w6 : World} {l : List V} {j g cap : Nat} {sv : Value} {ps : List Ls} {u : V} {p : Ls} {o : Obj} (H : MkS w l j sv ps w5) (hN : (l.take (j + 1)).map funC = (l.take j).map funC ++ [funC u]) (hp : p.1 = funC u) (hr5 : w5.ownsRow (w.heap.size + 2) 165 3 (lsv p) p.1.length (insC p.1))
    (hr : w6.ownsRow (w.heap.size + 2) 159 1 (.slice (some ⟨g, 0, none⟩) (j + 1) cap) (j + 1) (ps.map lsv ++ [lsv p])) (hg : (w5.alloc o).grownBy w6 sv.ownBlock) : MkS w l (j + 1) (.slice (some ⟨g, 0, none⟩) (j + 1) cap) (ps ++ [p]) w6 := by
  have hz := lt_of_block H.box
  have kp : Kp (fun k => w.heap.size + 2 ≤ k) w5 w6 := (Kp.alloc w5 o).trans (Kp.grown hg fun k _ e => (H.made.row.lt k e.symm).1)
  refine ⟨md_push H.made hr5 hr hg, ?_, H.low.trans (kp.below H.low.size fun k hk => by omega), ?_⟩
  · rw [List.map_append, H.funs, hN, List.map_singleton, hp]
  · rw [kp.block _ hz (by omega)]; exact H.box
set_option maxRecDepth 8000 in
set_option maxHeartbeats 4000000 in
theorem make_of (l : List V) (ao : Option Addr) (cap : Nat) (w : World) (hF : Fo w l ao) (hS : sizes l ≤ 20000) (P : Int × Int → Prop) (hP1 : ∀ f, P f → f.1 = 0 → ∀ v ∈ l, Ok v)
    (hC : ∀ w1, Quiet w w1 → Calls Tryz.prog 87 #[.agg #[.slice ao l.length cap]] w1 fun e w' => ∃ f : Int × Int, e = .returned (.agg #[.int .i64 f.1, .int .i64 f.2]) ∧ P f ∧ Quiet w1 w') :
    Calls Tryz.prog 71 #[.agg #[.slice ao l.length cap]] w fun e w' => MakeQ P l w e w' := by
  obtain ⟨i0, hi, hz0, hz1, hz2⟩ := info_parts' Tryz.infoLs
  have q2 : Quiet w ((w.alloc (.cells #[.slice ao l.length cap] 45)).alloc (.cells #[.int .i64 0, .int .i64 0] 27)) := (Kp.alloc _ _).trans (Kp.alloc _ _)
  have hb0 : ((w.alloc (.cells #[.slice ao l.length cap] 45)).alloc (.cells #[.int .i64 0, .int .i64 0] 27)).heap[w.heap.size]? = some (.cells #[.slice ao l.length cap] 45 (0, 0)) := by
    rw [Below.heap_alloc _ _ _ (by simp)]; exact heap_alloc_new w _
  have hb1 := heap_two w (.cells #[.slice ao l.length cap] 45) (.cells #[.int .i64 0, .int .i64 0] 27)
  have hll := sizes_len l
  have hl5 : l.length ≤ 20000 := by omega
  have HC := hid (hC _ q2)
  have HF := hid hF
  have HP := hid hP1
  clear hC hF hP1
  go_enter Tryz.func71, Tryz.ntmps71
  go_wp2_with (go_at_call 87; refine HC.out.mono ?_)
  rintro e w3 ⟨⟨c, a⟩, rfl, hPf, q3⟩
  simp only
  have hb03 := (q3.block _ (lt_of_block hb0) fun e => e).trans hb0
  have hb13 := (q3.block _ (lt_of_block hb1) fun e => e).trans hb1
  have x0 := mod_cell hb03
  obtain ⟨k0, k1, k2, k3⟩ := fault_cells hb13
  have z3 : w.heap.size < w3.heap.size := lt_of_block hb03
  have z3' : w.heap.size + 1 < w3.heap.size := lt_of_block hb13
  have q23 := q2.trans q3
  by_cases hc : c = 0
  · subst hc
    have HO := hid (HP.out _ hPf rfl)
    have q4 : Quiet w (w3.alloc (.cells #[.int .i64 0, .int .i64 a] 27)) := q23.trans (Kp.alloc _ _)
    have hb14 := (Below.heap_alloc w3 (.cells #[.int .i64 0, .int .i64 a] 27) _ z3').trans hb13
    have HQ4 := hid (And.intro q4 hb14)
    have HPF := hid hPf
    clear hb03 hb13 hb14 hb0 hb1 q2 q3 q4 hPf
    go_wp2
    go_loopw [5, 18] (fun sv i wr => ∃ (j : Nat) (ps : List Ls), j ≤ l.length ∧ i = .int .i64 j ∧ MkS w l j sv ps wr) (fun _ i _ => l.length - (intOf i).toNat)
    case atStart =>
      exact ⟨0, [], Nat.zero_le _, rfl, ⟨⟨World.ownsRow_nil _ _ _ _, rfl, fun p hp => by simp at hp⟩, rfl, HQ4.out.1.low, HQ4.out.2⟩⟩
    case round =>
      obtain ⟨j, ps, hj, rfl, hM⟩ := hrel
      have hzw := lt_of_block hM.box
      have hB := hM.low
      by_cases hlt : j < l.length
      · obtain ⟨bb, oo, rfl, dh, ca, cc, ds, hk⟩ := HF.out.get j hlt
        obtain ⟨d0, d1, d2⟩ := head_kept (low_kept hB) dh
        have dsk := low_kept hB _ _ ds
        have hus := size_get l j hlt
        have hO := HO.out l[j] (List.getElem_mem hlt)
        have HN := hid (funs_take l j hlt)
        generalize l[j] = u at *
        obtain ⟨sa, sc, hsv⟩ := owns_shape hM.made.row
        subst hsv
        obtain ⟨A, hA⟩ : ∃ A, A = (wr.alloc (.cells #[.int .i64 u.kind, .int .i64 u.k, .int .i64 u.n, .slice ca u.l.length cc] 105)).alloc (.cells #[.slice none 0 0] 161) := ⟨_, rfl⟩
        have qA : Quiet wr A := by rw [hA]; exact (Kp.alloc _ _).trans (Kp.alloc _ _)
        have hLA : Lst (wr.heap.size + 1) [] A := by rw [hA]; have := lst_new (wr.alloc (.cells #[.int .i64 u.kind, .int .i64 u.k, .int .i64 u.n, .slice ca u.l.length cc] 105)); simpa using this
        have hBA : Below w.heap.size w A := low_of hB qA hB.size
        have HL := hid (lexpr_any w (wr.heap.size + 1) u ca cc [] A hk hO hBA (by have := hB.size; omega) hLA (by simp; omega))
        rw [List.nil_append, List.length_nil, hA] at HL
        have hul := code_len u 0
        have HA := hid (And.intro hA (And.intro qA hBA))
        have HM := hid hM
        have hBs := hB.size
        clear dh ds hk hM hB k0 k1 k2 k3 hA qA hLA hBA hO
        go_wp2_with (first
          | (at_builtin; refine wpList_append_lies _ rfl (.tmp 26) (.tmp 29) 62 rfl (w.heap.size + 2) 159 i0 _ 1 24 Tryz.undLs hi hz0 hz1 hz2 rfl (by decide) _ j (ps.map lsv) rfl (HM5.out.made.row.alloc _) ⟨w5.heap.size, 0, none⟩ 1 1 [.slice fa fn fc] rfl rfl (news_at w5 _ 159) (by simp [Value.oneCell']) (by decide) (by unfold maxLen; omega) (by omega) (by simp; omega) _ rfl ?_; intro g2 cap2 w6 hr6 hg6 hat hlt6; have HD := hid (HM5.out.step (p := (funC u, fa, fc)) HN.out rfl HR5.out.1 (by rw [HR5.out.2]; exact hr6) hg6); clear hr6 hg6 hat hlt6)
          | (go_at_call 89; refine (lput_any _ _ ⟨105, 0, 0⟩ _ h4 (by omega)).mono ?_; rintro e w5 ⟨rfl, h5, k5⟩; have HM5 := hid (HM.out.mid HA.out.2.1 (k4.trans k5)); obtain ⟨fa, fc, y1, y2⟩ := h5; obtain ⟨fn, hfn⟩ : ∃ n, (u.code 0 ++ [(⟨105, 0, 0⟩ : Ik)]).length = n := ⟨_, rfl⟩; have HR5 := hid (And.intro (show w5.ownsRow (w.heap.size + 2) 165 3 (lsv (funC u, fa, fc)) (funC u).length (insC (funC u)) from owns_mono y2 (by omega)) (show lsv (funC u, fa, fc) = .slice fa fn fc by rw [← hfn]; rfl)); rw [hfn] at y1; have y3 := mod_cell y1; have y4 := lt_of_block y1; clear y1 y2 hfn)
          | (go_at_call 88; refine HL.out.mono ?_; rintro e w4 ⟨rfl, h4, k4⟩; rw [← HA.out.1] at k4))
        exact ⟨⟨j + 1, _, by omega, by go_num, HD.out⟩, by simp [intOf]; omega⟩
      · have hjl : j = l.length := by omega
        subst hjl
        obtain ⟨sa, sc, hsv⟩ := owns_shape hM.made.row
        subst hsv
        obtain ⟨r0, r1, r2, r3⟩ := fault_cells hM.box
        have HM := hid hM
        clear hM hB k0 k1 k2 k3
        go_wp2
        refine bodyPost_ret (v := .tuple #[.slice sa l.length sc, .agg #[.int .i64 0, .int .i64 0]]) (by simp [results, Tryz.results71, go_sem, r0, r1]) rfl ?_
        refine ⟨(0, a), HPF.out, (quiet_of HM.out.low).fresh (far_two w _ _ _ _ (by omega)), .inr ⟨rfl, sa, sc, ps, rfl, ?_, ?_⟩⟩
        · exact (HM.out.made.kept (at_two _ _ _ _) fun k h _ => by omega).mono (by omega)
        · have := HM.out.funs
          rwa [List.take_length] at this
  · have hz1 : (c != 0) = true := by simpa using hc
    have HPF := hid (And.intro hPf hc)
    clear hb03 hb13 hb0 hb1 hPf hc
    go_wp2
    go_region
    all_goals
      go_wp2
      refine bodyPost_ret (v := .tuple #[.slice none 0 0, .agg #[.int .i64 c, .int .i64 a]]) (by simp [results, Tryz.results71, go_sem, k0, k1, z3']) rfl ?_
      exact ⟨(c, a), HPF.out.1, q23.fresh ((far_two w _ _ _ _ (by omega)).trans ((Kp.alloc _ _).trans (Kp.drew _))), .inl ⟨HPF.out.2, rfl⟩⟩
def Hold (lo : Nat) (row : Option Nat) (w : World) (v : V) (ao : Option Addr) : Prop :=
  ∀ w' : World, (∀ k c t, lo ≤ k → row ≠ some k → w.heap[k]? = some (.cells c t (0, 0)) → w'.heap[k]? = some (.cells c t (0, 0))) → Is w' v ao
theorem Hold.is {lo : Nat} {row : Option Nat} {w : World} {v : V} {ao : Option Addr} (h : Hold lo row w v ao) : Is w v ao := h w fun _ _ _ _ _ h => h
theorem Hold.step {lo : Nat} {row row' : Option Nat} {w w' : World} {v : V} {ao : Option Addr} (h : Hold lo row w v ao) (hk : ∀ k, lo ≤ k → k < w.heap.size → row ≠ some k → w'.heap[k]? = w.heap[k]?)
    (hr : row' = row ∨ ∃ g, row' = some g ∧ w.heap.size ≤ g) : Hold lo row' w' v ao := by
  intro w2 h2
  refine h w2 fun k c t h1 h4 hc => h2 k c t h1 ?_ ((hk k h1 (lt_of_block hc) h4).trans hc)
  rcases hr with rfl | ⟨g, rfl, hg⟩
  · exact h4
  · intro e; simp at e; have := lt_of_block hc; omega
theorem Hold.drew {lo : Nat} {row : Option Nat} {w : World} {v : V} {ao : Option Addr} (h : Hold lo row w v ao) : Hold lo row w.drew v ao := h
abbrev Kd := V × Option Addr × Nat
def tri (p : Kd) : List Value := [.int .i64 p.1.kind, .int .i64 p.1.k, .int .i64 p.1.n, .slice p.2.1 p.1.l.length p.2.2]
def tris (ps : List Kd) : List Value := ps.flatMap tri
theorem tris_len (ps : List Kd) : (tris ps).length = ps.length * 4 := by
  induction ps with
  | nil => rfl
  | cons p ps ih => simp only [tris, List.flatMap_cons, List.length_append] at ih ⊢; rw [ih]; simp [tri]; omega
theorem tris_app (a b : List Kd) : tris (a ++ b) = tris a ++ tris b := by simp [tris]
theorem tris_one (p : Kd) : tris [p] = tri p := by simp [tris]
theorem tris_at (ps : List Kd) (k j : Nat) (hk : k < ps.length) (hj : j < 4) : (tris ps)[k * 4 + j]? = (tri ps[k])[j]? := by
  induction ps generalizing k with
  | nil => simp at hk
  | cons e es ih =>
    cases k with
    | zero => simp only [tris, List.flatMap_cons]; rw [List.getElem?_append_left (by simp [tri]; omega)]; simp
    | succ k =>
      simp only [tris, List.flatMap_cons]
      rw [List.getElem?_append_right (by simp [tri]; omega)]
      have := ih k (by simpa using hk)
      simp only [tris] at this
      rw [show (k + 1) * 4 + j - (tri e).length = k * 4 + j by simp [tri]; omega, this]
      simp
theorem tri_one (p : Kd) : ∀ u ∈ tri p, u.oneCell' = true := by
  intro u hu
  simp only [tri, List.mem_cons, List.not_mem_nil, or_false] at hu
  rcases hu with rfl | rfl | rfl | rfl <;> rfl
theorem tris_onec (ps : List Kd) : ∀ u ∈ tris ps, u.oneCell' = true := by
  intro u hu
  simp only [tris, List.mem_flatMap] at hu
  obtain ⟨e, _, he⟩ := hu
  exact tri_one e u he
theorem tri_at {w : World} {g off : Nat} {p : Kd} (c : ∀ j, j < 4 → w.cell? ⟨g, off + j, none⟩ = (tri p)[j]?) (hp : Is w p.1 p.2.1) : p.1.at w g off := by
  rw [at_iff]
  exact ⟨⟨c 0 (by decide), c 1 (by decide), c 2 (by decide)⟩, _, _, c 3 (by decide), hp⟩
theorem fo_row {w : World} {B : Nat} {ao : Option Addr} {n cap : Nat} {ps : List Kd} (h : w.ownsRow B 105 4 (.slice ao n cap) n (tris ps)) (hn : n = ps.length) (hp : ∀ p ∈ ps, Is w p.1 p.2.1) : Fo w (ps.map (·.1)) ao := by
  subst hn
  intro i hi
  have hi' : i < ps.length := by simpa using hi
  obtain ⟨g, rfl, d⟩ := owns_at h (by omega)
  refine ⟨g, 0, rfl, ?_⟩
  have e : (ps.map (·.1))[i] = ps[i].1 := by simp
  rw [e, Nat.zero_add]
  exact tri_at (fun j hj => by rw [d _ (by omega), tris_at ps i j hi' hj]) (hp _ (List.getElem_mem hi'))
def HoldL (lo : Nat) (w : World) (l : List V) (ao : Option Addr) : Prop :=
  ∀ w' : World, (∀ k c t, lo ≤ k → w.heap[k]? = some (.cells c t (0, 0)) → w'.heap[k]? = some (.cells c t (0, 0))) → Fo w' l ao
theorem HoldL.fo {lo : Nat} {w : World} {l : List V} {ao : Option Addr} (h : HoldL lo w l ao) : Fo w l ao := h w fun _ _ _ _ h => h
set_option maxRecDepth 8000 in
set_option maxHeartbeats 1000000 in
theorem size_any (f : Nat) : ∀ (v : V) (ao : Option Addr) (cap most : Nat) (w : World), most < f → most ≤ 1000 → Is w v ao →
    Calls Tryz.prog 36 #[.agg #[.int .i64 v.kind, .int .i64 v.k, .int .i64 v.n, .slice ao v.l.length cap], .int .i64 most] w fun e w' => ∃ r : Nat, e = .returned (.int .i64 r) ∧ 1 ≤ r ∧ r ≤ most + 1 ∧ (v.size ≤ most → r = v.size) ∧ (most < v.size → r = most + 1) ∧ Quiet w w' := by
  induction f with
  | zero => intro v ao cap most w h; omega
  | succ f ih =>
    intro v ao cap most w hf hm hI
    have hS := hid (size_eq v)
    go_enter Tryz.func36, Tryz.ntmps36
    go_wp2
    go_loopw [5, 6] (fun n i wr => ∃ (r j : Nat), n = .int .i64 r ∧ i = .int .i64 j ∧ j ≤ v.l.length ∧ j + 1 ≤ r ∧ r ≤ most + 1 ∧ (r ≤ most → r = 1 + sizes (v.l.take j)) ∧ (most < r → most < 1 + sizes (v.l.take j)) ∧ Quiet w wr ∧ wr.heap[w.heap.size]? = some (.cells #[.int .i64 v.kind, .int .i64 v.k, .int .i64 v.n, .slice ao v.l.length cap] 105 (0, 0))) (fun _ i _ => v.l.length - (intOf i).toNat)
    case atStart => exact ⟨1, 0, rfl, rfl, Nat.zero_le _, Nat.le_refl _, by omega, by simp [sizes_nil], by simp [sizes_nil], Kp.alloc _ _, heap_alloc_new w _⟩
    case round =>
      obtain ⟨r, j, rfl, rfl, hj, h1, h2, h3, h4, q, hb⟩ := hrel
      obtain ⟨c0, c9, c1, c2⟩ := box_cells hb
      have HB := hid hb
      clear hb c0 c9 c1
      by_cases hlt : j < v.l.length
      · by_cases hr : r ≤ most
        · have hr' : (r : Int) ≤ (most : Int) := by omega
          obtain ⟨b, off, rfl, dh, ai, ci, d2, hi⟩ := (hI.quiet q).get j hlt
          obtain ⟨d0, d9, d1⟩ := dh
          have HT := hid (And.intro (sizes_take v.l j hlt) (h3 hr))
          have HIH := hid (ih v.l[j] ai ci (most - r) wr (by omega) (by omega) hi)
          rw [show ((most - r : Nat) : Int) = (most : Int) - (r : Int) by omega] at HIH
          clear h3 h4
          generalize hu : v.l[j] = u at *
          clear hu hi hI
          go_wp2_with (go_at_call 36; refine HIH.out.mono ?_; rintro e w3 ⟨r2, rfl, k1, k2, k3, k4, q3⟩)
          refine ⟨⟨r + r2, j + 1, by go_num, by go_num, by omega, by omega, by omega, ?_, ?_, q.trans q3, (q3.block _ (lt_of_block HB.out) fun e => e).trans HB.out⟩, by simp [intOf]; omega⟩
          · intro h; have h5 := HT.out; omega
          · intro h; have h5 := HT.out; omega
        · have hr' : decide ((r : Int) ≤ (most : Int)) = false := by simp; omega
          have H := hid (And.intro (h4 (by omega)) (sizes_take_le v.l j))
          clear h3 h4
          go_wp2
          go_ret
          exact ⟨r, rfl, by omega, h2, fun h => by have h5 := H.out; have := hS.out; omega, fun h => by omega, q⟩
      · have hjl : j = v.l.length := by omega
        have hd : decide ((j : Int) < (v.l.length : Int)) = false := by simp; omega
        have H := hid (And.intro h3 h4)
        rw [hjl, List.take_length] at H
        clear h3 h4
        go_wp2
        go_ret
        exact ⟨r, rfl, by omega, h2, fun h => by have h5 := H.out; have := hS.out; omega, fun h => by have h5 := H.out; have := hS.out; omega, q⟩
end Go.Proofs.YtkpckmcaeljocaaGreat.Ex
