/- The walk of the law WorldAlone: what lies beside the object. -/
import Derived.Test.YtjgeheggdoghiaaRowsOf
import Derived.StillTailTactics
import Derived.BigQuiet
namespace Go.Proofs.Ytjgeheggdoghiaa
open Go.ChangeShapes Go.WideShapes Go.ChangeAt Go.RowKit
section
variable {w wr : World} {d p c n y : Value}
theorem x_cells (h : Below (w.heap.size + 1) (w.alloc (.cells #[d, p, c, n, y] 39)) wr) :
    wr.cell? ⟨w.heap.size, 0, none⟩ = some d ∧ wr.cell? ⟨w.heap.size, 1, none⟩ = some p ∧ wr.cell? ⟨w.heap.size, 2, none⟩ = some c ∧ wr.cell? ⟨w.heap.size, 3, none⟩ = some n ∧ wr.cell? ⟨w.heap.size, 4, none⟩ = some y := by
  have h0 : wr.heap[w.heap.size]? = some (.cells #[d, p, c, n, y] 39 (0, 0)) := (h.block w.heap.size (by omega)).trans (heap_alloc_new w _)
  simp [World.cell?, h0]
theorem l_cells {ao : Option Addr} {ss : List Stp} (hS : Lies w ao ss) {o : Obj} (h : Below (w.heap.size + 1) (w.alloc o) wr) (k : Nat) (hk : k < ss.length) : ∃ a off, ao = some ⟨a, off, none⟩ ∧
    wr.cell? ⟨a, off + k * 5, none⟩ = some (.int .i64 ss[k].d) ∧ wr.cell? ⟨a, off + k * 5 + 1, none⟩ = some (.int .i64 ss[k].p) ∧ wr.cell? ⟨a, off + k * 5 + 2, none⟩ = some (.int .i64 ss[k].c) ∧ wr.cell? ⟨a, off + k * 5 + 3, none⟩ = some (.int .i64 ss[k].nd) ∧ wr.cell? ⟨a, off + k * 5 + 4, none⟩ = some (.int .i64 ss[k].y) := by
  obtain ⟨a, off, rfl, ha, h0, h1, h2, h3, h4⟩ := hS k hk
  have key : ∀ j u, w.cell? ⟨a, j, none⟩ = some u → wr.cell? ⟨a, j, none⟩ = some u := by
    intro j u hu
    rw [h.cell (by simp; omega), World.cell?_of_block (Below.heap_alloc w o a ha)]
    exact hu
  exact ⟨a, off, rfl, key _ _ h0, key _ _ h1, key _ _ h2, key _ _ h3, key _ _ h4⟩
theorem below_out {o : Obj} (h : Below (w.heap.size + 1) (w.alloc o) wr) : Below w.heap.size w wr :=
  ((Below.refl w.heap.size w).alloc (Nat.le_refl _) o).trans (h.mono (by omega))
end
theorem ws_drew {B : Nat} {w : World} {b : Nat} {cs : List Int} {v : Value} {es : List Ent} (h : WS B w b cs v es) : WS B { w with drawn := w.drawn + 1 } b cs v es := h.kept (F := fun _ => False) ⟨rfl, rfl, rfl, Nat.le_refl _, fun _ _ _ => rfl⟩ fun _ _ e => e
theorem below_drew {B : Nat} {w0 w : World} (h : Below B w0 w) : Below B w0 { w with drawn := w.drawn + 1 } := h.trans ⟨rfl, rfl, rfl, Nat.le_refl _, fun _ _ => rfl⟩
theorem entry_len (es : List Ent) (p c r n : Int) (k : Nat) (h : es.length ≤ k) : (entryOf es p c r n).length ≤ k + 1 := by
  unfold entryOf
  split
  · simp; omega
  · omega
theorem own_not {B : Nat} {w : World} {b : Nat} {cs : List Int} {v : Value} {es : List Ent} (h : WS B w b cs v es) : ¬ Own b v w.heap.size := fun e => by have := (h.own_lt _ e).2; omega
theorem row_goes {w w' : World} {g b : Nat} {v v' : Value} {o : Obj} (h : w.heap[g]? = some o) (hg : Goes b v w v' w') (hn : ¬ Own b v g) : w'.heap[g]? = some o := (hg.kp.block g (lt_of_block h) hn).trans h
theorem same_rows {w : World} {g1 g2 : Nat} {cs : List Int} {t1 t2 : TypeId} (hl : cs.length = 12) (h1 : w.heap[g1]? = some (.cells (longs cs).toArray t1 (0, 0))) (h2 : w.heap[g2]? = some (.cells (longs cs).toArray t2 (0, 0))) :
    Calls Try.prog 22 #[.slice (some ⟨g1, 0, none⟩) 12 12, .slice (some ⟨g2, 0, none⟩) 12 12] w fun e w' => e = .returned (.bool true) ∧ Kp (fun _ => False) w w' := by
  have := longs_any w cs g1 g2 12 12 (by rw [hl]; decide) (fun j hj => row_cells h1 j hj) (fun j hj => row_cells h2 j hj)
  rw [hl] at this
  exact this
theorem alone_rows {w wq : World} {g1 g2 : Nat} {cs cs' : List Int} {t1 t2 : TypeId} (hl : cs.length = 12) (hl' : cs'.length = 12) (h1 : w.heap[g1]? = some (.cells (longs cs').toArray t1 (0, 0))) (h2 : w.heap[g2]? = some (.cells (longs cs).toArray t2 (0, 0))) (hk : Kp (fun _ => False) w wq) (m : Nat) (hm : m < 12) :
    wq.cell? ⟨g1, m, none⟩ = some (.int .i64 (cs'.getD m 0)) ∧ wq.cell? ⟨g2, m, none⟩ = some (.int .i64 (cs.getD m 0)) :=
  ⟨row_cells (row_kp h1 hk) m (by omega), row_cells (row_kp h2 hk) m (by omega)⟩
theorem alone_yes {w wq : World} {g1 g2 : Nat} {cs : List Int} {t1 t2 : TypeId} (hl : cs.length = 12) (j : Nat) (y : Int) (h1 : w.heap[g1]? = some (.cells (longs (cs.set j y)).toArray t1 (0, 0))) (h2 : w.heap[g2]? = some (.cells (longs cs).toArray t2 (0, 0))) (hk : Kp (fun _ => False) w wq) (m : Nat) (hm : m < 12) :
    wq.cell? ⟨g1, m, none⟩ = some (.int .i64 (if m = j then y else cs.getD m 0)) ∧ wq.cell? ⟨g2, m, none⟩ = some (.int .i64 (cs.getD m 0)) := by
  refine ⟨?_, (alone_rows hl (by simpa using hl) h1 h2 hk m hm).2⟩
  rw [(alone_rows hl (by simpa using hl) h1 h2 hk m hm).1]
  by_cases e : m = j
  · subst e; simp [hl, hm]
  · rw [if_neg e]; simp [Ne.symm e]
theorem size_ge {w w' : World} {o : Obj} {B : Nat} (h : Below B (w.alloc o) w') : w.heap.size + 1 ≤ w'.heap.size := by
  have := h.size
  simpa using this
theorem size_new (w : World) (o : Obj) : (w.alloc o).heap.size = w.heap.size + 1 := by simp
theorem Try.mixed : Try.prog.follows .mixedOrders = true := by kernel_rfl
set_option maxRecDepth 8000 in
set_option maxHeartbeats 20000000 in
theorem aloneLaw (w : World) (ao : Option Addr) (cap : Nat) (ss : List Stp) (x : Stp) (hS : Lies w ao ss) :
    Calls Try.prog 7 #[.slice ao ss.length cap, .agg #[.int .i64 x.d, .int .i64 x.p, .int .i64 x.c, .int .i64 x.nd, .int .i64 x.y]] w fun e w' => e = .returned (.bool true) ∧ Below w.heap.size w w' := by
  have HS := hid hS
  clear hS
  generalize x.d = xd, x.p = xp, x.c = xc, x.nd = xn, x.y = xy
  by_cases hl : ss.length ≤ 300
  · go_enter Try.func7, Try.ntmps7
    go_wp2_with (first
      | (go_at_call 17; refine (begun_any _).mono ?_; rintro e w2 ⟨rfl, b2⟩; rw [size_new] at b2)
      | (go_at_call 18; refine (new_any (w.heap.size + 1) _ (by have := b2.size; rw [size_new] at this; exact this)).mono ?_; rintro e w3 ⟨rfl, h3, k3⟩; have b3 := kp_below b2 (by have := b2.size; rw [size_new] at this; exact this) k3; clear k3))
    generalize w2.heap.size = ob at *
    go_loopw [6] (fun i wr => ∃ (k : Nat) (cs : List Int) (es : List Ent) (v : Value), k ≤ ss.length ∧ i = .int .i64 k ∧ es.length ≤ k ∧ Below (w.heap.size + 1) (w.alloc (.cells #[.int .i64 xd, .int .i64 xp, .int .i64 xc, .int .i64 xn, .int .i64 xy] 39)) wr ∧ WS (w.heap.size + 1) wr ob cs v es) (fun i _ => ss.length - (intOf i).toNat)
    case atStart => exact ⟨0, zeros, [], .slice none 0 0, Nat.zero_le _, rfl, Nat.le_refl _, b3, h3⟩
    case round =>
      clear b2 h3 b3
      obtain ⟨k, cs, es, v, hk, rfl, hes, hbel, hR⟩ := hrel
      by_cases hlt : k < ss.length
      · obtain ⟨a, off, rfl, c0', c1', c2', c3', c4'⟩ := l_cells HS.out hbel k hlt
        generalize ss[k].d = zd at *
        generalize ss[k].p = zp at *
        generalize ss[k].c = zc at *
        generalize ss[k].nd = zn at *
        generalize ss[k].y = zy at *
        by_cases hd : zd = 0
        · subst hd
          have hbH := hid hbel
          have hRH := hid hR
          clear hbel hR
          go_wp2
          go_still_tail 16, Try.mixed
          go_wp2_with (go_at_call 20; refine (read_any (w.heap.size + 1) _ _ _ _ _ (ws_drew hRH.out) (by omega) _ _ _).mono ?_; rintro e w4 ⟨rfl, v4, h4, g4⟩; have b4 := ws_below (below_drew hbH.out) (ws_drew hRH.out) g4)
          exact ⟨⟨k + 1, cs, _, v4, by omega, by go_num, entry_len _ _ _ _ _ _ hes, b4, h4⟩, by simp [intOf]; omega⟩
        · have hbH := hid hbel
          have hRH := hid hR
          clear hbel hR
          go_wp2
          go_still_tail 21, Try.mixed
          go_wp2_with (go_at_call 21; refine (write_any (w.heap.size + 1) _ _ _ _ _ (ws_drew hRH.out) (by omega) _ _ _ _).mono ?_; rintro e w4 ⟨rfl, v4, h4, g4⟩; have b4 := ws_below (below_drew hbH.out) (ws_drew hRH.out) g4)
          exact ⟨⟨k + 1, _, _, v4, by omega, by go_num, entry_len _ _ _ _ _ _ hes, b4, h4⟩, by simp [intOf]; omega⟩
      · clear HS
        have hen : es.length ≤ 100000 := by omega
        by_cases hd : xd = 0
        · subst hd
          cases hc : hasB xc with
          | true =>
            obtain ⟨j, rfl, hj⟩ := hasB_yes hc
            have hj' : (j : Int) < 12 := by omega
            have hen2 := hid (show (es ++ [(⟨xp, j, 1, xn⟩ : Ent)]).length ≤ 100000 by simp; omega)
            have hel := hid (show (es ++ [(⟨xp, j, 1, xn⟩ : Ent)]).length = es.length + 1 by simp)
            go_wp2_with (first
                | (go_at_call 23; refine (cells_any (w.heap.size + 1) _ _ _ _ _ hR).mono ?_; rintro e w5 ⟨rfl, hc5, k5⟩; have R5 := ws_kp hR k5; have b5 := kp_below hbel (ws_size hR) k5; have o5 := own_not hR; clear hR hbel k5)
                | (go_at_call 25; refine (log_any (w.heap.size + 1) _ _ _ _ _ R5 hen).mono ?_; rintro e w6 ⟨v6, rfl, h6, k6⟩; have R6 := ws_kp R5 k6; have b6 := kp_below b5 (ws_size R5) k6; have hc6 := row_kp hc5 k6; obtain ⟨a6, cap6, rfl⟩ := owns_shape h6; clear h6 k6 hc5 R5 b5; obtain ⟨x0, x1, x2, x3, x4⟩ := x_cells b6)
                | (go_at_call 20; refine (read_any (w.heap.size + 1) _ _ _ _ _ R6 hen _ _ _).mono ?_; rintro e w7 ⟨rfl, v7, h7, g7⟩; rw [held_yes cs j hc, hc]; rw [entry_yes _ _ _ _ _ hc] at h7; have b7 := ws_below b6 R6 g7; have hc7 := row_goes hc6 g7 o5; clear R6 b6 hc6 g7 x0 x1 x2 x3 x4; obtain ⟨y0, y1, y2, y3, y4⟩ := x_cells b7)
                | (go_at_call 23; refine (cells_any (w.heap.size + 1) _ _ _ _ _ h7).mono ?_; rintro e w8 ⟨rfl, hc8, k8⟩; have R8 := ws_kp h7 k8; have b8 := kp_below b7 (ws_size h7) k8; have hw8 := row_kp hc7 k8; clear h7 b7 hc7 k8 y0 y1 y2 y3 y4)
                | (go_at_call 22; refine (same_rows R8.obj.len hw8 hc8).mono ?_; rintro e w9 ⟨rfl, k9⟩; have R9 := ws_kp R8 k9; have b9 := kp_below b8 (ws_size R8) k9; have hw9 := row_kp hw8 k9; have cj := row_cells hw9 j (by rw [R8.obj.len]; exact hj); obtain ⟨z0, z1, z2, z3, z4⟩ := x_cells b9; clear R8 hw8 hc8 k9 b8)
                | (go_at_call 25; refine (log_any (w.heap.size + 1) _ _ _ _ _ R9 hen2.out).mono ?_; rintro e w10 ⟨v10, rfl, h10, k10⟩; rw [hel.out] at h10; have b10 := hid (kp_below b9 (ws_size R9) k10); obtain ⟨a10, cap10, rfl⟩ := owns_shape h10; clear h10 k10 R9))
            go_ret
            exact ⟨rfl, below_out b10.out⟩
          | false =>
            have hen2 := hid hen
            go_wp2_with (first
                | (go_at_call 23; refine (cells_any (w.heap.size + 1) _ _ _ _ _ hR).mono ?_; rintro e w5 ⟨rfl, hc5, k5⟩; have R5 := ws_kp hR k5; have b5 := kp_below hbel (ws_size hR) k5; have o5 := own_not hR; clear hR hbel k5)
                | (go_at_call 25; refine (log_any (w.heap.size + 1) _ _ _ _ _ R5 hen).mono ?_; rintro e w6 ⟨v6, rfl, h6, k6⟩; have R6 := ws_kp R5 k6; have b6 := kp_below b5 (ws_size R5) k6; have hc6 := row_kp hc5 k6; obtain ⟨a6, cap6, rfl⟩ := owns_shape h6; clear h6 k6 hc5 R5 b5; obtain ⟨x0, x1, x2, x3, x4⟩ := x_cells b6)
                | (go_at_call 20; refine (read_any (w.heap.size + 1) _ _ _ _ _ R6 hen _ _ _).mono ?_; rintro e w7 ⟨rfl, v7, h7, g7⟩; rw [held_no cs xc hc, hc]; rw [entry_no _ _ _ _ _ hc] at h7; have b7 := ws_below b6 R6 g7; have hc7 := row_goes hc6 g7 o5; clear R6 b6 hc6 g7 x0 x1 x2 x3 x4; obtain ⟨y0, y1, y2, y3, y4⟩ := x_cells b7)
                | (go_at_call 23; refine (cells_any (w.heap.size + 1) _ _ _ _ _ h7).mono ?_; rintro e w8 ⟨rfl, hc8, k8⟩; have R8 := ws_kp h7 k8; have b8 := kp_below b7 (ws_size h7) k8; have hw8 := row_kp hc7 k8; clear h7 b7 hc7 k8 y0 y1 y2 y3 y4)
                | (go_at_call 22; refine (same_rows R8.obj.len hw8 hc8).mono ?_; rintro e w9 ⟨rfl, k9⟩; have R9 := ws_kp R8 k9; have b9 := kp_below b8 (ws_size R8) k9; have hw9 := row_kp hw8 k9;  obtain ⟨z0, z1, z2, z3, z4⟩ := x_cells b9; clear R8 hw8 hc8 k9 b8)
                | (go_at_call 25; refine (log_any (w.heap.size + 1) _ _ _ _ _ R9 hen2.out).mono ?_; rintro e w10 ⟨v10, rfl, h10, k10⟩;  have b10 := hid (kp_below b9 (ws_size R9) k10); obtain ⟨a10, cap10, rfl⟩ := owns_shape h10; clear h10 k10 R9))
            go_ret
            exact ⟨rfl, below_out b10.out⟩
        · cases hc : hasB xc with
          | true =>
            obtain ⟨j, rfl, hj⟩ := hasB_yes hc
            have hj' : (j : Int) < 12 := by omega
            go_wp2_with (first
                | (go_at_call 23; refine (cells_any (w.heap.size + 1) _ _ _ _ _ hR).mono ?_; rintro e w5 ⟨rfl, hc5, k5⟩; have R5 := ws_kp hR k5; have b5 := kp_below hbel (ws_size hR) k5; have o5 := own_not hR; clear hR hbel k5)
                | (go_at_call 25; refine (log_any (w.heap.size + 1) _ _ _ _ _ R5 hen).mono ?_; rintro e w6 ⟨v6, rfl, h6, k6⟩; have R6 := ws_kp R5 k6; have b6 := kp_below b5 (ws_size R5) k6; have hc6 := row_kp hc5 k6; obtain ⟨a6, cap6, rfl⟩ := owns_shape h6; clear h6 k6 hc5 R5 b5; obtain ⟨x0, x1, x2, x3, x4⟩ := x_cells b6)
                | (go_at_call 21; refine (write_any (w.heap.size + 1) _ _ _ _ _ R6 hen _ _ _ _).mono ?_; rintro e w7 ⟨rfl, v7, h7, g7⟩; rw [hc]; rw [hold_yes _ _ _ hc] at h7; have b7 := ws_below b6 R6 g7; have hc7 := row_goes hc6 g7 o5; have hlen := hid R6.obj.len; clear R6 b6 hc6 g7 x0 x1 x2 x3 x4; obtain ⟨y0, y1, y2, y3, y4⟩ := x_cells b7)
                | (go_at_call 23; refine (cells_any (w.heap.size + 1) _ _ _ _ _ h7).mono ?_; rintro e w8 ⟨rfl, hc8, k8⟩; have b8 := kp_below b7 (ws_size h7) k8; have hw8 := row_kp hc7 k8; clear h7 b7 hc7 k8 y0 y1 y2 y3 y4))
            have HC := hid hc8
            have HW := hid hw8
            have HB := hid b8
            clear hc8 hw8 b8
            go_loopw [13] (fun i wq => ∃ m : Nat, m ≤ 12 ∧ i = .int .i64 m ∧ Kp (fun _ => False) w8 wq) (fun i _ => 12 - (intOf i).toNat)
            case atStart => exact ⟨0, Nat.zero_le _, rfl, Kp.refl _ _⟩
            case round =>
              obtain ⟨m, hm, rfl, hk8⟩ := hrel
              obtain ⟨x0, x1, x2, x3, x4⟩ := x_cells (kp_below HB.out (size_ge HB.out) hk8)
              by_cases hm12 : m < 12
              · obtain ⟨q1, q2⟩ := alone_yes hlen.out j xy HC.out HW.out hk8 m hm12
                have HK := hid hk8
                clear hk8
                by_cases hmj : m = j
                · subst hmj
                  rw [if_pos rfl] at q1
                  go_wp2
                  go_big_quiet (fail)
                  go_wp2
                  exact ⟨⟨m + 1, by omega, by go_num, HK.out.trans (Kp.drewN _ _)⟩, by simp [intOf]; omega⟩
                · rw [if_neg hmj] at q1
                  have hne0 : (m : Int) ≠ (j : Int) := by omega
                  have hne : decide ((m : Int) = (j : Int)) = false := by simpa using hne0
                  have hne2 : ((m : Int) == (j : Int)) = false := by simpa using hne0
                  have hne3 : ((m : Int) != (j : Int)) = true := by simpa using hne0
                  have hne4 : decide (¬ (m : Int) = (j : Int)) = true := by simpa using hne0
                  go_wp2
                  go_big_quiet (fail)
                  go_wp2
                  exact ⟨⟨m + 1, by omega, by go_num, HK.out.trans (Kp.drewN _ _)⟩, by simp [intOf]; omega⟩
              · have HK := hid hk8
                clear hk8
                go_wp2_with (go_at_call 19; refine (has_any _ _).mono ?_; rintro e w' ⟨rfl, rfl⟩)
                go_ret
                exact ⟨rfl, below_out (kp_below HB.out (size_ge HB.out) HK.out)⟩
          | false =>
            go_wp2_with (first
                | (go_at_call 23; refine (cells_any (w.heap.size + 1) _ _ _ _ _ hR).mono ?_; rintro e w5 ⟨rfl, hc5, k5⟩; have R5 := ws_kp hR k5; have b5 := kp_below hbel (ws_size hR) k5; have o5 := own_not hR; clear hR hbel k5)
                | (go_at_call 25; refine (log_any (w.heap.size + 1) _ _ _ _ _ R5 hen).mono ?_; rintro e w6 ⟨v6, rfl, h6, k6⟩; have R6 := ws_kp R5 k6; have b6 := kp_below b5 (ws_size R5) k6; have hc6 := row_kp hc5 k6; obtain ⟨a6, cap6, rfl⟩ := owns_shape h6; clear h6 k6 hc5 R5 b5; obtain ⟨x0, x1, x2, x3, x4⟩ := x_cells b6)
                | (go_at_call 21; refine (write_any (w.heap.size + 1) _ _ _ _ _ R6 hen _ _ _ _).mono ?_; rintro e w7 ⟨rfl, v7, h7, g7⟩; rw [hc]; rw [hold_no _ _ _ hc] at h7; have b7 := ws_below b6 R6 g7; have hc7 := row_goes hc6 g7 o5; have hlen := hid R6.obj.len; clear R6 b6 hc6 g7 x0 x1 x2 x3 x4; obtain ⟨y0, y1, y2, y3, y4⟩ := x_cells b7)
                | (go_at_call 23; refine (cells_any (w.heap.size + 1) _ _ _ _ _ h7).mono ?_; rintro e w8 ⟨rfl, hc8, k8⟩; have b8 := kp_below b7 (ws_size h7) k8; have hw8 := row_kp hc7 k8; clear h7 b7 hc7 k8 y0 y1 y2 y3 y4))
            have HC := hid hc8
            have HW := hid hw8
            have HB := hid b8
            clear hc8 hw8 b8
            go_loopw [13] (fun i wq => ∃ m : Nat, m ≤ 12 ∧ i = .int .i64 m ∧ Kp (fun _ => False) w8 wq) (fun i _ => 12 - (intOf i).toNat)
            case atStart => exact ⟨0, Nat.zero_le _, rfl, Kp.refl _ _⟩
            case round =>
              obtain ⟨m, hm, rfl, hk8⟩ := hrel
              obtain ⟨x0, x1, x2, x3, x4⟩ := x_cells (kp_below HB.out (size_ge HB.out) hk8)
              by_cases hm12 : m < 12
              · obtain ⟨q1, q2⟩ := alone_rows hlen.out hlen.out HC.out HW.out hk8 m hm12
                have HK := hid hk8
                clear hk8
                have hne0 : (m : Int) ≠ xc := fun e => by rw [← e] at hc; simp [hasB] at hc; omega
                have hne : decide ((m : Int) = xc) = false := by simpa using hne0
                have hne2 : ((m : Int) == xc) = false := by simpa using hne0
                have hne3 : ((m : Int) != xc) = true := by simpa using hne0
                have hne4 : decide (¬ (m : Int) = xc) = true := by simpa using hne0
                go_wp2
                go_big_quiet (fail)
                go_wp2
                exact ⟨⟨m + 1, by omega, by go_num, HK.out.trans (Kp.drewN _ _)⟩, by simp [intOf]; omega⟩
              · have HK := hid hk8
                clear hk8
                go_wp2_with (go_at_call 19; refine (has_any _ _).mono ?_; rintro e w' ⟨rfl, rfl⟩)
                go_ret
                exact ⟨rfl, below_out (kp_below HB.out (size_ge HB.out) HK.out)⟩
  · go_enter Try.func7, Try.ntmps7
    go_wp2_with (go_at_call 17; refine (begun_any _).mono ?_; rintro e w2 ⟨rfl, b2⟩; rw [size_new] at b2)
    go_ret
    exact ⟨rfl, below_out b2⟩
end Go.Proofs.Ytjgeheggdoghiaa
