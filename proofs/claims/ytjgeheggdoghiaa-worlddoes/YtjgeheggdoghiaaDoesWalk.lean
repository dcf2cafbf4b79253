/- The walk of the law WorldDoes. -/
import Derived.Test.YtjgeheggdoghiaaRowsOf
import Derived.Deep.OwnRows
namespace Go.Proofs.Ytjgeheggdoghiaa
open Go.ChangeShapes Go.WideShapes Go.ChangeAt Go.RowKit
theorem Try.info2 : (Try.prog.info? 2).map (fun i => (i.zero, i.size, i.bytes)) = some (some (.int .i64 0), 1, 8) := by kernel_rfl
theorem made12 : madeCells #[Value.int .i64 0] 12 = (longs zeros).toArray := by kernel_rfl
theorem make12 (w : World) : (Instr.makeSlice 36 (.int .i64 12) (.int .i64 12)).run Try.prog w = .ok (.slice (some ⟨w.heap.size, 0, none⟩) 12 12) (w.alloc (.cells (longs zeros).toArray 2)) := by
  rw [← made12]
  exact run_make_row' 36 2 (.int .i64 0) 8 Try.underlying36 Try.info2 rfl .i64 .i64 12 (by decide) (by decide) w
theorem does_start {B : Nat} {w2 : World} {b : Nat} (h : WS B w2 b zeros (.slice none 0 0) []) : RD B (w2.alloc (.cells (longs zeros).toArray 2)) b w2.heap.size zeros zeros (.slice none 0 0) [] (.slice none 0 0) [] := by
  refine ⟨ws_kp h (Kp.alloc _ _), heap_alloc_new _ _, rfl, World.ownsRow_nil _ _ _ _, ws_size h, ?_, by simp [Value.ownBlock], by simp [Value.ownBlock], by simp [Value.ownBlock], by simp [Value.ownBlock]⟩
  have := h.obj.lt; omega
theorem news_set (w : World) (a : Addr) (x : Value) (l : List Value) (t : TypeId) : ∀ j u, l[j]? = some u → ((w.setCell a x).alloc (.cells l.toArray t)).cell? ((⟨w.heap.size, 0, none⟩ : Addr).add j) = some u := by
  have h : (w.setCell a x).heap.size = w.heap.size := by simp
  rw [← h]
  exact news_at _ l t
theorem same_longs {B : Nat} {w : World} {b c0 g : Nat} {cs : List Int} {v : Value} {es : List Ent} {vl : Value} (hc : w.heap[g]? = some (.cells (longs cs).toArray 53 (0, 0))) (hR : RD B w b c0 cs cs v es vl es) :
    Calls Try.prog 22 #[.slice (some ⟨g, 0, none⟩) 12 12, .slice (some ⟨c0, 0, none⟩) 12 12] w fun e w' => e = .returned (.bool true) ∧ Kp (fun _ => False) w w' := by
  have := longs_any w cs g c0 12 12 (by rw [hR.len]; decide) (fun j hj => row_cells hc j hj) (fun j hj => row_cells hR.row j hj)
  rw [hR.len] at this
  exact this
theorem same_entries {B n : Nat} {w0 w : World} {b c0 : Nat} {cs : List Int} {v : Value} {es : List Ent} {vl v5 : Value} (hl : es.length = n) (hn : es.length ≤ 100000) (h5 : w.ownsRow w0.heap.size 43 4 v5 n (entCells es)) (hR : RD B w b c0 cs cs v es vl es) :
    Calls Try.prog 24 #[v5, vl] w fun e w' => e = .returned (.bool true) ∧ Kp (fun _ => False) w w' := by
  subst hl
  exact entries_any _ _ w es v5 vl hn h5 hR.log
set_option maxRecDepth 8000 in
set_option maxHeartbeats 20000000 in
theorem doesLaw (w : World) (ao : Option Addr) (cap : Nat) (ss : List Stp) (hS : Lies w ao ss) :
    Calls Try.prog 6 #[.slice ao ss.length cap] w fun e w' => e = .returned (.bool true) ∧ Below w.heap.size w w' := by
  have HS := hid hS
  clear hS
  obtain ⟨i0, hi, hz0, hz1, hz2⟩ := info_parts Try.info43
  by_cases hl : ss.length ≤ 300
  · have m12 := make12
    go_enter Try.func6, Try.ntmps6
    go_wp2_with (first
      | (go_at_call 17; refine (begun_any _).mono ?_; rintro e w1 ⟨rfl, b1⟩)
      | (go_at_call 18; refine (new_any w.heap.size _ b1.size).mono ?_; rintro e w2 ⟨rfl, h2, k2⟩))
    have R0 := does_start h2
    have b2 := kp_below b1 b1.size k2
    have b3 := b2.alloc b2.size (.cells (longs zeros).toArray 2)
    generalize w1.heap.size = ob at *
    generalize w2.heap.size = c0 at *
    go_loopw [5, 6] (fun vl i wr => ∃ (k : Nat) (cs : List Int) (es : List Ent) (v : Value), k ≤ ss.length ∧ i = .int .i64 k ∧ es.length ≤ k ∧ Below w.heap.size w wr ∧ RD w.heap.size wr ob c0 cs cs v es vl es) (fun _ i _ => ss.length - (intOf i).toNat)
    case atStart => exact ⟨0, zeros, [], .slice none 0 0, Nat.zero_le _, rfl, Nat.le_refl _, b3, R0⟩
    case round =>
      clear R0 b3 b2 h2 k2 b1
      obtain ⟨k, cs, es, v, hk, rfl, hes, hbel, hR⟩ := hrel
      obtain ⟨al, capl, rfl⟩ := owns_shape hR.log
      by_cases hlt : k < ss.length
      · obtain ⟨a, off, rfl, ha, c0', c1', c2', c3', c4'⟩ := HS.out k hlt
        rw [← hbel.cell (by exact ha)] at c0' c1' c2' c3' c4'
        generalize ss[k].d = xd at *
        generalize ss[k].p = xp at *
        generalize ss[k].c = xc at *
        generalize ss[k].nd = xn at *
        generalize ss[k].y = xy at *
        obtain ⟨R1, X1⟩ := hR.new (.cells #[.int .i64 xd, .int .i64 xp, .int .i64 xc, .int .i64 xn, .int .i64 xy] 39)
        have b1 := hbel.alloc (ws_size hR.ws) (.cells #[.int .i64 xd, .int .i64 xp, .int .i64 xc, .int .i64 xn, .int .i64 xy] 39)
        clear hbel hR HS

        cases hc : hasB xc with
        | true =>
          by_cases hd : xd = 0
          · subst hd
            obtain ⟨j, rfl, hj⟩ := hasB_yes hc
            have hj' : (j : Int) < 12 := by omega
            have hFn := hid (show (es ++ [(⟨xp, j, 1, xn⟩ : Ent)]).length ≤ 100000 by simp; omega)
            have hFl := hid (show (es ++ [(⟨xp, j, 1, xn⟩ : Ent)]).length = es.length + 1 by simp)
            go_wp2_with (first
              | (go_at_call 19; refine (has_any _ _).mono ?_; rintro e w' ⟨rfl, rfl⟩)
              | (go_at_call 20; refine (read_any w.heap.size _ _ _ _ _ R1.ws (by omega) _ _ _).mono ?_; rintro e w3 ⟨rfl, v3, h3, g3⟩; rw [held_yes cs j hc, hc]; rw [entry_yes _ _ _ _ _ hc] at h3; have R3 := R1.goes h3 g3; obtain ⟨y0, y1, y2, y3, y4⟩ := (X1.goes g3).cells; have b3 := ws_below b1 R1.ws g3; have cj := R3.cell j hj; clear h3 g3)
              | (at_builtin; refine wpList_append_near _ rfl (.tmp 80) (.tmp 88) 37 rfl w.heap.size 43 i0 _ 4 32 Try.underlying37 hi hz0 hz1 hz2 rfl (by decide) (.slice al es.length capl) es.length (entCells es) rfl (R3.log.alloc _) ⟨w3.heap.size, 0, none⟩ 1 1 (Ent.cells ⟨xp, j, 1, xn⟩) rfl rfl (news_at w3 _ 43) (by simpa [entCells] using entCells_one [⟨xp, j, 1, xn⟩]) (by unfold maxLen; omega) (by omega) (by have := ws_size R3.ws; simp at this ⊢; omega) ?_; intro vl' w5 hr5 hg5 hn5; have RF := R3.appended hr5 hg5 hn5; have bF := below_appended b3 R3 hg5; obtain ⟨a5, cap5, rfl⟩ := owns_shape hr5; clear hr5 hg5 hn5)
              | (go_at_call 23; refine (cells_any w.heap.size _ _ _ _ _ RF.ws).mono ?_; rintro e w6 ⟨rfl, hc6, k6⟩; have R6 := RF.kept k6; have b6 := kp_below bF (ws_size RF.ws) k6)
              | (go_at_call 22; refine (same_longs hc6 R6).mono ?_; rintro e w7 ⟨rfl, k7⟩; have R7 := R6.kept k7; have b7 := kp_below b6 (ws_size R6.ws) k7)
              | (go_at_call 25; refine (log_any w.heap.size _ _ _ _ _ R7.ws hFn.out).mono ?_; rintro e w8 ⟨v8, rfl, h8, k8⟩; rw [hFl.out] at h8; have R8 := R7.kept k8; have b8 := kp_below b7 (ws_size R7.ws) k8; obtain ⟨a8, cap8, rfl⟩ := owns_shape h8)
              | (go_at_call 24; refine (same_entries hFl.out hFn.out h8 R8).mono ?_; rintro e w9 ⟨rfl, k9⟩; have R9 := R8.kept k9; have b9 := kp_below b8 (ws_size R8.ws) k9; have HF := hid (And.intro b9 R9); clear R9 b9 k9 R8 h8 k8 b8 R7 k7 b7 R6 hc6 k6 b6 RF bF R1 X1 b1 R3 y0 y1 y2 y3 y4 b3 cj))
            exact ⟨⟨k + 1, cs, es ++ [⟨xp, j, 1, xn⟩], _, by omega, by go_num, by simp; omega, HF.out.1, HF.out.2⟩, by simp [intOf]; omega⟩
          · by_cases hd1 : xd = 1
            · subst hd1
              obtain ⟨j, rfl, hj⟩ := hasB_yes hc
              have hj' : (j : Int) < 12 := by omega
              have hFn := hid (show (es ++ [(⟨xp, j, 2, xn⟩ : Ent)]).length ≤ 100000 by simp; omega)
              have hFl := hid (show (es ++ [(⟨xp, j, 2, xn⟩ : Ent)]).length = es.length + 1 by simp)
              go_wp2_with (first
                | (go_at_call 19; refine (has_any _ _).mono ?_; rintro e w' ⟨rfl, rfl⟩)
                | (go_at_call 21; refine (write_any w.heap.size _ _ _ _ _ R1.ws (by omega) _ _ _ _).mono ?_; rintro e w3 ⟨rfl, v3, h3, g3⟩; rw [hc]; rw [entry_yes _ _ _ _ _ hc, hold_yes _ _ _ hc] at h3; have R3 := R1.goes h3 g3; have X3 := X1.goes g3; obtain ⟨y0, y1, y2, y3, y4⟩ := X3.cells; have b3 := ws_below b1 R1.ws g3; have cj := R3.cell j hj; have fj := R3.free j; have R4 := R3.stored j xy; obtain ⟨z0, z1, z2, z3, z4⟩ := (X3.stored j (.int .i64 xy)).cells; have b4 := b3.setCell (p := ⟨c0, j, none⟩) R3.lo (.int .i64 xy); clear h3 g3)
                | (at_builtin; refine wpList_append_near _ rfl (.tmp 111) (.tmp 119) 37 rfl w.heap.size 43 i0 _ 4 32 Try.underlying37 hi hz0 hz1 hz2 rfl (by decide) (.slice al es.length capl) es.length (entCells es) rfl (R4.log.alloc _) ⟨w3.heap.size, 0, none⟩ 1 1 (Ent.cells ⟨xp, j, 2, xn⟩) rfl rfl (news_set w3 _ _ _ 43) (by simpa [entCells] using entCells_one [⟨xp, j, 2, xn⟩]) (by unfold maxLen; omega) (by omega) (by have := ws_size R4.ws; simp at this ⊢; omega) ?_; intro vl' w5 hr5 hg5 hn5; have RF := R4.appended hr5 hg5 hn5; have bF := below_appended b4 R4 hg5; obtain ⟨a5, cap5, rfl⟩ := owns_shape hr5; clear hr5 hg5 hn5)
                | (go_at_call 23; refine (cells_any w.heap.size _ _ _ _ _ RF.ws).mono ?_; rintro e w6 ⟨rfl, hc6, k6⟩; have R6 := RF.kept k6; have b6 := kp_below bF (ws_size RF.ws) k6)
                | (go_at_call 22; refine (same_longs hc6 R6).mono ?_; rintro e w7 ⟨rfl, k7⟩; have R7 := R6.kept k7; have b7 := kp_below b6 (ws_size R6.ws) k7)
                | (go_at_call 25; refine (log_any w.heap.size _ _ _ _ _ R7.ws hFn.out).mono ?_; rintro e w8 ⟨v8, rfl, h8, k8⟩; rw [hFl.out] at h8; have R8 := R7.kept k8; have b8 := kp_below b7 (ws_size R7.ws) k8; obtain ⟨a8, cap8, rfl⟩ := owns_shape h8)
                | (go_at_call 24; refine (same_entries hFl.out hFn.out h8 R8).mono ?_; rintro e w9 ⟨rfl, k9⟩; have R9 := R8.kept k9; have b9 := kp_below b8 (ws_size R8.ws) k9; have HF := hid (And.intro b9 R9); clear R9 b9 k9 R8 h8 k8 b8 R7 k7 b7 R6 hc6 k6 b6 RF bF R1 X1 b1 R3 X3 y0 y1 y2 y3 y4 b3 cj fj R4 z0 z1 z2 z3 z4 b4))
              exact ⟨⟨k + 1, cs.set j xy, es ++ [⟨xp, j, 2, xn⟩], _, by omega, by go_num, by simp; omega, HF.out.1, HF.out.2⟩, by simp [intOf]; omega⟩
            · skip
              obtain ⟨j, rfl, hj⟩ := hasB_yes hc
              have hj' : (j : Int) < 12 := by omega
              have hFn := hid (show es.length ≤ 100000 by omega)
              have hs1 := hid (show (wr.alloc (.cells #[.int .i64 xd, .int .i64 xp, .int .i64 j, .int .i64 xn, .int .i64 xy] 39)).heap.size = wr.heap.size + 1 by simp)
              have RF := R1
              have bF := b1
              clear b1 R1
              go_wp2_with (first
                | (go_at_call 19; refine (has_any _ _).mono ?_; rintro e w' ⟨rfl, rfl⟩)
                | (go_at_call 23; refine (cells_any w.heap.size _ _ _ _ _ RF.ws).mono ?_; rintro e w6 ⟨rfl, hc6, k6⟩; rw [hs1.out] at hc6; have R6 := RF.kept k6; have b6 := kp_below bF (ws_size RF.ws) k6)
                | (go_at_call 22; refine (same_longs hc6 R6).mono ?_; rintro e w7 ⟨rfl, k7⟩; have R7 := R6.kept k7; have b7 := kp_below b6 (ws_size R6.ws) k7)
                | (go_at_call 25; refine (log_any w.heap.size _ _ _ _ _ R7.ws hFn.out).mono ?_; rintro e w8 ⟨v8, rfl, h8, k8⟩; have R8 := R7.kept k8; have b8 := kp_below b7 (ws_size R7.ws) k8; obtain ⟨a8, cap8, rfl⟩ := owns_shape h8)
                | (go_at_call 24; refine (same_entries rfl hFn.out h8 R8).mono ?_; rintro e w9 ⟨rfl, k9⟩; have R9 := R8.kept k9; have b9 := kp_below b8 (ws_size R8.ws) k9; have HF := hid (And.intro b9 R9); clear R9 b9 k9 R8 h8 k8 b8 R7 k7 b7 R6 hc6 k6 b6 RF bF X1))
              exact ⟨⟨k + 1, cs, es, _, by omega, by go_num, by omega, HF.out.1, HF.out.2⟩, by simp [intOf]; omega⟩
        | false =>
          by_cases hd : xd = 0
          · subst hd
            by_cases h0 : 0 ≤ xc
            · have h12 : ¬ xc < 12 := fun h => by simp [hasB, h0, h] at hc
              have hFn := hid (show es.length ≤ 100000 by omega)
              go_wp2_with (first
                | (go_at_call 19; refine (has_any _ _).mono ?_; rintro e w' ⟨rfl, rfl⟩)
                | (go_at_call 20; refine (read_any w.heap.size _ _ _ _ _ R1.ws (by omega) _ _ _).mono ?_; rintro e w3 ⟨rfl, v3, h3, g3⟩; rw [held_no cs xc hc, hc]; rw [entry_no _ _ _ _ _ hc] at h3; have RF := R1.goes h3 g3; obtain ⟨y0, y1, y2, y3, y4⟩ := (X1.goes g3).cells; have bF := ws_below b1 R1.ws g3; clear h3 g3)
                | (go_at_call 23; refine (cells_any w.heap.size _ _ _ _ _ RF.ws).mono ?_; rintro e w6 ⟨rfl, hc6, k6⟩; have R6 := RF.kept k6; have b6 := kp_below bF (ws_size RF.ws) k6)
                | (go_at_call 22; refine (same_longs hc6 R6).mono ?_; rintro e w7 ⟨rfl, k7⟩; have R7 := R6.kept k7; have b7 := kp_below b6 (ws_size R6.ws) k7)
                | (go_at_call 25; refine (log_any w.heap.size _ _ _ _ _ R7.ws hFn.out).mono ?_; rintro e w8 ⟨v8, rfl, h8, k8⟩; have R8 := R7.kept k8; have b8 := kp_below b7 (ws_size R7.ws) k8; obtain ⟨a8, cap8, rfl⟩ := owns_shape h8)
                | (go_at_call 24; refine (same_entries rfl hFn.out h8 R8).mono ?_; rintro e w9 ⟨rfl, k9⟩; have R9 := R8.kept k9; have b9 := kp_below b8 (ws_size R8.ws) k9; have HF := hid (And.intro b9 R9); clear R9 b9 k9 R8 h8 k8 b8 R7 k7 b7 R6 hc6 k6 b6 RF bF R1 X1 b1 y0 y1 y2 y3 y4))
              exact ⟨⟨k + 1, cs, es, _, by omega, by go_num, by omega, HF.out.1, HF.out.2⟩, by simp [intOf]; omega⟩
            · have hd0 : decide (0 ≤ xc) = false := by simpa using h0
              have hFn := hid (show es.length ≤ 100000 by omega)
              go_wp2_with (first
                | (go_at_call 19; refine (has_any _ _).mono ?_; rintro e w' ⟨rfl, rfl⟩)
                | (go_at_call 20; refine (read_any w.heap.size _ _ _ _ _ R1.ws (by omega) _ _ _).mono ?_; rintro e w3 ⟨rfl, v3, h3, g3⟩; rw [held_no cs xc hc, hc]; rw [entry_no _ _ _ _ _ hc] at h3; have RF := R1.goes h3 g3; obtain ⟨y0, y1, y2, y3, y4⟩ := (X1.goes g3).cells; have bF := ws_below b1 R1.ws g3; clear h3 g3)
                | (go_at_call 23; refine (cells_any w.heap.size _ _ _ _ _ RF.ws).mono ?_; rintro e w6 ⟨rfl, hc6, k6⟩; have R6 := RF.kept k6; have b6 := kp_below bF (ws_size RF.ws) k6)
                | (go_at_call 22; refine (same_longs hc6 R6).mono ?_; rintro e w7 ⟨rfl, k7⟩; have R7 := R6.kept k7; have b7 := kp_below b6 (ws_size R6.ws) k7)
                | (go_at_call 25; refine (log_any w.heap.size _ _ _ _ _ R7.ws hFn.out).mono ?_; rintro e w8 ⟨v8, rfl, h8, k8⟩; have R8 := R7.kept k8; have b8 := kp_below b7 (ws_size R7.ws) k8; obtain ⟨a8, cap8, rfl⟩ := owns_shape h8)
                | (go_at_call 24; refine (same_entries rfl hFn.out h8 R8).mono ?_; rintro e w9 ⟨rfl, k9⟩; have R9 := R8.kept k9; have b9 := kp_below b8 (ws_size R8.ws) k9; have HF := hid (And.intro b9 R9); clear R9 b9 k9 R8 h8 k8 b8 R7 k7 b7 R6 hc6 k6 b6 RF bF R1 X1 b1 y0 y1 y2 y3 y4))
              exact ⟨⟨k + 1, cs, es, _, by omega, by go_num, by omega, HF.out.1, HF.out.2⟩, by simp [intOf]; omega⟩
          · by_cases hd1 : xd = 1
            · subst hd1
              by_cases h0 : 0 ≤ xc
              · have h12 : ¬ xc < 12 := fun h => by simp [hasB, h0, h] at hc
                have hFn := hid (show es.length ≤ 100000 by omega)
                go_wp2_with (first
                  | (go_at_call 19; refine (has_any _ _).mono ?_; rintro e w' ⟨rfl, rfl⟩)
                  | (go_at_call 21; refine (write_any w.heap.size _ _ _ _ _ R1.ws (by omega) _ _ _ _).mono ?_; rintro e w3 ⟨rfl, v3, h3, g3⟩; rw [hc]; rw [entry_no _ _ _ _ _ hc, hold_no _ _ _ hc] at h3; have RF := R1.goes h3 g3; obtain ⟨y0, y1, y2, y3, y4⟩ := (X1.goes g3).cells; have bF := ws_below b1 R1.ws g3; clear h3 g3)
                  | (go_at_call 23; refine (cells_any w.heap.size _ _ _ _ _ RF.ws).mono ?_; rintro e w6 ⟨rfl, hc6, k6⟩; have R6 := RF.kept k6; have b6 := kp_below bF (ws_size RF.ws) k6)
                  | (go_at_call 22; refine (same_longs hc6 R6).mono ?_; rintro e w7 ⟨rfl, k7⟩; have R7 := R6.kept k7; have b7 := kp_below b6 (ws_size R6.ws) k7)
                  | (go_at_call 25; refine (log_any w.heap.size _ _ _ _ _ R7.ws hFn.out).mono ?_; rintro e w8 ⟨v8, rfl, h8, k8⟩; have R8 := R7.kept k8; have b8 := kp_below b7 (ws_size R7.ws) k8; obtain ⟨a8, cap8, rfl⟩ := owns_shape h8)
                  | (go_at_call 24; refine (same_entries rfl hFn.out h8 R8).mono ?_; rintro e w9 ⟨rfl, k9⟩; have R9 := R8.kept k9; have b9 := kp_below b8 (ws_size R8.ws) k9; have HF := hid (And.intro b9 R9); clear R9 b9 k9 R8 h8 k8 b8 R7 k7 b7 R6 hc6 k6 b6 RF bF R1 X1 b1 y0 y1 y2 y3 y4))
                exact ⟨⟨k + 1, cs, es, _, by omega, by go_num, by omega, HF.out.1, HF.out.2⟩, by simp [intOf]; omega⟩
              · have hd0 : decide (0 ≤ xc) = false := by simpa using h0
                have hFn := hid (show es.length ≤ 100000 by omega)
                go_wp2_with (first
                  | (go_at_call 19; refine (has_any _ _).mono ?_; rintro e w' ⟨rfl, rfl⟩)
                  | (go_at_call 21; refine (write_any w.heap.size _ _ _ _ _ R1.ws (by omega) _ _ _ _).mono ?_; rintro e w3 ⟨rfl, v3, h3, g3⟩; rw [hc]; rw [entry_no _ _ _ _ _ hc, hold_no _ _ _ hc] at h3; have RF := R1.goes h3 g3; obtain ⟨y0, y1, y2, y3, y4⟩ := (X1.goes g3).cells; have bF := ws_below b1 R1.ws g3; clear h3 g3)
                  | (go_at_call 23; refine (cells_any w.heap.size _ _ _ _ _ RF.ws).mono ?_; rintro e w6 ⟨rfl, hc6, k6⟩; have R6 := RF.kept k6; have b6 := kp_below bF (ws_size RF.ws) k6)
                  | (go_at_call 22; refine (same_longs hc6 R6).mono ?_; rintro e w7 ⟨rfl, k7⟩; have R7 := R6.kept k7; have b7 := kp_below b6 (ws_size R6.ws) k7)
                  | (go_at_call 25; refine (log_any w.heap.size _ _ _ _ _ R7.ws hFn.out).mono ?_; rintro e w8 ⟨v8, rfl, h8, k8⟩; have R8 := R7.kept k8; have b8 := kp_below b7 (ws_size R7.ws) k8; obtain ⟨a8, cap8, rfl⟩ := owns_shape h8)
                  | (go_at_call 24; refine (same_entries rfl hFn.out h8 R8).mono ?_; rintro e w9 ⟨rfl, k9⟩; have R9 := R8.kept k9; have b9 := kp_below b8 (ws_size R8.ws) k9; have HF := hid (And.intro b9 R9); clear R9 b9 k9 R8 h8 k8 b8 R7 k7 b7 R6 hc6 k6 b6 RF bF R1 X1 b1 y0 y1 y2 y3 y4))
                exact ⟨⟨k + 1, cs, es, _, by omega, by go_num, by omega, HF.out.1, HF.out.2⟩, by simp [intOf]; omega⟩
            · skip
              by_cases h0 : 0 ≤ xc
              · have h12 : ¬ xc < 12 := fun h => by simp [hasB, h0, h] at hc
                have hFn := hid (show es.length ≤ 100000 by omega)
                have hs1 := hid (show (wr.alloc (.cells #[.int .i64 xd, .int .i64 xp, .int .i64 xc, .int .i64 xn, .int .i64 xy] 39)).heap.size = wr.heap.size + 1 by simp)
                have RF := R1
                have bF := b1
                clear b1 R1
                go_wp2_with (first
                  | (go_at_call 19; refine (has_any _ _).mono ?_; rintro e w' ⟨rfl, rfl⟩)
                  | (go_at_call 23; refine (cells_any w.heap.size _ _ _ _ _ RF.ws).mono ?_; rintro e w6 ⟨rfl, hc6, k6⟩; rw [hs1.out] at hc6; have R6 := RF.kept k6; have b6 := kp_below bF (ws_size RF.ws) k6)
                  | (go_at_call 22; refine (same_longs hc6 R6).mono ?_; rintro e w7 ⟨rfl, k7⟩; have R7 := R6.kept k7; have b7 := kp_below b6 (ws_size R6.ws) k7)
                  | (go_at_call 25; refine (log_any w.heap.size _ _ _ _ _ R7.ws hFn.out).mono ?_; rintro e w8 ⟨v8, rfl, h8, k8⟩; have R8 := R7.kept k8; have b8 := kp_below b7 (ws_size R7.ws) k8; obtain ⟨a8, cap8, rfl⟩ := owns_shape h8)
                  | (go_at_call 24; refine (same_entries rfl hFn.out h8 R8).mono ?_; rintro e w9 ⟨rfl, k9⟩; have R9 := R8.kept k9; have b9 := kp_below b8 (ws_size R8.ws) k9; have HF := hid (And.intro b9 R9); clear R9 b9 k9 R8 h8 k8 b8 R7 k7 b7 R6 hc6 k6 b6 RF bF X1))
                exact ⟨⟨k + 1, cs, es, _, by omega, by go_num, by omega, HF.out.1, HF.out.2⟩, by simp [intOf]; omega⟩
              · have hd0 : decide (0 ≤ xc) = false := by simpa using h0
                have hFn := hid (show es.length ≤ 100000 by omega)
                have hs1 := hid (show (wr.alloc (.cells #[.int .i64 xd, .int .i64 xp, .int .i64 xc, .int .i64 xn, .int .i64 xy] 39)).heap.size = wr.heap.size + 1 by simp)
                have RF := R1
                have bF := b1
                clear b1 R1
                go_wp2_with (first
                  | (go_at_call 19; refine (has_any _ _).mono ?_; rintro e w' ⟨rfl, rfl⟩)
                  | (go_at_call 23; refine (cells_any w.heap.size _ _ _ _ _ RF.ws).mono ?_; rintro e w6 ⟨rfl, hc6, k6⟩; rw [hs1.out] at hc6; have R6 := RF.kept k6; have b6 := kp_below bF (ws_size RF.ws) k6)
                  | (go_at_call 22; refine (same_longs hc6 R6).mono ?_; rintro e w7 ⟨rfl, k7⟩; have R7 := R6.kept k7; have b7 := kp_below b6 (ws_size R6.ws) k7)
                  | (go_at_call 25; refine (log_any w.heap.size _ _ _ _ _ R7.ws hFn.out).mono ?_; rintro e w8 ⟨v8, rfl, h8, k8⟩; have R8 := R7.kept k8; have b8 := kp_below b7 (ws_size R7.ws) k8; obtain ⟨a8, cap8, rfl⟩ := owns_shape h8)
                  | (go_at_call 24; refine (same_entries rfl hFn.out h8 R8).mono ?_; rintro e w9 ⟨rfl, k9⟩; have R9 := R8.kept k9; have b9 := kp_below b8 (ws_size R8.ws) k9; have HF := hid (And.intro b9 R9); clear R9 b9 k9 R8 h8 k8 b8 R7 k7 b7 R6 hc6 k6 b6 RF bF X1))
                exact ⟨⟨k + 1, cs, es, _, by omega, by go_num, by omega, HF.out.1, HF.out.2⟩, by simp [intOf]; omega⟩
      · have hb := hid hbel
        clear hbel hR
        go_wp2
        go_ret
        exact ⟨rfl, hb.out⟩
  · go_enter Try.func6, Try.ntmps6
    go_wp2_with (go_at_call 17; refine (begun_any _).mono ?_; rintro e w1 ⟨rfl, b1⟩)
    go_ret
    exact ⟨rfl, b1⟩
end Go.Proofs.Ytjgeheggdoghiaa
