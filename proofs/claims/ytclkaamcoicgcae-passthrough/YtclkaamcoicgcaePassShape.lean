/- A value without the numbers of its capabilities, in memory of its own. -/
import Derived.Test.YtclkaamcoicgcaePassGone
import Derived.Test.YtclkaamcoicgcaeRefOwn
namespace Go.Proofs.Ytclkaamcoicgcae
open Go.ChangeShapes Go.WideShapes Go.ChangeAt Go.RowKit
def ShapeR (v : V) : Prop := ∀ (ao : Option Addr) (cap : Nat) (w : World), Is w v ao → v.size ≤ 20000 →
    Calls Try.prog 18 #[.agg #[.int .i64 v.kind, .int .i64 v.n, .slice ao v.l.length cap]] w fun e w' => ∃ ao' cap', e = .returned (.agg #[.int .i64 v.shape.kind, .int .i64 v.shape.n, .slice ao' v.shape.l.length cap']) ∧ Hold w.heap.size none w' v.shape ao' ∧ Quiet w w'
theorem shape_l (v : V) : v.shape.l = v.l.map V.shape := by rw [shape_eq]; simp only; rw [shapes_map]
theorem shape_fits {v : V} (h : v.fits) : v.shape.fits := by
  rw [shape_eq]
  refine ⟨h.1, ?_⟩
  show In64 (if v.kind = 4 then 0 else v.n)
  split
  · exact ⟨by decide, by decide⟩
  · exact h.2
theorem shape_take (v : V) (j : Nat) (hj : j < v.l.length) : v.shape.l.take (j + 1) = v.shape.l.take j ++ [v.l[j].shape] := by
  rw [take_snoc v.shape.l j (by rw [shape_l]; simpa using hj)]
  simp [shape_l]
set_option maxRecDepth 8000 in
set_option maxHeartbeats 4000000 in
theorem shapeR_any (v : V) : ShapeR v := by
  obtain ⟨i0, hi0, hz0, hz1, hz2⟩ := info_parts' Try.infoV
  induction v using V.ind' with
  | h v ih =>
    intro ao cap w hI hS
    have hlen : v.l.length ≤ 20000 := by have := sizes_len v.l; have := size_eq v; omega
    have hsz : ∀ j (h : j < v.l.length), v.l[j].size ≤ 20000 := fun j h => by have := size_get v.l j h; have := size_eq v; omega
    have HI := hid (And.intro hI (And.intro ih hsz))
    clear ih hsz hS
    have hsk : v.shape.kind = v.kind := by rw [shape_eq]
    have hsl : v.shape.l.length = v.l.length := by rw [shape_l]; simp
    obtain ⟨W, hW⟩ : ∃ W, W = ((w.alloc (.cells #[.int .i64 v.kind, .int .i64 v.n, .slice ao v.l.length cap] 25)).alloc (.cells #[.int .i64 0, .int .i64 0, .slice none 0 0] 25)).alloc (.cells #[.int .i64 v.shape.kind, .int .i64 v.shape.n, .slice none 0 0] 25) := ⟨_, rfl⟩
    have b0 : W.heap[w.heap.size]? = some (.cells #[.int .i64 v.kind, .int .i64 v.n, .slice ao v.l.length cap] 25 (0, 0)) := by
      rw [hW, Below.heap_alloc _ _ _ (by simp; omega), Below.heap_alloc _ _ _ (by simp)]; exact heap_alloc_new w _
    have b1 : W.heap[w.heap.size + 1]? = some (.cells #[.int .i64 0, .int .i64 0, .slice none 0 0] 25 (0, 0)) := by
      rw [hW, Below.heap_alloc _ _ _ (by simp)]; exact heap_two w _ _
    have b2 : W.heap[w.heap.size + 2]? = some (.cells #[.int .i64 v.shape.kind, .int .i64 v.shape.n, .slice none 0 0] 25 (0, 0)) := by
      rw [hW]; have := heap_alloc_new ((w.alloc (.cells #[.int .i64 v.kind, .int .i64 v.n, .slice ao v.l.length cap] 25)).alloc (.cells #[.int .i64 0, .int .i64 0, .slice none 0 0] 25)) (.cells #[.int .i64 v.shape.kind, .int .i64 v.shape.n, .slice none 0 0] 25); simpa using this
    have qW : Quiet w W := by rw [hW]; exact (Kp.alloc _ _).trans ((Kp.alloc _ _).trans (Kp.alloc _ _))
    have sW : W.heap.size = w.heap.size + 3 := by rw [hW]; simp
    by_cases h4 : v.kind = 4
    · have hu : v.shape = ⟨4, 0, v.shape.l⟩ := by rw [shape_eq, h4]; rfl
      have hul : v.shape.l.length = v.l.length := hsl
      obtain ⟨W2, hW2⟩ : ∃ W2, W2 = W := ⟨_, rfl⟩
      have B0 := b0
      have B1 := b1
      have B2 := b2
      have Q := qW
      have S := sW
      have HW := hid (show W2 = ((w.alloc (.cells #[.int .i64 4, .int .i64 v.n, .slice ao v.l.length cap] 25)).alloc (.cells #[.int .i64 0, .int .i64 0, .slice none 0 0] 25)).alloc (.cells #[.int .i64 4, .int .i64 0, .slice none 0 0] 25) by rw [hW2, hW, hu, h4])
      rw [← hW2] at B0 B1 B2 Q S
      rw [h4] at B0 ⊢
      clear hW2 hW
      clear h4
      have HB := hid (And.intro B0 (And.intro B1 (And.intro B2 (And.intro Q S))))
      have HU := hid (And.intro hu (And.intro hul (shape_fits hI.fit)))
      have HN0 := hid (fun j hj => shape_take v j hj)
      clear b0 b1 b2 qW sW B0 B1 B2 Q S hu hul hI hsk hsl
      generalize v.shape = u at *
      go_enter Try.func18, Try.ntmps18
      go_wp2
      go_loopg [4] v.l.length (fun gk i wr => ∃ (j n : Nat) (av : Option Addr) (cv : Nat) (ps : List Kd), gk = v.l.length - j ∧ j ≤ v.l.length ∧ i = .int .i64 j ∧ OS W2 w.heap.size u j av n cv ps wr)
      case atStart =>
        refine ⟨0, 0, none, 0, [], by simp, Nat.zero_le _, rfl, ?_⟩
        have e : ∀ w', w' = W2 → OS W2 w.heap.size u 0 none 0 0 [] w' := by
          rintro w' rfl
          exact ⟨HB.out.2.2.1, World.ownsRow_nil _ _ _ _, rfl, fun p hp => by simp at hp, by simp, Below.refl _ _, by have := HB.out.2.2.2.2; omega⟩
        exact e _ HW.out.symm
      case round =>
        obtain ⟨j, m, av, cv, ps, hgk, hj, rfl, H⟩ := hrel
        have HG := hid (And.intro hgk H)
        obtain ⟨c0, c1, cs⟩ := box_cells ((H.low.block w.heap.size (by omega)).trans HB.out.1)
        obtain ⟨u0, u1, us⟩ := box_cells H.obj
        clear hgk H
        have hpl : m = j := by have h1 := congrArg List.length HG.out.2.map; have h2 := HG.out.2.len; have h3 := HU.out.2.1; rw [List.length_map, List.length_take] at h1; omega
        subst hpl
        by_cases hlt : m < v.l.length
        · have hIr : Is wr v ao := HI.out.1.low (HB.out.2.2.2.1.low.trans (HG.out.2.low.mono (by omega)))
          obtain ⟨b, off, rfl, dh, ai, ci, ds, hi⟩ := hIr.get m hlt
          obtain ⟨d0, d1⟩ := dh
          have HC := hid (HI.out.2.1 v.l[m] (List.getElem_mem hlt) ai ci wr.drew (hi.quiet (Kp.drew _)) (HI.out.2.2 m hlt))
          have HN := hid (HN0.out m hlt)
          generalize hx : v.l[m] = x at *
          clear hx hi hIr
          have HR := hid HG.out.2.row
          have hzz := hid (show w.heap.size + 3 ≤ wr.heap.size from HG.out.2.sz)
          obtain ⟨y, hy⟩ : ∃ y, x.shape = y := ⟨_, rfl⟩
          rw [hy] at HC HN
          clear hy
          go_wp2
          go_region_law ((first
            | (refine step_append_lies _ (by rfl) _ _ _ (by rfl) (w.heap.size + 3) 25 i0 _ 3 40 Try.undV hi0 hz0 hz1 hz2 rfl (by omega) (.slice av m cv) m (tris ps) (by rfl) hr3 ⟨w3.heap.size, 0, none⟩ 1 1 (tri (y, xa, xc)) (by rfl) (by rfl) (news_at w3 _ 25) (tri_one _) (by omega) (by unfold maxLen; omega) (by omega) (by simp; omega) (w3.heap.size + 1) (by simp) ?_; intro gg cap2 w1 hown1 hgrow hat hlt1; have hD := own_step HG.out.2 HN.out q3 h3 hown1 hgrow hat; have e1 := hD.2.1; have e2 := hD.2.2; have HD := hid hD.1; clear hown1 hgrow hat hlt1 hD)
            | (go_simp; go_at_call 18; refine HC.out.mono ?_; rintro e w3 ⟨xa, xc, rfl, h3, q3⟩; have u3 : w3.cell? ⟨w.heap.size + 2, 2, none⟩ = some (.slice av m cv) := q3.cell us (fun e => e); have u4 : (w3.alloc (.cells #[.int .i64 y.kind, .int .i64 y.n, .slice xa y.l.length xc] 25)).cell? ⟨w.heap.size + 2, 2, none⟩ = some (.slice av m cv) := (Kp.alloc (F := fun _ => False) _ _).cell u3 (fun e => e); have hr3 := (q3.row (HR.out.drew) (fun _ _ e => e)).alloc (.cells #[.int .i64 y.kind, .int .i64 y.n, .slice xa y.l.length xc] 25); have z3 : w.heap.size + 3 ≤ w3.heap.size := Nat.le_trans hzz.out q3.size)))
          all_goals
            go_wp2
            go_roundg (v.l.length - (m + 1))
            case measure => have := HG.out.1; omega
            case rel => exact ⟨m + 1, _, _, _, _, rfl, by omega, by go_num, HD.out⟩
        · have hjl := hid (show m = u.l.length by have := HU.out.2.1; omega)
          have hb1 := (HG.out.2.low.block (w.heap.size + 1) (by omega)).trans HB.out.2.1
          obtain ⟨r0, r1, rs⟩ := box_cells hb1
          obtain ⟨f0, f1, f2⟩ := box_free hb1
          have HF := hid (fun w' q => own_end (w' := w') HG.out.2 (by have := hjl.out; omega) HU.out.2.2 HB.out.2.2.2.1 q)
          have hjj : ((v.l.length : Nat) : Int) ≤ (m : Int) := by omega
          clear hb1
          have HJ := hid hj
          clear hj hlt
          go_wp2
          refine bodyPost_ret (v := .agg #[.int .i64 u.kind, .int .i64 u.n, .slice av m cv]) (by simp [results, Try.results18, go_sem, r0, r1, rs]) rfl ?_
          refine ⟨av, cv, by rw [hjl.out], (HF.out _ ?_).1, (HF.out _ ?_).2.1⟩
          all_goals exact ((kp1 _ _ _ _).trans (kp1 _ _ _ _)).trans (kp1 _ _ _ _)
    · have hu : v.shape = ⟨v.kind, v.n, v.shape.l⟩ := by rw [shape_eq, if_neg h4]
      have hul : v.shape.l.length = v.l.length := hsl
      obtain ⟨W2, hW2⟩ : ∃ W2, W2 = W := ⟨_, rfl⟩
      have B0 := b0
      have B1 := b1
      have B2 := b2
      have Q := qW
      have S := sW
      have HW := hid (show W2 = ((w.alloc (.cells #[.int .i64 v.kind, .int .i64 v.n, .slice ao v.l.length cap] 25)).alloc (.cells #[.int .i64 0, .int .i64 0, .slice none 0 0] 25)).alloc (.cells #[.int .i64 v.kind, .int .i64 v.n, .slice none 0 0] 25) by rw [hW2, hW, hu])
      rw [← hW2] at B0 B1 B2 Q S
      have n4 : (v.kind == 4) = false := by simpa using h4
      clear hW hW2
      have HB := hid (And.intro B0 (And.intro B1 (And.intro B2 (And.intro Q S))))
      have HU := hid (And.intro hu (And.intro hul (shape_fits hI.fit)))
      have HN0 := hid (fun j hj => shape_take v j hj)
      clear b0 b1 b2 qW sW B0 B1 B2 Q S hu hul hI hsk hsl
      generalize v.shape = u at *
      go_enter Try.func18, Try.ntmps18
      go_wp2
      go_loopg [4] v.l.length (fun gk i wr => ∃ (j n : Nat) (av : Option Addr) (cv : Nat) (ps : List Kd), gk = v.l.length - j ∧ j ≤ v.l.length ∧ i = .int .i64 j ∧ OS W2 w.heap.size u j av n cv ps wr)
      case atStart =>
        refine ⟨0, 0, none, 0, [], by simp, Nat.zero_le _, rfl, ?_⟩
        have e : ∀ w', w' = W2 → OS W2 w.heap.size u 0 none 0 0 [] w' := by
          rintro w' rfl
          exact ⟨HB.out.2.2.1, World.ownsRow_nil _ _ _ _, rfl, fun p hp => by simp at hp, by simp, Below.refl _ _, by have := HB.out.2.2.2.2; omega⟩
        exact e _ HW.out.symm
      case round =>
        obtain ⟨j, m, av, cv, ps, hgk, hj, rfl, H⟩ := hrel
        have HG := hid (And.intro hgk H)
        obtain ⟨c0, c1, cs⟩ := box_cells ((H.low.block w.heap.size (by omega)).trans HB.out.1)
        obtain ⟨u0, u1, us⟩ := box_cells H.obj
        clear hgk H
        have hpl : m = j := by have h1 := congrArg List.length HG.out.2.map; have h2 := HG.out.2.len; have h3 := HU.out.2.1; rw [List.length_map, List.length_take] at h1; omega
        subst hpl
        by_cases hlt : m < v.l.length
        · have hIr : Is wr v ao := HI.out.1.low (HB.out.2.2.2.1.low.trans (HG.out.2.low.mono (by omega)))
          obtain ⟨b, off, rfl, dh, ai, ci, ds, hi⟩ := hIr.get m hlt
          obtain ⟨d0, d1⟩ := dh
          have HC := hid (HI.out.2.1 v.l[m] (List.getElem_mem hlt) ai ci wr.drew (hi.quiet (Kp.drew _)) (HI.out.2.2 m hlt))
          have HN := hid (HN0.out m hlt)
          generalize hx : v.l[m] = x at *
          clear hx hi hIr
          have HR := hid HG.out.2.row
          have hzz := hid (show w.heap.size + 3 ≤ wr.heap.size from HG.out.2.sz)
          obtain ⟨y, hy⟩ : ∃ y, x.shape = y := ⟨_, rfl⟩
          rw [hy] at HC HN
          clear hy
          go_wp2
          go_region_law ((first
            | (refine step_append_lies _ (by rfl) _ _ _ (by rfl) (w.heap.size + 3) 25 i0 _ 3 40 Try.undV hi0 hz0 hz1 hz2 rfl (by omega) (.slice av m cv) m (tris ps) (by rfl) hr3 ⟨w3.heap.size, 0, none⟩ 1 1 (tri (y, xa, xc)) (by rfl) (by rfl) (news_at w3 _ 25) (tri_one _) (by omega) (by unfold maxLen; omega) (by omega) (by simp; omega) (w3.heap.size + 1) (by simp) ?_; intro gg cap2 w1 hown1 hgrow hat hlt1; have hD := own_step HG.out.2 HN.out q3 h3 hown1 hgrow hat; have e1 := hD.2.1; have e2 := hD.2.2; have HD := hid hD.1; clear hown1 hgrow hat hlt1 hD)
            | (go_simp; go_at_call 18; refine HC.out.mono ?_; rintro e w3 ⟨xa, xc, rfl, h3, q3⟩; have u3 : w3.cell? ⟨w.heap.size + 2, 2, none⟩ = some (.slice av m cv) := q3.cell us (fun e => e); have u4 : (w3.alloc (.cells #[.int .i64 y.kind, .int .i64 y.n, .slice xa y.l.length xc] 25)).cell? ⟨w.heap.size + 2, 2, none⟩ = some (.slice av m cv) := (Kp.alloc (F := fun _ => False) _ _).cell u3 (fun e => e); have hr3 := (q3.row (HR.out.drew) (fun _ _ e => e)).alloc (.cells #[.int .i64 y.kind, .int .i64 y.n, .slice xa y.l.length xc] 25); have z3 : w.heap.size + 3 ≤ w3.heap.size := Nat.le_trans hzz.out q3.size)))
          all_goals
            go_wp2
            go_roundg (v.l.length - (m + 1))
            case measure => have := HG.out.1; omega
            case rel => exact ⟨m + 1, _, _, _, _, rfl, by omega, by go_num, HD.out⟩
        · have hjl := hid (show m = u.l.length by have := HU.out.2.1; omega)
          have hb1 := (HG.out.2.low.block (w.heap.size + 1) (by omega)).trans HB.out.2.1
          obtain ⟨r0, r1, rs⟩ := box_cells hb1
          obtain ⟨f0, f1, f2⟩ := box_free hb1
          have HF := hid (fun w' q => own_end (w' := w') HG.out.2 (by have := hjl.out; omega) HU.out.2.2 HB.out.2.2.2.1 q)
          have hjj : ((v.l.length : Nat) : Int) ≤ (m : Int) := by omega
          clear hb1
          have HJ := hid hj
          clear hj hlt
          go_wp2
          refine bodyPost_ret (v := .agg #[.int .i64 u.kind, .int .i64 u.n, .slice av m cv]) (by simp [results, Try.results18, go_sem, r0, r1, rs]) rfl ?_
          refine ⟨av, cv, by rw [hjl.out], (HF.out _ ?_).1, (HF.out _ ?_).2.1⟩
          all_goals exact ((kp1 _ _ _ _).trans (kp1 _ _ _ _)).trans (kp1 _ _ _ _)
end Go.Proofs.Ytclkaamcoicgcae
