/- What a lister lists of an expression. -/
import Derived.Test.YtjcniiojcigefadLChoice
import Derived.StillTailTactics
namespace Go.Proofs.Ytjcniiojcigefad
open Go.ChangeShapes Go.WideShapes Go.ChangeAt Go.RowKit
theorem Try.mixedL : Try.prog.follows .mixedOrders = true := by kernel_rfl
theorem Is.kidL {w : World} {v : V} {ao : Option Addr} (h : Is w v ao) {x : V} (hx : x ∈ v.l) : ∃ ax, Is w x ax := by
  obtain ⟨i, hi, rfl⟩ := List.getElem_of_mem hx
  obtain ⟨b, off, _, _, ai, _, _, k⟩ := h.get i hi
  exact ⟨ai, k⟩
set_option maxRecDepth 8000 in
set_option maxHeartbeats 2000000 in
theorem lplain_of (w0 : World) (b : Nat) (v : V) (ih : ∀ x ∈ v.l, ExprL w0 b x) (ao : Option Addr) (cap : Nat) (c : List Ik) (w : World) (hI : Is w0 v ao) (ho : Ok v)
    (hB : Below w0.heap.size w0 w) (hb : w0.heap.size ≤ b) (h : Lst b c w) (hl : c.length + 3 * sizes v.l + 1 ≤ 8000000) :
    Calls Try.prog 25 #[.pointer (some ⟨b, 0, none⟩), .agg #[.int .i64 v.kind, .int .i64 v.k, .int .i64 v.n, .slice ao v.l.length cap]] w fun e w' => e = .returned (.tuple #[]) ∧ Lst b (c ++ (codesP v.l c.length ++ [⟨v.kind, v.k, v.n⟩])) w' ∧ KI b w w' := by
  obtain ⟨W, hW⟩ : ∃ W, W = w.alloc (.cells #[.int .i64 v.kind, .int .i64 v.k, .int .i64 v.n, .slice ao v.l.length cap] 38) := ⟨_, rfl⟩
  have q : Quiet w W := by rw [hW]; exact Kp.alloc _ _
  have hlt := h.lt
  have b0 : W.heap[w.heap.size]? = some (.cells #[.int .i64 v.kind, .int .i64 v.k, .int .i64 v.n, .slice ao v.l.length cap] 38 (0, 0)) := by rw [hW]; exact heap_alloc_new w _
  have HBX := hid (fun (w' : World) (k : KI b W w') => box_cells (k.box b0 (by omega) (by decide)))
  have HW := hid (And.intro hW (And.intro (KI.quiet q (Nat.le_of_lt hlt)) (h.quiet q)))
  have HB := hid (low_ki hB (KI.quiet q (Nat.le_of_lt hlt)) hb)
  have HI := hid (And.intro hI (And.intro ih ho.kids))
  have hvl := sizes_len v.l
  have hvl5 : v.l.length ≤ 8000000 := by omega
  clear hI ih ho q b0 h
  go_enter Try.func25, Try.ntmps25
  go_wp2
  go_loopw [9] (fun i wr => ∃ j : Nat, j ≤ v.l.length ∧ i = .int .i64 j ∧ Lst b (c ++ codesP (v.l.take j) c.length) wr ∧ KI b W wr) (fun i _ => v.l.length - (intOf i).toNat)
  case atStart =>
    refine ⟨0, Nat.zero_le _, rfl, ?_, ?_⟩
    · rw [List.take_zero, codesP_nil, List.append_nil, ← hW]; exact HW.out.2.2
    · rw [← hW]; exact KI.refl _ _
  case round =>
    obtain ⟨j, hj, rfl, h, hk⟩ := hrel
    have hstl := sizes_take_le v.l j
    have hcj := codesP_len (v.l.take j) c.length
    obtain ⟨z0, z9, z1, z2⟩ := HBX.out _ hk
    by_cases hlt2 : j < v.l.length
    · obtain ⟨bb, oo, rfl, dh, ca, cc, ds, hki⟩ := HI.out.1.get j hlt2
      have hBr := low_ki HB.out hk hb
      obtain ⟨d0, d1, d2⟩ := head_kept (low_kept hBr) dh
      have dsk := low_kept hBr _ _ ds
      have HC := hid (HI.out.2.1 v.l[j] (List.getElem_mem hlt2) ca cc)
      have HO := hid (HI.out.2.2 v.l[j] (List.getElem_mem hlt2))
      have HN := hid (codesP_take v.l j hlt2 c.length)
      have hst := sizes_take v.l j hlt2
      have hst2 := sizes_take_le v.l (j + 1)
      generalize v.l[j] = u at *
      have qa : Quiet wr (wr.alloc (.cells #[.int .i64 u.kind, .int .i64 u.k, .int .i64 u.n, .slice ca u.l.length cc] 38)) := Kp.alloc _ _
      have kq := KI.quiet (b := b) qa (Nat.le_of_lt h.lt)
      have HQ := hid (HC.out (c ++ codesP (v.l.take j) c.length) _ hki HO.out (low_ki hBr kq hb) hb (h.quiet qa) (by rw [List.length_append]; omega))
      have HK := hid (hk.trans kq)
      clear h hk dh ds hki hBr qa kq HC HO hcj
      go_wp2_with (go_at_call 16; refine HQ.out.mono ?_; rintro e w6 ⟨rfl, h6, k6⟩)
      refine ⟨⟨j + 1, by omega, by go_num, ?_, HK.out.trans k6⟩, by simp [intOf]; omega⟩
      rw [HN.out, ← List.append_assoc]
      rw [List.length_append] at h6
      exact h6
    · have hjl : j = v.l.length := by omega
      subst hjl
      rw [List.take_length] at h hcj
      have HP := hid (lput_any b (c ++ codesP v.l c.length) ⟨v.kind, v.k, v.n⟩ _ h (by rw [List.length_append]; omega))
      have HK := hid hk
      clear h hk hcj
      go_wp2_with (go_at_call 17; refine HP.out.mono ?_; rintro e w6 ⟨rfl, h6, k6⟩)
      go_end0
      refine ⟨rfl, ?_, HW.out.2.1.trans (HK.out.trans k6)⟩
      rw [← List.append_assoc]; exact h6
/-- The first, second, third of those that are in one. -/
theorem fo_at {w w' : World} {l : List V} {ao : Option Addr} (h : Fo w l ao) (hk : ∀ (a : Addr) (x : Value), w.cell? a = some x → w'.cell? a = some x) (i : Nat) (x : V) (hi : l[i]? = some x) :
    ∃ b off, ao = some ⟨b, off, none⟩ ∧ ∃ ai cap, (w'.cell? ⟨b, off + i * 4, none⟩ = some (.int .i64 x.kind) ∧ w'.cell? ⟨b, off + i * 4 + 1, none⟩ = some (.int .i64 x.k) ∧ w'.cell? ⟨b, off + i * 4 + 2, none⟩ = some (.int .i64 x.n) ∧ w'.cell? ⟨b, off + i * 4 + 3, none⟩ = some (.slice ai x.l.length cap)) ∧ Is w x ai := by
  obtain ⟨hi2, rfl⟩ := List.getElem?_eq_some_iff.1 hi
  obtain ⟨b, off, e, dh, ai, cap, ds, hI⟩ := h.get i hi2
  obtain ⟨d0, d1, d2⟩ := head_kept hk dh
  exact ⟨b, off, e, ai, cap, ⟨d0, d1, d2, hk _ _ ds⟩, hI⟩
set_option maxRecDepth 8000 in
set_option maxHeartbeats 4000000 in
theorem lexpr_let (w0 : World) (b : Nat) (x y : V) (k n : Int) (hx : ExprL w0 b x) (hy : ExprL w0 b y) (ao : Option Addr) (cap : Nat) (c : List Ik) (w : World) (hI : Fo w0 [x, y] ao) (ox : Ok x) (oy : Ok y)
    (hB : Below w0.heap.size w0 w) (hb : w0.heap.size ≤ b) (h : Lst b c w) (hl : c.length + 3 + 3 * x.size + 3 * y.size ≤ 8000000) :
    Calls Try.prog 16 #[.pointer (some ⟨b, 0, none⟩), .agg #[.int .i64 5, .int .i64 k, .int .i64 n, .slice ao 2 cap]] w fun e w' => e = .returned (.tuple #[]) ∧ Lst b (c ++ ([⟨100, 0, 0⟩] ++ letC x y (c.length + 1))) w' ∧ KI b w w' := by
  obtain ⟨W, hW⟩ : ∃ W, W = w.alloc (.cells #[.int .i64 5, .int .i64 k, .int .i64 n, .slice ao 2 cap] 38) := ⟨_, rfl⟩
  have q : Quiet w W := by rw [hW]; exact Kp.alloc _ _
  have hlt := h.lt
  have b0 : W.heap[w.heap.size]? = some (.cells #[.int .i64 5, .int .i64 k, .int .i64 n, .slice ao 2 cap] 38 (0, 0)) := by rw [hW]; exact heap_alloc_new w _
  have HBX := hid (fun (w' : World) (k : KI b W w') => box_cells (k.box b0 (by omega) (by decide)))
  have HW := hid (And.intro hW (KI.quiet q (Nat.le_of_lt hlt)))
  have HB := hid (low_ki hB (KI.quiet q (Nat.le_of_lt hlt)) hb)
  have HP := hid (lput_any b c ⟨100, 0, 0⟩ W (h.quiet q) (by omega))
  rw [hW] at HP
  have HI := hid (fun (w' : World) (k : KI b W w') => And.intro (fo_at hI (low_kept (low_ki (low_ki hB (KI.quiet q (Nat.le_of_lt hlt)) hb) k hb)) 0 x rfl) (fo_at hI (low_kept (low_ki (low_ki hB (KI.quiet q (Nat.le_of_lt hlt)) hb) k hb)) 1 y rfl))
  have HL := hid (fun (xa ya : Option Addr) (xc yc : Nat) (d : List Ik) (w' : World) (ix : Is w0 x xa) (iy : Is w0 y ya) (k : Below w0.heap.size w0 w') (h : Lst b d w') (hd : d.length + 3 * x.size + 3 * y.size + 2 ≤ 8000000) => llet_of w0 b x y hx hy xa ya xc yc d w' ix iy ox oy k hb h hd)
  clear q b0 h hI hW hx hy
  go_enter Try.func16, Try.ntmps16
  go_wp2_with (go_at_call 17; refine HP.out.mono ?_; rintro e w3 ⟨rfl, h3, k3⟩; rw [← HW.out.1] at k3; have H3 := hid (And.intro h3 k3); obtain ⟨z0, z9, z1, z2⟩ := HBX.out _ k3; obtain ⟨⟨bb, oo, rfl, xa, xc, ⟨d0, d1, d2, d3⟩, ix⟩, ⟨bb', oo', eq, ya, yc, ⟨f0, f1, f2, f3⟩, iy⟩⟩ := HI.out _ k3; simp only [Option.some.injEq, Addr.mk.injEq, and_true] at eq; obtain ⟨rfl, rfl⟩ := eq; have HIX := hid (And.intro ix iy); clear h3 k3 ix iy)
  simp only [Nat.zero_mul, Nat.add_zero, Nat.one_mul] at d0 d1 d2 d3 f0 f1 f2 f3
  have el : (c ++ [(⟨100, 0, 0⟩ : Ik)]).length = c.length + 1 := by simp
  have HC := hid (HL.out xa ya xc yc (c ++ [⟨100, 0, 0⟩]) w3.drew HIX.out.1 HIX.out.2 (low_ki HB.out (H3.out.2.trans (KI.quiet (Kp.drew (F := fun _ => False) _) (Nat.le_of_lt H3.out.1.lt))) hb) (H3.out.1.quiet (Kp.drew _)) (by rw [el]; omega))
  rw [el] at HC
  clear el
  go_still_tail 9, Try.mixedL
  go_wp2_with (go_at_call 23; refine HC.out.mono ?_; rintro e w5 ⟨rfl, h5, k5⟩)
  go_end0
  refine ⟨rfl, ?_, HW.out.2.trans (H3.out.2.trans ((KI.quiet (Kp.drew (F := fun _ => False) _) (Nat.le_of_lt H3.out.1.lt)).trans k5))⟩
  rw [show c ++ (⟨100, 0, 0⟩ :: letC x y (c.length + 1)) = (c ++ [⟨100, 0, 0⟩]) ++ letC x y (c.length + 1) by simp]; exact h5
set_option maxRecDepth 8000 in
set_option maxHeartbeats 4000000 in
theorem lexpr_if (w0 : World) (b : Nat) (x y z : V) (k n : Int) (hx : ExprL w0 b x) (hy : ExprL w0 b y) (hz : ExprL w0 b z) (ao : Option Addr) (cap : Nat) (c : List Ik) (w : World) (hI : Fo w0 [x, y, z] ao) (ox : Ok x) (oy : Ok y) (oz : Ok z)
    (hB : Below w0.heap.size w0 w) (hb : w0.heap.size ≤ b) (h : Lst b c w) (hl : c.length + 3 + 3 * x.size + 3 * y.size + 3 * z.size ≤ 8000000) :
    Calls Try.prog 16 #[.pointer (some ⟨b, 0, none⟩), .agg #[.int .i64 7, .int .i64 k, .int .i64 n, .slice ao 3 cap]] w fun e w' => e = .returned (.tuple #[]) ∧ Lst b (c ++ ([⟨100, 0, 0⟩] ++ ifC x y z (c.length + 1))) w' ∧ KI b w w' := by
  obtain ⟨W, hW⟩ : ∃ W, W = w.alloc (.cells #[.int .i64 7, .int .i64 k, .int .i64 n, .slice ao 3 cap] 38) := ⟨_, rfl⟩
  have q : Quiet w W := by rw [hW]; exact Kp.alloc _ _
  have hlt := h.lt
  have b0 : W.heap[w.heap.size]? = some (.cells #[.int .i64 7, .int .i64 k, .int .i64 n, .slice ao 3 cap] 38 (0, 0)) := by rw [hW]; exact heap_alloc_new w _
  have HBX := hid (fun (w' : World) (k : KI b W w') => box_cells (k.box b0 (by omega) (by decide)))
  have HW := hid (And.intro hW (KI.quiet q (Nat.le_of_lt hlt)))
  have HB := hid (low_ki hB (KI.quiet q (Nat.le_of_lt hlt)) hb)
  have HP := hid (lput_any b c ⟨100, 0, 0⟩ W (h.quiet q) (by omega))
  rw [hW] at HP
  have HI := hid (fun (w' : World) (k : KI b W w') => And.intro (fo_at hI (low_kept (low_ki (low_ki hB (KI.quiet q (Nat.le_of_lt hlt)) hb) k hb)) 0 x rfl) (And.intro (fo_at hI (low_kept (low_ki (low_ki hB (KI.quiet q (Nat.le_of_lt hlt)) hb) k hb)) 1 y rfl) (fo_at hI (low_kept (low_ki (low_ki hB (KI.quiet q (Nat.le_of_lt hlt)) hb) k hb)) 2 z rfl)))
  have HL := hid (fun (xa ya za : Option Addr) (xc yc zc : Nat) (d : List Ik) (w' : World) (ix : Is w0 x xa) (iy : Is w0 y ya) (iz : Is w0 z za) (k : Below w0.heap.size w0 w') (h : Lst b d w') (hd : d.length + 3 * x.size + 3 * y.size + 3 * z.size + 2 ≤ 8000000) => lchoice_of w0 b x y z hx hy hz xa ya za xc yc zc d w' ix iy iz ox oy oz k hb h hd)
  clear q b0 h hI hW hx hy hz
  go_enter Try.func16, Try.ntmps16
  go_wp2_with (go_at_call 17; refine HP.out.mono ?_; rintro e w3 ⟨rfl, h3, k3⟩; rw [← HW.out.1] at k3; have H3 := hid (And.intro h3 k3); obtain ⟨z0, z9, z1, z2⟩ := HBX.out _ k3; obtain ⟨⟨bb, oo, rfl, xa, xc, ⟨d0, d1, d2, d3⟩, ix⟩, ⟨bb', oo', eq, ya, yc, ⟨f0, f1, f2, f3⟩, iy⟩, ⟨bb2, oo2, eq2, za, zc, ⟨g0, g1, g2, g3⟩, iz⟩⟩ := HI.out _ k3; simp only [Option.some.injEq, Addr.mk.injEq, and_true] at eq eq2; obtain ⟨rfl, rfl⟩ := eq; obtain ⟨rfl, rfl⟩ := eq2; have HIX := hid (And.intro ix (And.intro iy iz)); clear h3 k3 ix iy iz)
  simp only [Nat.zero_mul, Nat.add_zero, Nat.one_mul, Nat.reduceMul] at d0 d1 d2 d3 f0 f1 f2 f3 g0 g1 g2 g3
  have el : (c ++ [(⟨100, 0, 0⟩ : Ik)]).length = c.length + 1 := by simp
  have HC := hid (HL.out xa ya za xc yc zc (c ++ [⟨100, 0, 0⟩]) w3.drew HIX.out.1 HIX.out.2.1 HIX.out.2.2 (low_ki HB.out (H3.out.2.trans (KI.quiet (Kp.drew (F := fun _ => False) _) (Nat.le_of_lt H3.out.1.lt))) hb) (H3.out.1.quiet (Kp.drew _)) (by rw [el]; omega))
  rw [el] at HC
  clear el
  go_still_tail 13, Try.mixedL
  go_wp2_with (go_at_call 24; refine HC.out.mono ?_; rintro e w5 ⟨rfl, h5, k5⟩)
  go_end0
  refine ⟨rfl, ?_, HW.out.2.trans (H3.out.2.trans ((KI.quiet (Kp.drew (F := fun _ => False) _) (Nat.le_of_lt H3.out.1.lt)).trans k5))⟩
  rw [show c ++ (⟨100, 0, 0⟩ :: ifC x y z (c.length + 1)) = (c ++ [⟨100, 0, 0⟩]) ++ ifC x y z (c.length + 1) by simp]; exact h5
set_option maxRecDepth 8000 in
set_option maxHeartbeats 4000000 in
theorem lexpr_other (w0 : World) (b : Nat) (v : V) (ih : ∀ x ∈ v.l, ExprL w0 b x) (h5 : v.kind ≠ 5) (h7 : v.kind ≠ 7) (ao : Option Addr) (cap : Nat) (c : List Ik) (w : World) (hI : Is w0 v ao) (ho : Ok v)
    (hB : Below w0.heap.size w0 w) (hb : w0.heap.size ≤ b) (h : Lst b c w) (hl : c.length + 3 * v.size ≤ 8000000) :
    Calls Try.prog 16 #[.pointer (some ⟨b, 0, none⟩), .agg #[.int .i64 v.kind, .int .i64 v.k, .int .i64 v.n, .slice ao v.l.length cap]] w fun e w' => e = .returned (.tuple #[]) ∧ Lst b (c ++ ([⟨100, 0, 0⟩] ++ (codesP v.l (c.length + 1) ++ [⟨v.kind, v.k, v.n⟩]))) w' ∧ KI b w w' := by
  obtain ⟨W, hW⟩ : ∃ W, W = w.alloc (.cells #[.int .i64 v.kind, .int .i64 v.k, .int .i64 v.n, .slice ao v.l.length cap] 38) := ⟨_, rfl⟩
  have q : Quiet w W := by rw [hW]; exact Kp.alloc _ _
  have hlt := h.lt
  have b0 : W.heap[w.heap.size]? = some (.cells #[.int .i64 v.kind, .int .i64 v.k, .int .i64 v.n, .slice ao v.l.length cap] 38 (0, 0)) := by rw [hW]; exact heap_alloc_new w _
  have HBX := hid (fun (w' : World) (k : KI b W w') => box_cells (k.box b0 (by omega) (by decide)))
  have HW := hid (And.intro hW (KI.quiet q (Nat.le_of_lt hlt)))
  have HB := hid (low_ki hB (KI.quiet q (Nat.le_of_lt hlt)) hb)
  have HP := hid (lput_any b c ⟨100, 0, 0⟩ W (h.quiet q) (by omega))
  rw [hW] at HP
  have hsz := size_eq v
  have el : (c ++ [(⟨100, 0, 0⟩ : Ik)]).length = c.length + 1 := by simp
  have HL := hid (fun (w' : World) (k : Below w0.heap.size w0 w') (h : Lst b (c ++ [⟨100, 0, 0⟩]) w') => lplain_of w0 b v ih ao cap (c ++ [⟨100, 0, 0⟩]) w' hI ho k hb h (by rw [el]; omega))
  rw [el] at HL
  have n5 : (v.kind == 5) = false := by simpa using h5
  have n7 : (v.kind == 7) = false := by simpa using h7
  clear q b0 h hI hW ih el
  go_enter Try.func16, Try.ntmps16
  go_wp2_with (first
    | (go_at_call 25; refine (HL.out w3 (low_ki HB.out k3 hb) h3).mono ?_; rintro e w4 ⟨rfl, h4, k4⟩)
    | (go_at_call 17; refine HP.out.mono ?_; rintro e w3 ⟨rfl, h3, k3⟩; rw [← HW.out.1] at k3; obtain ⟨z0, z9, z1, z2⟩ := HBX.out _ k3))
  go_end0
  refine ⟨rfl, ?_, HW.out.2.trans (k3.trans k4)⟩
  rw [show c ++ (⟨100, 0, 0⟩ :: (codesP v.l (c.length + 1) ++ [⟨v.kind, v.k, v.n⟩])) = (c ++ [⟨100, 0, 0⟩]) ++ (codesP v.l (c.length + 1) ++ [⟨v.kind, v.k, v.n⟩]) by simp]; exact h4
/-- The contract of expr. -/
theorem lexpr_any (w0 : World) (b : Nat) (v : V) : ExprL w0 b v := by
  induction v using V.ind' with
  | h v ih =>
    intro ao cap c w hI ho hB hb h hl
    have hsz := size_eq v
    by_cases e5 : v.kind = 5
    · obtain ⟨x, y, hxy⟩ := ho.two e5
      have hx : x ∈ v.l := by simp [hxy]
      have hy : y ∈ v.l := by simp [hxy]
      have hsx : sizes v.l = x.size + y.size := by rw [hxy, sizes_cons, sizes_cons, sizes_nil]; rfl
      have hF := hI.fo
      rw [code_let e5 hxy]
      rw [hxy] at hF
      rw [hxy, e5]
      exact lexpr_let w0 b x y v.k v.n (ih x hx) (ih y hy) ao cap c w hF (ho.kids x hx) (ho.kids y hy) hB hb h (by omega)
    · by_cases e7 : v.kind = 7
      · obtain ⟨x, y, z, hxy⟩ := ho.three e7
        have hx : x ∈ v.l := by simp [hxy]
        have hy : y ∈ v.l := by simp [hxy]
        have hz : z ∈ v.l := by simp [hxy]
        have hsx : sizes v.l = x.size + y.size + z.size := by rw [hxy, sizes_cons, sizes_cons, sizes_cons, sizes_nil]; omega
        have hF := hI.fo
        rw [code_if e7 hxy]
        rw [hxy] at hF
        rw [hxy, e7]
        exact lexpr_if w0 b x y z v.k v.n (ih x hx) (ih y hy) (ih z hz) ao cap c w hF (ho.kids x hx) (ho.kids y hy) (ho.kids z hz) hB hb h (by omega)
      · rw [code_other e5 e7]
        exact lexpr_other w0 b v ih e5 e7 ao cap c w hI ho hB hb h hl
end Go.Proofs.Ytjcniiojcigefad
