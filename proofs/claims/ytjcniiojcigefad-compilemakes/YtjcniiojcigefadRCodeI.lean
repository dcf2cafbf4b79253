/- The document's own instructions of an expression: an if. -/
import Derived.Test.YtjcniiojcigefadRCodeW
namespace Go.Proofs.Ytjcniiojcigefad
open Go.ChangeShapes Go.WideShapes Go.ChangeAt Go.RowKit
theorem RS.apart {W wr w' : World} {sv y : Value} {n B s m : Nat} {c : List Ik} {e : TypeId} {xs : List Value} (h : RS W wr sv n c) (hB : wr.heap.size ≤ B) (hy : w'.ownsRow B e s y m xs) : Apart sv y := by
  intro k h1 h2
  have := (h.row.lt k h1).2
  have := (hy.lt k h2).1
  omega
theorem row_newsG {w : World} {B n sc g : Nat} {e : TypeId} {d : List Ik} (h : w.ownsRow B e 3 (.slice (some ⟨g, 0, none⟩) n sc) n (insC d)) (hn : 0 < n) : ∀ j u, (insC d)[j]? = some u → w.cell? ((⟨g, 0, none⟩ : Addr).add j) = some u := by
  obtain ⟨g', e, hc⟩ := row_news h hn
  cases e
  exact hc
set_option maxRecDepth 8000 in
set_option maxHeartbeats 8000000 in
theorem rcode_if (x y z : V) (k n : Int) (hx : RCode x) (hy : RCode y) (hz : RCode z) (ao : Option Addr) (cap : Nat) (p : Nat) (w : World) (hI : Fo w [x, y, z] ao) (ox : Ok x) (oy : Ok y) (oz : Ok z) (hp : p + 3 + 3 * x.size + 3 * y.size + 3 * z.size ≤ 8000000) :
    Calls Try.prog 11 #[.agg #[.int .i64 7, .int .i64 k, .int .i64 n, .slice ao 3 cap], .int .i64 (p : Int)] w fun e w' => CodeQ ([⟨100, 0, 0⟩] ++ ifC x y z (p + 1)) w e w' := by
  obtain ⟨i0, hi, hz0, hz1, hz2⟩ := info_parts' Try.infoR
  obtain ⟨W, hW⟩ : ∃ W, W = w.alloc (.cells #[.int .i64 7, .int .i64 k, .int .i64 n, .slice ao 3 cap] 38) := ⟨_, rfl⟩
  have qW : Quiet w W := by rw [hW]; exact Kp.alloc _ _
  have sW : W.heap.size = w.heap.size + 1 := by rw [hW]; simp
  have b0 : W.heap[w.heap.size]? = some (.cells #[.int .i64 7, .int .i64 k, .int .i64 n, .slice ao 3 cap] 38 (0, 0)) := by rw [hW]; exact heap_alloc_new w _
  have HBX := hid (fun (w' : World) (q : Quiet W w') => box_cells ((q.block _ (lt_of_block b0) fun e => e).trans b0))
  have HI := hid (fun (w' : World) (q : Quiet W w') => And.intro (fo_at hI (fun a x hc => (qW.trans q).cell hc fun e => e) 0 x rfl) (And.intro (fo_at hI (fun a x hc => (qW.trans q).cell hc fun e => e) 1 y rfl) (fo_at hI (fun a x hc => (qW.trans q).cell hc fun e => e) 2 z rfl)))
  obtain ⟨W1, hW1⟩ : ∃ W1, W1 = W.alloc (.cells #[.int .i64 100, .int .i64 0, .int .i64 0] 40) := ⟨_, rfl⟩
  have h1 := rs_start W
  rw [← hW1, sW] at h1
  obtain ⟨⟨bb, oo, rfl, xa, xc, ⟨d0, d1, d2, d3⟩, ix⟩, _⟩ := HI.out _ h1.q
  simp only [Nat.zero_mul, Nat.add_zero] at d0 d1 d2 d3
  have hxl := code_len x (p + 1)
  have hxp := code_pos x (p + 1)
  have eW : (w.alloc (.cells #[.int .i64 7, .int .i64 k, .int .i64 n, .slice (some ⟨bb, oo, none⟩) 3 cap] 38)).alloc (.cells #[.int .i64 100, .int .i64 0, .int .i64 0] 40) = W1 := by rw [hW1, hW]
  have HX : Hid (Calls Try.prog 11 #[.agg #[.int .i64 x.kind, .int .i64 x.k, .int .i64 x.n, .slice xa x.l.length xc], .int .i64 ((p : Int) + 1)] ((w.alloc (.cells #[.int .i64 7, .int .i64 k, .int .i64 n, .slice (some ⟨bb, oo, none⟩) 3 cap] 38)).alloc (.cells #[.int .i64 100, .int .i64 0, .int .i64 0] 40)) fun e w' => CodeQ (x.code (p + 1)) W1 e w') := by
    rw [eW]; exact hid (hx xa xc (p + 1) ((p : Int) + 1) W1 (by omega) (ix.quiet (qW.trans h1.q)) ox (by omega))
  rw [← eW] at d0 d1 d2 d3
  have HY := hid (fun (ya : Option Addr) (yc q : Nat) (qi : Int) (w' : World) (h1 : qi = (q : Int)) (h2 : Is w' y ya) (h3 : q + 3 * y.size ≤ 8000000) => hy ya yc q qi w' h1 h2 oy h3)
  have HZ := hid (fun (za : Option Addr) (zc q : Nat) (qi : Int) (w' : World) (h1 : qi = (q : Int)) (h2 : Is w' z za) (h3 : q + 3 * z.size ≤ 8000000) => hz za zc q qi w' h1 h2 oz h3)
  have H1 := hid (And.intro h1 qW)
  generalize hmx : (x.code (p + 1)).length = mx at *
  clear hx hy hz hI ix b0 hW hW1 h1 qW eW
  go_enter Try.func11, Try.ntmps11
  go_wp2_with (first
    | (at_builtin; refine wpList_append_lies _ rfl (.tmp 96) (.tmp 97) 35 rfl W.heap.size 40 i0 _ 3 24 Try.undR hi hz0 hz1 hz2 rfl (by decide) _ n9 _ rfl h9.out.row ⟨g6, 0, none⟩ mz sc6 (insC (z.code (p + n3 + 1 + my + 1))) rfl (ins_len hm6.out) (row_newsG s9.out.1 (by omega)) (ins_one _) (by omega) (by unfold maxLen; omega) (by omega) h9.out.size _ rfl ?_; intro g10 cap10 w10 hr10 hg10 hat hlt10; have h10 := hid (h9.out.push hm6.out hr10 hg10); clear hr10 hg10 hat hlt10)
    | (at_builtin; refine wpList_append_lies _ rfl (.tmp 88) (.tmp 94) 35 rfl W.heap.size 40 i0 _ 3 24 Try.undR hi hz0 hz1 hz2 rfl (by decide) _ n8 _ rfl (h8.out.row.alloc _) ⟨w8.heap.size, 0, none⟩ 1 1 (insC [⟨104, (p : Int) + n3 + 1 + my + 1 + mz, 0⟩]) rfl rfl (news_at w8 _ 40) (ins_one _) (by omega) (by unfold maxLen; omega) (by omega) (by have := h8.out.size; simp; omega) _ rfl ?_; intro g9 cap9 w9 hr9 hg9 hat hlt9; have s9 := side_grow (m := n8 + 1) (cap := cap9) (s8.out.1.alloc _) s8.out.2 hg9 hat; have h9 := (h8.out.quiet (Kp.alloc _ _)).push rfl hr9 hg9; generalize hn9 : n8 + 1 = n9 at h9 s9 ⊢; have h9 := hid h9; have s9 := hid s9; have nb9 : n9 ≤ 3 * x.size + 3 * y.size + 2 := (by omega); replace hn9 := hid hn9; clear hr9 hg9 hat hlt9)
    | (at_builtin; refine wpList_append_lies _ rfl (.tmp 85) (.tmp 86) 35 rfl W.heap.size 40 i0 _ 3 24 Try.undR hi hz0 hz1 hz2 rfl (by decide) _ n7 _ rfl h7.out.row ⟨g5, 0, none⟩ my sc5 (insC (y.code (p + n3 + 1))) rfl (ins_len hm5.out) (row_newsG sy7.out.1 (by omega)) (ins_one _) (by omega) (by unfold maxLen; omega) (by omega) h7.out.size _ rfl ?_; intro g8 cap8 w8 hr8 hg8 hat hlt8; have s8 := side_grow (m := n7 + my) (cap := cap8) sz7.out.1 sz7.out.2 hg8 hat; have h8 := h7.out.push hm5.out hr8 hg8; generalize hn8 : n7 + my = n8 at h8 s8 ⊢; have h8 := hid h8; have s8 := hid s8; have nb8 : n8 ≤ 3 * x.size + 3 * y.size + 1 := (by omega); replace hn8 := hid hn8; clear hr8 hg8 hat hlt8)
    | (at_builtin; refine wpList_append_lies _ rfl (.tmp 80) (.tmp 83) 35 rfl W.heap.size 40 i0 _ 3 24 Try.undR hi hz0 hz1 hz2 rfl (by decide) _ n3 _ rfl (h6.out.row.alloc _) ⟨w6.heap.size, 0, none⟩ 1 1 (insC [⟨103, (p : Int) + n3 + 1 + my + 1, 0⟩]) rfl rfl (news_at w6 _ 40) (ins_one _) (by omega) (by unfold maxLen; omega) (by omega) (by have := h6.out.size; simp; omega) _ rfl ?_; intro g7 cap7 w7 hr7 hg7 hat hlt7; have sy7 := side_grow (m := n3 + 1) (cap := cap7) (hr5.out.alloc _) apy.out hg7 hat; have sz7 := side_grow (m := n3 + 1) (cap := cap7) (hr6.out.alloc _) apz.out hg7 hat; have h7 := (h6.out.quiet (Kp.alloc _ _)).push rfl hr7 hg7; generalize hn7 : n3 + 1 = n7 at h7 sy7 sz7 ⊢; have h7 := hid h7; have sy7 := hid sy7; have sz7 := hid sz7; have nb7 : n7 ≤ 3 * x.size + 1 := (by omega); replace hn7 := hid hn7; clear hr7 hg7 hat hlt7)
    | (go_at_call 11; refine (HZ.out za zc (p + n3 + 1 + my + 1) _ w5 (by simp) (iz.out.quiet (H1.out.2.trans h5.out.q)) (by omega)).mono ?_; rintro e w6 ⟨sa6, sc6, mz, rfl, hm6, hr6, q6⟩; have hzb : 1 ≤ mz ∧ mz ≤ 3 * z.size := (by have e1 := code_pos z (p + n3 + 1 + my + 1); have e2 := code_len z (p + n3 + 1 + my + 1); omega); have hm6 := hid hm6; have h6 := hid (h5.out.quiet q6); have hr5 := hid (q6.row hr5.out fun _ _ e => e); have apz := hid (h5.out.apart (Nat.le_refl _) hr6); obtain ⟨g6, rfl, _⟩ := row_news hr6 (by omega); have hr6 := hid hr6; clear q6)
    | (go_at_call 11; refine (HY.out ya yc (p + n3 + 1) _ w3 (by simp) (iy.out.quiet (H1.out.2.trans h3.out.q)) (by omega)).mono ?_; rintro e w5 ⟨sa5, sc5, my, rfl, hm5, hr5, q5⟩; have hyb : 1 ≤ my ∧ my ≤ 3 * y.size := (by have e1 := code_pos y (p + n3 + 1); have e2 := code_len y (p + n3 + 1); omega); have hm5 := hid hm5; have h5 := hid (h3.out.quiet q5); have apy := hid (h3.out.apart (Nat.le_refl _) hr5); obtain ⟨g5, rfl, _⟩ := row_news hr5 (by omega); have hr5 := hid hr5; clear z0 z9 z1 z2 f0 f1 f2 f3; obtain ⟨z0, z9, z1, z2⟩ := HBX.out _ h5.out.q; obtain ⟨_, _, ⟨bb', oo', eq, za, zc, ⟨f0, f1, f2, f3⟩, iz⟩⟩ := HI.out _ h5.out.q; simp only [Option.some.injEq, Addr.mk.injEq, and_true] at eq; obtain ⟨rfl, rfl⟩ := eq; simp only [Nat.reduceMul] at f0 f1 f2 f3; have iz := hid iz; clear q5)
    | (at_builtin; refine wpList_append_lies _ rfl (.tmp 46) (.tmp 53) 35 rfl W.heap.size 40 i0 _ 3 24 Try.undR hi hz0 hz1 hz2 rfl (by decide) _ 1 (insC [⟨100, 0, 0⟩]) rfl h2.out.row ⟨g2, 0, none⟩ mx sc (insC (x.code (p + 1))) rfl (ins_len hm2.out) hn2.out (ins_one _) (by omega) (by unfold maxLen; omega) (by omega) h2.out.size _ rfl ?_; intro g3 cap3 w3 hr3 hg3 hat hlt3; have h3 := h2.out.push hm2.out hr3 hg3; generalize hn3 : 1 + mx = n3 at h3 ⊢; have h3 := hid h3; have nb3 : n3 ≤ 3 * x.size := (by omega); replace hn3 := hid hn3; obtain ⟨z0, z9, z1, z2⟩ := HBX.out _ h3.out.q; obtain ⟨_, ⟨bb', oo', eq, ya, yc, ⟨f0, f1, f2, f3⟩, iy⟩, _⟩ := HI.out _ h3.out.q; simp only [Option.some.injEq, Addr.mk.injEq, and_true] at eq; obtain ⟨rfl, rfl⟩ := eq; simp only [Nat.one_mul] at f0 f1 f2 f3; have iy := hid iy; clear hr3 hg3 hat hlt3)
    | (go_at_call 11; refine HX.out.mono ?_; rintro e w2 ⟨sa, sc, m, rfl, hm2, hr2, q2⟩; have hm3 : mx = m := (hmx.symm.trans hm2); subst hm3; have hm2 := hid hm2; have h2 := hid (H1.out.1.quiet q2); obtain ⟨g2, rfl, hn2⟩ := row_news hr2 (by omega); have hn2 := hid hn2; clear hr2 q2))
  go_ret
  have f3 : n3 = 1 + (x.code (p + 1)).length := by rw [hm2.out]; exact hn3.out.symm
  have f4 : p + n3 + 1 = p + 1 + (x.code (p + 1)).length + 1 := by omega
  have f5 : p + n3 + 1 + my + 1 = elseAt x y (p + 1) := by unfold elseAt; rw [← f4, hm5.out]
  have f6 : (p : Int) + n3 + 1 + my + 1 = ((elseAt x y (p + 1) : Nat) : Int) := by rw [← f5]; simp
  have f7 : (p : Int) + n3 + 1 + my + 1 + mz = ((elseAt x y (p + 1) + (z.code (elseAt x y (p + 1))).length : Nat) : Int) := by rw [f6, ← f5, hm6.out]; simp
  have e : (((([(⟨100, 0, 0⟩ : Ik)] ++ x.code (p + 1)) ++ [⟨103, (p : Int) + n3 + 1 + my + 1, 0⟩]) ++ y.code (p + n3 + 1)) ++ [⟨104, (p : Int) + n3 + 1 + my + 1 + mz, 0⟩]) ++ z.code (p + n3 + 1 + my + 1) = [⟨100, 0, 0⟩] ++ ifC x y z (p + 1) := by
    unfold ifC
    rw [f7, f6, f5, f4]; simp only [List.append_assoc]
  have h11 := h10.out
  simp only [e] at h11
  exact ⟨_, _, _, rfl, h11.len, owns_mono h11.row (by omega), H1.out.2.trans h11.q⟩
end Go.Proofs.Ytjcniiojcigefad
