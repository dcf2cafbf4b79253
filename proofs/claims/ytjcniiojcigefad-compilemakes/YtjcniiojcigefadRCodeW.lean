/- The document's own instructions of an expression: a let. -/
import Derived.Test.YtjcniiojcigefadLExpr
namespace Go.Proofs.Ytjcniiojcigefad
open Go.ChangeShapes Go.WideShapes Go.ChangeAt Go.RowKit
theorem Try.infoR : (Try.prog.info? 40).map (fun i => (i.zero, i.size, i.bytes)) = some (some (.agg #[.int .i64 0, .int .i64 0, .int .i64 0]), 3, 24) := by kernel_rfl
theorem Try.undR : Try.prog.underlying 35 = some (.slice 40) := by kernel_rfl
/-- What Code tells. -/
def CodeQ (c : List Ik) (w : World) (e : Ending) (w' : World) : Prop := ∃ sa sc n, e = .returned (.slice sa n sc) ∧ c.length = n ∧ w'.ownsRow w.heap.size 40 3 (.slice sa n sc) n (insC c) ∧ Quiet w w'
def RCode (v : V) : Prop := ∀ (ao : Option Addr) (cap : Nat) (p : Nat) (pi : Int) (w : World), pi = (p : Int) → Is w v ao → Ok v → p + 3 * v.size ≤ 8000000 → Calls Try.prog 11 #[.agg #[.int .i64 v.kind, .int .i64 v.k, .int .i64 v.n, .slice ao v.l.length cap], .int .i64 pi] w fun e w' => CodeQ (v.code p) w e w'
/-- What was listed so far, in a row of its own. -/
structure RS (W wr : World) (sv : Value) (n : Nat) (c : List Ik) : Prop where
  row : wr.ownsRow W.heap.size 40 3 sv n (insC c)
  len : c.length = n
  q : Quiet W wr
theorem RS.size {W wr : World} {sv : Value} {n : Nat} {c : List Ik} (h : RS W wr sv n c) : W.heap.size ≤ wr.heap.size := h.q.size
theorem RS.quiet {W wr w' : World} {sv : Value} {n : Nat} {c : List Ik} (h : RS W wr sv n c) (q : Quiet wr w') : RS W w' sv n c := ⟨q.row h.row fun _ _ e => e, h.len, h.q.trans q⟩
theorem RS.push {W w3 w4 : World} {sv : Value} {n m g cap : Nat} {c d : List Ik} (H : RS W w3 sv n c) (hd : d.length = m) (hr : w4.ownsRow W.heap.size 40 3 (.slice (some ⟨g, 0, none⟩) (n + m) cap) (n + m) (insC c ++ insC d)) (hg : w3.grownBy w4 sv.ownBlock) : RS W w4 (.slice (some ⟨g, 0, none⟩) (n + m) cap) (n + m) (c ++ d) := by
  refine ⟨by rw [insC_app]; exact hr, by rw [List.length_append, H.len, hd], H.q.fresh (Kp.grown hg fun k _ e => (H.row.lt k e.symm).1)⟩
theorem rs_start (W : World) : RS W (W.alloc (.cells #[.int .i64 100, .int .i64 0, .int .i64 0] 40)) (.slice (some ⟨W.heap.size, 0, none⟩) 1 1) 1 [⟨100, 0, 0⟩] :=
  ⟨⟨rfl, .inr ⟨W.heap.size, 1, _, rfl, Nat.le_refl _, heap_alloc_new W _, Nat.le_refl _, by decide, rfl, rfl⟩⟩, rfl, Kp.alloc _ _⟩
theorem row_news {w : World} {B n sc : Nat} {e : TypeId} {sa : Option Addr} {d : List Ik} (h : w.ownsRow B e 3 (.slice sa n sc) n (insC d)) (hn : 0 < n) : ∃ g, sa = some ⟨g, 0, none⟩ ∧ ∀ j u, (insC d)[j]? = some u → w.cell? ((⟨g, 0, none⟩ : Addr).add j) = some u := by
  obtain ⟨g, rfl, hc⟩ := owns_at h hn
  refine ⟨g, rfl, fun j u hu => ?_⟩
  have hj : j < n * 3 := by
    obtain ⟨hj, _⟩ := List.getElem?_eq_some_iff.1 hu
    have := h.1
    omega
  rw [Addr.add_lit, Nat.zero_add, hc j hj]; exact hu
theorem ins_len {d : List Ik} {m : Nat} (h : d.length = m) : (insC d).length = m * 3 := by rw [insC_len, h]
/-- Two rows are not in one block. -/
def Apart (a b : Value) : Prop := ∀ k, a.ownBlock = some k → b.ownBlock ≠ some k
theorem side_grow {w w' : World} {B s n g m cap : Nat} {e : TypeId} {y sv : Value} {xs : List Value} (hy : w.ownsRow B e s y n xs) (hap : Apart sv y) (hg : w.grownBy w' sv.ownBlock) (hat : sv.ownBlock = some g ∨ g = w.heap.size) :
    w'.ownsRow B e s y n xs ∧ Apart (.slice (some ⟨g, 0, none⟩) m cap) y := by
  refine ⟨(Kp.grown (F := fun k => some k = sv.ownBlock) hg fun k _ e => e).row hy fun k hk e => hap k e.symm hk, fun k hk hk' => ?_⟩
  simp [Value.ownBlock] at hk
  subst hk
  rcases hat with h | h
  · exact hap _ h hk'
  · have := (hy.lt _ hk').2; omega
theorem apart_new {w w' : World} {B s n s' n' : Nat} {e e' : TypeId} {y sv : Value} {xs xs' : List Value} (h : w.ownsRow B e s sv n xs) (hy : w'.ownsRow w.heap.size e' s' y n' xs') : Apart sv y := by
  intro k h1 h2
  have := (h.lt k h1).2
  have := (hy.lt k h2).1
  omega
set_option maxRecDepth 8000 in
set_option maxHeartbeats 4000000 in
theorem rcode_let (x y : V) (k n : Int) (hx : RCode x) (hy : RCode y) (ao : Option Addr) (cap : Nat) (p : Nat) (w : World) (hI : Fo w [x, y] ao) (ox : Ok x) (oy : Ok y) (hp : p + 3 + 3 * x.size + 3 * y.size ≤ 8000000) :
    Calls Try.prog 11 #[.agg #[.int .i64 5, .int .i64 k, .int .i64 n, .slice ao 2 cap], .int .i64 (p : Int)] w fun e w' => CodeQ ([⟨100, 0, 0⟩] ++ letC x y (p + 1)) w e w' := by
  obtain ⟨i0, hi, hz0, hz1, hz2⟩ := info_parts' Try.infoR
  obtain ⟨W, hW⟩ : ∃ W, W = w.alloc (.cells #[.int .i64 5, .int .i64 k, .int .i64 n, .slice ao 2 cap] 38) := ⟨_, rfl⟩
  have qW : Quiet w W := by rw [hW]; exact Kp.alloc _ _
  have sW : W.heap.size = w.heap.size + 1 := by rw [hW]; simp
  have b0 : W.heap[w.heap.size]? = some (.cells #[.int .i64 5, .int .i64 k, .int .i64 n, .slice ao 2 cap] 38 (0, 0)) := by rw [hW]; exact heap_alloc_new w _
  have HBX := hid (fun (w' : World) (q : Quiet W w') => box_cells ((q.block _ (lt_of_block b0) fun e => e).trans b0))
  have HI := hid (fun (w' : World) (q : Quiet W w') => And.intro (fo_at hI (fun a x hc => (qW.trans q).cell hc fun e => e) 0 x rfl) (fo_at hI (fun a x hc => (qW.trans q).cell hc fun e => e) 1 y rfl))
  obtain ⟨W1, hW1⟩ : ∃ W1, W1 = W.alloc (.cells #[.int .i64 100, .int .i64 0, .int .i64 0] 40) := ⟨_, rfl⟩
  have h1 := rs_start W
  rw [← hW1, sW] at h1
  obtain ⟨⟨bb, oo, rfl, xa, xc, ⟨d0, d1, d2, d3⟩, ix⟩, _⟩ := HI.out _ h1.q
  simp only [Nat.zero_mul, Nat.add_zero] at d0 d1 d2 d3
  have hxl := code_len x (p + 1)
  have hyl := code_len y (p + 1 + (x.code (p + 1)).length + 1)
  have hxp := code_pos x (p + 1)
  have hyp := code_pos y (p + 1 + (x.code (p + 1)).length + 1)
  have eW : (w.alloc (.cells #[.int .i64 5, .int .i64 k, .int .i64 n, .slice (some ⟨bb, oo, none⟩) 2 cap] 38)).alloc (.cells #[.int .i64 100, .int .i64 0, .int .i64 0] 40) = W1 := by rw [hW1, hW]
  have HX : Hid (Calls Try.prog 11 #[.agg #[.int .i64 x.kind, .int .i64 x.k, .int .i64 x.n, .slice xa x.l.length xc], .int .i64 ((p : Int) + 1)] ((w.alloc (.cells #[.int .i64 5, .int .i64 k, .int .i64 n, .slice (some ⟨bb, oo, none⟩) 2 cap] 38)).alloc (.cells #[.int .i64 100, .int .i64 0, .int .i64 0] 40)) fun e w' => CodeQ (x.code (p + 1)) W1 e w') := by
    rw [eW]; exact hid (hx xa xc (p + 1) ((p : Int) + 1) W1 (by omega) (ix.quiet (qW.trans h1.q)) ox (by omega))
  rw [← eW] at d0 d1 d2 d3
  have HY := hid (fun (ya : Option Addr) (yc q : Nat) (qi : Int) (w' : World) (h1 : qi = (q : Int)) (h2 : Is w' y ya) (h3 : q + 3 * y.size ≤ 8000000) => hy ya yc q qi w' h1 h2 oy h3)
  have H1 := hid (And.intro h1 qW)
  generalize hmx : (x.code (p + 1)).length = mx at *
  clear hx hy hI ix b0 hW hW1 h1 qW eW
  go_enter Try.func11, Try.ntmps11
  go_wp2_with (first
    | (at_builtin; refine wpList_append_lies _ rfl (.tmp 40) (.tmp 42) 35 rfl W.heap.size 40 i0 _ 3 24 Try.undR hi hz0 hz1 hz2 rfl (by decide) _ n6 _ rfl (h6.out.row.alloc _) ⟨w6.heap.size, 0, none⟩ 1 1 (insC [⟨102, 0, 0⟩]) rfl rfl (news_at w6 _ 40) (ins_one _) (by omega) (by unfold maxLen; omega) (by omega) (by have := h6.out.size; simp; omega) _ rfl ?_; intro g7 cap7 w7 hr7 hg7 hat hlt7; have h7 := hid ((h6.out.quiet (Kp.alloc _ _)).push rfl hr7 hg7); clear hr7 hg7 hat hlt7)
    | (at_builtin; refine wpList_append_lies _ rfl (.tmp 29) (.tmp 38) 35 rfl W.heap.size 40 i0 _ 3 24 Try.undR hi hz0 hz1 hz2 rfl (by decide) _ n4 _ rfl h5.out.row ⟨g5, 0, none⟩ my sc5 (insC (y.code (p + n4))) rfl (ins_len hm5.out) hn5.out (ins_one _) (by omega) (by unfold maxLen; omega) (by omega) h5.out.size _ rfl ?_; intro g6 cap6 w6 hr6 hg6 hat hlt6; have h6 := h5.out.push hm5.out hr6 hg6; generalize hn6 : n4 + my = n6 at h6 ⊢; have h6 := hid h6; have nb6 : n6 ≤ 3 * x.size + 3 * y.size + 2 := (by omega); replace hn6 := hid hn6; clear hr6 hg6 hat hlt6)
    | (go_at_call 11; refine (HY.out ya yc (p + n4) _ w4 (by simp) (iy.out.quiet (H1.out.2.trans h4.out.q)) (by omega)).mono ?_; rintro e w5 ⟨sa5, sc5, my, rfl, hm5, hr5, q5⟩; have hyb : 1 ≤ my ∧ my ≤ 3 * y.size := (by have e1 := code_pos y (p + n4); have e2 := code_len y (p + n4); omega); have hm5 := hid hm5; have h5 := hid (h4.out.quiet q5); obtain ⟨g5, rfl, hn5⟩ := row_news hr5 (by omega); have hn5 := hid hn5; clear hr5 q5)
    | (at_builtin; refine wpList_append_lies _ rfl (.tmp 25) (.tmp 27) 35 rfl W.heap.size 40 i0 _ 3 24 Try.undR hi hz0 hz1 hz2 rfl (by decide) _ n3 _ rfl (h3.out.row.alloc _) ⟨w3.heap.size, 0, none⟩ 1 1 (insC [⟨101, 0, 0⟩]) rfl rfl (news_at w3 _ 40) (ins_one _) (by omega) (by unfold maxLen; omega) (by omega) (by have := h3.out.size; simp; omega) _ rfl ?_; intro g4 cap4 w4 hr4 hg4 hat hlt4; have h4 := (h3.out.quiet (Kp.alloc _ _)).push rfl hr4 hg4; generalize hn4 : n3 + 1 = n4 at h4 ⊢; have h4 := hid h4; have nb4 : n4 ≤ 3 * x.size + 1 := (by omega); replace hn4 := hid hn4; obtain ⟨z0, z9, z1, z2⟩ := HBX.out _ h4.out.q; obtain ⟨_, ⟨bb', oo', eq, ya, yc, ⟨f0, f1, f2, f3⟩, iy⟩⟩ := HI.out _ h4.out.q; simp only [Option.some.injEq, Addr.mk.injEq, and_true] at eq; obtain ⟨rfl, rfl⟩ := eq; simp only [Nat.one_mul] at f0 f1 f2 f3; have iy := hid iy; clear hr4 hg4 hat hlt4)
    | (at_builtin; refine wpList_append_lies _ rfl (.tmp 16) (.tmp 23) 35 rfl W.heap.size 40 i0 _ 3 24 Try.undR hi hz0 hz1 hz2 rfl (by decide) _ 1 (insC [⟨100, 0, 0⟩]) rfl h2.out.row ⟨g2, 0, none⟩ mx sc (insC (x.code (p + 1))) rfl (ins_len hm2.out) hn2.out (ins_one _) (by omega) (by unfold maxLen; omega) (by omega) h2.out.size _ rfl ?_; intro g3 cap3 w3 hr3 hg3 hat hlt3; have h3 := h2.out.push hm2.out hr3 hg3; generalize hn3 : 1 + mx = n3 at h3 ⊢; have h3 := hid h3; have nb3 : n3 ≤ 3 * x.size := (by omega); replace hn3 := hid hn3; clear hr3 hg3 hat hlt3)
    | (go_at_call 11; refine HX.out.mono ?_; rintro e w2 ⟨sa, sc, m, rfl, hm2, hr2, q2⟩; have hm3 : mx = m := (hmx.symm.trans hm2); subst hm3; have hm2 := hid hm2; have h2 := hid (H1.out.1.quiet q2); obtain ⟨g2, rfl, hn2⟩ := row_news hr2 (by omega); have hn2 := hid hn2; clear hr2 q2))
  go_ret
  have e : ((([(⟨100, 0, 0⟩ : Ik)] ++ x.code (p + 1)) ++ [⟨101, 0, 0⟩]) ++ y.code (p + n4)) ++ [⟨102, 0, 0⟩] = [⟨100, 0, 0⟩] ++ letC x y (p + 1) := by
    have e1 : p + n4 = p + 1 + (x.code (p + 1)).length + 1 := by rw [hm2.out]; have := hn3.out; have := hn4.out; omega
    rw [e1]; unfold letC; simp only [List.append_assoc]
  have h8 := h7.out
  simp only [e] at h8
  exact ⟨_, _, _, rfl, h8.len, owns_mono h8.row (by omega), H1.out.2.trans h8.q⟩
end Go.Proofs.Ytjcniiojcigefad
