/- Parts. -/
import Derived.Test.YtkpckmcaeljocaaGreatUM2
import Derived.Test.YtkpckmcaeljocaaGreatUVmReadBad
import Derived.Test.YtkpckmcaeljocaaGreatUVmWriteBad
namespace Go.Proofs.YtkpckmcaeljocaaGreat
open Go.ChangeShapes Go.WideShapes Go.ChangeAt Go.RowKit
open Gr (Nd Res nd0 thereB deriveOf addOf gateOf cutOf rightsN wayOf gatesOf gatesW targetOf Wf NdOk GS IntsAt)
section
variable {C : Cx} {q : Vs} {s : Sg} {left : Nat} {w : World} {g nn sc mm nc : Nat} {ps qs : List Kd} {a b : V} {aa ba na : Option Addr} {ac bc : Nat}
theorem pop_kid0 {C : Cx} {R : Rw} {v x : V} {va : Option Addr} (h : PopQ C q s left R v va w) (hi : 0 < v.l.length) (hx : v.l[0] = x) : ∃ bb oo ca cc, va = some ⟨bb, oo, none⟩ ∧ w.cell? ⟨bb, oo, none⟩ = some (.int .i64 x.kind) ∧ w.cell? ⟨bb, oo + 1, none⟩ = some (.int .i64 x.n) ∧ w.cell? ⟨bb, oo + 2, none⟩ = some (.slice ca x.l.length cc) ∧ SafeF (fun k => C.m.own q k ∨ C.x R k) (fun w => Is w x ca) w := by
  obtain ⟨bb, oo, ca, cc, e, _, ⟨⟨k0, k1⟩, k2⟩, hk⟩ := h.safe.kid 0 hi
  rw [hx] at k0 k1 k2 hk
  exact ⟨bb, oo, ca, cc, e, k0, k1, k2, hk⟩
theorem pop_kid1 {C : Cx} {R : Rw} {v x : V} {va : Option Addr} (h : PopQ C q s left R v va w) (hi : 1 < v.l.length) (hx : v.l[1] = x) : ∃ bb oo ca cc, va = some ⟨bb, oo, none⟩ ∧ w.cell? ⟨bb, oo + 3, none⟩ = some (.int .i64 x.kind) ∧ w.cell? ⟨bb, oo + 3 + 1, none⟩ = some (.int .i64 x.n) ∧ w.cell? ⟨bb, oo + 3 + 2, none⟩ = some (.slice ca x.l.length cc) ∧ SafeF (fun k => C.m.own q k ∨ C.x R k) (fun w => Is w x ca) w := by
  obtain ⟨bb, oo, ca, cc, e, _, ⟨⟨k0, k1⟩, k2⟩, hk⟩ := h.safe.kid 1 hi
  rw [hx] at k0 k1 k2 hk
  exact ⟨bb, oo, ca, cc, e, k0, k1, k2, hk⟩
set_option maxRecDepth 8000 in
set_option maxHeartbeats 4000000 in
theorem plain_fst_no (H : FrS C q s left ⟨some ⟨g, 0, none⟩, nn + 1, sc, ps ++ [(a, aa, ac)], na, mm, nc, qs⟩ w) (hn : nn ≤ 1999) (hk : a.kind ≠ 2) (k n : Int) : Calls Tryz.prog 149 #[.pointer (some ⟨C.fb, 0, none⟩), .agg #[.int .i64 9, .int .i64 k, .int .i64 n]] w fun e w' => PlainQ C ⟨some ⟨g, 0, none⟩, nn, sc, ps, na, mm, nc, qs⟩ (bad 2 left s) e w' := by
  have H1 := pl_start H 9 k n
  obtain ⟨i0, i1, i2⟩ := pl_ins H1
  have HH := hid (And.intro H H1)
  have HT := hid (xtake_no 2 H1 (by omega) hk)
  unfold plW at i0 i1 i2 HT
  clear H H1 hk
  go_enter Tryz.func149, Tryz.ntmps149
  go_wp2_with (go_at_call 155; refine HT.out.mono ?_; rintro e w2 ⟨rfl, h2⟩)
  exact ⟨rfl, PlainQ.mk_bad rfl rfl (pl_bad HH.out.1 h2)⟩
set_option maxRecDepth 8000 in
set_option maxHeartbeats 4000000 in
theorem plain_snd_no (H : FrS C q s left ⟨some ⟨g, 0, none⟩, nn + 1, sc, ps ++ [(a, aa, ac)], na, mm, nc, qs⟩ w) (hn : nn ≤ 1999) (hk : a.kind ≠ 2) (k n : Int) : Calls Tryz.prog 149 #[.pointer (some ⟨C.fb, 0, none⟩), .agg #[.int .i64 10, .int .i64 k, .int .i64 n]] w fun e w' => PlainQ C ⟨some ⟨g, 0, none⟩, nn, sc, ps, na, mm, nc, qs⟩ (bad 2 left s) e w' := by
  have H1 := pl_start H 10 k n
  obtain ⟨i0, i1, i2⟩ := pl_ins H1
  have HH := hid (And.intro H H1)
  have HT := hid (xtake_no 2 H1 (by omega) hk)
  unfold plW at i0 i1 i2 HT
  clear H H1 hk
  go_enter Tryz.func149, Tryz.ntmps149
  go_wp2_with (go_at_call 155; refine HT.out.mono ?_; rintro e w2 ⟨rfl, h2⟩)
  exact ⟨rfl, PlainQ.mk_bad rfl rfl (pl_bad HH.out.1 h2)⟩
set_option maxRecDepth 8000 in
set_option maxHeartbeats 4000000 in
theorem plain_open_no (H : FrS C q s left ⟨some ⟨g, 0, none⟩, nn + 1, sc, ps ++ [(a, aa, ac)], na, mm, nc, qs⟩ w) (hn : nn ≤ 1999) (hk : a.kind ≠ 3) (k n : Int) : Calls Tryz.prog 149 #[.pointer (some ⟨C.fb, 0, none⟩), .agg #[.int .i64 12, .int .i64 k, .int .i64 n]] w fun e w' => PlainQ C ⟨some ⟨g, 0, none⟩, nn, sc, ps, na, mm, nc, qs⟩ (bad 2 left s) e w' := by
  have H1 := pl_start H 12 k n
  obtain ⟨i0, i1, i2⟩ := pl_ins H1
  have HH := hid (And.intro H H1)
  have HT := hid (xtake_no 3 H1 (by omega) hk)
  unfold plW at i0 i1 i2 HT
  clear H H1 hk
  go_enter Tryz.func149, Tryz.ntmps149
  go_wp2_with (go_at_call 155; refine HT.out.mono ?_; rintro e w2 ⟨rfl, h2⟩)
  exact ⟨rfl, PlainQ.mk_bad rfl rfl (pl_bad HH.out.1 h2)⟩
set_option maxRecDepth 8000 in
set_option maxHeartbeats 4000000 in
theorem plain_keep (H : FrS C q s left ⟨some ⟨g, 0, none⟩, nn + 1, sc, ps ++ [(a, aa, ac)], na, mm, nc, qs⟩ w) (hn : nn ≤ 1999) (hj : C.j < 4) (hc : a.check = 0) (hS : a.size ≤ 500) (k n : Int) : Calls Tryz.prog 149 #[.pointer (some ⟨C.fb, 0, none⟩), .agg #[.int .i64 20, .int .i64 k, .int .i64 n]] w fun e w' => PlainQ C ⟨some ⟨g, 0, none⟩, nn, sc, ps, na, mm, nc, qs⟩ (okV (s.ks.getD C.j v0) left { s with ks := s.ks.set C.j a }) e w' := by
  have H1 := pl_start H 20 k n
  obtain ⟨i0, i1, i2⟩ := pl_ins H1
  have HH := hid (And.intro H H1)
  have HT := hid (xpop_any H1 (by omega))
  generalize hy : s.ks.getD C.j v0 = y
  have HKP := hid (fun (w2 : World) (h : PopQ (C.pl w 20 k n) q s left ⟨some ⟨g, 0, none⟩, nn, sc, ps, na, mm, nc, qs⟩ a aa w2) => (show Calls Tryz.prog 168 #[.pointer (some ⟨C.fb, 0, none⟩), .agg #[.int .i64 a.kind, .int .i64 a.n, .slice aa a.l.length ac]] w2 fun e w' => MQ C.m ((C.pl w 20 k n).x ⟨some ⟨g, 0, none⟩, nn, sc, ps, na, mm, nc, qs⟩) q C.fr (okV y left { s with ks := s.ks.set C.j a }) w2 e w' by rw [← hy]; exact xkeep_any h.fs hj a aa ac h.safe hc hS))
  unfold plW at i0 i1 i2 HT
  clear H H1 hj hc hS hy
  go_enter Tryz.func149, Tryz.ntmps149
  go_wp2_with (first
    | (go_at_call 168; refine (HKP.out _ H2.out.toPopQ).mono ?_; rintro e w5 x5; obtain ⟨q5, a5, c5, rfl, g5, m5, s5⟩ := x5.ok rfl; have h5 := H2.out.fs.mach g5 m5; have hb5 := pl_res h5; obtain ⟨m0, m1, m2⟩ := box_cells hb5; obtain ⟨f0, f1, f2⟩ := box_free3 hb5; have hz := lt_of_block hb5; clear hb5; have H5 := hid (And.intro h5 s5); clear h5 g5 m5 s5 x5)
    | (go_at_call 146; refine HT.out.mono ?_; rintro e w2 ⟨rfl, h2⟩; have H2 := hid h2; clear h2))
  refine bodyPost_ret (v := .agg #[.int .i64 y.kind, .int .i64 y.n, .slice a5 y.l.length c5]) (by simp [results, Tryz.results149, go_sem, m0, m1, m2]) rfl ?_
  exact pl_ok (o := okV y left { s with ks := s.ks.set C.j a }) HH.out.1 rfl H5.out.1 H5.out.2
set_option maxRecDepth 8000 in
set_option maxHeartbeats 4000000 in
theorem plain_fst (H : FrS C q s left ⟨some ⟨g, 0, none⟩, nn + 1, sc, ps ++ [(a, aa, ac)], na, mm, nc, qs⟩ w) (hn : nn ≤ 1999) (hk : a.kind = 2) (hl : 0 < a.l.length) (k n : Int) : Calls Tryz.prog 149 #[.pointer (some ⟨C.fb, 0, none⟩), .agg #[.int .i64 9, .int .i64 k, .int .i64 n]] w fun e w' => PlainQ C ⟨some ⟨g, 0, none⟩, nn, sc, ps, na, mm, nc, qs⟩ (okV a.l[0] left s) e w' := by
  have H1 := pl_start H 9 k n
  obtain ⟨i0, i1, i2⟩ := pl_ins H1
  have HH := hid (And.intro H H1)
  have HT := hid (xtake_yes 2 H1 (by omega) hk)
  have hl0 : (0 : Int) < a.l.length := by omega
  have hfd := fieldL
  have HL := hid hl
  unfold plW at i0 i1 i2 HT
  generalize hx : a.l[0] = x
  have HX := hid hx
  clear H H1 hk hx
  go_enter Tryz.func149, Tryz.ntmps149
  go_wp2_with (go_at_call 155; refine HT.out.mono ?_; rintro e w2 ⟨rfl, h2⟩; obtain ⟨bb, oo, ca, cc, e3, k0, k1, k2, hk2⟩ := pop_kid0 h2.toPopQ HL.out HX.out; subst e3; have h5 := h2.fs; have hb5 := pl_res h5; obtain ⟨m0, m1, m2⟩ := box_cells hb5; obtain ⟨f0, f1, f2⟩ := box_free3 hb5; have hz := lt_of_block hb5; clear hb5; have H5 := hid (And.intro h5 hk2); clear h5 hk2 h2)
  refine bodyPost_ret (v := .agg #[.int .i64 x.kind, .int .i64 x.n, .slice ca x.l.length cc]) (by simp [results, Tryz.results149, go_sem, m0, m1, m2]) rfl ?_
  exact pl_ok (o := okV x left s) HH.out.1 rfl H5.out.1 H5.out.2
set_option maxRecDepth 8000 in
set_option maxHeartbeats 4000000 in
theorem plain_snd (H : FrS C q s left ⟨some ⟨g, 0, none⟩, nn + 1, sc, ps ++ [(a, aa, ac)], na, mm, nc, qs⟩ w) (hn : nn ≤ 1999) (hk : a.kind = 2) (hl : 1 < a.l.length) (k n : Int) : Calls Tryz.prog 149 #[.pointer (some ⟨C.fb, 0, none⟩), .agg #[.int .i64 10, .int .i64 k, .int .i64 n]] w fun e w' => PlainQ C ⟨some ⟨g, 0, none⟩, nn, sc, ps, na, mm, nc, qs⟩ (okV a.l[1] left s) e w' := by
  have H1 := pl_start H 10 k n
  obtain ⟨i0, i1, i2⟩ := pl_ins H1
  have HH := hid (And.intro H H1)
  have HT := hid (xtake_yes 2 H1 (by omega) hk)
  have hl0 : (1 : Int) < a.l.length := by omega
  have hfd := fieldL
  have HL := hid hl
  unfold plW at i0 i1 i2 HT
  generalize hx : a.l[1] = x
  have HX := hid hx
  clear H H1 hk hx
  go_enter Tryz.func149, Tryz.ntmps149
  go_wp2_with (go_at_call 155; refine HT.out.mono ?_; rintro e w2 ⟨rfl, h2⟩; obtain ⟨bb, oo, ca, cc, e3, k0, k1, k2, hk2⟩ := pop_kid1 h2.toPopQ HL.out HX.out; subst e3; have h5 := h2.fs; have hb5 := pl_res h5; obtain ⟨m0, m1, m2⟩ := box_cells hb5; obtain ⟨f0, f1, f2⟩ := box_free3 hb5; have hz := lt_of_block hb5; clear hb5; have H5 := hid (And.intro h5 hk2); clear h5 hk2 h2)
  refine bodyPost_ret (v := .agg #[.int .i64 x.kind, .int .i64 x.n, .slice ca x.l.length cc]) (by simp [results, Tryz.results149, go_sem, m0, m1, m2]) rfl ?_
  exact pl_ok (o := okV x left s) HH.out.1 rfl H5.out.1 H5.out.2
set_option maxRecDepth 8000 in
set_option maxHeartbeats 4000000 in
theorem plain_open (H : FrS C q s left ⟨some ⟨g, 0, none⟩, nn + 1, sc, ps ++ [(a, aa, ac)], na, mm, nc, qs⟩ w) (hn : nn ≤ 1999) (hk : a.kind = 3) (hl : 0 < a.l.length) (hj : a.n = C.j) (k n : Int) : Calls Tryz.prog 149 #[.pointer (some ⟨C.fb, 0, none⟩), .agg #[.int .i64 12, .int .i64 k, .int .i64 n]] w fun e w' => PlainQ C ⟨some ⟨g, 0, none⟩, nn, sc, ps, na, mm, nc, qs⟩ (okV a.l[0] left s) e w' := by
  have H1 := pl_start H 12 k n
  obtain ⟨i0, i1, i2⟩ := pl_ins H1
  have HH := hid (And.intro H H1)
  have HT := hid (xtake_yes 3 H1 (by omega) hk)
  have HJ := hid (And.intro hl hj)
  unfold plW at i0 i1 i2 HT
  generalize hx : a.l[0] = x
  have HX := hid hx
  clear H H1 hk hx hj
  go_enter Tryz.func149, Tryz.ntmps149
  go_wp2_with (first
    | (go_at_call 160; refine (xunsealed_yes _ H2.out.fs a aa ac HJ.out.2 HJ.out.1 H2.out.safe).mono ?_; rintro e w5 ⟨ca, cc, rfl, s5, q5⟩; rw [HX.out] at s5 ⊢; have h5 := H2.out.fs.quiet q5; have hb5 := pl_res h5; obtain ⟨m0, m1, m2⟩ := box_cells hb5; obtain ⟨f0, f1, f2⟩ := box_free3 hb5; have hz := lt_of_block hb5; clear hb5; have H5 := hid (And.intro h5 s5); clear h5 s5)
    | (go_at_call 155; refine HT.out.mono ?_; rintro e w2 ⟨rfl, h2⟩; have H2 := hid h2; clear h2))
  refine bodyPost_ret (v := .agg #[.int .i64 x.kind, .int .i64 x.n, .slice ca x.l.length cc]) (by simp [results, Tryz.results149, go_sem, m0, m1, m2]) rfl ?_
  exact pl_ok (o := okV x left s) HH.out.1 rfl H5.out.1 H5.out.2
set_option maxRecDepth 8000 in
set_option maxHeartbeats 4000000 in
theorem plain_open_bad (H : FrS C q s left ⟨some ⟨g, 0, none⟩, nn + 1, sc, ps ++ [(a, aa, ac)], na, mm, nc, qs⟩ w) (hn : nn ≤ 1999) (hk : a.kind = 3) (hj : a.n ≠ C.j) (k n : Int) : Calls Tryz.prog 149 #[.pointer (some ⟨C.fb, 0, none⟩), .agg #[.int .i64 12, .int .i64 k, .int .i64 n]] w fun e w' => PlainQ C ⟨some ⟨g, 0, none⟩, nn, sc, ps, na, mm, nc, qs⟩ (bad 10 left s) e w' := by
  have H1 := pl_start H 12 k n
  obtain ⟨i0, i1, i2⟩ := pl_ins H1
  have HH := hid (And.intro H H1)
  have HT := hid (xtake_yes 3 H1 (by omega) hk)
  have HJ := hid hj
  unfold plW at i0 i1 i2 HT
  clear H H1 hk hj
  go_enter Tryz.func149, Tryz.ntmps149
  go_wp2_with (first
    | (go_at_call 160; refine (xunsealed_no H2.out.fs a aa ac HJ.out).mono ?_; rintro e w5 ⟨rfl, q5⟩)
    | (go_at_call 155; refine HT.out.mono ?_; rintro e w2 ⟨rfl, h2⟩; have H2 := hid h2; clear h2))
  exact ⟨rfl, PlainQ.mk_bad rfl rfl (pl_bad HH.out.1 (H2.out.fs.bad.quiet q5))⟩
set_option maxRecDepth 8000 in
set_option maxHeartbeats 4000000 in
theorem plain_read_no (H : FrS C q s left ⟨some ⟨g, 0, none⟩, nn + 1, sc, ps ++ [(a, aa, ac)], na, mm, nc, qs⟩ w) (hn : nn ≤ 1999) (hk : a.kind ≠ 4) (k n : Int) : Calls Tryz.prog 149 #[.pointer (some ⟨C.fb, 0, none⟩), .agg #[.int .i64 13, .int .i64 k, .int .i64 n]] w fun e w' => PlainQ C ⟨some ⟨g, 0, none⟩, nn, sc, ps, na, mm, nc, qs⟩ (bad 2 left s) e w' := by
  have H1 := pl_start H 13 k n
  obtain ⟨i0, i1, i2⟩ := pl_ins H1
  have HH := hid (And.intro H H1)
  have HT := hid (xtakeCap_no H1 (by omega) hk)
  unfold plW at i0 i1 i2 HT
  clear H H1 hk
  go_enter Tryz.func149, Tryz.ntmps149
  go_wp2_with (go_at_call 162; refine HT.out.mono ?_; rintro e w2 ⟨rfl, h2⟩)
  exact ⟨rfl, PlainQ.mk_bad rfl rfl (pl_bad HH.out.1 h2)⟩
set_option maxRecDepth 8000 in
set_option maxHeartbeats 4000000 in
theorem plain_read_bad (H : FrS C q s left ⟨some ⟨g, 0, none⟩, nn + 1, sc, ps ++ [(a, aa, ac)], na, mm, nc, qs⟩ w) (hn : nn ≤ 1999) (hk : a.kind = 4) {c : Int} (hc : cellR s (capV a.n) 0 = .error c) (k n : Int) : Calls Tryz.prog 149 #[.pointer (some ⟨C.fb, 0, none⟩), .agg #[.int .i64 13, .int .i64 k, .int .i64 n]] w fun e w' => PlainQ C ⟨some ⟨g, 0, none⟩, nn, sc, ps, na, mm, nc, qs⟩ (bad c left s) e w' := by
  have H1 := pl_start H 13 k n
  obtain ⟨i0, i1, i2⟩ := pl_ins H1
  have HH := hid (And.intro H H1)
  have HT := hid (xtakeCap_yes H1 (by omega) hk)
  have HC := hid hc
  unfold plW at i0 i1 i2 HT
  clear H H1 hk hc
  go_enter Tryz.func149, Tryz.ntmps149
  go_wp2_with (first
    | (go_at_call 161; refine (xread_bad H2.out.fs a.n c HC.out).mono ?_; rintro e w5 x5; obtain ⟨rfl, q5, c5, g5, m5⟩ := x5.bad rfl; have H5 := hid (And.intro g5 m5); clear x5 g5 m5)
    | (go_at_call 162; refine HT.out.mono ?_; rintro e w2 ⟨rfl, h2⟩; have H2 := hid h2; clear h2))
  exact ⟨rfl, PlainQ.mk_bad rfl rfl (pl_bad HH.out.1 (H2.out.fs.badm H5.out.1 H5.out.2))⟩
set_option maxRecDepth 8000 in
set_option maxHeartbeats 4000000 in
theorem plain_read (H : FrS C q s left ⟨some ⟨g, 0, none⟩, nn + 1, sc, ps ++ [(a, aa, ac)], na, mm, nc, qs⟩ w) (hn : nn ≤ 1999) (hk : a.kind = 4) {c : Int} (hes : s.es.length ≤ 1000000) (hc : cellR s (capV a.n) 0 = .ok c) (k n : Int) : Calls Tryz.prog 149 #[.pointer (some ⟨C.fb, 0, none⟩), .agg #[.int .i64 13, .int .i64 k, .int .i64 n]] w fun e w' => PlainQ C ⟨some ⟨g, 0, none⟩, nn, sc, ps, na, mm, nc, qs⟩ (okV (intV (s.cs.getD c.toNat 0)) left { s with es := s.es ++ [⟨C.j, c, 1, a.n⟩] }) e w' := by
  have H1 := pl_start H 13 k n
  obtain ⟨i0, i1, i2⟩ := pl_ins H1
  have HH := hid (And.intro H H1)
  have HT := hid (xtakeCap_yes H1 (by omega) hk)
  generalize hy : s.cs.getD c.toNat 0 = y
  have HRD := hid (fun (w2 : World) (h : PopQ (C.pl w 13 k n) q s left ⟨some ⟨g, 0, none⟩, nn, sc, ps, na, mm, nc, qs⟩ a aa w2) => (show Calls Tryz.prog 161 #[.pointer (some ⟨C.fb, 0, none⟩), .int .i64 a.n] w2 fun e w' => MQ C.m ((C.pl w 13 k n).x ⟨some ⟨g, 0, none⟩, nn, sc, ps, na, mm, nc, qs⟩) q C.fr (okV (intV y) left { s with es := s.es ++ [⟨C.j, c, 1, a.n⟩] }) w2 e w' by rw [← hy]; exact xread_ok h.fs a.n c hes hc))
  unfold plW at i0 i1 i2 HT
  clear H H1 hk hc hes hy
  go_enter Tryz.func149, Tryz.ntmps149
  go_wp2_with (first
    | (go_at_call 161; refine (HRD.out _ H2.out.toPopQ).mono ?_; rintro e w5 x5; obtain ⟨q5, a5, c5, rfl, g5, m5, s5⟩ := x5.ok rfl; have h5 := H2.out.fs.mach g5 m5; have hb5 := pl_res h5; obtain ⟨m0, m1, m2⟩ := box_cells hb5; obtain ⟨f0, f1, f2⟩ := box_free3 hb5; have hz := lt_of_block hb5; clear hb5; have H5 := hid (And.intro h5 s5); clear h5 g5 m5 s5 x5)
    | (go_at_call 162; refine HT.out.mono ?_; rintro e w2 ⟨rfl, h2⟩; have H2 := hid h2; clear h2))
  refine bodyPost_ret (v := .agg #[.int .i64 (intV y).kind, .int .i64 (intV y).n, .slice a5 (intV y).l.length c5]) (by simp [results, Tryz.results149, go_sem, m0, m1, m2]) rfl ?_
  exact pl_ok (o := okV (intV y) left { s with es := s.es ++ [⟨C.j, c, 1, a.n⟩] }) HH.out.1 rfl H5.out.1 H5.out.2
set_option maxRecDepth 8000 in
set_option maxHeartbeats 4000000 in
theorem plain_write_no2 (H : FrS C q s left ⟨some ⟨g, 0, none⟩, nn + 1 + 1, sc, (ps ++ [(a, aa, ac)]) ++ [(b, ba, bc)], na, mm, nc, qs⟩ w) (hn : nn ≤ 1999) (hk : b.kind ≠ 1) (k n : Int) : Calls Tryz.prog 149 #[.pointer (some ⟨C.fb, 0, none⟩), .agg #[.int .i64 14, .int .i64 k, .int .i64 n]] w fun e w' => PlainQ C ⟨some ⟨g, 0, none⟩, nn, sc, ps, na, mm, nc, qs⟩ (bad 2 left s) e w' := by
  have H1 := pl_start H 14 k n
  obtain ⟨i0, i1, i2⟩ := pl_ins H1
  have HH := hid (And.intro H H1)
  have HT := hid (xtakeInt_no H1 (by omega) hk)
  unfold plW at i0 i1 i2 HT
  clear H H1 hk
  go_enter Tryz.func149, Tryz.ntmps149
  go_wp2_with (go_at_call 147; refine HT.out.mono ?_; rintro e w2 ⟨rfl, h2⟩)
  exact ⟨rfl, PlainQ.mk_bad rfl rfl (pl_bad HH.out.1 h2)⟩
set_option maxRecDepth 8000 in
set_option maxHeartbeats 4000000 in
theorem plain_write_no1 (H : FrS C q s left ⟨some ⟨g, 0, none⟩, nn + 1 + 1, sc, (ps ++ [(a, aa, ac)]) ++ [(b, ba, bc)], na, mm, nc, qs⟩ w) (hn : nn ≤ 1999) (hk : b.kind = 1) (hk1 : a.kind ≠ 4) (k n : Int) : Calls Tryz.prog 149 #[.pointer (some ⟨C.fb, 0, none⟩), .agg #[.int .i64 14, .int .i64 k, .int .i64 n]] w fun e w' => PlainQ C ⟨some ⟨g, 0, none⟩, nn, sc, ps, na, mm, nc, qs⟩ (bad 2 left s) e w' := by
  have H1 := pl_start H 14 k n
  obtain ⟨i0, i1, i2⟩ := pl_ins H1
  have HH := hid (And.intro H H1)
  have HT := hid (xtakeInt_yes H1 (by omega) hk)
  have HK := hid hk1
  unfold plW at i0 i1 i2 HT
  clear H H1 hk hk1
  go_enter Tryz.func149, Tryz.ntmps149
  go_wp2_with (first
    | (go_at_call 162; refine (xtakeCap_no H2.out.fs (by omega) HK.out).mono ?_; rintro e w3 ⟨rfl, h3⟩)
    | (go_at_call 147; refine HT.out.mono ?_; rintro e w2 ⟨rfl, h2⟩; have H2 := hid h2; clear h2))
  exact ⟨rfl, PlainQ.mk_bad rfl rfl (pl_bad HH.out.1 h3)⟩
set_option maxRecDepth 8000 in
set_option maxHeartbeats 4000000 in
theorem plain_write_bad (H : FrS C q s left ⟨some ⟨g, 0, none⟩, nn + 1 + 1, sc, (ps ++ [(a, aa, ac)]) ++ [(b, ba, bc)], na, mm, nc, qs⟩ w) (hn : nn ≤ 1999) (hk : b.kind = 1) (hk1 : a.kind = 4) {c : Int} (hc : cellR s (capV a.n) 1 = .error c) (k n : Int) : Calls Tryz.prog 149 #[.pointer (some ⟨C.fb, 0, none⟩), .agg #[.int .i64 14, .int .i64 k, .int .i64 n]] w fun e w' => PlainQ C ⟨some ⟨g, 0, none⟩, nn, sc, ps, na, mm, nc, qs⟩ (bad c left s) e w' := by
  have H1 := pl_start H 14 k n
  obtain ⟨i0, i1, i2⟩ := pl_ins H1
  have HH := hid (And.intro H H1)
  have HT := hid (xtakeInt_yes H1 (by omega) hk)
  have HK := hid (And.intro hk1 hc)
  unfold plW at i0 i1 i2 HT
  clear H H1 hk hk1 hc
  go_enter Tryz.func149, Tryz.ntmps149
  go_wp2_with (first
    | (go_at_call 163; refine (xwrite_bad H3.out.fs a.n b.n c HK.out.2).mono ?_; rintro e w5 x5; obtain ⟨rfl, q5, c5, g5, m5⟩ := x5.bad rfl; have H5 := hid (And.intro g5 m5); clear x5 g5 m5)
    | (go_at_call 162; refine (xtakeCap_yes H2.out.fs (by omega) HK.out.1).mono ?_; rintro e w3 ⟨rfl, h3⟩; have H3 := hid h3; clear h3)
    | (go_at_call 147; refine HT.out.mono ?_; rintro e w2 ⟨rfl, h2⟩; have H2 := hid h2; clear h2))
  exact ⟨rfl, PlainQ.mk_bad rfl rfl (pl_bad HH.out.1 (H3.out.fs.badm H5.out.1 H5.out.2))⟩
set_option maxRecDepth 8000 in
set_option maxHeartbeats 4000000 in
theorem plain_write (H : FrS C q s left ⟨some ⟨g, 0, none⟩, nn + 1 + 1, sc, (ps ++ [(a, aa, ac)]) ++ [(b, ba, bc)], na, mm, nc, qs⟩ w) (hn : nn ≤ 1999) (hk : b.kind = 1) (hk1 : a.kind = 4) {c : Int} (hes : s.es.length ≤ 1000000) (hb : In64 b.n) (hc : cellR s (capV a.n) 1 = .ok c) (k n : Int) : Calls Tryz.prog 149 #[.pointer (some ⟨C.fb, 0, none⟩), .agg #[.int .i64 14, .int .i64 k, .int .i64 n]] w fun e w' => PlainQ C ⟨some ⟨g, 0, none⟩, nn, sc, ps, na, mm, nc, qs⟩ (okV (intV b.n) left { s with cs := s.cs.set c.toNat b.n, es := s.es ++ [⟨C.j, c, 2, a.n⟩] }) e w' := by
  have H1 := pl_start H 14 k n
  obtain ⟨i0, i1, i2⟩ := pl_ins H1
  have HH := hid (And.intro H H1)
  have HT := hid (xtakeInt_yes H1 (by omega) hk)
  have HK := hid (And.intro hk1 (And.intro hc (And.intro hes hb)))
  unfold plW at i0 i1 i2 HT
  clear H H1 hk hk1 hc hes hb
  go_enter Tryz.func149, Tryz.ntmps149
  go_wp2_with (first
    | (go_at_call 163; refine (xwrite_ok H3.out.fs a.n b.n c HK.out.2.2.1 HK.out.2.2.2 HK.out.2.1).mono ?_; rintro e w5 x5; obtain ⟨q5, a5, c5, rfl, g5, m5, s5⟩ := x5.ok rfl; have h5 := H3.out.fs.mach g5 m5; have hb5 := pl_res h5; obtain ⟨m0, m1, m2⟩ := box_cells hb5; obtain ⟨f0, f1, f2⟩ := box_free3 hb5; have hz := lt_of_block hb5; clear hb5; have H5 := hid (And.intro h5 s5); clear h5 g5 m5 s5 x5)
    | (go_at_call 162; refine (xtakeCap_yes H2.out.fs (by omega) HK.out.1).mono ?_; rintro e w3 ⟨rfl, h3⟩; have H3 := hid h3; clear h3)
    | (go_at_call 147; refine HT.out.mono ?_; rintro e w2 ⟨rfl, h2⟩; have H2 := hid h2; clear h2))
  refine bodyPost_ret (v := .agg #[.int .i64 (intV b.n).kind, .int .i64 (intV b.n).n, .slice a5 (intV b.n).l.length c5]) (by simp [results, Tryz.results149, go_sem, m0, m1, m2]) rfl ?_
  exact pl_ok (o := okV (intV b.n) left { s with cs := s.cs.set c.toNat b.n, es := s.es ++ [⟨C.j, c, 2, a.n⟩] }) HH.out.1 rfl H5.out.1 H5.out.2
end
end Go.Proofs.YtkpckmcaeljocaaGreat
