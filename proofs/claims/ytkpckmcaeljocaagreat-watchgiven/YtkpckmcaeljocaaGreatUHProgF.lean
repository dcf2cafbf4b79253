/- Parts. -/
import Derived.Test.YtkpckmcaeljocaaGreatUV10
namespace Go.Proofs.YtkpckmcaeljocaaGreat
open Go.ChangeShapes Go.WideShapes Go.ChangeAt Go.RowKit
open Gr (Nd Res nd0 thereB openB deriveOf addOf gateOf cutOf cellB cellOf funcB funcOf rightsN wayOf gatesOf gatesW targetOf Wf NdOk GS IntsAt)
section
variable {M : Hx} {q : Hq} {h : Hs} {w : World} {X : Nat → Prop}
theorem hRowA {w : World} {B n : Nat} {v : Value} {l : List V} (h : w.ownsRow B 38 3 v l.length (tris (hd l))) (hn : l.length = n) : w.ownsRow B 38 3 v n (tris (hd l)) := hn ▸ h
set_option maxRecDepth 8000 in
set_option maxHeartbeats 16000000 in
theorem hgive_ok (H : HouseS X M q h w) (x : Sx) (hp : plugB x.p = true) (hc : (capR h x).code = 0) (hf : FewH h) : Calls Tryz.prog 46 #[.pointer (some ⟨M.hb, 0, none⟩), .agg x.vals] w fun e w' => HDoQ X M q (giveX h x) w e w' := by
  have hE := hid (show giveX h x = (⟨0, 0, capV (capR h x).num⟩, { h with s := { h.s with ns := (capR h x).ns, os := (capR h x).os }, hs := h.hs.set x.p.toNat (h.hs.getD x.p.toNat [] ++ [capV (capR h x).num]) }) by unfold giveX giveH; rw [hp, if_pos rfl, if_pos hc])
  obtain ⟨i0, hi, hz0, hz1, hz2⟩ := info_parts' Tryz.infoV
  have H2 := HG.start H x
  have HS := hid H2
  have HC := hid (xcap_any H2.s x)
  have hK := hid (fun (w2 : World) (e : Ending) (k : CapQ M q (capR h x) _ e w2) => HS.out.capped k)
  have hpp : 0 ≤ x.p ∧ x.p < 4 := by simpa [plugB] using hp
  have HOK := hid (show HOk { h with s := { h.s with ns := (capR h x).ns, os := (capR h x).os }, hs := h.hs.set x.p.toNat (h.hs.getD x.p.toNat [] ++ [capV (capR h x).num]) } from by have h1 := H.ok.give x.p (r := capR h x) (fun e => ⟨(cap_ok H.ok e).1, (cap_ok H.ok e).2.1, (cap_ok H.ok e).2.2.1⟩); unfold giveH at h1; rw [if_pos hc] at h1; exact h1)
  have hnm : (capV (capR h x).num).l = [] ∧ (capV (capR h x).num).fits := ⟨rfl, small_in 4 (by decide), show In64 (capR h x).num from by have := cap_ok H.ok hc; exact ⟨by omega, by omega⟩⟩
  rw [hc] at hK
  clear H H2
  generalize (capR h x).num = nm at *
  obtain ⟨kind, p, qq, k, hh, r, g, n, fs, fa, fc⟩ := x
  simp only [Sx.vals] at *
  obtain ⟨j, rfl⟩ : ∃ j : Nat, p = j := ⟨p.toNat, by omega⟩
  have hj4 : (j : Int) < 4 := hpp.2
  have hj : j < 4 := by omega
  clear hpp
  go_enter Tryz.func46, Tryz.ntmps46
  go_upto_if 23 with (first
    | (go_at_call 50; refine (made_yes 4 nm _).mono ?_; rintro e w4 ⟨rfl, q4⟩; have H4 := hid (HH.out.2.quiet (q4.trans (Kp.alloc w4 (.cells #[.int .i64 0, .int .i64 0, .int .i64 4, .int .i64 nm, .slice none 0 0] 40)))); have HB4 := hid (heap_alloc_new w4 (.cells #[.int .i64 0, .int .i64 0, .int .i64 4, .int .i64 nm, .slice none 0 0] 40)); clear q4)
    | (go_at_call 72; refine HC.out.mono ?_; rintro e w3 hq3; obtain ⟨he, q2, hq2, h3⟩ := hK.out _ _ hq3; subst he; have HH := hid (And.intro hq2 h3); clear hq3 h3 hq2)
    | (go_at_call 62; refine (plug_any j _).mono ?_; rintro e w' ⟨rfl, h2⟩; replace h2 := h2.symm; subst h2; rw [hp]))
  generalize hnb : w4.heap.size = nb at *
  generalize w4.alloc (.cells #[.int .i64 0, .int .i64 0, .int .i64 4, .int .i64 nm, .slice none 0 0] 40) = W4 at *
  go_cut [24] from 24 to 58 (fun _ wx => ∃ q7, Hid (HG X M q q7 { h with s := { h.s with ns := (capR h ⟨kind, j, qq, k, hh, r, g, n, fs, fa, fc⟩).ns, os := (capR h ⟨kind, j, qq, k, hh, r, g, n, fs, fa, fc⟩).os }, hs := h.hs.set (j : Int).toNat (h.hs.getD (j : Int).toNat [] ++ [capV nm]) } ⟨kind, j, qq, k, hh, r, g, n, fs, fa, fc⟩ w wx ∧ wx.heap[nb]? = some (.cells #[.int .i64 0, .int .i64 0, .int .i64 4, .int .i64 nm, .slice none 0 0] 40 (0, 0))))
  case first =>
    go_wp2_with fail
    go_region
    · generalize hW6 : (W4.alloc (.cells #[.bool false] 4)).drew = W6 at *
      have q6 : Quiet W4 W6 := by rw [← hW6]; exact (Kp.alloc _ _).trans (Kp.drew _)
      have H6 := hid (H4.out.quiet q6)
      have HB6 := hid ((q6.block _ (lt_of_block HB4.out) fun e => e).trans HB4.out)
      obtain ⟨sa, nl, sc, hs, hn⟩ : ∃ sa nl sc, handV q2 { h with s := { h.s with ns := (capR h ⟨kind, j, qq, k, hh, r, g, n, fs, fa, fc⟩).ns, os := (capR h ⟨kind, j, qq, k, hh, r, g, n, fs, fa, fc⟩).os } } j = .slice sa nl sc ∧ (h.hs.getD j []).length = nl := ⟨_, _, _, rfl, rfl⟩
      have hn5 : nl ≤ 100000 := by rw [← hn]; exact hf j
      obtain ⟨c1, ch, d2, d3, d4⟩ := H6.out.cells rfl hj hs HB6.out (Kp.refl _ _)
      have hlo := (H6.out.s.row j hj)
      rw [hs] at hlo
      have hMB : M.B ≤ W6.heap.size := by have := lt_of_block H6.out.s.obj; have := H6.out.s.lo; omega
      obtain ⟨c1', ch', d2', d3', d4'⟩ := H6.out.cells rfl hj hs HB6.out (Kp.alloc W6 (.cells #[.int .i64 4, .int .i64 nm, .slice none 0 0] 38))
      have HR := hid hlo
      have HN := hid (And.intro hs (And.intro hn hj))
      have HM := hid hMB
      clear hlo hW6 q6 hs hn hMB hf hj hc
      go_wp2_with fail
      go_region_law ((refine step_append_lies _ (by rfl) _ _ _ (by rfl) M.B 38 i0 _ 3 40 Tryz.undV hi hz0 hz1 hz2 rfl (by omega) (.slice sa nl sc) nl (tris (hd (h.hs.getD j []))) (by rfl) ((hRowA HR.out HN.out.2.1).alloc _ |>.drew) ⟨W6.heap.size, 0, none⟩ 1 1 (tri (capV nm, none, 0)) (by rfl) (by rfl) (Gr.news_of (t := 38) (l := tri (capV nm, none, 0)) (heap_alloc_new W6 _)) (tri_one _) (by omega) (by unfold maxLen; omega) (by omega) (by have := HM.out; simp; omega) (W6.heap.size + 1) (by simp) ?_; intro gg cap2 w1 hown1 hgrow hat hlt; obtain ⟨e1, _, ⟨e3, e4, e5⟩, ⟨n1, n2, n3, n4⟩, t1, _⟩ := H6.out.push rfl HB6.out (Kp.alloc W6 (.cells #[.int .i64 4, .int .i64 nm, .slice none 0 0] 38)) HN.out.2.2 hnm HOK.out HN.out.1 HN.out.2.1 hown1 (grown_drew hgrow) (by rcases hat with e | e; exact .inl e; exact .inr (by simp; omega)); have HE := hid (e1 rfl); clear hown1 hgrow hat e1))
      all_goals
        go_wp2_with fail
        go_meet
        obtain ⟨q7, h7, hb7⟩ := HE.out
        exact ⟨q7, ⟨h7, hb7⟩⟩
    · generalize hW6 : (W4.alloc (.cells #[.bool true] 4)).drew = W6 at *
      have q6 : Quiet W4 W6 := by rw [← hW6]; exact (Kp.alloc _ _).trans (Kp.drew _)
      have H6 := hid (H4.out.quiet q6)
      have HB6 := hid ((q6.block _ (lt_of_block HB4.out) fun e => e).trans HB4.out)
      obtain ⟨sa, nl, sc, hs, hn⟩ : ∃ sa nl sc, handV q2 { h with s := { h.s with ns := (capR h ⟨kind, j, qq, k, hh, r, g, n, fs, fa, fc⟩).ns, os := (capR h ⟨kind, j, qq, k, hh, r, g, n, fs, fa, fc⟩).os } } j = .slice sa nl sc ∧ (h.hs.getD j []).length = nl := ⟨_, _, _, rfl, rfl⟩
      have hn5 : nl ≤ 100000 := by rw [← hn]; exact hf j
      obtain ⟨c1, ch, d2, d3, d4⟩ := H6.out.cells rfl hj hs HB6.out (Kp.refl _ _)
      have hlo := (H6.out.s.row j hj)
      rw [hs] at hlo
      have hMB : M.B ≤ W6.heap.size := by have := lt_of_block H6.out.s.obj; have := H6.out.s.lo; omega
      obtain ⟨c1', ch', b2, b3, b4⟩ := H6.out.cells rfl hj hs HB6.out (Kp.alloc W6 (.cells #[.int .i64 0, .int .i64 0, .slice none 0 0] 38))
      have HR := hid hlo
      have HN := hid (And.intro hs (And.intro hn hj))
      have HM := hid hMB
      have hn3 : (nl : Int) < (nl : Int) + 1 := by omega
      clear hlo hW6 q6 hs hn hMB hf hj hc
      go_wp2_with fail
      go_region_law ((refine step_append_lies _ (by rfl) _ _ _ (by rfl) M.B 38 i0 _ 3 40 Tryz.undV hi hz0 hz1 hz2 rfl (by omega) (.slice sa nl sc) nl (tris (hd (h.hs.getD j []))) (by rfl) ((hRowA HR.out HN.out.2.1).alloc _ |>.drew) ⟨W6.heap.size, 0, none⟩ 1 1 (tri (v0, none, 0)) (by rfl) (by rfl) (Gr.news_of (t := 38) (l := tri (v0, none, 0)) (heap_alloc_new W6 _)) (tri_one _) (by omega) (by unfold maxLen; omega) (by omega) (by have := HM.out; simp; omega) (W6.heap.size + 1) (by simp) ?_; intro gg cap2 w1 hown1 hgrow hat hlt; obtain ⟨_, e1, ⟨e3, e4, e5⟩, ⟨n1, n2, n3, n4⟩, t1, t2, t3, t4⟩ := H6.out.push rfl HB6.out (Kp.alloc W6 (.cells #[.int .i64 0, .int .i64 0, .slice none 0 0] 38)) HN.out.2.2 hnm HOK.out HN.out.1 HN.out.2.1 hown1 (grown_drew hgrow) (by rcases hat with e | e; exact .inl e; exact .inr (by simp; omega)); have HE := hid e1; obtain ⟨⟨r0, r1, r2⟩, r3, r4⟩ := new_cells (by rw [← HN.out.2.1]; simp [hd]) hown1; have hr0 := r4 (nl * 3); have hr1 := r4 (nl * 3 + 1); have hr2 := r4 (nl * 3 + 2); clear hown1 hgrow hat e1 r4))
      all_goals
        go_wp2_with fail
        go_meet
        obtain ⟨q7, h7, hb7⟩ := HE.out
        exact ⟨q7, ⟨h7, hb7⟩⟩
  case rest =>
    rename World => W7
    obtain ⟨q7, H7⟩ := hcut
    have hb1 := H7.out.1.b1
    obtain ⟨⟨s0, s1, s2, s3, s4⟩, _⟩ := evt_cells H7.out.2
    obtain ⟨⟨y0, y1, y2, y3, y4⟩, x0, x1, x2, x3, x4⟩ := evt_cells hb1
    have hl1 := lt_of_block hb1
    clear hb1 HC hK HS HH H4 HB4
    go_wp2
    have hb5 := evt_put H7.out.1.b1 (.int .i64 0) (.int .i64 0) (.int .i64 4) (.int .i64 nm) (.slice none 0 0)
    have k5 := evt_set W7 (w.heap.size + 1) (.int .i64 0) (.int .i64 0) (.int .i64 4) (.int .i64 nm) (.slice none 0 0)
    generalize ((((W7.setCell ⟨w.heap.size + 1, 0, none⟩ (.int .i64 0)).setCell ⟨w.heap.size + 1, 1, none⟩ (.int .i64 0)).setCell ⟨w.heap.size + 1, 2, none⟩ (.int .i64 4)).setCell ⟨w.heap.size + 1, 3, none⟩ (.int .i64 nm)).setCell ⟨w.heap.size + 1, 4, none⟩ (.slice none 0 0) = W5 at *
    obtain ⟨⟨u0, u1, u2, u3, u4⟩, _⟩ := evt_cells hb5
    refine bodyPost_ret (v := .agg #[.int .i64 0, .int .i64 0, .int .i64 4, .int .i64 nm, .slice none 0 0]) (by simp [results, Tryz.results46, go_sem, u0, u1, u2, u3, u4]) rfl ?_
    rw [hE.out]
    exact HG.done (R := (⟨0, 0, capV nm⟩, _)) H7.out.1 k5 (safe_leaf (capV nm) hnm.2 rfl none)
end
end Go.Proofs.YtkpckmcaeljocaaGreat
