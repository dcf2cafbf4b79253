/- An expression, as the program reads it: the walk. -/
import Derived.Test.YthogejofkodmkacDoorGHold
import Derived.RegionDies
namespace Go.Proofs.YthogejofkodmkacDoor
open Go.ChangeShapes Go.WideShapes Go.ChangeAt Go.RowKit
/-- The state of the loop over what is in an expression. -/
structure ESt (W : World) (rb : Nat) (e kd kk kn : Int) (g : List Tk → Got V) (n : Nat) (tot : Got (List V)) (j : Nat) (acc : List V) (rest : List Tk) (av : Option Addr) (m cv : Nat) (ps : List Kd) (w : World) : Prop where
  box : w.heap[W.heap.size]? = some (.cells #[.int .i64 kd, .int .i64 kk, .int .i64 kn, .slice av m cv] 53 (0, 0))
  row : Row W rb (W.heap.size + 1) acc av m cv ps w
  rs : RS w rb e rest
  tot : manyT g (n - j) acc rest = tot
  fine : Fine rest
  few : rest.length ≤ 9000
  long : acc.length = j
theorem box_set3 {w : World} {x : Nat} {a b c d y : Value} {t : TypeId} (h : w.heap[x]? = some (.cells #[a, b, c, d] t (0, 0))) : (w.setCell ⟨x, 3, none⟩ y).heap[x]? = some (.cells #[a, b, c, y] t (0, 0)) := by
  simp [World.setCell, Array.getElem?_modify, h]
theorem ESt.push {W w w3 w1 : World} {rb : Nat} {e kd kk kn : Int} {g : List Tk → Got V} {n : Nat} {tot : Got (List V)} {j : Nat} {acc : List V} {rest r : List Tk} {av : Option Addr} {m cv : Nat} {ps : List Kd} {v : V} {a : Option Addr} {c gg cap : Nat} {o : Obj} (H : ESt W rb e kd kk kn g n tot j acc rest av m cv ps w) (hr : rb < W.heap.size) (hj : j < n) (hv : g rest = .ok (v, r)) (hF : Fine r) (hl : r.length ≤ 9000)
    (q3 : Kr rb w.drew w3) (hc : Hold w.heap.size none w3 v a) (hs : RS w3 rb e r)
    (hr1 : w1.ownsRow (W.heap.size + 1) 53 4 (.slice (some ⟨gg, 0, none⟩) (m + 1) cap) (m + 1) (tris ps ++ tri (v, a, c))) (hg : (w3.alloc o).grownBy w1 (Value.slice av m cv).ownBlock) (hat : (Value.slice av m cv).ownBlock = some gg ∨ gg = w3.heap.size + 1) :
    ESt W rb e kd kk kn g n tot (j + 1) (acc ++ [v]) r (some ⟨gg, 0, none⟩) (m + 1) cap (ps ++ [(v, a, c)]) (w1.setCell ⟨W.heap.size, 3, none⟩ (.slice (some ⟨gg, 0, none⟩) (m + 1) cap)) ∧ w1.cell? ⟨W.heap.size, 3, none⟩ = some (.slice av m cv) ∧ w1.frozen? ⟨W.heap.size, 3, none⟩ = false := by
  obtain ⟨k1, k2, k3⟩ := H.row.push (x := W.heap.size) (j := 3) hr (Nat.lt_succ_self _) (Nat.le_refl _) q3 hc hs hr1 hg hat
  have hb := k3.trans H.box
  refine ⟨⟨box_set3 hb, k1, k2, ?_, hF, hl, by rw [List.length_append, H.long]; rfl⟩, (box4 hb).2.2.2, box_free hb 3⟩
  have h0 := H.tot
  rw [many_next g n j hj, hv] at h0
  exact h0
/-- An expression that was read. -/
theorem told_expr {w W w5 : World} {rb : Nat} {e kd kk kn : Int} {acc : List V} {r : List Tk} {av : Option Addr} {m cv : Nat} {ps : List Kd} {o0 : Obj} (hr : rb < w.heap.size) (q : Kr rb (w.alloc o0) W) (H : Row W rb (W.heap.size + 1) acc av m cv ps w5) (hs : RS w5 rb e r) (hf : V.fits ⟨kd, kk, kn, acc⟩) (a b c d : Value) :
    Hold w.heap.size none ((((w5.setCell ⟨w.heap.size, 0, none⟩ a).setCell ⟨w.heap.size, 1, none⟩ b).setCell ⟨w.heap.size, 2, none⟩ c).setCell ⟨w.heap.size, 3, none⟩ d) ⟨kd, kk, kn, acc⟩ av ∧ RS ((((w5.setCell ⟨w.heap.size, 0, none⟩ a).setCell ⟨w.heap.size, 1, none⟩ b).setCell ⟨w.heap.size, 2, none⟩ c).setCell ⟨w.heap.size, 3, none⟩ d) rb e r ∧ Kr rb w ((((w5.setCell ⟨w.heap.size, 0, none⟩ a).setCell ⟨w.heap.size, 1, none⟩ b).setCell ⟨w.heap.size, 2, none⟩ c).setCell ⟨w.heap.size, 3, none⟩ d) := by
  have hW : w.heap.size + 1 ≤ W.heap.size := by have := q.size; simpa using this
  have h1 : Hold (W.heap.size + 1) none w5 ⟨kd, kk, kn, acc⟩ av := Row.hold (v := ⟨kd, kk, kn, acc⟩) H hf
  have hk : Kp (fun k => k = w.heap.size) w5 ((((w5.setCell ⟨w.heap.size, 0, none⟩ a).setCell ⟨w.heap.size, 1, none⟩ b).setCell ⟨w.heap.size, 2, none⟩ c).setCell ⟨w.heap.size, 3, none⟩ d) := (((kp_set _ _ _ _).trans (kp_set _ _ _ _)).trans (kp_set _ _ _ _)).trans (kp_set _ _ _ _)
  refine ⟨(h1.step (fun k h2 h3 _ => hk.block k h3 (by omega)) (.inl rfl)).wider (by omega), ?_⟩
  exact told4 hr (q.trans H.kr) hs a b c d
set_option maxRecDepth 8000 in
set_option maxHeartbeats 4000000 in
theorem expr_any (e : Int) (rb : Nat) : ∀ (f : Nat) (o : Int) (ts : List Tk) (w : World), o + f = 31 → 0 ≤ o → RS w rb e ts → Rd w rb → Fine ts → ts.length ≤ 9000 →
    Calls Tryd.prog 54 #[.pointer (some ⟨rb, 0, none⟩), .int .i64 o] w (Out rb e w (exprT e f ts)) := by
  obtain ⟨i0, hi0, hz0, hz1, hz2⟩ := info_parts Tryd.infoV
  intro f
  induction f with
  | zero =>
    intro o ts w ho _ h _ _ _
    obtain rfl : o = 31 := by omega
    exact expr_deep e rb ts w h
  | succ f ih =>
    intro o ts w ho ho0 h hw hF hl
    have ho30 : ¬ 30 < o := by omega
    have hlt := h.lt
    have ho1 : (o + 1) + (f : Int) = 31 := by omega
    have hwr : IntKind.i64.wrap (o + 1) = o + 1 := by rw [IntKind.wrap_i64]; omega
    cases h1 : mustT e lpar ts with
    | error x =>
      have hG : exprT e (f + 1) ts = .error x := by rw [exprT, h1]; rfl
      rw [hG]
      have HS := hid (fun o' => skip_bad e rb lpar ts x (w.alloc o') (h.quiet (Kp.alloc _ _)) h1)
      clear h hw hF hl h1 hG ih
      go_enter Tryd.func54, Tryd.ntmps54
      go_wp2_with (go_at_call 53; refine (HS.out _).mono ?_; rintro e' w1 ⟨rfl, q1⟩)
      exact ⟨rfl, rfl, (Kp.alloc _ _).trans q1⟩
    | ok y =>
      obtain ⟨u, r1⟩ := y
      obtain ⟨t1, hts, _⟩ := must_ok h1
      have hF1 : Fine r1 := by rw [hts] at hF; exact Fine.rest (p := [t1]) hF
      have hl1 : r1.length ≤ 9000 := by rw [hts] at hl; simp at hl; omega
      have HS := hid (fun o' => skip_ok e rb lpar ts r1 u (w.alloc o') (h.quiet (Kp.alloc _ _)) h1)
      have HW := hid (fun (o' : Obj) (w1 : World) (q : Kr rb (w.alloc o') w1) => (hw.quiet (Kp.alloc _ _)).kr q)
      cases h2 : headT e r1 with
      | error x =>
        have hG : exprT e (f + 1) ts = .error x := by rw [exprT, h1]; simp only [andThen]; rw [h2]
        rw [hG]
        have HH := hid (fun (w1 : World) (h1 : RS w1 rb e r1) (hd : Rd w1 rb) => headR_bad e rb x r1 w1 h1 hd hF1.goods h2)
        clear h hw hF hl h1 hG ih hts hF1 hl1 h2
        go_enter Tryd.func54, Tryd.ntmps54
        go_wp2_with (first
          | (go_at_call 75; refine (HH.out w1 h1 (HW.out _ _ q1)).mono ?_; rintro e' w2 ⟨rfl, q2⟩)
          | (go_at_call 53; refine (HS.out _).mono ?_; rintro e' w1 ⟨rfl, h1, q1⟩))
        exact ⟨rfl, rfl, (Kp.alloc _ _).trans (q1.trans q2)⟩
      | ok y =>
        obtain ⟨⟨kd, kk, kn⟩, r2⟩ := y
        obtain ⟨hkd, hkk, hkn, hF2, hl2⟩ := head_fits hF1 h2
        simp only at hkd hkk hkn
        obtain ⟨n, hn⟩ : ∃ n : Nat, partsI kd = (n : Int) := ⟨(partsI kd).toNat, by have := parts_nat hkd; omega⟩
        have hn3 : n ≤ 3 := by have := parts_le kd; omega
        have hfit : ∀ acc : List V, V.fits ⟨kd, kk, kn, acc⟩ := fun acc => ⟨(show In64 kd by unfold In64; omega), hkk, hkn⟩
        obtain ⟨tot, htot⟩ : ∃ tot, tot = manyT (exprT e f) n [] r2 := ⟨_, rfl⟩
        obtain ⟨G, hG⟩ : ∃ G, G = exprT e (f + 1) ts := ⟨_, rfl⟩
        have hGt : G = andThen tot fun l r => andThen (mustT e rpar r) fun _ r => .ok (⟨kd, kk, kn, l⟩, r) := by
          rw [hG, exprT, h1]; simp only [andThen]; rw [h2]; simp only; rw [hn, Int.toNat_natCast, ← htot]
        rw [← hG]
        have HH := hid (fun (w1 : World) (h1 : RS w1 rb e r1) (hd : Rd w1 rb) => headR_ok e rb (kd, kk, kn) r1 r2 w1 h1 hd h2)
        have HG := hid (And.intro hGt (And.intro htot (And.intro hF2 (And.intro hfit (And.intro (show r2.length ≤ 9000 by omega) ih)))))
        clear h hw hF hl h1 hG ih hts hF1 hl1 h2 hl2 hfit hGt htot hF2 hkk hkn
        go_enter Tryd.func54, Tryd.ntmps54
        go_wp2_with (first
          | (go_at_call 76; refine (parts_any kd _).mono ?_; rintro e' w3 ⟨rfl, rfl⟩; rw [hn])
          | (go_at_call 75; refine (HH.out w1 h1 (HW.out _ _ q1)).mono ?_; rintro e' w2 ⟨rfl, h2, q2⟩; replace q2 := q1.trans q2)
          | (go_at_call 53; refine (HS.out _).mono ?_; rintro e' w1 ⟨rfl, h1, q1⟩))
        have hd2 := HW.out _ _ q2
        have HB := hid (And.intro h2 (And.intro q2 hd2))
        have hlt2 : rb < w2.heap.size := h2.lt
        have hz2' : w.heap.size + 1 ≤ w2.heap.size := by have := q2.size; simpa using this
        clear h1 h2 q1 q2 hd2 HS HH HW
        go_loopw [18] (fun i wr => ∃ (j m : Nat) (av : Option Addr) (cv : Nat) (ps : List Kd) (acc : List V) (rest : List Tk), i = .int .i64 j ∧ j ≤ n ∧ Hid (ESt w2 rb e kd kk kn (exprT e f) n tot j acc rest av m cv ps wr)) (fun i _ => n - (intOf i).toNat)
        case atStart =>
          refine ⟨0, 0, none, 0, [], [], r2, rfl, Nat.zero_le _, ?_⟩
          exact ⟨heap_alloc_new w2 _, Row.nil _ _ _ _ (Kp.alloc _ _) (by simp), HB.out.1.quiet (Kp.alloc _ _), by rw [Nat.sub_zero]; exact HG.out.2.1.symm, HG.out.2.2.1, HG.out.2.2.2.2.1, rfl⟩
        case round =>
          obtain ⟨j, m, av, cv, ps, acc, rest, rfl, hj, HE⟩ := hrel
          have hbx := HE.out.box
          obtain ⟨c0, c1, c2, c3⟩ := box4 hbx
          have hszr : w2.heap.size + 1 ≤ wr.heap.size := HE.out.row.sz
          clear hbx
          by_cases hlt3 : j < n
          · cases hx : exprT e f rest with
            | error x =>
              have hT : G = .error x := by
                have h0 := HE.out.tot
                rw [many_next _ n j hlt3, hx] at h0
                rw [HG.out.1, ← h0]; rfl
              have HC := hid (HG.out.2.2.2.2.2 (o + 1) rest wr.drew ho1 (by omega) (HE.out.rs.quiet (Kp.drew _)) ((HB.out.2.2.kr HE.out.row.kr).quiet (Kp.drew _)) HE.out.fine HE.out.few)
              rw [hx] at HC
              have HQ := hid (show Kr rb w wr.drew from (Kp.alloc _ _).trans ((HB.out.2.1.trans HE.out.row.kr).trans (Kp.drew _)))
              clear hx
              rw [hT]
              clear hT
              go_wp2
              go_region_dies
              all_goals
                refine HC.out.mono ?_
                rintro e' w3 ⟨rfl, q3⟩
                exact ⟨rfl, rfl, HQ.out.trans q3⟩
            | ok y =>
              obtain ⟨v, r'⟩ := y
              have HC := hid (HG.out.2.2.2.2.2 (o + 1) rest wr.drew ho1 (by omega) (HE.out.rs.quiet (Kp.drew _)) ((HB.out.2.2.kr HE.out.row.kr).quiet (Kp.drew _)) HE.out.fine HE.out.few)
              rw [hx] at HC
              obtain ⟨p, hp, _⟩ := expr_ok e f rest v r' hx
              have hF' : Fine r' := Fine.rest (p := p) (hp ▸ HE.out.fine)
              have hl' : r'.length ≤ 9000 := by have := HE.out.few; rw [hp] at this; simp at this; omega
              have HX := hid (And.intro hx (And.intro hF' hl'))
              have HR := hid HE.out.row.row
              have hm3 : m ≤ 3 := by have := HE.out.row.lens; have := HE.out.long; omega
              clear hx hp hF' hl'
              go_wp2
              go_region_law ((first
                | (refine step_append_lies _ (by rfl) _ _ _ (by rfl) (w2.heap.size + 1) 53 i0 _ 4 48 Tryd.undV hi0 hz0 hz1 hz2 rfl (by omega) (.slice av m cv) m (tris ps) (by rfl) hr3 ⟨w3.heap.size, 0, none⟩ 1 1 (tri (v, xa, xc)) (by rfl) (by rfl) (news_at w3 _ 53) (tri_one _) (by omega) (by unfold maxLen; omega) (by omega) (by simp; omega) (w3.heap.size + 1) (by simp) ?_; intro gg cap2 w1 hown1 hgrow hat hlt1; have hD := HE.out.push hlt2 hlt3 HX.out.1 HX.out.2.1 HX.out.2.2 q3 h3 s3 hown1 hgrow hat; have e1 := hD.2.1; have e2 := hD.2.2; have HD := hid hD.1; clear hown1 hgrow hat hlt1 hD)
                | (go_simp; go_at_call 54; refine HC.out.mono ?_; rintro e' w3 ⟨xa, xc, rfl, h3, s3, q3⟩; have u3 : w3.cell? ⟨w2.heap.size, 3, none⟩ = some (.slice av m cv) := q3.cell c3 (show ¬ w2.heap.size = rb by omega); have u4 : (w3.alloc (.cells #[.int .i64 v.kind, .int .i64 v.k, .int .i64 v.n, .slice xa v.l.length xc] 53)).cell? ⟨w2.heap.size, 3, none⟩ = some (.slice av m cv) := (Kp.alloc (F := fun _ => False) _ _).cell u3 (fun e => e); have hr3 := (q3.row (HR.out.drew) (fun k e1 e2 => (by have := (HR.out.lt k e1).1; omega))).alloc (.cells #[.int .i64 v.kind, .int .i64 v.k, .int .i64 v.n, .slice xa v.l.length xc] 53); have z3 : w2.heap.size + 1 ≤ w3.heap.size := Nat.le_trans hszr q3.size)))
              all_goals
                go_wp2
                exact ⟨⟨j + 1, _, _, _, _, _, _, by go_num, by omega, HD⟩, by simp [intOf]; omega⟩
          · obtain rfl : j = n := by omega
            have hT : G = andThen (mustT e rpar rest) fun _ r => .ok (⟨kd, kk, kn, acc⟩, r) := by
              have h0 := HE.out.tot
              rw [many_last] at h0
              rw [HG.out.1, ← h0]; rfl
            cases h5 : mustT e rpar rest with
            | error x =>
              have hT2 : G = .error x := by rw [hT, h5]; rfl
              have HS := hid (skip_bad e rb rpar rest x wr HE.out.rs h5)
              have HQ := hid (show Kr rb w wr from (Kp.alloc _ _).trans (HB.out.2.1.trans HE.out.row.kr))
              clear hT h5
              subst hT2
              go_wp2_with (go_at_call 53; refine HS.out.mono ?_; rintro e' w3 ⟨rfl, q3⟩)
              exact ⟨rfl, rfl, HQ.out.trans q3⟩
            | ok y =>
              obtain ⟨u5, r5⟩ := y
              have hT2 : G = .ok (⟨kd, kk, kn, acc⟩, r5) := by rw [hT, h5]; rfl
              have HS := hid (skip_ok e rb rpar rest r5 u5 wr HE.out.rs h5)
              have hm := hid HE.out.row.lens
              clear hT h5
              subst hT2
              have hb0 : ∀ w3, Kr rb wr w3 → w3.heap[w.heap.size]? = some (.cells #[.int .i64 0, .int .i64 0, .int .i64 0, .slice none 0 0] 53 (0, 0)) := fun w3 q => box_kr hlt ((HB.out.2.1.trans HE.out.row.kr).trans q)
              have hbx : ∀ w3, Kr rb wr w3 → w3.heap[w2.heap.size]? = some (.cells #[.int .i64 kd, .int .i64 kk, .int .i64 kn, .slice av m cv] 53 (0, 0)) := fun w3 q => (q.block _ (by omega) (by omega)).trans HE.out.box
              go_wp2_with (go_at_call 53; refine HS.out.mono ?_; rintro e' w3 ⟨rfl, s3, q3⟩; obtain ⟨x0, x1, x2, x3⟩ := box4 (hb0 w3 q3); obtain ⟨y0, y1, y2, y3⟩ := box4 (hbx w3 q3); have hf0 := box_free (hb0 w3 q3))
              refine bodyPost_ret (v := .agg #[.int .i64 kd, .int .i64 kk, .int .i64 kn, .slice av m cv]) (by simp [results, Tryd.results54, go_sem, x0, x1, x2, x3]) rfl ?_
              refine ⟨av, cv, by rw [hm.out], ?_⟩
              exact told_expr hlt HB.out.2.1 (HE.out.row.kp (by omega) q3) s3 (HG.out.2.2.2.1 acc) _ _ _ _
end Go.Proofs.YthogejofkodmkacDoor
