/- An expression, as the document reads it: its head. -/
import Derived.Test.YthogejofkodmkacDoorRHold
import Derived.Test.YthogejofkodmkacDoorPHead
import Derived.Deep.DeepCutAuto
import Derived.Deep.CutBlock
namespace Go.Proofs.YthogejofkodmkacDoor
open Go.ChangeShapes Go.WideShapes Go.ChangeAt Go.RowKit
/-- The kind so far. -/
def soFar (K k : Nat) : Int := if K < k then (K : Int) else 0
theorem soFar_at (K : Nat) : soFar K (K + 1) = (K : Int) := if_pos (Nat.lt_succ_self K)
theorem soFar_not {K k : Nat} (h : ¬ K = k) : soFar K (k + 1) = soFar K k := by
  unfold soFar
  by_cases h1 : K < k
  · rw [if_pos h1, if_pos (by omega)]
  · rw [if_neg h1, if_neg (by omega)]
theorem XS.next2 {w : World} {rb : Nat} {e : Int} {all : List Tk} {ao : Option Addr} {cap : Nat} {op k n z c a : Int} {wr : World} (H : XS w rb e all ao cap op k n z c a wr) (z' y : Int) (hy : z' = y) : XS w rb e all ao cap op k n z' c a (wr.setCell ⟨rb, 2, none⟩ (.int .i64 y)) := hy ▸ H.next z'
/-- What stands behind a word was read, or is at fault. -/
def Tailed (w : World) (rb : Nat) (e : Int) (all : List Tk) (ao : Option Addr) (cap : Nat) (kd : Int) (r2 : List Tk) (wx : World) : Prop :=
  (∃ (kk kn : Int) (r3 : List Tk) (j3 : Nat), tailT e kd r2 = .ok ((kk, kn), r3) ∧ j3 ≤ all.length ∧ all.drop j3 = r3 ∧ XS w rb e all ao cap kd kk kn j3 0 0 wx) ∨
  (∃ (x : Int × Int) (kk kn z : Int), tailT e kd r2 = .error x ∧ XS w rb e all ao cap kd kk kn z x.1 x.2 wx)
/-- The state of the loop over what is in an expression. -/
def LS (W : World) (rb : Nat) (e : Int) (all : List Tk) (ao : Option Addr) (cap : Nat) (kd kk kn : Int) (f n : Nat) (G : Got V) (i : Nat) (w : World) : Prop :=
  (∃ tot acc j av m cv ps, LOk W rb e all ao cap kd kk kn (exprT e f) n tot i acc j av m cv ps w ∧ (G = andThen tot fun l r => andThen (mustT e rpar r) fun _ r => .ok (⟨kd, kk, kn, l⟩, r)) ∧ In64 kk ∧ In64 kn) ∨
  (∃ (x : Int × Int) (z : Int) (av : Option Addr) (m cv : Nat), G = .error x ∧ x.1 ≠ 0 ∧ LBad W rb e all ao cap kd kk kn x z av m cv w)
theorem XS.krW {w W : World} {rb : Nat} {e : Int} {all : List Tk} {ao : Option Addr} {cap : Nat} {op k n z c a : Int} {wr : World} (H : XS w rb e all ao cap op k n z c a wr) (hW : W = w.alloc (.cells #[.int .i64 0, .int .i64 0, .int .i64 0, .slice none 0 0] 53)) : Kr rb W wr := by
  subst hW
  have hl := lt_of_block H.x0
  refine ⟨H.kr.os, H.kr.tape, H.kr.output, by simp; omega, fun i hi hne => ?_⟩
  rcases Nat.lt_or_ge i w.heap.size with h1 | h1
  · rw [Below.heap_alloc w _ i h1]; exact H.kr.block i h1 hne
  · obtain rfl : i = w.heap.size := by simp at hi; omega
    rw [heap_alloc_new]; exact H.r0
set_option maxRecDepth 8000 in
set_option maxHeartbeats 8000000 in
theorem rexpr_step {w : World} {rb : Nat} {e : Int} {all : List Tk} {ao : Option Addr} {cap : Nat} {j f : Nat} {o : Int} {r1 : List Tk} {u : Unit} (h : QB w rb e all ao cap j 0 0) (hl : all.length ≤ 9000) (hF : Fine all) (ho1 : (o + 1) + (f : Int) = 31) (ho0 : 0 ≤ o) (ih : ∀ (o' : Int) (j' : Nat) (w' : World), o' + (f : Int) = 31 → 0 ≤ o' → j' ≤ all.length → QB w' rb e all ao cap j' 0 0 → Calls Tryd.prog 30 #[.pointer (some ⟨rb, 0, none⟩), .int .i64 o'] w' (OutQ rb e all ao cap w' (exprT e f (all.drop j')))) (hm : mustT e lpar (all.drop j) = .ok (u, r1)) : Calls Tryd.prog 30 #[.pointer (some ⟨rb, 0, none⟩), .int .i64 o] w (OutQ rb e all ao cap w (exprT e (f + 1) (all.drop j))) := by
  have ho : ¬ 30 < o := by omega
  have hwr : IntKind.i64.wrap (o + 1) = o + 1 := by rw [IntKind.wrap_i64]; omega
  obtain ⟨hr1, hj1⟩ := must_short hm
  obtain ⟨K, hK⟩ : ∃ K, K = kindR wordL r1 := ⟨_, rfl⟩
  have hK21 : K ≤ 21 := by rw [hK]; exact kindR_le wordL r1
  obtain ⟨G, hG⟩ : ∃ G, G = exprT e (f + 1) (all.drop j) := ⟨_, rfl⟩
  rw [← hG]
  have hGt : G = andThen (headT e r1) fun h r => andThen (manyT (exprT e f) (partsI h.1).toNat [] r) fun l r => andThen (mustT e rpar r) fun _ r => .ok (⟨h.1, h.2.1, h.2.2, l⟩, r) := by rw [hG, exprT, hm]; rfl
  have HB := hid (XS.begin h)
  have HW := hid (rmust_ok (XS.begin h).qb hl lpar (fine_mark hF).1 hm)
  have HF := hid hF
  have HI := hid (fun (k : Nat) (h1 : 1 ≤ k) (h2 : k ≤ 21) (wr : World) (hq : QB wr rb e all ao cap ((j + 1 : Nat) : Int) 0 0) => ris_any hq (by omega) (nameIn wordL (k : Int)) (fine_word hF wordL_full k h1 h2))
  rw [hr1] at HI
  have HG := hid (And.intro hGt (And.intro hK hr1))
  clear h hG hm hF hGt hK hr1
  go_enter Tryd.func30, Tryd.ntmps30
  go_wp2_with (go_at_call 29; refine HW.out.mono ?_; rintro e' w1 ⟨rfl, h2, q2⟩; have HX1 := hid (HB.out.step q2 h2); clear h2 q2)
  clear HB HW
  go_loopw [6] (fun n wr => ∃ k : Nat, n = .int .i64 k ∧ 1 ≤ k ∧ k ≤ 22 ∧ Hid (XS w rb e all ao cap (soFar K k) 0 0 ((j + 1 : Nat) : Int) 0 0 wr)) (fun n _ => 23 - (intOf n).toNat)
  case atStart => exact ⟨1, rfl, Nat.le_refl _, by omega, (show soFar K 1 = 0 by unfold soFar; split <;> omega) ▸ HX1⟩
  case round =>
    obtain ⟨k, rfl, hk1, hk2, HX⟩ := hrel
    clear HX1
    obtain ⟨⟨x0, x1, x2, x3⟩, xf⟩ := HX.out.cells
    obtain ⟨⟨r0, r1', r2, r3⟩, rf⟩ := HX.out.res
    have hlx := lt_of_block HX.out.x0
    by_cases hk : k = 22
    · subst hk
      have hs : soFar K 22 = (K : Int) := if_pos (by omega)
      rw [hs] at x0 HX
      by_cases hK0 : K = 0
      · have hbad : kindR wordL r1 = 0 := by rw [← HG.out.2.1]; exact hK0
        have hx : G = .error (wrongT 5 e r1) := by rw [HG.out.1, headT, kindR_bad hbad]; rfl
        subst hK0
        have HWr := hid (rwrong_any HX.out.qb hl (by omega) 5)
        rw [HG.out.2.2] at HWr
        subst hx
        go_wp2_with (go_at_call 45; refine HWr.out.mono ?_; rintro e' w3 ⟨rfl, h3, q3⟩; have HX3 := hid (HX.out.step q3 h3); obtain ⟨⟨y0, y1, y2, y3⟩, yf⟩ := HX3.out.cells; obtain ⟨⟨s0, s1, s2, s3⟩, sf⟩ := HX3.out.res; clear h3 q3)
        refine bodyPost_ret (v := .agg #[.int .i64 0, .int .i64 0, .int .i64 0, .slice none 0 0]) (by simp [results, Tryd.results30, go_sem, s0, s1, s2, s3]) rfl ?_
        exact ⟨zeroV, none, 0, _, rfl, HX3.out.told _ _ _ _⟩
      · have hK1 : ((K : Int) == 0) = false := by simpa using hK0
        obtain ⟨q0, q1, q2, q3, q4⟩ := box5 HX.out.qb.box
        have qf := box_free HX.out.qb.box
        have hj2 : j + 2 ≤ all.length := by
          have h5 : kindR wordL (all.drop (j + 1)) ≠ 0 := by rw [HG.out.2.2, ← HG.out.2.1]; exact hK0
          have := kindR_lt h5; omega
        obtain ⟨kd, hkd⟩ : ∃ kd : Int, kd = (K : Int) := ⟨_, rfl⟩
        rw [← hkd] at x0 HX hK1
        have HXN := hid (HX.out.next2 ((j + 2 : Nat) : Int) ((j : Int) + 1 + 1) (by omega))
        have HKD := hid hkd
        clear hkd
        go_upto_block 2 with fail
        go_cut [] (fun wx => Hid (Tailed w rb e all ao cap kd (all.drop (j + 2)) wx))
        case first =>
          obtain ⟨wn, hwn⟩ : ∃ wn, wn = wr.setCell ⟨rb, 2, none⟩ (.int .i64 ((j : Int) + 1 + 1)) := ⟨_, rfl⟩
          rw [← hwn] at HXN ⊢
          rw [show ((22 : Nat) : Int) = (22 : Int) from rfl]
          clear hwn x0 x1 x2 x3 xf r0 r1' r2 r3 rf hlx q0 q1 q2 q3 q4 qf HX
          obtain ⟨⟨x0, x1, x2, x3⟩, xf⟩ := HXN.out.cells
          rcases kinds4 kd with rfl | hk | rfl | hk
          · cases hn : numT e (all.drop (j + 2)) with
            | ok y =>
              obtain ⟨t, r3⟩ := y
              have HT := hid (rnumber_ok HXN.out.qb hl hn)
              have HS := hid (And.intro (num_short hn) (show tailT e 2 (all.drop (j + 2)) = .ok ((0, t.n), r3) by rw [tailT, if_pos rfl, hn]; rfl))
              clear hn
              go_wp2_with (go_at_call 46; refine HT.out.mono ?_; rintro e' w2 ⟨rfl, h2, q2⟩; have HX2 := hid (HXN.out.step q2 h2); obtain ⟨⟨y0, y1, y2, y3⟩, yf⟩ := HX2.out.cells; clear h2 q2)
              go_meet
              exact .inl ⟨0, t.n, r3, j + 2 + 1, HS.out.2, by have := HS.out.1.2.2.2; omega, HS.out.1.2.2.1, HX2.out.turn (by simp)⟩
            | error x =>
              have HT := hid (rnumber_bad HXN.out.qb hl hj2 hn)
              have HS := hid (show tailT e 2 (all.drop (j + 2)) = .error x by rw [tailT, if_pos rfl, hn]; rfl)
              clear hn
              go_wp2_with (go_at_call 46; refine HT.out.mono ?_; rintro e' w2 ⟨rfl, h2, q2⟩; have HX2 := hid (HXN.out.step q2 h2); obtain ⟨⟨y0, y1, y2, y3⟩, yf⟩ := HX2.out.cells; clear h2 q2)
              go_meet
              exact .inr ⟨x, 0, 0, _, HS.out, HX2.out.turn (by simp)⟩
          · cases hn : smallT e (all.drop (j + 2)) with
            | ok y =>
              obtain ⟨k5, r3⟩ := y
              have HT := hid (rfew_ok HXN.out.qb hl hn)
              obtain ⟨t5, h51, h52, rfl, _, _⟩ := small_ok hn
              have HS := hid (And.intro (num_short (e := e) (t := t5) (r := r3) (by rw [h51]; simp [numT, nextT, andThen, h52])) (show tailT e kd (all.drop (j + 2)) = .ok ((t5.n, 0), r3) by rw [tailT, if_neg (by omega), if_pos hk, hn]; rfl))
              clear hn h51 h52
              rcases hk with rfl | rfl | rfl
              all_goals
                go_wp2_with (go_at_call 47; refine HT.out.mono ?_; rintro e' w2 ⟨rfl, h2, q2⟩; have HX2 := hid (HXN.out.step q2 h2); obtain ⟨⟨y0, y1, y2, y3⟩, yf⟩ := HX2.out.cells; clear h2 q2)
                go_meet
                exact .inl ⟨t5.n, 0, r3, j + 2 + 1, HS.out.2, by have := HS.out.1.2.2.2; omega, HS.out.1.2.2.1, HX2.out.turn (by simp)⟩
            | error x =>
              have HT := hid (rfew_bad HXN.out.qb hl hj2 hn)
              have HS := hid (show tailT e kd (all.drop (j + 2)) = .error x by rw [tailT, if_neg (by omega), if_pos hk, hn]; rfl)
              clear hn
              rcases hk with rfl | rfl | rfl
              all_goals
                go_wp2_with (go_at_call 47; refine HT.out.mono ?_; rintro e' w2 ⟨rfl, h2, q2⟩; have HX2 := hid (HXN.out.step q2 h2); obtain ⟨⟨y0, y1, y2, y3⟩, yf⟩ := HX2.out.cells; clear h2 q2)
                go_meet
                exact .inr ⟨x, 0, 0, _, HS.out, HX2.out.turn (by simp)⟩
          · obtain ⟨KB, hKB⟩ : ∃ KB, KB = kindR binL (all.drop (j + 2)) := ⟨_, rfl⟩
            have hKB5 : KB ≤ 5 := by rw [hKB]; exact kindR_le binL _
            have HI6 := hid (fun (k : Nat) (h1 : 1 ≤ k) (h2 : k ≤ 5) (wr : World) (hq : QB wr rb e all ao cap ((j + 2 : Nat) : Int) 0 0) => ris_any hq hj2 (nameIn binL (k : Int)) (fine_word HF.out binL_full k h1 h2))
            have HKB := hid hKB
            clear hKB
            go_wp2_with fail
            go_loopw [7] (fun n w5 => ∃ k : Nat, n = .int .i64 k ∧ 1 ≤ k ∧ k ≤ 6 ∧ Hid (XS w rb e all ao cap 6 (soFar KB k) 0 ((j + 2 : Nat) : Int) 0 0 w5)) (fun n _ => 7 - (intOf n).toNat)
            case atStart => exact ⟨1, rfl, Nat.le_refl _, by omega, (show soFar KB 1 = 0 by unfold soFar; split <;> omega) ▸ HXN⟩
            case round =>
              rename World => wq
              obtain ⟨k, rfl, hk1, hk2, HX⟩ := hrel
              clear HXN x0 x1 x2 x3 xf
              obtain ⟨⟨x0, x1, x2, x3⟩, xf⟩ := HX.out.cells
              by_cases hk : k = 6
              · subst hk
                have hs : soFar KB 6 = (KB : Int) := if_pos (by omega)
                rw [hs] at x1 HX
                obtain ⟨q0, q1, q2, q3, q4⟩ := box5 HX.out.qb.box
                have qf := box_free HX.out.qb.box
                by_cases hK0 : KB = 0
                · have hbad : kindR binL (all.drop (j + 2)) = 0 := by rw [← HKB.out]; exact hK0
                  have HS := hid (show tailT e 6 (all.drop (j + 2)) = .error (wrongT 5 e (all.drop (j + 2))) by rw [tailT, if_neg (by decide), if_neg (by decide), if_pos rfl, kindR_bad hbad]; rfl)
                  subst hK0
                  have HWr := hid (rwrong_any HX.out.qb hl hj2 5)
                  clear hbad
                  go_wp2_with (go_at_call 45; refine HWr.out.mono ?_; rintro e' w3 ⟨rfl, h3, q3⟩; have HX3 := hid (HX.out.step q3 h3); have m2 := (box5 HX3.out.qb.box).2.2.1; have mf := box_free HX3.out.qb.box; clear h3 q3)
                  go_meet
                  exact .inr ⟨_, 0, 0, _, HS.out, HX3.out.next2 _ _ rfl⟩
                · have hK1 : ((KB : Int) == 0) = false := by simpa using hK0
                  have hne : kindR binL (all.drop (j + 2)) ≠ 0 := by rw [← HKB.out]; exact hK0
                  have hj3 := kindR_lt hne
                  have HS := hid (show tailT e 6 (all.drop (j + 2)) = .ok (((KB : Int), 0), all.drop (j + 2 + 1)) by rw [tailT, if_neg (by decide), if_neg (by decide), if_pos rfl, kindR_ok hne, ← HKB.out, List.drop_drop]; rfl)
                  clear hne
                  go_wp2_with fail
                  go_meet
                  exact .inl ⟨(KB : Int), 0, _, j + 2 + 1, HS.out, by omega, rfl, HX.out.next2 _ _ (by omega)⟩
              · have hk' : (k : Int) ≤ 5 := by omega
                have HI2 := hid (HI6.out k hk1 (by omega))
                rw [isT_kind binL_nodup _ k hk1 (by rw [binL_len]; omega)] at HI2
                rw [← HKB.out] at HI2
                by_cases hkK : KB = k
                · have hdec : decide (KB = k) = true := decide_eq_true hkK
                  rw [hdec] at HI2
                  clear hdec
                  have HKK := hid hkK
                  clear hkK
                  go_wp2_with (first
                    | (go_at_call 44; refine (HI2.out _ (HX.out.qb.quiet q3)).mono ?_; rintro e' w4 ⟨rfl, q4⟩; have HX4 := hid (HX.out.quiet (q3.trans q4)); obtain ⟨⟨y0, y1, y2, y3⟩, yf⟩ := HX4.out.cells)
                    | (go_at_call 17; refine (binOf_any (k : Int) _).mono ?_; rintro e' w3 ⟨rfl, q3⟩))
                  refine ⟨⟨k + 1, by go_num, by omega, by omega, ?_⟩, by simp [intOf]; omega⟩
                  have h5 : soFar KB (k + 1) = (k : Int) := by rw [HKK.out]; exact soFar_at k
                  rw [h5]
                  exact HX4.out.turn (by simp)
                · have hdec : decide (KB = k) = false := decide_eq_false hkK
                  rw [hdec] at HI2
                  clear hdec
                  have HKK := hid hkK
                  clear hkK
                  go_wp2_with (first
                    | (go_at_call 44; refine (HI2.out _ (HX.out.qb.quiet q3)).mono ?_; rintro e' w4 ⟨rfl, q4⟩; have HX4 := hid (HX.out.quiet (q3.trans q4)))
                    | (go_at_call 17; refine (binOf_any (k : Int) _).mono ?_; rintro e' w3 ⟨rfl, q3⟩))
                  exact ⟨⟨k + 1, by go_num, by omega, by omega, by rw [soFar_not HKK.out]; exact HX4⟩, by simp [intOf]; omega⟩
          · have HS := hid (show tailT e kd (all.drop (j + 2)) = .ok ((0, 0), all.drop (j + 2)) by rw [tailT, if_neg (by omega), if_neg (by omega), if_neg (by omega)])
            obtain ⟨a1, a2, a3, a4, a5⟩ := hk
            have b1 : (kd == 2) = false := by simpa using a1
            have b2 : (kd == 4) = false := by simpa using a2
            have b3 : (kd == 18) = false := by simpa using a3
            have b4 : (kd == 15) = false := by simpa using a4
            have b5 : (kd == 6) = false := by simpa using a5
            go_wp2_with fail
            go_meet
            exact .inl ⟨0, 0, _, j + 2, HS.out, hj2, rfl, HXN.out⟩
        case rest =>
          rw [show ((22 : Nat) : Int) = (22 : Int) from rfl]
          have hkd21 : 1 ≤ kd ∧ kd ≤ 21 := by have := HKD.out; omega
          obtain ⟨n, hn⟩ : ∃ n : Nat, partsI kd = (n : Int) := ⟨(partsI kd).toNat, by have := parts_nat hkd21; omega⟩
          have hn3 : n ≤ 3 := by have := parts_le kd; omega
          obtain ⟨W, hW⟩ : ∃ W, W = w.alloc (.cells #[.int .i64 0, .int .i64 0, .int .i64 0, .slice none 0 0] 53) := ⟨_, rfl⟩
          have hsz : W.heap.size = w.heap.size + 1 := by rw [hW]; simp
          have hrw : rb < w.heap.size := HX.out.lt
          have hone : oneT wordL e r1 = .ok (kd, all.drop (j + 2)) := by
            have h5 : kindR wordL r1 ≠ 0 := by rw [← HG.out.2.1]; exact hK0
            rw [kindR_ok h5, ← HG.out.2.1, ← HKD.out, ← HG.out.2.2, List.drop_drop]
          have hF1 : Fine r1 := by rw [← HG.out.2.2]; intro t ht; exact HF.out t (List.mem_of_mem_drop ht)
          obtain ⟨kk, kn, HS0⟩ : ∃ kk kn : Int, Hid (LS W rb e all ao cap kd kk kn f n G 0 wc) := by
            rcases hcut.out with ⟨kk, kn, r3, j3, h1, h2, h3, h4⟩ | ⟨x, kk, kn, z, h1, h4⟩
            · have hh : headT e r1 = .ok ((kd, kk, kn), r3) := by rw [headT, hone]; simp only [andThen]; rw [h1]
              obtain ⟨_, f1, f2, _⟩ := head_fits hF1 hh
              refine ⟨kk, kn, .inl ⟨manyT (exprT e f) n [] r3, [], j3, none, 0, 0, [], ⟨by rw [hsz]; exact h4.x0, Row.nil _ _ _ _ (h4.krW hW) (by rw [hsz]; exact lt_of_block h4.x0), h4.qb, h2, by rw [Nat.sub_zero, h3], rfl⟩, ?_, f1, f2⟩⟩
              rw [HG.out.1, hh]; simp only [andThen]; rw [hn, Int.toNat_natCast]
            · have hh : headT e r1 = .error x := by rw [headT, hone]; simp only [andThen]; rw [h1]
              refine ⟨kk, kn, .inr ⟨x, z, none, 0, 0, ?_, ?_, ⟨by rw [hsz]; exact h4.x0, h4.qb, h4.krW hW⟩⟩⟩
              · rw [HG.out.1, hh]; rfl
              · have := head_told e r1 x hh; omega
          have HMK := hid (fine_mark HF.out).2.1
          have HWW := hid (And.intro hW (And.intro hsz hkd21))
          have hxlt : rb < W.heap.size := by omega
          clear hcut hone hF1 HXN HX HI HG hW hsz hkd21 x0 x1 x2 x3 xf r0 r1' r2 r3 rf hlx q0 q1 q2 q3 q4 qf hK1 HKD HF hj2 hs
          obtain ⟨i0, hi0, hz0, hz1, hz2⟩ := info_parts Tryd.infoV
          go_wp2_with fail
          go_loopw [8] (fun i wq => ∃ i' : Nat, i = .int .i64 i' ∧ i' ≤ n ∧ Hid (LS W rb e all ao cap kd kk kn f n G i' wq)) (fun i _ => n - (intOf i).toNat)
          case atStart => exact ⟨0, rfl, Nat.zero_le _, HS0⟩
          case round =>
            rename World => wq
            clear HS0
            obtain ⟨i, rfl, hi, HS⟩ := hrel
            rcases HS.out with ⟨tot, acc, j3, av, m, cv, ps, hE, hGt, hk1, hk2⟩ | ⟨x, z, av, m, cv, hGx, hx0, hE⟩
            · have HE := hid hE
              have hbx := hE.box
              rw [HWW.out.2.1] at hbx
              obtain ⟨c0, c1, c2, c3⟩ := box4 hbx
              have hszr : W.heap.size + 1 ≤ wq.heap.size := hE.row.sz
              have hszq : w.heap.size + 1 + 1 ≤ wq.heap.size := by have := HWW.out.2.1; omega
              clear hE hbx HS
              by_cases hlt3 : i < n
              · have HC := hid (ih (o + 1) j3 wq.drew ho1 (by omega) HE.out.le (HE.out.qb.quiet (Kp.drew _)))
                have HR := hid HE.out.row.row
                have hm3 : m ≤ 3 := by have := HE.out.row.lens; have := HE.out.long; omega
                have HOK := hid (rok_yes HE.out.qb)
                cases hx : exprT e f (all.drop j3) with
                | error x =>
                  have hGx : G = .error x := by
                    have h0 := HE.out.tot
                    rw [many_next _ n i hlt3, hx] at h0
                    rw [hGt, ← h0]; rfl
                  have HGX := hid (And.intro hGx (show x.1 ≠ 0 by have := expr_told e f _ x hx; omega))
                  rw [hx] at HC
                  clear hx hGx hGt hk1 hk2
                  go_wp2_with (first
                    | (go_at_call 48; refine (partsOf_any kd _).mono ?_; rintro e' w9 ⟨rfl, h9⟩; replace h9 := h9.symm; subst h9; rw [hn])
                    | (go_at_call 28; refine HOK.out.mono ?_; rintro e' w9 ⟨rfl, h9⟩; replace h9 := h9.symm; subst h9))
                  go_region_law ((first
                    | (refine step_append_lies _ (by rfl) _ _ _ (by rfl) (W.heap.size + 1) 53 i0 _ 4 48 Tryd.undV hi0 hz0 hz1 hz2 rfl (by omega) (.slice av m cv) m (tris ps) (by rfl) hr3 ⟨w3.heap.size, 0, none⟩ 1 1 (tri (v, xa, xc)) (by rfl) (by rfl) (news_at w3 _ 53) (tri_one _) (by omega) (by unfold maxLen; omega) (by omega) (by simp; omega) (w3.heap.size + 1) (by simp) ?_; intro gg cap2 w1 hown1 hgrow hat hlt1; have hD := HE.out.junk (av' := some ⟨gg, 0, none⟩) (m' := m + 1) (cv' := cap2) hxlt q3 h3 hgrow; rw [HWW.out.2.1] at hD; have e1 := hD.2.1; have e2 := hD.2.2; have HD := hid hD.1; clear hown1 hgrow hat hlt1 hD)
                    | (go_simp; go_at_call 30; refine HC.out.mono ?_; rintro e' w3 ⟨v, xa, xc, z, rfl, h3, q3⟩; have u3 : w3.cell? ⟨w.heap.size + 1, 3, none⟩ = some (.slice av m cv) := q3.cell c3 (show ¬ w.heap.size + 1 = rb by omega); have u4 : (w3.alloc (.cells #[.int .i64 v.kind, .int .i64 v.k, .int .i64 v.n, .slice xa v.l.length xc] 53)).cell? ⟨w.heap.size + 1, 3, none⟩ = some (.slice av m cv) := (Kp.alloc (F := fun _ => False) _ _).cell u3 (fun e => e); have hr3 := (q3.row (HR.out.drew) (fun k e1 e2 => (by have := (HR.out.lt k e1).1; omega))).alloc (.cells #[.int .i64 v.kind, .int .i64 v.k, .int .i64 v.n, .slice xa v.l.length xc] 53); have z3 : W.heap.size + 1 ≤ w3.heap.size := Nat.le_trans hszr q3.size)))
                  all_goals
                    go_wp2_with fail
                    exact ⟨⟨i + 1, by go_num, by omega, .inr ⟨x, _, _, _, _, HGX.out.1, HGX.out.2, HD.out⟩⟩, by simp [intOf]; omega⟩
                | ok y =>
                  obtain ⟨v, r'⟩ := y
                  rw [hx] at HC
                  have HX2 := hid (And.intro hx (And.intro hGt (And.intro hk1 hk2)))
                  clear hx hGt hk1 hk2
                  go_wp2_with (first
                    | (go_at_call 48; refine (partsOf_any kd _).mono ?_; rintro e' w9 ⟨rfl, h9⟩; replace h9 := h9.symm; subst h9; rw [hn])
                    | (go_at_call 28; refine HOK.out.mono ?_; rintro e' w9 ⟨rfl, h9⟩; replace h9 := h9.symm; subst h9))
                  go_region_law ((first
                    | (refine step_append_lies _ (by rfl) _ _ _ (by rfl) (W.heap.size + 1) 53 i0 _ 4 48 Tryd.undV hi0 hz0 hz1 hz2 rfl (by omega) (.slice av m cv) m (tris ps) (by rfl) hr3 ⟨w3.heap.size, 0, none⟩ 1 1 (tri (v, xa, xc)) (by rfl) (by rfl) (news_at w3 _ 53) (tri_one _) (by omega) (by unfold maxLen; omega) (by omega) (by simp; omega) (w3.heap.size + 1) (by simp) ?_; intro gg cap2 w1 hown1 hgrow hat hlt1; have hD := HE.out.push hxlt hlt3 HX2.out.1 h4 q3 h3 s3 hown1 hgrow hat; rw [HWW.out.2.1] at hD; have e1 := hD.2.1; have e2 := hD.2.2; have HD := hid hD.1; clear hown1 hgrow hat hlt1 hD)
                    | (go_simp; go_at_call 30; refine HC.out.mono ?_; rintro e' w3 ⟨xa, xc, j4, rfl, h3, h4, s3, q3⟩; have u3 : w3.cell? ⟨w.heap.size + 1, 3, none⟩ = some (.slice av m cv) := q3.cell c3 (show ¬ w.heap.size + 1 = rb by omega); have u4 : (w3.alloc (.cells #[.int .i64 v.kind, .int .i64 v.k, .int .i64 v.n, .slice xa v.l.length xc] 53)).cell? ⟨w.heap.size + 1, 3, none⟩ = some (.slice av m cv) := (Kp.alloc (F := fun _ => False) _ _).cell u3 (fun e => e); have hr3 := (q3.row (HR.out.drew) (fun k e1 e2 => (by have := (HR.out.lt k e1).1; omega))).alloc (.cells #[.int .i64 v.kind, .int .i64 v.k, .int .i64 v.n, .slice xa v.l.length xc] 53); have z3 : W.heap.size + 1 ≤ w3.heap.size := Nat.le_trans hszr q3.size)))
                  all_goals
                    go_wp2_with fail
                    exact ⟨⟨i + 1, by go_num, by omega, .inl ⟨tot, _, _, _, _, _, _, HD.out, HX2.out.2.1, HX2.out.2.2.1, HX2.out.2.2.2⟩⟩, by simp [intOf]; omega⟩
              · obtain rfl : i = n := by omega
                have hT : G = andThen (mustT e rpar (all.drop j3)) fun _ r => .ok (⟨kd, kk, kn, acc⟩, r) := by
                  have h0 := HE.out.tot
                  rw [many_last] at h0
                  rw [hGt, ← h0]; rfl
                have hm := hid HE.out.row.lens
                have HB0 := hid (fun w3 (q : Kr rb wq w3) => (show w3.heap[w.heap.size]? = some (.cells #[.int .i64 0, .int .i64 0, .int .i64 0, .slice none 0 0] 53 (0, 0)) from box_kr hrw (by have h8 := HE.out.row.kr.trans q; rw [HWW.out.1] at h8; exact h8)))
                have HBX := hid (fun w3 (q : Kr rb wq w3) => (show w3.heap[w.heap.size + 1]? = some (.cells #[.int .i64 kd, .int .i64 kk, .int .i64 kn, .slice av m cv] 53 (0, 0)) from by have h8 := (q.block W.heap.size (by omega) (by omega)).trans HE.out.box; rw [HWW.out.2.1] at h8; exact h8))
                have HKW := hid (show Kr rb (w.alloc (.cells #[.int .i64 0, .int .i64 0, .int .i64 0, .slice none 0 0] 53)) W by rw [HWW.out.1]; exact Kp.refl _ _)
                have HFT := hid (show V.fits ⟨kd, kk, kn, acc⟩ from ⟨(show In64 kd by have := HWW.out.2.2; unfold In64; omega), hk1, hk2⟩)
                cases h5 : mustT e rpar (all.drop j3) with
                | error x =>
                  have hT2 : G = .error x := by rw [hT, h5]; rfl
                  have HM := hid (rmust_bad HE.out.qb hl HE.out.le rpar HMK.out h5)
                  clear hT h5 hGt hk1 hk2
                  subst hT2
                  go_wp2_with (first
                    | (go_at_call 48; refine (partsOf_any kd _).mono ?_; rintro e' w9 ⟨rfl, h9⟩; replace h9 := h9.symm; subst h9; rw [hn])
                    | (go_at_call 29; refine HM.out.mono ?_; rintro e' w3 ⟨rfl, s3, q3⟩; obtain ⟨x0, x1, x2, x3⟩ := box4 (HB0.out w3 q3); obtain ⟨y0, y1, y2, y3⟩ := box4 (HBX.out w3 q3); have hf0 := box_free (HB0.out w3 q3)))
                  refine bodyPost_ret (v := .agg #[.int .i64 kd, .int .i64 kk, .int .i64 kn, .slice av m cv]) (by simp [results, Tryd.results30, go_sem, x0, x1, x2, x3]) rfl ?_
                  refine ⟨⟨kd, kk, kn, acc⟩, av, cv, (j3 : Int), by rw [hm.out], ?_⟩
                  exact rtold hrw HKW.out (HE.out.row.kr.trans q3) s3 _ _ _ _
                | ok y =>
                  obtain ⟨u5, r5⟩ := y
                  have hT2 : G = .ok (⟨kd, kk, kn, acc⟩, r5) := by rw [hT, h5]; rfl
                  have HM := hid (rmust_ok HE.out.qb hl rpar HMK.out h5)
                  have HSH := hid (must_short h5)
                  clear hT h5 hGt hk1 hk2
                  subst hT2
                  go_wp2_with (first
                    | (go_at_call 48; refine (partsOf_any kd _).mono ?_; rintro e' w9 ⟨rfl, h9⟩; replace h9 := h9.symm; subst h9; rw [hn])
                    | (go_at_call 29; refine HM.out.mono ?_; rintro e' w3 ⟨rfl, s3, q3⟩; obtain ⟨x0, x1, x2, x3⟩ := box4 (HB0.out w3 q3); obtain ⟨y0, y1, y2, y3⟩ := box4 (HBX.out w3 q3); have hf0 := box_free (HB0.out w3 q3)))
                  refine bodyPost_ret (v := .agg #[.int .i64 kd, .int .i64 kk, .int .i64 kn, .slice av m cv]) (by simp [results, Tryd.results30, go_sem, x0, x1, x2, x3]) rfl ?_
                  have h9 := rtold hrw HKW.out (HE.out.row.kr.trans q3) s3 (.int .i64 kd) (.int .i64 kk) (.int .i64 kn) (.slice av m cv)
                  exact ⟨av, cv, j3 + 1, by rw [hm.out], rtold_hold HKW.out (HE.out.row.kp (by omega) q3) HFT.out _ _ _ _, ⟨HSH.out.2, HSH.out.1⟩, h9.1, h9.2⟩
            · have HE := hid hE
              have hbx := hE.box
              rw [HWW.out.2.1] at hbx
              obtain ⟨c0, c1, c2, c3⟩ := box4 hbx
              have hszr := lt_of_block hbx
              have HB0 := hid (fun w3 (q : Quiet wq w3) => (show w3.heap[w.heap.size]? = some (.cells #[.int .i64 0, .int .i64 0, .int .i64 0, .slice none 0 0] 53 (0, 0)) from box_kr hrw (by have h8 := HE.out.kr.trans (Quiet.kr q); rw [HWW.out.1] at h8; exact h8)))
              have HBX := hid (fun w3 (q : Quiet wq w3) => (show w3.heap[w.heap.size + 1]? = some (.cells #[.int .i64 kd, .int .i64 kk, .int .i64 kn, .slice av m cv] 53 (0, 0)) from (q.block _ (lt_of_block hbx) fun e => e).trans hbx))
              have HKW := hid (show Kr rb (w.alloc (.cells #[.int .i64 0, .int .i64 0, .int .i64 0, .slice none 0 0] 53)) W by rw [HWW.out.1]; exact Kp.refl _ _)
              have HNO := hid (rok_no HE.out.qb hx0)
              have HM := hid (rmust_not HE.out.qb hx0 ⟨rpar.toArray⟩)
              clear hE hbx HS hx0
              subst hGx
              by_cases hlt3 : i < n
              · have hlt4 : (i : Int) < (n : Int) := by omega
                go_wp2_with (first
                  | (go_at_call 48; refine (partsOf_any kd _).mono ?_; rintro e' w9 ⟨rfl, h9⟩; replace h9 := h9.symm; subst h9; rw [hn])
                  | (go_at_call 28; refine HNO.out.mono ?_; rintro e' w9 ⟨rfl, h9⟩; replace h9 := h9.symm; subst h9)
                  | (go_at_call 29; refine HM.out.mono ?_; rintro e' w3 ⟨rfl, q3⟩; obtain ⟨x0, x1, x2, x3⟩ := box4 (HB0.out w3 q3); obtain ⟨y0, y1, y2, y3⟩ := box4 (HBX.out w3 q3); have hf0 := box_free (HB0.out w3 q3)))
                refine bodyPost_ret (v := .agg #[.int .i64 kd, .int .i64 kk, .int .i64 kn, .slice av m cv]) (by simp [results, Tryd.results30, go_sem, x0, x1, x2, x3]) rfl ?_
                refine ⟨⟨kd, kk, kn, List.replicate m zeroV⟩, av, cv, z, by rw [List.length_replicate], ?_⟩
                exact rtold hrw HKW.out (HE.out.kr.trans (Quiet.kr q3)) (HE.out.qb.quiet q3) _ _ _ _
              · have hlt4 : decide ((i : Int) < (n : Int)) = false := by simp; omega
                have hlt5 : ¬ (i : Int) < (n : Int) := by omega
                go_wp2_with (first
                  | (go_at_call 48; refine (partsOf_any kd _).mono ?_; rintro e' w9 ⟨rfl, h9⟩; replace h9 := h9.symm; subst h9; rw [hn])
                  | (go_at_call 29; refine HM.out.mono ?_; rintro e' w3 ⟨rfl, q3⟩; obtain ⟨x0, x1, x2, x3⟩ := box4 (HB0.out w3 q3); obtain ⟨y0, y1, y2, y3⟩ := box4 (HBX.out w3 q3); have hf0 := box_free (HB0.out w3 q3)))
                refine bodyPost_ret (v := .agg #[.int .i64 kd, .int .i64 kk, .int .i64 kn, .slice av m cv]) (by simp [results, Tryd.results30, go_sem, x0, x1, x2, x3]) rfl ?_
                refine ⟨⟨kd, kk, kn, List.replicate m zeroV⟩, av, cv, z, by rw [List.length_replicate], ?_⟩
                exact rtold hrw HKW.out (HE.out.kr.trans (Quiet.kr q3)) (HE.out.qb.quiet q3) _ _ _ _
    · have hk' : (k : Int) ≤ 21 := by omega
      have HI2 := hid (HI.out k hk1 (by omega))
      rw [isT_kind wordL_nodup r1 k hk1 (by rw [wordL_len]; omega)] at HI2
      rw [← HG.out.2.1] at HI2
      by_cases hkK : K = k
      · have hdec : decide (K = k) = true := decide_eq_true hkK
        rw [hdec] at HI2
        clear hdec
        have HKK := hid hkK
        clear hkK
        go_wp2_with (first
          | (go_at_call 44; refine (HI2.out _ (HX.out.qb.quiet q3)).mono ?_; rintro e' w4 ⟨rfl, q4⟩; have HX4 := hid (HX.out.quiet (q3.trans q4)); obtain ⟨⟨y0, y1, y2, y3⟩, yf⟩ := HX4.out.cells)
          | (go_at_call 15; refine (wordOf_any (k : Int) _).mono ?_; rintro e' w3 ⟨rfl, q3⟩))
        refine ⟨⟨k + 1, by go_num, by omega, by omega, ?_⟩, by simp [intOf]; omega⟩
        have h5 : soFar K (k + 1) = (k : Int) := by rw [HKK.out]; exact soFar_at k
        rw [h5]
        exact HX4.out.turn (by simp)
      · have hdec : decide (K = k) = false := decide_eq_false hkK
        rw [hdec] at HI2
        clear hdec
        have HKK := hid hkK
        clear hkK
        go_wp2_with (first
          | (go_at_call 44; refine (HI2.out _ (HX.out.qb.quiet q3)).mono ?_; rintro e' w4 ⟨rfl, q4⟩; have HX4 := hid (HX.out.quiet (q3.trans q4)))
          | (go_at_call 15; refine (wordOf_any (k : Int) _).mono ?_; rintro e' w3 ⟨rfl, q3⟩))
        exact ⟨⟨k + 1, by go_num, by omega, by omega, by rw [soFar_not HKK.out]; exact HX4⟩, by simp [intOf]; omega⟩
end Go.Proofs.YthogejofkodmkacDoor
