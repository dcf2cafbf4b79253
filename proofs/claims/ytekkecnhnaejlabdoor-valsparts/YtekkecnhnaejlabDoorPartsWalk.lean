/- The walk of the law ValsParts. -/
import Derived.Test.YtekkecnhnaejlabDoorBegun4
import Derived.Test.YtekkecnhnaejlabDoorRefText
namespace Go.Proofs.YtekkecnhnaejlabDoor
open Go.ChangeShapes Go.WideShapes Go.ChangeAt Go.RowKit
theorem caps_grow2 {w wr w2 w1 : World} {a b : List Int} {sv : Value} {g cap n m : Nat} (qr : Quiet w wr) (q2 : Quiet wr w2) (hr : wr.ownsRow w.heap.size 3 1 sv a.length (ints a)) (hn : n = a.length) (hm : m = b.length)
    (hr1 : w1.ownsRow w.heap.size 3 1 (.slice (some ⟨g, 0, none⟩) (n + m) cap) (n + m) (ints a ++ ints b)) (hg : w2.grownBy w1 sv.ownBlock) {x : Nat} {c : Array Value} (hb : wr.heap[x]? = some (.cells c 24 (0, 0))) :
    (w1.ownsRow w.heap.size 3 1 (.slice (some ⟨g, 0, none⟩) (n + m) cap) (a ++ b).length (ints (a ++ b)) ∧ Quiet w w1) ∧ w1.heap[x]? = some (.cells c 24 (0, 0)) := by
  refine ⟨caps_grow qr q2 hr hn hm hr1 hg, ?_⟩
  rw [hg.block x (by have := lt_of_block hb; have := q2.size; omega) (fun e => row_not hb hr e)]
  exact (q2.block x (lt_of_block hb) fun e => e).trans hb
/-- The state of the loop. -/
structure PS (w : World) (k n : Int) (l : List V) (ao : Option Addr) (cap : Nat) (j : Nat) (sv : Value) (wr : World) : Prop where
  row : wr.ownsRow w.heap.size 3 1 sv (capOf k n ++ capsIn (pres (l.take j))).length (ints (capOf k n ++ capsIn (pres (l.take j))))
  q : Quiet w wr
  box : wr.heap[w.heap.size]? = some (.cells #[.int .i64 k, .int .i64 n, .slice ao l.length cap] 24 (0, 0))
theorem parts_start {w w4 w5 : World} {n : Int} {l : List V} {ao : Option Addr} {cap g cap5 : Nat} (q : Quiet w w4) (b4 : w4.heap[w.heap.size]? = some (.cells #[.int .i64 4, .int .i64 n, .slice ao l.length cap] 24 (0, 0)))
    (hr : w5.ownsRow w.heap.size 3 1 (.slice (some ⟨g, 0, none⟩) (0 + 1) cap5) (0 + 1) ([] ++ [.int .i64 n])) (hg : (w4.alloc (.cells #[.int .i64 n] 3)).grownBy w5 (Value.slice none 0 0).ownBlock) :
    w5.ownsRow w.heap.size 3 1 (.slice (some ⟨g, 0, none⟩) (0 + 1) cap5) (capOf 4 n ++ capsIn []).length (ints (capOf 4 n ++ capsIn [])) ∧ Quiet w w5 ∧ w5.heap[w.heap.size]? = some (.cells #[.int .i64 4, .int .i64 n, .slice ao l.length cap] 24 (0, 0)) := by
  have q5 : Quiet w4 w5 := (Kp.alloc _ _).trans (quiet_none hg)
  exact ⟨by simpa [capOf, capsIn, ints] using hr, q.trans q5, (q5.block _ (lt_of_block b4) fun e => e).trans b4⟩
theorem own_nil {w : World} {B : Nat} {sv : Value} {l : List Int} (h : w.ownsRow B 3 1 sv l.length (ints l)) (hl : l = []) : ∃ a c, sv = .slice a 0 c := by
  subst hl
  obtain ⟨a, c, rfl⟩ := owns_shape h
  exact ⟨a, c, rfl⟩
set_option maxHeartbeats 4000000 in
theorem partsLaw (w : World) (v : V) (ao : Option Addr) (cap : Nat) (ht : Tab w) (hI : Is w v ao) :
    Calls Tryd.prog 5 #[.agg #[.int .i64 v.kind, .int .i64 v.n, .slice ao v.l.length cap]] w fun e w' => e = .returned (.bool true) ∧ Below w.heap.size w w' := by
  obtain ⟨i0, hi0, hz0, hz1, hz2⟩ := info_parts Tryd.infoI
  have q1 : Quiet w (w.alloc (.cells #[.int .i64 v.kind, .int .i64 v.n, .slice ao v.l.length cap] 24)) := Kp.alloc _ _
  have HB := hid (begun_any _ (ht.quiet q1))
  have HG : ∀ w2, Quiet w w2 → _ := fun w2 q2 => great_any v ao cap w2 (hI.quiet q2)
  have hbx := hid (heap_alloc_new w (.cells #[.int .i64 v.kind, .int .i64 v.n, .slice ao v.l.length cap] 24))
  by_cases hbig : 500 < v.size
  · have hd := hid (show decide (500 < v.size) = true by simpa using hbig)
    clear hbig
    go_enter Tryd.func5, Tryd.ntmps5
    go_wp2_with (first
      | (go_at_call 6; refine HB.out.mono ?_; rintro e w2 ⟨rfl, q2⟩; have q12 := q1.trans q2; obtain ⟨c0, c1, c2⟩ := box_cells ((q2.block _ (lt_of_block hbx.out) fun e => e).trans hbx.out))
      | (go_at_call 7; refine (HG _ q12).mono ?_; rintro e w3 ⟨rfl, q3⟩; rw [hd.out]))
    go_ret
    exact ⟨rfl, (q12.trans q3).low⟩
  · have hS : v.size ≤ 500 := by omega
    have hd := hid (show decide (500 < v.size) = false by simpa using hbig)
    have HC : ∀ w2, Quiet w w2 → _ := fun w2 q2 => check_any v ao cap w2 (hI.quiet q2) hS
    clear hbig
    by_cases hc : v.check = 0
    · have hc' := hid hc
      have HCP : ∀ w2, Quiet w w2 → _ := fun w2 q2 => caps_any v ao cap w2 (hI.quiet q2) hc
      have HGA : ∀ w2, Quiet w w2 → _ := fun w2 q2 => gates_any v ao cap w2 (hI.quiet q2) hc
      have hcaps := hid (show v.caps.length ≤ 1000 by have := caps_len v; omega)
      obtain ⟨k, n, l⟩ := v
      have hlen : l.length ≤ 500 := by have := sizes_len l; rw [size_mk] at hS; omega
      have hSl : sizes l ≤ 499 := by rw [size_mk] at hS; omega
      have hkid : ∀ j (h : j < l.length), l[j].check = 0 := fun j h => check_get (v := ⟨k, n, l⟩) hc j h
      have HI := hid (And.intro hI (And.intro hkid hS))
      have hE := hid (And.intro (caps_cons k n l) (gate_eq ⟨k, n, l⟩))
      have h1c : (capOf k n).length ≤ 1 := by unfold capOf; split <;> simp
      clear hc hI hkid hS
      by_cases hk4 : k = 4
      · subst hk4
        go_enter Tryd.func5, Tryd.ntmps5
        go_wp2_with (first
          | (go_at_call 6; refine HB.out.mono ?_; rintro e w2 ⟨rfl, q2⟩; have q12 := q1.trans q2; have b2 := (q2.block _ (lt_of_block hbx.out) fun e => e).trans hbx.out; obtain ⟨c0, c1, c2⟩ := box_cells b2)
          | (go_at_call 7; refine (HG _ q12).mono ?_; rintro e w3 ⟨rfl, q3⟩; rw [hd.out]; have q13 := q12.trans q3; have b3 := (q3.block _ (lt_of_block b2) fun e => e).trans b2; obtain ⟨d0, d1, d2⟩ := box_cells b3)
          | (go_at_call 9; refine (HC _ q13).mono ?_; rintro e w4 ⟨rfl, q4⟩; rw [hc'.out]; have q14 := q13.trans q4; have b4 := (q4.block _ (lt_of_block b3) fun e => e).trans b3; obtain ⟨e0, e1, e2⟩ := box_cells b4; clear c0 c1 c2 d0 d1 d2)
          | (at_builtin; refine wpList_append_lies _ rfl (.tmp 21) (.tmp 24) 31 rfl w.heap.size 3 i0 _ 1 8 Tryd.undI hi0 hz0 hz1 hz2 rfl (by decide) (.slice none 0 0) 0 [] rfl (World.ownsRow_nil _ _ _ _) ⟨w4.heap.size, 0, none⟩ 1 1 [.int .i64 n] rfl rfl (news_at w4 _ 3) (by simp [Value.oneCell']) (by decide) (by unfold maxLen; omega) (by omega) (by have := q14.size; simp; omega) _ rfl ?_; intro g5 cap5 w5 hr5 hg5 hat5 hlt5; have hP := hid (parts_start q14 b4 hr5 hg5); clear hr5 hg5 hat5 hlt5))
        go_loopg [3, 4, 5] l.length (fun gk sv gv i wr => ∃ j : Nat, gk = l.length - j ∧ j ≤ l.length ∧ i = .int .i64 j ∧ gv = .bool ((4 == 5) || gateIn (pres (l.take j))) ∧ PS w 4 n l ao cap j sv wr)
        case atStart =>
          refine ⟨0, rfl, Nat.zero_le _, rfl, by simp [pres_nil, gateIn], ?_⟩
          exact ⟨by rw [List.take_zero, pres_nil]; exact hP.out.1, hP.out.2.1, hP.out.2.2⟩
        case round =>
          obtain ⟨j, hgk, hj, rfl, rfl, P⟩ := hrel
          have HGK := hid (And.intro hgk P)
          have HQ := hid P.q
          have hal : (capOf 4 n ++ capsIn (pres (l.take j))).length ≤ 500 := by have := caps_lens (l.take j); have := sizes_take_le l j; rw [List.length_append]; omega
          clear hgk
          by_cases hlt : j < l.length
          · obtain ⟨b, off, rfl, d0, d1, ai, ci, d2, hi⟩ := HI.out.1.get3 j hlt
            simp only at d0 d1 d2
            have c2 := (box_cells P.box).2.2
            have HK := hid (HI.out.2.1 j hlt)
            have HS := hid (show l[j].size ≤ 500 from by have := size_get l j hlt; omega)
            have HN := hid (And.intro (caps_take l j hlt) (gate_take l j hlt))
            have hul : l[j].caps.length ≤ 500 := by have := caps_len l[j]; have := HS.out; omega
            have hrow := HGK.out.2.row
            have hbx9 := HGK.out.2.box
            generalize hu : l[j] = u at *
            have HIU := hid hi
            clear hu hi P
            generalize hacc : capOf 4 n ++ capsIn (pres (l.take j)) = acc at *
            have HACC := hid hacc
            clear hacc
            generalize hgb : ((4 == 5) || gateIn (pres (l.take j))) = gb at *
            have HGB := hid hgb
            clear hgb
            have hend : ∀ (sv' : Value) (wz : World), wz.ownsRow w.heap.size 3 1 sv' (acc ++ u.caps).length (ints (acc ++ u.caps)) → Quiet w wz → wz.heap[w.heap.size]? = some (.cells #[.int .i64 4, .int .i64 n, .slice (some ⟨b, off, none⟩) l.length cap] 24 (0, 0)) → PS w 4 n l (some ⟨b, off, none⟩) cap (j + 1) sv' wz := by
              intro sv' wz h1 h2 h3
              refine ⟨?_, h2, h3⟩
              rw [HN.out.1, ← List.append_assoc, HACC.out]; exact h1
            have hgend := hid (show ((4 == 5) || gateIn (pres (l.take (j + 1)))) = (gb || u.gate) by rw [HN.out.2, ← Bool.or_assoc, HGB.out])
            have HEND := hid hend
            have HR := hid hrow
            have HBX := hid hbx9
            clear hrow hbx9 hend
            have stepC : ∀ wz, Quiet w wz → wz.cell? ⟨b, off + j * 3, none⟩ = some (.int .i64 u.kind) ∧ wz.cell? ⟨b, off + j * 3 + 1, none⟩ = some (.int .i64 u.n) ∧ wz.cell? ⟨b, off + j * 3 + 2, none⟩ = some (.slice ai u.l.length ci) := fun wz qz => ⟨qz.cell d0 fun e => e, qz.cell d1 fun e => e, qz.cell d2 fun e => e⟩
            have HST := hid stepC
            obtain ⟨x3, x4, x5⟩ := stepC wr HQ.out
            clear stepC d0 d1 d2
            cases gb with
            | true =>
              by_cases hu0 : u.caps = []
              · have HU0 := hid hu0
                clear hu0
                rcases own_cases HR.out with ⟨hsv, h00⟩ | ⟨g9, cv9, hsv, hcv9⟩
                all_goals
                  subst hsv
                  go_wp2_with (first
                    | (go_at_call 9; refine (check_any u ai ci _ (HIU.out.quiet HQ.out) HS.out).mono ?_; rintro e w5 ⟨rfl, q5⟩; rw [HK.out]; have qw5 := HQ.out.trans q5; obtain ⟨s3, s4, s5⟩ := HST.out _ qw5; have b5 := (q5.block _ (lt_of_block HBX.out) fun e => e).trans HBX.out; have s2 := (box_cells b5).2.2)
                    | (go_at_call 15; refine (caps_any u ai ci _ (HIU.out.quiet qw5) HK.out).mono ?_; rintro e w6 ⟨sv6, rfl, r6, q6, n6⟩; have q56 := q5.trans q6; have qw6 := qw5.trans q6; obtain rfl := n6 HU0.out; clear r6 n6; obtain ⟨y3, y4, y5⟩ := HST.out _ qw6; have b6 := (q6.block _ (lt_of_block b5) fun e => e).trans b5; have y2 := (box_cells b6).2.2))
                  go_roundg (l.length - (j + 1))
                  case measure => have := HGK.out.1; omega
                  case rel => exact ⟨j + 1, rfl, by omega, by go_num, by rw [hgend.out]; rfl, HEND.out _ _ (by rw [HU0.out, List.append_nil]; exact (q56.row HR.out fun _ _ e => e)) qw6 b6⟩
              · have hpos : 0 < u.caps.length := by
                  rcases Nat.eq_zero_or_pos u.caps.length with e | e
                  · exact absurd (List.eq_nil_of_length_eq_zero e) hu0
                  · exact e
                clear hu0
                obtain ⟨av, cv, hsv⟩ := owns_shape HR.out
                subst hsv
                go_wp2_with (first
                  | (go_at_call 9; refine (check_any u ai ci _ (HIU.out.quiet HQ.out) HS.out).mono ?_; rintro e w5 ⟨rfl, q5⟩; rw [HK.out]; have qw5 := HQ.out.trans q5; obtain ⟨s3, s4, s5⟩ := HST.out _ qw5; have b5 := (q5.block _ (lt_of_block HBX.out) fun e => e).trans HBX.out; have s2 := (box_cells b5).2.2)
                  | (go_at_call 15; refine (caps_any u ai ci _ (HIU.out.quiet qw5) HK.out).mono ?_; rintro e w6 ⟨sv6, rfl, r6, q6, n6⟩; have q56 := q5.trans q6; obtain ⟨g6, cap6, hs6⟩ := lies_shape r6 hpos; subst hs6; clear n6)
                  | (at_builtin; refine wpList_append_lies _ rfl (.tmp 40) (.tmp 46) 31 rfl w.heap.size 3 i0 _ 1 8 Tryd.undI hi0 hz0 hz1 hz2 rfl (by decide) _ acc.length (ints acc) rfl (q56.row HR.out fun _ _ e => e) ⟨g6, 0, none⟩ u.caps.length cap6 (ints u.caps) rfl (by rw [ints_len, Nat.mul_one]) (r6.cells rfl) (ints_one _) hpos (by unfold maxLen; omega) (by omega) (by have := (HQ.out.trans q56).size; omega) _ rfl ?_; intro g7 cap7 w7 hr7 hg7 hat7 hlt7; have hD := hid (caps_grow2 HQ.out q56 HR.out rfl rfl hr7 hg7 HBX.out); have qw7 := hD.out.1.2; obtain ⟨y3, y4, y5⟩ := HST.out _ qw7; have y2 := (box_cells hD.out.2).2.2; clear hr7 hg7 hat7 hlt7))
                go_roundg (l.length - (j + 1))
                case measure => have := HGK.out.1; omega
                case rel => exact ⟨j + 1, rfl, by omega, by go_num, by rw [hgend.out]; rfl, HEND.out _ _ hD.out.1.1 qw7 hD.out.2⟩
            | false =>
              by_cases hu0 : u.caps = []
              · have HU0 := hid hu0
                clear hu0
                rcases own_cases HR.out with ⟨hsv, h00⟩ | ⟨g9, cv9, hsv, hcv9⟩
                all_goals
                  subst hsv
                  go_wp2_with (first
                    | (go_at_call 9; refine (check_any u ai ci _ (HIU.out.quiet HQ.out) HS.out).mono ?_; rintro e w5 ⟨rfl, q5⟩; rw [HK.out]; have qw5 := HQ.out.trans q5; obtain ⟨s3, s4, s5⟩ := HST.out _ qw5; have b5 := (q5.block _ (lt_of_block HBX.out) fun e => e).trans HBX.out; have s2 := (box_cells b5).2.2)
                    | (go_at_call 15; refine (caps_any u ai ci _ (HIU.out.quiet qw5) HK.out).mono ?_; rintro e w6 ⟨sv6, rfl, r6, q6, n6⟩; have q56 := q5.trans q6; have qw6 := qw5.trans q6; obtain rfl := n6 HU0.out; clear r6 n6; obtain ⟨y3, y4, y5⟩ := HST.out _ qw6; have b6 := (q6.block _ (lt_of_block b5) fun e => e).trans b5; have y2 := (box_cells b6).2.2)
                    | (go_at_call 17; refine (gates_any u ai ci _ (HIU.out.quiet qw6) HK.out).mono ?_; rintro e w8 ⟨rfl, q8⟩))
                  go_roundg (l.length - (j + 1))
                  case measure => have := HGK.out.1; omega
                  case rel => exact ⟨j + 1, rfl, by omega, by go_num, by rw [hgend.out]; simp, HEND.out _ _ (by rw [HU0.out, List.append_nil]; exact ((q56.trans q8).row HR.out fun _ _ e => e)) (qw6.trans q8) ((q8.block _ (lt_of_block b6) fun e => e).trans b6)⟩
              · have hpos : 0 < u.caps.length := by
                  rcases Nat.eq_zero_or_pos u.caps.length with e | e
                  · exact absurd (List.eq_nil_of_length_eq_zero e) hu0
                  · exact e
                clear hu0
                obtain ⟨av, cv, hsv⟩ := owns_shape HR.out
                subst hsv
                go_wp2_with (first
                  | (go_at_call 9; refine (check_any u ai ci _ (HIU.out.quiet HQ.out) HS.out).mono ?_; rintro e w5 ⟨rfl, q5⟩; rw [HK.out]; have qw5 := HQ.out.trans q5; obtain ⟨s3, s4, s5⟩ := HST.out _ qw5; have b5 := (q5.block _ (lt_of_block HBX.out) fun e => e).trans HBX.out; have s2 := (box_cells b5).2.2)
                  | (go_at_call 15; refine (caps_any u ai ci _ (HIU.out.quiet qw5) HK.out).mono ?_; rintro e w6 ⟨sv6, rfl, r6, q6, n6⟩; have q56 := q5.trans q6; obtain ⟨g6, cap6, hs6⟩ := lies_shape r6 hpos; subst hs6; clear n6)
                  | (at_builtin; refine wpList_append_lies _ rfl (.tmp 40) (.tmp 46) 31 rfl w.heap.size 3 i0 _ 1 8 Tryd.undI hi0 hz0 hz1 hz2 rfl (by decide) _ acc.length (ints acc) rfl (q56.row HR.out fun _ _ e => e) ⟨g6, 0, none⟩ u.caps.length cap6 (ints u.caps) rfl (by rw [ints_len, Nat.mul_one]) (r6.cells rfl) (ints_one _) hpos (by unfold maxLen; omega) (by omega) (by have := (HQ.out.trans q56).size; omega) _ rfl ?_; intro g7 cap7 w7 hr7 hg7 hat7 hlt7; have hD := hid (caps_grow2 HQ.out q56 HR.out rfl rfl hr7 hg7 HBX.out); have qw7 := hD.out.1.2; obtain ⟨y3, y4, y5⟩ := HST.out _ qw7; have y2 := (box_cells hD.out.2).2.2; clear hr7 hg7 hat7 hlt7)
                  | (go_at_call 17; refine (gates_any u ai ci _ (HIU.out.quiet qw7) HK.out).mono ?_; rintro e w8 ⟨rfl, q8⟩))
                go_roundg (l.length - (j + 1))
                case measure => have := HGK.out.1; omega
                case rel => exact ⟨j + 1, rfl, by omega, by go_num, by rw [hgend.out]; simp, HEND.out _ _ (q8.row hD.out.1.1 fun _ _ e => e) (qw7.trans q8) ((q8.block _ (lt_of_block hD.out.2) fun e => e).trans hD.out.2)⟩
          · have hjl : l.take j = l := List.take_of_length_le (by omega)
            have c0 := box_cells P.box
            obtain ⟨c0, c1, c2⟩ := c0
            have hrow := P.row
            rw [hjl, ← hE.out.1] at hrow
            have hgv := hid (show ((4 == 5) || gateIn (pres (l.take j))) = (V.mk 4 n l).gate by rw [hjl]; exact hE.out.2.symm)
            rw [hgv.out]
            obtain ⟨av, cv, hsv⟩ := owns_shape hrow
            subst hsv
            have HR := hid hrow
            clear hrow P hal hjl hgv
            go_wp2_with (first
              | (go_at_call 15; refine (HCP _ HQ.out).mono ?_; rintro e w5 ⟨sv5, rfl, r5, q5, n5⟩; obtain ⟨av5, cv5, hs5⟩ := owns_shape r5; subst hs5; have R5 := hid r5; have b5 := (q5.block _ (lt_of_block HGK.out.2.box) fun e => e).trans HGK.out.2.box; obtain ⟨s0, s1, s2⟩ := box_cells b5; clear r5 n5)
              | (go_at_call 14; refine (sameInts_any _ _ _ _ _ _ _ _ (q5.row HR.out fun _ _ e => e) R5.out (by have := hcaps.out; omega)).mono ?_; rintro e w6 ⟨rfl, q6⟩; have b6 := (q6.block _ (lt_of_block b5) fun e => e).trans b5; obtain ⟨y0, y1, y2⟩ := box_cells b6)
              | (go_at_call 17; refine (HGA _ (HQ.out.trans (q5.trans q6))).mono ?_; rintro e w7 ⟨rfl, q7⟩))
            go_ret
            exact ⟨by simp, (HQ.out.trans ((q5.trans q6).trans q7)).low⟩
      · have hkb : (k == 4) = false := by simpa using hk4
        go_enter Tryd.func5, Tryd.ntmps5
        go_wp2_with (first
          | (go_at_call 6; refine HB.out.mono ?_; rintro e w2 ⟨rfl, q2⟩; have q12 := q1.trans q2; have b2 := (q2.block _ (lt_of_block hbx.out) fun e => e).trans hbx.out; obtain ⟨c0, c1, c2⟩ := box_cells b2)
          | (go_at_call 7; refine (HG _ q12).mono ?_; rintro e w3 ⟨rfl, q3⟩; rw [hd.out]; have q13 := q12.trans q3; have b3 := (q3.block _ (lt_of_block b2) fun e => e).trans b2; obtain ⟨d0, d1, d2⟩ := box_cells b3)
          | (go_at_call 9; refine (HC _ q13).mono ?_; rintro e w4 ⟨rfl, q4⟩; rw [hc'.out]; have q14 := q13.trans q4; have b4 := (q4.block _ (lt_of_block b3) fun e => e).trans b3; obtain ⟨e0, e1, e2⟩ := box_cells b4; clear c0 c1 c2 d0 d1 d2))
        go_loopg [3, 4, 5] l.length (fun gk sv gv i wr => ∃ j : Nat, gk = l.length - j ∧ j ≤ l.length ∧ i = .int .i64 j ∧ gv = .bool ((k == 5) || gateIn (pres (l.take j))) ∧ PS w k n l ao cap j sv wr)
        case atStart =>
          refine ⟨0, rfl, Nat.zero_le _, rfl, by simp [pres_nil, gateIn], ?_⟩
          exact ⟨by rw [List.take_zero, pres_nil, show capOf k n = [] from by simp [capOf, hk4]]; exact World.ownsRow_nil _ _ _ _, q14, b4⟩
        case round =>
          obtain ⟨j, hgk, hj, rfl, rfl, P⟩ := hrel
          have HGK := hid (And.intro hgk P)
          have HQ := hid P.q
          have hal : (capOf k n ++ capsIn (pres (l.take j))).length ≤ 500 := by have := caps_lens (l.take j); have := sizes_take_le l j; rw [List.length_append]; omega
          clear hgk
          by_cases hlt : j < l.length
          · obtain ⟨b, off, rfl, d0, d1, ai, ci, d2, hi⟩ := HI.out.1.get3 j hlt
            simp only at d0 d1 d2
            have c2 := (box_cells P.box).2.2
            have HK := hid (HI.out.2.1 j hlt)
            have HS := hid (show l[j].size ≤ 500 from by have := size_get l j hlt; omega)
            have HN := hid (And.intro (caps_take l j hlt) (gate_take l j hlt))
            have hul : l[j].caps.length ≤ 500 := by have := caps_len l[j]; have := HS.out; omega
            have hrow := HGK.out.2.row
            have hbx9 := HGK.out.2.box
            generalize hu : l[j] = u at *
            have HIU := hid hi
            clear hu hi P
            generalize hacc : capOf k n ++ capsIn (pres (l.take j)) = acc at *
            have HACC := hid hacc
            clear hacc
            generalize hgb : ((k == 5) || gateIn (pres (l.take j))) = gb at *
            have HGB := hid hgb
            clear hgb
            have hend : ∀ (sv' : Value) (wz : World), wz.ownsRow w.heap.size 3 1 sv' (acc ++ u.caps).length (ints (acc ++ u.caps)) → Quiet w wz → wz.heap[w.heap.size]? = some (.cells #[.int .i64 k, .int .i64 n, .slice (some ⟨b, off, none⟩) l.length cap] 24 (0, 0)) → PS w k n l (some ⟨b, off, none⟩) cap (j + 1) sv' wz := by
              intro sv' wz h1 h2 h3
              refine ⟨?_, h2, h3⟩
              rw [HN.out.1, ← List.append_assoc, HACC.out]; exact h1
            have hgend := hid (show ((k == 5) || gateIn (pres (l.take (j + 1)))) = (gb || u.gate) by rw [HN.out.2, ← Bool.or_assoc, HGB.out])
            have HEND := hid hend
            have HR := hid hrow
            have HBX := hid hbx9
            clear hrow hbx9 hend
            have stepC : ∀ wz, Quiet w wz → wz.cell? ⟨b, off + j * 3, none⟩ = some (.int .i64 u.kind) ∧ wz.cell? ⟨b, off + j * 3 + 1, none⟩ = some (.int .i64 u.n) ∧ wz.cell? ⟨b, off + j * 3 + 2, none⟩ = some (.slice ai u.l.length ci) := fun wz qz => ⟨qz.cell d0 fun e => e, qz.cell d1 fun e => e, qz.cell d2 fun e => e⟩
            have HST := hid stepC
            obtain ⟨x3, x4, x5⟩ := stepC wr HQ.out
            clear stepC d0 d1 d2
            cases gb with
            | true =>
              by_cases hu0 : u.caps = []
              · have HU0 := hid hu0
                clear hu0
                rcases own_cases HR.out with ⟨hsv, h00⟩ | ⟨g9, cv9, hsv, hcv9⟩
                all_goals
                  subst hsv
                  go_wp2_with (first
                    | (go_at_call 9; refine (check_any u ai ci _ (HIU.out.quiet HQ.out) HS.out).mono ?_; rintro e w5 ⟨rfl, q5⟩; rw [HK.out]; have qw5 := HQ.out.trans q5; obtain ⟨s3, s4, s5⟩ := HST.out _ qw5; have b5 := (q5.block _ (lt_of_block HBX.out) fun e => e).trans HBX.out; have s2 := (box_cells b5).2.2)
                    | (go_at_call 15; refine (caps_any u ai ci _ (HIU.out.quiet qw5) HK.out).mono ?_; rintro e w6 ⟨sv6, rfl, r6, q6, n6⟩; have q56 := q5.trans q6; have qw6 := qw5.trans q6; obtain rfl := n6 HU0.out; clear r6 n6; obtain ⟨y3, y4, y5⟩ := HST.out _ qw6; have b6 := (q6.block _ (lt_of_block b5) fun e => e).trans b5; have y2 := (box_cells b6).2.2))
                  go_roundg (l.length - (j + 1))
                  case measure => have := HGK.out.1; omega
                  case rel => exact ⟨j + 1, rfl, by omega, by go_num, by rw [hgend.out]; rfl, HEND.out _ _ (by rw [HU0.out, List.append_nil]; exact (q56.row HR.out fun _ _ e => e)) qw6 b6⟩
              · have hpos : 0 < u.caps.length := by
                  rcases Nat.eq_zero_or_pos u.caps.length with e | e
                  · exact absurd (List.eq_nil_of_length_eq_zero e) hu0
                  · exact e
                clear hu0
                obtain ⟨av, cv, hsv⟩ := owns_shape HR.out
                subst hsv
                go_wp2_with (first
                  | (go_at_call 9; refine (check_any u ai ci _ (HIU.out.quiet HQ.out) HS.out).mono ?_; rintro e w5 ⟨rfl, q5⟩; rw [HK.out]; have qw5 := HQ.out.trans q5; obtain ⟨s3, s4, s5⟩ := HST.out _ qw5; have b5 := (q5.block _ (lt_of_block HBX.out) fun e => e).trans HBX.out; have s2 := (box_cells b5).2.2)
                  | (go_at_call 15; refine (caps_any u ai ci _ (HIU.out.quiet qw5) HK.out).mono ?_; rintro e w6 ⟨sv6, rfl, r6, q6, n6⟩; have q56 := q5.trans q6; obtain ⟨g6, cap6, hs6⟩ := lies_shape r6 hpos; subst hs6; clear n6)
                  | (at_builtin; refine wpList_append_lies _ rfl (.tmp 40) (.tmp 46) 31 rfl w.heap.size 3 i0 _ 1 8 Tryd.undI hi0 hz0 hz1 hz2 rfl (by decide) _ acc.length (ints acc) rfl (q56.row HR.out fun _ _ e => e) ⟨g6, 0, none⟩ u.caps.length cap6 (ints u.caps) rfl (by rw [ints_len, Nat.mul_one]) (r6.cells rfl) (ints_one _) hpos (by unfold maxLen; omega) (by omega) (by have := (HQ.out.trans q56).size; omega) _ rfl ?_; intro g7 cap7 w7 hr7 hg7 hat7 hlt7; have hD := hid (caps_grow2 HQ.out q56 HR.out rfl rfl hr7 hg7 HBX.out); have qw7 := hD.out.1.2; obtain ⟨y3, y4, y5⟩ := HST.out _ qw7; have y2 := (box_cells hD.out.2).2.2; clear hr7 hg7 hat7 hlt7))
                go_roundg (l.length - (j + 1))
                case measure => have := HGK.out.1; omega
                case rel => exact ⟨j + 1, rfl, by omega, by go_num, by rw [hgend.out]; rfl, HEND.out _ _ hD.out.1.1 qw7 hD.out.2⟩
            | false =>
              by_cases hu0 : u.caps = []
              · have HU0 := hid hu0
                clear hu0
                rcases own_cases HR.out with ⟨hsv, h00⟩ | ⟨g9, cv9, hsv, hcv9⟩
                all_goals
                  subst hsv
                  go_wp2_with (first
                    | (go_at_call 9; refine (check_any u ai ci _ (HIU.out.quiet HQ.out) HS.out).mono ?_; rintro e w5 ⟨rfl, q5⟩; rw [HK.out]; have qw5 := HQ.out.trans q5; obtain ⟨s3, s4, s5⟩ := HST.out _ qw5; have b5 := (q5.block _ (lt_of_block HBX.out) fun e => e).trans HBX.out; have s2 := (box_cells b5).2.2)
                    | (go_at_call 15; refine (caps_any u ai ci _ (HIU.out.quiet qw5) HK.out).mono ?_; rintro e w6 ⟨sv6, rfl, r6, q6, n6⟩; have q56 := q5.trans q6; have qw6 := qw5.trans q6; obtain rfl := n6 HU0.out; clear r6 n6; obtain ⟨y3, y4, y5⟩ := HST.out _ qw6; have b6 := (q6.block _ (lt_of_block b5) fun e => e).trans b5; have y2 := (box_cells b6).2.2)
                    | (go_at_call 17; refine (gates_any u ai ci _ (HIU.out.quiet qw6) HK.out).mono ?_; rintro e w8 ⟨rfl, q8⟩))
                  go_roundg (l.length - (j + 1))
                  case measure => have := HGK.out.1; omega
                  case rel => exact ⟨j + 1, rfl, by omega, by go_num, by rw [hgend.out]; simp, HEND.out _ _ (by rw [HU0.out, List.append_nil]; exact ((q56.trans q8).row HR.out fun _ _ e => e)) (qw6.trans q8) ((q8.block _ (lt_of_block b6) fun e => e).trans b6)⟩
              · have hpos : 0 < u.caps.length := by
                  rcases Nat.eq_zero_or_pos u.caps.length with e | e
                  · exact absurd (List.eq_nil_of_length_eq_zero e) hu0
                  · exact e
                clear hu0
                obtain ⟨av, cv, hsv⟩ := owns_shape HR.out
                subst hsv
                go_wp2_with (first
                  | (go_at_call 9; refine (check_any u ai ci _ (HIU.out.quiet HQ.out) HS.out).mono ?_; rintro e w5 ⟨rfl, q5⟩; rw [HK.out]; have qw5 := HQ.out.trans q5; obtain ⟨s3, s4, s5⟩ := HST.out _ qw5; have b5 := (q5.block _ (lt_of_block HBX.out) fun e => e).trans HBX.out; have s2 := (box_cells b5).2.2)
                  | (go_at_call 15; refine (caps_any u ai ci _ (HIU.out.quiet qw5) HK.out).mono ?_; rintro e w6 ⟨sv6, rfl, r6, q6, n6⟩; have q56 := q5.trans q6; obtain ⟨g6, cap6, hs6⟩ := lies_shape r6 hpos; subst hs6; clear n6)
                  | (at_builtin; refine wpList_append_lies _ rfl (.tmp 40) (.tmp 46) 31 rfl w.heap.size 3 i0 _ 1 8 Tryd.undI hi0 hz0 hz1 hz2 rfl (by decide) _ acc.length (ints acc) rfl (q56.row HR.out fun _ _ e => e) ⟨g6, 0, none⟩ u.caps.length cap6 (ints u.caps) rfl (by rw [ints_len, Nat.mul_one]) (r6.cells rfl) (ints_one _) hpos (by unfold maxLen; omega) (by omega) (by have := (HQ.out.trans q56).size; omega) _ rfl ?_; intro g7 cap7 w7 hr7 hg7 hat7 hlt7; have hD := hid (caps_grow2 HQ.out q56 HR.out rfl rfl hr7 hg7 HBX.out); have qw7 := hD.out.1.2; obtain ⟨y3, y4, y5⟩ := HST.out _ qw7; have y2 := (box_cells hD.out.2).2.2; clear hr7 hg7 hat7 hlt7)
                  | (go_at_call 17; refine (gates_any u ai ci _ (HIU.out.quiet qw7) HK.out).mono ?_; rintro e w8 ⟨rfl, q8⟩))
                go_roundg (l.length - (j + 1))
                case measure => have := HGK.out.1; omega
                case rel => exact ⟨j + 1, rfl, by omega, by go_num, by rw [hgend.out]; simp, HEND.out _ _ (q8.row hD.out.1.1 fun _ _ e => e) (qw7.trans q8) ((q8.block _ (lt_of_block hD.out.2) fun e => e).trans hD.out.2)⟩
          · have hjl : l.take j = l := List.take_of_length_le (by omega)
            have c0 := box_cells P.box
            obtain ⟨c0, c1, c2⟩ := c0
            have hrow := P.row
            rw [hjl, ← hE.out.1] at hrow
            have hgv := hid (show ((k == 5) || gateIn (pres (l.take j))) = (V.mk k n l).gate by rw [hjl]; exact hE.out.2.symm)
            rw [hgv.out]
            obtain ⟨av, cv, hsv⟩ := owns_shape hrow
            subst hsv
            have HR := hid hrow
            clear hrow P hal hjl hgv
            go_wp2_with (first
              | (go_at_call 15; refine (HCP _ HQ.out).mono ?_; rintro e w5 ⟨sv5, rfl, r5, q5, n5⟩; obtain ⟨av5, cv5, hs5⟩ := owns_shape r5; subst hs5; have R5 := hid r5; have b5 := (q5.block _ (lt_of_block HGK.out.2.box) fun e => e).trans HGK.out.2.box; obtain ⟨s0, s1, s2⟩ := box_cells b5; clear r5 n5)
              | (go_at_call 14; refine (sameInts_any _ _ _ _ _ _ _ _ (q5.row HR.out fun _ _ e => e) R5.out (by have := hcaps.out; omega)).mono ?_; rintro e w6 ⟨rfl, q6⟩; have b6 := (q6.block _ (lt_of_block b5) fun e => e).trans b5; obtain ⟨y0, y1, y2⟩ := box_cells b6)
              | (go_at_call 17; refine (HGA _ (HQ.out.trans (q5.trans q6))).mono ?_; rintro e w7 ⟨rfl, q7⟩))
            go_ret
            exact ⟨by simp, (HQ.out.trans ((q5.trans q6).trans q7)).low⟩
    · have hc1 : (v.check != 0) = true := by simpa using hc
      go_enter Tryd.func5, Tryd.ntmps5
      go_wp2_with (first
        | (go_at_call 6; refine HB.out.mono ?_; rintro e w2 ⟨rfl, q2⟩; have q12 := q1.trans q2; have b2 := (q2.block _ (lt_of_block hbx.out) fun e => e).trans hbx.out; obtain ⟨c0, c1, c2⟩ := box_cells b2)
        | (go_at_call 7; refine (HG _ q12).mono ?_; rintro e w3 ⟨rfl, q3⟩; rw [hd.out]; have q13 := q12.trans q3; obtain ⟨d0, d1, d2⟩ := box_cells ((q3.block _ (lt_of_block b2) fun e => e).trans b2))
        | (go_at_call 9; refine (HC _ q13).mono ?_; rintro e w4 ⟨rfl, q4⟩))
      go_ret
      exact ⟨rfl, (q13.trans q4).low⟩
end Go.Proofs.YtekkecnhnaejlabDoor
