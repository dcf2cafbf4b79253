/- The law ParseJoins: the walk. -/
import Derived.Test.YthogejofkodmkacDoorJoinMem
namespace Go.Proofs.YthogejofkodmkacDoor
open Go.ChangeShapes Go.WideShapes Go.ChangeAt Go.RowKit
theorem join_app (a b : List UInt8) : (ByteArray.mk a.toArray) ++ (ByteArray.mk b.toArray) = ⟨(a ++ b).toArray⟩ := by
  ext1
  simp
theorem join_text (a b : List UInt8) : (ByteArray.mk a.toArray) ++ (ByteArray.mk #[10]) ++ (ByteArray.mk b.toArray) = ⟨(a ++ 10 :: b).toArray⟩ := by
  rw [show (ByteArray.mk #[10]) = ⟨[10].toArray⟩ from rfl, join_app, join_app]; simp
set_option maxRecDepth 8000 in
set_option maxHeartbeats 2000000 in
theorem joins_some (la lb : List UInt8) (hl' : ¬ 5900 < wrap64 ((la.length : Int) + (lb.length : Int))) (h : (parseB la).2.1 ≠ 0 ∨ ((parseB la).2.1 = 0 ∧ (parseB lb).2.1 ≠ 0)) (w : World) (hw : Laid w) (hd : Wds w) : Calls Tryd.prog 6 #[.string ⟨la.toArray⟩, .string ⟨lb.toArray⟩] w fun e' w' => e' = .returned (.bool true) ∧ Quiet w w' := by
  have hza := bytes_size la
  have hzb := bytes_size lb
  have HB := hid (pbegun_any w hw hd)
  have HA := hid (fun w1 (q : Quiet w w1) => parse_all la w1 (hw.quiet q) (hd.quiet q))
  have HC := hid (fun w1 (q : Quiet w w1) => parse_all lb w1 (hw.quiet q) (hd.quiet q))
  generalize parseB la = p at *
  generalize parseB lb = r at *
  obtain ⟨ma, c, a⟩ := p
  obtain ⟨mb, c2, a2⟩ := r
  simp only at h
  clear hw hd
  rcases h with h | ⟨rfl, h⟩
  · have hc1 : (c != 0) = true := by simpa using h
    clear h
    go_enter Tryd.func6, Tryd.ntmps6
    go_wp2_with (first
      | (go_at_call 11; refine (HC.out _ (q2 _ _)).mono ?_; rintro e' w3 ⟨na, nc, rfl, hF3, q3⟩; obtain ⟨e0, e1⟩ := two_q q3; obtain ⟨g0, g1⟩ := box2 e1; have l1 := lt_of_block e1; have l0 := lt_of_block e0; clear e0 e1)
      | (go_at_call 11; refine (HA.out w1 q1).mono ?_; rintro e' w2 ⟨xa, xc, rfl, hF2, q2'⟩; have q2 := fun o1 o2 => (q1.trans q2').trans ((Kp.alloc w2 o1).trans (Kp.alloc _ o2)))
      | (go_at_call 10; refine HB.out.mono ?_; rintro e' w1 ⟨rfl, q1⟩))
    go_ret
    exact ⟨rfl, (q2 _ _).trans (q3.trans ((Kp.alloc _ _).trans (Kp.alloc _ _)))⟩
  · have hc1 : (c2 != 0) = true := by simpa using h
    clear h
    go_enter Tryd.func6, Tryd.ntmps6
    go_wp2_with (first
      | (go_at_call 11; refine (HC.out _ (q2 _ _)).mono ?_; rintro e' w3 ⟨na, nc, rfl, hF3, q3⟩; obtain ⟨e0, e1⟩ := two_q q3; obtain ⟨g0, g1⟩ := box2 e1; have l1 := lt_of_block e1; have l0 := lt_of_block e0; clear e0 e1)
      | (go_at_call 11; refine (HA.out w1 q1).mono ?_; rintro e' w2 ⟨xa, xc, rfl, hF2, q2'⟩; have q2 := fun o1 o2 => (q1.trans q2').trans ((Kp.alloc w2 o1).trans (Kp.alloc _ o2)))
      | (go_at_call 10; refine HB.out.mono ?_; rintro e' w1 ⟨rfl, q1⟩))
    go_ret
    exact ⟨rfl, (q2 _ _).trans (q3.trans ((Kp.alloc _ _).trans (Kp.alloc _ _)))⟩
theorem joins_long (la lb : List UInt8) (hl' : 5900 < wrap64 ((la.length : Int) + (lb.length : Int))) (w : World) (hw : Laid w) (hd : Wds w) : Calls Tryd.prog 6 #[.string ⟨la.toArray⟩, .string ⟨lb.toArray⟩] w fun e' w' => e' = .returned (.bool true) ∧ Quiet w w' := by
  have hza := bytes_size la
  have hzb := bytes_size lb
  have HB := hid (pbegun_any w hw hd)
  clear hw hd
  go_enter Tryd.func6, Tryd.ntmps6
  go_wp2_with (go_at_call 10; refine HB.out.mono ?_; rintro e' w1 ⟨rfl, q1⟩)
  go_ret
  exact ⟨rfl, q1⟩
/-- The world behind the reading of three texts. -/
structure JW (w W4 W5 : World) (x2 x3 xb wb : Nat) (ma mb mj : List V) (xa na ba : Option Addr) (xc nc bc : Nat) (c a : Int) (mm : List V) : Prop where
  m0 : W5.heap[x2]? = some (.cells #[.slice xa ma.length xc] 37 (0, 0))
  n0 : W5.heap[x3]? = some (.cells #[.slice na mb.length nc] 37 (0, 0))
  b0 : W5.heap[xb]? = some (.cells #[.slice ba mm.length bc] 37 (0, 0))
  h0 : W5.heap[xb + 1]? = some (.cells #[.int .i64 c, .int .i64 a] 25 (0, 0))
  w0 : W5.heap[wb]? = some (.cells #[.slice none 0 0] 37 (0, 0))
  fa : Fo W4 ma xa
  fb : Fo W4 mb na
  fj : Fo W4 mm ba
  low : Quiet W4 W5
  all : Quiet w W5
  far : W4.heap.size ≤ wb
  bel : w.heap.size ≤ wb
  d2 : x2 < wb
  d3 : x3 < wb
  db : xb + 1 < wb
theorem JW.begin {w w4 : World} {x2 x3 : Nat} {ma mb mj mm : List V} {xa na ba : Option Addr} {xc nc bc : Nat} {c a : Int} (m0 : w4.heap[x2]? = some (.cells #[.slice xa ma.length xc] 37 (0, 0))) (n0 : w4.heap[x3]? = some (.cells #[.slice na mb.length nc] 37 (0, 0))) (fa : Fo w4 ma xa) (fb : Fo w4 mb na) (fj : Fo w4 mm ba) (q : Quiet w w4) :
    JW w ((w4.alloc (.cells #[.slice ba mm.length bc] 37)).alloc (.cells #[.int .i64 c, .int .i64 a] 25)) (((w4.alloc (.cells #[.slice ba mm.length bc] 37)).alloc (.cells #[.int .i64 c, .int .i64 a] 25)).alloc (.cells #[.slice none 0 0] 37)) x2 x3 w4.heap.size (w4.heap.size + 2) ma mb mj xa na ba xc nc bc c a mm := by
  have q2 : Quiet w4 ((w4.alloc (.cells #[.slice ba mm.length bc] 37)).alloc (.cells #[.int .i64 c, .int .i64 a] 25)) := (Kp.alloc _ _).trans (Kp.alloc _ _)
  have q3 := q2.trans (Kp.alloc _ (.cells #[.slice none 0 0] 37))
  obtain ⟨h1, h2⟩ := two_q (Kp.alloc ((w4.alloc (.cells #[.slice ba mm.length bc] 37)).alloc (.cells #[.int .i64 c, .int .i64 a] 25)) (.cells #[.slice none 0 0] 37))
  have h3 := heap_alloc_new ((w4.alloc (.cells #[.slice ba mm.length bc] 37)).alloc (.cells #[.int .i64 c, .int .i64 a] 25)) (.cells #[.slice none 0 0] 37)
  have hz : ((w4.alloc (.cells #[.slice ba mm.length bc] 37)).alloc (.cells #[.int .i64 c, .int .i64 a] 25)).heap.size = w4.heap.size + 2 := by simp
  rw [hz] at h3
  have l2 := lt_of_block m0
  have l3 := lt_of_block n0
  exact ⟨(q3.block _ l2 fun e => e).trans m0, (q3.block _ l3 fun e => e).trans n0, h1, h2, h3, fa.quiet q2, fb.quiet q2, fj.quiet q2, Kp.alloc _ _, q.trans q3, by omega, by have := q.size; omega, by omega, by omega, by omega⟩
theorem undrew {w w' : World} {r : Option Nat} (h : w.drew.grownBy w' r) : w.grownBy w' r := ⟨h.os, h.tape, h.output, h.size, h.block⟩
theorem join_end {w W4 W5 w6 w7 : World} {x2 x3 xb wb g1 g2 cap1 cap2 : Nat} {ma mb mj mm : List V} {xa na ba : Option Addr} {xc nc bc : Nat} {c a : Int} {psA psB : List Kd} {y : Value} (J : JW w W4 W5 x2 x3 xb wb ma mb mj xa na ba xc nc bc c a mm) (hmj : mj = ma ++ mb) (hA : psA.map (·.1) = ma) (hB : psB.map (·.1) = mb) (iA : ∀ p ∈ psA, Is W4 p.1 p.2.1) (iB : ∀ p ∈ psB, Is W4 p.1 p.2.1)
    (q6 : Quiet W5 w6) (hown1 : w6.ownsRow W5.heap.size 53 4 (.slice (some ⟨g1, 0, none⟩) ma.length cap1) ma.length (tris psA)) (hown2 : w7.ownsRow W5.heap.size 53 4 (.slice (some ⟨g2, 0, none⟩) (ma.length + mb.length) cap2) (ma.length + mb.length) (tris psA ++ tris psB)) (hg2 : w6.grownBy w7 (Value.slice (some ⟨g1, 0, none⟩) ma.length cap1).ownBlock) :
    Fo (w7.setCell ⟨wb, 0, none⟩ y) mj (some ⟨g2, 0, none⟩) ∧ (∀ k, k < W5.heap.size → k ≠ wb → (w7.setCell ⟨wb, 0, none⟩ y).heap[k]? = W5.heap[k]?) ∧ Below W4.heap.size W4 (w7.setCell ⟨wb, 0, none⟩ y) ∧ Quiet w (w7.setCell ⟨wb, 0, none⟩ y) ∧ (w7.cell? ⟨wb, 0, none⟩ = some (.slice none 0 0) ∧ w7.frozen? ⟨wb, 0, none⟩ = false) ∧ (w7.setCell ⟨wb, 0, none⟩ y).heap[wb]? = some (.cells #[y] 37 (0, 0)) := by
  have hw5 := lt_of_block J.w0
  have hr1 : ∀ b, (Value.slice (some ⟨g1, 0, none⟩) ma.length cap1).ownBlock = some b → W5.heap.size ≤ b ∧ b < w6.heap.size := fun b e => hown1.lt b e
  have hk7 : ∀ k, k < W5.heap.size → w7.heap[k]? = W5.heap[k]? := by
    intro k hk
    have := q6.size
    rw [hg2.block k (by omega) (fun e => by have := hr1 k e.symm; omega)]
    exact q6.block k hk fun e => e
  have hset : ∀ b, b ≠ wb → (w7.setCell ⟨wb, 0, none⟩ y).heap[b]? = w7.heap[b]? := fun b hb => Below.heap_setCell _ _ _ _ (fun e => hb e)
  have hs7 : W5.heap.size ≤ w7.heap.size := by have := q6.size; have := hg2.size; omega
  have hgl : W5.heap.size ≤ g2 := (hown2.lt g2 rfl).1
  have hall : ∀ k, k < W5.heap.size → k ≠ wb → (w7.setCell ⟨wb, 0, none⟩ y).heap[k]? = W5.heap[k]? := fun k hk hne => (hset k hne).trans (hk7 k hk)
  have h45 := J.low.size
  have hfar := J.far
  have hlow : Below W4.heap.size W4 (w7.setCell ⟨wb, 0, none⟩ y) := by
    refine ⟨?_, ?_, ?_, ?_, fun k hk => ?_⟩
    · exact (hg2.os.trans q6.os).trans J.low.os
    · exact (hg2.tape.trans q6.tape).trans J.low.tape
    · exact (hg2.output.trans q6.output).trans J.low.output
    · simp [World.setCell]; omega
    · rw [hall k (by omega) (by omega)]; exact J.low.block k hk fun e => e
  refine ⟨?_, hall, hlow, ?_, ?_⟩
  · rw [hmj]; exact joined hown2 rfl hA hB iA iB hlow (hset g2 (by omega))
  · have hq : Kp (fun i => w.heap.size ≤ i) W5 (w7.setCell ⟨wb, 0, none⟩ y) := by
      refine ⟨hg2.os.trans q6.os, hg2.tape.trans q6.tape, hg2.output.trans q6.output, by simp [World.setCell]; omega, fun k hk hne => hall k hk (by have := J.bel; omega)⟩
    exact J.all.fresh hq
  · have h7 := (hk7 wb hw5).trans J.w0
    exact ⟨⟨box1 h7, box_free h7 0⟩, by simp [World.setCell, Array.getElem?_modify, h7]⟩
set_option maxRecDepth 8000 in
set_option maxHeartbeats 8000000 in
theorem joins_both (la lb : List UInt8) (hl : la.length + lb.length ≤ 5900) (h1 : (parseB la).2.1 = 0) (h2 : (parseB lb).2.1 = 0) (w : World) (hw : Laid w) (hd : Wds w) : Calls Tryd.prog 6 #[.string ⟨la.toArray⟩, .string ⟨lb.toArray⟩] w fun e' w' => e' = .returned (.bool true) ∧ Quiet w w' := by
  obtain ⟨i0, hi0, hz0, hz1, hz2⟩ := info_parts Tryd.infoV
  have hza := bytes_size la
  have hzb := bytes_size lb
  have hl' : ¬ 5900 < wrap64 ((la.length : Int) + (lb.length : Int)) := by rw [wrap_small64 (by omega) (by omega)]; omega
  have hs1 : ¬ 9223372036854775807 < la.length + 1 := by omega
  have hs2 : ¬ 9223372036854775807 < la.length + 1 + lb.length := by omega
  have HB := hid (pbegun_any w hw hd)
  have HA := hid (fun w1 (q : Quiet w w1) => parse_any la (by omega) w1 (hw.quiet q) (hd.quiet q))
  have HC := hid (fun w1 (q : Quiet w w1) => parse_any lb (by omega) w1 (hw.quiet q) (hd.quiet q))
  have HJ := hid (fun w1 (q : Quiet w w1) => parse_any (la ++ 10 :: lb) (by simp; omega) w1 (hw.quiet q) (hd.quiet q))
  rw [parse_join la lb hl h1 h2] at HJ
  obtain ⟨_, _, f1, e1⟩ := parseB_ok h1
  obtain ⟨_, _, f2, e2⟩ := parseB_ok h2
  obtain ⟨_, n1, n6⟩ := mod_zero f1
  obtain ⟨_, k1, k6⟩ := mod_zero f2
  have hSa := parseB_small la (by omega)
  have hSb := parseB_small lb (by omega)
  rw [show parseB la = ((parseB la).1, 0, 0) from Prod.ext rfl (Prod.ext h1 e1)] at HA
  rw [show parseB lb = ((parseB lb).1, 0, 0) from Prod.ext rfl (Prod.ext h2 e2)] at HC
  generalize (parseB la).1 = ma at *
  generalize (parseB lb).1 = mb at *
  obtain ⟨mj, hmj⟩ : ∃ mj, mj = ma ++ mb := ⟨_, rfl⟩
  have hSab : sizes mj ≤ 20000 := by rw [hmj, sizes_append]; omega
  have hjl : ma.length + mb.length = mj.length := by rw [hmj, List.length_append]
  have hlj : mj.length ≤ 20000 := by omega
  rw [← hmj] at HJ
  have hcat := hid (join_text la lb)
  have HL := hid (And.intro hmj hjl)
  have hq := eqFault
  clear hw hd f1 f2 e1 e2 h1 h2 hmj hjl
  obtain ⟨mm, c, a, hJ, hwhich⟩ : ∃ (mm : List V) (c a : Int), (if (modFault mj).1 = 0 then (mj, 0, 0) else ([], (modFault mj).1, (modFault mj).2)) = (mm, c, a) ∧ (modFault mj = (c, a) ∧ ((c = 0 ∧ mm = mj) ∨ c ≠ 0)) := by
    by_cases hf : (modFault mj).1 = 0
    · exact ⟨mj, 0, 0, by rw [if_pos hf], (mod_zero hf).1, .inl ⟨rfl, rfl⟩⟩
    · exact ⟨[], (modFault mj).1, (modFault mj).2, by rw [if_neg hf], rfl, .inr hf⟩
  rw [hJ] at HJ
  clear hJ
  have HWH := hid hwhich
  clear hwhich
  go_enter Tryd.func6, Tryd.ntmps6
  go_wp2_with (first
    | (go_at_call 11; rw [hcat.out]; refine (HJ.out _ (q3 _ _)).mono ?_; rintro e' w4 ⟨ba, bc, rfl, hF4, q4'⟩; simp only at hF4; have q4 := (q3 _ _).trans q4'; obtain ⟨v0, v1⟩ := two_q q4'; obtain ⟨u0, u1⟩ := two_q (q3'.trans (((Kp.alloc w3 _).trans (Kp.alloc _ _)).trans q4')); have HJW := hid (JW.begin (mj := mj) (bc := bc) (c := c) (a := a) u0 v0 (hF2.quiet ((((Kp.alloc w2 _).trans (Kp.alloc _ _)).trans q3').trans (((Kp.alloc w3 _).trans (Kp.alloc _ _)).trans q4'))) (hF3.quiet (((Kp.alloc w3 _).trans (Kp.alloc _ _)).trans q4')) hF4 q4); clear hF2 hF3 hF4 v0 v1 u0 u1)
    | (go_at_call 11; refine (HC.out _ (q2 _ _)).mono ?_; rintro e' w3 ⟨na, nc, rfl, hF3, q3'⟩; simp only at hF3; have q3 := fun o1 o2 => (q2 _ _).trans (q3'.trans ((Kp.alloc w3 o1).trans (Kp.alloc _ o2))); obtain ⟨e0, e1⟩ := two_q q3'; obtain ⟨g0, g1⟩ := box2 e1; have l1 := lt_of_block e1; have l0 := lt_of_block e0; clear e0 e1)
    | (go_at_call 11; refine (HA.out w1 q1).mono ?_; rintro e' w2 ⟨xa, xc, rfl, hF2, q2'⟩; simp only at hF2; have q2 := fun o1 o2 => (q1.trans q2').trans ((Kp.alloc w2 o1).trans (Kp.alloc _ o2)))
    | (go_at_call 10; refine HB.out.mono ?_; rintro e' w1 ⟨rfl, q1⟩))
  obtain ⟨W4, hW4⟩ : ∃ W4, W4 = (w4.alloc (.cells #[.slice ba mm.length bc] 37)).alloc (.cells #[.int .i64 c, .int .i64 a] 25) := ⟨_, rfl⟩
  rw [← hW4] at HJW ⊢
  obtain ⟨W5, hW5⟩ : ∃ W5, W5 = W4.alloc (.cells #[.slice none 0 0] 37) := ⟨_, rfl⟩
  rw [← hW5] at HJW ⊢
  clear hW4 hW5 g0 g1 l1 l0 q2 q3 q4 q2' q3' q4' q1 HB HA HC HJ
  have c0 := box1 HJW.out.m0
  have c1 := box1 HJW.out.n0
  have c2 := box1 HJW.out.w0
  obtain ⟨b1, o1, rfl, psA, pA1, pA2, pA3⟩ := mod_lies HJW.out.fa n1
  obtain ⟨b2, o2, rfl, psB, pB1, pB2, pB3⟩ := mod_lies HJW.out.fb k1
  have HPA := hid (And.intro pA1 (And.intro pA2 pA3))
  have HPB := hid (And.intro pB1 (And.intro pB2 pB3))
  have HLA := hid (show psA.length = ma.length by rw [← pA1]; simp)
  have HLB := hid (show psB.length = mb.length by rw [← pB1]; simp)
  clear pA1 pA2 pA3 pB1 pB2 pB3
  go_region_law ((first
    | (refine step_append_lies _ (by rfl) _ _ _ (by rfl) W5.heap.size 53 i0 _ 4 48 Tryd.undV hi0 hz0 hz1 hz2 rfl (by omega) (.slice (some ⟨g1, 0, none⟩) ma.length cap1) ma.length (tris psA) (by rfl) hown1 ⟨b2, o2, none⟩ mb.length nc (tris psB) (by rfl) (by rw [tris_len, HLB.out]) (fun j u hu => q6.cell (HJW.out.low.cell (HPB.out.2.2 j u hu) (fun e => e)) (fun e => e)) (tris_onec _) (by omega) (by unfold maxLen; omega) (by omega) q6.size w6.heap.size rfl ?_; intro g2 cap2 w7 hown2 hgrow2 hat2 hlt2; have HE := hid (fun y => join_end (y := y) HJW.out HL.out.1 HPA.out.1 HPB.out.1 HPA.out.2.1 HPB.out.2.1 q6 hown1 hown2 hgrow2); have e1 := (HE.out (.slice none 0 0)).2.2.2.2.1.1; have e2 := (HE.out (.slice none 0 0)).2.2.2.2.1.2; clear hown2 hgrow2 hat2 hlt2)
    | (refine step_append_lies _ (by rfl) _ _ _ (by rfl) W5.heap.size 53 i0 _ 4 48 Tryd.undV hi0 hz0 hz1 hz2 rfl (by omega) (.slice none 0 0) 0 [] (by rfl) (World.ownsRow_nil _ _ _ _) ⟨b1, o1, none⟩ ma.length xc (tris psA) (by rfl) (by rw [tris_len, HLA.out]) (fun j u hu => HJW.out.low.cell (HPA.out.2.2 j u hu) (fun e => e)) (tris_onec _) (by omega) (by unfold maxLen; omega) (by omega) (Nat.le_refl _) W5.heap.size rfl ?_; intro g1 cap1 w6 hown1 hgrow1 hat1 hlt1; simp only [Nat.zero_add, List.nil_append] at hown1; have q6 : Quiet W5 w6 := Kp.grown (undrew hgrow1) (fun k _ e => by cases e); have m6 := q6.cell c0 (fun e => e); have n6 := q6.cell c1 (fun e => e); have w6c := q6.cell c2 (fun e => e); clear hgrow1 hat1 hlt1)))
  all_goals
    have hE := HE.out (.slice (some ⟨g2, 0, none⟩) (ma.length + mb.length) cap2)
    obtain ⟨w8, hw8⟩ : ∃ w8, w8 = w7.setCell ⟨w4.heap.size + 2, 0, none⟩ (.slice (some ⟨g2, 0, none⟩) (ma.length + mb.length) cap2) := ⟨_, rfl⟩
    rw [← hw8] at hE ⊢
    obtain ⟨F8, hall, low8, q8, _, hw0⟩ := hE
    have x0 := box1 hw0
    have hb0 := (hall w4.heap.size (lt_of_block HJW.out.b0) (by omega)).trans HJW.out.b0
    have hh0 := (hall (w4.heap.size + 1) (lt_of_block HJW.out.h0) (by omega)).trans HJW.out.h0
    have HF8 := hid (And.intro F8 (HJW.out.fj.low low8))
    have HBX := hid (And.intro hw0 (And.intro hb0 hh0))
    have k0 := lt_of_block hb0
    have k1 := lt_of_block hh0
    have k2 := lt_of_block hw0
    have Q8 := hid q8
    clear HE hall low8 F8 hw0 hb0 hh0 q8 hw8 e1 e2 hown1 q6 m6 n6 w6c c0 c1 c2 HPA HPB HLA HLB HJW
    rcases HWH.out with ⟨hz, hwh⟩
    rcases hwh with ⟨rfl, rfl⟩ | hc
    · have HZ := hid hz
      clear hz HWH
      go_wp2_with (first
        | (go_at_call 13; rw [HL.out.2]; refine (sameR_any mm mm ba (some ⟨g2, 0, none⟩) bc cap2 _ (HF8.out.2.quiet (q9.trans (Kp.alloc _ _))) (HF8.out.1.quiet (q9.trans (Kp.alloc _ _))) hSab).mono ?_; rintro e' w10 ⟨rfl, q10⟩; rw [sames_true rfl])
        | (go_at_call 18; rw [HL.out.2]; refine (codeFault_any mm (some ⟨g2, 0, none⟩) cap2 _ HF8.out.1 hlj (fun x hx => Nat.le_trans (sizes_mem hx) hSab)).mono ?_; rintro e' w9 ⟨rfl, q9⟩; rw [HZ.out]; have y0 := box1 ((q9.block _ k2 (fun e => e)).trans HBX.out.1); have y1 := box1 ((q9.block _ k0 (fun e => e)).trans HBX.out.2.1); obtain ⟨z0, z1⟩ := box2 ((q9.block _ k1 (fun e => e)).trans HBX.out.2.2); have j0 := Nat.lt_of_lt_of_le k0 q9.size; have j1 := Nat.lt_of_lt_of_le k1 q9.size; have j2 := Nat.lt_of_lt_of_le k2 q9.size))
      go_ret
      exact ⟨rfl, Q8.out.trans (q9.trans ((Kp.alloc _ _).trans q10))⟩
    · have HZ := hid hz
      have hc1 : (c != 0) = true := by simpa using hc
      clear hz HWH
      go_wp2_with (go_at_call 18; rw [HL.out.2]; refine (codeFault_any mj (some ⟨g2, 0, none⟩) cap2 _ HF8.out.1 hlj (fun x hx => Nat.le_trans (sizes_mem hx) hSab)).mono ?_; rintro e' w9 ⟨rfl, q9⟩; rw [HZ.out]; obtain ⟨z0, z1⟩ := box2 ((q9.block _ k1 (fun e => e)).trans HBX.out.2.2); have j1 := Nat.lt_of_lt_of_le k1 q9.size)
      go_ret
      exact ⟨rfl, Q8.out.trans (q9.trans (Kp.alloc _ _))⟩
theorem joinsLaw (la lb : List UInt8) (w : World) (hw : Laid w) (hd : Wds w) : Calls Tryd.prog 6 #[.string ⟨la.toArray⟩, .string ⟨lb.toArray⟩] w fun e' w' => e' = .returned (.bool true) ∧ Below w.heap.size w w' := by
  by_cases hw' : 5900 < wrap64 ((la.length : Int) + (lb.length : Int))
  · exact (joins_long la lb hw' w hw hd).mono fun e' w' h => ⟨h.1, h.2.low⟩
  by_cases h1 : (parseB la).2.1 = 0
  · by_cases h2 : (parseB lb).2.1 = 0
    · have e1 : la.length ≤ 6000 := by
        rcases Nat.lt_or_ge 6000 la.length with h | h
        · rw [parseB_huge h] at h1; simp at h1
        · exact h
      have e2 : lb.length ≤ 6000 := by
        rcases Nat.lt_or_ge 6000 lb.length with h | h
        · rw [parseB_huge h] at h2; simp at h2
        · exact h
      rw [wrap_small64 (by omega) (by omega)] at hw'
      exact (joins_both la lb (by omega) h1 h2 w hw hd).mono fun e' w' h => ⟨h.1, h.2.low⟩
    · exact (joins_some la lb hw' (.inr ⟨h1, h2⟩) w hw hd).mono fun e' w' h => ⟨h.1, h.2.low⟩
  · exact (joins_some la lb hw' (.inl h1) w hw hd).mono fun e' w' h => ⟨h.1, h.2.low⟩
end Go.Proofs.YthogejofkodmkacDoor
