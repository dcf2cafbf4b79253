/- VmSeals, whatever way New, Run and Arith go. Two rows of values that grow and shrink beside each other: a call's values and its names. -/
import Derived.Test.YtcgjjkaifklnnaaGreatUB0
import Derived.Test.YtcgjjkaifklnnaaGreatUV2
import Derived.Test.YtcgjjkaifklnnaaGreatUV3
import Derived.Deep.RegionHeld3
import Derived.Test.YtcgjjkaifklnnaaGreatUP0
import Derived.Test.YtcgjjkaifklnnaaGreatUV1
namespace Go.Proofs.YtcgjjkaifklnnaaGreat
open Go.ChangeShapes Go.WideShapes Go.ChangeAt Go.RowKit
open Gr (Nd Res nd0 thereB deriveOf addOf gateOf cutOf rightsN wayOf gatesOf gatesW targetOf Wf NdOk GS IntsAt)
theorem safe_is {F : Nat → Prop} {w wr : World} {v : V} {ao : Option Addr} (hI : Is w v ao) (hb : Below w.heap.size w wr) (hF : ∀ k, F k → w.heap.size ≤ k) : SafeF F (fun w => Is w v ao) wr := by
  intro w2 k2
  refine hI.kept fun a x hc => ?_
  have hlt := World.block_lt_of_cell? w a hc
  exact k2.cell ((World.cell?_of_block (hb.block a.block hlt)).trans hc) fun e => by have := hF _ e; omega
/-- A value sealed in new memory. -/
theorem seal_is {w : World} {v : V} {ao : Option Addr} {cap : Nat} (hI : Is w v ao) : Is (w.alloc (.cells #[.int .i64 v.kind, .int .i64 v.n, .slice ao v.l.length cap] 33)) ⟨3, 0, [v]⟩ (some ⟨w.heap.size, 0, none⟩) :=
  ⟨⟨in_small 3 (by decide), in_small 0 (by decide)⟩, fo_single (heap_alloc_new w _) (hI.quiet (Kp.alloc _ _))⟩
/-- The module of seals lies there. -/
theorem seal_fo {w : World} {x : Nat} (b0 : w.heap[x]? = some (.cells #[.int .i64 3, .int .i64 0, .int .i64 0, .slice none 0 0] 73 (0, 0))) (b1 : w.heap[x + 1]? = some (.cells #[.int .i64 11, .int .i64 0, .int .i64 0, .slice (some ⟨x, 0, none⟩) 1 1, .int .i64 12, .int .i64 0, .int .i64 0, .slice (some ⟨x, 0, none⟩) 1 1] 73 (0, 0))) : Ex.Fo (Ex.cln w) sealM (some ⟨x + 1, 0, none⟩) := by
  have c0 := Ex.cln_same b0
  have c1 := Ex.cln_same b1
  have fit : ∀ (k kk n : Int) (l : List Ex.V), (0 ≤ k ∧ k ≤ 100) → (0 ≤ kk ∧ kk ≤ 100) → (0 ≤ n ∧ n ≤ 100) → Ex.V.fits ⟨k, kk, n, l⟩ := fun k kk n l h1 h2 h3 => ⟨in_small k h1, in_small kk h2, in_small n h3⟩
  have kid : Ex.Fo (Ex.cln w) [⟨3, 0, 0, []⟩] (some ⟨x, 0, none⟩) := by
    intro j hj
    obtain rfl : j = 0 := by simp at hj; omega
    exact ⟨x, 0, rfl, (Ex.at_iff _ _ _ _).2 ⟨⟨by simp [World.cell?, c0], by simp [World.cell?, c0], by simp [World.cell?, c0]⟩, none, 0, by simp [World.cell?, c0], fit _ _ _ _ (by decide) (by decide) (by decide), Ex.Fo.nil _ _⟩⟩
  intro i hi
  have hi2 : i < 2 := hi
  obtain rfl | rfl : i = 0 ∨ i = 1 := by omega
  · exact ⟨x + 1, 0, rfl, (Ex.at_iff _ _ _ _).2 ⟨⟨by simp [World.cell?, c1, sealM], by simp [World.cell?, c1, sealM], by simp [World.cell?, c1, sealM]⟩, some ⟨x, 0, none⟩, 1, by simp [World.cell?, c1, sealM], fit _ _ _ _ (by decide) (by decide) (by decide), kid⟩⟩
  · exact ⟨x + 1, 0, rfl, (Ex.at_iff _ _ _ _).2 ⟨⟨by simp [World.cell?, c1, sealM], by simp [World.cell?, c1, sealM], by simp [World.cell?, c1, sealM]⟩, some ⟨x, 0, none⟩, 1, by simp [World.cell?, c1, sealM], fit _ _ _ _ (by decide) (by decide) (by decide), kid⟩⟩
theorem mod4 (p : Int) : ∃ k : Nat, k < 4 ∧ wrap64 ((IntKind.u64.wrap p).tmod 4) = (k : Int) := by
  have h0 : 0 ≤ IntKind.u64.wrap p := by rw [IntKind.wrap_u64]; omega
  have h1 : (IntKind.u64.wrap p).tmod 4 = (IntKind.u64.wrap p) % 4 := Int.tmod_eq_emod_of_nonneg h0
  have h2 : 0 ≤ IntKind.u64.wrap p % 4 ∧ IntKind.u64.wrap p % 4 < 4 := ⟨Int.emod_nonneg _ (by decide), Int.emod_lt_of_pos _ (by decide)⟩
  rw [h1]
  generalize IntKind.u64.wrap p % 4 = z at h2
  exact ⟨z.toNat, by omega, by unfold wrap64; omega⟩
set_option maxRecDepth 8000 in
set_option maxHeartbeats 8000000 in
theorem sealsLaw (hN : NewC) (hR : RunC2) (hA : ArithC) (W : World) (v : V) (ao : Option Addr) (cap : Nat) (p q : Int) (hI : Is W v ao) :
    Calls Tryz.prog 5 #[.agg #[.int .i64 v.kind, .int .i64 v.n, .slice ao v.l.length cap], .int .i64 p, .int .i64 q] W fun e w' => e = .returned (.bool true) ∧ Below W.heap.size W w' := by
  have b0 := heap_alloc_new W (.cells #[.int .i64 v.kind, .int .i64 v.n, .slice ao v.l.length cap] 33)
  have HBX := hid (fun (w' : World) (q : Below (W.heap.size + 1) (W.alloc (.cells #[.int .i64 v.kind, .int .i64 v.n, .slice ao v.l.length cap] 33)) w') => box_cells ((q.block W.heap.size (by omega)).trans b0))
  have HI := hid (And.intro hI (hI.quiet (Kp.alloc W (.cells #[.int .i64 v.kind, .int .i64 v.n, .slice ao v.l.length cap] 33))))
  have HV := hid (vbegun_of hN hR hA (W.alloc (.cells #[.int .i64 v.kind, .int .i64 v.n, .slice ao v.l.length cap] 33)))
  clear b0 hI
  have hs0 : (W.alloc (.cells #[.int .i64 v.kind, .int .i64 v.n, .slice ao v.l.length cap] 33)).heap.size = W.heap.size + 1 := by simp
  rw [hs0] at HV
  have HLOW := hid (show ∀ w' : World, Below (W.heap.size + 1) (W.alloc (.cells #[.int .i64 v.kind, .int .i64 v.n, .slice ao v.l.length cap] 33)) w' → Below W.heap.size W w' from fun w' h => ((Kp.alloc (F := fun _ => False) W (.cells #[.int .i64 v.kind, .int .i64 v.n, .slice ao v.l.length cap] 33)).low).trans (h.mono (Nat.le_succ _)))
  have HIS := hid (show ∀ w2 : World, Below (W.heap.size + 1) (W.alloc (.cells #[.int .i64 v.kind, .int .i64 v.n, .slice ao v.l.length cap] 33)) w2 → Is w2 v ao from fun w2 b2 => HI.out.2.kept (fun a x hc => (World.cell?_of_block (b2.block a.block (by have := World.block_lt_of_cell? _ a hc; rw [hs0] at this; exact this))).trans hc))
  cases hd : decide (500 < v.size) with
  | true =>
    go_enter Tryz.func5, Tryz.ntmps5
    go_wp2_with (first
      | (go_at_call 10; refine (great_any v ao cap w2 (HIS.out w2 b2)).mono ?_; rintro e w3 ⟨rfl, q3⟩; rw [hd])
      | (go_at_call 7; refine HV.out.mono ?_; rintro e w2 ⟨rfl, b2⟩; obtain ⟨z0, z1, z2⟩ := HBX.out _ b2))
    go_ret
    exact ⟨rfl, HLOW.out _ (low_of b2 q3 (by have := b2.size; omega))⟩
  | false =>
    have hsz : v.size ≤ 500 := by simpa using hd
    by_cases h1 : v.check = 0
    · by_cases h2 : (⟨3, 0, [v]⟩ : V).check = 0
      · have hss : (⟨3, 0, [v]⟩ : V).size ≤ 500 := by rw [size_mk, sizes_one]; have := check_size h1; omega
        have HS := hid (fun (w3 : World) (h : Is w3 v ao) => check_any ⟨3, 0, [v]⟩ (some ⟨w3.heap.size, 0, none⟩) 1 (w3.alloc (.cells #[.int .i64 v.kind, .int .i64 v.n, .slice ao v.l.length cap] 33)) (seal_is h) hss)
        simp only [List.length_singleton, h2] at HS
        go_enter Tryz.func5, Tryz.ntmps5
        go_wp2_with (first
          | (go_at_call 20; refine (HS.out w4 (HIS.out w4 b4)).mono ?_; rintro e w5 ⟨rfl, q5⟩; have B5 := hid (low_of (low_of b4 (Kp.alloc _ _) (by have := b4.size; omega)) q5 (by have := b4.size; simp; omega)))
          | (go_at_call 20; refine (check_any v ao cap w3 (HIS.out w3 b3) hsz).mono ?_; rintro e w4 ⟨rfl, q4⟩; rw [h1]; have b4 := low_of b3 q4 (by have := b3.size; omega); obtain ⟨x0, x1, x2⟩ := HBX.out _ b4)
          | (go_at_call 10; refine (great_any v ao cap w2 (HIS.out w2 b2)).mono ?_; rintro e w3 ⟨rfl, q3⟩; rw [hd]; have b3 := low_of b2 q3 (by have := b2.size; omega); obtain ⟨y0, y1, y2⟩ := HBX.out _ b3)
          | (go_at_call 7; refine HV.out.mono ?_; rintro e w2 ⟨rfl, b2⟩; obtain ⟨z0, z1, z2⟩ := HBX.out _ b2))
        obtain ⟨pn, hpn, hpe⟩ := mod4 p
        obtain ⟨qn, hqn, hqe⟩ := mod4 q
        rw [hpe, hqe]
        clear hpe hqe z0 z1 z2 y0 y1 y2 x0 x1 x2 b2 b3 b4 q3 q4 q5 HS HV hA
        obtain ⟨o1, ho1⟩ : ∃ o, o = Obj.cells #[.int .i64 3, .int .i64 0, .int .i64 0, .slice none 0 0] 73 := ⟨_, rfl⟩
        obtain ⟨o2, ho2⟩ : ∃ o, o = Obj.cells #[.int .i64 11, .int .i64 0, .int .i64 0, .slice (some ⟨w5.heap.size, 0, none⟩) 1 1, .int .i64 12, .int .i64 0, .int .i64 0, .slice (some ⟨w5.heap.size, 0, none⟩) 1 1] 73 := ⟨_, rfl⟩
        obtain ⟨o3, ho3⟩ : ∃ o, o = Obj.cells #[.slice (some ⟨w5.heap.size + 1, 0, none⟩) 2 2] 75 := ⟨_, rfl⟩
        obtain ⟨o4, ho4⟩ : ∃ o, o = Obj.cells #[.slice (some ⟨w5.heap.size + 1, 0, none⟩) 2 2, .slice (some ⟨w5.heap.size + 1, 0, none⟩) 2 2, .slice (some ⟨w5.heap.size + 1, 0, none⟩) 2 2, .slice (some ⟨w5.heap.size + 1, 0, none⟩) 2 2] 75 := ⟨_, rfl⟩
        rw [← ho1, ← ho2, ← ho3, ← ho4]
        obtain ⟨W8, hW8⟩ : ∃ W8, W8 = (((w5.alloc o1).alloc o2).alloc o3).alloc o4 := ⟨_, rfl⟩
        have hn := four_new w5 o1 o2 o3 o4
        rw [← hW8] at hn ⊢
        have q8 : Quiet w5 W8 := by rw [hW8]; exact (((Kp.alloc _ _).trans (Kp.alloc _ _)).trans (Kp.alloc _ _)).trans (Kp.alloc _ _)
        obtain ⟨n1, n2, n3, n4⟩ := hn
        rw [ho1] at n1
        rw [ho2] at n2
        rw [ho4] at n4
        refine (boxes4 hN sealM (some ⟨w5.heap.size + 1, 0, none⟩) 2 (w5.heap.size + 1 + 1 + 1) W8 sealM_fault (seal_fo n1 n2) sealM_sizes (fun j hj => by
          obtain rfl | rfl | rfl | rfl : j = 0 ∨ j = 1 ∨ j = 2 ∨ j = 3 := by omega
          all_goals simp [World.cell?, n4, sealM])).mono ?_
        rintro e w6 ⟨bb, g, wd, vn, vo, vl, hb, he, hbox, q6⟩
        subst he
        have hz5 : W.heap.size + 1 ≤ w5.heap.size := by have := B5.out.size; omega
        have hz8 : W.heap.size + 1 ≤ W8.heap.size := Nat.le_trans hz5 q8.size
        have b6 := low_of (low_of B5.out q8 hz5) q6 hz8
        obtain ⟨z0, z1, z2⟩ := HBX.out _ b6
        have hF6 : ∀ k, OwnB bb g wd vn vo vl k → W.heap.size + 1 ≤ k := fun k e => by obtain ⟨a, b, c, d, hh⟩ := hbox; have := (hh.own k e).1; omega
        have HR1 := hid (hR W8.heap.size bb g wd vn vo vl (msAt sealM 4) s0 pn 0 9 v ao cap w6 hbox (fits_of (by kernel_rfl)) s0_fits (in_small _ (by omega)) (in_small _ (by decide)) (in_small _ (by decide)) (by simp [s0]) (safe_is HI.out.1 (HLOW.out _ b6) (fun k e => by have := hF6 k e; omega)) hsz)
        unfold RunQ at HR1
        simp only [seal_run pn hpn v h1 h2, gotV, gotC, List.length_singleton] at HR1
        have B6 := hid b6
        have H6 := hid (And.intro hbox hF6)
        clear n1 n2 n3 n4 hW8 ho1 ho2 ho3 ho4 q6 q8 b6 hbox hF6 B5
        go_wp2_with fail
        refine HR1.out.mono ?_
        rintro e w7 ⟨ao7, cap7, vn7, vo7, vl7, he, hs7, hbox7, go7⟩
        subst he
        obtain ⟨a6, b6, c6, d6, hh6⟩ := H6.out.1
        have b7 := (B6.out).trans (go7.kp.below (by have := B6.out.size; omega) fun k e => H6.out.2 k e)
        obtain ⟨a7, b7', c7, d7, hh7⟩ := hbox7
        have hF7 : ∀ k, OwnB bb g wd vn7 vo7 vl7 k → W.heap.size + 1 ≤ k := fun k e => by have := (hh7.own k e).1; omega
        have hz7 : W.heap.size + 1 ≤ w7.heap.size := by have := b7.size; omega
        have b7a := low_of b7 (Kp.alloc w7 (.cells #[.int .i64 3, .int .i64 pn, .slice ao7 1 cap7] 33)) hz7
        obtain ⟨y0, y1, y2⟩ := HBX.out _ b7a
        have hs7' : (⟨3, (pn : Int), [v]⟩ : V).size ≤ 500 := by rw [size_mk, sizes_one]; have := check_size h1; omega
        have HR2 := hid (hR W8.heap.size bb g wd vn7 vo7 vl7 (msAt sealM 4) s0 qn 1 9 ⟨3, pn, [v]⟩ ao7 cap7 (w7.alloc (.cells #[.int .i64 3, .int .i64 pn, .slice ao7 1 cap7] 33)) ⟨_, _, _, _, hh7.quiet (Kp.alloc _ _)⟩ (fits_of (by kernel_rfl)) s0_fits (in_small _ (by omega)) (in_small _ (by decide)) (in_small _ (by decide)) (by simp [s0]) (safe_quiet hs7 (Kp.alloc _ _)) hs7')
        unfold RunQ at HR2
        simp only [open_run pn qn hqn v h2, List.length_singleton] at HR2
        have B7 := hid (And.intro b7a hF7)
        have HH7 := hid (hh7.quiet (Kp.alloc w7 (.cells #[.int .i64 3, .int .i64 pn, .slice ao7 1 cap7] 33)))
        clear hs7 hh6 hh7 go7 b7 b7a hF7 H6 B6 HR1 z0 z1 z2
        by_cases hpq : pn = qn
        · subst hpq
          simp only [if_true, gotV, gotC] at HR2
          go_wp2_with fail
          refine HR2.out.mono ?_
          rintro e w9 ⟨ao9, cap9, vn9, vo9, vl9, he, hs9, hbox9, go9⟩
          subst he
          have b9 := (B7.out.1).trans (go9.kp.below (by have := B7.out.1.size; omega) fun k e => B7.out.2 k e)
          have b9a := low_of b9 (Kp.alloc w9 (.cells #[.int .i64 v.kind, .int .i64 v.n, .slice ao9 v.l.length cap9] 33)) (by have := b9.size; omega)
          obtain ⟨x0, x1, x2⟩ := HBX.out _ b9a
          have HSV := hid (sameVal_any v v ao9 ao cap9 cap (w9.alloc (.cells #[.int .i64 v.kind, .int .i64 v.n, .slice ao9 v.l.length cap9] 33)) (hs9.now.quiet (Kp.alloc _ _)) (HIS.out _ b9a) hsz)
          rw [same_refl] at HSV
          have B9 := hid b9a
          have hz9 : W.heap.size + 1 ≤ (w9.alloc (.cells #[.int .i64 v.kind, .int .i64 v.n, .slice ao9 v.l.length cap9] 33)).heap.size := by have := b9a.size; omega
          clear hs9 go9 b9 b9a hbox9 HR2
          go_wp2_with (go_at_call 13; refine HSV.out.mono ?_; rintro e w10 ⟨rfl, q10⟩)
          go_ret
          exact ⟨rfl, HLOW.out _ (low_of B9.out q10 hz9)⟩
        · have hne : ((pn : Int) == (qn : Int)) = false := by simp; omega
          have hne2 : ((pn : Int) != (qn : Int)) = true := by simp; omega
          have hne3 : ¬ (pn : Int) = (qn : Int) := by omega
          simp only [hpq, if_false, gotV, gotC, v0, List.length_nil] at HR2
          go_wp2_with fail
          refine HR2.out.mono ?_
          rintro e w9 ⟨ao9, cap9, vn9, vo9, vl9, he, hs9, hbox9, go9⟩
          subst he
          have b9 := (B7.out.1).trans (go9.kp.below (by have := B7.out.1.size; omega) fun k e => B7.out.2 k e)
          have b9a := low_of b9 (Kp.alloc w9 (.cells #[.int .i64 0, .int .i64 0, .slice ao9 0 cap9] 33)) (by have := b9.size; omega)
          have HSV := hid (sameVal_any v0 v0 ao9 none cap9 0 (w9.alloc (.cells #[.int .i64 0, .int .i64 0, .slice ao9 0 cap9] 33)) (Is.leaf _ v0 v0_fits rfl _) (Is.leaf _ v0 v0_fits rfl _) (by decide))
          rw [same_refl] at HSV
          simp only [v0, List.length_nil] at HSV
          have B9 := hid b9a
          have hz9 : W.heap.size + 1 ≤ (w9.alloc (.cells #[.int .i64 0, .int .i64 0, .slice ao9 0 cap9] 33)).heap.size := by have := b9a.size; omega
          clear hs9 go9 b9 b9a hbox9 HR2
          go_wp2_with (go_at_call 13; refine HSV.out.mono ?_; rintro e w10 ⟨rfl, q10⟩)
          go_ret
          exact ⟨rfl, HLOW.out _ (low_of B9.out q10 hz9)⟩
      · have hcb : ((⟨3, 0, [v]⟩ : V).check != 0) = true := by simpa using h2
        have hss : (⟨3, 0, [v]⟩ : V).size ≤ 500 := by rw [size_mk, sizes_one]; have := check_size h1; omega
        have HS := hid (fun (w3 : World) (h : Is w3 v ao) => check_any ⟨3, 0, [v]⟩ (some ⟨w3.heap.size, 0, none⟩) 1 (w3.alloc (.cells #[.int .i64 v.kind, .int .i64 v.n, .slice ao v.l.length cap] 33)) (seal_is h) hss)
        simp only [List.length_singleton] at HS
        generalize (⟨3, 0, [v]⟩ : V).check = c3 at *
        go_enter Tryz.func5, Tryz.ntmps5
        go_wp2_with (first
          | (go_at_call 20; refine (HS.out w4 (HIS.out w4 b4)).mono ?_; rintro e w5 ⟨rfl, q5⟩)
          | (go_at_call 20; refine (check_any v ao cap w3 (HIS.out w3 b3) hsz).mono ?_; rintro e w4 ⟨rfl, q4⟩; rw [h1]; have b4 := low_of b3 q4 (by have := b3.size; omega); obtain ⟨x0, x1, x2⟩ := HBX.out _ b4)
          | (go_at_call 10; refine (great_any v ao cap w2 (HIS.out w2 b2)).mono ?_; rintro e w3 ⟨rfl, q3⟩; rw [hd]; have b3 := low_of b2 q3 (by have := b2.size; omega); obtain ⟨y0, y1, y2⟩ := HBX.out _ b3)
          | (go_at_call 7; refine HV.out.mono ?_; rintro e w2 ⟨rfl, b2⟩; obtain ⟨z0, z1, z2⟩ := HBX.out _ b2))
        go_ret
        exact ⟨rfl, HLOW.out _ (low_of (low_of b4 (Kp.alloc _ _) (by have := b4.size; omega)) q5 (by have := b4.size; simp; omega))⟩
    · have hcb : (v.check != 0) = true := by simpa using h1
      have HC := hid (fun (w3 : World) (h : Is w3 v ao) => check_any v ao cap w3 h hsz)
      generalize v.check = c1 at *
      go_enter Tryz.func5, Tryz.ntmps5
      go_wp2_with (first
        | (go_at_call 20; refine (HC.out w3 (HIS.out w3 b3)).mono ?_; rintro e w4 ⟨rfl, q4⟩)
        | (go_at_call 10; refine (great_any v ao cap w2 (HIS.out w2 b2)).mono ?_; rintro e w3 ⟨rfl, q3⟩; rw [hd]; have b3 := low_of b2 q3 (by have := b2.size; omega); obtain ⟨y0, y1, y2⟩ := HBX.out _ b3)
        | (go_at_call 7; refine HV.out.mono ?_; rintro e w2 ⟨rfl, b2⟩; obtain ⟨z0, z1, z2⟩ := HBX.out _ b2))
      go_ret
      exact ⟨rfl, HLOW.out _ (low_of b3 q4 (by have := b3.size; omega))⟩
end Go.Proofs.YtcgjjkaifklnnaaGreat
namespace Go.Proofs.YtcgjjkaifklnnaaGreat
open Go.ChangeShapes Go.WideShapes Go.ChangeAt Go.RowKit
/-- The block of a row. -/
abbrev blk (a : Option Addr) (n c : Nat) : Option Nat := (Value.slice a n c).ownBlock
/-- Two rows of values; each value stays whatever becomes of F and of both rows. -/
structure Two (F : Nat → Prop) (lo : Nat) (w : World) (sa : Option Addr) (n sc : Nat) (ps : List Kd) (na : Option Addr) (m nc : Nat) (qs : List Kd) : Prop where
  rs : w.ownsRow lo 33 3 (.slice sa n sc) n (tris ps)
  rn : w.ownsRow lo 33 3 (.slice na m nc) m (tris qs)
  ls : n = ps.length
  ln : m = qs.length
  ap : ∀ k, blk sa n sc = some k → blk na m nc ≠ some k
  all : ∀ p, p ∈ ps ∨ p ∈ qs → SafeF (fun k => F k ∨ blk sa n sc = some k ∨ blk na m nc = some k) (fun w => Is w p.1 p.2.1) w
section
variable {F F' : Nat → Prop} {lo : Nat} {w w' : World} {sa : Option Addr} {n sc : Nat} {ps : List Kd} {na : Option Addr} {m nc : Nat} {qs : List Kd}
theorem Two.nil (F : Nat → Prop) (lo : Nat) (w : World) : Two F lo w none 0 0 [] none 0 0 [] :=
  ⟨World.ownsRow_nil _ _ _ _, World.ownsRow_nil _ _ _ _, rfl, rfl, fun k e => by simp [Value.ownBlock] at e, fun p hp => by simp at hp⟩
/-- Other blocks turn. -/
theorem Two.goes (H : Two F lo w sa n sc ps na m nc qs) (q : Kp F w w') (hF : ∀ k, blk sa n sc = some k ∨ blk na m nc = some k → ¬ F k) (ho : ∀ k, F' k → F k ∨ w.heap.size ≤ k) : Two F' lo w' sa n sc ps na m nc qs := by
  refine ⟨q.row H.rs fun k e => hF k (.inl e), q.row H.rn fun k e => hF k (.inr e), H.ls, H.ln, H.ap, fun p hp => (H.all p hp).step (q.mono fun k _ e => .inl e) fun k hk e => ?_⟩
  rcases e with e | e
  · rcases ho k e with e | e
    · exact .inl e
    · omega
  · exact .inr e
theorem Two.quiet (H : Two F lo w sa n sc ps na m nc qs) (q : Quiet w w') : Two F lo w' sa n sc ps na m nc qs := by
  refine ⟨q.row H.rs fun _ _ e => e, q.row H.rn fun _ _ e => e, H.ls, H.ln, H.ap, fun p hp => (H.all p hp).step (q.mono fun _ _ e => e.elim) fun k _ e => e⟩
/-- One more value. -/
theorem Two.push {o : Obj} {g cap : Nat} {p : Kd} (H : Two F lo w sa n sc ps na m nc qs) (hv : SafeF (fun k => F k ∨ blk sa n sc = some k ∨ blk na m nc = some k) (fun w => Is w p.1 p.2.1) w)
    (hr : w'.ownsRow lo 33 3 (.slice (some ⟨g, 0, none⟩) (n + 1) cap) (n + 1) (tris ps ++ tri p)) (hg : (w.alloc o).grownBy w' (blk sa n sc)) (hat : blk sa n sc = some g ∨ g = w.heap.size + 1) :
    Two F lo w' (some ⟨g, 0, none⟩) (n + 1) cap (ps ++ [p]) na m nc qs ∧ Kp (fun k => blk sa n sc = some k) w w' := by
  have k1 : Kp (fun k => blk sa n sc = some k) w w' := (Kp.alloc w o).trans (Kp.grown hg fun k _ e => e.symm)
  refine ⟨⟨by rw [tris_app, tris_one]; exact hr, k1.row H.rn fun k e e2 => H.ap k e2 e, by rw [List.length_append, ← H.ls]; rfl, H.ln, fun k e e2 => ?_, fun x hx => ?_⟩, k1⟩
  · simp [Value.ownBlock] at e
    subst e
    rcases hat with e | e
    · exact H.ap g e e2
    · have := (H.rn.lt g e2).2; omega
  · have hs : SafeF (fun k => F k ∨ blk sa n sc = some k ∨ blk na m nc = some k) (fun w => Is w x.1 x.2.1) w := by
      rcases hx with hx | hx
      · rcases List.mem_append.1 hx with hx | hx
        · exact H.all x (.inl hx)
        · simp at hx; subst hx; exact hv
      · exact H.all x (.inr hx)
    refine hs.step (k1.mono fun k _ e => .inr (.inl e)) fun k hk e => ?_
    rcases e with e | e | e
    · exact .inl e
    · simp [Value.ownBlock] at e
      subst e
      rcases hat with e | e
      · exact .inr (.inl e)
      · omega
    · exact .inr (.inr e)
/-- One less. -/
theorem Two.pop {g : Nat} {p : Kd} (H : Two F lo w (some ⟨g, 0, none⟩) (n + 1) sc (ps ++ [p]) na m nc qs) : Two F lo w (some ⟨g, 0, none⟩) n sc ps na m nc qs ∧ SafeF (fun k => F k ∨ blk (some ⟨g, 0, none⟩) n sc = some k ∨ blk na m nc = some k) (fun w => Is w p.1 p.2.1) w ∧ ∀ j, j < 3 → w.cell? ⟨g, n * 3 + j, none⟩ = (tri p)[j]? := by
  have hr := H.rs
  rw [tris_app, tris_one] at hr
  obtain ⟨h1, h2⟩ := owns_pop hr rfl
  have hb : ∀ k : Nat, blk (some ⟨g, 0, none⟩) n sc = some k ↔ blk (some ⟨g, 0, none⟩) (n + 1) sc = some k := fun k => by simp [Value.ownBlock]
  have hl := H.ls
  rw [List.length_append] at hl
  refine ⟨⟨h1, H.rn, by simpa using hl, H.ln, fun k e => H.ap k ((hb k).1 e), fun x hx => (H.all x (by rcases hx with hx | hx; exact .inl (by simp [hx]); exact .inr hx)).mono fun k _ e => ?_⟩, (H.all p (.inl (by simp))).mono fun k _ e => ?_, h2⟩
  · rcases e with e | e | e
    · exact .inl e
    · exact .inr (.inl ((hb k).1 e))
    · exact .inr (.inr e)
  · rcases e with e | e | e
    · exact .inl e
    · exact .inr (.inl ((hb k).1 e))
    · exact .inr (.inr e)
/-- The other way round. -/
theorem Two.swap (H : Two F lo w sa n sc ps na m nc qs) : Two F lo w na m nc qs sa n sc ps :=
  ⟨H.rn, H.rs, H.ln, H.ls, fun k e e2 => H.ap k e2 e, fun p hp => (H.all p hp.symm).mono fun k _ e => by
    rcases e with e | e | e
    · exact .inl e
    · exact .inr (.inr e)
    · exact .inr (.inl e)⟩
/-- The cells of a value in the row. -/
theorem Two.cells (H : Two F lo w sa n sc ps na m nc qs) (i : Nat) (hi : i < n) : ∃ g, sa = some ⟨g, 0, none⟩ ∧ ∀ j, j < 3 → w.cell? ⟨g, i * 3 + j, none⟩ = (tri (ps[i]'(by rw [← H.ls]; exact hi)))[j]? := by
  obtain ⟨g, e, d⟩ := owns_at H.rs (by omega)
  exact ⟨g, e, fun j hj => by rw [d (i * 3 + j) (by omega), tris_at ps i j (by rw [← H.ls]; exact hi) hj]⟩
/-- A row of values is not the box's. -/
theorem Two.free {B bb g wd : Nat} {vn vo vl : Value} {ms : Mods} {s : Sg} {a b c d : Pg} (H : Two F lo w sa n sc ps na m nc qs) (hb : BoxS B w bb g wd vn vo vl ms s a b c d) : ∀ k, blk sa n sc = some k ∨ blk na m nc = some k → ¬ OwnB bb g wd vn vo vl k := by
  intro k hk
  have : ∃ cs, w.heap[k]? = some (.cells cs 33 (0, 0)) := by
    rcases hk with hk | hk
    · exact row_box H.rs hk
    · exact row_box H.rn hk
  obtain ⟨cs, hc⟩ := this
  exact hb.free hc (by decide) (by decide) (by decide) (by decide) (by decide) (by decide)
end
end Go.Proofs.YtcgjjkaifklnnaaGreat
