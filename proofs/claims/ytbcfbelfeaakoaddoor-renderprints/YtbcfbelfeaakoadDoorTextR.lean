/- The document's own text of an expression, and of a module. -/
import Derived.Test.YtbcfbelfeaakoadDoorPrintX
import Derived.Test.YtbcfbelfeaakoadDoorRWord
import Derived.Test.YtbcfbelfeaakoadDoorRefTell
namespace Go.Proofs.YtbcfbelfeaakoadDoor
open Go.ChangeShapes Go.WideShapes Go.ChangeAt Go.RowKit
theorem ba_app (a b : List UInt8) : (ByteArray.mk a.toArray ++ ByteArray.mk b.toArray) = ByteArray.mk (a ++ b).toArray := by
  apply ByteArray.ext
  rw [ByteArray.data_append]
  simp
theorem ba_one (c : UInt8) : (ByteArray.mk #[c]) = ByteArray.mk [c].toArray := rfl
/-- What was told of an expression with so many of those in it. -/
def accX (v : V) (j : Nat) : List UInt8 := 40 :: (headX v ++ texts (v.l.take j))
theorem acc_next (v : V) (j : Nat) (h : j < v.l.length) : accX v (j + 1) = accX v j ++ 32 :: v.l[j].text := by rw [accX, texts_take v.l j h, accX]; simp
theorem acc_end (v : V) : v.text = accX v v.l.length ++ [41] := by rw [text_eq, accX, List.take_length]; simp
theorem acc_zero (v : V) : accX v 0 = 40 :: (nameIn wordL v.kind ++ tailX v) := by rw [accX, headX]; simp [texts_nil]
theorem acc_len {w : World} {v : V} {ao : Option Addr} (h : Is w v ao) (hS : v.size ≤ 20000) (j : Nat) : (accX v j).length ≤ 700000 := by
  have h1 : (texts (v.l.take j)).length ≤ 32 * sizes (v.l.take j) := texts_len fun x hx => by obtain ⟨ax, hx'⟩ := h.kid (List.mem_of_mem_take hx); exact text_len x ax hx'
  have h2 := sizes_take_le v.l j
  have h3 := head_len h.fit
  have h4 := size_eq v
  rw [accX, List.length_cons, List.length_append]; omega
/-- What ExprText tells. -/
def TextR (v : V) : Prop := ∀ (ao : Option Addr) (cap : Nat) (w : World), Laid w → Is w v ao → v.size ≤ 20000 →
    Calls Tryd.prog 32 #[.agg #[.int .i64 v.kind, .int .i64 v.k, .int .i64 v.n, .slice ao v.l.length cap]] w fun e w' => e = .returned (.string ⟨v.text.toArray⟩) ∧ Quiet w w'
set_option maxRecDepth 8000 in
set_option maxHeartbeats 8000000 in
theorem textR_any (v : V) : TextR v := by
  induction v using V.ind' with
  | h v ih =>
    intro ao cap w ht hI hS
    have hvl := sizes_len v.l
    have hsz := size_eq v
    have hvl5 : v.l.length ≤ 20000 := by omega
    have HSZ := hid (fun j (h : j < v.l.length) => (show v.l[j].size ≤ 20000 from by have := size_get v.l j h; omega))
    have HTL := hid (fun x (hx : x ∈ v.l) => (show x.text.length + 1 ≤ 32 * x.size from by obtain ⟨ax, hx'⟩ := hI.kid hx; exact text_len x ax hx'))
    have HAL := hid (fun j => acc_len hI hS j)
    obtain ⟨hfk, hfkk, hfn⟩ := hI.fit
    have hnl := itoa_len hfn
    have hkkl := itoa_len hfkk
    have hbn := bin_len v.k
    have hwl := word_len v.kind
    have q1 : Quiet w (w.alloc (.cells #[.int .i64 v.kind, .int .i64 v.k, .int .i64 v.n, .slice ao v.l.length cap] 42)) := Kp.alloc _ _
    have hb1 := heap_alloc_new w (.cells #[.int .i64 v.kind, .int .i64 v.k, .int .i64 v.n, .slice ao v.l.length cap] 42)
    have HBX := hid (fun (w' : World) (q : Quiet (w.alloc (.cells #[.int .i64 v.kind, .int .i64 v.k, .int .i64 v.n, .slice ao v.l.length cap] 42)) w') => box_cells ((q.block _ (lt_of_block hb1) fun e => e).trans hb1))
    have HW := hid (wordOf_any v.kind (w.alloc (.cells #[.int .i64 v.kind, .int .i64 v.k, .int .i64 v.n, .slice ao v.l.length cap] 42)))
    have HT := hid (ht.quiet q1)
    have HF := hid (And.intro hfkk hfn)
    have HI := hid (And.intro (hI.quiet q1) ih)
    have HA := hid (acc_zero v)
    have HE := hid (acc_end v)
    have HNX := hid (fun j h => acc_next v j h)
    have hE2 := hid (show tailX v = if v.kind = 2 then 32 :: Lib.itoa v.n else if v.kind = 4 ∨ v.kind = 18 ∨ v.kind = 15 then 32 :: Lib.itoa v.k else if v.kind = 6 then 32 :: nameIn binL v.k else [] from rfl)
    have HQ := hid q1
    have hcase : v.kind = 2 ∨ v.kind = 4 ∨ v.kind = 18 ∨ v.kind = 15 ∨ v.kind = 6 ∨ (v.kind ≠ 2 ∧ v.kind ≠ 4 ∧ v.kind ≠ 18 ∧ v.kind ≠ 15 ∧ v.kind ≠ 6) := by omega
    clear hI ih hfk hfkk hfn hb1 q1 ht
    generalize hkd : v.kind = kd at *
    rcases hcase with hc | hc | hc | hc | hc | hc
    · subst hc
      have HE2 := hid (show tailX v = 32 :: Lib.itoa v.n by rw [hE2.out]; simp)
      clear hE2
      go_enter Tryd.func32, Tryd.ntmps32
      go_wp2_with (first
        | (go_at_call 46; refine HW.out.mono ?_; rintro e w2 ⟨rfl, q2⟩; obtain ⟨y0, y1, y2, y3⟩ := HBX.out _ q2)
        | (go_at_call 40; refine (fmt_any v.n HF.out.2 _ (HT.out.quiet q2)).mono ?_; rintro e w3 ⟨rfl, q3⟩; replace q3 := q2.trans q3; obtain ⟨z0, z1, z2, z3⟩ := HBX.out _ q3))
      clear y0 y1 y2 y3 z0 z1 z2 z3
      go_loopw [3, 4] (fun s i wr => ∃ j : Nat, j ≤ v.l.length ∧ i = .int .i64 j ∧ s = .string ⟨(accX v j).toArray⟩ ∧ Quiet (w.alloc (.cells #[.int .i64 2, .int .i64 v.k, .int .i64 v.n, .slice ao v.l.length cap] 42)) wr) (fun _ i _ => v.l.length - (intOf i).toNat)
      case atStart =>
        refine ⟨0, Nat.zero_le _, rfl, ?_, q3⟩
        rw [HA.out, HE2.out]
        rw [ba_one, ba_one, ba_app, ba_app, ba_app]; simp
      case round =>
        obtain ⟨j, hj, rfl, rfl, q⟩ := hrel
        obtain ⟨x0, x1, x2, x3⟩ := HBX.out _ q
        have hacc := HAL.out j
        by_cases hlt : j < v.l.length
        · obtain ⟨bb, oo, rfl, ⟨d0, d1, d2⟩, ca, cc, ds, hk⟩ := (HI.out.1.quiet q).get j hlt
          have HC := hid (HI.out.2 v.l[j] (List.getElem_mem hlt) ca cc _ (HT.out.quiet q) hk (HSZ.out j hlt))
          have HN := hid (HNX.out j hlt)
          have hul : v.l[j].text.length ≤ 700000 := by have h1 := HTL.out v.l[j] (List.getElem_mem hlt); have h2 := HSZ.out j hlt; omega
          generalize v.l[j] = u at *
          generalize accX v j = ax at *
          have HQ2 := hid q
          clear hk q
          go_wp2_with (go_at_call 32; refine HC.out.mono ?_; rintro e w3 ⟨rfl, q3⟩)
          refine ⟨⟨j + 1, by omega, by go_num, ?_, HQ2.out.trans q3⟩, by simp [intOf]; omega⟩
          rw [HN.out, ba_one, ba_app, ba_app]; rfl
        · have hjl : j = v.l.length := by omega
          subst hjl
          have HQ2 := hid q
          generalize accX v v.l.length = ax at *
          clear q
          go_wp2
          go_ret
          exact ⟨by rw [HE.out, ba_one, ba_app]; rfl, HQ.out.trans HQ2.out⟩
    · subst hc
      have HE2 := hid (show tailX v = 32 :: Lib.itoa v.k by rw [hE2.out]; simp)
      clear hE2
      go_enter Tryd.func32, Tryd.ntmps32
      go_wp2_with (first
        | (go_at_call 46; refine HW.out.mono ?_; rintro e w2 ⟨rfl, q2⟩; obtain ⟨y0, y1, y2, y3⟩ := HBX.out _ q2)
        | (go_at_call 47; refine (itoa_any v.k HF.out.1 _ (HT.out.quiet q2)).mono ?_; rintro e w3 ⟨rfl, q3⟩; replace q3 := q2.trans q3; obtain ⟨z0, z1, z2, z3⟩ := HBX.out _ q3))
      clear y0 y1 y2 y3 z0 z1 z2 z3
      go_loopw [3, 4] (fun s i wr => ∃ j : Nat, j ≤ v.l.length ∧ i = .int .i64 j ∧ s = .string ⟨(accX v j).toArray⟩ ∧ Quiet (w.alloc (.cells #[.int .i64 4, .int .i64 v.k, .int .i64 v.n, .slice ao v.l.length cap] 42)) wr) (fun _ i _ => v.l.length - (intOf i).toNat)
      case atStart =>
        refine ⟨0, Nat.zero_le _, rfl, ?_, q3⟩
        rw [HA.out, HE2.out]
        rw [ba_one, ba_one, ba_app, ba_app, ba_app]; simp
      case round =>
        obtain ⟨j, hj, rfl, rfl, q⟩ := hrel
        obtain ⟨x0, x1, x2, x3⟩ := HBX.out _ q
        have hacc := HAL.out j
        by_cases hlt : j < v.l.length
        · obtain ⟨bb, oo, rfl, ⟨d0, d1, d2⟩, ca, cc, ds, hk⟩ := (HI.out.1.quiet q).get j hlt
          have HC := hid (HI.out.2 v.l[j] (List.getElem_mem hlt) ca cc _ (HT.out.quiet q) hk (HSZ.out j hlt))
          have HN := hid (HNX.out j hlt)
          have hul : v.l[j].text.length ≤ 700000 := by have h1 := HTL.out v.l[j] (List.getElem_mem hlt); have h2 := HSZ.out j hlt; omega
          generalize v.l[j] = u at *
          generalize accX v j = ax at *
          have HQ2 := hid q
          clear hk q
          go_wp2_with (go_at_call 32; refine HC.out.mono ?_; rintro e w3 ⟨rfl, q3⟩)
          refine ⟨⟨j + 1, by omega, by go_num, ?_, HQ2.out.trans q3⟩, by simp [intOf]; omega⟩
          rw [HN.out, ba_one, ba_app, ba_app]; rfl
        · have hjl : j = v.l.length := by omega
          subst hjl
          have HQ2 := hid q
          generalize accX v v.l.length = ax at *
          clear q
          go_wp2
          go_ret
          exact ⟨by rw [HE.out, ba_one, ba_app]; rfl, HQ.out.trans HQ2.out⟩
    · subst hc
      have HE2 := hid (show tailX v = 32 :: Lib.itoa v.k by rw [hE2.out]; simp)
      clear hE2
      go_enter Tryd.func32, Tryd.ntmps32
      go_wp2_with (first
        | (go_at_call 46; refine HW.out.mono ?_; rintro e w2 ⟨rfl, q2⟩; obtain ⟨y0, y1, y2, y3⟩ := HBX.out _ q2)
        | (go_at_call 47; refine (itoa_any v.k HF.out.1 _ (HT.out.quiet q2)).mono ?_; rintro e w3 ⟨rfl, q3⟩; replace q3 := q2.trans q3; obtain ⟨z0, z1, z2, z3⟩ := HBX.out _ q3))
      clear y0 y1 y2 y3 z0 z1 z2 z3
      go_loopw [3, 4] (fun s i wr => ∃ j : Nat, j ≤ v.l.length ∧ i = .int .i64 j ∧ s = .string ⟨(accX v j).toArray⟩ ∧ Quiet (w.alloc (.cells #[.int .i64 18, .int .i64 v.k, .int .i64 v.n, .slice ao v.l.length cap] 42)) wr) (fun _ i _ => v.l.length - (intOf i).toNat)
      case atStart =>
        refine ⟨0, Nat.zero_le _, rfl, ?_, q3⟩
        rw [HA.out, HE2.out]
        rw [ba_one, ba_one, ba_app, ba_app, ba_app]; simp
      case round =>
        obtain ⟨j, hj, rfl, rfl, q⟩ := hrel
        obtain ⟨x0, x1, x2, x3⟩ := HBX.out _ q
        have hacc := HAL.out j
        by_cases hlt : j < v.l.length
        · obtain ⟨bb, oo, rfl, ⟨d0, d1, d2⟩, ca, cc, ds, hk⟩ := (HI.out.1.quiet q).get j hlt
          have HC := hid (HI.out.2 v.l[j] (List.getElem_mem hlt) ca cc _ (HT.out.quiet q) hk (HSZ.out j hlt))
          have HN := hid (HNX.out j hlt)
          have hul : v.l[j].text.length ≤ 700000 := by have h1 := HTL.out v.l[j] (List.getElem_mem hlt); have h2 := HSZ.out j hlt; omega
          generalize v.l[j] = u at *
          generalize accX v j = ax at *
          have HQ2 := hid q
          clear hk q
          go_wp2_with (go_at_call 32; refine HC.out.mono ?_; rintro e w3 ⟨rfl, q3⟩)
          refine ⟨⟨j + 1, by omega, by go_num, ?_, HQ2.out.trans q3⟩, by simp [intOf]; omega⟩
          rw [HN.out, ba_one, ba_app, ba_app]; rfl
        · have hjl : j = v.l.length := by omega
          subst hjl
          have HQ2 := hid q
          generalize accX v v.l.length = ax at *
          clear q
          go_wp2
          go_ret
          exact ⟨by rw [HE.out, ba_one, ba_app]; rfl, HQ.out.trans HQ2.out⟩
    · subst hc
      have HE2 := hid (show tailX v = 32 :: Lib.itoa v.k by rw [hE2.out]; simp)
      clear hE2
      go_enter Tryd.func32, Tryd.ntmps32
      go_wp2_with (first
        | (go_at_call 46; refine HW.out.mono ?_; rintro e w2 ⟨rfl, q2⟩; obtain ⟨y0, y1, y2, y3⟩ := HBX.out _ q2)
        | (go_at_call 47; refine (itoa_any v.k HF.out.1 _ (HT.out.quiet q2)).mono ?_; rintro e w3 ⟨rfl, q3⟩; replace q3 := q2.trans q3; obtain ⟨z0, z1, z2, z3⟩ := HBX.out _ q3))
      clear y0 y1 y2 y3 z0 z1 z2 z3
      go_loopw [3, 4] (fun s i wr => ∃ j : Nat, j ≤ v.l.length ∧ i = .int .i64 j ∧ s = .string ⟨(accX v j).toArray⟩ ∧ Quiet (w.alloc (.cells #[.int .i64 15, .int .i64 v.k, .int .i64 v.n, .slice ao v.l.length cap] 42)) wr) (fun _ i _ => v.l.length - (intOf i).toNat)
      case atStart =>
        refine ⟨0, Nat.zero_le _, rfl, ?_, q3⟩
        rw [HA.out, HE2.out]
        rw [ba_one, ba_one, ba_app, ba_app, ba_app]; simp
      case round =>
        obtain ⟨j, hj, rfl, rfl, q⟩ := hrel
        obtain ⟨x0, x1, x2, x3⟩ := HBX.out _ q
        have hacc := HAL.out j
        by_cases hlt : j < v.l.length
        · obtain ⟨bb, oo, rfl, ⟨d0, d1, d2⟩, ca, cc, ds, hk⟩ := (HI.out.1.quiet q).get j hlt
          have HC := hid (HI.out.2 v.l[j] (List.getElem_mem hlt) ca cc _ (HT.out.quiet q) hk (HSZ.out j hlt))
          have HN := hid (HNX.out j hlt)
          have hul : v.l[j].text.length ≤ 700000 := by have h1 := HTL.out v.l[j] (List.getElem_mem hlt); have h2 := HSZ.out j hlt; omega
          generalize v.l[j] = u at *
          generalize accX v j = ax at *
          have HQ2 := hid q
          clear hk q
          go_wp2_with (go_at_call 32; refine HC.out.mono ?_; rintro e w3 ⟨rfl, q3⟩)
          refine ⟨⟨j + 1, by omega, by go_num, ?_, HQ2.out.trans q3⟩, by simp [intOf]; omega⟩
          rw [HN.out, ba_one, ba_app, ba_app]; rfl
        · have hjl : j = v.l.length := by omega
          subst hjl
          have HQ2 := hid q
          generalize accX v v.l.length = ax at *
          clear q
          go_wp2
          go_ret
          exact ⟨by rw [HE.out, ba_one, ba_app]; rfl, HQ.out.trans HQ2.out⟩
    · subst hc
      have HE2 := hid (show tailX v = 32 :: nameIn binL v.k by rw [hE2.out]; simp)
      clear hE2
      go_enter Tryd.func32, Tryd.ntmps32
      go_wp2_with (first
        | (go_at_call 46; refine HW.out.mono ?_; rintro e w2 ⟨rfl, q2⟩; obtain ⟨y0, y1, y2, y3⟩ := HBX.out _ q2)
        | (go_at_call 48; refine (binOf_any v.k _).mono ?_; rintro e w3 ⟨rfl, q3⟩; replace q3 := q2.trans q3; obtain ⟨z0, z1, z2, z3⟩ := HBX.out _ q3))
      clear y0 y1 y2 y3 z0 z1 z2 z3
      go_loopw [3, 4] (fun s i wr => ∃ j : Nat, j ≤ v.l.length ∧ i = .int .i64 j ∧ s = .string ⟨(accX v j).toArray⟩ ∧ Quiet (w.alloc (.cells #[.int .i64 6, .int .i64 v.k, .int .i64 v.n, .slice ao v.l.length cap] 42)) wr) (fun _ i _ => v.l.length - (intOf i).toNat)
      case atStart =>
        refine ⟨0, Nat.zero_le _, rfl, ?_, q3⟩
        rw [HA.out, HE2.out]
        rw [ba_one, ba_one, ba_app, ba_app, ba_app]; simp
      case round =>
        obtain ⟨j, hj, rfl, rfl, q⟩ := hrel
        obtain ⟨x0, x1, x2, x3⟩ := HBX.out _ q
        have hacc := HAL.out j
        by_cases hlt : j < v.l.length
        · obtain ⟨bb, oo, rfl, ⟨d0, d1, d2⟩, ca, cc, ds, hk⟩ := (HI.out.1.quiet q).get j hlt
          have HC := hid (HI.out.2 v.l[j] (List.getElem_mem hlt) ca cc _ (HT.out.quiet q) hk (HSZ.out j hlt))
          have HN := hid (HNX.out j hlt)
          have hul : v.l[j].text.length ≤ 700000 := by have h1 := HTL.out v.l[j] (List.getElem_mem hlt); have h2 := HSZ.out j hlt; omega
          generalize v.l[j] = u at *
          generalize accX v j = ax at *
          have HQ2 := hid q
          clear hk q
          go_wp2_with (go_at_call 32; refine HC.out.mono ?_; rintro e w3 ⟨rfl, q3⟩)
          refine ⟨⟨j + 1, by omega, by go_num, ?_, HQ2.out.trans q3⟩, by simp [intOf]; omega⟩
          rw [HN.out, ba_one, ba_app, ba_app]; rfl
        · have hjl : j = v.l.length := by omega
          subst hjl
          have HQ2 := hid q
          generalize accX v v.l.length = ax at *
          clear q
          go_wp2
          go_ret
          exact ⟨by rw [HE.out, ba_one, ba_app]; rfl, HQ.out.trans HQ2.out⟩
    · have HE2 := hid (show tailX v = [] by rw [hE2.out]; simp [hc])
      clear hE2
      obtain ⟨c2, c4, c18, c15, c6⟩ := hc
      have e2 : (kd == 2) = false := by simpa using c2
      have e4 : (kd == 4) = false := by simpa using c4
      have e18 : (kd == 18) = false := by simpa using c18
      have e15 : (kd == 15) = false := by simpa using c15
      have e6 : (kd == 6) = false := by simpa using c6
      go_enter Tryd.func32, Tryd.ntmps32
      go_wp2_with (go_at_call 46; refine HW.out.mono ?_; rintro e w2 ⟨rfl, q2⟩; obtain ⟨y0, y1, y2, y3⟩ := HBX.out _ q2)
      clear y0 y1 y2 y3
      go_loopw [3, 4] (fun s i wr => ∃ j : Nat, j ≤ v.l.length ∧ i = .int .i64 j ∧ s = .string ⟨(accX v j).toArray⟩ ∧ Quiet (w.alloc (.cells #[.int .i64 kd, .int .i64 v.k, .int .i64 v.n, .slice ao v.l.length cap] 42)) wr) (fun _ i _ => v.l.length - (intOf i).toNat)
      case atStart =>
        refine ⟨0, Nat.zero_le _, rfl, ?_, q2⟩
        rw [HA.out, HE2.out]
        rw [ba_one, ba_app]; simp
      case round =>
        obtain ⟨j, hj, rfl, rfl, q⟩ := hrel
        obtain ⟨x0, x1, x2, x3⟩ := HBX.out _ q
        have hacc := HAL.out j
        by_cases hlt : j < v.l.length
        · obtain ⟨bb, oo, rfl, ⟨d0, d1, d2⟩, ca, cc, ds, hk⟩ := (HI.out.1.quiet q).get j hlt
          have HC := hid (HI.out.2 v.l[j] (List.getElem_mem hlt) ca cc _ (HT.out.quiet q) hk (HSZ.out j hlt))
          have HN := hid (HNX.out j hlt)
          have hul : v.l[j].text.length ≤ 700000 := by have h1 := HTL.out v.l[j] (List.getElem_mem hlt); have h2 := HSZ.out j hlt; omega
          generalize v.l[j] = u at *
          generalize accX v j = ax at *
          have HQ2 := hid q
          clear hk q
          go_wp2_with (go_at_call 32; refine HC.out.mono ?_; rintro e w3 ⟨rfl, q3⟩)
          refine ⟨⟨j + 1, by omega, by go_num, ?_, HQ2.out.trans q3⟩, by simp [intOf]; omega⟩
          rw [HN.out, ba_one, ba_app, ba_app]; rfl
        · have hjl : j = v.l.length := by omega
          subst hjl
          have HQ2 := hid q
          generalize accX v v.l.length = ax at *
          clear q
          go_wp2
          go_ret
          exact ⟨by rw [HE.out, ba_one, ba_app]; rfl, HQ.out.trans HQ2.out⟩
end Go.Proofs.YtbcfbelfeaakoadDoor
