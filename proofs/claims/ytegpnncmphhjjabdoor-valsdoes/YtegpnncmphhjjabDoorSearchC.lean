/- The contracts of search with the question of Check, and of Check's own closure. -/
import Derived.Test.YtegpnncmphhjjabDoorSearchG
namespace Go.Proofs.YtegpnncmphhjjabDoor
open Go.ChangeShapes Go.WideShapes Go.ChangeAt Go.RowKit
theorem checkQ_any (v : V) (ao : Option Addr) (cap bc : Nat) (c : Int) (w : World) (hc : w.heap[bc]? = some (.cells #[.int .i64 c] 3 (0, 0))) :
    Calls Tryd.prog 24 #[.agg #[.int .i64 v.kind, .int .i64 v.n, .slice ao v.l.length cap], .pointer (some ⟨bc, 0, none⟩)] w fun e w' => e = .returned (.bool (v.fault1 != 0)) ∧ w'.heap[bc]? = some (.cells #[.int .i64 v.fault1] 3 (0, 0)) ∧ Kp (fun k => k = bc) w w' := by
  have hlt := lt_of_block hc
  go_enter Tryd.func24, Tryd.ntmps24
  go_wp2_with (go_at_call 25; refine (fault_any v ao cap _).mono ?_; rintro e w2 ⟨rfl, q2⟩; have hb : w2.heap[bc]? = some (.cells #[.int .i64 c] 3 (0, 0)) := (((Kp.alloc _ _).trans q2).block bc hlt (fun h => h)).trans hc; have k0 := cell_of_one hb; have k1 := free_of_one hb)
  go_ret
  refine ⟨by simp, one_setCell hb, ?_⟩
  exact ((((Kp.alloc w _).trans q2).mono fun _ _ h => h.elim)).trans (Kp.setCell _ _ _ rfl)
set_option maxHeartbeats 1000000 in
theorem searchC_any (w0 : World) (bc : Nat) (hbc : w0.heap.size ≤ bc) (v : V) : ∀ (ao : Option Addr) (cap : Nat) (c : Int) (w : World), Is w0 v ao → v.size ≤ 500 → Below w0.heap.size w0 w → w.heap[bc]? = some (.cells #[.int .i64 c] 3 (0, 0)) →
    Calls Tryd.prog 23 #[.agg #[.int .i64 v.kind, .int .i64 v.n, .slice ao v.l.length cap], .func (.func 24) #[] #[.pointer (some ⟨bc, 0, none⟩)]] w fun e w' => e = .returned (.bool (v.fault != 0)) ∧ w'.heap[bc]? = some (.cells #[.int .i64 v.fault] 3 (0, 0)) ∧ Kp (fun k => k = bc) w w' := by
  induction v using V.ind with
  | h k n l ih =>
    intro ao cap c w hI hS hB hc
    have hlt0 := lt_of_block hc
    have hlen : l.length ≤ 500 := by have := sizes_len l; rw [size_mk] at hS; omega
    have hc1 : (w.alloc (.cells #[.int .i64 k, .int .i64 n, .slice ao l.length cap] 24)).heap[bc]? = some (.cells #[.int .i64 c] 3 (0, 0)) := (Below.heap_alloc w _ bc hlt0).trans hc
    by_cases hk : (V.mk k n l).fault1 = 0
    · have hE := hid (show (V.mk k n l).fault = first (pres l) by rw [fault_eq, if_pos hk])
      have hk' : ((V.mk k n l).fault1 != 0) = false := by simp [hk]
      go_enter Tryd.func23, Tryd.ntmps23
      go_wp2_with (go_at_call 24; refine (checkQ_any ⟨k, n, l⟩ ao cap bc c _ hc1).mono ?_; rintro e w2 ⟨rfl, hb, q2⟩; rw [hk']; rw [hk] at hb; have c2 : w2.cell? ⟨w.heap.size, 2, none⟩ = some (.slice ao l.length cap) := q2.cell (by simp) (by show ¬ w.heap.size = bc; omega))
      go_loopw [13] (fun i wr => ∃ j : Nat, j ≤ l.length ∧ i = .int .i64 j ∧ first (pres (l.take j)) = 0 ∧ wr.heap[bc]? = some (.cells #[.int .i64 0] 3 (0, 0)) ∧ Kp (fun k => k = bc) w wr) (fun i _ => l.length - (intOf i).toNat)
      case atStart => exact ⟨0, Nat.zero_le _, rfl, by simp [pres_nil, first], hb, (Kp.alloc _ _).trans q2⟩
      case round =>
        obtain ⟨j, hj, rfl, hg, hbr, qr⟩ := hrel
        by_cases hlt : j < l.length
        · have hBr : Below w0.heap.size w0 wr := hB.trans (qr.below hB.size (by intro k hk; omega))
          have hIr := hI.low hBr
          obtain ⟨b, off, rfl, d0, d1, ai, ci, d2, hi⟩ := hI.get j hlt
          obtain ⟨b', off', e', d0', d1', ai', ci', d2', hi'⟩ := hIr.get j hlt
          cases e'
          obtain rfl : ai' = ai := by
            have h1 := (World.cell?_of_block (hBr.block _ (World.block_lt_of_cell? w0 _ d2))).trans d2
            rw [d2'] at h1; simp at h1; exact h1.1
          have hih := hid (ih l[j] (List.getElem_mem hlt) ai' ci' 0)
          have hsz : l[j].size ≤ 500 := by have := size_get l j hlt; rw [size_mk] at hS; omega
          have hnx := first_pres l j hlt hg
          have hsp := first_stop l j hlt hg
          have hltr := lt_of_block hbr
          have hBa : ∀ o, Below w0.heap.size w0 (wr.alloc o) := fun o => hBr.alloc (hBr.size) o
          have hca : ∀ o, (wr.alloc o).heap[bc]? = some (.cells #[.int .i64 0] 3 (0, 0)) := fun o => (Below.heap_alloc wr o bc hltr).trans hbr
          generalize hu : l[j] = u at *
          have HU := hid hu
          have HN := hid hnx
          have HP := hid hsp
          clear hu hnx hsp hI hIr ih hi' d0 d1 d2
          by_cases hug : u.fault = 0
          · have hug' : (u.fault != 0) = false := by simp [hug]
            go_wp2_with (go_at_call 23; refine (hih.out _ hi hsz (hBa _) (hca _)).mono ?_; rintro e w3 ⟨rfl, hb3, q3⟩; rw [hug']; rw [hug] at hb3)
            exact ⟨⟨j + 1, by omega, by go_num, by rw [HN.out, hug], hb3, qr.trans ((Kp.alloc _ _).trans q3)⟩, by simp [intOf]; omega⟩
          · have hug' : (u.fault != 0) = true := by simp [hug]
            go_wp2_with (go_at_call 23; refine (hih.out _ hi hsz (hBa _) (hca _)).mono ?_; rintro e w3 ⟨rfl, hb3, q3⟩; rw [hug'])
            go_ret
            refine ⟨?_, ?_, qr.trans ((Kp.alloc _ _).trans q3)⟩
            · rw [hE.out, HP.out hug, hug']; rfl
            · rw [hE.out, HP.out hug]; exact hb3
        · have hjl : j = l.length := by omega
          subst hjl
          have HG := hid hg
          clear hg ih
          go_wp2
          go_ret
          have e0 : first (pres l) = 0 := by have := HG.out; rwa [List.take_length] at this
          refine ⟨?_, ?_, qr⟩
          · rw [hE.out, e0]; rfl
          · rw [hE.out, e0]; exact hbr
    · have hE := hid (show (V.mk k n l).fault = (V.mk k n l).fault1 by rw [fault_eq, if_neg hk])
      have hk' : ((V.mk k n l).fault1 != 0) = true := by simp [hk]
      go_enter Tryd.func23, Tryd.ntmps23
      go_wp2_with (go_at_call 24; refine (checkQ_any ⟨k, n, l⟩ ao cap bc c _ hc1).mono ?_; rintro e w2 ⟨rfl, hb, q2⟩; rw [hk'])
      go_ret
      refine ⟨?_, ?_, (Kp.alloc _ _).trans q2⟩
      · rw [hE.out, hk']; rfl
      · rw [hE.out]; exact hb
end Go.Proofs.YtegpnncmphhjjabDoor
