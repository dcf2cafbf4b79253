/- The contract of search with the question of Gates. -/
import Derived.Test.YtegpnncmphhjjabDoorSmall
namespace Go.Proofs.YtegpnncmphhjjabDoor
open Go.ChangeShapes Go.WideShapes Go.ChangeAt Go.RowKit
theorem gateQ_any (v : V) (ao : Option Addr) (cap : Nat) (w : World) : Calls Tryd.prog 30 #[.agg #[.int .i64 v.kind, .int .i64 v.n, .slice ao v.l.length cap]] w fun e w' => e = .returned (.bool (v.kind == 5)) ∧ Quiet w w' := by
  go_enter Tryd.func30, Tryd.ntmps30
  go_wp2
  go_ret
  exact ⟨by simp, Kp.alloc _ _⟩
/-- A value's part, as it lies. -/
theorem Is.load {w : World} {v : V} {b off : Nat} (h : v.at w b off) : ∃ ao cap, w.cell? ⟨b, off, none⟩ = some (.int .i64 v.kind) ∧ w.cell? ⟨b, off + 1, none⟩ = some (.int .i64 v.n) ∧ w.cell? ⟨b, off + 2, none⟩ = some (.slice ao v.l.length cap) ∧ Is w v ao := by
  obtain ⟨c0, c1, ao, cap, c2, h⟩ := (at_iff w v b off).1 h
  exact ⟨ao, cap, c0, c1, c2, h⟩
set_option maxHeartbeats 1000000 in
theorem searchG_any (v : V) : ∀ (ao : Option Addr) (cap : Nat) (w : World), Is w v ao → v.size ≤ 500 →
    Calls Tryd.prog 23 #[.agg #[.int .i64 v.kind, .int .i64 v.n, .slice ao v.l.length cap], .func (.func 30) #[] #[]] w fun e w' => e = .returned (.bool v.gate) ∧ Quiet w w' := by
  induction v using V.ind with
  | h k n l ih =>
    intro ao cap w hI hS
    have hlen : l.length ≤ 500 := by have := sizes_len l; rw [size_mk] at hS; omega
    cases hk : (k == 5) with
    | true =>
      have hE := hid (show (V.mk k n l).gate = true by rw [gate_eq]; simp [hk])
      go_enter Tryd.func23, Tryd.ntmps23
      go_wp2_with (go_at_call 30; refine (gateQ_any ⟨k, n, l⟩ ao cap _).mono ?_; rintro e w2 ⟨rfl, q2⟩; rw [hk])
      go_ret
      exact ⟨by rw [hE.out]; rfl, (Kp.alloc _ _).trans q2⟩
    | false =>
      have hE := hid (show (V.mk k n l).gate = gateIn (pres l) by rw [gate_eq]; simp [hk])
      go_enter Tryd.func23, Tryd.ntmps23
      go_wp2_with (go_at_call 30; refine (gateQ_any ⟨k, n, l⟩ ao cap _).mono ?_; rintro e w2 ⟨rfl, q2⟩; rw [hk]; have c2 : w2.cell? ⟨w.heap.size, 2, none⟩ = some (.slice ao l.length cap) := q2.cell (by simp) (fun h => h))
      go_loopw [13] (fun i wr => ∃ j : Nat, j ≤ l.length ∧ i = .int .i64 j ∧ gateIn (pres (l.take j)) = false ∧ Quiet w wr) (fun i _ => l.length - (intOf i).toNat)
      case atStart => exact ⟨0, Nat.zero_le _, rfl, by simp [pres_nil, gateIn], (Kp.alloc _ _).trans q2⟩
      case round =>
        obtain ⟨j, hj, rfl, hg, qr⟩ := hrel
        by_cases hlt : j < l.length
        · have hIr := hI.quiet qr
          obtain ⟨b, off, rfl, d0, d1, ai, ci, d2, hi⟩ := hIr.get j hlt
          have hih := hid (ih l[j] (List.getElem_mem hlt) ai ci)
          have hsz : l[j].size ≤ 500 := by have := size_get l j hlt; rw [size_mk] at hS; omega
          have hnx := gate_take l j hlt
          have hsp := pres_split l j hlt
          generalize hu : l[j] = u at *
          have HU := hid hu
          have HN := hid hnx
          have HP := hid hsp
          clear hu hnx hsp hI hIr ih
          cases hug : u.gate with
          | true =>
            go_wp2_with (go_at_call 23; refine (hih.out _ (hi.quiet (Kp.alloc _ _)) hsz).mono ?_; rintro e w3 ⟨rfl, q3⟩; rw [hug])
            go_ret
            exact ⟨by rw [hE.out, HP.out, gateIn_append, gateIn_append, ← V.gate, hug]; simp, qr.trans ((Kp.alloc _ _).trans q3)⟩
          | false =>
            go_wp2_with (go_at_call 23; refine (hih.out _ (hi.quiet (Kp.alloc _ _)) hsz).mono ?_; rintro e w3 ⟨rfl, q3⟩; rw [hug])
            exact ⟨⟨j + 1, by omega, by go_num, by rw [HN.out, hg, hug]; rfl, qr.trans ((Kp.alloc _ _).trans q3)⟩, by simp [intOf]; omega⟩
        · have hjl : j = l.length := by omega
          subst hjl
          have HG := hid hg
          clear hg ih
          go_wp2
          go_ret
          exact ⟨by rw [hE.out, ← HG.out, List.take_length]; rfl, qr⟩
end Go.Proofs.YtegpnncmphhjjabDoor
