/- The contracts of place.inside and of the question that the search is handed. -/
import Derived.Test.YtjcniiojcigefadStack
namespace Go.Proofs.Ytjcniiojcigefad
open Go.ChangeShapes Go.WideShapes Go.ChangeAt Go.RowKit
theorem placeQ_any (v : V) (ao : Option Addr) (cap bc : Nat) (o F c : Int) (w : World) (hc : w.heap[bc]? = some (.cells #[.int .i64 c] 3 (0, 0))) :
    Calls Try.prog 32 #[.agg #[.int .i64 v.kind, .int .i64 v.k, .int .i64 v.n, .slice ao v.l.length cap, .int .i64 o, .int .i64 F], .pointer (some ⟨bc, 0, none⟩)] w fun e w' => e = .returned (.bool (fault1 F v o != 0)) ∧ w'.heap[bc]? = some (.cells #[.int .i64 (fault1 F v o)] 3 (0, 0)) ∧ Kp (fun k => k = bc) w w' := by
  have hlt := lt_of_block hc
  go_enter Try.func32, Try.ntmps32
  go_wp2_with (go_at_call 33; refine (fault_any v ao cap o F _).mono ?_; rintro e w2 ⟨rfl, q2⟩; have hb : w2.heap[bc]? = some (.cells #[.int .i64 c] 3 (0, 0)) := (((Kp.alloc _ _).trans q2).block bc hlt (fun h => h)).trans hc; have k0 := cell_of_one hb; have k1 := free_of_one hb)
  go_ret
  refine ⟨by simp, one_setCell hb, ?_⟩
  exact ((((Kp.alloc w _).trans q2).mono fun _ _ h => h.elim)).trans (Kp.setCell _ _ _ rfl)
set_option maxRecDepth 8000 in
set_option maxHeartbeats 4000000 in
theorem pin_any (v : V) (ao : Option Addr) (cap : Nat) (o F : Int) (W w : World) (hW : Below W.heap.size W w) (hI : Is W v ao) (hl : v.l.length ≤ 20000) (ho : 0 ≤ o ∧ o ≤ 12) :
    Calls Try.prog 31 #[.agg #[.int .i64 v.kind, .int .i64 v.k, .int .i64 v.n, .slice ao v.l.length cap, .int .i64 o, .int .i64 F]] w fun e w' => ∃ sv, ∃ ps : List Pc, e = .returned sv ∧ w'.ownsRow w.heap.size 61 6 sv ps.length (sixs F ps) ∧ ps.map vo = kids v o ∧ (∀ p ∈ ps, Is W p.1 p.2.2.1) ∧ Quiet w w' := by
  obtain ⟨i0, hi, hz0, hz1, hz2⟩ := info_parts Try.infoPl
  have HI := hid hI
  have hmx : ∀ j (h : j < v.l.length), (kids v o).take (j + 1) = (kids v o).take j ++ [(v.l[j], opens v.kind o j)] := fun j h => by
    rw [take_snoc _ j (by rw [kids_len]; exact h)]; simp [kids]
  have HMX := hid hmx
  clear hI hmx
  obtain ⟨kind, k, n, l⟩ := v
  simp only at *
  have hb0 := heap_alloc_new w (.cells #[.int .i64 kind, .int .i64 k, .int .i64 n, .slice ao l.length cap, .int .i64 o, .int .i64 F] 61)
  go_enter Try.func31, Try.ntmps31
  go_wp2
  go_loopw [3, 11] (fun sv i wr => ∃ (j : Nat) (ps : List Pc), j ≤ l.length ∧ i = .int .i64 j ∧ wr.ownsRow (w.heap.size + 1) 61 6 sv ps.length (sixs F ps) ∧ ps.map vo = (kids ⟨kind, k, n, l⟩ o).take j ∧ (∀ p ∈ ps, Is W p.1 p.2.2.1) ∧ Below (w.heap.size + 1) (w.alloc (.cells #[.int .i64 kind, .int .i64 k, .int .i64 n, .slice ao l.length cap, .int .i64 o, .int .i64 F] 61)) wr) (fun _ i _ => l.length - (intOf i).toNat)
  case atStart => exact ⟨0, [], Nat.zero_le _, rfl, World.ownsRow_nil _ _ _ _, by simp, fun p hp => by simp at hp, Below.refl _ _⟩
  case round =>
    rename World => wq
    obtain ⟨j, ps, hj, rfl, hr, hm, hps, hB⟩ := hrel
    have hsB := hB.size
    rw [World.size_alloc] at hsB
    have hpl : ps.length = j := by
      have := congrArg List.length hm
      rw [List.length_map, List.length_take, kids_len] at this
      simp only at this; omega
    rw [hpl] at hr
    obtain ⟨av, cv, hsv⟩ := owns_shape hr
    have hbx := (hB.block w.heap.size (by omega)).trans hb0
    have x0 : wq.cell? ⟨w.heap.size, 0, none⟩ = some (.int .i64 kind) := by simp [World.cell?, hbx]
    have x4 : wq.cell? ⟨w.heap.size, 4, none⟩ = some (.int .i64 o) := by simp [World.cell?, hbx]
    have x5 : wq.cell? ⟨w.heap.size, 5, none⟩ = some (.int .i64 F) := by simp [World.cell?, hbx]
    have z2 : w.heap.size < wq.heap.size := by omega
    have HB := hid (And.intro hB (And.intro hm (And.intro hps hpl)))
    have HR := hid hr
    clear hB hm hps hr hpl hbx hb0
    by_cases hlt : j < l.length
    · have qw : Quiet w wq := quiet_of (((Below.refl _ _).alloc (Nat.le_refl _) _).trans (HB.out.1.mono (by omega)))
      have hWq : Below W.heap.size W wq := hW.trans (qw.low.mono hW.size)
      obtain ⟨b, off, rfl, dh, ai, ci, ds, hci⟩ := (HI.out.low hWq).fo.get j hlt
      obtain ⟨_, _, e2, _, ai2, ci2, ds2, hci2⟩ := HI.out.fo.get j hlt
      cases e2
      obtain rfl : ai2 = ai := by
        have h1 := low_kept hWq _ _ ds2
        rw [ds] at h1; simp at h1; exact h1.1.symm
      have hmx := HMX.out j hlt
      obtain ⟨d0, d9, d1⟩ := dh
      simp only at *
      generalize hcu : l[j] = c at *
      have HC := hid (And.intro hmx hci2)
      subst hsv
      clear hcu hmx hci hci2 ds2
      by_cases hk : kind = 5
      · subst hk
        by_cases hj1 : j = 1
        · subst hj1
          have HO := hid (show opens 5 o 1 = o + 1 by simp [opens])
          go_wp2_with (at_builtin; refine wpList_append_lies _ rfl (.tmp 28) (.tmp 34) 74 rfl (w.heap.size + 1) 61 i0 _ 6 64 Try.undPl hi hz0 hz1 hz2 rfl (by decide) _ 1 (sixs F ps) rfl ((HR.out.alloc _).alloc _) ⟨wq.heap.size + 1, 0, none⟩ 1 1 (six F (c, o + 1, ai2, ci)) rfl rfl (news_from (t := 61) (heap_two wq _ _)) (six_one _ _) (by decide) (by unfold maxLen; omega) (by omega) (by simp; omega) (wq.heap.size + 2) (by simp) ?_; intro g2 cap2 w1 hr1 hg1 hat hlt1; have hS := hid (push_row6 (x := (c, o + 1, ai2, ci)) (HB.out.1.alloc (by omega) _) (by simp; omega) (HR.out.alloc _) HB.out.2.2.2.symm hr1 hg1); clear hr1 hg1 hat hlt1)
          refine ⟨⟨1 + 1, ps ++ [(c, o + 1, ai2, ci)], by omega, by go_num, hS.out.1, ?_, ?_, hS.out.2⟩, by simp [intOf]; omega⟩
          · rw [List.map_append, HB.out.2.1, HC.out.1, HO.out]; rfl
          · intro p hp
            rcases List.mem_append.1 hp with hp | hp
            · exact HB.out.2.2.1 p hp
            · simp at hp; subst hp; exact HC.out.2
        · have hj2 : ¬ (j : Int) = 1 := by omega
          have hj3 : decide ((j : Int) = 1) = false := by simp; omega
          have hj4 : ((j : Int) == 1) = false := by simp; omega
          have HO := hid (show opens 5 o j = o by simp [opens, hj1])
          go_wp2_with (at_builtin; refine wpList_append_lies _ rfl (.tmp 28) (.tmp 34) 74 rfl (w.heap.size + 1) 61 i0 _ 6 64 Try.undPl hi hz0 hz1 hz2 rfl (by decide) _ j (sixs F ps) rfl ((HR.out.alloc _).alloc _) ⟨wq.heap.size + 1, 0, none⟩ 1 1 (six F (c, o, ai2, ci)) rfl rfl (news_from (t := 61) (heap_two wq _ _)) (six_one _ _) (by decide) (by unfold maxLen; omega) (by omega) (by simp; omega) (wq.heap.size + 2) (by simp) ?_; intro g2 cap2 w1 hr1 hg1 hat hlt1; have hS := hid (push_row6 (x := (c, o, ai2, ci)) (HB.out.1.alloc (by omega) _) (by simp; omega) (HR.out.alloc _) HB.out.2.2.2.symm hr1 hg1); clear hr1 hg1 hat hlt1)
          refine ⟨⟨j + 1, ps ++ [(c, o, ai2, ci)], by omega, by go_num, hS.out.1, ?_, ?_, hS.out.2⟩, by simp [intOf]; omega⟩
          · rw [List.map_append, HB.out.2.1, HC.out.1, HO.out]; rfl
          · intro p hp
            rcases List.mem_append.1 hp with hp | hp
            · exact HB.out.2.2.1 p hp
            · simp at hp; subst hp; exact HC.out.2
      · have hk3 : decide (kind = 5) = false := by simpa using hk
        have hk4 : (kind == 5) = false := by simpa using hk
        have HO := hid (show opens kind o j = o by simp [opens, hk])
        go_wp2_with (at_builtin; refine wpList_append_lies _ rfl (.tmp 28) (.tmp 34) 74 rfl (w.heap.size + 1) 61 i0 _ 6 64 Try.undPl hi hz0 hz1 hz2 rfl (by decide) _ j (sixs F ps) rfl ((HR.out.alloc _).alloc _) ⟨wq.heap.size + 1, 0, none⟩ 1 1 (six F (c, o, ai2, ci)) rfl rfl (news_from (t := 61) (heap_two wq _ _)) (six_one _ _) (by decide) (by unfold maxLen; omega) (by omega) (by simp; omega) (wq.heap.size + 2) (by simp) ?_; intro g2 cap2 w1 hr1 hg1 hat hlt1; have hS := hid (push_row6 (x := (c, o, ai2, ci)) (HB.out.1.alloc (by omega) _) (by simp; omega) (HR.out.alloc _) HB.out.2.2.2.symm hr1 hg1); clear hr1 hg1 hat hlt1)
        refine ⟨⟨j + 1, ps ++ [(c, o, ai2, ci)], by omega, by go_num, hS.out.1, ?_, ?_, hS.out.2⟩, by simp [intOf]; omega⟩
        · rw [List.map_append, HB.out.2.1, HC.out.1, HO.out]; rfl
        · intro p hp
          rcases List.mem_append.1 hp with hp | hp
          · exact HB.out.2.2.1 p hp
          · simp at hp; subst hp; exact HC.out.2
    · have hjl : j = l.length := by omega
      subst hjl
      subst hsv
      go_wp2
      go_ret
      refine ⟨_, ps, rfl, owns_mono (by rw [HB.out.2.2.2]; exact HR.out) (by omega), ?_, HB.out.2.2.1, ?_⟩
      · have h := HB.out.2.1
        rw [h, List.take_of_length_le (by rw [kids_len]; exact Nat.le_refl _)]
      · exact quiet_of (((Below.refl _ _).alloc (Nat.le_refl _) _).trans (HB.out.1.mono (by omega)))
end Go.Proofs.Ytjcniiojcigefad
