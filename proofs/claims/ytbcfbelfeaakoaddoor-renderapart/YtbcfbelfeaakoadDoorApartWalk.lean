/- The law RenderApart: the walk. What is handed in may lie in marked memory: what Check tells of depth may then be anything; nothing hangs on it. -/
import Derived.Test.YtbcfbelfeaakoadDoorRBegun
import Derived.Test.YtbcfbelfeaakoadDoorRefMod
import Derived.Test.YtbcfbelfeaakoadDoorRefSame
namespace Go.Proofs.YtbcfbelfeaakoadDoor
open Go.ChangeShapes Go.WideShapes Go.ChangeAt Go.RowKit
/-- What Print tells of a module that was handed in. -/
def ToldZ (l : List V) (w : World) (e : Ending) (w' : World) : Prop := ∃ (s : List UInt8) (c a : Int), e = .returned (.tuple #[.string ⟨s.toArray⟩, .agg #[.int .i64 c, .int .i64 a]]) ∧ (c = 0 → s = linesX l ∧ ∀ v ∈ l, Ok v) ∧ Quiet w w'
theorem print_z (l : List V) (ao : Option Addr) (cap : Nat) (w : World) (ht : Laid w) (hF : Fo (thw w) l ao) (hS : sizes l ≤ 20000) :
    Calls Tryd.prog 14 #[.agg #[.slice ao l.length cap]] w fun e w' => ToldZ l w e w' := by
  refine (print_of l ao cap w ht hF.unthaw hS (fun f => f.1 = 0 → 1 ≤ l.length ∧ ∀ v ∈ l, v.bad l.length 0 = 0) (fun f hf h0 => (hf h0).1) fun w1 q => (check_z l ao cap w1 (hF.thawQ q) hS).mono fun e w' h => h).mono ?_
  rintro e w' ⟨⟨c, a⟩, he, hP, q⟩
  unfold printX at he
  by_cases hc : c = 0
  · rw [if_neg (by simpa using hc)] at he
    by_cases hb : 6000 < (linesX l).length
    · rw [if_pos hb] at he
      exact ⟨_, _, _, he, fun h => absurd h (by decide), q⟩
    · rw [if_neg hb] at he
      exact ⟨_, _, _, he, fun _ => ⟨rfl, fun v hv => ⟨_, 0, (hP hc).2 v hv⟩⟩, q⟩
  · rw [if_pos hc] at he
    exact ⟨_, _, _, he, fun h => absurd h hc, q⟩
theorem ba_eq (a b : List UInt8) : ByteArray.mk a.toArray = ByteArray.mk b.toArray ↔ a = b := by
  constructor
  · intro h
    have := congrArg ByteArray.data h
    simpa using congrArg Array.toList this
  · rintro rfl; rfl
theorem box_keeps {w w' : World} {c : Array Value} {t : TypeId} (q : Quiet (w.alloc (.cells c t)) w') : w'.heap[w.heap.size]? = some (.cells c t (0, 0)) := (q.block _ (lt_of_block (heap_alloc_new w _)) fun e => e).trans (heap_alloc_new w _)
theorem two_mods {w w' : World} {a b : Value} (q : Quiet ((w.alloc (.cells #[a] 25)).alloc (.cells #[b] 25)) w') : w'.cell? ⟨w.heap.size, 0, none⟩ = some a ∧ w'.cell? ⟨w.heap.size + 1, 0, none⟩ = some b ∧ w.heap.size < w'.heap.size ∧ w.heap.size + 1 < w'.heap.size := by
  have h0 : ((w.alloc (.cells #[a] 25)).alloc (.cells #[b] 25)).heap[w.heap.size]? = some (.cells #[a] 25 (0, 0)) := (Below.heap_alloc _ _ _ (by simp)).trans (heap_alloc_new w _)
  have h1 := heap_two w (.cells #[a] 25) (.cells #[b] 25)
  have k0 := (q.block _ (lt_of_block h0) fun e => e).trans h0
  have k1 := (q.block _ (lt_of_block h1) fun e => e).trans h1
  exact ⟨mod_cell k0, mod_cell k1, lt_of_block k0, lt_of_block k1⟩
set_option maxRecDepth 8000 in
set_option maxHeartbeats 8000000 in
theorem apartLaw (w : World) (l u : List V) (la ua : Option Addr) (lc uc : Nat) (ht : Laid w) (hL : Fo (thw w) l la) (hU : Fo (thw w) u ua) :
    Calls Tryd.prog 6 #[.agg #[.slice la l.length lc], .agg #[.slice ua u.length uc]] w fun e w' => e = .returned (.bool true) ∧ Below w.heap.size w w' := by
  have sB := hid (fun (w' : World) (q : Quiet ((w.alloc (.cells #[.slice la l.length lc] 25)).alloc (.cells #[.slice ua u.length uc] 25)) w') => two_mods q)
  have qW : Quiet w ((w.alloc (.cells #[.slice la l.length lc] 25)).alloc (.cells #[.slice ua u.length uc] 25)) := (Kp.alloc _ _).trans (Kp.alloc _ _)
  have HB := hid (rbegun_any _ (ht.quiet qW))
  have HV := hid (hL.thawQ qW)
  have HU := hid (hU.thawQ qW)
  have HT := hid (ht.quiet qW)
  clear hL hU ht
  cases hgl : great l with
  | true =>
    go_enter Tryd.func6, Tryd.ntmps6
    go_wp2_with (first
      | (go_at_call 12; refine (great_any l la lc _ (HV.out.unthaw.quiet q2)).mono ?_; rintro e w3 ⟨rfl, q3⟩; rw [hgl])
      | (go_at_call 11; refine HB.out.mono ?_; rintro e w2 ⟨rfl, q2⟩; obtain ⟨c0, c1, c2, c3⟩ := sB.out _ q2))
    go_ret
    exact ⟨rfl, (qW.trans (q2.trans q3)).low⟩
  | false =>
    cases hgu : great u with
    | true =>
      go_enter Tryd.func6, Tryd.ntmps6
      go_wp2_with (first
        | (go_at_call 12; refine (great_any u ua uc _ (HU.out.unthaw.quiet q3)).mono ?_; rintro e w4 ⟨rfl, q4⟩; rw [hgu])
        | (go_at_call 12; refine (great_any l la lc _ (HV.out.unthaw.quiet q2)).mono ?_; rintro e w3 ⟨rfl, q3⟩; rw [hgl]; replace q3 := q2.trans q3; obtain ⟨d0, d1, d2, d3⟩ := sB.out _ q3)
        | (go_at_call 11; refine HB.out.mono ?_; rintro e w2 ⟨rfl, q2⟩; obtain ⟨c0, c1, c2, c3⟩ := sB.out _ q2))
      go_ret
      exact ⟨rfl, (qW.trans (q3.trans q4)).low⟩
    | false =>
      have hSl : sizes l ≤ 20000 := by have := great_sizes hgl; omega
      have hSu : sizes u ≤ 20000 := by have := great_sizes hgu; omega
      have HPL := hid (fun (w' : World) (h1 : Laid w') (h2 : Fo (thw w') l la) => print_z l la lc w' h1 h2 hSl)
      have HPU := hid (fun (w' : World) (h1 : Laid w') (h2 : Fo (thw w') u ua) => print_z u ua uc w' h1 h2 hSu)
      go_enter Tryd.func6, Tryd.ntmps6
      go_wp2_with (first
        | (go_at_call 14; refine (HPU.out _ (HT.out.quiet Q6.out) (HU.out.thawQ Q6.out)).mono ?_)
        | (go_at_call 14; refine (HPL.out _ (HT.out.quiet q4) (HV.out.thawQ q4)).mono ?_; rintro e w5 ⟨s, c, a, rfl, hs, q5⟩; have Q5 := hid (q4.trans q5); obtain ⟨f0, f1, f2, f3⟩ := sB.out _ Q5.out; have Q6 := hid (Q5.out.trans (Kp.alloc w5 (.cells #[.int .i64 c, .int .i64 a] 27))); have HS := hid hs; clear hs)
        | (go_at_call 12; refine (great_any u ua uc _ (HU.out.unthaw.quiet q3)).mono ?_; rintro e w4 ⟨rfl, q4⟩; rw [hgu]; replace q4 := q3.trans q4; obtain ⟨e0, e1, e2, e3⟩ := sB.out _ q4)
        | (go_at_call 12; refine (great_any l la lc _ (HV.out.unthaw.quiet q2)).mono ?_; rintro e w3 ⟨rfl, q3⟩; rw [hgl]; replace q3 := q2.trans q3; obtain ⟨d0, d1, d2, d3⟩ := sB.out _ q3)
        | (go_at_call 11; refine HB.out.mono ?_; rintro e w2 ⟨rfl, q2⟩; obtain ⟨c0, c1, c2, c3⟩ := sB.out _ q2))
      rintro e w7 ⟨t, d, b, he, hd, q7⟩
      subst he
      have Q7 := hid (Q6.out.trans q7)
      obtain ⟨g0, g1, g2, g3⟩ := sB.out _ Q7.out
      obtain ⟨i0, i1, i2, i3⟩ := fault_cells (box_keeps q7)
      have j0 := lt_of_block (box_keeps q7)
      have HD := hid hd
      clear hd c0 c1 c2 c3 d0 d1 d2 d3 e0 e1 e2 e3 f0 f1 f2 f3
      by_cases hc : c = 0
      · by_cases hdd : d = 0
        · subst hc
          subst hdd
          obtain ⟨rfl, hol⟩ := HS.out rfl
          obtain ⟨rfl, hou⟩ := HD.out rfl
          have hfin := hid (show (((linesX l == linesX u) == sames l u) = true) from by
            by_cases h : l = u
            · rw [sames_true h, h]; simp
            · rw [sames_false h]
              have h2 : ¬ linesX l = linesX u := fun e => h (lines_apart hol hou e)
              simp [h2])
          clear HS HD hol hou
          go_wp2_with (go_at_call 10; refine (sameR_any l u la ua lc uc _ (HV.out.unthaw.quiet (Q7.out.trans (Kp.alloc _ _))) (HU.out.unthaw.quiet (Q7.out.trans (Kp.alloc _ _))) hSl).mono ?_; rintro e w9 ⟨rfl, q9⟩)
          go_ret
          exact ⟨by simp [hfin.out], (qW.trans (Q7.out.trans ((Kp.alloc _ _).trans q9))).low⟩
        · subst hc
          have hd1 : (d != 0) = true := by simpa using hdd
          go_wp2
          go_ret
          exact ⟨rfl, (qW.trans (Q7.out.trans (Kp.alloc _ _))).low⟩
      · have hc1 : (c != 0) = true := by simpa using hc
        go_wp2
        go_ret
        exact ⟨rfl, (qW.trans (Q7.out.trans (Kp.alloc _ _))).low⟩
end Go.Proofs.YtbcfbelfeaakoadDoor
