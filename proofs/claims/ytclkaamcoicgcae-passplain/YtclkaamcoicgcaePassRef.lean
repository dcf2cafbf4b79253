/- The document's own answer: may it be handed on? -/
import Derived.Test.YtclkaamcoicgcaePassMath
import Derived.Test.YtclkaamcoicgcaeRefTell4
import Derived.Test.YtclkaamcoicgcaeGRefRights
import Derived.Test.YtclkaamcoicgcaeGMake
namespace Go.Proofs.Ytclkaamcoicgcae
open Go.ChangeShapes Go.WideShapes Go.ChangeAt Go.RowKit
open Gr (Nd Res nd0 thereB deriveOf addOf rightsN wayOf gatesOf gatesW targetOf Wf NdOk GS Goes StepP)
theorem ints_get {w : World} {B n cap : Nat} {ao : Option Addr} {l : List Int} (h : w.ownsRow B 3 1 (.slice ao n cap) n (ints l)) (hn : l.length = n) (k : Nat) (hk : k < n) : ∃ g, ao = some ⟨g, 0, none⟩ ∧ w.cell? ⟨g, k, none⟩ = some (.int .i64 (l.getD k 0)) := by
  obtain ⟨g, e, d⟩ := owns_at h (by omega)
  refine ⟨g, e, ?_⟩
  rw [d k (by omega)]
  simp [ints, show k < l.length by omega]
/-- Have the first of these the right to be handed on? -/
def passL (ns : List Nd) (os : List Bool) (l : List Int) : Bool := l.all fun c => (rightsN ns os c).testBit 2
theorem passL_take (ns : List Nd) (os : List Bool) (l : List Int) (k : Nat) (hk : k < l.length) : passL ns os (l.take (k + 1)) = (passL ns os (l.take k) && (rightsN ns os (l.getD k 0)).testBit 2) := by
  unfold passL
  rw [take_snoc l k hk, List.all_append]
  simp [hk]
theorem passL_stop {ns : List Nd} {os : List Bool} {l : List Int} (k : Nat) (h : passL ns os (l.take k) = false) : passL ns os l = false := by
  unfold passL at h ⊢
  rw [← List.take_append_drop k l, List.all_append, h]; rfl
set_option maxRecDepth 8000 in
set_option maxHeartbeats 4000000 in
theorem nmay_any {B : Nat} {w : World} {b : Nat} {vn vo : Value} {ns : List Nd} {os : List Bool} (h : GS 45 B w b vn vo ns (os.map (! ·))) (hw : Wf ns os.length) (v : V) (ao : Option Addr) (cap : Nat) (hI : Is w v ao) (hS : v.size ≤ 500) :
    Calls Try.prog 11 #[.pointer (some ⟨b, 0, none⟩), .agg #[.int .i64 v.kind, .int .i64 v.n, .slice ao v.l.length cap]] w fun e w' => e = .returned (.int .i64 (mayOf ns os v)) ∧ Quiet w w' := by
  have qW : Quiet w (w.alloc (.cells #[.int .i64 v.kind, .int .i64 v.n, .slice ao v.l.length cap] 25)) := Kp.alloc _ _
  have b0 := heap_alloc_new w (.cells #[.int .i64 v.kind, .int .i64 v.n, .slice ao v.l.length cap] 25)
  have HBX := hid (fun (w' : World) (q : Quiet (w.alloc (.cells #[.int .i64 v.kind, .int .i64 v.n, .slice ao v.l.length cap] 25)) w') => box_cells ((q.block _ (lt_of_block b0) fun e => e).trans b0))
  have H1 := hid (valFault_any v ao cap _ (hI.quiet qW) hS)
  have HI := hid (And.intro (hI.quiet qW) hS)
  have HG := hid (h.quiet qW)
  clear b0 hI h
  by_cases h1 : v.check = 0
  · have HM := hid (show mayOf ns os v = if v.gate then 9 else if passL ns os v.caps then 0 else 9 by unfold mayOf; rw [if_pos h1]; rfl)
    rw [h1] at H1
    clear h1
    cases hg : v.gate with
    | true =>
      rw [hg] at HM
      go_enter Try.func11, Try.ntmps11
      go_wp2_with (first
        | (go_at_call 19; refine (gateR_any v ao cap _ (HI.out.1.quiet q2) HI.out.2).mono ?_; rintro e w3 ⟨rfl, q3⟩; rw [hg])
        | (go_at_call 33; refine H1.out.mono ?_; rintro e w2 ⟨rfl, q2⟩; obtain ⟨z0, z1, z2⟩ := HBX.out _ q2))
      go_ret
      exact ⟨by rw [HM.out]; rfl, qW.trans (q2.trans q3)⟩
    | false =>
      rw [hg] at HM
      go_enter Try.func11, Try.ntmps11
      go_wp2_with (first
        | (go_at_call 17; refine (capsR_any v ao cap _ (HI.out.1.quiet Q3.out) HI.out.2).mono ?_; rintro e w4 ⟨sv, rfl, hr4, q4, _⟩; obtain ⟨ca, cc, rfl⟩ := owns_shape hr4; have Q4 := hid (Q3.out.trans q4); have HR := hid hr4; clear hr4 q4)
        | (go_at_call 19; refine (gateR_any v ao cap _ (HI.out.1.quiet q2) HI.out.2).mono ?_; rintro e w3 ⟨rfl, q3⟩; rw [hg]; have Q3 := hid (q2.trans q3); obtain ⟨y0, y1, y2⟩ := HBX.out _ Q3.out)
        | (go_at_call 33; refine H1.out.mono ?_; rintro e w2 ⟨rfl, q2⟩; obtain ⟨z0, z1, z2⟩ := HBX.out _ q2))
      have hcl := caps_len v
      generalize v.caps = cs at *
      obtain ⟨n, hn⟩ : ∃ n, cs.length = n := ⟨_, rfl⟩
      rw [hn] at HR hcl ⊢
      have HN := hid hn
      have hn5 : n ≤ 500 := by omega
      clear hn q2 q3 z0 z1 z2 y0 y1 y2 hcl
      go_loopw [7] (fun i wr => ∃ k : Nat, k ≤ n ∧ i = .int .i64 k ∧ Hid (passL ns os (cs.take k) = true) ∧ Hid (Quiet w4 wr)) (fun i _ => n - (intOf i).toNat)
      case atStart => exact ⟨0, Nat.zero_le _, rfl, rfl, Kp.refl _ _⟩
      case round =>
        obtain ⟨k, hk, rfl, hp, hq⟩ := hrel
        by_cases hlt : k < n
        · have hr := hq.out.row HR.out (fun _ _ e => e)
          obtain ⟨g, rfl, ck⟩ := ints_get hr HN.out k hlt
          have HT := hid (passL_take ns os cs k (by rw [HN.out]; exact hlt))
          have hrl := Gr.rights_le ns os (cs.getD k 0)
          have HC := hid (Gr.nrights_any (HG.out.quiet (Q4.out.trans hq.out)) hw (cs.getD k 0))
          generalize cs.getD k 0 = c at *
          generalize rightsN ns os c = r at *
          have HB := hid (fun w => Gr.bit_any r 2 hrl (by decide) w)
          clear hr
          cases hb : r.testBit 2 with
          | true =>
            rw [hb] at HB HT
            go_wp2_with (first
              | (go_at_call 34; refine (HB.out _).mono ?_; rintro e w6 ⟨rfl, h6⟩; replace h6 := h6.symm; subst h6)
              | (go_at_call 35; refine HC.out.mono ?_; rintro e w5 ⟨rfl, q5⟩))
            exact ⟨⟨k + 1, by omega, by go_num, by rw [Hid, HT.out, hp.out]; rfl, hq.out.trans q5⟩, by simp [intOf]; omega⟩
          | false =>
            rw [hb] at HB HT
            go_wp2_with (first
              | (go_at_call 34; refine (HB.out _).mono ?_; rintro e w6 ⟨rfl, h6⟩; replace h6 := h6.symm; subst h6)
              | (go_at_call 35; refine HC.out.mono ?_; rintro e w5 ⟨rfl, q5⟩))
            go_ret
            refine ⟨?_, qW.trans (Q4.out.trans (hq.out.trans q5))⟩
            have h9 := HM.out
            rw [passL_stop (k + 1) (by rw [HT.out]; simp)] at h9
            rw [h9]; rfl
        · have hkn : k = n := by omega
          subst hkn
          go_wp2
          go_ret
          refine ⟨?_, qW.trans (Q4.out.trans hq.out)⟩
          have h9 := HM.out
          have h8 := hp.out
          rw [← HN.out, List.take_length] at h8
          rw [h8] at h9
          rw [h9]; rfl
  · have HM := hid (show mayOf ns os v = v.check by unfold mayOf; rw [if_neg h1])
    have hne : (v.check != 0) = true := by simpa using h1
    go_enter Try.func11, Try.ntmps11
    go_wp2_with (go_at_call 33; refine H1.out.mono ?_; rintro e w2 ⟨rfl, q2⟩; obtain ⟨z0, z1, z2⟩ := HBX.out _ q2)
    go_ret
    exact ⟨by simp [HM.out], qW.trans q2⟩
end Go.Proofs.Ytclkaamcoicgcae
