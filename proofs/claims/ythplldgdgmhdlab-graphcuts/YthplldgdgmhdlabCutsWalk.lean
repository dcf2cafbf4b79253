/- The walk of the law GraphCuts. -/
import Derived.Test.YthplldgdgmhdlabDraws
namespace Go.Proofs.Ythplldgdgmhdlab
open Go.ChangeShapes Go.WideShapes Go.ChangeAt Go.RowKit
/-- The row of rights beside the object, as far as it is filled. -/
structure Fill (B : Nat) (w0 wr : World) (gb c0 : Nat) (vn vo : Value) (ns : List Nd) (os : List Bool) (l : List Int) : Prop where
  g : GS 52 B wr gb vn vo ns os
  row : wr.heap[c0]? = some (.cells (ints l).toArray 3 (0, 0))
  out : ¬ Own gb vn vo c0
  lo : B ≤ c0
  below : Below B w0 wr
section
variable {B : Nat} {w0 wr w' : World} {gb c0 : Nat} {vn vo : Value} {ns : List Nd} {os : List Bool} {l : List Int}
theorem Fill.quiet (h : Fill B w0 wr gb c0 vn vo ns os l) (hq : Quiet wr w') : Fill B w0 w' gb c0 vn vo ns os l :=
  ⟨h.g.quiet hq, (hq.block _ (lt_of_block h.row) id).trans h.row, h.out, h.lo, hq.qbelow h.g.size h.below⟩
theorem Fill.store (h : Fill B w0 wr gb c0 vn vo ns os l) (k : Nat) (x : Int) : Fill B w0 (wr.setCell ⟨c0, k, none⟩ (.int .i64 x)) gb c0 vn vo ns os (l.set k x) := by
  have k1 : Kp (fun i => i = c0) wr (wr.setCell ⟨c0, k, none⟩ (.int .i64 x)) := Kp.setCell _ _ _ rfl
  exact ⟨h.g.kept k1 fun i e e2 => h.out (e2 ▸ e), rs_store h.row k x, h.out, h.lo, h.below.setCell (p := ⟨c0, k, none⟩) h.lo _⟩
theorem Fill.goes (h : Fill B w0 wr gb c0 vn vo ns os l) {vn' vo' : Value} {ns' : List Nd} {os' : List Bool} (h' : GS 52 B w' gb vn' vo' ns' os') (hg : Goes gb vn vo wr vn' vo' w') : Fill B w0 w' gb c0 vn' vo' ns' os' l := by
  obtain ⟨r, o⟩ := hg.block h.row h.out
  exact ⟨h', r, o, h.lo, hg.below h.g h.below⟩
theorem Fill.made (h : GS 52 B wr gb vn vo ns os) (hb : Below B w0 wr) (l : List Int) : Fill B w0 (wr.alloc (.cells (ints l).toArray 3)) gb wr.heap.size vn vo ns os l :=
  ⟨h.quiet (Kp.alloc _ _), heap_alloc_new _ _, fun e => by have := (h.own _ e).2; omega, h.size, hb.alloc h.size _⟩
theorem Fill.cell (h : Fill B w0 wr gb c0 vn vo ns os l) (k : Nat) (hk : k < l.length) : wr.cell? ⟨c0, k, none⟩ = some (.int .i64 l[k]) := rs_cell h.row k hk
theorem Fill.free (h : Fill B w0 wr gb c0 vn vo ns os l) (k : Nat) : wr.frozen? ⟨c0, k, none⟩ = false := frozen_of_row wr c0 k _ 3 h.row
end
theorem rs_at {ns : List Nd} {os : List Bool} {all k m : Nat} (h : k < (rsTo ns os all m).length) (hm : k < m) : (rsTo ns os all m)[k] = ((rightsN ns os k : Nat) : Int) := by
  simp [rsTo, hm]
set_option maxRecDepth 8000 in
set_option maxHeartbeats 20000000 in
theorem cutsLaw (w : World) (ao am : Option Addr) (cap cam : Nat) (ss sm : List Stp) (gate : Int) (hS : Lies w ao ss) (hM : Lies w am sm) :
    Calls Try.prog 4 #[.slice ao ss.length cap, .slice am sm.length cam, .int .i64 gate] w fun e w' => e = .returned (.bool true) ∧ Below w.heap.size w w' := by
  have HS := hid hS
  have HM := hid hM
  clear hS hM
  by_cases hl : 150 < ss.length
  · have hd : decide (150 < (ss.length : Int)) = true := by simp; omega
    go_enter Try.func4, Try.ntmps4
    go_wp2_with (go_at_call 6; refine (begun_any _).mono ?_; rintro e w2 ⟨rfl, b2⟩)
    go_ret
    exact ⟨rfl, b2⟩
  by_cases hl2 : 100 < sm.length
  · have hd : decide (150 < (ss.length : Int)) = false := by simp; omega
    have hd2 : decide (100 < (sm.length : Int)) = true := by simp; omega
    go_enter Try.func4, Try.ntmps4
    go_wp2_with (go_at_call 6; refine (begun_any _).mono ?_; rintro e w2 ⟨rfl, b2⟩)
    go_ret
    exact ⟨rfl, b2⟩
  have hd : decide (150 < (ss.length : Int)) = false := by simp; omega
  have hd2 : decide (100 < (sm.length : Int)) = false := by simp; omega
  go_enter Try.func4, Try.ntmps4
  go_wp2_with (first
    | (go_at_call 6; refine (begun_any _).mono ?_; rintro e w1 ⟨rfl, b1⟩)
    | (go_at_call 7; refine (new_any w.heap.size _ b1.size).mono ?_; rintro e w2 ⟨rfl, h2, k2⟩))
  have b2 := k2.qbelow b1.size b1
  generalize w1.heap.size = gb at *
  go_loopw [8] (fun i wr => ∃ (k : Nat) (ns : List Nd) (os : List Bool) (vn vo : Value), k ≤ ss.length ∧ i = .int .i64 k ∧ Below w.heap.size w wr ∧ GS 52 w.heap.size wr gb vn vo ns os ∧ Wf ns os.length) (fun i _ => ss.length - (intOf i).toNat)
  case atStart => exact ⟨0, [], [], _, _, Nat.zero_le _, rfl, b2, h2, Wf.nil _⟩
  case round =>
    clear b2 h2 k2 b1
    obtain ⟨k, ns, os, vn, vo, hk, rfl, hbel, hG, hW⟩ := hrel
    by_cases hlt : k < ss.length
    · obtain ⟨a, off, rfl, ha, c0', c1', c2', c3', c4'⟩ := HS.out k hlt
      have hgr := hid ((step_grows ns os ss[k]).wf hW)
      clear hW
      generalize hx : ss[k] = x at *
      clear hx
      have bb := hbel.alloc hG.size (.cells #[.slice none 0 0, .slice none 0 0] 34)
      rw [← bb.cell (by exact ha)] at c0' c1' c2' c3' c4'
      go_wp2_with (go_at_call 10; refine (lstep_any hG x).mono ?_; rintro e w4 ⟨q4, vn4, vo4, rfl, h4, k4⟩; have HF := hid (And.intro (k4.below hG hbel) h4); clear k4 h4 hG hbel bb c0' c1' c2' c3' c4')
      exact ⟨⟨k + 1, _, _, _, _, by omega, by go_num, HF.out.1, HF.out.2, hgr.out⟩, by simp [intOf]; omega⟩
    · have hln := hG.ln
      have mk := make_any ns.length hln
      rw [rs_made ns os] at mk
      go_wp2_with (go_at_call 8; refine (nodes_any hG).mono ?_; rintro e w3 ⟨v3, rfl, r3, q3⟩; have h3 := hG.quiet q3; have b3 := q3.qbelow hG.size hbel; obtain ⟨a3, cap3, rfl⟩ := owns_shape r3; clear hG hbel q3 r3)
      have F0 := Fill.made h3 b3 (rsTo ns os ns.length 0)
      generalize w3.heap.size = c0 at *
      clear h3 b3 HS mk
      go_loopw [11] (fun i wq => ∃ m : Nat, m ≤ ns.length ∧ i = .int .i64 m ∧ Fill w.heap.size w wq gb c0 vn vo ns os (rsTo ns os ns.length m)) (fun i _ => ns.length - (intOf i).toNat)
      case atStart => exact ⟨0, Nat.zero_le _, rfl, F0⟩
      case round =>
        clear F0
        obtain ⟨m, hm, rfl, F⟩ := hrel
        by_cases hmn : m < ns.length
        · go_wp2_with (go_at_call 9; refine (rights_any F.g hW _).mono ?_; rintro e w5 ⟨rfl, q5⟩; have F5 := F.quiet q5; have cj := F5.cell m (by rw [rs_len]; exact hmn); have fj := F5.free m; have HF := hid (F5.store m ((rightsN ns os m : Nat) : Int)); clear F q5 F5)
          exact ⟨⟨m + 1, by omega, by go_num, by rw [← rs_set]; exact HF.out⟩, by simp [intOf]; omega⟩
        · have hme : m = ns.length := by omega
          subst hme
          cases hth : thereB os.length gate with
          | false =>
            have e1 := hid (show cutOf ns os gate = ⟨0, 8, ns, os⟩ by simp [cutOf, hth])
            go_wp2_with (first
              | (go_at_call 14; refine (cut_any F.g _).mono ?_; rintro e w5 ⟨rfl, h5, k5⟩; have b5 := k5.below F.g F.below; rw [e1.out] at h5 ⊢; dsimp only at h5 ⊢; clear k5 F)
              | (go_at_call 15; refine (has_any h5 _).mono ?_; rintro e w6 ⟨rfl, rfl⟩; rw [hth]))
            go_ret
            exact ⟨rfl, b5⟩
          | true =>
            obtain ⟨j, rfl, hj⟩ := there_yes hth
            have e1 := hid (show cutOf ns os j = ⟨0, 0, ns, os.set j false⟩ by simp [cutOf, hth])
            have hW2 : Wf ns (os.set j false).length := by rw [List.length_set]; exact hW
            go_wp2_with (go_at_call 14; refine (cut_any F.g _).mono ?_; rintro e w5 ⟨rfl, h5, k5⟩; rw [e1.out] at h5 ⊢; dsimp only at h5 ⊢; have F5 := F.goes h5 k5; clear k5 h5 F)
            have HF5 := hid F5
            clear F5
            have hshut : (os.set j false).getD j false = false := by simp [List.getD_eq_getElem?_getD, List.getElem?_set]; split <;> simp
            have hjl : j < (os.set j false).length := by rw [List.length_set]; exact hj
            have hop := hid (open_cut hshut)
            have HSH := hid (And.intro hjl hshut)
            clear hshut hjl
            go_loopw [13] (fun i wq => ∃ m : Nat, m ≤ ns.length ∧ i = .int .i64 m ∧ Fill w.heap.size w wq gb c0 vn vo ns (os.set j false) (rsTo ns os ns.length ns.length)) (fun i _ => ns.length - (intOf i).toNat)
            case atStart => exact ⟨0, Nat.zero_le _, rfl, HF5.out⟩
            case round =>
              clear HF5
              obtain ⟨m, hm, rfl, F⟩ := hrel
              by_cases hmn : m < ns.length
              · have hgl : (gatesOf ns (m : Int)).length ≤ 100000 := by
                  have := gates_len (wayOf ns (m : Int)); have := way_len hW (m : Int); simp only [gatesOf]; omega
                cases hin : decide ((j : Int) ∈ gatesOf ns (m : Int)) with
                | true =>
                  have hz := hid (rights_shut (k := (m : Int)) (of_decide_eq_true hin) hop.out)
                  go_wp2_with (first
                    | (go_at_call 12; refine (gates_any F.g hW2 _).mono ?_; rintro e w6 ⟨v6, rfl, r6, q6⟩; have F6 := F.quiet q6; obtain ⟨a6, cap6, rfl⟩ := owns_shape r6; have i6 := ints_lie r6; clear F q6 r6)
                    | (go_at_call 16; refine (in_any _ _ _ _ _ hgl i6).mono ?_; rintro e w7 ⟨rfl, rfl⟩; rw [hin]))
                  haveI := After.some w7
                  refine region_after (by kernel_rfl) (by kernel_rfl) ?_
                  repeat (go_big_quiet_step ((go_at_call 9; rename_i p; exact (rights_any (F6.g.quiet p.ok) hW2 _).mono fun e w' h => ⟨(h.1.trans (by rw [hz.out]; rfl) : e = Ending.returned (.int .i64 0)), ⟨⟨w', p.ok.trans h.2⟩, rfl⟩⟩)))
                  refine wpQuiet_nil ?_
                  rintro _ ⟨p, rfl⟩
                  have HF := hid (F6.quiet p.ok)
                  go_wp2
                  exact ⟨⟨m + 1, by omega, by go_num, HF.out⟩, by simp [intOf]; omega⟩
                | false =>
                  have hz := hid (rights_far (os := os) (k := (m : Int)) (of_decide_eq_false hin))
                  go_wp2_with (first
                    | (go_at_call 12; refine (gates_any F.g hW2 _).mono ?_; rintro e w6 ⟨v6, rfl, r6, q6⟩; have F6 := F.quiet q6; obtain ⟨a6, cap6, rfl⟩ := owns_shape r6; have i6 := ints_lie r6; clear F q6 r6)
                    | (go_at_call 16; refine (in_any _ _ _ _ _ hgl i6).mono ?_; rintro e w7 ⟨rfl, rfl⟩; rw [hin]))
                  haveI := After.some w7
                  have cm : ∀ p : After w7, p.val.cell? ⟨c0, m, none⟩ = some (.int .i64 ((rightsN ns os m : Nat) : Int)) := fun p => by
                    have := (F6.quiet p.ok).cell m (by rw [rs_len]; exact hmn)
                    rwa [rs_at _ hmn] at this
                  have m0 : (0 : Int) ≤ (m : Int) := by omega
                  have m1 : (m : Int) < (ns.length : Int) := by omega
                  refine region_after (by kernel_rfl) (by kernel_rfl) ?_
                  repeat (go_big_quiet_step ((go_at_call 9; rename_i p; exact (rights_any (F6.g.quiet p.ok) hW2 _).mono fun e w' h => ⟨(h.1.trans (by rw [hz.out]) : e = Ending.returned (.int .i64 ((rightsN ns os m : Nat) : Int))), ⟨⟨w', p.ok.trans h.2⟩, rfl⟩⟩)))
                  refine wpQuiet_nil ?_
                  rintro _ ⟨p, rfl⟩
                  have HF := hid (F6.quiet p.ok)
                  clear cm
                  go_wp2
                  exact ⟨⟨m + 1, by omega, by go_num, HF.out⟩, by simp [intOf]; omega⟩
              · have HG := hid (And.intro F.below F.g)
                clear F
                go_wp2
                go_loopw [15] (fun i wq => ∃ (m : Nat) (ns : List Nd) (os : List Bool) (vn vo : Value), m ≤ sm.length ∧ i = .int .i64 m ∧ Below w.heap.size w wq ∧ GS 52 w.heap.size wq gb vn vo ns os ∧ Wf ns os.length ∧ j < os.length ∧ os.getD j false = false) (fun i _ => sm.length - (intOf i).toNat)
                case atStart => exact ⟨0, ns, _, vn, vo, Nat.zero_le _, rfl, HG.out.1, HG.out.2, hW2, HSH.out.1, HSH.out.2⟩
                case round =>
                  clear HG HSH hop e1
                  obtain ⟨k, ns, os, vn, vo, hk, rfl, hbel, hG, hW, hjl, hsh⟩ := hrel
                  by_cases hlt : k < sm.length
                  · obtain ⟨a, off, rfl, ha, c0', c1', c2', c3', c4'⟩ := HM.out k hlt
                    have hgr0 := step_grows ns os sm[k]
                    have hgr := hid (And.intro (hgr0.wf hW) (And.intro (Nat.lt_of_lt_of_le hjl hgr0.gates) (hgr0.shut j hjl hsh)))
                    clear hW hgr0 hsh
                    generalize hx : sm[k] = x at *
                    clear hx
                    have bb := hbel.alloc hG.size (.cells #[.slice none 0 0, .slice none 0 0] 34)
                    rw [← bb.cell (by exact ha)] at c0' c1' c2' c3' c4'
                    go_wp2_with (go_at_call 10; refine (lstep_any hG x).mono ?_; rintro e w4 ⟨q4, vn4, vo4, rfl, h4, k4⟩; have HF := hid (And.intro (k4.below hG hbel) h4); clear k4 h4 hG hbel bb c0' c1' c2' c3' c4')
                    exact ⟨⟨k + 1, _, _, _, _, by omega, by go_num, HF.out.1, HF.out.2, hgr.out.1, hgr.out.2.1, hgr.out.2.2⟩, by simp [intOf]; omega⟩
                  · have hop := hid (open_cut hsh)
                    have HG := hid hG
                    have HB := hid hbel
                    have hln := hG.ln
                    clear hsh hG hbel
                    go_wp2
                    go_loopw [16] (fun i wz => ∃ m : Nat, m ≤ ns.length ∧ i = .int .i64 m ∧ Below w.heap.size w wz ∧ GS 52 w.heap.size wz gb vn vo ns os) (fun i _ => ns.length - (intOf i).toNat)
                    case atStart => exact ⟨0, Nat.zero_le _, rfl, HB.out, HG.out⟩
                    case round =>
                      clear HB HG
                      obtain ⟨m, hm, rfl, hB, hG⟩ := hrel
                      by_cases hmn : m < ns.length
                      · have hgl : (gatesOf ns (m : Int)).length ≤ 100000 := by
                          have := gates_len (wayOf ns (m : Int)); have := way_len hW (m : Int); simp only [gatesOf]; omega
                        cases hin : decide ((j : Int) ∈ gatesOf ns (m : Int)) with
                        | true =>
                          have hz := hid (rights_shut (k := (m : Int)) (of_decide_eq_true hin) hop.out)
                          go_wp2_with (first
                            | (go_at_call 8; refine (nodes_any hG).mono ?_; rintro e w6 ⟨v6, rfl, r6, q6⟩; have h6 := hG.quiet q6; have b6 := q6.qbelow hG.size hB; obtain ⟨a6, cap6, rfl⟩ := owns_shape r6; clear hG hB r6 q6)
                            | (go_at_call 12; refine (gates_any h6 hW _).mono ?_; rintro e w7 ⟨v7, rfl, r7, q7⟩; have h7 := h6.quiet q7; have b7 := q7.qbelow h6.size b6; obtain ⟨a7, cap7, rfl⟩ := owns_shape r7; have i7 := ints_lie r7; clear h6 b6 q7 r7)
                            | (go_at_call 16; refine (in_any _ _ _ _ _ hgl i7).mono ?_; rintro e w8 ⟨rfl, rfl⟩; rw [hin])
                            | (go_at_call 9; refine (rights_any h7 hW _).mono ?_; rintro e w9 ⟨rfl, q9⟩; rw [hz.out]; have HF := hid (And.intro (q9.qbelow h7.size b7) (h7.quiet q9)); clear h7 b7 q9))
                          exact ⟨⟨m + 1, by omega, by go_num, HF.out.1, HF.out.2⟩, by simp [intOf]; omega⟩
                        | false =>
                          go_wp2_with (first
                            | (go_at_call 8; refine (nodes_any hG).mono ?_; rintro e w6 ⟨v6, rfl, r6, q6⟩; have h6 := hG.quiet q6; have b6 := q6.qbelow hG.size hB; obtain ⟨a6, cap6, rfl⟩ := owns_shape r6; clear hG hB r6 q6)
                            | (go_at_call 12; refine (gates_any h6 hW _).mono ?_; rintro e w7 ⟨v7, rfl, r7, q7⟩; have h7 := h6.quiet q7; have b7 := q7.qbelow h6.size b6; obtain ⟨a7, cap7, rfl⟩ := owns_shape r7; have i7 := ints_lie r7; clear h6 b6 q7 r7)
                            | (go_at_call 16; refine (in_any _ _ _ _ _ hgl i7).mono ?_; rintro e w8 ⟨rfl, rfl⟩; rw [hin]; have HF := hid (And.intro b7 h7); clear h7 b7))
                          exact ⟨⟨m + 1, by omega, by go_num, HF.out.1, HF.out.2⟩, by simp [intOf]; omega⟩
                      · go_wp2_with (first
                          | (go_at_call 8; refine (nodes_any hG).mono ?_; rintro e w6 ⟨v6, rfl, r6, q6⟩; have h6 := hG.quiet q6; have b6 := q6.qbelow hG.size hB; obtain ⟨a6, cap6, rfl⟩ := owns_shape r6; clear hG hB r6 q6)
                          | (go_at_call 17; refine (open_any h6 _).mono ?_; rintro e w7 ⟨rfl, rfl⟩; rw [hop.out]))
                        go_ret
                        exact ⟨rfl, b6⟩
end Go.Proofs.Ythplldgdgmhdlab
