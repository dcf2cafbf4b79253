/- The document's own answer: are two modules the same? -/
import Derived.Test.YtjcniiojcigefadKit
import Derived.StillTailTactics
namespace Go.Proofs.Ytjcniiojcigefad
open Go.ChangeShapes Go.WideShapes Go.ChangeAt Go.RowKit
theorem Try.mixed : Try.prog.follows .mixedOrders = true := by kernel_rfl
theorem two_boxes {w w' : World} {a b : Obj} (q : Quiet ((w.alloc a).alloc b) w') : w'.heap[w.heap.size]? = some a ∧ w'.heap[w.heap.size + 1]? = some b := by
  have h0 : ((w.alloc a).alloc b).heap[w.heap.size]? = some a := by rw [Below.heap_alloc _ _ _ (by simp)]; exact heap_alloc_new w _
  have h1 := heap_two w a b
  exact ⟨(q.block _ (lt_of_block h0) fun e => e).trans h0, (q.block _ (lt_of_block h1) fun e => e).trans h1⟩
set_option maxRecDepth 8000 in
set_option maxHeartbeats 4000000 in
theorem sameE_any (v : V) : ∀ (u : V) (va ua : Option Addr) (vc uc : Nat) (w : World), Is w v va → Is w u ua → v.size ≤ 20000 →
    Calls Try.prog 21 #[.agg #[.int .i64 v.kind, .int .i64 v.k, .int .i64 v.n, .slice va v.l.length vc], .agg #[.int .i64 u.kind, .int .i64 u.k, .int .i64 u.n, .slice ua u.l.length uc]] w fun e w' => e = .returned (.bool (v.same u)) ∧ Quiet w w' := by
  induction v using V.ind' with
  | h v ih =>
    intro u va ua vc uc w hV hU hS
    have q2 : Quiet w ((w.alloc (.cells #[.int .i64 v.kind, .int .i64 v.k, .int .i64 v.n, .slice va v.l.length vc] 38)).alloc (.cells #[.int .i64 u.kind, .int .i64 u.k, .int .i64 u.n, .slice ua u.l.length uc] 38)) := (Kp.alloc _ _).trans (Kp.alloc _ _)
    have hvl : v.l.length ≤ 20000 := by have := sizes_len v.l; have := size_eq v; omega
    by_cases h1 : ¬ v.kind = u.kind
    · have hE := hid (same_false (v := v) (u := u) (fun h => h1 (by rw [h])))
      have b1 : (v.kind != u.kind) = true := by simpa using h1
      have b2 : decide (v.kind = u.kind) = false := by simpa using h1
      have b3 : (v.kind == u.kind) = false := by simpa using h1
      go_enter Try.func21, Try.ntmps21
      go_wp2
      go_ret
      exact ⟨by rw [hE.out]; rfl, q2⟩
    have h1 : v.kind = u.kind := Decidable.not_not.1 h1
    have b1 : (v.kind != u.kind) = false := by simpa using h1
    have b2 : decide (v.kind = u.kind) = true := by simpa using h1
    have b3 : (v.kind == u.kind) = true := by simpa using h1
    by_cases h2 : ¬ v.k = u.k
    · have hE := hid (same_false (v := v) (u := u) (fun h => h2 (by rw [h])))
      have d1 : (v.k != u.k) = true := by simpa using h2
      have d2 : decide (v.k = u.k) = false := by simpa using h2
      have d3 : (v.k == u.k) = false := by simpa using h2
      clear h1
      go_enter Try.func21, Try.ntmps21
      go_wp2
      go_ret
      exact ⟨by rw [hE.out]; rfl, q2⟩
    have h2 : v.k = u.k := Decidable.not_not.1 h2
    have d1 : (v.k != u.k) = false := by simpa using h2
    have d2 : decide (v.k = u.k) = true := by simpa using h2
    have d3 : (v.k == u.k) = true := by simpa using h2
    by_cases h3 : ¬ v.n = u.n
    · have hE := hid (same_false (v := v) (u := u) (fun h => h3 (by rw [h])))
      have e1 : (v.n != u.n) = true := by simpa using h3
      have e2 : decide (v.n = u.n) = false := by simpa using h3
      have e3 : (v.n == u.n) = false := by simpa using h3
      clear h1 h2
      go_enter Try.func21, Try.ntmps21
      go_wp2
      go_ret
      exact ⟨by rw [hE.out]; rfl, q2⟩
    have h3 : v.n = u.n := Decidable.not_not.1 h3
    have e1 : (v.n != u.n) = false := by simpa using h3
    have e2 : decide (v.n = u.n) = true := by simpa using h3
    have e3 : (v.n == u.n) = true := by simpa using h3
    by_cases h4 : ¬ v.l.length = u.l.length
    · have hE := hid (same_false (v := v) (u := u) (fun h => h4 (by rw [h])))
      have f1 : ((v.l.length : Int) != (u.l.length : Int)) = true := by simp; omega
      have f2 : decide ((v.l.length : Int) = (u.l.length : Int)) = false := by simp; omega
      have f3 : ((v.l.length : Int) == (u.l.length : Int)) = false := by simp; omega
      clear h1 h2 h3
      go_enter Try.func21, Try.ntmps21
      go_wp2
      go_ret
      exact ⟨by rw [hE.out]; rfl, q2⟩
    have h4 : v.l.length = u.l.length := Decidable.not_not.1 h4
    have f1 : ((v.l.length : Int) != (u.l.length : Int)) = false := by simp; omega
    have HA := hid (And.intro h1 (And.intro h2 (And.intro h3 h4)))
    have HI := hid (And.intro hV (And.intro hU ih))
    have hsz : ∀ j (h : j < v.l.length), v.l[j].size ≤ 20000 := fun j h => by have := size_get v.l j h; have := size_eq v; omega
    have HS := hid hsz
    rw [← h4]
    clear h1 h2 h3 h4 hV hU ih hS hsz f1
    go_enter Try.func21, Try.ntmps21
    go_wp2
    go_loopw [5] (fun i wr => ∃ j : Nat, j ≤ v.l.length ∧ i = .int .i64 j ∧ v.l.take j = u.l.take j ∧ Quiet w wr ∧ wr.heap[w.heap.size]? = some (.cells #[.int .i64 v.kind, .int .i64 v.k, .int .i64 v.n, .slice va v.l.length vc] 38 (0, 0)) ∧ wr.heap[w.heap.size + 1]? = some (.cells #[.int .i64 u.kind, .int .i64 u.k, .int .i64 u.n, .slice ua v.l.length uc] 38 (0, 0))) (fun i _ => v.l.length - (intOf i).toNat)
    case atStart => exact ⟨0, Nat.zero_le _, rfl, by simp, (Kp.alloc _ _).trans (Kp.alloc _ _), (two_boxes (Kp.refl _ _)).1, (two_boxes (Kp.refl _ _)).2⟩
    case round =>
      rename World => wq
      obtain ⟨j, hj, rfl, ht, q, hb0, hb1⟩ := hrel
      obtain ⟨_, _, _, x3⟩ := box_cells hb0
      obtain ⟨_, _, _, y3⟩ := box_cells hb1
      have HB := hid (And.intro hb0 (And.intro hb1 ht))
      clear hb0 hb1 ht
      by_cases hlt : j < v.l.length
      · have hlu : j < u.l.length := HA.out.2.2.2 ▸ hlt
        obtain ⟨xb, xo, rfl, xh, ca, cc, xs, hci⟩ := (HI.out.1.quiet q).get j hlt
        obtain ⟨yb, yo, rfl, yh, da, dc, ys, hdi⟩ := (HI.out.2.1.quiet q).get j hlu
        obtain ⟨x0, x9, x1⟩ := xh
        obtain ⟨y0, y9, y1⟩ := yh
        have HC := hid (HI.out.2.2 v.l[j] (List.getElem_mem hlt) u.l[j] ca da cc dc wq.drew (hci.quiet (Kp.drew _)) (hdi.quiet (Kp.drew _)) (HS.out j hlt))
        have HT := hid (take_eq HA.out.2.2.2 j hlt)
        generalize hcx : v.l[j] = c at *
        generalize hcy : u.l[j] = d at *
        clear hcx hcy hci hdi hlu
        cases hsm : c.same d with
        | true =>
          have HSM := hid ((same_iff c d).1 hsm)
          go_wp2
          go_still_tail 10, Try.mixed
          go_wp2_with (go_at_call 21; refine HC.out.mono ?_; rintro e w3 ⟨rfl, q3⟩; rw [hsm])
          have q4 : Quiet wq w3 := (Kp.drew _).trans q3
          exact ⟨⟨j + 1, by omega, by go_num, HT.out.2 ⟨HB.out.2.2, HSM.out⟩, q.trans q4, (q4.block _ (lt_of_block HB.out.1) fun e => e).trans HB.out.1, (q4.block _ (lt_of_block HB.out.2.1) fun e => e).trans HB.out.2.1⟩, by simp [intOf]; omega⟩
        | false =>
          have hE := hid (same_false (v := v) (u := u) (fun h => by
            have h2 := (HT.out.1 (by rw [h])).2
            rw [same_true h2] at hsm; simp at hsm))
          go_wp2
          go_still_tail 10, Try.mixed
          go_wp2_with (go_at_call 21; refine HC.out.mono ?_; rintro e w3 ⟨rfl, q3⟩; rw [hsm])
          go_ret
          exact ⟨by rw [hE.out]; rfl, q.trans ((Kp.drew _).trans q3)⟩
      · have hjl : j = v.l.length := by omega
        have hE := hid (same_true (v := v) (u := u) (by
          have h := HB.out.2.2
          have h4 := HA.out.2.2.2
          rw [hjl, List.take_length, h4, List.take_length] at h
          exact v_ext.2 ⟨⟨HA.out.1, HA.out.2.1, HA.out.2.2.1⟩, h⟩))
        subst hjl
        go_wp2
        go_ret
        exact ⟨by rw [hE.out]; rfl, q⟩
set_option maxRecDepth 8000 in
set_option maxHeartbeats 4000000 in
theorem sameR_any (a b : List V) (aa ba : Option Addr) (ac bc : Nat) (w : World) (hA : Fo w a aa) (hB : Fo w b ba) (hS : sizes a ≤ 20000) :
    Calls Try.prog 10 #[.agg #[.slice aa a.length ac], .agg #[.slice ba b.length bc]] w fun e w' => e = .returned (.bool (sames a b)) ∧ Quiet w w' := by
  have q2 : Quiet w ((w.alloc (.cells #[.slice aa a.length ac] 24)).alloc (.cells #[.slice ba b.length bc] 24)) := (Kp.alloc _ _).trans (Kp.alloc _ _)
  have hal : a.length ≤ 20000 := by have := sizes_len a; omega
  by_cases h4 : ¬ a.length = b.length
  · have hE := hid (sames_false (a := a) (b := b) (fun h => h4 (by rw [h])))
    have f1 : ((a.length : Int) != (b.length : Int)) = true := by simp; omega
    have f2 : decide ((a.length : Int) = (b.length : Int)) = false := by simp; omega
    have f3 : ((a.length : Int) == (b.length : Int)) = false := by simp; omega
    go_enter Try.func10, Try.ntmps10
    go_wp2
    go_ret
    exact ⟨by rw [hE.out]; rfl, q2⟩
  have h4 : a.length = b.length := Decidable.not_not.1 h4
  have HA := hid h4
  have HI := hid (And.intro hA hB)
  have hsz : ∀ j (h : j < a.length), a[j].size ≤ 20000 := fun j h => by have := size_get a j h; omega
  have HS := hid hsz
  rw [← h4]
  clear h4 hA hB hS hsz
  go_enter Try.func10, Try.ntmps10
  go_wp2
  go_loopw [5] (fun i wr => ∃ j : Nat, j ≤ a.length ∧ i = .int .i64 j ∧ a.take j = b.take j ∧ Quiet w wr ∧ wr.heap[w.heap.size]? = some (.cells #[.slice aa a.length ac] 24 (0, 0)) ∧ wr.heap[w.heap.size + 1]? = some (.cells #[.slice ba a.length bc] 24 (0, 0))) (fun i _ => a.length - (intOf i).toNat)
  case atStart => exact ⟨0, Nat.zero_le _, rfl, by simp, (Kp.alloc _ _).trans (Kp.alloc _ _), (two_boxes (Kp.refl _ _)).1, (two_boxes (Kp.refl _ _)).2⟩
  case round =>
    rename World => wq
    obtain ⟨j, hj, rfl, ht, q, hb0, hb1⟩ := hrel
    have x3 := cell_of_one hb0
    have y3 := cell_of_one hb1
    have HB := hid (And.intro hb0 (And.intro hb1 ht))
    clear hb0 hb1 ht
    by_cases hlt : j < a.length
    · have hlu : j < b.length := HA.out ▸ hlt
      obtain ⟨xb, xo, rfl, xh, ca, cc, xs, hci⟩ := (HI.out.1.quiet q).get j hlt
      obtain ⟨yb, yo, rfl, yh, da, dc, ys, hdi⟩ := (HI.out.2.quiet q).get j hlu
      obtain ⟨x0, x9, x1⟩ := xh
      obtain ⟨y0, y9, y1⟩ := yh
      have HC := hid (sameE_any a[j] b[j] ca da cc dc wq.drew (hci.quiet (Kp.drew _)) (hdi.quiet (Kp.drew _)) (HS.out j hlt))
      have HT := hid (take_eq HA.out j hlt)
      generalize hcx : a[j] = c at *
      generalize hcy : b[j] = d at *
      clear hcx hcy hci hdi hlu
      cases hsm : c.same d with
      | true =>
        have HSM := hid ((same_iff c d).1 hsm)
        go_wp2
        go_still_tail 10, Try.mixed
        go_wp2_with (go_at_call 21; refine HC.out.mono ?_; rintro e w3 ⟨rfl, q3⟩; rw [hsm])
        have q4 : Quiet wq w3 := (Kp.drew _).trans q3
        exact ⟨⟨j + 1, by omega, by go_num, HT.out.2 ⟨HB.out.2.2, HSM.out⟩, q.trans q4, (q4.block _ (lt_of_block HB.out.1) fun e => e).trans HB.out.1, (q4.block _ (lt_of_block HB.out.2.1) fun e => e).trans HB.out.2.1⟩, by simp [intOf]; omega⟩
      | false =>
        have hE := hid (sames_false (a := a) (b := b) (fun h => by
          have h2 := (HT.out.1 (by rw [h])).2
          rw [same_true h2] at hsm; simp at hsm))
        go_wp2
        go_still_tail 10, Try.mixed
        go_wp2_with (go_at_call 21; refine HC.out.mono ?_; rintro e w3 ⟨rfl, q3⟩; rw [hsm])
        go_ret
        exact ⟨by rw [hE.out]; rfl, q.trans ((Kp.drew _).trans q3)⟩
    · have hjl : j = a.length := by omega
      have hE := hid (sames_true (a := a) (b := b) (by
        have h := HB.out.2.2
        have h4 := HA.out
        rw [hjl, List.take_length, h4, List.take_length] at h
        exact h))
      subst hjl
      go_wp2
      go_ret
      exact ⟨by rw [hE.out]; rfl, q⟩
end Go.Proofs.Ytjcniiojcigefad
