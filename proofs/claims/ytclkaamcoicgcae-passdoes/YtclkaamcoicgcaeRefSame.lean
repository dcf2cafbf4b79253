/- The document's own answer: are two values the same? -/
import Derived.Test.YtclkaamcoicgcaeJSize
import Derived.StillTailTactics
namespace Go.Proofs.Ytclkaamcoicgcae
open Go.ChangeShapes Go.WideShapes Go.ChangeAt Go.RowKit
theorem Try.mixed : Try.prog.follows .mixedOrders = true := by kernel_rfl
def SameOk (x : V) : Prop := ∀ (u : V) (xa ua : Option Addr) (xc uc : Nat) (w : World), Is w x xa → Is w u ua → x.size ≤ 500 →
    Calls Try.prog 14 #[.agg #[.int .i64 x.kind, .int .i64 x.n, .slice xa x.l.length xc], .agg #[.int .i64 u.kind, .int .i64 u.n, .slice ua u.l.length uc]] w fun e w' => e = .returned (.bool (x.same u)) ∧ Quiet w w'
theorem fo_quiet {w w' : World} {l : List V} {ao : Option Addr} (h : Fo w l ao) (q : Quiet w w') : Fo w' l ao := fun i hi => by
  obtain ⟨b, off, e, k⟩ := h i hi
  exact ⟨b, off, e, at_quiet k q⟩
theorem fo_get {w : World} {l : List V} {ao : Option Addr} (h : Fo w l ao) (i : Nat) (hi : i < l.length) :
    ∃ b off, ao = some ⟨b, off, none⟩ ∧ w.cell? ⟨b, off + i * 3, none⟩ = some (.int .i64 l[i].kind) ∧ w.cell? ⟨b, off + i * 3 + 1, none⟩ = some (.int .i64 l[i].n) ∧ ∃ ai cap, w.cell? ⟨b, off + i * 3 + 2, none⟩ = some (.slice ai l[i].l.length cap) ∧ Is w l[i] ai := by
  obtain ⟨b, off, e, h⟩ := h i hi
  exact ⟨b, off, e, (at_iff3 w _ _ _).1 h⟩
theorem take_eq' {a b : List V} (hl : a.length = b.length) (j : Nat) (hj : j < a.length) (h : a.take j = b.take j) (h2 : a[j] = b[j]'(hl ▸ hj)) : a.take (j + 1) = b.take (j + 1) := by
  rw [List.take_add_one, List.take_add_one, List.getElem?_eq_getElem hj, List.getElem?_eq_getElem (hl ▸ hj), h, h2]
set_option maxRecDepth 8000 in
set_option maxHeartbeats 1000000 in
theorem sameVals_of (xs ys : List V) (hih : ∀ x ∈ xs, SameOk x) (xa ya : Option Addr) (xc yc : Nat) (w : World) (hx : Fo w xs xa) (hy : Fo w ys ya) (hS : sizes xs ≤ 500) :
    Calls Try.prog 38 #[.slice xa xs.length xc, .slice ya ys.length yc] w fun e w' => e = .returned (.bool (sames xs ys)) ∧ Quiet w w' := by
  have hlen : xs.length ≤ 500 := by have := sizes_len xs; omega
  by_cases hll : xs.length = ys.length
  · rw [← hll]
    have HLL := hid hll
    have HI := hid (And.intro hih (And.intro hx hy))
    clear hll hih hx hy
    go_enter Try.func38, Try.ntmps38
    go_wp2
    go_loopw [5] (fun i wr => ∃ j : Nat, j ≤ xs.length ∧ i = .int .i64 j ∧ xs.take j = ys.take j ∧ Quiet w wr) (fun i _ => xs.length - (intOf i).toNat)
    case atStart => exact ⟨0, Nat.zero_le _, rfl, by simp, Kp.refl _ _⟩
    case round =>
      obtain ⟨j, hj, rfl, he, q⟩ := hrel
      have HE := hid he
      clear he
      by_cases hlt : j < xs.length
      · obtain ⟨b, off, rfl, d0, d1, ai, ci, d2, hi⟩ := fo_get (fo_quiet HI.out.2.1 q) j hlt
        obtain ⟨b', off', rfl, e0, e1, ai', ci', e2, hi'⟩ := fo_get (fo_quiet HI.out.2.2 q) j (HLL.out ▸ hlt)
        have hsz : xs[j].size ≤ 500 := by have := size_get xs j hlt; omega
        have HC := hid (HI.out.1 xs[j] (List.getElem_mem hlt) (ys[j]'(HLL.out ▸ hlt)) ai ai' ci ci' wr.drew (hi.quiet (Kp.drew _)) (hi'.quiet (Kp.drew _)) hsz)
        have HN := hid (take_eq' HLL.out j hlt HE.out)
        have HF : Hid (¬ xs[j] = ys[j]'(HLL.out ▸ hlt) → ¬ xs = ys) := fun h e => h (by subst e; rfl)
        generalize hu : xs[j] = x at *
        generalize hv : ys[j]'(HLL.out ▸ hlt) = y at *
        clear hu hv hi hi' hsz
        cases hxy : x.same y with
        | true =>
          have h1 := hid ((same_iff x y).1 hxy)
          go_wp2
          go_still_tail 8, Try.mixed
          go_wp2_with (go_at_call 14; refine HC.out.mono ?_; rintro e w3 ⟨rfl, q3⟩; rw [hxy])
          exact ⟨⟨j + 1, by omega, by go_num, HN.out h1.out, q.trans ((Kp.drew _).trans q3)⟩, by simp [intOf]; omega⟩
        | false =>
          have h1 : Hid (¬ x = y) := fun e => by rw [same_iff x y |>.2 e] at hxy; simp at hxy
          go_wp2
          go_still_tail 8, Try.mixed
          go_wp2_with (go_at_call 14; refine HC.out.mono ?_; rintro e w3 ⟨rfl, q3⟩; rw [hxy])
          go_ret
          exact ⟨by rw [sames_false (HF.out h1.out)]; rfl, q.trans ((Kp.drew _).trans q3)⟩
      · have hE := hid (show xs = ys by have h := HE.out; rw [List.take_of_length_le (by omega), List.take_of_length_le (by have := HLL.out; omega)] at h; exact h)
        go_wp2
        go_ret
        exact ⟨by rw [sames_true hE.out]; rfl, q⟩
  · have hE := hid (sames_false (a := xs) (b := ys) (fun h => hll (h ▸ rfl)))
    have l1 : ((xs.length : Int) != (ys.length : Int)) = true := by simp; omega
    clear hih hx hy
    go_enter Try.func38, Try.ntmps38
    go_wp2
    go_ret
    exact ⟨by rw [hE.out]; rfl, Kp.refl _ _⟩
set_option maxRecDepth 8000 in
set_option maxHeartbeats 1000000 in
theorem sameVal_any (v : V) : SameOk v := by
  induction v using V.ind with
  | h k n l ih =>
    intro u xa ua xc uc w hx hu hS
    obtain ⟨k', n', l'⟩ := u
    have q1 : Quiet w (w.alloc (.cells #[.int .i64 k, .int .i64 n, .slice xa l.length xc] 25)) := Kp.alloc _ _
    have q2 : Quiet _ ((w.alloc (.cells #[.int .i64 k, .int .i64 n, .slice xa l.length xc] 25)).alloc (.cells #[.int .i64 k', .int .i64 n', .slice ua l'.length uc] 25)) := Kp.alloc _ _
    have q12 := q1.trans q2
    have HC := hid (sameVals_of l l' ih xa ua xc uc _ (fo_quiet hx.fo q12) (fo_quiet hu.fo q12) (by rw [size_mk] at hS; omega))
    clear ih hx hu
    by_cases hk : k = k'
    · subst hk
      by_cases hn : n = n'
      · subst hn
        have hE := hid (show (V.mk k n l).same ⟨k, n, l'⟩ = sames l l' by rw [same_mk]; simp)
        go_enter Try.func14, Try.ntmps14
        go_wp2_with (go_at_call 38; refine HC.out.mono ?_; rintro e w3 ⟨rfl, q3⟩)
        go_ret
        exact ⟨by rw [hE.out]; rfl, q12.trans q3⟩
      · have hE := hid (show (V.mk k n l).same ⟨k, n', l'⟩ = false by rw [same_mk]; simp [hn])
        have l1 : (n == n') = false := by simpa using hn
        have l2 : decide (n = n') = false := by simpa using hn
        go_enter Try.func14, Try.ntmps14
        go_wp2_with (go_at_call 38; refine HC.out.mono ?_; rintro e w3 ⟨rfl, q3⟩)
        go_ret
        exact ⟨by rw [hE.out]; rfl, q12⟩
    · have hE := hid (show (V.mk k n l).same ⟨k', n', l'⟩ = false by rw [same_mk]; simp [hk])
      have l1 : (k == k') = false := by simpa using hk
      have l2 : decide (k = k') = false := by simpa using hk
      go_enter Try.func14, Try.ntmps14
      go_wp2_with (go_at_call 38; refine HC.out.mono ?_; rintro e w3 ⟨rfl, q3⟩)
      go_ret
      exact ⟨by rw [hE.out]; rfl, q12⟩
end Go.Proofs.Ytclkaamcoicgcae
