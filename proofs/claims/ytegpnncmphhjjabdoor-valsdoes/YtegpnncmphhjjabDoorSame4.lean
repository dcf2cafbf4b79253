/- The contract of Same: pairs of places that are still to be compared. -/
import Derived.Test.YtegpnncmphhjjabDoorMore
import Derived.Deep.RegionLaw
import Derived.Lib.Builder
import Derived.Carry
namespace Go.Proofs.YtegpnncmphhjjabDoor
open Go.ChangeShapes Go.WideShapes Go.ChangeAt Go.RowKit
abbrev Pp := Pl × Pl
def ptr2 (p : Pp) : List Value := [ptr p.1, ptr p.2]
def fsz (ps : List Pp) : Nat := (ps.map fun p => p.1.1.size).sum
theorem fsz_app (a b : List Pp) : fsz (a ++ b) = fsz a + fsz b := by simp [fsz]
theorem fsz_one (p : Pp) : fsz [p] = p.1.1.size := by simp [fsz]
theorem fsz_len (ps : List Pp) : ps.length ≤ fsz ps := by
  induction ps with
  | nil => simp [fsz]
  | cons x ts ih => have := size_pos x.1.1; simp [fsz] at ih ⊢; omega
def Lie2 (w : World) (ps : List Pp) : Prop := ∀ p ∈ ps, p.1.1.at w p.1.2.1 p.1.2.2 ∧ p.2.1.at w p.2.2.1 p.2.2.2
def Eq2 (ps : List Pp) : Prop := ∀ p ∈ ps, p.1.1 = p.2.1
theorem Eq2.app (a b : List Pp) : Eq2 (a ++ b) ↔ Eq2 a ∧ Eq2 b := by simp only [Eq2, List.mem_append, or_imp, forall_and]
theorem Eq2.one (p : Pp) : Eq2 [p] ↔ p.1.1 = p.2.1 := by simp [Eq2]
theorem Lie2.app {w : World} {a b : List Pp} (h : Lie2 w a) (k : Lie2 w b) : Lie2 w (a ++ b) := by
  intro x hx
  rcases List.mem_append.1 hx with h' | h'
  · exact h x h'
  · exact k x h'
theorem ptr2_len (ps : List Pp) : (ps.flatMap ptr2).length = ps.length * 2 := by
  induction ps with
  | nil => rfl
  | cons p ps ih => rw [List.flatMap_cons, List.length_append, ih]; simp [ptr2]; omega
theorem row_two (w : World) (t : TypeId) (x y : Value) : (w.alloc (.cells #[x, y] t)).ownsRow w.heap.size t 2 (.slice (some ⟨w.heap.size, 0, none⟩) 1 1) 1 [x, y] :=
  ⟨by simp, .inr ⟨w.heap.size, 1, #[x, y], rfl, Nat.le_refl _, heap_alloc_new w _, Nat.le_refl _, by decide, by simp, by simp⟩⟩
theorem push_row2 {W wr w1 : World} {p : Pp} {ps : List Pp} {sv : Value} {g cap n : Nat} {o : Obj} (hB : Below W.heap.size W wr) (hr : wr.ownsRow W.heap.size 39 2 sv n (ps.flatMap ptr2)) (hn : n = ps.length)
    (hr1 : w1.ownsRow W.heap.size 39 2 (.slice (some ⟨g, 0, none⟩) (n + 1) cap) (n + 1) (ps.flatMap ptr2 ++ ptr2 p)) (hg : (wr.alloc o).grownBy w1 sv.ownBlock) :
    w1.ownsRow W.heap.size 39 2 (.slice (some ⟨g, 0, none⟩) (n + 1) cap) (ps ++ [p]).length ((ps ++ [p]).flatMap ptr2) ∧ Below W.heap.size W w1 := by
  subst hn
  refine ⟨by simpa using hr1, hB.trans ?_⟩
  refine ((Below.refl _ _).alloc hB.size o).trans ?_
  refine (Kp.grown (F := fun k => W.heap.size ≤ k) hg fun k _ e => (hr.lt k e.symm).1).below (by simp; have := hB.size; omega) fun k hk => hk
theorem low_drewN {B : Nat} {w w' : World} (h : Below B w w') (n : Nat) : Below B w (w'.drewN n) := ⟨h.os, h.tape, h.output, h.size, h.block⟩
theorem v_ext {x y : V} : x = y ↔ x.kind = y.kind ∧ x.n = y.n ∧ x.l = y.l := by cases x; cases y; simp
theorem same_true {v u : V} (h : v = u) : v.same u = true := (same_iff v u).2 h
theorem same_false {v u : V} (h : ¬ v = u) : v.same u = false := by
  cases e : v.same u with
  | false => rfl
  | true => exact absurd ((same_iff v u).1 e) h
theorem take_eq {a b : List V} (hl : a.length = b.length) (j : Nat) (hj : j < a.length) : (a.take (j + 1) = b.take (j + 1)) ↔ (a.take j = b.take j ∧ a[j] = b[j]'(hl ▸ hj)) := by
  rw [List.take_add_one, List.take_add_one, List.getElem?_eq_getElem hj, List.getElem?_eq_getElem (hl ▸ hj)]
  constructor
  · intro h
    obtain ⟨h1, h2⟩ := List.append_inj h (by simp; omega)
    exact ⟨h1, by simpa using h2⟩
  · rintro ⟨h1, h2⟩; rw [h1, h2]
theorem grown_undrew {w w1 : World} {r : Option Nat} (h : w.drew.grownBy w1 r) : w.grownBy w1 r := ⟨h.os, h.tape, h.output, h.size, h.block⟩
theorem twin_step {w w1 : World} {H g2 n cap cap2 m : Nat} {av : Option Addr} {c o : Obj} (hb : w.heap[H]? = some c) (hz : H < w.heap.size) (hn : (Value.slice av n cap).ownBlock ≠ some H) (hg : (w.alloc o).drew.grownBy w1 (Value.slice av n cap).ownBlock)
    (hat : (Value.slice av n cap).ownBlock = some g2 ∨ g2 = (w.alloc o).drew.heap.size) : w1.heap[H]? = some c ∧ H < w1.heap.size ∧ (Value.slice (some ⟨g2, 0, none⟩) m cap2).ownBlock ≠ some H := by
  have h1 : (w.alloc o).drew.heap.size = w.heap.size + 1 := by simp [World.drew]
  refine ⟨?_, ?_, ?_⟩
  · rw [hg.block H (by omega) (fun e => hn e.symm)]
    exact (Below.heap_alloc w o H hz).trans hb
  · have := hg.size; omega
  · intro e
    simp [Value.ownBlock] at e
    subst e
    rcases hat with e | e
    · exact hn e
    · omega
set_option maxHeartbeats 4000000 in
set_option maxRecDepth 8000 in
theorem same_any (v u : V) (va ua : Option Addr) (vc uc : Nat) (w : World) (hI : Is w v va) (hU : Is w u ua) (hS : v.size ≤ 500) :
    Calls Tryd.prog 11 #[.agg #[.int .i64 v.kind, .int .i64 v.n, .slice va v.l.length vc], .agg #[.int .i64 u.kind, .int .i64 u.n, .slice ua u.l.length uc]] w fun e w' => e = .returned (.bool (v.same u)) ∧ Quiet w w' := by
  obtain ⟨i0, hi, hz0, hz1, hz2⟩ := info_parts Tryd.infoT
  have qA : Quiet w (w.alloc (.cells #[.int .i64 v.kind, .int .i64 v.n, .slice va v.l.length vc] 24)) := Kp.alloc _ _
  have hA := at_box w v va vc hI
  have hB := at_box _ u ua uc (hU.quiet qA)
  have qB := Kp.alloc (F := fun _ => False) (w.alloc (.cells #[.int .i64 v.kind, .int .i64 v.n, .slice va v.l.length vc] 24)) (.cells #[.int .i64 u.kind, .int .i64 u.n, .slice ua u.l.length uc] 24)
  have hroot := hid (And.intro (at_quiet hA qB) hB)
  have qW := qA.trans qB
  clear hA hB qA qB hI hU
  have hmm : ∀ (w : World), (Instr.makeMap 41 none).run Tryd.prog w = .ok (.map (some w.heap.size)) (w.alloc (.map #[] 0)) := fun w => run_makeMap _ w
  go_enter Tryd.func11, Tryd.ntmps11
  go_wp2
  clear hmm
  obtain ⟨W, hW⟩ : ∃ W, W = (w.alloc (.cells #[.int .i64 v.kind, .int .i64 v.n, .slice va v.l.length vc] 24)).alloc (.cells #[.int .i64 u.kind, .int .i64 u.n, .slice ua u.l.length uc] 24) := ⟨_, rfl⟩
  have HW := hid hW
  rw [← hW] at hroot qW
  clear hW
  go_loopg [5, 7] v.size (fun gk sv st wr => ∃ (ps : List Pp) (n : Nat), st = .int .i64 n ∧ wr.ownsRow W.heap.size 39 2 sv ps.length (ps.flatMap ptr2) ∧ Lie2 W ps ∧ (v = u ↔ Eq2 ps) ∧ fsz ps = gk ∧ n + gk = v.size ∧ Below W.heap.size W wr)
  case atStart =>
    refine ⟨[((v, w.heap.size, 0), (u, w.heap.size + 1, 0))], 0, rfl, ?_, ?_, (Eq2.one ((v, w.heap.size, 0), (u, w.heap.size + 1, 0))).symm, fsz_one _, by omega, ?_⟩
    · rw [HW.out]
      have := row_two ((w.alloc (.cells #[.int .i64 v.kind, .int .i64 v.n, .slice va v.l.length vc] 24)).alloc (.cells #[.int .i64 u.kind, .int .i64 u.n, .slice ua u.l.length uc] 24)) 39 (.pointer (some ⟨w.heap.size, 0, none⟩)) (.pointer (some ⟨w.heap.size + 1, 0, none⟩))
      have h2 := this.alloc (.map #[] 0)
      simpa [ptr2, ptr] using h2
    · intro p hp; simp at hp; subst hp
      have := hroot.out
      rw [World.size_alloc] at this
      exact this
    · rw [HW.out]; exact ((Below.refl _ _).alloc (Nat.le_refl _) _).alloc (by simp) _
  case round =>
    obtain ⟨ps, n, rfl, hr, hL, hiff, hsz, hn, hB⟩ := hrel
    have hsW := qW.size
    have qend : ∀ w', Below W.heap.size W w' → Quiet w w' := fun w' hb => qW.fresh ((quiet_of hb).mono fun _ _ e => e.elim)
    rcases List.eq_nil_or_concat ps with rfl | ⟨ps, ⟨⟨x, bx, ox⟩, ⟨y, byy, oy⟩⟩, rfl⟩
    · obtain ⟨av, cv, rfl⟩ := owns_shape hr
      have hE := hid (same_true (hiff.2 (by intro p hp; simp at hp)))
      clear hsz hiff
      go_wp2
      go_ret
      exact ⟨by rw [hE.out]; rfl, qend _ hB⟩
    · rw [List.concat_eq_append] at hr hL hsz hiff
      rw [List.flatMap_append, List.flatMap_cons, List.flatMap_nil, List.append_nil, List.length_append, List.length_cons, List.length_nil, Nat.zero_add] at hr
      obtain ⟨g, cp, hv⟩ := lies_shape hr (by omega)
      subst hv
      obtain ⟨hr', hc'⟩ := owns_pop hr rfl
      have hp0 := hc' 0 (by decide)
      have hp1 := hc' 1 (by decide)
      simp only [ptr2, Nat.add_zero, List.getElem?_cons_zero, List.getElem?_cons_succ, ptr] at hp0 hp1
      obtain ⟨hx, hy⟩ := hL ((x, bx, ox), (y, byy, oy)) (by simp)
      simp only at hx hy
      obtain ⟨a0, a1, xa, xc, a2, hxi⟩ := (at_iff _ _ _ _).1 hx
      obtain ⟨b0, b1, ya, yc, b2, hyi⟩ := (at_iff _ _ _ _).1 hy
      have hxW : bx < W.heap.size := World.block_lt_of_cell? W _ a2
      have hyW : byy < W.heap.size := World.block_lt_of_cell? W _ b2
      have hL' : Lie2 W ps := fun p hp => hL p (by simp [hp])
      rw [Eq2.app, Eq2.one] at hiff
      rw [fsz_app, fsz_one] at hsz
      simp only at hiff hsz
      have hfl := fsz_len ps
      have hxs := size_eq x
      have hxl := sizes_len x.l
      have hcp := owns_cap hr
      have hxl5 : x.l.length ≤ 500 := by omega
      have hps5 : ps.length ≤ 500 := by omega
      have hn5 : n ≤ 500 := by omega
      have HL := hid hL'
      have HI := hid hiff
      have HX := hid (And.intro hsz hxs)
      clear hc' hr hx hy hL hL' hsz hxs hiff
      have hBa := hB.alloc hB.size (.cells #[.pointer (some ⟨bx, ox, none⟩), .pointer (some ⟨byy, oy, none⟩)] 39)
      have e0 := low_cell hBa a0 hxW
      have e1 := low_cell hBa a1 hxW
      have e2 := low_cell hBa a2 hxW
      have f0 := low_cell hBa b0 hyW
      have f1 := low_cell hBa b1 hyW
      have f2 := low_cell hBa b2 hyW
      by_cases hk : x.kind = y.kind
      · rw [← hk] at f0
        have HK := hid hk
        clear hk b0
        by_cases hnn : x.n = y.n
        · rw [← hnn] at f1
          have HN := hid hnn
          clear hnn b1
          by_cases hll : x.l.length = y.l.length
          · rw [← hll] at f2 b2
            have HLL := hid hll
            clear hll
            go_wp2
            go_big_quiet (fail)
            go_wp2
            go_loopw [5, 97] (fun sv i w2 => ∃ (j : Nat) (qs : List Pp), j ≤ x.l.length ∧ i = .int .i64 j ∧ w2.ownsRow W.heap.size 39 2 sv (ps ++ qs).length ((ps ++ qs).flatMap ptr2) ∧ Lie2 W qs ∧ (x.l.take j = y.l.take j ↔ Eq2 qs) ∧ (fsz qs = sizes (x.l.take j) ∧ qs.length = j) ∧ Below W.heap.size W w2 ∧ w2.heap[wr.heap.size]? = some (.cells #[.pointer (some ⟨bx, ox, none⟩), .pointer (some ⟨byy, oy, none⟩)] 39 (0, 0)) ∧ wr.heap.size < w2.heap.size ∧ sv.ownBlock ≠ some wr.heap.size) (fun _ i _ => x.l.length - (intOf i).toNat)
            case atStart =>
              refine ⟨0, [], Nat.zero_le _, rfl, ?_, fun p hp => by simp at hp, by simp [Eq2], ⟨by simp [fsz, sizes_nil], rfl⟩, low_drewN hBa _, heap_alloc_new wr _, by simp, fun e => by have := (hr'.lt _ e).2; omega⟩
              have := (Kp.drewN (F := fun _ => False) _ nq).row (hr'.alloc (.cells #[.pointer (some ⟨bx, ox, none⟩), .pointer (some ⟨byy, oy, none⟩)] 39)) (fun _ _ e => e)
              simpa using this
            case round =>
              obtain ⟨j, qs, hj, rfl, hrk, hLk, hqi, hqs, hBk, hbk, hzk, hnk⟩ := hrel
              have g0 : wr.cell? ⟨_, 0, none⟩ = _ := Lib.cell_of_heap hbk 0
              have g1 : wr.cell? ⟨_, 1, none⟩ = _ := Lib.cell_of_heap hbk 1
              simp only [List.getElem?_toArray, List.getElem?_cons_zero, List.getElem?_cons_succ] at g0 g1
              have e2k := low_cell hBk a2 hxW
              have f2k := low_cell hBk b2 hyW
              obtain ⟨av, cv, hsv⟩ := owns_shape hrk
              have hlen5 : (ps ++ qs).length ≤ 1000 := by have := hqs.2; simp only [List.length_append]; omega
              by_cases hlt : j < x.l.length
              · obtain ⟨xb, xo, hxa, x0, x1, ca, cc, x2, hci⟩ := hxi.get j hlt
                obtain ⟨yb, yo, hya, y0, y1, da, dc, y2, hdi⟩ := hyi.get j (HLL.out ▸ hlt)
                subst hxa hya
                have hcx : x.l[j].at W xb (xo + j * 3) := (at_iff _ _ _ _).2 ⟨x0, x1, ca, cc, x2, hci⟩
                have hcy : (y.l[j]'(HLL.out ▸ hlt)).at W yb (yo + j * 3) := (at_iff _ _ _ _).2 ⟨y0, y1, da, dc, y2, hdi⟩
                have HT := hid (take_eq HLL.out j hlt)
                have HZ := hid (sizes_take x.l j hlt)
                have HQ := hid (And.intro hqi hqs)
                have HC := hid (And.intro hcx hcy)
                have HR := hid hrk
                have HLk := hid hLk
                have HB := hid hbk
                clear x0 x1 x2 y0 y1 y2 hci hdi hcx hcy hqi hqs hbk hLk
                subst hsv
                have hrd := (hrk.alloc (.cells #[.pointer (some ⟨xb, xo + j * 3, none⟩), .pointer (some ⟨yb, yo + j * 3, none⟩)] 39)).drew
                rw [List.length_append] at hrd hlen5
                clear hrk
                go_wp2
                go_region_law ((refine step_append_lies _ (by rfl) _ _ _ (by rfl) W.heap.size 39 i0 _ 2 16 Tryd.undT hi hz0 hz1 hz2 rfl (by omega) _ (ps.length + qs.length) ((ps ++ qs).flatMap ptr2) (by rfl) hrd ⟨wr.heap.size, 0, none⟩ 1 1 [.pointer (some ⟨xb, xo + j * 3, none⟩), .pointer (some ⟨yb, yo + j * 3, none⟩)] (by rfl) (by rfl) (news_at wr _ 39) (by simp [Value.oneCell']) (by omega) (by unfold maxLen; omega) (by omega) (by have := hBk.size; simp; omega) _ (by rfl) ?_; intro g2 cap2 w1 hr1 hg1 hat hlt1))
                all_goals
                  have hS := hid (push_row2 (p := ((x.l[j], xb, xo + j * 3), (y.l[j]'(HLL.out ▸ hlt), yb, yo + j * 3))) hBk HR.out rfl (by rw [List.length_append]; exact hr1) (by rw [List.length_append]; exact grown_undrew hg1))
                  have hT := hid (twin_step (m := ps.length + qs.length + 1) (cap2 := cap2) HB.out hzk (by rw [List.length_append] at hnk; exact hnk) hg1 hat)
                  clear hr1 hg1 hat hlt1
                  go_wp2
                  refine ⟨⟨j + 1, qs ++ [((x.l[j], xb, xo + j * 3), (y.l[j]'(HLL.out ▸ hlt), yb, yo + j * 3))], by omega, by go_num, ?_, HLk.out.app ?_, ?_, ?_, hS.out.2, hT.out.1, hT.out.2.1, hT.out.2.2⟩, by simp [intOf]; omega⟩
                  · rw [← List.append_assoc]; have := hS.out.1; rw [show (ps ++ qs).length = ps.length + qs.length from List.length_append] at this; exact this
                  · intro p hp; simp at hp; subst hp; exact HC.out
                  · rw [Eq2.app, Eq2.one, ← HQ.out.1]; exact HT.out
                  · rw [fsz_app, fsz_one, HZ.out, HQ.out.2.1, List.length_append, HQ.out.2.2]; exact ⟨rfl, rfl⟩
              · have hjl : j = x.l.length := by omega
                subst hjl
                have HQ := hid (And.intro hqi hqs)
                clear hqi hqs
                subst hsv
                go_wp2
                go_roundg (fsz (ps ++ qs))
                case measure =>
                  have h2 := HQ.out.2.1; have h3 := HX.out
                  rw [List.take_length] at h2; rw [fsz_app]; omega
                case rel =>
                  refine ⟨ps ++ qs, n + 1, by go_num, hrk, HL.out.app hLk, ?_, rfl, ?_, hBk⟩
                  · rw [Eq2.app, ← HQ.out.1, HI.out, v_ext, List.take_length, HLL.out, List.take_length]
                    have h1 := HK.out
                    have h2 := HN.out
                    exact ⟨fun h => ⟨h.1, h.2.2.2⟩, fun h => ⟨h.1, h1, h2, h.2⟩⟩
                  · have h2 := HQ.out.2.1; have h3 := HX.out
                    rw [List.take_length] at h2; rw [fsz_app]; omega
          · have hE := hid (same_false (v := v) (u := u) (fun h => hll ((HI.out.1 h).2 ▸ rfl)))
            have l1 : ((x.l.length : Int) != (y.l.length : Int)) = true := by simp; omega
            have l2 : decide ((x.l.length : Int) = (y.l.length : Int)) = false := by simp; omega
            have l3 : ((x.l.length : Int) == (y.l.length : Int)) = false := by simp; omega
            go_wp2
            go_big_quiet (fail)
            go_wp2
            go_ret
            exact ⟨by rw [hE.out]; rfl, qend _ (low_drewN hBa _)⟩
        · have hE := hid (same_false (v := v) (u := u) (fun h => hnn ((HI.out.1 h).2 ▸ rfl)))
          have l1 : (x.n != y.n) = true := by simpa using hnn
          have l2 : decide (x.n = y.n) = false := by simpa using hnn
          have l3 : (x.n == y.n) = false := by simpa using hnn
          go_wp2
          go_big_quiet (fail)
          go_wp2
          go_ret
          exact ⟨by rw [hE.out]; rfl, qend _ (low_drewN hBa _)⟩
      · have hE := hid (same_false (v := v) (u := u) (fun h => hk ((HI.out.1 h).2 ▸ rfl)))
        have k1 : (x.kind != y.kind) = true := by simpa using hk
        have k2 : decide (x.kind = y.kind) = false := by simpa using hk
        have k3 : (x.kind == y.kind) = false := by simpa using hk
        go_wp2
        go_big_quiet (fail)
        go_wp2
        go_ret
        exact ⟨by rw [hE.out]; rfl, qend _ (low_drewN hBa _)⟩
end Go.Proofs.YtegpnncmphhjjabDoor
