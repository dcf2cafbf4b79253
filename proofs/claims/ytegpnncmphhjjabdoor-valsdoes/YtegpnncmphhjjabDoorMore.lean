/- The contract of hasMore: a list of places of what is still to be looked at. -/
import Derived.Test.YtegpnncmphhjjabDoorKit
import Derived.Deep.LoopGhost
namespace Go.Proofs.YtegpnncmphhjjabDoor
open Go.ChangeShapes Go.WideShapes Go.ChangeAt Go.RowKit
theorem owns_pop {w : World} {base : Nat} {e : TypeId} {size g n cap : Nat} {xs ys : List Value} (h : w.ownsRow base e size (.slice (some ⟨g, 0, none⟩) (n + 1) cap) (n + 1) (xs ++ ys)) (hy : ys.length = size) :
    w.ownsRow base e size (.slice (some ⟨g, 0, none⟩) n cap) n xs ∧ ∀ j, j < size → w.cell? ⟨g, n * size + j, none⟩ = ys[j]? := by
  have hl : xs.length = n * size := by
    have := h.1
    rw [List.length_append, hy, Nat.add_mul] at this
    omega
  obtain ⟨g', e', d⟩ := owns_at h (by omega)
  cases e'
  refine ⟨⟨hl, ?_⟩, fun j hj => ?_⟩
  · rcases h.2 with ⟨h', _⟩ | ⟨g', cap', cur, h', hb, hg, hc, hm, hs, ht⟩
    · simp at h'
    · simp only [Value.slice.injEq, Option.some.injEq, Addr.mk.injEq, true_and] at h'
      obtain ⟨⟨rfl, _⟩, rfl⟩ := h'
      refine .inr ⟨g, cap, cur, rfl, hb, hg, by omega, hm, hs, ?_⟩
      have h2 := congrArg (List.take (n * size)) ht
      rw [List.take_take, Nat.min_eq_left (by rw [Nat.add_mul]; omega), List.take_append_of_le_length (by omega), show xs.take (n * size) = xs from List.take_of_length_le (by omega)] at h2
      exact h2
  · rw [d _ (by rw [Nat.add_mul]; omega), List.getElem?_append_right (by omega)]
    congr 1; omega
theorem owns_cap {w : World} {base : Nat} {e : TypeId} {size g n cap : Nat} {xs : List Value} (h : w.ownsRow base e size (.slice (some ⟨g, 0, none⟩) n cap) n xs) : n ≤ cap := by
  rcases h.2 with ⟨h', _⟩ | ⟨g', cap', cur, h', hb, hg, hc, _⟩
  · simp at h'
  · simp only [Value.slice.injEq, Option.some.injEq, Addr.mk.injEq, true_and] at h'
    omega
theorem low_cell {B : Nat} {w w' : World} (hb : Below B w w') {a : Addr} {x : Value} (hc : w.cell? a = some x) (ha : a.block < B) : w'.cell? a = some x :=
  (World.cell?_of_block (hb.block a.block ha)).trans hc
theorem low_back {B : Nat} {w w' : World} (hb : Below B w w') {a : Addr} {x : Value} (hc : w'.cell? a = some x) (ha : a.block < B) : w.cell? a = some x :=
  (World.cell?_of_block (hb.block a.block ha)).symm.trans hc
/-- Values and where they lie. -/
abbrev Pl := V × Nat × Nat
def ptr (x : Pl) : Value := .pointer (some ⟨x.2.1, x.2.2, none⟩)
def tsz (ts : List Pl) : Nat := (ts.map fun x => x.1.size).sum
theorem tsz_nil : tsz [] = 0 := rfl
theorem tsz_app (a b : List Pl) : tsz (a ++ b) = tsz a + tsz b := by simp [tsz]
theorem tsz_one (x : Pl) : tsz [x] = x.1.size := by simp [tsz]
theorem tsz_len (ts : List Pl) : ts.length ≤ tsz ts := by
  induction ts with
  | nil => simp [tsz]
  | cons x ts ih => have := size_pos x.1; simp [tsz] at ih ⊢; omega
def Lie (w : World) (ts : List Pl) : Prop := ∀ x ∈ ts, x.1.at w x.2.1 x.2.2
theorem Lie.app {w : World} {a b : List Pl} (h : Lie w a) (k : Lie w b) : Lie w (a ++ b) := by
  intro x hx
  rcases List.mem_append.1 hx with h' | h'
  · exact h x h'
  · exact k x h'
theorem row_one (w : World) (t : TypeId) (x : Value) : (w.alloc (.cells #[x] t)).ownsRow w.heap.size t 1 (.slice (some ⟨w.heap.size, 0, none⟩) 1 1) 1 [x] :=
  ⟨by simp, .inr ⟨w.heap.size, 1, #[x], rfl, Nat.le_refl _, heap_alloc_new w _, Nat.le_refl _, by decide, by simp, by simp⟩⟩
theorem at_box (w : World) (v : V) (ao : Option Addr) (cap : Nat) (h : Is w v ao) : v.at (w.alloc (.cells #[.int .i64 v.kind, .int .i64 v.n, .slice ao v.l.length cap] 24)) w.heap.size 0 := by
  rw [at_iff]
  exact ⟨by simp, by simp, ao, cap, by simp, h.quiet (Kp.alloc _ _)⟩
theorem at_low {w w' : World} {v : V} {b off : Nat} (h : v.at w b off) (hb : Below w.heap.size w w') : v.at w' b off :=
  at_kept (fun a _ hc => (World.cell?_of_block (hb.block a.block (World.block_lt_of_cell? w a hc))).trans hc) v b off h
theorem push_row {W wr w1 : World} {x : Pl} {ts : List Pl} {sv : Value} {g cap : Nat} (hB : Below W.heap.size W wr) (hr : wr.ownsRow W.heap.size 37 1 sv ts.length (ts.map ptr))
    (hr1 : w1.ownsRow W.heap.size 37 1 (.slice (some ⟨g, 0, none⟩) (ts.length + 1) cap) (ts.length + 1) (ts.map ptr ++ [ptr x])) (hg : (wr.alloc (.cells #[ptr x] 37)).grownBy w1 sv.ownBlock) :
    w1.ownsRow W.heap.size 37 1 (.slice (some ⟨g, 0, none⟩) (ts.length + 1) cap) (ts ++ [x]).length ((ts ++ [x]).map ptr) ∧ Below W.heap.size W w1 := by
  refine ⟨by simpa using hr1, hB.trans ?_⟩
  refine ((Below.refl _ _).alloc hB.size (.cells #[ptr x] 37)).trans ?_
  refine (Kp.grown (F := fun k => W.heap.size ≤ k) hg fun k _ e => (hr.lt k e.symm).1).below (by simp; have := hB.size; omega) fun k hk => hk
set_option maxHeartbeats 2000000 in
theorem more_any (v : V) (ao : Option Addr) (cap than : Nat) (w : World) (hI : Is w v ao) (hS : v.size ≤ 500) (hthan : 1 ≤ than) (hth : than ≤ 67108864) :
    Calls Tryd.prog 22 #[.agg #[.int .i64 v.kind, .int .i64 v.n, .slice ao v.l.length cap], .int .i64 than] w fun e w' => e = .returned (.bool (decide (than < v.size))) ∧ Quiet w w' := by
  obtain ⟨i0, hi, hz0, hz1, hz2⟩ := info_parts Tryd.infoP
  have hroot := hid (at_box w v ao cap hI)
  have hrow := hid (row_one (w.alloc (.cells #[.int .i64 v.kind, .int .i64 v.n, .slice ao v.l.length cap] 24)) 37 (ptr (v, w.heap.size, 0)))
  clear hI
  have qW : Quiet w (w.alloc (.cells #[.int .i64 v.kind, .int .i64 v.n, .slice ao v.l.length cap] 24)) := Kp.alloc _ _
  go_enter Tryd.func22, Tryd.ntmps22
  go_wp2
  obtain ⟨W, hW⟩ : ∃ W, W = w.alloc (.cells #[.int .i64 v.kind, .int .i64 v.n, .slice ao v.l.length cap] 24) := ⟨_, rfl⟩
  have HW := hid hW
  rw [← hW] at hrow hroot qW
  clear hW
  go_loopg [5, 6] v.size (fun gk p sv wr => ∃ (P : Nat) (ts : List Pl), p = .int .i64 P ∧ wr.ownsRow W.heap.size 37 1 sv ts.length (ts.map ptr) ∧ Lie W ts ∧ tsz ts = gk ∧ gk ≤ v.size ∧ P + gk = v.size + ts.length ∧ P ≤ than ∧ Below W.heap.size W wr)
  case atStart =>
    refine ⟨1, [(v, w.heap.size, 0)], rfl, ?_, ?_, tsz_one _, Nat.le_refl _, by simp; omega, hthan, ?_⟩
    · have := hrow.out; rw [HW.out] at this ⊢; simpa [ptr] using this
    · intro x hx; simp at hx; subst hx; exact hroot.out
    · rw [HW.out]; exact (Below.refl _ _).alloc (Nat.le_refl _) _
  case round =>
    obtain ⟨P, ts, rfl, hr, hL, hsz, hle, hP, hPt, hB⟩ := hrel
    have hsW := qW.size
    rcases List.eq_nil_or_concat ts with rfl | ⟨ts, ⟨u, b, off⟩, rfl⟩
    · obtain ⟨av, cv, rfl⟩ := owns_shape hr
      have hE := hid (show decide (than < v.size) = false by simp [tsz_nil] at hsz hP; simp; omega)
      clear hsz
      go_wp2
      go_ret
      exact ⟨by rw [hE.out]; rfl, qW.fresh (by have := quiet_of hB; exact this.mono fun _ _ e => e.elim)⟩
    · rw [List.concat_eq_append] at hr hL hsz hP
      rw [List.map_append, List.map_cons, List.map_nil, List.length_append, List.length_cons, List.length_nil, Nat.zero_add] at hr
      obtain ⟨g, cp, hv⟩ := lies_shape hr (by omega)
      subst hv
      obtain ⟨hr', hc'⟩ := owns_pop hr rfl
      have hc := hc' 0 (by decide)
      simp only [Nat.mul_one, Nat.add_zero, List.getElem?_cons_zero, ptr] at hc
      have hu := hL (u, b, off) (by simp)
      simp only at hu
      obtain ⟨c0, c1, ua, uc, c2W, hui⟩ := (at_iff _ _ _ _).1 hu
      have hbW : b < W.heap.size := World.block_lt_of_cell? W _ c2W
      have c2 := low_cell hB c2W hbW
      have hL' : Lie W ts := fun x hx => hL x (by simp [hx])
      rw [tsz_app, tsz_one] at hsz
      simp only [List.length_append, List.length_cons, List.length_nil] at hP
      have htl := tsz_len ts
      have hus := size_eq u
      have hul := sizes_len u.l
      have hcp := owns_cap hr
      simp only at hsz
      have hul5 : u.l.length ≤ 500 := by omega
      have htl5 : ts.length ≤ 500 := by omega
      have HL := hid hL'
      clear hc' hr c0 c1 hu c2W hL hL'
      by_cases hbig : than < P + u.l.length
      · have hE := hid (show decide (than < v.size) = true by simp; omega)
        have HX := hid (And.intro hsz hus)
        clear hsz hus
        go_wp2
        go_ret
        exact ⟨by rw [hE.out]; rfl, qW.fresh ((quiet_of hB).mono fun _ _ e => e.elim)⟩
      · have HX := hid (And.intro hsz hus)
        clear hsz hus
        go_wp2
        go_loopw [6, 39] (fun sv i w2 => ∃ (j : Nat) (ks : List Pl), j ≤ u.l.length ∧ i = .int .i64 j ∧ w2.ownsRow W.heap.size 37 1 sv (ts ++ ks).length ((ts ++ ks).map ptr) ∧ Lie W ks ∧ (tsz ks + j = sizes (u.l.take j) + ks.length ∧ ks.length ≤ j) ∧ Below W.heap.size W w2) (fun _ i _ => u.l.length - (intOf i).toNat)
        case atStart => exact ⟨0, [], Nat.zero_le _, rfl, by simpa using hr', fun x hx => by simp at hx, ⟨by simp [tsz_nil, sizes_nil], Nat.le_refl _⟩, hB⟩
        case round =>
          obtain ⟨j, ks, hj, rfl, hrk, hLk, hks, hBk⟩ := hrel
          have hkl := tsz_len ks
          have htt := sizes_take_le u.l j
          have c2k := low_cell hBk (low_back hB c2 (by exact hbW)) (by exact hbW)
          obtain ⟨av, cv, hsv⟩ := owns_shape hrk
          have hlen5 : (ts ++ ks).length ≤ 1000 := by have := HX.out; simp only [List.length_append]; omega
          by_cases hlt : j < u.l.length
          · obtain ⟨bb, oo, rfl, d0, d1, ca, cc, d2, hci⟩ := hui.get j hlt
            have hbb := World.block_lt_of_cell? W _ d2
            have d2k := low_cell hBk d2 hbb
            have hnx := sizes_take u.l j hlt
            have hcat : u.l[j].at W bb (oo + j * 3) := (at_iff _ _ _ _).2 ⟨d0, d1, ca, cc, d2, hci⟩
            generalize hcu : u.l[j] = c at *
            have HC := hid hcu
            have HN := hid (And.intro hnx (size_eq c))
            have HK := hid hks
            clear hcu hnx hks d0 d1 d2 hci
            by_cases hcl : c.l.length = 0
            · subst hsv
              have hcl' : ¬ (0 : Int) < (c.l.length : Int) := by omega
              go_wp2
              refine ⟨⟨j + 1, ks, by omega, by go_num, hrk, hLk, ?_, hBk⟩, by simp [intOf]; omega⟩
              have h0 : c.l = [] := List.eq_nil_of_length_eq_zero hcl
              have h1 := HN.out; have h2 := HK.out
              rw [h0, sizes_nil] at h1; exact ⟨by omega, by omega⟩
            · have hcl' : (0 : Int) < (c.l.length : Int) := by omega
              have HR := hid hrk
              subst hsv
              go_wp2_with (at_builtin; refine wpList_append_lies _ rfl (.tmp 52) (.tmp 59) 46 rfl W.heap.size 37 i0 _ 1 8 Tryd.undP hi hz0 hz1 hz2 rfl (by decide) _ (ts ++ ks).length ((ts ++ ks).map ptr) rfl (HR.out.alloc _) ⟨wr.heap.size, 0, none⟩ 1 1 [ptr (c, bb, oo + j * 3)] rfl rfl (news_at wr _ 37) (by simp [Value.oneCell', ptr]) (by decide) (by unfold maxLen; omega) (by omega) (by have := hBk.size; simp; omega) _ rfl ?_; intro g2 cap2 w1 hr1 hg1 hat hlt1; have hS := hid (push_row (x := (c, bb, oo + j * 3)) hBk HR.out hr1 hg1); clear hr1 hg1 hat hlt1)
              refine ⟨⟨j + 1, ks ++ [(c, bb, oo + j * 3)], by omega, by go_num, ?_, hLk.app ?_, ?_, hS.out.2⟩, by simp [intOf]; omega⟩
              · rw [← List.append_assoc]; have := hS.out.1; rw [List.length_append] at this; exact this
              · intro x hx; simp at hx; subst hx; exact hcat
              · have h1 := HN.out; have h2 := HK.out
                rw [tsz_app, tsz_one, List.length_append]; simp only [List.length_cons, List.length_nil]; exact ⟨by omega, by omega⟩
          · have hjl : j = u.l.length := by omega
            subst hjl
            have HK := hid hks
            clear hks
            subst hsv
            go_wp2
            go_roundg (tsz (ts ++ ks))
            case measure =>
              have h2 := HK.out; have h3 := HX.out
              rw [List.take_length] at h2; rw [tsz_app]; omega
            case rel =>
              refine ⟨P + u.l.length, ts ++ ks, by go_num, hrk, HL.out.app hLk, rfl, ?_, ?_, by omega, hBk⟩
              · have h2 := HK.out; have h3 := HX.out
                rw [List.take_length] at h2; rw [tsz_app]; omega
              · have h2 := HK.out; have h3 := HX.out
                rw [List.take_length] at h2; rw [tsz_app, List.length_append]; omega
end Go.Proofs.YtegpnncmphhjjabDoor
