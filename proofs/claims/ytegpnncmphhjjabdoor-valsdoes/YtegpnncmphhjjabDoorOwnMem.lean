/- What holds of values while they are copied in place: the old memory and the rows of values alone matter; a list that is exchanged for one like it. -/
import Derived.Test.YtegpnncmphhjjabDoorHold
namespace Go.Proofs.YtegpnncmphhjjabDoor
open Go.ChangeShapes Go.WideShapes Go.ChangeAt Go.RowKit
/-- What one place holds is one value. -/
theorem at_fun {w : World} (v : V) : ∀ (u : V) (b off : Nat), v.at w b off → u.at w b off → v = u := by
  induction v using V.ind with
  | h k n l ih =>
    rintro ⟨k', n', l'⟩ b off hv hu
    rw [at_iff] at hv hu
    obtain ⟨c0, c1, ao, cap, c2, hI⟩ := hv
    obtain ⟨d0, d1, ao', cap', d2, hU⟩ := hu
    rw [c0] at d0; rw [c1] at d1; rw [c2] at d2
    simp only [Option.some.injEq, Value.int.injEq, Value.slice.injEq, true_and] at d0 d1 d2
    obtain ⟨rfl, hlen, _⟩ := d2
    have hl : l = l' := by
      refine List.ext_getElem hlen fun i h1 h2 => ?_
      obtain ⟨b1, o1, e1, k1⟩ := hI.fo i h1
      obtain ⟨b2, o2, e2, k2⟩ := hU.fo i h2
      rw [e1] at e2; cases e2
      exact ih _ (List.getElem_mem h1) _ _ _ k1 k2
    rw [d0, d1, hl]
/-- A list is exchanged for a copy: every value is what it was. -/
theorem at_write {w w' : World} {t : V} {b off G : Nat} {ao : Option Addr} {cap cap' : Nat} {ao' : Option Addr} (ht : t.at w b off) (h2 : w.cell? ⟨b, off + 2, none⟩ = some (.slice ao t.l.length cap))
    (hk : ∀ (a : Addr) (x : Value), a ≠ ⟨b, off + 2, none⟩ → w.cell? a = some x → w'.cell? a = some x) (hn : w'.cell? ⟨b, off + 2, none⟩ = some (.slice ao' t.l.length cap'))
    (hG : t.l ≠ [] → ao' = some ⟨G, 0, none⟩) (hc : ∀ b0 o0, ao = some ⟨b0, o0, none⟩ → ∀ i, i < t.l.length → ∀ c, c < 3 → w'.cell? ⟨G, i * 3 + c, none⟩ = w.cell? ⟨b0, o0 + i * 3 + c, none⟩) :
    ∀ (m : Nat) (v : V) (b1 o1 : Nat), v.size ≤ m → v.at w b1 o1 → v.at w' b1 o1 := by
  intro m
  induction m with
  | zero => intro v _ _ h; have := size_pos v; omega
  | succ m ih =>
    intro v b1 o1 hs hv
    have hv0 := hv
    rw [at_iff] at hv ⊢
    obtain ⟨c0, c1, a1, p1, c2, hI⟩ := hv
    have kid : ∀ (x : V) (ax : Option Addr), x.size ≤ m → Is w x ax → Is w' x ax := by
      intro x ax hx hxI
      refine ⟨hxI.k, hxI.n, fun i hi => ?_⟩
      obtain ⟨bb, oo, e, k⟩ := hxI.fo i hi
      refine ⟨bb, oo, e, ih _ _ _ ?_ k⟩
      have := size_get x.l i hi; have := size_eq x; omega
    have n0 : (⟨b1, o1, none⟩ : Addr) ≠ ⟨b, off + 2, none⟩ := by intro e; rw [e, h2] at c0; simp at c0
    have n1 : (⟨b1, o1 + 1, none⟩ : Addr) ≠ ⟨b, off + 2, none⟩ := by intro e; rw [e, h2] at c1; simp at c1
    refine ⟨hk _ _ n0 c0, hk _ _ n1 c1, ?_⟩
    by_cases he : (⟨b1, o1 + 2, none⟩ : Addr) = ⟨b, off + 2, none⟩
    · simp only [Addr.mk.injEq, and_true] at he
      obtain ⟨rfl, ho⟩ := he
      obtain rfl : o1 = off := by omega
      obtain rfl := at_fun v t _ _ hv0 ht
      rw [h2] at c2
      simp only [Option.some.injEq, Value.slice.injEq, true_and] at c2
      obtain ⟨rfl, rfl⟩ := c2
      refine ⟨ao', cap', hn, hI.k, hI.n, fun i hi => ?_⟩
      obtain ⟨b0, o0, e0, k0⟩ := hI.fo i hi
      have hne : v.l ≠ [] := by intro e; rw [e] at hi; simp at hi
      refine ⟨G, 0, hG hne, ?_⟩
      rw [Nat.zero_add]
      rw [at_iff] at k0 ⊢
      obtain ⟨e1, e2, ai, ci, e3, kI⟩ := k0
      have hsz : v.l[i].size ≤ m := by have := size_get v.l i hi; have := size_eq v; omega
      refine ⟨?_, ?_, ai, ci, ?_, kid _ _ hsz kI⟩
      · have := hc b0 o0 e0 i hi 0 (by decide); rw [Nat.add_zero] at this; rw [this]; exact e1
      · rw [hc b0 o0 e0 i hi 1 (by decide)]; exact e2
      · rw [hc b0 o0 e0 i hi 2 (by decide)]; exact e3
    · refine ⟨a1, p1, hk _ _ he c2, hI.k, hI.n, fun i hi => ?_⟩
      obtain ⟨bb, oo, e, k⟩ := hI.fo i hi
      refine ⟨bb, oo, e, ih _ _ _ ?_ k⟩
      have := size_get v.l i hi; have := size_eq v; omega
/-- The world with nothing but the old blocks and the rows of values (two blocks left out, too). -/
def cutV (h : Nat) (w : World) : World := { w with heap := w.heap.mapIdx fun i o => if i < h then o else if i < h + 2 then .cells #[] 0 (0, 0) else match o with | .cells c t z => if t = 24 then .cells c t z else .cells #[] 0 (0, 0) | _ => .cells #[] 0 (0, 0) }
/-- A row of values. -/
def IsV (w : World) (b : Nat) : Prop := ∃ c, w.heap[b]? = some (.cells c 24 (0, 0))
theorem cutV_old {h : Nat} {w : World} {k : Nat} (hk : k < h) : (cutV h w).heap[k]? = w.heap[k]? := by
  simp only [cutV, Array.getElem?_mapIdx, hk, if_true]
  cases w.heap[k]? <;> rfl
theorem cutV_val {h : Nat} {w : World} {k : Nat} {c : Array Value} {z : Nat × Nat} (hk : w.heap[k]? = some (.cells c 24 z)) (h2 : h + 2 ≤ k) : (cutV h w).heap[k]? = w.heap[k]? := by
  simp only [cutV, Array.getElem?_mapIdx, hk, Option.map_some, if_true]
  rw [if_neg (by omega), if_neg (by omega)]
/-- A cell that is left. -/
theorem cutV_cell {h : Nat} {w : World} {a : Addr} {x : Value} (hc : (cutV h w).cell? a = some x) : w.cell? a = some x ∧ (a.block < h ∨ (h + 2 ≤ a.block ∧ ∃ c z, w.heap[a.block]? = some (.cells c 24 z))) := by
  have hb := World.block_lt_of_cell? (cutV h w) a hc
  by_cases hk : a.block < h
  · exact ⟨(World.cell?_of_block (cutV_old hk)).symm.trans hc, .inl hk⟩
  · have hs : a.block < w.heap.size := by simpa [cutV] using hb
    have e0 : w.heap[a.block]? = some w.heap[a.block] := Array.getElem?_eq_getElem hs
    by_cases h2 : a.block < h + 2
    · exfalso
      have e1 : (cutV h w).heap[a.block]? = some (.cells #[] 0 (0, 0)) := by
        simp only [cutV, Array.getElem?_mapIdx, e0, Option.map_some]
        rw [if_neg hk, if_pos h2]
      simp [World.cell?, e1] at hc
    · cases ho : w.heap[a.block] with
      | cells c t z =>
        by_cases ht : t = 24
        · subst ht
          rw [ho] at e0
          exact ⟨(World.cell?_of_block (cutV_val e0 (by omega))).symm.trans hc, .inr ⟨by omega, c, z, e0⟩⟩
        · exfalso
          rw [ho] at e0
          have e1 : (cutV h w).heap[a.block]? = some (.cells #[] 0 (0, 0)) := by
            simp only [cutV, Array.getElem?_mapIdx, e0, Option.map_some, hk, ht, h2, if_false]
          simp [World.cell?, e1] at hc
      | _ =>
        exfalso
        rw [ho] at e0
        have e1 : (cutV h w).heap[a.block]? = some (.cells #[] 0 (0, 0)) := by
          simp only [cutV, Array.getElem?_mapIdx, e0, Option.map_some, hk, h2, if_false]
        simp [World.cell?, e1] at hc
theorem cutV_mk {h : Nat} {w : World} {a : Addr} {x : Value} (hc : w.cell? a = some x) (ha : a.block < h ∨ (h + 2 ≤ a.block ∧ ∃ c z, w.heap[a.block]? = some (.cells c 24 z))) : (cutV h w).cell? a = some x := by
  rcases ha with ha | ⟨h2, c, z, ha⟩
  · exact (World.cell?_of_block (cutV_old ha)).trans hc
  · exact (World.cell?_of_block (cutV_val ha h2)).trans hc
theorem at_uncut {h : Nat} {w : World} {v : V} {b off : Nat} (hv : v.at (cutV h w) b off) : v.at w b off := at_kept (fun _ _ hc => (cutV_cell hc).1) v b off hv
/-- The old blocks and the rows of values are as they were. -/
def Keeps (h : Nat) (w w' : World) : Prop := (∀ k, k < h → w'.heap[k]? = w.heap[k]?) ∧ ∀ (k : Nat) (c : Array Value) (z : Nat × Nat), w.heap[k]? = some (Obj.cells c 24 z) → w'.heap[k]? = some (Obj.cells c 24 z)
theorem Keeps.cell {h : Nat} {w w' : World} (hk : Keeps h w w') {a : Addr} {x : Value} (hc : (cutV h w).cell? a = some x) : (cutV h w').cell? a = some x := by
  obtain ⟨h1, h2⟩ := cutV_cell hc
  rcases h2 with h2 | ⟨h3, c, z, h2⟩
  · exact cutV_mk ((World.cell?_of_block (hk.1 _ h2)).trans h1) (.inl h2)
  · have := hk.2 _ _ _ h2
    exact cutV_mk ((World.cell?_of_block (this.trans h2.symm)).trans h1) (.inr ⟨h3, c, z, this⟩)
theorem Keeps.at {h : Nat} {w w' : World} (hk : Keeps h w w') {v : V} {b off : Nat} (hv : v.at (cutV h w) b off) : v.at (cutV h w') b off := at_kept (fun _ _ hc => hk.cell hc) v b off hv
theorem Keeps.trans {h : Nat} {a b c : World} (h1 : Keeps h a b) (h2 : Keeps h b c) : Keeps h a c := ⟨fun k hk => (h2.1 k hk).trans (h1.1 k hk), fun k _ _ e => h2.2 k _ _ (h1.2 k _ _ e)⟩
theorem Keeps.quiet {h : Nat} {w w' : World} (q : Quiet w w') (hh : h ≤ w.heap.size) : Keeps h w w' :=
  ⟨fun k hk => q.block k (by omega) fun e => e, fun k _ _ e => (q.block k (lt_of_block e) fun e => e).trans e⟩
/-- Another row grows. -/
theorem Keeps.grown {h : Nat} {w w' : World} {B : Nat} {t : TypeId} {s : Nat} {v : Value} {n : Nat} {xs : List Value} (hr : w.ownsRow B t s v n xs) (ht : t ≠ 24) (hB : h ≤ B) (hg : w.grownBy w' v.ownBlock) (hh : h ≤ w.heap.size) : Keeps h w w' := by
  refine ⟨fun k hk => hg.block k (by omega) fun e => by have := (hr.lt k e.symm).1; omega, fun k c z e => (hg.block k (lt_of_block e) fun e' => ?_).trans e⟩
  rcases hr.2 with ⟨rfl, _⟩ | ⟨g, cap, cur, rfl, _, hh, _⟩
  · simp [Value.ownBlock] at e'
  · simp [Value.ownBlock] at e'
    subst e'
    rw [hh] at e
    simp at e
    exact ht e.2.1
/-- The cells of what is in a value, one behind the other. -/
theorem kids_of {w : World} {u : V} {b o : Nat} (h : Is w u (some ⟨b, o, none⟩)) : ∃ ps : List Kd, ps.map (·.1) = u.l ∧ ∀ j x, (tris ps)[j]? = some x → w.cell? ⟨b, o + j, none⟩ = some x := by
  have key : ∀ i, i < u.l.length → ∃ p : Option Addr × Nat, ∀ hi : i < u.l.length, ∀ c, c < 3 → w.cell? ⟨b, o + i * 3 + c, none⟩ = (tri (u.l[i], p))[c]? := by
    intro i hi
    obtain ⟨b', o', e, c0, c1, ai, ci, c2, _⟩ := h.get i hi
    cases e
    refine ⟨(ai, ci), fun _ c hc => ?_⟩
    match c, hc with
    | 0, _ => exact c0
    | 1, _ => exact c1
    | 2, _ => exact c2
  haveI : Inhabited (Option Addr × Nat) := ⟨(none, 0)⟩
  obtain ⟨f, hf⟩ := Deep.choose_lt key
  refine ⟨u.l.mapIdx fun i x => (x, f i), ?_, fun j x hx => ?_⟩
  · apply List.ext_getElem <;> simp
  · have hlen := tris_len (u.l.mapIdx fun i x => (x, f i))
    have hj : j < (u.l.mapIdx fun i x => (x, f i)).length * 3 := by
      rw [← hlen]
      rcases Nat.lt_or_ge j (tris (u.l.mapIdx fun i x => (x, f i))).length with h' | h'
      · exact h'
      · rw [List.getElem?_eq_none h'] at hx; simp at hx
    have hi : j / 3 < u.l.length := by simp at hj; omega
    have e : j = j / 3 * 3 + j % 3 := by omega
    have h1 := hf (j / 3) hi hi (j % 3) (by omega)
    have h2 := tris_at (u.l.mapIdx fun i x => (x, f i)) (j / 3) (j % 3) (by simpa using hi) (by omega)
    rw [← e] at h2
    rw [h2] at hx
    simp only [List.getElem_mapIdx] at hx
    rw [show o + j = o + j / 3 * 3 + j % 3 by omega, h1]
    exact hx
theorem cutV_is {h : Nat} {w : World} {v : V} {b off : Nat} {ao : Option Addr} {cap : Nat} (hv : v.at (cutV h w) b off) (h2 : w.cell? ⟨b, off + 2, none⟩ = some (.slice ao v.l.length cap)) : Is (cutV h w) v ao ∧ (cutV h w).cell? ⟨b, off + 2, none⟩ = some (.slice ao v.l.length cap) := by
  obtain ⟨c0, c1, a1, p1, c2, hI⟩ := (at_iff _ _ _ _).1 hv
  have := (cutV_cell c2).1
  rw [h2] at this
  simp only [Option.some.injEq, Value.slice.injEq, true_and] at this
  obtain ⟨rfl, rfl⟩ := this
  exact ⟨hI, c2⟩
/-- The cells that a store elsewhere leaves. -/
theorem cell_set {w : World} {p a : Addr} {x y : Value} (hne : a ≠ p) (hc : w.cell? a = some x) : (w.setCell p y).cell? a = some x := by
  rw [World.cell?_setCell_other (h := fun e => hne e.symm)]; exact hc
end Go.Proofs.YtegpnncmphhjjabDoor
