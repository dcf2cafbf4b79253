/- What holds of things while they are copied in place: the old memory and the rows of things alone matter; a list that is exchanged for one like it. -/
import Derived.Test.YtekkecnhnaejlabDoorHold
import Derived.Test.YtekkecnhnaejlabDoorAtFun
namespace Go.Proofs.YtekkecnhnaejlabDoor
open Go.ChangeShapes Go.WideShapes Go.ChangeAt Go.RowKit
/-- A list is exchanged for a copy: every thing is what it was. -/
theorem at_write {w w' : World} {t : V} {b off : Nat} {cap' : Nat} {ao' : Option Addr} (ht : t.at w b off)
    (hk : ∀ (a : Addr) (x : Value), a ≠ ⟨b, off + 2, none⟩ → w.cell? a = some x → w'.cell? a = some x) (hn : w'.cell? ⟨b, off + 2, none⟩ = some (.slice ao' t.l.length cap')) (hF : Fo w t.l ao') :
    ∀ (m : Nat) (v : V) (b1 o1 : Nat), v.size ≤ m → v.at w b1 o1 → v.at w' b1 o1 := by
  intro m
  induction m with
  | zero => intro v _ _ h; have := size_pos v; omega
  | succ m ih =>
    intro v b1 o1 hs hv
    have hv0 := hv
    rw [at_iff] at hv ⊢
    obtain ⟨hh, a1, p1, c2, hI⟩ := hv
    obtain ⟨_, a0, p0, h2, _⟩ := (at_iff _ _ _ _).1 ht
    have hn' : ∀ (a : Addr) (k : Int), w.cell? a = some (.int .i64 k) → w'.cell? a = some (.int .i64 k) := by
      intro a k hc
      refine hk a _ ?_ hc
      rintro rfl
      rw [h2] at hc; simp at hc
    have kid : ∀ (l : List V) (ax : Option Addr), sizes l ≤ m → Fo w l ax → Fo w' l ax := by
      intro l ax hx hf i hi
      obtain ⟨bb, oo, e, k⟩ := hf i hi
      refine ⟨bb, oo, e, ih _ _ _ ?_ k⟩
      have := size_get l i hi; omega
    have hl : sizes v.l ≤ m := by have := size_eq v; omega
    refine ⟨⟨hn' _ _ hh.1, hn' _ _ hh.2⟩, ?_⟩
    by_cases he : (⟨b1, o1 + 2, none⟩ : Addr) = ⟨b, off + 2, none⟩
    · simp only [Addr.mk.injEq, and_true] at he
      obtain ⟨rfl, ho⟩ := he
      obtain rfl : o1 = off := by omega
      obtain rfl := at_fun v t _ _ hv0 ht
      exact ⟨ao', cap', hn, hI.fit, kid _ _ hl hF⟩
    · exact ⟨a1, p1, hk _ _ he c2, hI.fit, kid _ _ hl hI.fo⟩
/-- The world with nothing but the old blocks (without one) and the rows of things. -/
def cutV (r h : Nat) (w : World) : World := { w with heap := w.heap.mapIdx fun i o => if i = r then .cells #[] 0 (0, 0) else if i < h then o else match o with | .cells c t z => if t = 24 then .cells c t z else .cells #[] 0 (0, 0) | _ => .cells #[] 0 (0, 0) }
/-- A row of things. -/
def IsV (w : World) (b : Nat) : Prop := ∃ c, w.heap[b]? = some (.cells c 24 (0, 0))
theorem cutV_old {r h : Nat} {w : World} {k : Nat} (hr : k ≠ r) (hk : k < h) : (cutV r h w).heap[k]? = w.heap[k]? := by
  simp only [cutV, Array.getElem?_mapIdx, hr, hk, if_true, if_false]
  cases w.heap[k]? <;> rfl
theorem cutV_val {r h : Nat} {w : World} {k : Nat} {c : Array Value} {z : Nat × Nat} (hr : k ≠ r) (hk : w.heap[k]? = some (.cells c 24 z)) : (cutV r h w).heap[k]? = w.heap[k]? := by
  by_cases hh : k < h
  · exact cutV_old hr hh
  · simp only [cutV, Array.getElem?_mapIdx, hk, Option.map_some, if_true]
    rw [if_neg hr, if_neg hh]
/-- A cell that is left. -/
theorem cutV_cell {r h : Nat} {w : World} {a : Addr} {x : Value} (hc : (cutV r h w).cell? a = some x) : w.cell? a = some x ∧ a.block ≠ r ∧ (a.block < h ∨ ∃ c z, w.heap[a.block]? = some (.cells c 24 z)) := by
  have hb := World.block_lt_of_cell? (cutV r h w) a hc
  have hs : a.block < w.heap.size := by simpa [cutV] using hb
  have e0 : w.heap[a.block]? = some w.heap[a.block] := Array.getElem?_eq_getElem hs
  by_cases hr : a.block = r
  · exfalso
    have e1 : (cutV r h w).heap[a.block]? = some (.cells #[] 0 (0, 0)) := by
      simp only [cutV, Array.getElem?_mapIdx, e0, Option.map_some]
      rw [if_pos hr]
    simp [World.cell?, e1] at hc
  · by_cases hk : a.block < h
    · exact ⟨(World.cell?_of_block (cutV_old hr hk)).symm.trans hc, hr, .inl hk⟩
    · cases ho : w.heap[a.block] with
      | cells c t z =>
        by_cases ht : t = 24
        · subst ht
          rw [ho] at e0
          exact ⟨(World.cell?_of_block (cutV_val hr e0)).symm.trans hc, hr, .inr ⟨c, z, e0⟩⟩
        · exfalso
          rw [ho] at e0
          have e1 : (cutV r h w).heap[a.block]? = some (.cells #[] 0 (0, 0)) := by
            simp only [cutV, Array.getElem?_mapIdx, e0, Option.map_some, hr, hk, ht, if_false]
          simp [World.cell?, e1] at hc
      | _ =>
        exfalso
        rw [ho] at e0
        have e1 : (cutV r h w).heap[a.block]? = some (.cells #[] 0 (0, 0)) := by
          simp only [cutV, Array.getElem?_mapIdx, e0, Option.map_some, hr, hk, if_false]
        simp [World.cell?, e1] at hc
theorem cutV_mk {r h : Nat} {w : World} {a : Addr} {x : Value} (hc : w.cell? a = some x) (hr : a.block ≠ r) (ha : a.block < h ∨ ∃ c z, w.heap[a.block]? = some (.cells c 24 z)) : (cutV r h w).cell? a = some x := by
  rcases ha with ha | ⟨c, z, ha⟩
  · exact (World.cell?_of_block (cutV_old hr ha)).trans hc
  · exact (World.cell?_of_block (cutV_val hr ha)).trans hc
theorem Fo.uncut {r h : Nat} {w : World} {l : List V} {ao : Option Addr} (hv : Fo (cutV r h w) l ao) : Fo w l ao := hv.kept fun _ _ hc => (cutV_cell hc).1
/-- The old blocks and the rows of things are as they were (but one block). -/
def Keeps (r h : Nat) (w w' : World) : Prop := (∀ k, k ≠ r → k < h → w'.heap[k]? = w.heap[k]?) ∧ ∀ (k : Nat) (c : Array Value) (z : Nat × Nat), k ≠ r → w.heap[k]? = some (Obj.cells c 24 z) → w'.heap[k]? = some (Obj.cells c 24 z)
theorem Keeps.cell {r h : Nat} {w w' : World} (hk : Keeps r h w w') : ∀ (a : Addr) (x : Value), (cutV r h w).cell? a = some x → (cutV r h w').cell? a = some x := by
  intro a x hc
  obtain ⟨h1, hr, h2⟩ := cutV_cell hc
  rcases h2 with h2 | ⟨c, z, h2⟩
  · exact cutV_mk ((World.cell?_of_block (hk.1 _ hr h2)).trans h1) hr (.inl h2)
  · have := hk.2 _ _ _ hr h2
    exact cutV_mk ((World.cell?_of_block (this.trans h2.symm)).trans h1) hr (.inr ⟨c, z, this⟩)
theorem Keeps.trans {r h : Nat} {a b c : World} (h1 : Keeps r h a b) (h2 : Keeps r h b c) : Keeps r h a c := ⟨fun k hr hk => (h2.1 k hr hk).trans (h1.1 k hr hk), fun k _ _ hr e => h2.2 k _ _ hr (h1.2 k _ _ hr e)⟩
theorem Keeps.quiet {r h : Nat} {w w' : World} (q : Quiet w w') (hh : h ≤ w.heap.size) : Keeps r h w w' :=
  ⟨fun k _ hk => q.block k (by omega) fun e => e, fun k _ _ _ e => (q.block k (lt_of_block e) fun e => e).trans e⟩
theorem Keeps.isV {r h : Nat} {w w' : World} (hk : Keeps r h w w') {b : Nat} (hr : b ≠ r) (hb : IsV w b) : IsV w' b := by obtain ⟨c, hc⟩ := hb; exact ⟨c, hk.2 b c _ hr hc⟩
/-- Another row grows. -/
theorem Keeps.grown {r h : Nat} {w w' : World} {B : Nat} {t : TypeId} {s : Nat} {v : Value} {n : Nat} {xs : List Value} (hr : w.ownsRow B t s v n xs) (ht : t ≠ 24) (hB : h ≤ B) (hg : w.grownBy w' v.ownBlock) (hh : h ≤ w.heap.size) : Keeps r h w w' := by
  refine ⟨fun k _ hk => hg.block k (by omega) fun e => by have := (hr.lt k e.symm).1; omega, fun k c z _ e => (hg.block k (lt_of_block e) fun e' => ?_).trans e⟩
  rcases hr.2 with ⟨rfl, _⟩ | ⟨g, cap, cur, rfl, _, hh, _⟩
  · simp [Value.ownBlock] at e'
  · simp [Value.ownBlock] at e'
    subst e'
    rw [hh] at e
    simp at e
    exact ht e.2.1
/-- The cells of some things, one behind the other. -/
theorem kids_of {w : World} {l : List V} {b o : Nat} (h : Fo w l (some ⟨b, o, none⟩)) : ∃ ps : List Kd, ps.map (·.1) = l ∧ (∀ p ∈ ps, Is w p.1 p.2.1) ∧ ∀ j x, (tris ps)[j]? = some x → w.cell? ⟨b, o + j, none⟩ = some x := by
  have key : ∀ i, i < l.length → ∃ p : Option Addr × Nat, ∀ hi : i < l.length, Is w l[i] p.1 ∧ ∀ c, c < 3 → w.cell? ⟨b, o + i * 3 + c, none⟩ = (tri (l[i], p))[c]? := by
    intro i hi
    obtain ⟨b', o', e, hh, ai, ci, c2, hI⟩ := h.get i hi
    cases e
    refine ⟨(ai, ci), fun _ => ⟨hI, fun c hc => ?_⟩⟩
    match c, hc with
    | 0, _ => exact hh.1
    | 1, _ => exact hh.2
    | 2, _ => exact c2
  haveI : Inhabited (Option Addr × Nat) := ⟨(none, 0)⟩
  obtain ⟨f, hf⟩ := Deep.choose_lt key
  refine ⟨l.mapIdx fun i x => (x, f i), ?_, fun p hp => ?_, fun j x hx => ?_⟩
  · apply List.ext_getElem <;> simp
  · obtain ⟨i, hi, rfl⟩ := List.getElem_of_mem hp
    have hi' : i < l.length := by simpa using hi
    simpa using (hf i hi' hi').1
  · have hlen := tris_len (l.mapIdx fun i x => (x, f i))
    have hj : j < (l.mapIdx fun i x => (x, f i)).length * 3 := by
      rw [← hlen]
      rcases Nat.lt_or_ge j (tris (l.mapIdx fun i x => (x, f i))).length with h' | h'
      · exact h'
      · rw [List.getElem?_eq_none h'] at hx; simp at hx
    have hi : j / 3 < l.length := by simp at hj; omega
    have e : j = j / 3 * 3 + j % 3 := by omega
    have h1 := (hf (j / 3) hi hi).2 (j % 3) (by omega)
    have h2 := tris_at (l.mapIdx fun i x => (x, f i)) (j / 3) (j % 3) (by simpa using hi) (by omega)
    rw [← e] at h2
    rw [h2] at hx
    simp only [List.getElem_mapIdx] at hx
    rw [show o + j = o + j / 3 * 3 + j % 3 by omega, h1]
    exact hx
/-- The copy of a row of things is those things. -/
theorem copied {w w4 : World} {r h B : Nat} {l : List V} {G m cap : Nat} {ps : List Kd} (hps : ps.map (·.1) = l) (hI : ∀ p ∈ ps, Is (cutV r h w) p.1 p.2.1) (hk : Keeps r h w w4) (hr : w4.ownsRow B 24 3 (.slice (some ⟨G, 0, none⟩) m cap) m (tris ps)) (hm : m = ps.length) (hm0 : 0 < m) (hGr : G ≠ r) :
    Fo (cutV r h w4) l (some ⟨G, 0, none⟩) ∧ IsV w4 G := by
  have hG : IsV w4 G := by
    rcases hr.2 with ⟨e, _⟩ | ⟨g, cp, cur, e, _, hh, _⟩
    · simp at e
    · simp only [Value.slice.injEq, Option.some.injEq, Addr.mk.injEq] at e
      obtain ⟨⟨rfl, _⟩, _⟩ := e
      exact ⟨cur, hh⟩
  refine ⟨?_, hG⟩
  subst hm hps
  intro i hi
  have hi' : i < ps.length := by simpa using hi
  obtain ⟨g, e, d⟩ := owns_at hr hm0
  cases e
  obtain ⟨c, hc⟩ := hG
  refine ⟨G, 0, rfl, ?_⟩
  have e : (ps.map (·.1))[i] = ps[i].1 := by simp
  rw [e, Nat.zero_add]
  refine tri_at (fun j hj => ?_) ((hI _ (List.getElem_mem hi')).kept hk.cell)
  have h1 := d (i * 3 + j) (by omega)
  rw [tris_at ps i j hi' hj] at h1
  have hj' : j < (tri ps[i]).length := by simp [tri]; omega
  rw [List.getElem?_eq_getElem hj'] at h1 ⊢
  exact cutV_mk h1 hGr (.inr ⟨c, _, hc⟩)
/-- A store elsewhere. -/
theorem cell_set {w : World} {p a : Addr} {x y : Value} (hne : a ≠ p) (hc : w.cell? a = some x) : (w.setCell p y).cell? a = some x := by
  rw [World.cell?_setCell_other (h := fun e => hne e.symm)]; exact hc
theorem cell_again {w : World} {p a : Addr} {x y : Value} (hp : w.cell? p = some y) (hc : w.cell? a = some x) : (w.setCell p y).cell? a = some x := by
  by_cases e : a = p
  · subst e; rw [hp] at hc; cases hc; exact World.cell?_setCell_same' _ _ _ (by rw [hp]; rfl)
  · exact cell_set e hc
theorem set_kind {w : World} {p : Addr} {y : Value} {k : Nat} {c : Array Value} {t : TypeId} {z : Nat × Nat} (hk : w.heap[k]? = some (.cells c t z)) : ∃ c', (w.setCell p y).heap[k]? = some (.cells c' t z) := by
  by_cases e : k = p.block
  · subst e
    exact ⟨_, by simp [World.setCell, Array.getElem?_modify, hk]; rfl⟩
  · exact ⟨c, (Below.heap_setCell _ _ _ _ e).trans hk⟩
/-- A thing is written where it stood, with another list. -/
structure Wrt (w w' : World) (b off : Nat) (y : Value) : Prop where
  cell : ∀ (a : Addr) (x : Value), a ≠ ⟨b, off + 2, none⟩ → w.cell? a = some x → w'.cell? a = some x
  new : w'.cell? ⟨b, off + 2, none⟩ = some y
  kp : Kp (fun k => k = b) w w'
  kind : ∀ (k : Nat) (c : Array Value) (t : TypeId) (z : Nat × Nat), w.heap[k]? = some (Obj.cells c t z) → ∃ c', w'.heap[k]? = some (Obj.cells c' t z)
theorem kp_set (w : World) (b o : Nat) (y : Value) : Kp (fun k => k = b) w (w.setCell ⟨b, o, none⟩ y) := Kp.setCell w ⟨b, o, none⟩ y rfl
theorem wrt_set {w : World} {b off : Nat} {v : V} {x y : Value} (hh : v.head w b off) (hs : w.cell? ⟨b, off + 2, none⟩ = some x) :
    Wrt w (((w.setCell ⟨b, off, none⟩ (.int .i64 v.kind)).setCell ⟨b, off + 1, none⟩ (.int .i64 v.n)).setCell ⟨b, off + 2, none⟩ y) b off y := by
  obtain ⟨h0, h1⟩ := hh
  have s1 : ∀ (a : Addr) (z : Value), w.cell? a = some z → (w.setCell ⟨b, off, none⟩ (.int .i64 v.kind)).cell? a = some z := fun a z hz => cell_again h0 hz
  have s3 : ∀ (a : Addr) (z : Value), w.cell? a = some z → ((w.setCell ⟨b, off, none⟩ (.int .i64 v.kind)).setCell ⟨b, off + 1, none⟩ (.int .i64 v.n)).cell? a = some z := fun a z hz => cell_again (s1 _ _ h1) (s1 _ _ hz)
  refine ⟨fun a z hne hz => cell_set hne (s3 a z hz), World.cell?_setCell_same' _ _ _ (by rw [s3 _ _ hs]; rfl), ?_, fun k c t z hk => ?_⟩
  · exact ((kp_set _ _ _ _).trans (kp_set _ _ _ _)).trans (kp_set _ _ _ _)
  · obtain ⟨c1, k1⟩ := set_kind (p := ⟨b, off, none⟩) (y := .int .i64 v.kind) hk
    obtain ⟨c3, k3⟩ := set_kind (p := ⟨b, off + 1, none⟩) (y := .int .i64 v.n) k1
    exact set_kind k3
end Go.Proofs.YtekkecnhnaejlabDoor
