/- The document's own answers: capabilities and gates in a value, its text; the same numbers? What one place holds is one thing. What holds of things while they are copied in place: the old memory and the rows of things alone matter; a list that is exchanged for one like it. The contract of listOf; a nil map asked for such a key. The contract of Own: lists that are still to be copied. -/
import Derived.Test.YtpppgmkefpelaaaUV2
import Derived.Test.YtpppgmkefpelaaaUV1
import Derived.BigQuiet
import Derived.Deep.LoopGhost
import Derived.Test.YtpppgmkefpelaaaUV0
import Derived.Laws.ResultCell
import Derived.Carry
namespace Go.Proofs.Ytpppgmkefpelaaa
open Go.ChangeShapes Go.WideShapes Go.ChangeAt Go.RowKit
end Go.Proofs.Ytpppgmkefpelaaa
namespace Go.Proofs.Ytpppgmkefpelaaa
open Go.ChangeShapes Go.WideShapes Go.ChangeAt Go.RowKit
theorem head_fun {w : World} {v u : V} {b off : Nat} (h : v.head w b off) (h' : u.head w b off) : v.kind = u.kind ∧ v.n = u.n := by
  obtain ⟨a1, a2⟩ := h; obtain ⟨b1, b2⟩ := h'
  rw [a1] at b1; rw [a2] at b2
  simp only [Option.some.injEq, Value.int.injEq, true_and] at b1 b2
  exact ⟨b1, b2⟩
theorem at_fun {w : World} (v : V) : ∀ (u : V) (b off : Nat), v.at w b off → u.at w b off → v = u := by
  induction v using V.ind' with
  | h v ih =>
    intro u b off hv hu
    rw [at_iff] at hv hu
    obtain ⟨c0, ao, cap, c2, hI⟩ := hv
    obtain ⟨d0, ao', cap', d2, hU⟩ := hu
    rw [c2] at d2
    simp only [Option.some.injEq, Value.slice.injEq] at d2
    obtain ⟨rfl, hlen, _⟩ := d2
    rw [v_ext]
    refine ⟨head_fun c0 d0, ?_⟩
    refine List.ext_getElem hlen fun i h1 h2 => ?_
    obtain ⟨b1, o1, e1, k1⟩ := hI.fo i h1
    obtain ⟨b2, o2, e2, k2⟩ := hU.fo i h2
    rw [e1] at e2; cases e2
    exact ih _ (List.getElem_mem h1) _ _ _ k1 k2
end Go.Proofs.Ytpppgmkefpelaaa
namespace Go.Proofs.Ytpppgmkefpelaaa
open Go.ChangeShapes Go.WideShapes Go.ChangeAt Go.RowKit
/-- A list is exchanged for a copy: every thing is what it was. -/
theorem at_write {w w' : World} {t : V} {b off : Nat} {cap' : Nat} {ao' : Option Addr} (ht : t.at w b off)
    (hk : ∀ (a : Addr) (x : Value), a ≠ ⟨b, off + 2, none⟩ → w.cell? a = some x → w'.cell? a = some x) (hn : w'.cell? ⟨b, off + 2, none⟩ = some (.slice ao' t.l.length cap')) (hF : Fo w t.l ao') :
    ∀ (m : Nat) (v : V) (b1 o1 : Nat), v.size ≤ m → v.at w b1 o1 → v.at w' b1 o1 := by
  intro m
  induction m with
  | zero => intro v _ _ h; have := size_pos v; omega
  | succ m ih =>
    intro v b1 o1 hs hv
    have hv0 := hv
    rw [at_iff] at hv ⊢
    obtain ⟨hh, a1, p1, c2, hI⟩ := hv
    obtain ⟨_, a0, p0, h2, _⟩ := (at_iff _ _ _ _).1 ht
    have hn' : ∀ (a : Addr) (k : Int), w.cell? a = some (.int .i64 k) → w'.cell? a = some (.int .i64 k) := by
      intro a k hc
      refine hk a _ ?_ hc
      rintro rfl
      rw [h2] at hc; simp at hc
    have kid : ∀ (l : List V) (ax : Option Addr), sizes l ≤ m → Fo w l ax → Fo w' l ax := by
      intro l ax hx hf i hi
      obtain ⟨bb, oo, e, k⟩ := hf i hi
      refine ⟨bb, oo, e, ih _ _ _ ?_ k⟩
      have := size_get l i hi; omega
    have hl : sizes v.l ≤ m := by have := size_eq v; omega
    refine ⟨⟨hn' _ _ hh.1, hn' _ _ hh.2⟩, ?_⟩
    by_cases he : (⟨b1, o1 + 2, none⟩ : Addr) = ⟨b, off + 2, none⟩
    · simp only [Addr.mk.injEq, and_true] at he
      obtain ⟨rfl, ho⟩ := he
      obtain rfl : o1 = off := by omega
      obtain rfl := at_fun v t _ _ hv0 ht
      exact ⟨ao', cap', hn, hI.fit, kid _ _ hl hF⟩
    · exact ⟨a1, p1, hk _ _ he c2, hI.fit, kid _ _ hl hI.fo⟩
/-- The world with nothing but the old blocks (without some) and the rows of things. -/
def cutV (R : Nat → Bool) (h : Nat) (w : World) : World := { w with heap := w.heap.mapIdx fun i o => if R i then .cells #[] 0 (0, 0) else if i < h then o else match o with | .cells c t z => if t = 40 then .cells c t z else .cells #[] 0 (0, 0) | _ => .cells #[] 0 (0, 0) }
/-- A row of things. -/
def IsV (w : World) (b : Nat) : Prop := ∃ c, w.heap[b]? = some (.cells c 40 (0, 0))
theorem cutV_old {R : Nat → Bool} {h : Nat} {w : World} {k : Nat} (hr : R k = false) (hk : k < h) : (cutV R h w).heap[k]? = w.heap[k]? := by
  simp only [cutV, Array.getElem?_mapIdx, hr, hk, if_true, if_false, Bool.false_eq_true]
  cases w.heap[k]? <;> rfl
theorem cutV_val {R : Nat → Bool} {h : Nat} {w : World} {k : Nat} {c : Array Value} {z : Nat × Nat} (hr : R k = false) (hk : w.heap[k]? = some (.cells c 40 z)) : (cutV R h w).heap[k]? = w.heap[k]? := by
  by_cases hh : k < h
  · exact cutV_old hr hh
  · simp only [cutV, Array.getElem?_mapIdx, hk, Option.map_some, if_true]
    rw [if_neg (by simp [hr]), if_neg hh]
/-- A cell that is left. -/
theorem cutV_cell {R : Nat → Bool} {h : Nat} {w : World} {a : Addr} {x : Value} (hc : (cutV R h w).cell? a = some x) : w.cell? a = some x ∧ R a.block = false ∧ (a.block < h ∨ ∃ c z, w.heap[a.block]? = some (.cells c 40 z)) := by
  have hb := World.block_lt_of_cell? (cutV R h w) a hc
  have hs : a.block < w.heap.size := by simpa [cutV] using hb
  have e0 : w.heap[a.block]? = some w.heap[a.block] := Array.getElem?_eq_getElem hs
  by_cases hr0 : R a.block = true
  · exfalso
    have hr := hr0
    have e1 : (cutV R h w).heap[a.block]? = some (.cells #[] 0 (0, 0)) := by
      simp only [cutV, Array.getElem?_mapIdx, e0, Option.map_some]
      rw [if_pos hr]
    simp [World.cell?, e1] at hc
  · have hr : R a.block = false := by simpa using hr0
    by_cases hk : a.block < h
    · exact ⟨(World.cell?_of_block (cutV_old hr hk)).symm.trans hc, hr, .inl hk⟩
    · cases ho : w.heap[a.block] with
      | cells c t z =>
        by_cases ht : t = 40
        · subst ht
          rw [ho] at e0
          exact ⟨(World.cell?_of_block (cutV_val hr e0)).symm.trans hc, hr, .inr ⟨c, z, e0⟩⟩
        · exfalso
          rw [ho] at e0
          have e1 : (cutV R h w).heap[a.block]? = some (.cells #[] 0 (0, 0)) := by
            simp only [cutV, Array.getElem?_mapIdx, e0, Option.map_some, hr, hk, ht, if_false, Bool.false_eq_true]
          simp [World.cell?, e1] at hc
      | _ =>
        exfalso
        rw [ho] at e0
        have e1 : (cutV R h w).heap[a.block]? = some (.cells #[] 0 (0, 0)) := by
          simp only [cutV, Array.getElem?_mapIdx, e0, Option.map_some, hr, hk, if_false, Bool.false_eq_true]
        simp [World.cell?, e1] at hc
theorem cutV_mk {R : Nat → Bool} {h : Nat} {w : World} {a : Addr} {x : Value} (hc : w.cell? a = some x) (hr : R a.block = false) (ha : a.block < h ∨ ∃ c z, w.heap[a.block]? = some (.cells c 40 z)) : (cutV R h w).cell? a = some x := by
  rcases ha with ha | ⟨c, z, ha⟩
  · exact (World.cell?_of_block (cutV_old hr ha)).trans hc
  · exact (World.cell?_of_block (cutV_val hr ha)).trans hc
theorem Fo.uncut {R : Nat → Bool} {h : Nat} {w : World} {l : List V} {ao : Option Addr} (hv : Fo (cutV R h w) l ao) : Fo w l ao := hv.kept fun _ _ hc => (cutV_cell hc).1
/-- The old blocks and the rows of things are as they were (but one block). -/
def Keeps (R : Nat → Bool) (h : Nat) (w w' : World) : Prop := (∀ k, R k = false → k < h → w'.heap[k]? = w.heap[k]?) ∧ ∀ (k : Nat) (c : Array Value) (z : Nat × Nat), R k = false → w.heap[k]? = some (Obj.cells c 40 z) → w'.heap[k]? = some (Obj.cells c 40 z)
theorem Keeps.cell {R : Nat → Bool} {h : Nat} {w w' : World} (hk : Keeps R h w w') : ∀ (a : Addr) (x : Value), (cutV R h w).cell? a = some x → (cutV R h w').cell? a = some x := by
  intro a x hc
  obtain ⟨h1, hr, h2⟩ := cutV_cell hc
  rcases h2 with h2 | ⟨c, z, h2⟩
  · exact cutV_mk ((World.cell?_of_block (hk.1 _ hr h2)).trans h1) hr (.inl h2)
  · have := hk.2 _ _ _ hr h2
    exact cutV_mk ((World.cell?_of_block (this.trans h2.symm)).trans h1) hr (.inr ⟨c, z, this⟩)
theorem Keeps.trans {R : Nat → Bool} {h : Nat} {a b c : World} (h1 : Keeps R h a b) (h2 : Keeps R h b c) : Keeps R h a c := ⟨fun k hr hk => (h2.1 k hr hk).trans (h1.1 k hr hk), fun k _ _ hr e => h2.2 k _ _ hr (h1.2 k _ _ hr e)⟩
theorem Keeps.quiet {R : Nat → Bool} {h : Nat} {w w' : World} (q : Quiet w w') (hh : h ≤ w.heap.size) : Keeps R h w w' :=
  ⟨fun k _ hk => q.block k (by omega) fun e => e, fun k _ _ _ e => (q.block k (lt_of_block e) fun e => e).trans e⟩
theorem Keeps.isV {R : Nat → Bool} {h : Nat} {w w' : World} (hk : Keeps R h w w') {b : Nat} (hr : R b = false) (hb : IsV w b) : IsV w' b := by obtain ⟨c, hc⟩ := hb; exact ⟨c, hk.2 b c _ hr hc⟩
/-- Another row grows. -/
theorem Keeps.grown {R : Nat → Bool} {h : Nat} {w w' : World} {B : Nat} {t : TypeId} {s : Nat} {v : Value} {n : Nat} {xs : List Value} (hr : w.ownsRow B t s v n xs) (ht : t ≠ 40) (hB : h ≤ B) (hg : w.grownBy w' v.ownBlock) (hh : h ≤ w.heap.size) : Keeps R h w w' := by
  refine ⟨fun k _ hk => hg.block k (by omega) fun e => by have := (hr.lt k e.symm).1; omega, fun k c z _ e => (hg.block k (lt_of_block e) fun e' => ?_).trans e⟩
  rcases hr.2 with ⟨rfl, _⟩ | ⟨g, cap, cur, rfl, _, hh, _⟩
  · simp [Value.ownBlock] at e'
  · simp [Value.ownBlock] at e'
    subst e'
    rw [hh] at e
    simp at e
    exact ht e.2.1
/-- The cells of some things, one behind the other. -/
theorem kids_of {w : World} {l : List V} {b o : Nat} (h : Fo w l (some ⟨b, o, none⟩)) : ∃ ps : List Kd, ps.map (·.1) = l ∧ (∀ p ∈ ps, Is w p.1 p.2.1) ∧ ∀ j x, (tris ps)[j]? = some x → w.cell? ⟨b, o + j, none⟩ = some x := by
  have key : ∀ i, i < l.length → ∃ p : Option Addr × Nat, ∀ hi : i < l.length, Is w l[i] p.1 ∧ ∀ c, c < 3 → w.cell? ⟨b, o + i * 3 + c, none⟩ = (tri (l[i], p))[c]? := by
    intro i hi
    obtain ⟨b', o', e, hh, ai, ci, c2, hI⟩ := h.get i hi
    cases e
    refine ⟨(ai, ci), fun _ => ⟨hI, fun c hc => ?_⟩⟩
    match c, hc with
    | 0, _ => exact hh.1
    | 1, _ => exact hh.2
    | 2, _ => exact c2
  haveI : Inhabited (Option Addr × Nat) := ⟨(none, 0)⟩
  obtain ⟨f, hf⟩ := Deep.choose_lt key
  refine ⟨l.mapIdx fun i x => (x, f i), ?_, fun p hp => ?_, fun j x hx => ?_⟩
  · apply List.ext_getElem <;> simp
  · obtain ⟨i, hi, rfl⟩ := List.getElem_of_mem hp
    have hi' : i < l.length := by simpa using hi
    simpa using (hf i hi' hi').1
  · have hlen := tris_len (l.mapIdx fun i x => (x, f i))
    have hj : j < (l.mapIdx fun i x => (x, f i)).length * 3 := by
      rw [← hlen]
      rcases Nat.lt_or_ge j (tris (l.mapIdx fun i x => (x, f i))).length with h' | h'
      · exact h'
      · rw [List.getElem?_eq_none h'] at hx; simp at hx
    have hi : j / 3 < l.length := by simp at hj; omega
    have e : j = j / 3 * 3 + j % 3 := by omega
    have h1 := (hf (j / 3) hi hi).2 (j % 3) (by omega)
    have h2 := tris_at (l.mapIdx fun i x => (x, f i)) (j / 3) (j % 3) (by simpa using hi) (by omega)
    rw [← e] at h2
    rw [h2] at hx
    simp only [List.getElem_mapIdx] at hx
    rw [show o + j = o + j / 3 * 3 + j % 3 by omega, h1]
    exact hx
/-- The copy of a row of things is those things. -/
theorem copied {w w4 : World} {R : Nat → Bool} {h B : Nat} {l : List V} {G m cap : Nat} {ps : List Kd} (hps : ps.map (·.1) = l) (hI : ∀ p ∈ ps, Is (cutV R h w) p.1 p.2.1) (hk : Keeps R h w w4) (hr : w4.ownsRow B 40 3 (.slice (some ⟨G, 0, none⟩) m cap) m (tris ps)) (hm : m = ps.length) (hm0 : 0 < m) (hGr : R G = false) :
    Fo (cutV R h w4) l (some ⟨G, 0, none⟩) ∧ IsV w4 G := by
  have hG : IsV w4 G := by
    rcases hr.2 with ⟨e, _⟩ | ⟨g, cp, cur, e, _, hh, _⟩
    · simp at e
    · simp only [Value.slice.injEq, Option.some.injEq, Addr.mk.injEq] at e
      obtain ⟨⟨rfl, _⟩, _⟩ := e
      exact ⟨cur, hh⟩
  refine ⟨?_, hG⟩
  subst hm hps
  intro i hi
  have hi' : i < ps.length := by simpa using hi
  obtain ⟨g, e, d⟩ := owns_at hr hm0
  cases e
  obtain ⟨c, hc⟩ := hG
  refine ⟨G, 0, rfl, ?_⟩
  have e : (ps.map (·.1))[i] = ps[i].1 := by simp
  rw [e, Nat.zero_add]
  refine tri_at (fun j hj => ?_) ((hI _ (List.getElem_mem hi')).kept hk.cell)
  have h1 := d (i * 3 + j) (by omega)
  rw [tris_at ps i j hi' hj] at h1
  have hj' : j < (tri ps[i]).length := by simp [tri]; omega
  rw [List.getElem?_eq_getElem hj'] at h1 ⊢
  exact cutV_mk h1 hGr (.inr ⟨c, _, hc⟩)
/-- A store elsewhere. -/
theorem cell_set {w : World} {p a : Addr} {x y : Value} (hne : a ≠ p) (hc : w.cell? a = some x) : (w.setCell p y).cell? a = some x := by
  rw [World.cell?_setCell_other (h := fun e => hne e.symm)]; exact hc
theorem cell_again {w : World} {p a : Addr} {x y : Value} (hp : w.cell? p = some y) (hc : w.cell? a = some x) : (w.setCell p y).cell? a = some x := by
  by_cases e : a = p
  · subst e; rw [hp] at hc; cases hc; exact World.cell?_setCell_same' _ _ _ (by rw [hp]; rfl)
  · exact cell_set e hc
theorem set_kind {w : World} {p : Addr} {y : Value} {k : Nat} {c : Array Value} {t : TypeId} {z : Nat × Nat} (hk : w.heap[k]? = some (.cells c t z)) : ∃ c', (w.setCell p y).heap[k]? = some (.cells c' t z) := by
  by_cases e : k = p.block
  · subst e
    exact ⟨_, by simp [World.setCell, Array.getElem?_modify, hk]; rfl⟩
  · exact ⟨c, (Below.heap_setCell _ _ _ _ e).trans hk⟩
/-- A thing is written where it stood, with another list. -/
structure Wrt (w w' : World) (b off : Nat) (y : Value) : Prop where
  cell : ∀ (a : Addr) (x : Value), a ≠ ⟨b, off + 2, none⟩ → w.cell? a = some x → w'.cell? a = some x
  new : w'.cell? ⟨b, off + 2, none⟩ = some y
  kp : Kp (fun k => k = b) w w'
  kind : ∀ (k : Nat) (c : Array Value) (t : TypeId) (z : Nat × Nat), w.heap[k]? = some (Obj.cells c t z) → ∃ c', w'.heap[k]? = some (Obj.cells c' t z)
theorem wrt_set {w : World} {b off : Nat} {v : V} {x y : Value} (hh : v.head w b off) (hs : w.cell? ⟨b, off + 2, none⟩ = some x) :
    Wrt w (((w.setCell ⟨b, off, none⟩ (.int .i64 v.kind)).setCell ⟨b, off + 1, none⟩ (.int .i64 v.n)).setCell ⟨b, off + 2, none⟩ y) b off y := by
  obtain ⟨h0, h1⟩ := hh
  have s1 : ∀ (a : Addr) (z : Value), w.cell? a = some z → (w.setCell ⟨b, off, none⟩ (.int .i64 v.kind)).cell? a = some z := fun a z hz => cell_again h0 hz
  have s3 : ∀ (a : Addr) (z : Value), w.cell? a = some z → ((w.setCell ⟨b, off, none⟩ (.int .i64 v.kind)).setCell ⟨b, off + 1, none⟩ (.int .i64 v.n)).cell? a = some z := fun a z hz => cell_again (s1 _ _ h1) (s1 _ _ hz)
  refine ⟨fun a z hne hz => cell_set hne (s3 a z hz), World.cell?_setCell_same' _ _ _ (by rw [s3 _ _ hs]; rfl), ?_, fun k c t z hk => ?_⟩
  · exact ((kp_set _ _ _ _).trans (kp_set _ _ _ _)).trans (kp_set _ _ _ _)
  · obtain ⟨c1, k1⟩ := set_kind (p := ⟨b, off, none⟩) (y := .int .i64 v.kind) hk
    obtain ⟨c3, k3⟩ := set_kind (p := ⟨b, off + 1, none⟩) (y := .int .i64 v.n) k1
    exact set_kind k3
end Go.Proofs.Ytpppgmkefpelaaa
namespace Go.Proofs.Ytpppgmkefpelaaa
open Go.ChangeShapes Go.WideShapes Go.ChangeAt Go.RowKit
/-- A key: where a list begins, how long it is. -/
def keyOf (a : Option Addr) (n : Nat) : Value := .agg #[.pointer (if n = 0 then none else a), .int .i64 n]
set_option maxRecDepth 8000 in
set_option maxHeartbeats 1000000 in
theorem listOf_any (a : Option Addr) (n cap : Nat) (w : World) (ha : 0 < n → ∃ b o, a = some ⟨b, o, none⟩) :
    Calls Try.prog 48 #[.slice a n cap] w fun e w' => e = .returned (keyOf a n) ∧ Quiet w w' := by
  by_cases hn : n = 0
  · subst hn
    go_enter Try.func48, Try.ntmps48
    go_wp2
    refine bodyPost_ret (v := .agg #[.pointer none, .int .i64 0]) (by simp [results, Try.results48, go_sem]) rfl ?_
    exact ⟨rfl, Kp.alloc _ _⟩
  · obtain ⟨b, o, rfl⟩ := ha (by omega)
    have hn1 : ¬ (n : Int) = 0 := by omega
    have hn2 : (0 : Int) < (n : Int) := by omega
    have hE := hid (show keyOf (some ⟨b, o, none⟩) n = .agg #[.pointer (some ⟨b, o, none⟩), .int .i64 n] by simp [keyOf, hn])
    clear hn
    go_enter Try.func48, Try.ntmps48
    go_wp2
    refine bodyPost_ret (v := .agg #[.pointer (some ⟨b, o, none⟩), .int .i64 n]) (by simp [results, Try.results48, go_sem]) rfl ?_
    exact ⟨by rw [hE.out], Kp.alloc _ _⟩
theorem part0 (p : Option Addr) (n : Int) (w : World) : (part 119 #[.pointer p, .int .i64 n] 0).run Try.prog w = .ok (.pointer p) w := by
  simp [go_sem, part]
theorem part1 (p : Option Addr) (n : Int) (w : World) : (part 3 #[.pointer p, .int .i64 n] 1).run Try.prog w = .ok (.int .i64 n) w := by
  simp [go_sem, part]
theorem key_p (e : Bool) (p : Option Addr) (m : Nat) (w : World) : (Instr.checkKey e (m + 1) 119 (.pointer p)).run Try.prog w = .ok () w := by
  simp [Instr.checkKey, run_underlying Try.underlying119, go_sem]
theorem key_i (e : Bool) (n : Int) (m : Nat) (w : World) : (Instr.checkKey e (m + 1) 3 (.int .i64 n)).run Try.prog w = .ok () w := by
  simp [Instr.checkKey, run_underlying Try.underlying3, go_sem]
theorem key_ok (e : Bool) (p : Option Addr) (n : Int) (m : Nat) (w : World) : (Instr.checkKey e (m + 1 + 1) 121 (.agg #[.pointer p, .int .i64 n])).run Try.prog w = .ok () w := by
  rw [Instr.checkKey]
  simp [run_underlying Try.underlying121, part0, part1, key_p, key_i, Result.andThen]
theorem look_nil (p : Option Addr) (n : Int) (w : World) : (Instr.lookup 116 (.map none) (.agg #[.pointer p, .int .i64 n]) true).run Try.prog w = .ok (.tuple #[.slice none 0 0, .bool false]) w := by
  have k := key_ok true p n 9998 w
  have hz := Try.zeroValue38 w
  unfold Instr.lookup
  simp only [Sem.run_bind, run_underlying Try.underlying116, Result.andThen]
  rw [show (10000 : Nat) = 9998 + 1 + 1 from rfl]
  generalize (9998 + 1 + 1 : Nat) = M at *
  simp [k, Instr.findKey, Instr.findNow, hz, Result.andThen, run_underlying Try.underlying121]
theorem eq_made (d : Nat) (w : World) : (Op.equalIn (d + 1) 116 (.map none) (.map none)).run Try.prog w = .ok true w := by
  simp [Op.equalIn, run_underlying Try.underlying116]
theorem neq_made (w : World) : (binOp .neq 116 (.map none) (.map none)).run Try.prog w = .ok (.bool false) w := by
  simp only [binOp]
  simp [Op.equal, Op.maxDepth, eq_made 9999 w]
end Go.Proofs.Ytpppgmkefpelaaa
namespace Go.Proofs.Ytpppgmkefpelaaa
open Go.ChangeShapes Go.WideShapes Go.ChangeAt Go.RowKit
set_option maxRecDepth 8000 in
set_option maxHeartbeats 1000000 in
theorem with_any (v : V) (ao a : Option Addr) (cap n c : Nat) (w : World) : Calls Try.prog 41 #[.agg #[.int .i64 v.kind, .int .i64 v.n, .slice ao v.l.length cap], .slice a n c] w fun e w' => e = .returned (.agg #[.int .i64 v.kind, .int .i64 v.n, .slice a n c]) ∧ Quiet w w' := by
  go_enter Try.func41, Try.ntmps41
  go_wp2
  refine bodyPost_ret (v := .agg #[.int .i64 v.kind, .int .i64 v.n, .slice a n c]) (by simp [results, Try.results41, go_sem]) rfl ?_
  exact ⟨rfl, (Kp.alloc _ _).trans (Kp.alloc _ _)⟩
theorem out_new {R : Nat → Bool} {n b : Nat} (hr0 : ∀ k, R k = true → k < n) (h : n ≤ b) : R b = false := by
  cases e : R b with
  | false => rfl
  | true => have := hr0 b e; omega
/-- The state of the loop: the lists that are still to be copied; what was made. -/
structure NS (R : Nat → Bool) (W : World) (l : List V) (ra : Option Addr) (sv : Value) (ts : List Pl) (w : World) : Prop where
  row : w.ownsRow W.heap.size 38 1 sv ts.length (ts.map slv)
  root : Fo (cutV R W.heap.size w) l ra
  all : ∀ x ∈ ts, Fo (cutV R W.heap.size w) x.1 x.2.1 ∧ (x.1 ≠ [] → ∃ b, x.2.1 = some ⟨b, 0, none⟩ ∧ W.heap.size ≤ b ∧ IsV w b)
  low : Below W.heap.size W w
theorem NS.keeps {R : Nat → Bool} {W w w' : World} {l : List V} {ra : Option Addr} {sv : Value} {ts : List Pl} (hr0 : ∀ k, R k = true → k < W.heap.size) (H : NS R W l ra sv ts w) (hk : Keeps R W.heap.size w w') (hr : w'.ownsRow W.heap.size 38 1 sv ts.length (ts.map slv)) (hl : Below W.heap.size W w') : NS R W l ra sv ts w' :=
  ⟨hr, H.root.kept hk.cell, fun x hx => by
    obtain ⟨h1, h2⟩ := H.all x hx
    refine ⟨h1.kept hk.cell, fun h => ?_⟩
    obtain ⟨b, e, h3, h4⟩ := h2 h
    exact ⟨b, e, h3, hk.isV (out_new hr0 h3) h4⟩, hl⟩
theorem NS.quiet {R : Nat → Bool} {W w w' : World} {l : List V} {ra : Option Addr} {sv : Value} {ts : List Pl} (hr0 : ∀ k, R k = true → k < W.heap.size) (H : NS R W l ra sv ts w) (q : Quiet w w') : NS R W l ra sv ts w' :=
  H.keeps hr0 (Keeps.quiet q H.low.size) (q.row H.row fun _ _ e => e) (low_of H.low q H.low.size)
/-- One list more is to be copied. -/
theorem NS.push {R : Nat → Bool} {W w w1 : World} {l : List V} {ra : Option Addr} {sv : Value} {ts : List Pl} {x : Pl} {g cap n : Nat} {o : Obj} (hr0 : ∀ k, R k = true → k < W.heap.size) (H : NS R W l ra sv ts w) (hx : Fo (cutV R W.heap.size w) x.1 x.2.1 ∧ (x.1 ≠ [] → ∃ b, x.2.1 = some ⟨b, 0, none⟩ ∧ W.heap.size ≤ b ∧ IsV w b)) (hn : n = ts.length)
    (hr1 : w1.ownsRow W.heap.size 38 1 (.slice (some ⟨g, 0, none⟩) (n + 1) cap) (n + 1) (ts.map slv ++ [slv x])) (hg : (w.alloc o).grownBy w1 sv.ownBlock) :
    NS R W l ra (.slice (some ⟨g, 0, none⟩) (n + 1) cap) (ts ++ [x]) w1 ∧ Keeps R W.heap.size w w1 := by
  subst hn
  have hsz := H.low.size
  have k1 : Keeps R W.heap.size w w1 := (Keeps.quiet (Kp.alloc _ _) hsz).trans (Keeps.grown (H.row.alloc _) (by decide) (Nat.le_refl _) hg (by simp; omega))
  have hp := push_row (x := x) H.low hsz H.row rfl hr1 hg
  refine ⟨⟨hp.1, H.root.kept k1.cell, fun y hy => ?_, hp.2⟩, k1⟩
  have hy' : Fo (cutV R W.heap.size w) y.1 y.2.1 ∧ (y.1 ≠ [] → ∃ b, y.2.1 = some ⟨b, 0, none⟩ ∧ W.heap.size ≤ b ∧ IsV w b) := by
    rcases List.mem_append.1 hy with hy | hy
    · exact H.all y hy
    · simp at hy; subst hy; exact hx
  refine ⟨hy'.1.kept k1.cell, fun h => ?_⟩
  obtain ⟨b, e, h3, h4⟩ := hy'.2 h
  exact ⟨b, e, h3, k1.isV (out_new hr0 h3) h4⟩
/-- A thing's list is exchanged for a copy of it. -/
theorem NS.write {R : Nat → Bool} {W w w' : World} {l : List V} {ra : Option Addr} {sv : Value} {ts : List Pl} {u : V} {b off cap' : Nat} {ao' : Option Addr} (hr0 : ∀ k, R k = true → k < W.heap.size) (H : NS R W l ra sv ts w) (hu : u.at (cutV R W.heap.size w) b off) (hb : W.heap.size ≤ b) (hv : IsV w b) (hF : Fo (cutV R W.heap.size w) u.l ao') (hw : Wrt w w' b off (.slice ao' u.l.length cap')) :
    NS R W l ra sv ts w' ∧ (∀ x ax, Fo (cutV R W.heap.size w) x ax → Fo (cutV R W.heap.size w') x ax) ∧ ∀ k, IsV w k → IsV w' k := by
  have V5 : ∀ k, IsV w k → IsV w' k := by
    rintro k ⟨c, hk⟩
    exact hw.kind _ _ _ _ hk
  have K1 : ∀ (a : Addr) (x : Value), a ≠ ⟨b, off + 2, none⟩ → (cutV R W.heap.size w).cell? a = some x → (cutV R W.heap.size w').cell? a = some x := by
    intro a x hne hx
    obtain ⟨h1, hr, h3⟩ := cutV_cell hx
    rcases h3 with h3 | ⟨c, z, h3⟩
    · exact cutV_mk (hw.cell a x hne h1) hr (.inl h3)
    · obtain ⟨c', h5⟩ := hw.kind _ _ _ _ h3
      exact cutV_mk (hw.cell a x hne h1) hr (.inr ⟨c', z, h5⟩)
  have K2 : (cutV R W.heap.size w').cell? ⟨b, off + 2, none⟩ = some (.slice ao' u.l.length cap') := by
    obtain ⟨c, hc⟩ := V5 b hv
    exact cutV_mk hw.new (out_new hr0 hb) (.inr ⟨c, _, hc⟩)
  have T : ∀ x ax, Fo (cutV R W.heap.size w) x ax → Fo (cutV R W.heap.size w') x ax := by
    intro x ax hf i hi
    obtain ⟨bb, oo, e, k⟩ := hf i hi
    exact ⟨bb, oo, e, at_write hu K1 K2 hF _ _ _ _ (Nat.le_refl _) k⟩
  refine ⟨⟨?_, T _ _ H.root, fun x hx => ?_, ?_⟩, T, V5⟩
  · refine hw.kp.row H.row fun k e hk => ?_
    subst hk
    obtain ⟨c, hc⟩ := hv
    rcases H.row.2 with ⟨rfl, _⟩ | ⟨g, cp, cur, rfl, _, hh, _⟩
    · simp [Value.ownBlock] at e
    · simp [Value.ownBlock] at e; subst e; rw [hh] at hc; simp at hc
  · obtain ⟨h1, h2⟩ := H.all x hx
    refine ⟨T _ _ h1, fun h => ?_⟩
    obtain ⟨b, e, h3, h4⟩ := h2 h
    exact ⟨b, e, h3, V5 _ h4⟩
  · exact H.low.trans (hw.kp.below H.low.size fun k e => by omega)
end Go.Proofs.Ytpppgmkefpelaaa
