/- Memory that came in: none of its cells is frozen, though its blocks may be marked. -/
import Derived.Test.YtjcniiojcigefadKit
import Derived.Deep.Slices
namespace Go.Proofs.Ytjcniiojcigefad
open Go.ChangeShapes Go.WideShapes Go.ChangeAt Go.RowKit
/-- The world with nothing in its frozen cells. -/
def thw (w : World) : World := { w with heap := w.heap.map fun o => match o with | .cells c t fz => .cells (c.mapIdx fun i x => if fz.1 ≤ i ∧ i < fz.2 then .tuple #[] else x) t fz | o => o }
theorem thw_block {w w' : World} {k : Nat} (h : w'.heap[k]? = w.heap[k]?) : (thw w').heap[k]? = (thw w).heap[k]? := by simp [thw, h]
theorem thw_mk {w : World} {a : Addr} {x : Value} (h : w.cell? a = some x) (hf : w.frozen? a = false) : (thw w).cell? a = some x := by
  unfold World.cell? World.frozen? at *
  cases hb : w.heap[a.block]? with
  | none => rw [hb] at h; cases h
  | some o =>
    rw [hb] at h hf
    cases o with
    | cells c t fz =>
      obtain ⟨lo, hi⟩ := fz
      simp only [thw, Array.getElem?_map, hb, Option.map_some] at h hf ⊢
      split at h
      · cases h
      · rename_i hs
        rw [if_neg hs, Array.getElem?_mapIdx, h]
        simp only [Option.map_some, Option.some.injEq]
        rw [if_neg]
        intro e
        simp [e.1, e.2] at hf
    | _ => cases h
theorem thw_cell {w : World} {a : Addr} {x : Value} (h : (thw w).cell? a = some x) (hx : x ≠ .tuple #[]) : w.cell? a = some x ∧ w.frozen? a = false ∧ ∃ c t fz, w.heap[a.block]? = some (.cells c t fz) := by
  unfold World.cell? World.frozen? at *
  cases hb : w.heap[a.block]? with
  | none => simp [thw, hb] at h
  | some o =>
    cases o with
    | cells c t fz =>
      obtain ⟨lo, hi⟩ := fz
      simp only [thw, Array.getElem?_map, hb, Option.map_some] at h ⊢
      split at h
      · cases h
      · rename_i hs
        rw [Array.getElem?_mapIdx] at h
        rw [if_neg hs]
        cases hc : c[a.off]? with
        | none => rw [hc] at h; cases h
        | some y =>
          rw [hc] at h
          simp only [Option.map_some, Option.some.injEq] at h
          by_cases e : lo ≤ a.off ∧ a.off < hi
          · rw [if_pos e] at h; exact absurd h.symm hx
          · rw [if_neg e] at h
            refine ⟨by rw [h], ?_, _, _, _, rfl⟩
            cases h1 : (decide (lo ≤ a.off) && decide (a.off < hi)) with
            | false => rfl
            | true => simp at h1; exact absurd h1 e
    | _ => simp [thw, hb] at h
theorem thw_quiet {w w' : World} (q : Quiet w w') : ∀ (a : Addr) (x : Value), (thw w).cell? a = some x → (thw w').cell? a = some x := by
  intro a x h
  have hlt : a.block < w.heap.size := by have := World.block_lt_of_cell? _ a h; simpa [thw] using this
  rw [World.cell?_of_block (thw_block (q.block a.block hlt fun e => e))]
  exact h
theorem at_unthaw {w : World} (v : V) : ∀ b off, v.at (thw w) b off → v.at w b off := by
  induction v using V.ind' with
  | h v ih =>
    intro b off h
    rw [at_iff] at h ⊢
    obtain ⟨⟨c0, c1, c9⟩, ao, cap, c2, i⟩ := h
    refine ⟨⟨(thw_cell c0 (by simp)).1, (thw_cell c1 (by simp)).1, (thw_cell c9 (by simp)).1⟩, ao, cap, (thw_cell c2 (by simp)).1, i.fit, fun j hj => ?_⟩
    obtain ⟨b', off', e, h'⟩ := i.fo j hj
    exact ⟨b', off', e, ih _ (List.getElem_mem hj) _ _ h'⟩
theorem Fo.unthaw {w : World} {l : List V} {ao : Option Addr} (h : Fo (thw w) l ao) : Fo w l ao := fun j hj => by obtain ⟨b', off', e, h'⟩ := h j hj; exact ⟨b', off', e, at_unthaw _ _ _ h'⟩
theorem Is.unthaw {w : World} {v : V} {ao : Option Addr} (h : Is (thw w) v ao) : Is w v ao := ⟨h.fit, h.fo.unthaw⟩
theorem Is.thawQ {w w' : World} {v : V} {ao : Option Addr} (h : Is (thw w) v ao) (q : Quiet w w') : Is (thw w') v ao := h.kept (thw_quiet q)
theorem Fo.thawQ {w w' : World} {l : List V} {ao : Option Addr} (h : Fo (thw w) l ao) (q : Quiet w w') : Fo (thw w') l ao := h.kept (thw_quiet q)
/-- A place that a pointer may name: none, or a cell that is not frozen. -/
def Cz (w : World) (a : Option Addr) : Prop := ∀ x, a = some x → w.frozen? x = false ∧ ∃ c t fz, w.heap[x.block]? = some (.cells c t fz)
theorem Fo.cz {w : World} {l : List V} {ao : Option Addr} (h : Fo (thw w) l ao) (hl : l ≠ []) : Cz w ao := by
  intro x hx
  have h0 : 0 < l.length := List.length_pos_iff.2 hl
  obtain ⟨b, o, e, hh, _⟩ := h.get 0 h0
  rw [e] at hx; cases hx
  have := (thw_cell hh.1 (by simp)).2
  simpa using this
/- What is handed in is such. -/
theorem Try.cellsVz : Try.prog.cellsOf 38 = 4 := by kernel_rfl
theorem Try.cellsMz : Try.prog.cellsOf 24 = 1 := by kernel_rfl
theorem Try.cellsLz : Try.prog.cellsOf 22 = 1 := by kernel_rfl
theorem Try.cellsIz : Try.prog.cellsOf 3 = 1 := by kernel_rfl
theorem Try.cellsNz : Try.prog.cellsOf 2 = 1 := by kernel_rfl
theorem take_onez {α : Type} (l : List α) (i : Nat) (a : α) (h : (l.drop i).take 1 = [a]) : l[i]? = some a := by
  have : ((l.drop i).take 1)[0]? = some a := by rw [h]; rfl
  simpa [List.getElem?_take, List.getElem?_drop] using this
theorem in_wfz {n : Int} (h : (Lit.int .i64 n).wf = true) : In64 n := by
  have h1 : IntKind.i64.min = -9223372036854775808 := by decide
  have h2 : IntKind.i64.max = 9223372036854775807 := by decide
  simp only [Lit.wf, Bool.and_eq_true, decide_eq_true_eq, h1, h2] at h
  exact h
theorem row_free {w : World} {b off n : Nat} {q : List MemPlace} (hz : w.noneFrozen (MemPlace.row ⟨b, off, none⟩ n ++ q)) (j : Nat) (hj : j < n) : w.frozen? ⟨b, off + j, none⟩ = false :=
  hz b (off + j) (List.mem_append_left _ (by simp [MemPlace.row]; exact hj))
section
variable {H : Type} {enc : TypeId × Value → H} {w : World}
/-- The elements of a list that is read. -/
theorem openRow {m len m' n' : Nat} {a : Addr} {D : Nat → DataW H} {Pl : Nat → List MemPlace} (hle : len ≤ m')
    (hx : ∀ i, i < m' → ∃ cs', w.cells? 0 (a.add (i * 4)) 4 = some cs' ∧ DataW.trod enc Try.prog w 0 (fun _ => true) true n' 38 cs' = some (D i, Pl i))
    (hz : w.noneFrozen (MemPlace.row a (m' * 4) ++ (List.range m').flatMap Pl)) (hs : ∀ i, i < len → SizeOf.sizeOf (D i) < m)
    (ih : ∀ {fuel : Nat} {cs : List Value} {x : DataW H × List MemPlace}, SizeOf.sizeOf x.1 < m → DataW.trod enc Try.prog w 0 (fun _ => true) true fuel 38 cs = some x → w.noneFrozen x.2 → ∃ (v : V) (ao : Option Addr) (cap : Nat), cs = [.int .i64 v.kind, .int .i64 v.k, .int .i64 v.n, .slice ao v.l.length cap] ∧ Is (thw w) v ao) :
    ∃ l : List V, l.length = len ∧ Fo (thw w) l (some a) := by
  have sub : ∀ i, i < m' → w.noneFrozen (Pl i) := fun i hi b off hp => hz b off (List.mem_append_right _ (List.mem_flatMap.2 ⟨i, List.mem_range.2 hi, hp⟩))
  have key : ∀ i, i < len → ∃ v : V, ∃ b off, a = ⟨b, off, none⟩ ∧ v.at (thw w) b (off + i * 4) := by
    intro i hi
    obtain ⟨cs', hc, ht⟩ := hx i (by omega)
    obtain ⟨v, ai, ci, rfl, hv⟩ := ih (x := (D i, Pl i)) (hs i hi) ht (sub i (by omega))
    obtain ⟨_, _, hcell⟩ := World.cells?_some hc
    obtain ⟨b, off, spot⟩ := a
    have c0 := hcell 0 (by decide)
    have c1 := hcell 1 (by decide)
    have c2 := hcell 2 (by decide)
    have c9 := hcell 3 (by decide)
    rw [Deep.add_add] at c0 c1 c2 c9
    have hspot : spot = none := by
      obtain ⟨cs0, hc0, ht0⟩ := hx 0 (by omega)
      obtain ⟨v0, _, _, rfl, _⟩ := ih (x := (D 0, Pl 0)) (hs 0 (by omega)) ht0 (sub 0 (by omega))
      obtain ⟨_, _, hcell0⟩ := World.cells?_some hc0
      simpa [Addr.add] using World.cell?_spot (hcell0 0 (by decide))
    subst hspot
    have f0 := row_free hz (i * 4) (by omega)
    have f1 := row_free hz (i * 4 + 1) (by omega)
    have f2 := row_free hz (i * 4 + 2) (by omega)
    have f9 := row_free hz (i * 4 + 3) (by omega)
    simp only [Addr.add_lit, List.getElem?_cons_zero, List.getElem?_cons_succ, Nat.add_zero] at c0 c1 c2 c9
    rw [← Nat.add_assoc] at f1 f2 f9
    refine ⟨v, b, off, rfl, (at_iff _ _ _ _).2 ⟨⟨thw_mk ?_ f0, thw_mk ?_ f1, thw_mk ?_ f2⟩, ai, ci, thw_mk ?_ f9, hv⟩⟩
    · simpa [Nat.add_assoc] using c0
    · simpa [Nat.add_assoc] using c1
    · simpa [Nat.add_assoc] using c2
    · simpa [Nat.add_assoc] using c9
  haveI : Inhabited V := ⟨⟨0, 0, 0, []⟩⟩
  obtain ⟨f, hF⟩ := Deep.choose_lt key
  refine ⟨(List.range len).map f, by simp, fun i hi => ?_⟩
  obtain ⟨b, off, rfl, rest⟩ := hF i (by simpa using hi)
  exact ⟨b, off, rfl, by simpa using rest⟩
theorem openVz (m : Nat) : ∀ {fuel : Nat} {cs : List Value} {x : DataW H × List MemPlace}, SizeOf.sizeOf x.1 < m → DataW.trod enc Try.prog w 0 (fun _ => true) true fuel 38 cs = some x → w.noneFrozen x.2 →
    ∃ (v : V) (ao : Option Addr) (cap : Nat), cs = [.int .i64 v.kind, .int .i64 v.k, .int .i64 v.n, .slice ao v.l.length cap] ∧ Is (thw w) v ao := by
  induction m with
  | zero => intro _ _ _ h; omega
  | succ m ih =>
    intro fuel cs x hs h hz
    obtain ⟨xs, n, hn, rfl, hl, hxl, hf⟩ := DataW.trod_struct Try.underlying38 h
    rw [Try.cellsVz] at hl
    have hx3 : xs.length = 4 := hxl
    have f0 : DataW.trod enc Try.prog w 0 (fun _ => true) true n 3 ((cs.drop 0).take (Try.prog.cellsOf 3)) = xs[0]? := hf 0 _ rfl
    have f9 : DataW.trod enc Try.prog w 0 (fun _ => true) true n 3 ((cs.drop 1).take (Try.prog.cellsOf 3)) = xs[1]? := hf 1 _ rfl
    have f1 : DataW.trod enc Try.prog w 0 (fun _ => true) true n 2 ((cs.drop 2).take (Try.prog.cellsOf 2)) = xs[2]? := hf 2 _ rfl
    have f2 : DataW.trod enc Try.prog w 0 (fun _ => true) true n 22 ((cs.drop 3).take (Try.prog.cellsOf 22)) = xs[3]? := hf 3 _ rfl
    rw [Try.cellsIz] at f0 f9
    rw [Try.cellsNz] at f1
    rw [Try.cellsLz] at f2
    rw [List.getElem?_eq_getElem (by omega)] at f0 f1 f2 f9
    obtain ⟨k, hk, _, hkw⟩ := DataW.trod_int Try.underlying3 f0
    obtain ⟨kk, hkk, _, hkkw⟩ := DataW.trod_int Try.underlying3 f9
    obtain ⟨q, hq, _, hqw⟩ := DataW.trod_int Try.underlying2 f1
    have e0 := take_onez _ _ _ hk
    have e9 := take_onez _ _ _ hkk
    have e1 := take_onez _ _ _ hq
    have hmem : xs[3].1 ∈ xs.map (·.1) := List.mem_map_of_mem (List.getElem_mem _)
    have hsz := List.sizeOf_lt_of_mem hmem
    have hs2 : SizeOf.sizeOf xs[3].1 < m := by simp only [DataW.agg.sizeOf_spec] at hs; omega
    have hz3 : w.noneFrozen xs[3].2 := fun b off hp => hz b off (List.mem_flatMap.2 ⟨xs[3], List.getElem_mem _, hp⟩)
    have fin : ∀ (l : List V) (ao : Option Addr) (cap : Nat), (cs.drop 3).take 1 = [.slice ao l.length cap] → Fo (thw w) l ao → ∃ (v : V) (ao : Option Addr) (cap : Nat), cs = [.int .i64 v.kind, .int .i64 v.k, .int .i64 v.n, .slice ao v.l.length cap] ∧ Is (thw w) v ao := by
      intro l ao cap h2 hfo
      have e2 := take_onez _ _ _ h2
      refine ⟨⟨k, kk, q, l⟩, ao, cap, ?_, ⟨in_wfz hkw, in_wfz hkkw, in_wfz hqw⟩, hfo⟩
      match cs, hl, e0, e9, e1, e2 with
      | [a0, a9, a1, a2], _, e0, e9, e1, e2 =>
        simp only [List.getElem?_cons_zero, List.getElem?_cons_succ, Option.some.injEq] at e0 e9 e1 e2
        rw [e0, e9, e1, e2]
    rcases Deep.open_slice Try.underlying22 f2 with ⟨h0, _⟩ | ⟨a, len, cap, m', n', D, Pl, h0, hb, hle, hm, hmm, hxx, hx⟩
    · exact fin [] none 0 h0 (fun i hi => by simp at hi)
    · rw [if_pos rfl] at hmm
      subst hmm
      rw [Try.cellsVz] at hx hxx
      rw [hxx] at hz3 hs2
      obtain ⟨l, rfl, hl⟩ := openRow hle hx hz3 (fun i hi => by
        have hD : D i ∈ (List.range len).map D := List.mem_map_of_mem (List.mem_range.2 hi)
        have hDs := List.sizeOf_lt_of_mem hD
        simp only [DataW.slice.sizeOf_spec] at hs2; omega) ih
      exact fin l (some a) _ (by simpa using h0) hl
theorem openLz {fuel : Nat} {cs : List Value} {x : DataW H × List MemPlace} (h : DataW.trod enc Try.prog w 0 (fun _ => true) true fuel 22 cs = some x) (hz : w.noneFrozen x.2) : ∃ (l : List V) (ao : Option Addr) (cap : Nat), cs = [.slice ao l.length cap] ∧ Fo (thw w) l ao := by
  rcases Deep.open_slice Try.underlying22 h with ⟨h0, _⟩ | ⟨a, len, cap, m', n', D, Pl, h0, hb, hle, hm, hmm, hxx, hx⟩
  · exact ⟨[], none, 0, h0, fun i hi => by simp at hi⟩
  · rw [if_pos rfl] at hmm
    subst hmm
    rw [Try.cellsVz] at hx hxx
    rw [hxx] at hz
    obtain ⟨l, rfl, hl⟩ := openRow (m := SizeOf.sizeOf ((List.range len).map D) + 1) hle hx hz (fun i hi => by
      have hD : D i ∈ (List.range len).map D := List.mem_map_of_mem (List.mem_range.2 hi)
      have hDs := List.sizeOf_lt_of_mem hD
      omega) (openVz _)
    exact ⟨l, some a, _, by simpa using h0, hl⟩
theorem openModz {x : Value} {d : DataW H} {ps : List MemPlace} (hx : ∃ xs, x = .agg xs) (h : DataW.Trod enc Try.prog w 0 (fun _ => true) true 24 x d ps) (hz : w.noneFrozen ps) : ∃ (l : List V) (ao : Option Addr) (cap : Nat), x = .agg #[.slice ao l.length cap] ∧ Fo (thw w) l ao := by
  obtain ⟨fuel, hf⟩ := h
  obtain ⟨xs, n, hn, hxx, hl, hxl, hfl⟩ := DataW.trod_struct Try.underlying24 hf
  have f0 : DataW.trod enc Try.prog w 0 (fun _ => true) true n 22 ((x.cells.toList.drop 0).take (Try.prog.cellsOf 22)) = xs[0]? := hfl 0 _ rfl
  have hx1 : xs.length = 1 := hxl
  rw [Try.cellsLz, List.getElem?_eq_getElem (by omega)] at f0
  have hz0 : w.noneFrozen xs[0].2 := fun b off hp => hz b off (by
    have : ps = xs.flatMap (·.2) := congrArg Prod.snd hxx
    rw [this]; exact List.mem_flatMap.2 ⟨xs[0], List.getElem_mem _, hp⟩)
  obtain ⟨l, ao, cap, e, hF⟩ := openLz f0 hz0
  have e0 := take_onez _ _ _ e
  obtain ⟨ys, rfl⟩ := hx
  refine ⟨l, ao, cap, ?_, hF⟩
  have hl1 : (Value.agg ys).cells.toList.length = 1 := by rw [hl]; exact Try.cellsMz
  simp only [Value.cells] at e0 hl1
  match h : ys.toList, hl1, e0 with
  | [a], _, e0 =>
    simp only [List.getElem?_cons_zero, Option.some.injEq] at e0
    rw [show ys = ys.toList.toArray by simp, h, e0]
end
end Go.Proofs.Ytjcniiojcigefad
