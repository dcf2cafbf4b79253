/- Parts. -/
import Derived.Test.YtkpckmcaeljocaaGreatUESmall
namespace Go.Proofs.YtkpckmcaeljocaaGreat.Ex
open Go.ChangeShapes Go.WideShapes Go.ChangeAt Go.RowKit
def thw (w : World) : World := { w with heap := w.heap.map fun o => match o with | .cells c t fz => .cells (c.mapIdx fun i x => if fz.1 ≤ i ∧ i < fz.2 then .tuple #[] else x) t fz | o => o }
theorem thw_block {w w' : World} {k : Nat} (h : w'.heap[k]? = w.heap[k]?) : (thw w').heap[k]? = (thw w).heap[k]? := by simp [thw, h]
theorem thw_mk {w : World} {a : Addr} {x : Value} (h : w.cell? a = some x) (hf : w.frozen? a = false) : (thw w).cell? a = some x := by
  unfold World.cell? World.frozen? at *
  cases hb : w.heap[a.block]? with
  | none => rw [hb] at h; cases h
  | some o =>
    rw [hb] at h hf
    cases o with
    | cells c t fz =>
      obtain ⟨lo, hi⟩ := fz
      simp only [thw, Array.getElem?_map, hb, Option.map_some] at h hf ⊢
      split at h
      · cases h
      · rename_i hs
        rw [if_neg hs, Array.getElem?_mapIdx, h]
        simp only [Option.map_some, Option.some.injEq]
        rw [if_neg]
        intro e
        simp [e.1, e.2] at hf
    | _ => cases h
theorem thw_cell {w : World} {a : Addr} {x : Value} (h : (thw w).cell? a = some x) (hx : x ≠ .tuple #[]) : w.cell? a = some x ∧ w.frozen? a = false ∧ ∃ c t fz, w.heap[a.block]? = some (.cells c t fz) := by
  unfold World.cell? World.frozen? at *
  cases hb : w.heap[a.block]? with
  | none => simp [thw, hb] at h
  | some o =>
    cases o with
    | cells c t fz =>
      obtain ⟨lo, hi⟩ := fz
      simp only [thw, Array.getElem?_map, hb, Option.map_some] at h ⊢
      split at h
      · cases h
      · rename_i hs
        rw [Array.getElem?_mapIdx] at h
        rw [if_neg hs]
        cases hc : c[a.off]? with
        | none => rw [hc] at h; cases h
        | some y =>
          rw [hc] at h
          simp only [Option.map_some, Option.some.injEq] at h
          by_cases e : lo ≤ a.off ∧ a.off < hi
          · rw [if_pos e] at h; exact absurd h.symm hx
          · rw [if_neg e] at h
            refine ⟨by rw [h], ?_, _, _, _, rfl⟩
            cases h1 : (decide (lo ≤ a.off) && decide (a.off < hi)) with
            | false => rfl
            | true => simp at h1; exact absurd h1 e
    | _ => simp [thw, hb] at h
theorem thw_quiet {w w' : World} (q : Quiet w w') : ∀ (a : Addr) (x : Value), (thw w).cell? a = some x → (thw w').cell? a = some x := by
  intro a x h
  have hlt : a.block < w.heap.size := by have := World.block_lt_of_cell? _ a h; simpa [thw] using this
  rw [World.cell?_of_block (thw_block (q.block a.block hlt fun e => e))]
  exact h
theorem at_unthaw {w : World} (v : V) : ∀ b off, v.at (thw w) b off → v.at w b off := by
  induction v using V.ind' with
  | h v ih =>
    intro b off h
    rw [at_iff] at h ⊢
    obtain ⟨⟨c0, c1, c9⟩, ao, cap, c2, i⟩ := h
    refine ⟨⟨(thw_cell c0 (by simp)).1, (thw_cell c1 (by simp)).1, (thw_cell c9 (by simp)).1⟩, ao, cap, (thw_cell c2 (by simp)).1, i.fit, fun j hj => ?_⟩
    obtain ⟨b', off', e, h'⟩ := i.fo j hj
    exact ⟨b', off', e, ih _ (List.getElem_mem hj) _ _ h'⟩
theorem Fo.unthaw {w : World} {l : List V} {ao : Option Addr} (h : Fo (thw w) l ao) : Fo w l ao := fun j hj => by obtain ⟨b', off', e, h'⟩ := h j hj; exact ⟨b', off', e, at_unthaw _ _ _ h'⟩
theorem Is.unthaw {w : World} {v : V} {ao : Option Addr} (h : Is (thw w) v ao) : Is w v ao := ⟨h.fit, h.fo.unthaw⟩
theorem Is.thawQ {w w' : World} {v : V} {ao : Option Addr} (h : Is (thw w) v ao) (q : Quiet w w') : Is (thw w') v ao := h.kept (thw_quiet q)
theorem Fo.thawQ {w w' : World} {l : List V} {ao : Option Addr} (h : Fo (thw w) l ao) (q : Quiet w w') : Fo (thw w') l ao := h.kept (thw_quiet q)
def Cz (w : World) (a : Option Addr) : Prop := ∀ x, a = some x → w.frozen? x = false ∧ ∃ c t fz, w.heap[x.block]? = some (.cells c t fz)
theorem Fo.cz {w : World} {l : List V} {ao : Option Addr} (h : Fo (thw w) l ao) (hl : l ≠ []) : Cz w ao := by
  intro x hx
  have h0 : 0 < l.length := List.length_pos_iff.2 hl
  obtain ⟨b, o, e, hh, _⟩ := h.get 0 h0
  rw [e] at hx; cases hx
  have := (thw_cell hh.1 (by simp)).2
  simpa using this
/- What is handed in is such. -/
theorem Tryz.cellsVz : Tryz.prog.cellsOf 105 = 4 := by kernel_rfl
theorem Tryz.cellsMz : Tryz.prog.cellsOf 45 = 1 := by kernel_rfl
theorem Tryz.cellsLz : Tryz.prog.cellsOf 43 = 1 := by kernel_rfl
theorem Tryz.cellsIz : Tryz.prog.cellsOf 3 = 1 := by kernel_rfl
theorem Tryz.cellsNz : Tryz.prog.cellsOf 2 = 1 := by kernel_rfl
theorem take_onez {α : Type} (l : List α) (i : Nat) (a : α) (h : (l.drop i).take 1 = [a]) : l[i]? = some a := by
  have : ((l.drop i).take 1)[0]? = some a := by rw [h]; rfl
  simpa [List.getElem?_take, List.getElem?_drop] using this
theorem in_wfz {n : Int} (h : (Lit.int .i64 n).wf = true) : In64 n := by
  have h1 : IntKind.i64.min = -9223372036854775808 := by decide
  have h2 : IntKind.i64.max = 9223372036854775807 := by decide
  simp only [Lit.wf, Bool.and_eq_true, decide_eq_true_eq, h1, h2] at h
  exact h
theorem row_free {w : World} {b off n : Nat} {q : List MemPlace} (hz : w.noneFrozen (MemPlace.row ⟨b, off, none⟩ n ++ q)) (j : Nat) (hj : j < n) : w.frozen? ⟨b, off + j, none⟩ = false :=
  hz b (off + j) (List.mem_append_left _ (by simp [MemPlace.row]; exact hj))
section
variable {H : Type} {enc : TypeId × Value → H} {w : World}
theorem openRow {m len m' n' : Nat} {a : Addr} {D : Nat → DataW H} {Pl : Nat → List MemPlace} (hle : len ≤ m')
    (hx : ∀ i, i < m' → ∃ cs', w.cells? 0 (a.add (i * 4)) 4 = some cs' ∧ DataW.trod enc Tryz.prog w 0 (fun _ => true) true n' 105 cs' = some (D i, Pl i))
    (hz : w.noneFrozen (MemPlace.row a (m' * 4) ++ (List.range m').flatMap Pl)) (hs : ∀ i, i < len → SizeOf.sizeOf (D i) < m)
    (ih : ∀ {fuel : Nat} {cs : List Value} {x : DataW H × List MemPlace}, SizeOf.sizeOf x.1 < m → DataW.trod enc Tryz.prog w 0 (fun _ => true) true fuel 105 cs = some x → w.noneFrozen x.2 → ∃ (v : V) (ao : Option Addr) (cap : Nat), cs = [.int .i64 v.kind, .int .i64 v.k, .int .i64 v.n, .slice ao v.l.length cap] ∧ Is (thw w) v ao) :
    ∃ l : List V, l.length = len ∧ Fo (thw w) l (some a) := by
  have sub : ∀ i, i < m' → w.noneFrozen (Pl i) := fun i hi b off hp => hz b off (List.mem_append_right _ (List.mem_flatMap.2 ⟨i, List.mem_range.2 hi, hp⟩))
  have key : ∀ i, i < len → ∃ v : V, ∃ b off, a = ⟨b, off, none⟩ ∧ v.at (thw w) b (off + i * 4) := by
    intro i hi
    obtain ⟨cs', hc, ht⟩ := hx i (by omega)
    obtain ⟨v, ai, ci, rfl, hv⟩ := ih (x := (D i, Pl i)) (hs i hi) ht (sub i (by omega))
    obtain ⟨_, _, hcell⟩ := World.cells?_some hc
    obtain ⟨b, off, spot⟩ := a
    have c0 := hcell 0 (by decide)
    have c1 := hcell 1 (by decide)
    have c2 := hcell 2 (by decide)
    have c9 := hcell 3 (by decide)
    rw [Deep.add_add] at c0 c1 c2 c9
    have hspot : spot = none := by
      obtain ⟨cs0, hc0, ht0⟩ := hx 0 (by omega)
      obtain ⟨v0, _, _, rfl, _⟩ := ih (x := (D 0, Pl 0)) (hs 0 (by omega)) ht0 (sub 0 (by omega))
      obtain ⟨_, _, hcell0⟩ := World.cells?_some hc0
      simpa [Addr.add] using World.cell?_spot (hcell0 0 (by decide))
    subst hspot
    have f0 := row_free hz (i * 4) (by omega)
    have f1 := row_free hz (i * 4 + 1) (by omega)
    have f2 := row_free hz (i * 4 + 2) (by omega)
    have f9 := row_free hz (i * 4 + 3) (by omega)
    simp only [Addr.add_lit, List.getElem?_cons_zero, List.getElem?_cons_succ, Nat.add_zero] at c0 c1 c2 c9
    rw [← Nat.add_assoc] at f1 f2 f9
    refine ⟨v, b, off, rfl, (at_iff _ _ _ _).2 ⟨⟨thw_mk ?_ f0, thw_mk ?_ f1, thw_mk ?_ f2⟩, ai, ci, thw_mk ?_ f9, hv⟩⟩
    · simpa [Nat.add_assoc] using c0
    · simpa [Nat.add_assoc] using c1
    · simpa [Nat.add_assoc] using c2
    · simpa [Nat.add_assoc] using c9
  haveI : Inhabited V := ⟨⟨0, 0, 0, []⟩⟩
  obtain ⟨f, hF⟩ := Deep.choose_lt key
  refine ⟨(List.range len).map f, by simp, fun i hi => ?_⟩
  obtain ⟨b, off, rfl, rest⟩ := hF i (by simpa using hi)
  exact ⟨b, off, rfl, by simpa using rest⟩
theorem openVz (m : Nat) : ∀ {fuel : Nat} {cs : List Value} {x : DataW H × List MemPlace}, SizeOf.sizeOf x.1 < m → DataW.trod enc Tryz.prog w 0 (fun _ => true) true fuel 105 cs = some x → w.noneFrozen x.2 →
    ∃ (v : V) (ao : Option Addr) (cap : Nat), cs = [.int .i64 v.kind, .int .i64 v.k, .int .i64 v.n, .slice ao v.l.length cap] ∧ Is (thw w) v ao := by
  induction m with
  | zero => intro _ _ _ h; omega
  | succ m ih =>
    intro fuel cs x hs h hz
    obtain ⟨xs, n, hn, rfl, hl, hxl, hf⟩ := DataW.trod_struct Tryz.underlying105 h
    rw [Tryz.cellsVz] at hl
    have hx3 : xs.length = 4 := hxl
    have f0 : DataW.trod enc Tryz.prog w 0 (fun _ => true) true n 3 ((cs.drop 0).take (Tryz.prog.cellsOf 3)) = xs[0]? := hf 0 _ rfl
    have f9 : DataW.trod enc Tryz.prog w 0 (fun _ => true) true n 3 ((cs.drop 1).take (Tryz.prog.cellsOf 3)) = xs[1]? := hf 1 _ rfl
    have f1 : DataW.trod enc Tryz.prog w 0 (fun _ => true) true n 2 ((cs.drop 2).take (Tryz.prog.cellsOf 2)) = xs[2]? := hf 2 _ rfl
    have f2 : DataW.trod enc Tryz.prog w 0 (fun _ => true) true n 43 ((cs.drop 3).take (Tryz.prog.cellsOf 43)) = xs[3]? := hf 3 _ rfl
    rw [Tryz.cellsIz] at f0 f9
    rw [Tryz.cellsNz] at f1
    rw [Tryz.cellsLz] at f2
    rw [List.getElem?_eq_getElem (by omega)] at f0 f1 f2 f9
    obtain ⟨k, hk, _, hkw⟩ := DataW.trod_int Tryz.underlying3 f0
    obtain ⟨kk, hkk, _, hkkw⟩ := DataW.trod_int Tryz.underlying3 f9
    obtain ⟨q, hq, _, hqw⟩ := DataW.trod_int Tryz.underlying2 f1
    have e0 := take_onez _ _ _ hk
    have e9 := take_onez _ _ _ hkk
    have e1 := take_onez _ _ _ hq
    have hmem : xs[3].1 ∈ xs.map (·.1) := List.mem_map_of_mem (List.getElem_mem _)
    have hsz := List.sizeOf_lt_of_mem hmem
    have hs2 : SizeOf.sizeOf xs[3].1 < m := by simp only [DataW.agg.sizeOf_spec] at hs; omega
    have hz3 : w.noneFrozen xs[3].2 := fun b off hp => hz b off (List.mem_flatMap.2 ⟨xs[3], List.getElem_mem _, hp⟩)
    have fin : ∀ (l : List V) (ao : Option Addr) (cap : Nat), (cs.drop 3).take 1 = [.slice ao l.length cap] → Fo (thw w) l ao → ∃ (v : V) (ao : Option Addr) (cap : Nat), cs = [.int .i64 v.kind, .int .i64 v.k, .int .i64 v.n, .slice ao v.l.length cap] ∧ Is (thw w) v ao := by
      intro l ao cap h2 hfo
      have e2 := take_onez _ _ _ h2
      refine ⟨⟨k, kk, q, l⟩, ao, cap, ?_, ⟨in_wfz hkw, in_wfz hkkw, in_wfz hqw⟩, hfo⟩
      match cs, hl, e0, e9, e1, e2 with
      | [a0, a9, a1, a2], _, e0, e9, e1, e2 =>
        simp only [List.getElem?_cons_zero, List.getElem?_cons_succ, Option.some.injEq] at e0 e9 e1 e2
        rw [e0, e9, e1, e2]
    rcases Deep.open_slice Tryz.underlying43 f2 with ⟨h0, _⟩ | ⟨a, len, cap, m', n', D, Pl, h0, hb, hle, hm, hmm, hxx, hx⟩
    · exact fin [] none 0 h0 (fun i hi => by simp at hi)
    · rw [if_pos rfl] at hmm
      subst hmm
      rw [Tryz.cellsVz] at hx hxx
      rw [hxx] at hz3 hs2
      obtain ⟨l, rfl, hl⟩ := openRow hle hx hz3 (fun i hi => by
        have hD : D i ∈ (List.range len).map D := List.mem_map_of_mem (List.mem_range.2 hi)
        have hDs := List.sizeOf_lt_of_mem hD
        simp only [DataW.slice.sizeOf_spec] at hs2; omega) ih
      exact fin l (some a) _ (by simpa using h0) hl
theorem openLz {fuel : Nat} {cs : List Value} {x : DataW H × List MemPlace} (h : DataW.trod enc Tryz.prog w 0 (fun _ => true) true fuel 43 cs = some x) (hz : w.noneFrozen x.2) : ∃ (l : List V) (ao : Option Addr) (cap : Nat), cs = [.slice ao l.length cap] ∧ Fo (thw w) l ao := by
  rcases Deep.open_slice Tryz.underlying43 h with ⟨h0, _⟩ | ⟨a, len, cap, m', n', D, Pl, h0, hb, hle, hm, hmm, hxx, hx⟩
  · exact ⟨[], none, 0, h0, fun i hi => by simp at hi⟩
  · rw [if_pos rfl] at hmm
    subst hmm
    rw [Tryz.cellsVz] at hx hxx
    rw [hxx] at hz
    obtain ⟨l, rfl, hl⟩ := openRow (m := SizeOf.sizeOf ((List.range len).map D) + 1) hle hx hz (fun i hi => by
      have hD : D i ∈ (List.range len).map D := List.mem_map_of_mem (List.mem_range.2 hi)
      have hDs := List.sizeOf_lt_of_mem hD
      omega) (openVz _)
    exact ⟨l, some a, _, by simpa using h0, hl⟩
end
theorem drewN_zero (w : World) : w.drewN 0 = w := rfl
theorem drewN_drewN (w : World) (a b : Nat) : (w.drewN a).drewN b = w.drewN (a + b) := by simp [World.drewN, Nat.add_assoc]
theorem drew_one (w : World) : w.drew = w.drewN 1 := rfl
theorem same_addr (P : Program) (a b : Addr) (w : World) (ha : w.frozen? a = false) (ka : ∃ c t fz, w.heap[a.block]? = some (.cells c t fz)) (kb : ∃ c t fz, w.heap[b.block]? = some (.cells c t fz)) :
    ∃ r k, (sameAddr a b).run P w = .ok r (w.drewN k) := by
  obtain ⟨c1, t1, f1, h1⟩ := ka
  obtain ⟨c2, t2, f2, h2⟩ := kb
  have s1 : w.shape? a.block = some (t1, c1.size) := by simp [World.shape?, h1]
  have s2 : w.shape? b.block = some (t2, c2.size) := by simp [World.shape?, h2]
  by_cases hbl : a.block = b.block
  · exact ⟨a == b, 0, by simp [sameAddr, hbl, drewN_zero]⟩
  · have hs : ∀ (x : Addr) (t : TypeId) (n : Nat), w.shape? x.block = some (t, n) → ∃ r, (stringish x).run P w = .ok r w := by
      intro x t n hx
      cases hf : w.frozen? x with
      | true => exact ⟨true, by simp [stringish, hf]⟩
      | false => exact ⟨_, by simp [stringish, hf, hx]; rfl⟩
    obtain ⟨r1, e1⟩ := hs a _ _ s1
    obtain ⟨r2, e2⟩ := hs b _ _ s2
    have hm : ∃ r, (mayBeOne a b).run P w = .ok r w := by
      cases r1 <;> cases r2 <;> exact ⟨_, by simp [mayBeOne, e1, e2, s1, s2]; rfl⟩
    obtain ⟨r, hm⟩ := hm
    cases r with
    | false => exact ⟨false, 0, by simp [sameAddr, hbl, ha, noView, viewAt, s1, s2, hm, drewN_zero]⟩
    | true => exact ⟨_, 1, by simp [sameAddr, hbl, ha, noView, viewAt, s1, s2, hm, drew_one, Question.forced]; rfl⟩
theorem eq_ptrz (a b : Option Addr) (d : Nat) (w : World) (ha : Cz w a) (hb : Cz w b) :
    ∃ r k, (Op.equalIn (d + 1) 207 (.pointer a) (.pointer b)).run Tryz.prog w = .ok r (w.drewN k) := by
  obtain ⟨i0, hi, _, hz1, _⟩ := info_parts Tryz.infoV
  cases a with
  | none => cases b <;> exact ⟨_, 0, by simp [Op.equalIn, run_underlying Tryz.underlying207, drewN_zero]; rfl⟩
  | some a =>
    cases b with
    | none => exact ⟨_, 0, by simp [Op.equalIn, run_underlying Tryz.underlying207, drewN_zero]; rfl⟩
    | some b =>
      obtain ⟨r, k, h⟩ := same_addr Tryz.prog a b w (ha a rfl).1 (ha a rfl).2 (hb b rfl).2
      exact ⟨r, k, by simp [Op.equalIn, run_underlying Tryz.underlying207, sizeOf, typeInfo, hi, hz1, h]⟩
theorem eq_keyz (a b : Option Addr) (n m : Int) (w : World) (ha : Cz w a) (hb : Cz w b) :
    ∃ r k, (Op.equalIn 10000 209 (.agg #[.pointer a, .int .i64 n]) (.agg #[.pointer b, .int .i64 m])).run Tryz.prog w = .ok r (w.drewN k) := by
  have hS : Tryz.prog.underlying 209 = some (.struct (Tryz.prog.fieldsOf 209)) := by kernel_rfl
  have hp : Tryz.prog.stoodInHeld 209 = false := by kernel_rfl
  obtain ⟨r, k, h1⟩ := eq_ptrz a b 9998 w ha hb
  refine ⟨r && decide (n = m), k, ?_⟩
  rw [show (10000 : Nat) = 9999 + 1 from rfl, run_equalIn_agg w 9999 209 _ _ hS hp]
  simp only [Program.fieldsOf, Tryz.underlying209]
  rw [show (9999 : Nat) = 9998 + 1 from rfl]
  cases r with
  | false => go_simp
  | true =>
    go_simp
    by_cases e2 : n = m <;> simp [e2]
def Kz (w : World) (es : List MapEntry) : Prop := ∀ e ∈ es, e.val = .agg #[] ∧ ∃ b m, e.key = .agg #[.pointer b, .int .i64 m] ∧ Cz w b
theorem Cz.drewN {w : World} {a : Option Addr} (h : Cz w a) (k : Nat) : Cz (w.drewN k) a := h
theorem Kz.drewN {w : World} {es : List MapEntry} (h : Kz w es) (k : Nat) : Kz (w.drewN k) es := h
theorem find_keyz (a : Option Addr) (n : Int) (es : List MapEntry) : ∀ (i : Nat) (w : World), Cz w a → Kz w es →
    ∃ o k, (Instr.findAsking 209 (.agg #[.pointer a, .int .i64 n]) es i).run Tryz.prog w = .ok o (w.drewN k) ∧ ∀ j v, o = some (j, v) → v = .agg #[] := by
  induction es with
  | nil => intro i w _ _; exact ⟨none, 0, by simp [Instr.findAsking, drewN_zero], fun j v h => by cases h⟩
  | cons e es ih =>
    intro i w ha hk
    obtain ⟨hv, b, m, hek, hb⟩ := hk e (by simp)
    obtain ⟨r, k, h1⟩ := eq_keyz a b n m w ha hb
    cases r with
    | true =>
      refine ⟨some (i, e.val), k, ?_, fun j v h => by cases h; exact hv⟩
      rw [Instr.findAsking, hek, Op.equal, Op.maxDepth, Sem.run_bind, h1]
      simp [Result.andThen]
    | false =>
      obtain ⟨o, k2, h3, h4⟩ := ih (i + 1) (w.drewN k) (ha.drewN k) (fun e he => (hk e (by simp [he])))
      refine ⟨o, k + k2, ?_, h4⟩
      rw [Instr.findAsking, hek, Op.equal, Op.maxDepth, Sem.run_bind, h1]
      rw [drewN_drewN] at h3
      simpa [Result.andThen] using h3
theorem look_metz (a : Option Addr) (n : Int) (w : World) (r clock : Nat) (es : Array MapEntry) (ha : Cz w a) (hb : w.heap[r]? = some (.map es clock)) (hk : Kz w es.toList) :
    ∃ b k, (Instr.lookup 204 (.map (some r)) (.agg #[.pointer a, .int .i64 n]) true).run Tryz.prog w = .ok (.tuple #[.agg #[], .bool b]) (w.drewN k) := by
  have k := key_ok es.isEmpty a n 9998 w
  have hz := fun k : Nat => Tryz.zeroValue205 (w.drewN k)
  have hf := run_findKey_eq (P := Tryz.prog) (k := 209) w (by rw [Tryz.underlying209]) (.agg #[.pointer a, .int .i64 n]) es.toList
  obtain ⟨o, kk, h1, h2⟩ := find_keyz a n es.toList 0 w ha hk
  rw [h1] at hf
  refine ⟨o.isSome, kk, ?_⟩
  unfold Instr.lookup
  simp only [Sem.run_bind, run_underlying Tryz.underlying204, MapKept.run_getObj_map hb, Result.andThen]
  rw [show (10000 : Nat) = 9998 + 1 + 1 from rfl]
  generalize (9998 + 1 + 1 : Nat) = M at *
  cases o with
  | none => simp [k, hf, hz kk, Result.andThen]
  | some x =>
    obtain ⟨j, v⟩ := x
    obtain rfl := h2 j v rfl
    simp [k, hf]
def setMap (w : World) (r : Nat) (es : Array MapEntry) (clock : Nat) : World := { w with heap := w.heap.setIfInBounds r (.map es clock) }
theorem add_metz (a : Option Addr) (n : Int) (w : World) (r clock : Nat) (es : Array MapEntry) (ha : Cz w a) (hb : w.heap[r]? = some (.map es clock)) (hk : Kz w es.toList) :
    ∃ es' clock' k, (Instr.mapUpdate 204 (.map (some r)) (.agg #[.pointer a, .int .i64 n]) (.agg #[])).run Tryz.prog w = .ok () (setMap (w.drewN k) r es' clock') ∧ ∀ e ∈ es'.toList, e.val = .agg #[] ∧ ((∃ m, e.key = .agg #[.pointer a, .int .i64 m]) ∨ ∃ e' ∈ es.toList, e.key = e'.key) := by
  have k := key_ok false a n 9998 w
  have hf := run_findKey_eq (P := Tryz.prog) (k := 209) w (by rw [Tryz.underlying209]) (.agg #[.pointer a, .int .i64 n]) es.toList
  obtain ⟨o, kk, h1, h2⟩ := find_keyz a n es.toList 0 w ha hk
  rw [h1] at hf
  have hb2 : ∀ j, (w.drewN j).heap[r]? = some (.map es clock) := fun _ => hb
  cases o with
  | none =>
    refine ⟨es.push { key := .agg #[.pointer a, .int .i64 n], val := .agg #[], born := clock }, clock + 1, kk, ?_, ?_⟩
    · unfold Instr.mapUpdate
      simp only [Sem.run_bind, run_underlying Tryz.underlying204, MapKept.run_getObj_map hb, Result.andThen]
      rw [show (10000 : Nat) = 9998 + 1 + 1 from rfl]
      generalize (9998 + 1 + 1 : Nat) = M at *
      simp [k, hf, MapKept.run_setObj_map _ (hb2 kk), setMap]
    · intro e he
      simp only [Array.toList_push, List.mem_append, List.mem_singleton] at he
      rcases he with he | rfl
      · exact ⟨(hk e he).1, .inr ⟨e, he, rfl⟩⟩
      · exact ⟨rfl, .inl ⟨n, rfl⟩⟩
  | some x =>
    obtain ⟨j, v⟩ := x
    have hkey : ∃ key k2, (Instr.keyThatStays (((es[j]?).map (·.key)).getD (.agg #[.pointer a, .int .i64 n])) (.agg #[.pointer a, .int .i64 n])).run Tryz.prog (w.drewN kk) = .ok key (w.drewN k2) ∧ (key = .agg #[.pointer a, .int .i64 n] ∨ ∃ e' ∈ es.toList, key = e'.key) := by
      have hold : (((es[j]?).map (·.key)).getD (.agg #[.pointer a, .int .i64 n])) = .agg #[.pointer a, .int .i64 n] ∨ ∃ e' ∈ es.toList, (((es[j]?).map (·.key)).getD (.agg #[.pointer a, .int .i64 n])) = e'.key := by
        cases he : es[j]? with
        | none => exact .inl rfl
        | some e' => exact .inr ⟨e', by rw [Array.mem_toList_iff]; exact Array.mem_of_getElem? he, rfl⟩
      generalize (((es[j]?).map (·.key)).getD (.agg #[.pointer a, .int .i64 n])) = old at hold
      unfold Instr.keyThatStays
      by_cases hs : Instr.sameBits 10000 old (.agg #[.pointer a, .int .i64 n]) = true
      · exact ⟨_, kk, by rw [if_pos hs]; rfl, .inl rfl⟩
      · rw [if_neg hs]
        refine ⟨_, kk + 1, by simp [Question.forced, drew_one]; rfl, ?_⟩
        split
        · exact .inl rfl
        · exact hold
    obtain ⟨key, k2, h5, h6⟩ := hkey
    refine ⟨es.modify j fun e => { e with key := key, val := .agg #[] }, clock, k2, ?_, ?_⟩
    · unfold Instr.mapUpdate
      simp only [Sem.run_bind, run_underlying Tryz.underlying204, MapKept.run_getObj_map hb, Result.andThen]
      rw [show (10000 : Nat) = 9998 + 1 + 1 from rfl]
      generalize (9998 + 1 + 1 : Nat) = M at *
      simp [k, hf, h5, MapKept.run_setObj_map _ (hb2 k2), setMap]
    · intro e he
      obtain ⟨i, hi, rfl⟩ := List.getElem_of_mem he
      simp only [Array.length_toList, Array.size_modify] at hi
      simp only [Array.getElem_toList, Array.getElem_modify]
      split
      · rcases h6 with rfl | h6
        · exact ⟨rfl, .inl ⟨n, rfl⟩⟩
        · exact ⟨rfl, .inr h6⟩
      · exact ⟨(hk es[i] (by simp)).1, .inr ⟨es[i], by simp, rfl⟩⟩
theorem setMap_quiet {w : World} {r clock k : Nat} {es : Array MapEntry} : Kp (fun i => i = r) w (setMap (w.drewN k) r es clock) :=
  ⟨rfl, rfl, rfl, by simp [setMap], fun i _ hi => by simp [setMap, Ne.symm hi]⟩
theorem setMap_at {w : World} {r clock k : Nat} {es : Array MapEntry} (hb : r < w.heap.size) : (setMap (w.drewN k) r es clock).heap[r]? = some (.map es clock) := by
  simp [setMap, hb]
set_option maxRecDepth 8000 in
set_option maxHeartbeats 2000000 in
theorem more_any (l : List V) (ao : Option Addr) (cap than : Nat) (w : World) (hF : Fo w l ao) (hS : sizes l ≤ 20000) (hth : than ≤ 67108864) :
    Calls Tryz.prog 119 #[.slice ao l.length cap, .int .i64 than, .func (.func 118) #[] #[]] w fun e w' => e = .returned (.bool (decide (than < sizes l))) ∧ Quiet w w' := by
  obtain ⟨i0, hi, hz0, hz1, hz2⟩ := info_parts Tryz.infoL
  have hroot := hid hF
  have hll := sizes_len l
  have hlen5 : l.length ≤ 20000 := by omega
  have hrow := hid (row_one w 43 (slv (l, ao, cap)))
  clear hF
  go_enter Tryz.func119, Tryz.ntmps119
  go_wp2
  go_loopg [7, 8] (1 + sizes l) (fun gk p sv wr => ∃ (P : Nat) (ts : List Pl), p = .int .i64 P ∧ wr.ownsRow w.heap.size 43 1 sv ts.length (ts.map slv) ∧ Lie w ts ∧ tsz ts = gk ∧ gk ≤ 1 + sizes l ∧ P + trs ts = sizes l ∧ Below w.heap.size w wr)
  case atStart =>
    refine ⟨l.length, [(l, ao, cap)], rfl, hrow.out, ?_, tsz_one _, Nat.le_refl _, by rw [trs_one]; simp only; omega, (Below.refl _ _).alloc (Nat.le_refl _) _⟩
    intro x hx; simp at hx; subst hx; exact hroot.out
  case round =>
    obtain ⟨P, ts, rfl, hr, hL, hsz, hle, hP, hB⟩ := hrel
    have hsB := hB.size
    by_cases hbig : than < P
    · have hE := hid (show decide (than < sizes l) = true by simp; omega)
      have hd : decide ((P : Int) ≤ (than : Int)) = false := by simp; omega
      have hd2 : ¬ (P : Int) ≤ (than : Int) := by omega
      have hP5 : P ≤ 20000 := by omega
      clear hsz hP
      go_wp2
      go_ret
      exact ⟨by rw [hE.out]; simp, quiet_of hB⟩
    · have hd2 : (P : Int) ≤ (than : Int) := by omega
      rcases List.eq_nil_or_concat ts with rfl | ⟨ts, ⟨u, ua, uc⟩, rfl⟩
      · obtain ⟨av, cv, rfl⟩ := owns_shape hr
        have hE := hid (show decide (than < sizes l) = false by simp [trs_nil] at hP; simp; omega)
        have hP5 : P ≤ 20000 := by omega
        clear hsz hP
        go_wp2
        go_ret
        exact ⟨by rw [hE.out]; simp, quiet_of hB⟩
      · rw [List.concat_eq_append] at hr hL hsz hP
        rw [List.map_append, List.map_cons, List.map_nil, List.length_append, List.length_cons, List.length_nil, Nat.zero_add] at hr
        obtain ⟨g, cp, hv⟩ := lies_shape hr (by omega)
        subst hv
        obtain ⟨hr', hc'⟩ := owns_pop hr rfl
        have hc := hc' 0 (by decide)
        simp only [Nat.mul_one, Nat.add_zero, List.getElem?_cons_zero, slv] at hc
        have hu := hL (u, ua, uc) (by simp)
        simp only at hu
        have hL' : Lie w ts := fun x hx => hL x (by simp [hx])
        rw [tsz_app, tsz_one] at hsz
        rw [trs_app, trs_one] at hP
        simp only at hsz hP
        have htl := tsz_len ts
        have hul := sizes_len u
        have hcp := owns_cap hr
        have hul5 : u.length ≤ 20000 := by omega
        have htl5 : ts.length ≤ 20000 := by omega
        have hP5 : P ≤ 20000 := by omega
        have HL := hid hL'
        have HU := hid hu
        have HX := hid (And.intro hsz hP)
        clear hc' hr hL hL' hu hsz hP
        go_wp2
        go_loopw [7, 8, 38] (fun p sv i w2 => ∃ (j Q : Nat) (ks : List Pl), j ≤ u.length ∧ i = .int .i64 j ∧ p = .int .i64 (P + Q : Nat) ∧ w2.ownsRow w.heap.size 43 1 sv (ts ++ ks).length ((ts ++ ks).map slv) ∧ Lie w ks ∧ (Q + trs ks + j = sizes (u.take j) ∧ tsz ks ≤ sizes (u.take j) ∧ ks.length ≤ j) ∧ Below w.heap.size w w2) (fun _ _ i _ => u.length - (intOf i).toNat)
        case atStart => exact ⟨0, 0, [], Nat.zero_le _, rfl, rfl, by simpa using hr', fun x hx => by simp at hx, ⟨by simp [trs_nil, sizes_nil], by simp [tsz_nil], Nat.le_refl _⟩, hB⟩
        case round =>
          obtain ⟨j, Q, ks, hj, rfl, rfl, hrk, hLk, hks, hBk⟩ := hrel
          have htt := sizes_take_le u j
          have hlen6 : (ts ++ ks).length ≤ 40000 := by have := HX.out; simp only [List.length_append]; omega
          have hQ5 : Q ≤ 20000 := by have := HX.out; omega
          obtain ⟨nk, hnk⟩ : ∃ nk, nk = (ts ++ ks).length := ⟨_, rfl⟩
          rw [← hnk] at hrk hlen6
          have HNK := hid hnk
          clear hnk
          obtain ⟨av, cv, hsv⟩ := owns_shape hrk
          by_cases hlt : j < u.length
          · obtain ⟨bb, oo, rfl, dh, ca, cc, ds, hci⟩ := HU.out.get j hlt
            have hbb := World.block_lt_of_cell? w _ ds
            obtain ⟨d0, d9, d1⟩ := head_kept (low_kept hBk) dh
            have dsk := low_cell hBk ds hbb
            have hnx := sizes_take u j hlt
            generalize hcu : u[j] = c at *
            have HC := hid hci.fo
            have HN := hid (And.intro hnx (size_eq c))
            have HK := hid hks
            have hcl5 : c.l.length ≤ 20000 := by have := sizes_len c.l; have := size_eq c; have := sizes_take_le u (j + 1); have := HX.out; omega
            clear hcu hnx hks dh ds hci
            by_cases hcl : c.l.length = 0
            · subst hsv
              have hcl' : ¬ (0 : Int) < (c.l.length : Int) := by omega
              have HCL := hid hcl
              clear hcl
              go_wp2_with (go_at_call 118; refine (inside_any c ca cc _).mono ?_; rintro e w3 ⟨rfl, q3⟩)
              refine ⟨⟨j + 1, Q, ks, by omega, by go_num, by go_num, HNK.out ▸ (q3.row (hrk.alloc _) fun _ _ e => e), hLk, ?_, low_of (hBk.alloc hBk.size _) q3 (by have := hBk.size; simp; omega)⟩, by simp [intOf]; omega⟩
              have h0 : c.l = [] := List.eq_nil_of_length_eq_zero HCL.out
              have h1 := HN.out; have h2 := HK.out
              rw [h0, sizes_nil] at h1; exact ⟨by omega, by omega, by omega⟩
            · have hcl' : (0 : Int) < (c.l.length : Int) := by omega
              have HR := hid hrk
              subst hsv
              have hsk := hBk.size
              go_wp2_with (first
                | (at_builtin; refine wpList_append_lies _ rfl (.tmp 52) (.tmp 54) 203 rfl w.heap.size 43 i0 _ 1 24 Tryz.undL hi hz0 hz1 hz2 rfl (by decide) _ nk ((ts ++ ks).map slv) rfl (hr3.alloc _) ⟨w3.heap.size, 0, none⟩ 1 1 [slv (c.l, ca, cc)] rfl rfl (news_at w3 _ 43) (by simp [Value.oneCell', slv]) (by decide) (by unfold maxLen; omega) (by omega) (by simp; omega) _ rfl ?_; intro g2 cap2 w1 hr1 hg1 hat hlt1; have hS := hid (push_row (x := (c.l, ca, cc)) hB3 (by omega) hr3 HNK.out hr1 hg1); clear hr1 hg1 hat hlt1)
                | (go_at_call 118; refine (inside_any c ca cc _).mono ?_; rintro e w3 ⟨rfl, q3⟩; have hr3 := q3.row (HR.out.alloc _) (fun _ _ e => e); have hB3 := low_of (hBk.alloc hBk.size _) q3 (by simp; omega); have hs3 := hB3.size))
              refine ⟨⟨j + 1, Q + c.l.length, ks ++ [(c.l, ca, cc)], by omega, by go_num, by go_num, ?_, hLk.app ?_, ?_, hS.out.2⟩, by simp [intOf]; omega⟩
              · rw [← List.append_assoc]; exact hS.out.1
              · intro x hx; simp at hx; subst hx; exact HC.out
              · have h1 := HN.out; have h2 := HK.out; have h3 := sizes_len c.l
                rw [trs_app, trs_one, tsz_app, tsz_one, List.length_append]; simp only [List.length_cons, List.length_nil]; exact ⟨by omega, by omega, by omega⟩
          · have hjl : j = u.length := by omega
            subst hjl
            have HK := hid hks
            clear hks
            subst hsv
            go_wp2
            go_roundg (tsz (ts ++ ks))
            case measure =>
              have h2 := HK.out; have h3 := HX.out
              rw [List.take_length] at h2; rw [tsz_app]; omega
            case rel =>
              refine ⟨P + Q, ts ++ ks, by go_num, HNK.out ▸ hrk, HL.out.app hLk, rfl, ?_, ?_, hBk⟩
              · have h2 := HK.out; have h3 := HX.out
                rw [List.take_length] at h2; rw [tsz_app]; omega
              · have h2 := HK.out; have h3 := HX.out
                rw [List.take_length] at h2; rw [trs_app]; omega
theorem head_fun {w : World} {v u : V} {b off : Nat} (h : v.head w b off) (h' : u.head w b off) : v.kind = u.kind ∧ v.k = u.k ∧ v.n = u.n := by
  obtain ⟨a1, a2, a3⟩ := h; obtain ⟨b1, b2, b3⟩ := h'
  rw [a1] at b1; rw [a2] at b2; rw [a3] at b3
  simp only [Option.some.injEq, Value.int.injEq, true_and] at b1 b2 b3
  exact ⟨b1, b2, b3⟩
theorem at_fun {w : World} (v : V) : ∀ (u : V) (b off : Nat), v.at w b off → u.at w b off → v = u := by
  induction v using V.ind' with
  | h v ih =>
    intro u b off hv hu
    rw [at_iff] at hv hu
    obtain ⟨c0, ao, cap, c2, hI⟩ := hv
    obtain ⟨d0, ao', cap', d2, hU⟩ := hu
    rw [c2] at d2
    simp only [Option.some.injEq, Value.slice.injEq] at d2
    obtain ⟨rfl, hlen, _⟩ := d2
    rw [v_ext]
    refine ⟨head_fun c0 d0, ?_⟩
    refine List.ext_getElem hlen fun i h1 h2 => ?_
    obtain ⟨b1, o1, e1, k1⟩ := hI.fo i h1
    obtain ⟨b2, o2, e2, k2⟩ := hU.fo i h2
    rw [e1] at e2; cases e2
    exact ih _ (List.getElem_mem h1) _ _ _ k1 k2
def mx (ls : List Pl) : Nat := ls.foldr (fun x m => max (deeps x.1) m) 0
theorem mx_nil : mx [] = 0 := rfl
theorem mx_app (a b : List Pl) : mx (a ++ b) = max (mx a) (mx b) := by
  induction a with
  | nil => simp [mx]
  | cons x a ih => simp only [mx, List.cons_append, List.foldr_cons] at ih ⊢; rw [ih]; omega
theorem mx_one (x : Pl) : mx [x] = deeps x.1 := by simp [mx]
theorem mx_mem {ls : List Pl} {x : Pl} (h : x ∈ ls) : deeps x.1 ≤ mx ls := by
  induction ls with
  | nil => simp at h
  | cons y ls ih =>
    simp only [mx, List.foldr_cons] at ih ⊢
    rcases List.mem_cons.1 h with rfl | h
    · omega
    · have := ih h; omega
theorem mx_take (ls : List Pl) (j : Nat) (h : j < ls.length) : mx (ls.take (j + 1)) = max (mx (ls.take j)) (deeps ls[j].1) := by
  rw [List.take_add_one, mx_app, List.getElem?_eq_getElem h]; simp [mx]
def ssz (ts : List Pl) : Nat := (ts.map fun x => sizes x.1).sum
theorem ssz_app (a b : List Pl) : ssz (a ++ b) = ssz a + ssz b := by simp [ssz]
theorem ssz_one (x : Pl) : ssz [x] = sizes x.1 := by simp [ssz]
theorem ssz_take (ls : List Pl) (j : Nat) (h : j < ls.length) : ssz (ls.take (j + 1)) = ssz (ls.take j) + sizes ls[j].1 := by
  rw [List.take_add_one, ssz_app, List.getElem?_eq_getElem h]; simp [ssz]
theorem ssz_take_le (ls : List Pl) (j : Nat) : ssz (ls.take j) ≤ ssz ls := by
  have h : ssz ls = ssz (ls.take j ++ ls.drop j) := by rw [List.take_append_drop]
  rw [h, ssz_app]; omega
theorem ssz_len {ts : List Pl} (h : ∀ x ∈ ts, x.1 ≠ []) : ts.length ≤ ssz ts := by
  induction ts with
  | nil => simp [ssz]
  | cons x ts ih =>
    have h1 := ih fun y hy => h y (by simp [hy])
    have h2 : 1 ≤ sizes x.1 := by have := sizes_len x.1; have := List.length_pos_iff.2 (h x (by simp)); omega
    simp [ssz] at h1 ⊢; omega
def LieC (w : World) (ts : List Pl) : Prop := ∀ x ∈ ts, Fo (cln w) x.1 x.2.1
def kv (x : Pl) : Value := .agg #[.pointer x.2.1, .int .i64 x.1.length]
structure DS (W Wr : World) (bl : Value) (ks : List Pl) (es : Array MapEntry) (clock : Nat) (w : World) : Prop where
  row : w.ownsRow (Wr.heap.size + 1) 43 1 bl ks.length (ks.map slv)
  lie : LieC W ks
  ne : ∀ x ∈ ks, x.1 ≠ []
  map : w.heap[Wr.heap.size]? = some (.map es clock)
  keys : ∀ e ∈ es.toList, e.val = .agg #[] ∧ ∃ x ∈ ks, e.key = kv x
  low : Below Wr.heap.size Wr w
theorem cp_of {W w : World} {B : Nat} {x : Pl} (hl : Fo (cln W) x.1 x.2.1) (hn : x.1 ≠ []) (hB : Below B W w) (hW : W.heap.size ≤ B) : Cp w x.2.1 := by
  intro a ha
  have h0 : 0 < x.1.length := List.length_pos_iff.2 hn
  obtain ⟨b, o, e, _⟩ := hl.get 0 h0
  rw [e] at ha hl; cases ha
  obtain ⟨c, t, hc⟩ := hl.clean hn
  exact ⟨c, t, (hB.block b (by have := lt_of_block hc; omega)).trans hc⟩
theorem DS.ks {W Wr w : World} {bl : Value} {ks : List Pl} {es : Array MapEntry} {clock : Nat} (H : DS W Wr bl ks es clock w) (hW : Below W.heap.size W Wr) : Ks w es.toList := by
  intro e he
  obtain ⟨hv, x, hx, hk⟩ := H.keys e he
  exact ⟨hv, _, _, hk, cp_of (H.lie x hx) (H.ne x hx) (hW.trans (H.low.mono hW.size)) (Nat.le_refl _)⟩
theorem DS.quiet {W Wr w w' : World} {bl : Value} {ks : List Pl} {es : Array MapEntry} {clock : Nat} (H : DS W Wr bl ks es clock w) (q : Quiet w w') : DS W Wr bl ks es clock w' :=
  ⟨q.row H.row fun _ _ e => e, H.lie, H.ne, (q.block _ (lt_of_block H.map) fun e => e).trans H.map, H.keys, H.low.trans (q.below (by have := lt_of_block H.map; omega) fun _ e => e.elim)⟩
theorem DS.met {W Wr w : World} {bl : Value} {ks : List Pl} {es : Array MapEntry} {clock : Nat} {x : Pl} (H : DS W Wr bl ks es clock w) (hx : Fo (cln W) x.1 x.2.1) (h : hasKey es.toList x.2.1 x.1.length = true) : deeps x.1 ≤ mx ks := by
  obtain ⟨e, he, hk⟩ := List.any_eq_true.1 h
  obtain ⟨_, y, hy, hek⟩ := H.keys e he
  rw [isKey_at hek] at hk
  simp only [Bool.and_eq_true, decide_eq_true_eq] at hk
  obtain ⟨h1, h2⟩ := hk
  have h2 : x.1.length = y.1.length := by omega
  have hl : x.1 = y.1 := by
    refine List.ext_getElem h2 fun i i1 i2 => ?_
    obtain ⟨b1, o1, e1, k1⟩ := hx i i1
    obtain ⟨b2, o2, e2, k2⟩ := H.lie y hy i i2
    rw [h1, e2] at e1; cases e1
    exact at_fun _ _ _ _ k1 k2
  rw [hl]; exact mx_mem hy
theorem DS.noNil {W Wr w : World} {bl : Value} {ks : List Pl} {es : Array MapEntry} {clock : Nat} (H : DS W Wr bl ks es clock w) : hasKey es.toList none 0 = false := by
  cases h : hasKey es.toList none 0 with
  | false => rfl
  | true =>
    obtain ⟨e, he, hk⟩ := List.any_eq_true.1 h
    obtain ⟨_, y, hy, hek⟩ := H.keys e he
    rw [isKey_at hek] at hk
    simp only [Bool.and_eq_true, decide_eq_true_eq] at hk
    obtain ⟨_, h2⟩ := hk
    exact absurd (List.length_eq_zero_iff.1 (by omega)) (H.ne y hy)
theorem DS.push {W Wr w w5 w1 : World} {bl : Value} {ks : List Pl} {es : Array MapEntry} {clock : Nat} {x : Pl} {g cap n : Nat} {o : Obj} (H : DS W Wr bl ks es clock w) (q : Quiet w w5) (hx : Fo (cln W) x.1 x.2.1) (hne : x.1 ≠ []) (hn : n = ks.length)
    (hr1 : w1.ownsRow (Wr.heap.size + 1) 43 1 (.slice (some ⟨g, 0, none⟩) (n + 1) cap) (n + 1) (ks.map slv ++ [slv x])) (hg : ((addKey w5 Wr.heap.size es clock x.2.1 x.1.length).alloc o).grownBy w1 bl.ownBlock) :
    DS W Wr (.slice (some ⟨g, 0, none⟩) (n + 1) cap) (ks ++ [x]) (es.push { key := kv x, val := .agg #[], born := clock }) (clock + 1) w1 := by
  subst hn
  have H5 := H.quiet q
  have hz5 : (addKey w5 Wr.heap.size es clock x.2.1 x.1.length).heap.size = w5.heap.size := by simp [addKey]
  have hlt := lt_of_block H5.map
  refine ⟨by simpa using hr1, fun y hy => ?_, fun y hy => ?_, ?_, fun e he => ?_, ?_⟩
  · rcases List.mem_append.1 hy with hy | hy
    · exact H.lie y hy
    · simp at hy; subst hy; exact hx
  · rcases List.mem_append.1 hy with hy | hy
    · exact H.ne y hy
    · simp at hy; subst hy; exact hne
  · rw [hg.block Wr.heap.size (by simp; omega) (fun e => by have := (H5.row.lt _ e.symm).1; omega), Below.heap_alloc _ _ _ (by omega)]
    exact addKey_at H5.map
  · simp only [Array.toList_push, List.mem_append, List.mem_singleton] at he
    rcases he with he | rfl
    · obtain ⟨h1, y, hy, h2⟩ := H.keys e he
      exact ⟨h1, y, by simp [hy], h2⟩
    · exact ⟨rfl, x, by simp, rfl⟩
  · refine ⟨?_, ?_, ?_, ?_, fun k hk => ?_⟩
    · exact (hg.os.trans rfl).trans H5.low.os
    · exact (hg.tape.trans rfl).trans H5.low.tape
    · exact (hg.output.trans rfl).trans H5.low.output
    · have := hg.size; have := H5.low.size; simp at *; omega
    · rw [hg.block k (by simp; omega) (fun e => by have := (H5.row.lt _ e.symm).1; omega), Below.heap_alloc _ _ _ (by omega), addKey_quiet.block k (by omega) (by omega)]
      exact H5.low.block k hk
set_option maxRecDepth 8000 in
set_option maxHeartbeats 8000000 in
theorem fault_any (v : V) (ao : Option Addr) (cap : Nat) (o F : Int) (w : World) : Calls Tryz.prog 123 #[.agg #[.int .i64 v.kind, .int .i64 v.k, .int .i64 v.n, .slice ao v.l.length cap, .int .i64 o, .int .i64 F]] w fun e w' => e = .returned (.int .i64 (fault1 F v o)) ∧ Quiet w w' := by
  have q1 : Quiet w (w.alloc (.cells #[.int .i64 v.kind, .int .i64 v.k, .int .i64 v.n, .slice ao v.l.length cap, .int .i64 o, .int .i64 F] 189)) := Kp.alloc _ _
  have HK := hid (faultK_any v ao cap o F)
  by_cases h1 : partsI v.kind < 0
  · have hE := hid (show fault1 F v o = 2 by simp [fault1, h1])
    go_enter Tryz.func123, Tryz.ntmps123
    go_wp2_with (go_at_call 140; refine (parts_any _ _).mono ?_; rintro e w2 ⟨rfl, rfl⟩)
    go_ret
    exact ⟨by rw [hE.out]; rfl, q1⟩
  by_cases h2 : ¬ (v.l.length : Int) = partsI v.kind
  · have hE := hid (show fault1 F v o = 5 by simp [fault1, h1, h2])
    have hd : decide ((v.l.length : Int) = partsI v.kind) = false := by simpa using h2
    have hd1 : ((v.l.length : Int) == partsI v.kind) = false := by simpa using h2
    have hd2 : ((v.l.length : Int) != partsI v.kind) = true := by simpa using h2
    go_enter Tryz.func123, Tryz.ntmps123
    go_wp2_with (go_at_call 140; refine (parts_any _ _).mono ?_; rintro e w2 ⟨rfl, rfl⟩)
    go_ret
    exact ⟨by rw [hE.out]; rfl, q1⟩
  have h2 : (v.l.length : Int) = partsI v.kind := Decidable.not_not.1 h2
  have g1 : decide ((v.l.length : Int) = partsI v.kind) = true := by simpa using h2
  have g2 : ((v.l.length : Int) == partsI v.kind) = true := by simpa using h2
  have g3 : ((v.l.length : Int) != partsI v.kind) = false := by simpa using h2
  have H2 := hid h2
  clear h2
  have hfl : fault1 F v o = if v.n ≠ 0 ∧ v.kind ≠ 2 then 5 else if faultK F v.kind v.k o ≠ 0 then faultK F v.kind v.k o else if v.kind = 5 ∧ 12 ≤ o then 3 else 0 := by
    unfold fault1; rw [if_neg h1, if_neg (by rw [H2.out]; simp)]
  obtain ⟨fk, hfk⟩ : ∃ fk, fk = faultK F v.kind v.k o := ⟨_, rfl⟩
  rw [← hfk] at hfl
  have hK := hid hfk.symm
  clear hfk
  have HF := hid hfl
  clear hfl
  by_cases h3 : v.n ≠ 0 ∧ v.kind ≠ 2
  · obtain ⟨h3, h4⟩ := h3
    have hE := hid (show fault1 F v o = 5 by rw [HF.out, if_pos ⟨h3, h4⟩])
    have b1 : (v.n != 0) = true := by simpa using h3
    have b2 : (v.kind != 2) = true := by simpa using h4
    go_enter Tryz.func123, Tryz.ntmps123
    go_wp2_with (go_at_call 140; refine (parts_any _ _).mono ?_; rintro e w2 ⟨rfl, rfl⟩)
    go_ret
    exact ⟨by rw [hE.out]; rfl, q1⟩
  have HF2 := hid (HF.out.trans (if_neg h3))
  clear HF
  by_cases h4 : fk = 0
  · subst h4
    by_cases h5 : v.kind = 5
    · have h6 : v.n = 0 := by
        by_cases h : v.n = 0
        · exact h
        · exact absurd ⟨h, by omega⟩ h3
      by_cases h7 : 12 ≤ o
      · have hE := hid (show fault1 F v o = 3 by rw [HF2.out]; simp [h5, h7])
        obtain ⟨kind, k, n, l⟩ := v
        simp only at h5 h6
        subst h5 h6
        clear h3
        go_enter Tryz.func123, Tryz.ntmps123
        go_wp2_with (first | (go_at_call 141; refine (HK.out _).mono ?_; rintro e w3 ⟨rfl, q3⟩; rw [hK.out]; have c0 : w3.cell? ⟨w.heap.size, 0, none⟩ = some (.int .i64 5) := q3.cell (by simp) (fun e => e); have c4 : w3.cell? ⟨w.heap.size, 4, none⟩ = some (.int .i64 o) := q3.cell (by simp) (fun e => e)) | (go_at_call 140; refine (parts_any _ _).mono ?_; rintro e w2 ⟨rfl, rfl⟩))
        go_ret
        exact ⟨by rw [hE.out] <;> rfl, q1.trans q3⟩
      · have hd : decide (12 ≤ o) = false := by simpa using h7
        have hE := hid (show fault1 F v o = 0 by rw [HF2.out]; simp [h7])
        obtain ⟨kind, k, n, l⟩ := v
        simp only at h5 h6
        subst h5 h6
        clear h3
        go_enter Tryz.func123, Tryz.ntmps123
        go_wp2_with (first | (go_at_call 141; refine (HK.out _).mono ?_; rintro e w3 ⟨rfl, q3⟩; rw [hK.out]; have c0 : w3.cell? ⟨w.heap.size, 0, none⟩ = some (.int .i64 5) := q3.cell (by simp) (fun e => e); have c4 : w3.cell? ⟨w.heap.size, 4, none⟩ = some (.int .i64 o) := q3.cell (by simp) (fun e => e)) | (go_at_call 140; refine (parts_any _ _).mono ?_; rintro e w2 ⟨rfl, rfl⟩))
        go_ret
        exact ⟨by rw [hE.out] <;> rfl, q1.trans q3⟩
    · have hE := hid (show fault1 F v o = 0 by rw [HF2.out]; simp [h5])
      have b5 : (v.kind == 5) = false := by simpa using h5
      have b6 : decide (v.kind = 5) = false := by simpa using h5
      by_cases h6 : v.n = 0
      · obtain ⟨kind, k, n, l⟩ := v
        simp only at h6 b5 b6 h5
        subst h6
        clear h3 HF2
        simp only at *
        go_enter Tryz.func123, Tryz.ntmps123
        go_wp2_with (first | (go_at_call 141; refine (HK.out _).mono ?_; rintro e w3 ⟨rfl, q3⟩; rw [hK.out]; have c0 : w3.cell? ⟨w.heap.size, 0, none⟩ = some (.int .i64 kind) := q3.cell (by simp) (fun e => e); have c4 : w3.cell? ⟨w.heap.size, 4, none⟩ = some (.int .i64 o) := q3.cell (by simp) (fun e => e)) | (go_at_call 140; refine (parts_any _ _).mono ?_; rintro e w2 ⟨rfl, rfl⟩))
        go_ret
        exact ⟨by rw [hE.out] <;> rfl, q1.trans q3⟩
      · have h8 : v.kind = 2 := by
          by_cases h : v.kind = 2
          · exact h
          · exact absurd ⟨h6, h⟩ h3
        obtain ⟨kind, k, n, l⟩ := v
        simp only at h8
        subst h8
        clear h3 h5
        have b1 : (n != 0) = true := by simpa using h6
        go_enter Tryz.func123, Tryz.ntmps123
        go_wp2_with (first | (go_at_call 141; refine (HK.out _).mono ?_; rintro e w3 ⟨rfl, q3⟩; rw [hK.out]; have c0 : w3.cell? ⟨w.heap.size, 0, none⟩ = some (.int .i64 2) := q3.cell (by simp) (fun e => e); have c4 : w3.cell? ⟨w.heap.size, 4, none⟩ = some (.int .i64 o) := q3.cell (by simp) (fun e => e)) | (go_at_call 140; refine (parts_any _ _).mono ?_; rintro e w2 ⟨rfl, rfl⟩))
        go_ret
        exact ⟨by rw [hE.out] <;> rfl, q1.trans q3⟩
  · have hE := hid (show fault1 F v o = fk by rw [HF2.out, if_pos h4])
    have b4 : (fk != 0) = true := by simpa using h4
    by_cases h6 : v.n = 0
    · obtain ⟨kind, k, n, l⟩ := v
      simp only at h6
      subst h6
      clear h3 HF2
      simp only at *
      go_enter Tryz.func123, Tryz.ntmps123
      go_wp2_with (first | (go_at_call 141; refine (HK.out _).mono ?_; rintro e w3 ⟨rfl, q3⟩; rw [hK.out]; have c0 : w3.cell? ⟨w.heap.size, 0, none⟩ = some (.int .i64 kind) := q3.cell (by simp) (fun e => e); have c4 : w3.cell? ⟨w.heap.size, 4, none⟩ = some (.int .i64 o) := q3.cell (by simp) (fun e => e)) | (go_at_call 140; refine (parts_any _ _).mono ?_; rintro e w2 ⟨rfl, rfl⟩))
      go_ret
      exact ⟨by rw [hE.out] <;> rfl, q1.trans q3⟩
    · have h8 : v.kind = 2 := by
        by_cases h : v.kind = 2
        · exact h
        · exact absurd ⟨h6, h⟩ h3
      obtain ⟨kind, k, n, l⟩ := v
      simp only at h8
      subst h8
      clear h3
      have b1 : (n != 0) = true := by simpa using h6
      go_enter Tryz.func123, Tryz.ntmps123
      go_wp2_with (first | (go_at_call 141; refine (HK.out _).mono ?_; rintro e w3 ⟨rfl, q3⟩; rw [hK.out]; have c0 : w3.cell? ⟨w.heap.size, 0, none⟩ = some (.int .i64 2) := q3.cell (by simp) (fun e => e); have c4 : w3.cell? ⟨w.heap.size, 4, none⟩ = some (.int .i64 o) := q3.cell (by simp) (fun e => e)) | (go_at_call 140; refine (parts_any _ _).mono ?_; rintro e w2 ⟨rfl, rfl⟩))
      go_ret
      exact ⟨by rw [hE.out] <;> rfl, q1.trans q3⟩
end Go.Proofs.YtkpckmcaeljocaaGreat.Ex
