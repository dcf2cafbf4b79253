/- Lists that were met: a map whose keys are lists in memory that is as it should be. -/
import Derived.Test.YtjcniiojcigefadListOf
import Derived.MapKept
import Derived.WideKeyRuns
import Derived.LaidEql
import Derived.Laws.StructEq
namespace Go.Proofs.Ytjcniiojcigefad
open Go.ChangeShapes Go.WideShapes Go.ChangeAt Go.RowKit
/-- The world with nothing but the blocks none of which is marked. -/
def cln (w : World) : World := { w with heap := w.heap.map fun o => match o with | .cells c t (0, 0) => .cells c t (0, 0) | _ => .cells #[] 0 (0, 0) }
theorem cln_size (w : World) : (cln w).heap.size = w.heap.size := by simp [cln]
theorem cln_same {w : World} {k : Nat} {c : Array Value} {t : TypeId} (h : w.heap[k]? = some (.cells c t (0, 0))) : (cln w).heap[k]? = some (.cells c t (0, 0)) := by
  simp [cln, h]
theorem cln_cell {w : World} {a : Addr} {x : Value} (h : (cln w).cell? a = some x) : w.cell? a = some x ∧ ∃ c t, w.heap[a.block]? = some (.cells c t (0, 0)) := by
  cases hb : w.heap[a.block]? with
  | none => simp [World.cell?, cln, hb] at h
  | some o =>
    by_cases ho : ∃ c t, o = .cells c t (0, 0)
    · obtain ⟨c, t, rfl⟩ := ho
      exact ⟨(World.cell?_of_block ((cln_same hb).trans hb.symm)).symm.trans h, c, t, rfl⟩
    · exfalso
      have e : (cln w).heap[a.block]? = some (.cells #[] 0 (0, 0)) := by
        simp only [cln, Array.getElem?_map, hb, Option.map_some]
        congr 1
        split
        · rename_i c t; exact absurd ⟨c, t, rfl⟩ ho
        · rfl
      simp [World.cell?, e] at h
theorem cln_quiet {w w' : World} (q : Quiet w w') : ∀ (a : Addr) (x : Value), (cln w).cell? a = some x → (cln w').cell? a = some x := by
  intro a x h
  obtain ⟨h1, c, t, h2⟩ := cln_cell h
  have h3 := (q.block a.block (lt_of_block h2) fun e => e).trans h2
  rw [World.cell?_of_block ((cln_same h3).trans h2.symm)]
  exact h1
theorem Fo.unclean {w : World} {l : List V} {ao : Option Addr} (h : Fo (cln w) l ao) : Fo w l ao := h.kept fun _ _ hc => (cln_cell hc).1
theorem Is.unclean {w : World} {v : V} {ao : Option Addr} (h : Is (cln w) v ao) : Is w v ao := h.kept fun _ _ hc => (cln_cell hc).1
/-- A list that is not empty begins in a block that is not marked. -/
theorem Fo.clean {w : World} {l : List V} {b o : Nat} (h : Fo (cln w) l (some ⟨b, o, none⟩)) (hl : l ≠ []) : ∃ c t, w.heap[b]? = some (.cells c t (0, 0)) := by
  have h0 : 0 < l.length := List.length_pos_iff.2 hl
  obtain ⟨b', o', e, hh, _⟩ := h.get 0 h0
  cases e
  exact (cln_cell hh.1).2
theorem eq_ptr (a b : Option Addr) (d : Nat) (w : World) (ha : ∀ x, a = some x → ∃ c t, w.heap[x.block]? = some (.cells c t (0, 0))) (hb : ∀ x, b = some x → ∃ c t, w.heap[x.block]? = some (.cells c t (0, 0))) :
    (Op.equalIn (d + 1) 70 (.pointer a) (.pointer b)).run Try.prog w = .ok (decide (a = b)) w := by
  obtain ⟨i0, hi, _, hz1, _⟩ := info_parts Try.infoV
  cases a with
  | none => cases b <;> simp [Op.equalIn, run_underlying Try.underlying70]
  | some a =>
    cases b with
    | none => simp [Op.equalIn, run_underlying Try.underlying70]
    | some b =>
      by_cases e : a = b
      · subst e
        simp [Op.equalIn, run_underlying Try.underlying70, sizeOf, typeInfo, hi, run_sameAddr_same]
      · obtain ⟨c1, t1, h1⟩ := ha a rfl
        obtain ⟨c2, t2, h2⟩ := hb b rfl
        simp [Op.equalIn, run_underlying Try.underlying70, sizeOf, typeInfo, hi, hz1, run_sameAddr_other w e h1 h2, e]
theorem eq_key (a b : Option Addr) (n m : Int) (w : World) (ha : ∀ x, a = some x → ∃ c t, w.heap[x.block]? = some (.cells c t (0, 0))) (hb : ∀ x, b = some x → ∃ c t, w.heap[x.block]? = some (.cells c t (0, 0))) :
    (Op.equalIn 10000 72 (.agg #[.pointer a, .int .i64 n]) (.agg #[.pointer b, .int .i64 m])).run Try.prog w = .ok (decide (a = b) && decide (n = m)) w := by
  have hS : Try.prog.underlying 72 = some (.struct (Try.prog.fieldsOf 72)) := by kernel_rfl
  have hp : Try.prog.stoodInHeld 72 = false := by kernel_rfl
  have h1 := eq_ptr a b 9998 w ha hb
  rw [show (10000 : Nat) = 9999 + 1 from rfl, run_equalIn_agg w 9999 72 _ _ hS hp]
  simp only [Program.fieldsOf, Try.underlying72]
  rw [show (9999 : Nat) = 9998 + 1 from rfl]
  go_simp
  by_cases e1 : a = b <;> by_cases e2 : n = m <;> simp [e1, e2]
/-- A place that a pointer may name: none, or a block that is not marked. -/
def Cp (w : World) (a : Option Addr) : Prop := ∀ x, a = some x → ∃ c t, w.heap[x.block]? = some (.cells c t (0, 0))
/-- The keys of a map are such. -/
def Ks (w : World) (es : List MapEntry) : Prop := ∀ e ∈ es, e.val = .agg #[] ∧ ∃ b m, e.key = .agg #[.pointer b, .int .i64 m] ∧ Cp w b
/-- Is it that key? -/
def isKey (a : Option Addr) (n : Int) (e : MapEntry) : Bool := match e.key with | .agg cs => (match cs.toList with | [.pointer b, .int .i64 m] => decide (a = b) && decide (n = m) | _ => false) | _ => false
def hasKey (es : List MapEntry) (a : Option Addr) (n : Int) : Bool := es.any (isKey a n)
theorem isKey_at {e : MapEntry} {a b : Option Addr} {n m : Int} (h : e.key = .agg #[.pointer b, .int .i64 m]) : isKey a n e = (decide (a = b) && decide (n = m)) := by simp [isKey, h]
theorem find_key (a : Option Addr) (n : Int) (w : World) (ha : Cp w a) (es : List MapEntry) : ∀ i, Ks w es →
    ∃ j, (Instr.findAsking 72 (.agg #[.pointer a, .int .i64 n]) es i).run Try.prog w = .ok (if hasKey es a n = true then some (j, .agg #[]) else none) w := by
  induction es with
  | nil => intro i _; exact ⟨0, by simp [Instr.findAsking, hasKey]⟩
  | cons e es ih =>
    intro i hk
    obtain ⟨hv, b, m, hek, hb⟩ := hk e (by simp)
    have h1 := eq_key a b n m w ha hb
    rw [← isKey_at (a := a) (n := n) hek] at h1
    cases hs : isKey a n e with
    | true =>
      refine ⟨i, ?_⟩
      rw [hs] at h1
      have h2 : hasKey (e :: es) a n = true := by simp [hasKey, hs]
      rw [Instr.findAsking, hek, Op.equal, Op.maxDepth, Sem.run_bind, h1, h2]
      simp [Result.andThen, hv]
    | false =>
      rw [hs] at h1
      have h2 : hasKey (e :: es) a n = hasKey es a n := by simp [hasKey, hs]
      obtain ⟨j, h3⟩ := ih (i + 1) (fun e he => hk e (by simp [he]))
      refine ⟨j, ?_⟩
      rw [Instr.findAsking, hek, Op.equal, Op.maxDepth, Sem.run_bind, h1, h2, ← h3]
      simp [Result.andThen]
theorem look_met (a : Option Addr) (n : Int) (w : World) (r clock : Nat) (es : Array MapEntry) (ha : Cp w a) (hb : w.heap[r]? = some (.map es clock)) (hk : Ks w es.toList) :
    (Instr.lookup 67 (.map (some r)) (.agg #[.pointer a, .int .i64 n]) true).run Try.prog w = .ok (.tuple #[.agg #[], .bool (hasKey es.toList a n)]) w ∧
      (hasKey es.toList a n = false → (Instr.findKey 72 (.agg #[.pointer a, .int .i64 n]) es.toList).run Try.prog w = .ok none w) := by
  have k := key_ok es.isEmpty a n 9998 w
  have hz := Try.zeroValue68 w
  have hf := run_findKey_eq (P := Try.prog) (k := 72) w (by rw [Try.underlying72]) (.agg #[.pointer a, .int .i64 n]) es.toList
  obtain ⟨j, h1⟩ := find_key a n w ha es.toList 0 hk
  rw [h1] at hf
  cases hh : hasKey es.toList a n with
  | false =>
    rw [hh] at hf
    refine ⟨?_, fun _ => hf⟩
    unfold Instr.lookup
    simp only [Sem.run_bind, run_underlying Try.underlying67, MapKept.run_getObj_map hb, Result.andThen]
    rw [show (10000 : Nat) = 9998 + 1 + 1 from rfl]
    generalize (9998 + 1 + 1 : Nat) = M at *
    simp [k, hf, hz, Result.andThen]
  | true =>
    rw [hh] at hf
    refine ⟨?_, fun h => by simp at h⟩
    unfold Instr.lookup
    simp only [Sem.run_bind, run_underlying Try.underlying67, MapKept.run_getObj_map hb, Result.andThen]
    rw [show (10000 : Nat) = 9998 + 1 + 1 from rfl]
    generalize (9998 + 1 + 1 : Nat) = M at *
    simp [k, hf]
/-- The world with one key more. -/
def addKey (w : World) (r : Nat) (es : Array MapEntry) (clock : Nat) (a : Option Addr) (n : Int) : World := { w with heap := w.heap.setIfInBounds r (.map (es.push { key := .agg #[.pointer a, .int .i64 n], val := .agg #[], born := clock }) (clock + 1)) }
theorem add_met (a : Option Addr) (n : Int) (w : World) (r clock : Nat) (es : Array MapEntry) (hb : w.heap[r]? = some (.map es clock)) (hf : (Instr.findKey 72 (.agg #[.pointer a, .int .i64 n]) es.toList).run Try.prog w = .ok none w) :
    (Instr.mapUpdate 67 (.map (some r)) (.agg #[.pointer a, .int .i64 n]) (.agg #[])).run Try.prog w = .ok () (addKey w r es clock a n) := by
  have k := key_ok false a n 9998 w
  unfold Instr.mapUpdate
  simp only [Sem.run_bind, run_underlying Try.underlying67, MapKept.run_getObj_map hb, Result.andThen]
  rw [show (10000 : Nat) = 9998 + 1 + 1 from rfl]
  generalize (9998 + 1 + 1 : Nat) = M at *
  simp [k, hf, MapKept.run_setObj_map _ hb, addKey]
theorem addKey_quiet {w : World} {r clock : Nat} {es : Array MapEntry} {a : Option Addr} {n : Int} : Kp (fun k => k = r) w (addKey w r es clock a n) :=
  ⟨rfl, rfl, rfl, by simp [addKey], fun k _ hk => by simp [addKey, Ne.symm hk]⟩
theorem addKey_at {w : World} {r clock : Nat} {es : Array MapEntry} {a : Option Addr} {n : Int} (hb : w.heap[r]? = some (.map es clock)) : (addKey w r es clock a n).heap[r]? = some (.map (es.push { key := .agg #[.pointer a, .int .i64 n], val := .agg #[], born := clock }) (clock + 1)) := by
  have := lt_of_block hb
  simp [addKey, this]
end Go.Proofs.Ytjcniiojcigefad
