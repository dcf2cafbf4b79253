/- Lists that were met, in memory whose blocks may be marked: whatever the answers are, there is one, and only draws are made. -/
import Derived.Test.YtjcniiojcigefadMet
import Derived.Test.YtjcniiojcigefadThaw
namespace Go.Proofs.Ytjcniiojcigefad
open Go.ChangeShapes Go.WideShapes Go.ChangeAt Go.RowKit
theorem drewN_zero (w : World) : w.drewN 0 = w := rfl
theorem drewN_drewN (w : World) (a b : Nat) : (w.drewN a).drewN b = w.drewN (a + b) := by simp [World.drewN, Nat.add_assoc]
theorem drew_one (w : World) : w.drew = w.drewN 1 := rfl
theorem same_addr (P : Program) (a b : Addr) (w : World) (ha : w.frozen? a = false) (ka : ∃ c t fz, w.heap[a.block]? = some (.cells c t fz)) (kb : ∃ c t fz, w.heap[b.block]? = some (.cells c t fz)) :
    ∃ r k, (sameAddr a b).run P w = .ok r (w.drewN k) := by
  obtain ⟨c1, t1, f1, h1⟩ := ka
  obtain ⟨c2, t2, f2, h2⟩ := kb
  have s1 : w.shape? a.block = some (t1, c1.size) := by simp [World.shape?, h1]
  have s2 : w.shape? b.block = some (t2, c2.size) := by simp [World.shape?, h2]
  by_cases hbl : a.block = b.block
  · exact ⟨a == b, 0, by simp [sameAddr, hbl, drewN_zero]⟩
  · have hs : ∀ (x : Addr) (t : TypeId) (n : Nat), w.shape? x.block = some (t, n) → ∃ r, (stringish x).run P w = .ok r w := by
      intro x t n hx
      cases hf : w.frozen? x with
      | true => exact ⟨true, by simp [stringish, hf]⟩
      | false => exact ⟨_, by simp [stringish, hf, hx]; rfl⟩
    obtain ⟨r1, e1⟩ := hs a _ _ s1
    obtain ⟨r2, e2⟩ := hs b _ _ s2
    have hm : ∃ r, (mayBeOne a b).run P w = .ok r w := by
      cases r1 <;> cases r2 <;> exact ⟨_, by simp [mayBeOne, e1, e2, s1, s2]; rfl⟩
    obtain ⟨r, hm⟩ := hm
    cases r with
    | false => exact ⟨false, 0, by simp [sameAddr, hbl, ha, noView, viewAt, s1, s2, hm, drewN_zero]⟩
    | true => exact ⟨_, 1, by simp [sameAddr, hbl, ha, noView, viewAt, s1, s2, hm, drew_one, Question.forced]; rfl⟩
theorem eq_ptrz (a b : Option Addr) (d : Nat) (w : World) (ha : Cz w a) (hb : Cz w b) :
    ∃ r k, (Op.equalIn (d + 1) 70 (.pointer a) (.pointer b)).run Try.prog w = .ok r (w.drewN k) := by
  obtain ⟨i0, hi, _, hz1, _⟩ := info_parts Try.infoV
  cases a with
  | none => cases b <;> exact ⟨_, 0, by simp [Op.equalIn, run_underlying Try.underlying70, drewN_zero]; rfl⟩
  | some a =>
    cases b with
    | none => exact ⟨_, 0, by simp [Op.equalIn, run_underlying Try.underlying70, drewN_zero]; rfl⟩
    | some b =>
      obtain ⟨r, k, h⟩ := same_addr Try.prog a b w (ha a rfl).1 (ha a rfl).2 (hb b rfl).2
      exact ⟨r, k, by simp [Op.equalIn, run_underlying Try.underlying70, sizeOf, typeInfo, hi, hz1, h]⟩
theorem eq_keyz (a b : Option Addr) (n m : Int) (w : World) (ha : Cz w a) (hb : Cz w b) :
    ∃ r k, (Op.equalIn 10000 72 (.agg #[.pointer a, .int .i64 n]) (.agg #[.pointer b, .int .i64 m])).run Try.prog w = .ok r (w.drewN k) := by
  have hS : Try.prog.underlying 72 = some (.struct (Try.prog.fieldsOf 72)) := by kernel_rfl
  have hp : Try.prog.stoodInHeld 72 = false := by kernel_rfl
  obtain ⟨r, k, h1⟩ := eq_ptrz a b 9998 w ha hb
  refine ⟨r && decide (n = m), k, ?_⟩
  rw [show (10000 : Nat) = 9999 + 1 from rfl, run_equalIn_agg w 9999 72 _ _ hS hp]
  simp only [Program.fieldsOf, Try.underlying72]
  rw [show (9999 : Nat) = 9998 + 1 from rfl]
  cases r with
  | false => go_simp
  | true =>
    go_simp
    by_cases e2 : n = m <;> simp [e2]
/-- The keys of a map are such. -/
def Kz (w : World) (es : List MapEntry) : Prop := ∀ e ∈ es, e.val = .agg #[] ∧ ∃ b m, e.key = .agg #[.pointer b, .int .i64 m] ∧ Cz w b
theorem Cz.drewN {w : World} {a : Option Addr} (h : Cz w a) (k : Nat) : Cz (w.drewN k) a := h
theorem Kz.drewN {w : World} {es : List MapEntry} (h : Kz w es) (k : Nat) : Kz (w.drewN k) es := h
theorem find_keyz (a : Option Addr) (n : Int) (es : List MapEntry) : ∀ (i : Nat) (w : World), Cz w a → Kz w es →
    ∃ o k, (Instr.findAsking 72 (.agg #[.pointer a, .int .i64 n]) es i).run Try.prog w = .ok o (w.drewN k) ∧ ∀ j v, o = some (j, v) → v = .agg #[] := by
  induction es with
  | nil => intro i w _ _; exact ⟨none, 0, by simp [Instr.findAsking, drewN_zero], fun j v h => by cases h⟩
  | cons e es ih =>
    intro i w ha hk
    obtain ⟨hv, b, m, hek, hb⟩ := hk e (by simp)
    obtain ⟨r, k, h1⟩ := eq_keyz a b n m w ha hb
    cases r with
    | true =>
      refine ⟨some (i, e.val), k, ?_, fun j v h => by cases h; exact hv⟩
      rw [Instr.findAsking, hek, Op.equal, Op.maxDepth, Sem.run_bind, h1]
      simp [Result.andThen]
    | false =>
      obtain ⟨o, k2, h3, h4⟩ := ih (i + 1) (w.drewN k) (ha.drewN k) (fun e he => (hk e (by simp [he])))
      refine ⟨o, k + k2, ?_, h4⟩
      rw [Instr.findAsking, hek, Op.equal, Op.maxDepth, Sem.run_bind, h1]
      rw [drewN_drewN] at h3
      simpa [Result.andThen] using h3
theorem look_metz (a : Option Addr) (n : Int) (w : World) (r clock : Nat) (es : Array MapEntry) (ha : Cz w a) (hb : w.heap[r]? = some (.map es clock)) (hk : Kz w es.toList) :
    ∃ b k, (Instr.lookup 67 (.map (some r)) (.agg #[.pointer a, .int .i64 n]) true).run Try.prog w = .ok (.tuple #[.agg #[], .bool b]) (w.drewN k) := by
  have k := key_ok es.isEmpty a n 9998 w
  have hz := fun k : Nat => Try.zeroValue68 (w.drewN k)
  have hf := run_findKey_eq (P := Try.prog) (k := 72) w (by rw [Try.underlying72]) (.agg #[.pointer a, .int .i64 n]) es.toList
  obtain ⟨o, kk, h1, h2⟩ := find_keyz a n es.toList 0 w ha hk
  rw [h1] at hf
  refine ⟨o.isSome, kk, ?_⟩
  unfold Instr.lookup
  simp only [Sem.run_bind, run_underlying Try.underlying67, MapKept.run_getObj_map hb, Result.andThen]
  rw [show (10000 : Nat) = 9998 + 1 + 1 from rfl]
  generalize (9998 + 1 + 1 : Nat) = M at *
  cases o with
  | none => simp [k, hf, hz kk, Result.andThen]
  | some x =>
    obtain ⟨j, v⟩ := x
    obtain rfl := h2 j v rfl
    simp [k, hf]
/-- The world with other keys. -/
def setMap (w : World) (r : Nat) (es : Array MapEntry) (clock : Nat) : World := { w with heap := w.heap.setIfInBounds r (.map es clock) }
theorem add_metz (a : Option Addr) (n : Int) (w : World) (r clock : Nat) (es : Array MapEntry) (ha : Cz w a) (hb : w.heap[r]? = some (.map es clock)) (hk : Kz w es.toList) :
    ∃ es' clock' k, (Instr.mapUpdate 67 (.map (some r)) (.agg #[.pointer a, .int .i64 n]) (.agg #[])).run Try.prog w = .ok () (setMap (w.drewN k) r es' clock') ∧ ∀ e ∈ es'.toList, e.val = .agg #[] ∧ ((∃ m, e.key = .agg #[.pointer a, .int .i64 m]) ∨ ∃ e' ∈ es.toList, e.key = e'.key) := by
  have k := key_ok false a n 9998 w
  have hf := run_findKey_eq (P := Try.prog) (k := 72) w (by rw [Try.underlying72]) (.agg #[.pointer a, .int .i64 n]) es.toList
  obtain ⟨o, kk, h1, h2⟩ := find_keyz a n es.toList 0 w ha hk
  rw [h1] at hf
  have hb2 : ∀ j, (w.drewN j).heap[r]? = some (.map es clock) := fun _ => hb
  cases o with
  | none =>
    refine ⟨es.push { key := .agg #[.pointer a, .int .i64 n], val := .agg #[], born := clock }, clock + 1, kk, ?_, ?_⟩
    · unfold Instr.mapUpdate
      simp only [Sem.run_bind, run_underlying Try.underlying67, MapKept.run_getObj_map hb, Result.andThen]
      rw [show (10000 : Nat) = 9998 + 1 + 1 from rfl]
      generalize (9998 + 1 + 1 : Nat) = M at *
      simp [k, hf, MapKept.run_setObj_map _ (hb2 kk), setMap]
    · intro e he
      simp only [Array.toList_push, List.mem_append, List.mem_singleton] at he
      rcases he with he | rfl
      · exact ⟨(hk e he).1, .inr ⟨e, he, rfl⟩⟩
      · exact ⟨rfl, .inl ⟨n, rfl⟩⟩
  | some x =>
    obtain ⟨j, v⟩ := x
    have hkey : ∃ key k2, (Instr.keyThatStays (((es[j]?).map (·.key)).getD (.agg #[.pointer a, .int .i64 n])) (.agg #[.pointer a, .int .i64 n])).run Try.prog (w.drewN kk) = .ok key (w.drewN k2) ∧ (key = .agg #[.pointer a, .int .i64 n] ∨ ∃ e' ∈ es.toList, key = e'.key) := by
      have hold : (((es[j]?).map (·.key)).getD (.agg #[.pointer a, .int .i64 n])) = .agg #[.pointer a, .int .i64 n] ∨ ∃ e' ∈ es.toList, (((es[j]?).map (·.key)).getD (.agg #[.pointer a, .int .i64 n])) = e'.key := by
        cases he : es[j]? with
        | none => exact .inl rfl
        | some e' => exact .inr ⟨e', by rw [Array.mem_toList_iff]; exact Array.mem_of_getElem? he, rfl⟩
      generalize (((es[j]?).map (·.key)).getD (.agg #[.pointer a, .int .i64 n])) = old at hold
      unfold Instr.keyThatStays
      by_cases hs : Instr.sameBits 10000 old (.agg #[.pointer a, .int .i64 n]) = true
      · exact ⟨_, kk, by rw [if_pos hs]; rfl, .inl rfl⟩
      · rw [if_neg hs]
        refine ⟨_, kk + 1, by simp [Question.forced, drew_one]; rfl, ?_⟩
        split
        · exact .inl rfl
        · exact hold
    obtain ⟨key, k2, h5, h6⟩ := hkey
    refine ⟨es.modify j fun e => { e with key := key, val := .agg #[] }, clock, k2, ?_, ?_⟩
    · unfold Instr.mapUpdate
      simp only [Sem.run_bind, run_underlying Try.underlying67, MapKept.run_getObj_map hb, Result.andThen]
      rw [show (10000 : Nat) = 9998 + 1 + 1 from rfl]
      generalize (9998 + 1 + 1 : Nat) = M at *
      simp [k, hf, h5, MapKept.run_setObj_map _ (hb2 k2), setMap]
    · intro e he
      obtain ⟨i, hi, rfl⟩ := List.getElem_of_mem he
      simp only [Array.length_toList, Array.size_modify] at hi
      simp only [Array.getElem_toList, Array.getElem_modify]
      split
      · rcases h6 with rfl | h6
        · exact ⟨rfl, .inl ⟨n, rfl⟩⟩
        · exact ⟨rfl, .inr h6⟩
      · exact ⟨(hk es[i] (by simp)).1, .inr ⟨es[i], by simp, rfl⟩⟩
theorem setMap_quiet {w : World} {r clock k : Nat} {es : Array MapEntry} : Kp (fun i => i = r) w (setMap (w.drewN k) r es clock) :=
  ⟨rfl, rfl, rfl, by simp [setMap], fun i _ hi => by simp [setMap, Ne.symm hi]⟩
theorem setMap_at {w : World} {r clock k : Nat} {es : Array MapEntry} (hb : r < w.heap.size) : (setMap (w.drewN k) r es clock).heap[r]? = some (.map es clock) := by
  simp [setMap, hb]
end Go.Proofs.Ytjcniiojcigefad
