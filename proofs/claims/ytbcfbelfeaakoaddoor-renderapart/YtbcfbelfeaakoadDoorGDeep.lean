/- The contract of listOf; a nil map asked for such a key. Lists that were met: a map whose keys are lists in memory that is as it should be. What one place holds is one thing. The contract of IsDeeper: level by level, in memory that is not marked. -/
import Derived.Test.YtbcfbelfeaakoadDoorGBase
import Derived.Laws.ResultCell
import Derived.MapKept
import Derived.WideKeyRuns
import Derived.LaidEql
import Derived.Laws.StructEq
import Derived.Test.YtbcfbelfeaakoadDoorMore
namespace Go.Proofs.YtbcfbelfeaakoadDoor
open Go.ChangeShapes Go.WideShapes Go.ChangeAt Go.RowKit
/-- A key: where a list begins, how long it is. -/
def keyOf (a : Option Addr) (n : Nat) : Value := .agg #[.pointer (if n = 0 then none else a), .int .i64 n]
set_option maxRecDepth 8000 in
set_option maxHeartbeats 1000000 in
theorem listOf_any (a : Option Addr) (n cap : Nat) (w : World) (ha : 0 < n → ∃ b o, a = some ⟨b, o, none⟩) :
    Calls Tryd.prog 75 #[.slice a n cap] w fun e w' => e = .returned (keyOf a n) ∧ Quiet w w' := by
  by_cases hn : n = 0
  · subst hn
    go_enter Tryd.func75, Tryd.ntmps75
    go_wp2
    refine bodyPost_ret (v := .agg #[.pointer none, .int .i64 0]) (by simp [results, Tryd.results75, go_sem]) rfl ?_
    exact ⟨rfl, Kp.alloc _ _⟩
  · obtain ⟨b, o, rfl⟩ := ha (by omega)
    have hn1 : ¬ (n : Int) = 0 := by omega
    have hn2 : (0 : Int) < (n : Int) := by omega
    have hE := hid (show keyOf (some ⟨b, o, none⟩) n = .agg #[.pointer (some ⟨b, o, none⟩), .int .i64 n] by simp [keyOf, hn])
    clear hn
    go_enter Tryd.func75, Tryd.ntmps75
    go_wp2
    refine bodyPost_ret (v := .agg #[.pointer (some ⟨b, o, none⟩), .int .i64 n]) (by simp [results, Tryd.results75, go_sem]) rfl ?_
    exact ⟨by rw [hE.out], Kp.alloc _ _⟩
theorem part0 (p : Option Addr) (n : Int) (w : World) : (part 111 #[.pointer p, .int .i64 n] 0).run Tryd.prog w = .ok (.pointer p) w := by
  simp [go_sem, part]
theorem part1 (p : Option Addr) (n : Int) (w : World) : (part 3 #[.pointer p, .int .i64 n] 1).run Tryd.prog w = .ok (.int .i64 n) w := by
  simp [go_sem, part]
theorem key_p (e : Bool) (p : Option Addr) (m : Nat) (w : World) : (Instr.checkKey e (m + 1) 111 (.pointer p)).run Tryd.prog w = .ok () w := by
  simp [Instr.checkKey, run_underlying Tryd.underlying111, go_sem]
theorem key_i (e : Bool) (n : Int) (m : Nat) (w : World) : (Instr.checkKey e (m + 1) 3 (.int .i64 n)).run Tryd.prog w = .ok () w := by
  simp [Instr.checkKey, run_underlying Tryd.underlying3, go_sem]
theorem key_ok (e : Bool) (p : Option Addr) (n : Int) (m : Nat) (w : World) : (Instr.checkKey e (m + 1 + 1) 113 (.agg #[.pointer p, .int .i64 n])).run Tryd.prog w = .ok () w := by
  rw [Instr.checkKey]
  simp [run_underlying Tryd.underlying113, part0, part1, key_p, key_i, Result.andThen]
end Go.Proofs.YtbcfbelfeaakoadDoor
namespace Go.Proofs.YtbcfbelfeaakoadDoor
open Go.ChangeShapes Go.WideShapes Go.ChangeAt Go.RowKit
/-- The world with nothing but the blocks none of which is marked. -/
def cln (w : World) : World := { w with heap := w.heap.map fun o => match o with | .cells c t (0, 0) => .cells c t (0, 0) | _ => .cells #[] 0 (0, 0) }
theorem cln_size (w : World) : (cln w).heap.size = w.heap.size := by simp [cln]
theorem cln_same {w : World} {k : Nat} {c : Array Value} {t : TypeId} (h : w.heap[k]? = some (.cells c t (0, 0))) : (cln w).heap[k]? = some (.cells c t (0, 0)) := by
  simp [cln, h]
theorem cln_cell {w : World} {a : Addr} {x : Value} (h : (cln w).cell? a = some x) : w.cell? a = some x ∧ ∃ c t, w.heap[a.block]? = some (.cells c t (0, 0)) := by
  cases hb : w.heap[a.block]? with
  | none => simp [World.cell?, cln, hb] at h
  | some o =>
    by_cases ho : ∃ c t, o = .cells c t (0, 0)
    · obtain ⟨c, t, rfl⟩ := ho
      exact ⟨(World.cell?_of_block ((cln_same hb).trans hb.symm)).symm.trans h, c, t, rfl⟩
    · exfalso
      have e : (cln w).heap[a.block]? = some (.cells #[] 0 (0, 0)) := by
        simp only [cln, Array.getElem?_map, hb, Option.map_some]
        congr 1
        split
        · rename_i c t; exact absurd ⟨c, t, rfl⟩ ho
        · rfl
      simp [World.cell?, e] at h
theorem cln_quiet {w w' : World} (q : Quiet w w') : ∀ (a : Addr) (x : Value), (cln w).cell? a = some x → (cln w').cell? a = some x := by
  intro a x h
  obtain ⟨h1, c, t, h2⟩ := cln_cell h
  have h3 := (q.block a.block (lt_of_block h2) fun e => e).trans h2
  rw [World.cell?_of_block ((cln_same h3).trans h2.symm)]
  exact h1
theorem Fo.unclean {w : World} {l : List V} {ao : Option Addr} (h : Fo (cln w) l ao) : Fo w l ao := h.kept fun _ _ hc => (cln_cell hc).1
theorem Is.unclean {w : World} {v : V} {ao : Option Addr} (h : Is (cln w) v ao) : Is w v ao := h.kept fun _ _ hc => (cln_cell hc).1
/-- A list that is not empty begins in a block that is not marked. -/
theorem Fo.clean {w : World} {l : List V} {b o : Nat} (h : Fo (cln w) l (some ⟨b, o, none⟩)) (hl : l ≠ []) : ∃ c t, w.heap[b]? = some (.cells c t (0, 0)) := by
  have h0 : 0 < l.length := List.length_pos_iff.2 hl
  obtain ⟨b', o', e, hh, _⟩ := h.get 0 h0
  cases e
  exact (cln_cell hh.1).2
theorem eq_ptr (a b : Option Addr) (d : Nat) (w : World) (ha : ∀ x, a = some x → ∃ c t, w.heap[x.block]? = some (.cells c t (0, 0))) (hb : ∀ x, b = some x → ∃ c t, w.heap[x.block]? = some (.cells c t (0, 0))) :
    (Op.equalIn (d + 1) 111 (.pointer a) (.pointer b)).run Tryd.prog w = .ok (decide (a = b)) w := by
  obtain ⟨i0, hi, _, hz1, _⟩ := info_parts Tryd.infoV
  cases a with
  | none => cases b <;> simp [Op.equalIn, run_underlying Tryd.underlying111]
  | some a =>
    cases b with
    | none => simp [Op.equalIn, run_underlying Tryd.underlying111]
    | some b =>
      by_cases e : a = b
      · subst e
        simp [Op.equalIn, run_underlying Tryd.underlying111, sizeOf, typeInfo, hi, run_sameAddr_same]
      · obtain ⟨c1, t1, h1⟩ := ha a rfl
        obtain ⟨c2, t2, h2⟩ := hb b rfl
        simp [Op.equalIn, run_underlying Tryd.underlying111, sizeOf, typeInfo, hi, hz1, run_sameAddr_other w e h1 h2, e]
theorem eq_key (a b : Option Addr) (n m : Int) (w : World) (ha : ∀ x, a = some x → ∃ c t, w.heap[x.block]? = some (.cells c t (0, 0))) (hb : ∀ x, b = some x → ∃ c t, w.heap[x.block]? = some (.cells c t (0, 0))) :
    (Op.equalIn 10000 113 (.agg #[.pointer a, .int .i64 n]) (.agg #[.pointer b, .int .i64 m])).run Tryd.prog w = .ok (decide (a = b) && decide (n = m)) w := by
  have hS : Tryd.prog.underlying 113 = some (.struct (Tryd.prog.fieldsOf 113)) := by kernel_rfl
  have hp : Tryd.prog.stoodInHeld 113 = false := by kernel_rfl
  have h1 := eq_ptr a b 9998 w ha hb
  rw [show (10000 : Nat) = 9999 + 1 from rfl, run_equalIn_agg w 9999 113 _ _ hS hp]
  simp only [Program.fieldsOf, Tryd.underlying113]
  rw [show (9999 : Nat) = 9998 + 1 from rfl]
  go_simp
  by_cases e1 : a = b <;> by_cases e2 : n = m <;> simp [e1, e2]
/-- A place that a pointer may name: none, or a block that is not marked. -/
def Cp (w : World) (a : Option Addr) : Prop := ∀ x, a = some x → ∃ c t, w.heap[x.block]? = some (.cells c t (0, 0))
/-- The keys of a map are such. -/
def Ks (w : World) (es : List MapEntry) : Prop := ∀ e ∈ es, e.val = .agg #[] ∧ ∃ b m, e.key = .agg #[.pointer b, .int .i64 m] ∧ Cp w b
/-- Is it that key? -/
def isKey (a : Option Addr) (n : Int) (e : MapEntry) : Bool := match e.key with | .agg cs => (match cs.toList with | [.pointer b, .int .i64 m] => decide (a = b) && decide (n = m) | _ => false) | _ => false
def hasKey (es : List MapEntry) (a : Option Addr) (n : Int) : Bool := es.any (isKey a n)
theorem isKey_at {e : MapEntry} {a b : Option Addr} {n m : Int} (h : e.key = .agg #[.pointer b, .int .i64 m]) : isKey a n e = (decide (a = b) && decide (n = m)) := by simp [isKey, h]
theorem find_key (a : Option Addr) (n : Int) (w : World) (ha : Cp w a) (es : List MapEntry) : ∀ i, Ks w es →
    ∃ j, (Instr.findAsking 113 (.agg #[.pointer a, .int .i64 n]) es i).run Tryd.prog w = .ok (if hasKey es a n = true then some (j, .agg #[]) else none) w := by
  induction es with
  | nil => intro i _; exact ⟨0, by simp [Instr.findAsking, hasKey]⟩
  | cons e es ih =>
    intro i hk
    obtain ⟨hv, b, m, hek, hb⟩ := hk e (by simp)
    have h1 := eq_key a b n m w ha hb
    rw [← isKey_at (a := a) (n := n) hek] at h1
    cases hs : isKey a n e with
    | true =>
      refine ⟨i, ?_⟩
      rw [hs] at h1
      have h2 : hasKey (e :: es) a n = true := by simp [hasKey, hs]
      rw [Instr.findAsking, hek, Op.equal, Op.maxDepth, Sem.run_bind, h1, h2]
      simp [Result.andThen, hv]
    | false =>
      rw [hs] at h1
      have h2 : hasKey (e :: es) a n = hasKey es a n := by simp [hasKey, hs]
      obtain ⟨j, h3⟩ := ih (i + 1) (fun e he => hk e (by simp [he]))
      refine ⟨j, ?_⟩
      rw [Instr.findAsking, hek, Op.equal, Op.maxDepth, Sem.run_bind, h1, h2, ← h3]
      simp [Result.andThen]
theorem look_met (a : Option Addr) (n : Int) (w : World) (r clock : Nat) (es : Array MapEntry) (ha : Cp w a) (hb : w.heap[r]? = some (.map es clock)) (hk : Ks w es.toList) :
    (Instr.lookup 108 (.map (some r)) (.agg #[.pointer a, .int .i64 n]) true).run Tryd.prog w = .ok (.tuple #[.agg #[], .bool (hasKey es.toList a n)]) w ∧
      (hasKey es.toList a n = false → (Instr.findKey 113 (.agg #[.pointer a, .int .i64 n]) es.toList).run Tryd.prog w = .ok none w) := by
  have k := key_ok es.isEmpty a n 9998 w
  have hz := Tryd.zeroValue109 w
  have hf := run_findKey_eq (P := Tryd.prog) (k := 113) w (by rw [Tryd.underlying113]) (.agg #[.pointer a, .int .i64 n]) es.toList
  obtain ⟨j, h1⟩ := find_key a n w ha es.toList 0 hk
  rw [h1] at hf
  cases hh : hasKey es.toList a n with
  | false =>
    rw [hh] at hf
    refine ⟨?_, fun _ => hf⟩
    unfold Instr.lookup
    simp only [Sem.run_bind, run_underlying Tryd.underlying108, MapKept.run_getObj_map hb, Result.andThen]
    rw [show (10000 : Nat) = 9998 + 1 + 1 from rfl]
    generalize (9998 + 1 + 1 : Nat) = M at *
    simp [k, hf, hz, Result.andThen]
  | true =>
    rw [hh] at hf
    refine ⟨?_, fun h => by simp at h⟩
    unfold Instr.lookup
    simp only [Sem.run_bind, run_underlying Tryd.underlying108, MapKept.run_getObj_map hb, Result.andThen]
    rw [show (10000 : Nat) = 9998 + 1 + 1 from rfl]
    generalize (9998 + 1 + 1 : Nat) = M at *
    simp [k, hf]
/-- The world with one key more. -/
def addKey (w : World) (r : Nat) (es : Array MapEntry) (clock : Nat) (a : Option Addr) (n : Int) : World := { w with heap := w.heap.setIfInBounds r (.map (es.push { key := .agg #[.pointer a, .int .i64 n], val := .agg #[], born := clock }) (clock + 1)) }
theorem add_met (a : Option Addr) (n : Int) (w : World) (r clock : Nat) (es : Array MapEntry) (hb : w.heap[r]? = some (.map es clock)) (hf : (Instr.findKey 113 (.agg #[.pointer a, .int .i64 n]) es.toList).run Tryd.prog w = .ok none w) :
    (Instr.mapUpdate 108 (.map (some r)) (.agg #[.pointer a, .int .i64 n]) (.agg #[])).run Tryd.prog w = .ok () (addKey w r es clock a n) := by
  have k := key_ok false a n 9998 w
  unfold Instr.mapUpdate
  simp only [Sem.run_bind, run_underlying Tryd.underlying108, MapKept.run_getObj_map hb, Result.andThen]
  rw [show (10000 : Nat) = 9998 + 1 + 1 from rfl]
  generalize (9998 + 1 + 1 : Nat) = M at *
  simp [k, hf, MapKept.run_setObj_map _ hb, addKey]
theorem addKey_quiet {w : World} {r clock : Nat} {es : Array MapEntry} {a : Option Addr} {n : Int} : Kp (fun k => k = r) w (addKey w r es clock a n) :=
  ⟨rfl, rfl, rfl, by simp [addKey], fun k _ hk => by simp [addKey, Ne.symm hk]⟩
theorem addKey_at {w : World} {r clock : Nat} {es : Array MapEntry} {a : Option Addr} {n : Int} (hb : w.heap[r]? = some (.map es clock)) : (addKey w r es clock a n).heap[r]? = some (.map (es.push { key := .agg #[.pointer a, .int .i64 n], val := .agg #[], born := clock }) (clock + 1)) := by
  have := lt_of_block hb
  simp [addKey, this]
end Go.Proofs.YtbcfbelfeaakoadDoor
namespace Go.Proofs.YtbcfbelfeaakoadDoor
open Go.ChangeShapes Go.WideShapes Go.ChangeAt Go.RowKit
theorem head_fun {w : World} {v u : V} {b off : Nat} (h : v.head w b off) (h' : u.head w b off) : v.kind = u.kind ∧ v.k = u.k ∧ v.n = u.n := by
  obtain ⟨a1, a2, a3⟩ := h; obtain ⟨b1, b2, b3⟩ := h'
  rw [a1] at b1; rw [a2] at b2; rw [a3] at b3
  simp only [Option.some.injEq, Value.int.injEq, true_and] at b1 b2 b3
  exact ⟨b1, b2, b3⟩
theorem at_fun {w : World} (v : V) : ∀ (u : V) (b off : Nat), v.at w b off → u.at w b off → v = u := by
  induction v using V.ind' with
  | h v ih =>
    intro u b off hv hu
    rw [at_iff] at hv hu
    obtain ⟨c0, ao, cap, c2, hI⟩ := hv
    obtain ⟨d0, ao', cap', d2, hU⟩ := hu
    rw [c2] at d2
    simp only [Option.some.injEq, Value.slice.injEq] at d2
    obtain ⟨rfl, hlen, _⟩ := d2
    rw [v_ext]
    refine ⟨head_fun c0 d0, ?_⟩
    refine List.ext_getElem hlen fun i h1 h2 => ?_
    obtain ⟨b1, o1, e1, k1⟩ := hI.fo i h1
    obtain ⟨b2, o2, e2, k2⟩ := hU.fo i h2
    rw [e1] at e2; cases e2
    exact ih _ (List.getElem_mem h1) _ _ _ k1 k2
end Go.Proofs.YtbcfbelfeaakoadDoor
namespace Go.Proofs.YtbcfbelfeaakoadDoor
open Go.ChangeShapes Go.WideShapes Go.ChangeAt Go.RowKit
/-- The deepest of some lists. -/
def mx (ls : List Pl) : Nat := ls.foldr (fun x m => max (deeps x.1) m) 0
theorem mx_nil : mx [] = 0 := rfl
theorem mx_app (a b : List Pl) : mx (a ++ b) = max (mx a) (mx b) := by
  induction a with
  | nil => simp [mx]
  | cons x a ih => simp only [mx, List.cons_append, List.foldr_cons] at ih ⊢; rw [ih]; omega
theorem mx_one (x : Pl) : mx [x] = deeps x.1 := by simp [mx]
theorem mx_mem {ls : List Pl} {x : Pl} (h : x ∈ ls) : deeps x.1 ≤ mx ls := by
  induction ls with
  | nil => simp at h
  | cons y ls ih =>
    simp only [mx, List.foldr_cons] at ih ⊢
    rcases List.mem_cons.1 h with rfl | h
    · omega
    · have := ih h; omega
theorem mx_take (ls : List Pl) (j : Nat) (h : j < ls.length) : mx (ls.take (j + 1)) = max (mx (ls.take j)) (deeps ls[j].1) := by
  rw [List.take_add_one, mx_app, List.getElem?_eq_getElem h]; simp [mx]
/-- How many things are in some lists. -/
def ssz (ts : List Pl) : Nat := (ts.map fun x => sizes x.1).sum
theorem ssz_app (a b : List Pl) : ssz (a ++ b) = ssz a + ssz b := by simp [ssz]
theorem ssz_one (x : Pl) : ssz [x] = sizes x.1 := by simp [ssz]
theorem ssz_take (ls : List Pl) (j : Nat) (h : j < ls.length) : ssz (ls.take (j + 1)) = ssz (ls.take j) + sizes ls[j].1 := by
  rw [List.take_add_one, ssz_app, List.getElem?_eq_getElem h]; simp [ssz]
theorem ssz_take_le (ls : List Pl) (j : Nat) : ssz (ls.take j) ≤ ssz ls := by
  have h : ssz ls = ssz (ls.take j ++ ls.drop j) := by rw [List.take_append_drop]
  rw [h, ssz_app]; omega
theorem ssz_len {ts : List Pl} (h : ∀ x ∈ ts, x.1 ≠ []) : ts.length ≤ ssz ts := by
  induction ts with
  | nil => simp [ssz]
  | cons x ts ih =>
    have h1 := ih fun y hy => h y (by simp [hy])
    have h2 : 1 ≤ sizes x.1 := by have := sizes_len x.1; have := List.length_pos_iff.2 (h x (by simp)); omega
    simp [ssz] at h1 ⊢; omega
/-- Lists that lie in memory that is not marked. -/
def LieC (w : World) (ts : List Pl) : Prop := ∀ x ∈ ts, Fo (cln w) x.1 x.2.1
def kv (x : Pl) : Value := .agg #[.pointer x.2.1, .int .i64 x.1.length]
/-- What there is of the next level. -/
structure DS (W Wr : World) (bl : Value) (ks : List Pl) (es : Array MapEntry) (clock : Nat) (w : World) : Prop where
  row : w.ownsRow (Wr.heap.size + 1) 23 1 bl ks.length (ks.map slv)
  lie : LieC W ks
  ne : ∀ x ∈ ks, x.1 ≠ []
  map : w.heap[Wr.heap.size]? = some (.map es clock)
  keys : ∀ e ∈ es.toList, e.val = .agg #[] ∧ ∃ x ∈ ks, e.key = kv x
  low : Below Wr.heap.size Wr w
theorem cp_of {W w : World} {B : Nat} {x : Pl} (hl : Fo (cln W) x.1 x.2.1) (hn : x.1 ≠ []) (hB : Below B W w) (hW : W.heap.size ≤ B) : Cp w x.2.1 := by
  intro a ha
  have h0 : 0 < x.1.length := List.length_pos_iff.2 hn
  obtain ⟨b, o, e, _⟩ := hl.get 0 h0
  rw [e] at ha hl; cases ha
  obtain ⟨c, t, hc⟩ := hl.clean hn
  exact ⟨c, t, (hB.block b (by have := lt_of_block hc; omega)).trans hc⟩
theorem DS.ks {W Wr w : World} {bl : Value} {ks : List Pl} {es : Array MapEntry} {clock : Nat} (H : DS W Wr bl ks es clock w) (hW : Below W.heap.size W Wr) : Ks w es.toList := by
  intro e he
  obtain ⟨hv, x, hx, hk⟩ := H.keys e he
  exact ⟨hv, _, _, hk, cp_of (H.lie x hx) (H.ne x hx) (hW.trans (H.low.mono hW.size)) (Nat.le_refl _)⟩
theorem DS.quiet {W Wr w w' : World} {bl : Value} {ks : List Pl} {es : Array MapEntry} {clock : Nat} (H : DS W Wr bl ks es clock w) (q : Quiet w w') : DS W Wr bl ks es clock w' :=
  ⟨q.row H.row fun _ _ e => e, H.lie, H.ne, (q.block _ (lt_of_block H.map) fun e => e).trans H.map, H.keys, H.low.trans (q.below (by have := lt_of_block H.map; omega) fun _ e => e.elim)⟩
/-- A key that is there is one of those lists. -/
theorem DS.met {W Wr w : World} {bl : Value} {ks : List Pl} {es : Array MapEntry} {clock : Nat} {x : Pl} (H : DS W Wr bl ks es clock w) (hx : Fo (cln W) x.1 x.2.1) (h : hasKey es.toList x.2.1 x.1.length = true) : deeps x.1 ≤ mx ks := by
  obtain ⟨e, he, hk⟩ := List.any_eq_true.1 h
  obtain ⟨_, y, hy, hek⟩ := H.keys e he
  rw [isKey_at hek] at hk
  simp only [Bool.and_eq_true, decide_eq_true_eq] at hk
  obtain ⟨h1, h2⟩ := hk
  have h2 : x.1.length = y.1.length := by omega
  have hl : x.1 = y.1 := by
    refine List.ext_getElem h2 fun i i1 i2 => ?_
    obtain ⟨b1, o1, e1, k1⟩ := hx i i1
    obtain ⟨b2, o2, e2, k2⟩ := H.lie y hy i i2
    rw [h1, e2] at e1; cases e1
    exact at_fun _ _ _ _ k1 k2
  rw [hl]; exact mx_mem hy
theorem DS.noNil {W Wr w : World} {bl : Value} {ks : List Pl} {es : Array MapEntry} {clock : Nat} (H : DS W Wr bl ks es clock w) : hasKey es.toList none 0 = false := by
  cases h : hasKey es.toList none 0 with
  | false => rfl
  | true =>
    obtain ⟨e, he, hk⟩ := List.any_eq_true.1 h
    obtain ⟨_, y, hy, hek⟩ := H.keys e he
    rw [isKey_at hek] at hk
    simp only [Bool.and_eq_true, decide_eq_true_eq] at hk
    obtain ⟨_, h2⟩ := hk
    exact absurd (List.length_eq_zero_iff.1 (by omega)) (H.ne y hy)
/-- One list more. -/
theorem DS.push {W Wr w w5 w1 : World} {bl : Value} {ks : List Pl} {es : Array MapEntry} {clock : Nat} {x : Pl} {g cap n : Nat} {o : Obj} (H : DS W Wr bl ks es clock w) (q : Quiet w w5) (hx : Fo (cln W) x.1 x.2.1) (hne : x.1 ≠ []) (hn : n = ks.length)
    (hr1 : w1.ownsRow (Wr.heap.size + 1) 23 1 (.slice (some ⟨g, 0, none⟩) (n + 1) cap) (n + 1) (ks.map slv ++ [slv x])) (hg : ((addKey w5 Wr.heap.size es clock x.2.1 x.1.length).alloc o).grownBy w1 bl.ownBlock) :
    DS W Wr (.slice (some ⟨g, 0, none⟩) (n + 1) cap) (ks ++ [x]) (es.push { key := kv x, val := .agg #[], born := clock }) (clock + 1) w1 := by
  subst hn
  have H5 := H.quiet q
  have hz5 : (addKey w5 Wr.heap.size es clock x.2.1 x.1.length).heap.size = w5.heap.size := by simp [addKey]
  have hlt := lt_of_block H5.map
  refine ⟨by simpa using hr1, fun y hy => ?_, fun y hy => ?_, ?_, fun e he => ?_, ?_⟩
  · rcases List.mem_append.1 hy with hy | hy
    · exact H.lie y hy
    · simp at hy; subst hy; exact hx
  · rcases List.mem_append.1 hy with hy | hy
    · exact H.ne y hy
    · simp at hy; subst hy; exact hne
  · rw [hg.block Wr.heap.size (by simp; omega) (fun e => by have := (H5.row.lt _ e.symm).1; omega), Below.heap_alloc _ _ _ (by omega)]
    exact addKey_at H5.map
  · simp only [Array.toList_push, List.mem_append, List.mem_singleton] at he
    rcases he with he | rfl
    · obtain ⟨h1, y, hy, h2⟩ := H.keys e he
      exact ⟨h1, y, by simp [hy], h2⟩
    · exact ⟨rfl, x, by simp, rfl⟩
  · refine ⟨?_, ?_, ?_, ?_, fun k hk => ?_⟩
    · exact (hg.os.trans rfl).trans H5.low.os
    · exact (hg.tape.trans rfl).trans H5.low.tape
    · exact (hg.output.trans rfl).trans H5.low.output
    · have := hg.size; have := H5.low.size; simp at *; omega
    · rw [hg.block k (by simp; omega) (fun e => by have := (H5.row.lt _ e.symm).1; omega), Below.heap_alloc _ _ _ (by omega), addKey_quiet.block k (by omega) (by omega)]
      exact H5.low.block k hk
end Go.Proofs.YtbcfbelfeaakoadDoor
