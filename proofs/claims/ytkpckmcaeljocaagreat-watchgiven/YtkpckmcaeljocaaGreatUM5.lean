/- Parts. -/
import Derived.Test.YtkpckmcaeljocaaGreatUVmPlain2
import Derived.Test.YtkpckmcaeljocaaGreatUVmPlain3
import Derived.Test.YtkpckmcaeljocaaGreatUVmPlain4
import Derived.Test.YtkpckmcaeljocaaGreatUVmPlain7
import Derived.Test.YtkpckmcaeljocaaGreatUVmPush
namespace Go.Proofs.YtkpckmcaeljocaaGreat
open Go.ChangeShapes Go.WideShapes Go.ChangeAt Go.RowKit
open Gr (Nd Res nd0 thereB deriveOf addOf gateOf cutOf rightsN wayOf gatesOf gatesW targetOf Wf NdOk GS IntsAt)
theorem parts_len {v : V} (h : v.check = 0) {m : Nat} (hp : partsB v.kind = some m) : v.l.length = m := by
  have h1 := (fault_one_of (check_fault h)).1
  unfold V.fault1 at h1
  rw [hp] at h1
  simp only at h1
  by_cases e : v.l.length = m
  · exact e
  · rw [if_pos e] at h1; cases h1
section
variable {C : Cx} {q : Vs} {s : Sg} {left : Nat} {R : Rw} {w : World} {g nn sc mm nc : Nat} {ps qs : List Kd} {a b : V} {aa ba na : Option Addr} {ac bc : Nat}
theorem none_any {sa : Option Addr} (H : FrS C q s left ⟨sa, nn, sc, ps, na, mm, nc, qs⟩ w) (hj : C.j < 4) (hm : mm ≤ 2000) (op k n : Int) (hop : Ex.partsI op = 0) (hin : In64 n) (hvar : op = 4 → 0 ≤ k ∧ k < (qs.length : Int)) :
    Calls Tryz.prog 149 #[.pointer (some ⟨C.fb, 0, none⟩), .agg #[.int .i64 op, .int .i64 k, .int .i64 n]] w fun e w' => PlainQ C ⟨sa, nn, sc, ps, na, mm, nc, qs⟩ (noneR C.j op k n C.arg (qs.map (·.1)) left s) e w' := by
  have hc : op = 1 ∨ op = 2 ∨ op = 3 ∨ op = 4 ∨ op = 21 := by
    unfold Ex.partsI at hop
    by_cases h : op = 1 ∨ op = 2 ∨ op = 3 ∨ op = 4 ∨ op = 21
    · exact h
    · rw [if_neg h] at hop
      repeat' split at hop
      all_goals omega
  rcases hc with rfl | rfl | rfl | rfl | rfl
  · exact plain_nil H k n
  · exact plain_num H hin k
  · exact plain_arg H k n
  · obtain ⟨h0, h1⟩ := hvar rfl
    obtain ⟨kn, rfl⟩ : ∃ kn : Nat, k = kn := ⟨k.toNat, by omega⟩
    have h := plain_var H kn n (by omega) hm
    have e : noneR C.j 4 kn n C.arg (qs.map (·.1)) left s = okV ((qs.map (·.1)).getD (qs.length - 1 - kn) v0) left s := by simp [noneR]
    rw [e]; exact h
  · have e : noneR C.j 21 k n C.arg (qs.map (·.1)) left s = okV (s.ks.getD C.j v0) left s := by simp [noneR]
    rw [e]; exact plain_kept H hj k n
theorem cell_cap {v : V} (hk : v.kind = 4) (s : Sg) (bit : Nat) : cellR s v bit = cellR s (capV v.n) bit := by unfold cellR; rw [if_pos hk, if_pos (show (capV v.n).kind = 4 from rfl)]; rfl
theorem cell_none {v : V} (hk : v.kind ≠ 4) (s : Sg) (bit : Nat) : cellR s v bit = .error 2 := by unfold cellR; rw [if_neg hk]
theorem one_any (H : FrS C q s left ⟨some ⟨g, 0, none⟩, nn + 1, sc, ps ++ [(a, aa, ac)], na, mm, nc, qs⟩ w) (hn : nn ≤ 1999) (hj : C.j < 4) (hfr : C.fr ≤ 20) (hC : C.fr < 20 → CallC C.m C.fr) (hes : s.es.length + left ≤ 902000) (ha : a.check = 0) (op k n : Int) (hop : Ex.partsI op = 1) (hcall : op = 18 → (funOf C.m.ms C.j k).isSome = true) :
    Calls Tryz.prog 149 #[.pointer (some ⟨C.fb, 0, none⟩), .agg #[.int .i64 op, .int .i64 k, .int .i64 n]] w fun e w' => PlainQ C ⟨some ⟨g, 0, none⟩, nn, sc, ps, na, mm, nc, qs⟩ (oneR (CallF C.m.ms) C.fr C.j op k a left s) e w' := by
  have hsz := check_size ha
  have hc : op = 9 ∨ op = 10 ∨ op = 11 ∨ op = 12 ∨ op = 13 ∨ op = 15 ∨ op = 16 ∨ op = 17 ∨ op = 18 ∨ op = 20 := by
    unfold Ex.partsI at hop
    by_cases h : op = 9 ∨ op = 10 ∨ op = 11 ∨ op = 12 ∨ op = 13 ∨ op = 15 ∨ op = 16 ∨ op = 17 ∨ op = 18 ∨ op = 20
    · exact h
    · rw [if_neg h] at hop
      repeat' split at hop
      all_goals omega
  rcases hc with rfl | rfl | rfl | rfl | rfl | rfl | rfl | rfl | rfl | rfl
  · by_cases hk : a.kind = 2
    · have hl := parts_len ha (m := 2) (by rw [hk]; rfl)
      have e : oneR (CallF C.m.ms) C.fr C.j 9 k a left s = okV (a.l[0]'(by omega)) left s := by simp [oneR, hk, List.getD_eq_getElem?_getD, hl]
      rw [e]; exact plain_fst H hn hk (by omega) k n
    · have e : oneR (CallF C.m.ms) C.fr C.j 9 k a left s = bad 2 left s := by simp [oneR, hk]
      rw [e]; exact plain_fst_no H hn hk k n
  · by_cases hk : a.kind = 2
    · have hl := parts_len ha (m := 2) (by rw [hk]; rfl)
      have e : oneR (CallF C.m.ms) C.fr C.j 10 k a left s = okV (a.l[1]'(by omega)) left s := by simp [oneR, hk, List.getD_eq_getElem?_getD, hl]
      rw [e]; exact plain_snd H hn hk (by omega) k n
    · have e : oneR (CallF C.m.ms) C.fr C.j 10 k a left s = bad 2 left s := by simp [oneR, hk]
      rw [e]; exact plain_snd_no H hn hk k n
  · rcases seal_code hj ha with hk | hk
    · have e : oneR (CallF C.m.ms) C.fr C.j 11 k a left s = okV ⟨3, C.j, [a]⟩ left s := by simp [oneR, hk]
      rw [e]; exact plain_seal H hn hsz hj hk k n
    · have e : oneR (CallF C.m.ms) C.fr C.j 11 k a left s = bad 3 left s := by simp [oneR, hk]
      rw [e]; exact plain_seal_bad H hn hsz hj hk k n
  · by_cases hk : a.kind = 3
    · by_cases hp : a.n = C.j
      · have hl := parts_len ha (m := 1) (by rw [hk]; rfl)
        have e : oneR (CallF C.m.ms) C.fr C.j 12 k a left s = okV (a.l[0]'(by omega)) left s := by simp [oneR, hk, hp, List.getD_eq_getElem?_getD, hl]
        rw [e]; exact plain_open H hn hk (by omega) hp k n
      · have e : oneR (CallF C.m.ms) C.fr C.j 12 k a left s = bad 10 left s := by simp [oneR, hk, hp]
        rw [e]; exact plain_open_bad H hn hk hp k n
    · have e : oneR (CallF C.m.ms) C.fr C.j 12 k a left s = bad 2 left s := by simp [oneR, hk]
      rw [e]; exact plain_open_no H hn hk k n
  · by_cases hk : a.kind = 4
    · cases hcl : cellR s (capV a.n) 0 with
      | error c =>
        have e : oneR (CallF C.m.ms) C.fr C.j 13 k a left s = bad c left s := by simp [oneR, cell_cap hk, hcl]
        rw [e]; exact plain_read_bad H hn hk hcl k n
      | ok c =>
        have e : oneR (CallF C.m.ms) C.fr C.j 13 k a left s = okV (intV (s.cs.getD c.toNat 0)) left { s with es := s.es ++ [⟨C.j, c, 1, a.n⟩] } := by simp [oneR, cell_cap hk, hcl]
        rw [e]; exact plain_read H hn hk (by omega) hcl k n
    · have e : oneR (CallF C.m.ms) C.fr C.j 13 k a left s = bad 2 left s := by simp [oneR, cell_none hk]
      rw [e]; exact plain_read_no H hn hk k n
  · by_cases hk : a.kind = 4
    · have e : oneR (CallF C.m.ms) C.fr C.j 15 k a left s = madeR (deriveOf s.ns s.os a.n k (-1)) left s := by simp [oneR, hk]
      rw [e]
      cases hg : (madeR (deriveOf s.ns s.os a.n k (-1)) left s).got with
      | error c => exact plain_narrow_bad H hn hk k n hg
      | ok v => exact plain_narrow_ok H hn hk k n hg
    · have e : oneR (CallF C.m.ms) C.fr C.j 15 k a left s = bad 2 left s := by simp [oneR, hk]
      rw [e]; exact plain_narrow_no H hn hk k n
  · by_cases hk : a.kind = 4
    · have e : oneR (CallF C.m.ms) C.fr C.j 16 k a left s = wrapR a.n left s := by simp [oneR, hk, wrapR]
      rw [e]
      cases hg : (wrapR a.n left s).got with
      | error c => exact plain_wrap_bad H hn hk k n hg
      | ok v => exact plain_wrap_ok H hn hk k n hg
    · have e : oneR (CallF C.m.ms) C.fr C.j 16 k a left s = bad 2 left s := by simp [oneR, hk]
      rw [e]; exact plain_wrap_no H hn hk k n
  · by_cases hk : a.kind = 5
    · have e : oneR (CallF C.m.ms) C.fr C.j 17 k a left s = okV v0 left { s with os := (cutOf s.ns s.os a.n).os } := by simp [oneR, hk]
      rw [e]; exact plain_cut H hn hk k n
    · have e : oneR (CallF C.m.ms) C.fr C.j 17 k a left s = bad 2 left s := by simp [oneR, hk]
      rw [e]; exact plain_cut_no H hn hk k n
  · have e : oneR (CallF C.m.ms) C.fr C.j 18 k a left s = CallF C.m.ms C.fr C.j k a left s := by simp [oneR]
    rw [e]
    by_cases h20 : C.fr = 20
    · have e2 : CallF C.m.ms C.fr C.j k a left s = bad 4 left s := by simp [CallF, callR, h20]
      rw [e2]; exact plain_call_deep H hn (by omega) k n
    · exact plain_call H hn (by omega) k n (hC (by omega)) (hcall rfl) ha hes
  · have e : oneR (CallF C.m.ms) C.fr C.j 20 k a left s = okV (s.ks.getD C.j v0) left { s with ks := s.ks.set C.j a } := by simp [oneR]
    rw [e]; exact plain_keep H hn hj ha (by omega) k n
theorem two_any (H : FrS C q s left ⟨some ⟨g, 0, none⟩, nn + 1 + 1, sc, (ps ++ [(a, aa, ac)]) ++ [(b, ba, bc)], na, mm, nc, qs⟩ w) (hn : nn ≤ 1999) (hfr : C.fr ≤ 20) (hC : C.fr < 20 → CallC C.m C.fr) (hes : s.es.length + left ≤ 902000) (ha : a.check = 0) (hb : b.check = 0) (hai : In64 a.n) (hbi : In64 b.n) (op k n : Int) (hop : Ex.partsI op = 2) (h5 : op ≠ 5) :
    Calls Tryz.prog 149 #[.pointer (some ⟨C.fb, 0, none⟩), .agg #[.int .i64 op, .int .i64 k, .int .i64 n]] w fun e w' => PlainQ C ⟨some ⟨g, 0, none⟩, nn, sc, ps, na, mm, nc, qs⟩ (twoR (CallF C.m.ms) C.m.ms C.fr C.j op k a b left s) e w' := by
  have hsa := check_size ha
  have hsb := check_size hb
  have hc : op = 6 ∨ op = 8 ∨ op = 14 ∨ op = 19 := by
    unfold Ex.partsI at hop
    repeat' split at hop
    all_goals omega
  rcases hc with rfl | rfl | rfl | rfl
  · by_cases hkb : b.kind = 1
    · by_cases hka : a.kind = 1
      · have e : twoR (CallF C.m.ms) C.m.ms C.fr C.j 6 k a b left s = okV (intV (arith k a.n b.n)) left s := by simp [twoR, hka, hkb]
        rw [e]; exact plain_bin H hn hkb hka hai hbi k n
      · have e : twoR (CallF C.m.ms) C.m.ms C.fr C.j 6 k a b left s = bad 2 left s := by simp [twoR, hka]
        rw [e]; exact plain_bin_no1 H hn hkb hka k n
    · have e : twoR (CallF C.m.ms) C.m.ms C.fr C.j 6 k a b left s = bad 2 left s := by simp [twoR, hkb]
      rw [e]; exact plain_bin_no2 H hn hkb k n
  · rcases pair_code ha hb with hk | hk
    · have e : twoR (CallF C.m.ms) C.m.ms C.fr C.j 8 k a b left s = okV ⟨2, 0, [a, b]⟩ left s := by simp [twoR, hk]
      rw [e]; exact plain_pair H hn hsa hsb hk k n
    · have e : twoR (CallF C.m.ms) C.m.ms C.fr C.j 8 k a b left s = bad 3 left s := by simp [twoR, hk]
      rw [e]; exact plain_pair_bad H hn hsa hsb hk k n
  · by_cases hkb : b.kind = 1
    · by_cases hka : a.kind = 4
      · have hl := parts_len hb (m := 0) (by rw [hkb]; rfl)
        have hbe : b = intV b.n := by
          obtain ⟨bk, bn, bl⟩ := b
          simp only at hkb hl
          rw [List.length_eq_zero_iff] at hl
          subst hkb hl
          rfl
        cases hcl : cellR s (capV a.n) 1 with
        | error c =>
          have e : twoR (CallF C.m.ms) C.m.ms C.fr C.j 14 k a b left s = bad c left s := by simp [twoR, hka, hkb, cell_cap hka, hcl]
          rw [e]; exact plain_write_bad H hn hkb hka hcl k n
        | ok c =>
          have e : twoR (CallF C.m.ms) C.m.ms C.fr C.j 14 k a b left s = okV (intV b.n) left { s with cs := s.cs.set c.toNat b.n, es := s.es ++ [⟨C.j, c, 2, a.n⟩] } := by
            rw [← hbe]; simp [twoR, hka, hkb, cell_cap hka, hcl]
          rw [e]; exact plain_write H hn hkb hka (by omega) hbi hcl k n
      · have e : twoR (CallF C.m.ms) C.m.ms C.fr C.j 14 k a b left s = bad 2 left s := by simp [twoR, hka]
        rw [e]; exact plain_write_no1 H hn hkb hka k n
    · have e : twoR (CallF C.m.ms) C.m.ms C.fr C.j 14 k a b left s = bad 2 left s := by simp [twoR, hkb]
      rw [e]; exact plain_write_no2 H hn hkb k n
  · by_cases hka : a.kind = 4
    · have e : twoR (CallF C.m.ms) C.m.ms C.fr C.j 19 k a b left s = askR (CallF C.m.ms) C.m.ms C.fr (capV a.n) b left s := by
        simp only [twoR]
        rw [if_neg (by decide), if_neg (by decide), if_neg (by decide)]
        unfold askR
        rw [if_pos hka, if_pos (show (capV a.n).kind = 4 from rfl)]
        rfl
      rw [e]
      cases hg : (askR (CallF C.m.ms) C.m.ms C.fr (capV a.n) b left s).got with
      | error c => exact plain_ask_bad H hn hka hfr hC hb hes k n hg
      | ok v => exact plain_ask H hn hka hfr hC hb hes k n hg
    · have e : twoR (CallF C.m.ms) C.m.ms C.fr C.j 19 k a b left s = bad 2 left s := by
        simp only [twoR]
        rw [if_neg (by decide), if_neg (by decide), if_neg (by decide)]
        unfold askR
        rw [if_neg hka]
      rw [e]; exact plain_ask_no H hn hka k n
end
section
variable {C : Cx} {q : Vs} {R : Rw} {w : World}
theorem plain_at {y : Fm} {F M K : Nat} (H : FrS C q y.s y.left R w) (hst : R.ps.map (·.1) = y.st) (hnm : R.qs.map (·.1) = y.nm) (hfi : Fi y) (i : Ex.Ik) (hs : SafeI F M K i y) (hop : 1 ≤ i.op ∧ i.op ≤ 21) (h5 : i.op ≠ 5) (h7 : i.op ≠ 7) (hM : M ≤ 2000) (hK : K ≤ 902000) (hj : C.j < 4) (hfr : C.fr ≤ 20) (hC : C.fr < 20 → CallC C.m C.fr) (hF : ∀ k : Int, 0 ≤ k → k < F → (funOf C.m.ms C.j k).isSome = true) (hin : In64 i.n) (hI : ∀ p ∈ R.ps, In64 p.1.n) :
    ∃ (R0 : Rw) (o : Out), stepI (CallF C.m.ms) C.m.ms C.fr C.j C.arg i y = outF (y.pc + 1) (R0.ps.map (·.1)) y.nm o ∧ R0.qs.map (·.1) = y.nm ∧ R0.n ≤ 2000 ∧
      Calls Tryz.prog 149 #[.pointer (some ⟨C.fb, 0, none⟩), .agg #[.int .i64 i.op, .int .i64 i.k, .int .i64 i.n]] w fun e w' => PlainQ C R0 o e w' := by
  have hl1 := congrArg List.length hst
  have hl2 := congrArg List.length hnm
  simp only [List.length_map] at hl1 hl2
  have hb := hs.st
  have hlg := hs.log
  have hpt := hs.parts hop.2
  have hn1 := H.two.ls
  have hn2 := H.two.ln
  obtain ⟨pc, st, nm, lf, sg⟩ := y
  simp only at *
  subst hst hnm
  have h012 : Ex.partsI i.op = 0 ∨ Ex.partsI i.op = 1 ∨ Ex.partsI i.op = 2 := by
    unfold Ex.partsI; repeat' split
    all_goals first | omega | simp
  rcases h012 with hp | hp | hp
  · obtain ⟨sa, n, sc, ps, na, m, nc, qs⟩ := R
    simp only at *
    exact ⟨⟨sa, n, sc, ps, na, m, nc, qs⟩, _, step_none hop hp, rfl, (by simp at hb; show n ≤ 2000; omega), none_any H hj (by simp at hb; omega) i.op i.k i.n hp hin (fun e => by have := hs.var e; simpa using this)⟩
  · obtain ⟨ps, ⟨a, aa, ac⟩, hps⟩ : ∃ ps p, R.ps = ps ++ [p] := by
      have h3 : R.ps ≠ [] := fun e => by rw [e] at hpt; simp at hpt; omega
      exact ⟨_, _, (List.dropLast_concat_getLast h3).symm⟩
    obtain ⟨g, hR⟩ := H.shape hps
    rw [hR] at H
    rw [hps] at hfi hl1 hb ⊢
    simp only [List.map_append, List.map_cons, List.map_nil] at *
    refine ⟨⟨some ⟨g, 0, none⟩, ps.length, R.sc, ps, R.na, R.m, R.nc, R.qs⟩, _, step_one hop hp, rfl, ?_, one_any H ?_ hj hfr hC ?_ ?_ i.op i.k i.n hp ?_⟩
    · simp at hb ⊢; omega
    · simp at hb; omega
    · omega
    · exact hfi.st a (by simp)
    · intro e; have := hs.call e; exact hF _ this.1 this.2
  · obtain ⟨ps, ⟨b, ba, bc⟩, hps⟩ : ∃ ps p, R.ps = ps ++ [p] := by
      have h3 : R.ps ≠ [] := fun e => by rw [e] at hpt; simp at hpt; omega
      exact ⟨_, _, (List.dropLast_concat_getLast h3).symm⟩
    obtain ⟨ps, ⟨a, aa, ac⟩, rfl⟩ : ∃ ps' p, ps = ps' ++ [p] := by
      have h3 : ps ≠ [] := fun e => by rw [hps, e] at hpt; simp at hpt; omega
      exact ⟨_, _, (List.dropLast_concat_getLast h3).symm⟩
    obtain ⟨g, hR⟩ := H.shape hps
    have hia := hI (a, aa, ac) (by rw [hps]; simp)
    have hib := hI (b, ba, bc) (by rw [hps]; simp)
    rw [hR] at H
    rw [show (ps ++ [(a, aa, ac)]).length + 1 = ps.length + 1 + 1 by simp] at H
    rw [hps] at hfi hl1 hb ⊢
    simp only [List.map_append, List.map_cons, List.map_nil] at *
    refine ⟨⟨some ⟨g, 0, none⟩, ps.length, R.sc, ps, R.na, R.m, R.nc, R.qs⟩, _, step_two hop hp, rfl, ?_, two_any H ?_ hfr hC ?_ ?_ ?_ hia hib i.op i.k i.n hp h5⟩
    · simp at hb ⊢; omega
    · simp at hb; omega
    · omega
    · exact hfi.st a (by simp)
    · exact hfi.st b (by simp)
end
theorem grown_then2 {W w3 w4 : World} {row : Option Nat} {g : Nat} (h : W.grownBy w3 row) (k : w3.grownBy w4 (some g)) (hat : row = some g ∨ W.heap.size ≤ g) : W.grownBy w4 row := by
  refine ⟨by rw [k.os, h.os], by rw [k.tape, h.tape], by rw [k.output, h.output], Nat.le_trans h.size k.size, fun i hi hne => ?_⟩
  rw [k.block i (Nat.lt_of_lt_of_le hi h.size) (fun e => ?_), h.block i hi hne]
  simp only [Option.some.injEq] at e
  rcases hat with e2 | e2
  · exact hne (by rw [e2, e])
  · omega
section
variable {F F' : Nat → Prop} {lo : Nat} {w w' : World} {sa : Option Addr} {n sc : Nat} {ps : List Kd} {na : Option Addr} {m nc : Nat} {qs : List Kd}
theorem Two.push2 {g cap : Nat} {p : Kd} (H : Two F lo w sa n sc ps na m nc qs) (hv : SafeF (fun k => F k ∨ blk sa n sc = some k ∨ blk na m nc = some k) (fun w => Is w p.1 p.2.1) w)
    (hr : w'.ownsRow lo 38 3 (.slice (some ⟨g, 0, none⟩) (n + 1) cap) (n + 1) (tris ps ++ tri p)) (hg : w.grownBy w' (blk sa n sc)) (hat : blk sa n sc = some g ∨ w.heap.size ≤ g) :
    Two F lo w' (some ⟨g, 0, none⟩) (n + 1) cap (ps ++ [p]) na m nc qs ∧ Kp (fun k => blk sa n sc = some k) w w' := by
  have k1 : Kp (fun k => blk sa n sc = some k) w w' := Kp.grown hg fun k _ e => e.symm
  refine ⟨⟨by rw [tris_app, tris_one]; exact hr, k1.row H.rn fun k e e2 => H.ap k e2 e, by rw [List.length_append, ← H.ls]; rfl, H.ln, fun k e e2 => ?_, fun x hx => ?_⟩, k1⟩
  · simp [Value.ownBlock] at e
    subst e
    rcases hat with e | e
    · exact H.ap g e e2
    · have := (H.rn.lt g e2).2; omega
  · have hs : SafeF (fun k => F k ∨ blk sa n sc = some k ∨ blk na m nc = some k) (fun w => Is w x.1 x.2.1) w := by
      rcases hx with hx | hx
      · rcases List.mem_append.1 hx with hx | hx
        · exact H.all x (.inl hx)
        · simp at hx; subst hx; exact hv
      · exact H.all x (.inr hx)
    refine hs.step (k1.mono fun k _ e => .inr (.inl e)) fun k hk e => ?_
    rcases e with e | e | e
    · exact .inl e
    · simp [Value.ownBlock] at e
      subst e
      rcases hat with e | e
      · exact .inr (.inl e)
      · omega
    · exact .inr (.inr e)
end
section
variable {C : Cx} {q : Vs} {s : Sg} {left : Nat} {R : Rw} {w : World}
theorem FrS.bind2 {W w4 : World} {g cap : Nat} {p : Kd} (H : FrS C q s left R w) (kW : Quiet w W) (hv : SafeF (fun k => C.m.own q k ∨ C.x R k) (fun w => Is w p.1 p.2.1) w)
    (hr : w4.ownsRow C.w0.heap.size 38 3 (.slice (some ⟨g, 0, none⟩) (R.m + 1) cap) (R.m + 1) (tris R.qs ++ tri p)) (hg : W.grownBy w4 (blk R.na R.m R.nc)) (hat : blk R.na R.m R.nc = some g ∨ W.heap.size ≤ g) :
    FrS C q s left ⟨R.sa, R.n, R.sc, R.ps, some ⟨g, 0, none⟩, R.m + 1, cap, R.qs ++ [p]⟩ (w4.setCell ⟨C.fb, 5, none⟩ (.slice (some ⟨g, 0, none⟩) (R.m + 1) cap)) ∧
    w4.cell? ⟨C.fb, 5, none⟩ = some (.slice R.na R.m R.nc) ∧ w4.frozen? ⟨C.fb, 5, none⟩ = false ∧ C.fb < w4.heap.size := by
  have HW := H.quiet kW
  obtain ⟨t1, k1⟩ := HW.two.swap.push2 (p := p) ((safe_quiet hv kW).mono fun i _ e => by
    rcases e with (e | e | e) | e
    · exact .inl e
    · exact .inr (.inl e)
    · exact .inr (.inr (.inl e))
    · exact .inr (.inr (.inr e.symm))) hr hg hat
  replace t1 := t1.swap
  have hfr : ∀ i, blk R.sa R.n R.sc = some i ∨ blk R.na R.m R.nc = some i → i ≠ C.fb := fun i e => (HW.rfree i e).2.2.1
  have hb4 : w4.heap[C.fb]? = some (.cells #[.pointer (some ⟨C.m.mb, 0, none⟩), .int .i64 C.j, .int .i64 C.arg.kind, .int .i64 C.arg.n, .slice C.aa C.arg.l.length C.ac, .slice R.na R.m R.nc, .slice R.sa R.n R.sc] 201 (0, 0)) := (k1.block _ (lt_of_block HW.fr) fun e => hfr _ (.inr e) rfl).trans HW.fr
  have k2 := kp_set w4 C.fb 5 (.slice (some ⟨g, 0, none⟩) (R.m + 1) cap)
  have hgn : (Value.slice (some ⟨g, 0, none⟩) (R.m + 1) cap).ownBlock = some g := rfl
  have hgf : g ≠ C.fb := by
    rcases hat with e | e
    · exact hfr _ (.inr e)
    · have := lt_of_block HW.fr; omega
  have ht := t1.goes (F' := fun k => C.m.own q k ∨ C.X k ∨ k = C.fb) (k2.mono fun i _ e => .inr (.inr e)) (fun i hi e => by
    have hx : ¬ C.m.own q i ∧ ¬ C.X i ∧ i ≠ C.fb := by
      rcases hi.symm with hi | hi
      · simp only [blk, hgn, Option.some.injEq] at hi
        subst hi
        rcases hat with e | e
        · obtain ⟨h1, _, h3, h4, _⟩ := HW.rfree _ (.inr e)
          exact ⟨h1, h4, h3⟩
        · refine ⟨fun h => ?_, fun h => ?_, hgf⟩
          · have := HW.m.ownlt _ (.inl h); omega
          · have := HW.m.xo _ (.inl h); omega
      · obtain ⟨h1, _, h3, h4, _⟩ := HW.rfree _ (.inl hi)
        exact ⟨h1, h4, h3⟩
    rcases e with e | e | e
    · exact hx.1 e
    · exact hx.2.1 e
    · exact hx.2.2 e) (fun i e => .inl e)
  refine ⟨HW.turn ((k1.mono fun i _ e => .inr (.inr e)).trans (k2.mono fun i _ e => .inl e)) (by simp [World.setCell, Array.getElem?_modify, hb4]) ht fun i e => ?_, by simp [World.cell?, hb4], frozen_of_row w4 _ 5 _ _ hb4, lt_of_block hb4⟩
  rcases e.symm with e | e
  · simp only [blk, hgn, Option.some.injEq] at e
    subst e
    rcases hat with e | e
    · exact .inl (.inr e)
    · exact .inr e
  · exact .inl (.inl e)
theorem bind_ends {W w1 : World} {gg cap n : Nat} {p z : Kd} (H : FrS C q s left R w) (kW : Quiet w W) (hv : SafeF (fun k => C.m.own q k ∨ C.x R k) (fun w => Is w p.1 p.2.1) w) (hn : R.m = n)
    (hr : w1.ownsRow C.w0.heap.size 38 3 (.slice (some ⟨gg, 0, none⟩) (n + 1) cap) (n + 1) (tris R.qs ++ tri z)) (hg : W.grownBy w1 (blk R.na R.m R.nc)) (hat : blk R.na R.m R.nc = some gg ∨ W.heap.size ≤ gg) :
    FrS C q s left ⟨R.sa, R.n, R.sc, R.ps, some ⟨gg, 0, none⟩, R.m + 1, cap, R.qs ++ [p]⟩ ((((w1.setCell ⟨gg, n * 3, none⟩ (.int .i64 p.1.kind)).setCell ⟨gg, n * 3 + 1, none⟩ (.int .i64 p.1.n)).setCell ⟨gg, n * 3 + 2, none⟩ (.slice p.2.1 p.1.l.length p.2.2)).setCell ⟨C.fb, 5, none⟩ (.slice (some ⟨gg, 0, none⟩) (n + 1) cap)) ∧
    FrS C q s left ⟨R.sa, R.n, R.sc, R.ps, some ⟨gg, 0, none⟩, R.m + 1, cap, R.qs ++ [p]⟩ ((((w1.setCell ⟨C.fb, 5, none⟩ (.slice (some ⟨gg, 0, none⟩) (n + 1) cap)).setCell ⟨gg, n * 3, none⟩ (.int .i64 p.1.kind)).setCell ⟨gg, n * 3 + 1, none⟩ (.int .i64 p.1.n)).setCell ⟨gg, n * 3 + 2, none⟩ (.slice p.2.1 p.1.l.length p.2.2)) ∧
    (w1.cell? ⟨C.fb, 5, none⟩ = some (.slice R.na R.m R.nc) ∧ w1.frozen? ⟨C.fb, 5, none⟩ = false ∧ C.fb < w1.heap.size) ∧ gg ≠ C.fb := by
  subst hn
  have hl := H.two.ln
  obtain ⟨a3, b3⟩ := lay_row p z hl hr
  have hg4 := grown_then2 hg b3 hat
  obtain ⟨f1, f2, f3, f4⟩ := H.bind2 kW hv a3 hg4 hat
  have hne : gg ≠ C.fb := by
    rcases hat with e | e
    · exact (H.rfree _ (.inr e)).2.2.1
    · have := lt_of_block H.fr; have := kW.size; omega
  have hf : (⟨C.fb, 5, none⟩ : Addr).block ≠ gg := fun e => hne e.symm
  refine ⟨f1, ?_, ?_, hne⟩
  · rw [set_comm w1 ⟨C.fb, 5, none⟩ ⟨gg, R.m * 3, none⟩ _ _ hf, set_comm _ ⟨C.fb, 5, none⟩ ⟨gg, R.m * 3 + 1, none⟩ _ _ hf, set_comm _ ⟨C.fb, 5, none⟩ ⟨gg, R.m * 3 + 2, none⟩ _ _ hf]
    exact f1
  · have HW := H.quiet kW
    have k1 : Kp (fun k => blk R.na R.m R.nc = some k) W w1 := Kp.grown hg fun k _ e => e.symm
    have hb : w1.heap[C.fb]? = _ := (k1.block _ (lt_of_block HW.fr) fun e => (HW.rfree _ (.inr e)).2.2.1 rfl).trans HW.fr
    exact ⟨by simp [World.cell?, hb], frozen_of_row w1 _ 5 _ _ hb, lt_of_block hb⟩
end
end Go.Proofs.YtkpckmcaeljocaaGreat
