/- The contract of search with the question of Caps. -/
import Derived.Test.YtegpnncmphhjjabDoorSearchC
import Derived.Test.YtegpnncmphhjjabDoorKit
namespace Go.Proofs.YtegpnncmphhjjabDoor
open Go.ChangeShapes Go.WideShapes Go.ChangeAt Go.RowKit
/-- The variable of Caps, and its row. -/
structure CS (B : Nat) (w : World) (bc : Nat) (sv : Value) (cs : List Int) : Prop where
  obj : w.heap[bc]? = some (.cells #[sv] 31 (0, 0))
  row : w.ownsRow B 3 1 sv cs.length (ints cs)
  nb : sv.ownBlock ≠ some bc
  lo : B ≤ bc
  nil : cs = [] → sv = .slice none 0 0
theorem CS.quiet {B : Nat} {w w' : World} {bc : Nat} {sv : Value} {cs : List Int} (h : CS B w bc sv cs) (q : Quiet w w') : CS B w' bc sv cs :=
  { h with obj := (q.block bc (lt_of_block h.obj) fun e => e).trans h.obj, row := q.row h.row fun _ _ e => e }
/-- What may turn: the variable and its row. -/
def CSOwn (bc : Nat) (sv : Value) (k : Nat) : Prop := k = bc ∨ sv.ownBlock = some k
theorem caps_step {B : Nat} {w w1 : World} {bc : Nat} {sv : Value} {cs : List Int} {o1 o2 : Obj} {x : Int} {g cap : Nat} (h : CS B w bc sv cs)
    (hr : w1.ownsRow B 3 1 (.slice (some ⟨g, 0, none⟩) (cs.length + 1) cap) (cs.length + 1) (ints cs ++ [.int .i64 x])) (hg : ((w.alloc o1).alloc o2).grownBy w1 sv.ownBlock) (hat : sv.ownBlock = some g ∨ g = w.heap.size + 2) :
    CS B (w1.setCell ⟨bc, 0, none⟩ (.slice (some ⟨g, 0, none⟩) (cs.length + 1) cap)) bc (.slice (some ⟨g, 0, none⟩) (cs.length + 1) cap) (cs ++ [x]) ∧ Kp (CSOwn bc sv) w (w1.setCell ⟨bc, 0, none⟩ (.slice (some ⟨g, 0, none⟩) (cs.length + 1) cap)) := by
  have hlt := lt_of_block h.obj
  have q0 : Quiet w ((w.alloc o1).alloc o2) := (Kp.alloc _ _).trans (Kp.alloc _ _)
  have q1 : Kp (fun k => sv.ownBlock = some k) ((w.alloc o1).alloc o2) w1 := Kp.grown hg fun k _ e => e.symm
  have hb : w1.heap[bc]? = some (.cells #[sv] 31 (0, 0)) := ((q1.block bc (by have := q0.size; omega) h.nb).trans (q0.block bc hlt fun e => e)).trans h.obj
  have hgb : g ≠ bc := by
    rintro rfl
    rcases hat with e | e
    · exact h.nb e
    · omega
  refine ⟨⟨one_setCell hb, ?_, by simp [Value.ownBlock]; exact hgb, h.lo, fun e => by simp at e⟩, ?_⟩
  · have := (Kp.setCell (F := fun k => k = bc) w1 ⟨bc, 0, none⟩ (.slice (some ⟨g, 0, none⟩) (cs.length + 1) cap) rfl).row hr (fun k e => by simp [Value.ownBlock] at e; omega)
    simpa [ints] using this
  · exact ((q0.mono fun _ _ e => e.elim).trans (q1.mono fun _ _ e => .inr e)).trans (Kp.setCell _ _ _ (.inl rfl))
def capOf (k n : Int) : List Int := if k = 4 then [n] else []
set_option maxHeartbeats 1000000 in
theorem capsQ_any (v : V) (ao : Option Addr) (cap bc B : Nat) (sv : Value) (cs : List Int) (w : World) (h : CS B w bc sv cs) (hB : B ≤ w.heap.size) (hcs : cs.length ≤ 500) :
    Calls Tryd.prog 29 #[.agg #[.int .i64 v.kind, .int .i64 v.n, .slice ao v.l.length cap], .pointer (some ⟨bc, 0, none⟩)] w fun e w' => e = .returned (.bool false) ∧ ∃ sv', CS B w' bc sv' (cs ++ capOf v.kind v.n) ∧ Kp (CSOwn bc sv) w w' := by
  obtain ⟨i0, hi, hz0, hz1, hz2⟩ := info_parts Tryd.infoI
  obtain ⟨k, n, l⟩ := v
  have hlt := lt_of_block h.obj
  by_cases hk : k = 4
  · subst hk
    have h1 := h.quiet (Kp.alloc w (.cells #[.int .i64 4, .int .i64 n, .slice ao l.length cap] 24))
    have h2 := h1.quiet (Kp.alloc _ (.cells #[.int .i64 n] 3))
    have c1 := cell_of_one h1.obj
    have hrow := h2.row
    obtain ⟨av, cv, hsv⟩ := owns_shape hrow
    have hE := hid (show capOf 4 n = [n] by simp [capOf])
    have HH := hid h
    have hf : ∀ (w1 : World), ((w.alloc (.cells #[.int .i64 4, .int .i64 n, .slice ao l.length cap] 24)).alloc (.cells #[.int .i64 n] 3)).grownBy w1 sv.ownBlock → w1.cell? ⟨bc, 0, none⟩ = some sv ∧ w1.frozen? ⟨bc, 0, none⟩ = false := by
      intro w1 hg
      have q1 : Kp (fun k => sv.ownBlock = some k) _ w1 := Kp.grown hg fun k _ e => e.symm
      have hb := (q1.block bc (lt_of_block h2.obj) h.nb).trans h2.obj
      exact ⟨cell_of_one hb, free_of_one hb⟩
    subst hsv
    clear h h1 h2
    go_enter Tryd.func29, Tryd.ntmps29
    go_wp2_with (at_builtin; refine wpList_append_lies _ rfl (.tmp 7) (.tmp 10) 31 rfl B 3 i0 _ 1 8 Tryd.undI hi hz0 hz1 hz2 rfl (by decide) _ cs.length (ints cs) rfl hrow ⟨w.heap.size + 1, 0, none⟩ 1 1 [.int .i64 n] rfl rfl (news_from (t := 3) (heap_two w _ _)) (by simp [Value.oneCell']) (by decide) (by unfold maxLen; omega) (by omega) (by simp; omega) (w.heap.size + 2) (by simp) ?_; intro g2 cap2 w1 hr1 hg1 hat hlt1; have hS := hid (caps_step (x := n) HH.out hr1 hg1 hat); have f1 := (hf w1 hg1).2; have f0 := (hf w1 hg1).1; clear hr1 hg1 hat hlt1)
    go_ret
    exact ⟨rfl, _, by rw [hE.out]; exact hS.out.1, hS.out.2⟩
  · have hE := hid (show capOf k n = [] by simp [capOf, hk])
    go_enter Tryd.func29, Tryd.ntmps29
    go_wp2
    go_ret
    refine ⟨rfl, sv, ?_, Kp.alloc _ _⟩
    rw [hE.out, List.append_nil]
    exact h.quiet (Kp.alloc _ _)
theorem caps_cons (k n : Int) (l : List V) : (V.mk k n l).caps = capOf k n ++ capsIn (pres l) := by rw [caps_eq]; rfl
set_option maxHeartbeats 1000000 in
theorem searchP_any (w0 : World) (bc : Nat) (v : V) : ∀ (ao : Option Addr) (cap : Nat) (sv : Value) (cs : List Int) (w : World), Is w0 v ao → cs.length + v.size ≤ 500 → Below w0.heap.size w0 w → CS w0.heap.size w bc sv cs →
    Calls Tryd.prog 23 #[.agg #[.int .i64 v.kind, .int .i64 v.n, .slice ao v.l.length cap], .func (.func 29) #[] #[.pointer (some ⟨bc, 0, none⟩)]] w fun e w' => e = .returned (.bool false) ∧ ∃ sv', CS w0.heap.size w' bc sv' (cs ++ v.caps) ∧ Below w0.heap.size w w' := by
  induction v using V.ind with
  | h k n l ih =>
    intro ao cap sv cs w hI hS hB hC
    have hlt0 := lt_of_block hC.obj
    rw [size_mk] at hS
    have hlen : l.length ≤ 500 := by have := sizes_len l; omega
    have hc1 := hC.quiet (Kp.alloc w (.cells #[.int .i64 k, .int .i64 n, .slice ao l.length cap] 24))
    have hE := hid (caps_cons k n l)
    have hcl : (capOf k n).length ≤ 1 := by unfold capOf; split <;> simp
    have hlo := hC.lo
    have hrl := hC.row.lt
    have hsz0 := hB.size
    go_enter Tryd.func23, Tryd.ntmps23
    go_wp2_with (go_at_call 29; refine (capsQ_any ⟨k, n, l⟩ ao cap bc w0.heap.size sv cs _ hc1 (by simp; omega) (by omega)).mono ?_; rintro e w2 ⟨rfl, sv2, hb, q2⟩; have c2 : w2.cell? ⟨w.heap.size, 2, none⟩ = some (.slice ao l.length cap) := q2.cell (by simp) (by rintro (e | e); exact absurd e (by show ¬ w.heap.size = bc; omega); exact absurd (hrl _ e).2 (by simp)))
    go_loopw [13] (fun i wr => ∃ (j : Nat) (svr : Value), j ≤ l.length ∧ i = .int .i64 j ∧ CS w0.heap.size wr bc svr (cs ++ (capOf k n ++ capsIn (pres (l.take j)))) ∧ Below w0.heap.size w wr) (fun i _ => l.length - (intOf i).toNat)
    case atStart =>
      refine ⟨0, sv2, Nat.zero_le _, rfl, by simpa [pres_nil, capsIn] using hb, ?_⟩
      exact ((Below.refl _ _).alloc hsz0 _).trans (q2.below (by simp; omega) (by rintro k (rfl | e); exact hlo; exact (hrl _ e).1))
    case round =>
      obtain ⟨j, svr, hj, rfl, hbr, qr⟩ := hrel
      by_cases hlt : j < l.length
      · have hBr : Below w0.heap.size w0 wr := hB.trans qr
        have hIr := hI.low hBr
        obtain ⟨b, off, rfl, d0, d1, ai, ci, d2, hi⟩ := hI.get j hlt
        obtain ⟨b', off', e', d0', d1', ai', ci', d2', hi'⟩ := hIr.get j hlt
        cases e'
        obtain rfl : ai' = ai := by
          have h1 := (World.cell?_of_block (hBr.block _ (World.block_lt_of_cell? w0 _ d2))).trans d2
          rw [d2'] at h1; simp at h1; exact h1.1
        have hnx := caps_take l j hlt
        have hpl : (capsIn (pres (l.take j))).length ≤ sizes (l.take j) := caps_lens _
        have hts := sizes_take l j hlt
        have htl := sizes_take_le l (j + 1)
        have hih := hid (ih l[j] (List.getElem_mem hlt) ai' ci' svr)
        have hBa : ∀ o, Below w0.heap.size w0 (wr.alloc o) := fun o => hBr.alloc (hBr.size) o
        have hca : ∀ o, CS w0.heap.size (wr.alloc o) bc svr _ := fun o => hbr.quiet (Kp.alloc _ o)
        have hszr := hBr.size
        generalize hu : l[j] = u at *
        have HU := hid hu
        have HN := hid hnx
        have HS := hid (show (cs ++ (capOf k n ++ capsIn (pres (l.take j)))).length + u.size ≤ 500 by simp only [List.length_append]; omega)
        clear hu hnx hI hIr ih hi' d0 d1 d2 hts htl hpl
        go_wp2_with (go_at_call 23; refine (hih.out _ _ hi HS.out (hBa _) (hca _)).mono ?_; rintro e w3 ⟨rfl, sv3, hb3, q3⟩)
        refine ⟨⟨j + 1, sv3, by omega, by go_num, ?_, qr.trans (((Below.refl _ _).alloc hszr _).trans q3)⟩, by simp [intOf]; omega⟩
        rw [HN.out]
        simpa only [List.append_assoc] using hb3
      · have hjl : j = l.length := by omega
        subst hjl
        have HG := hid hbr
        clear hbr ih
        go_wp2
        go_ret
        refine ⟨rfl, svr, ?_, qr⟩
        rw [hE.out]
        have := HG.out
        rwa [List.take_length] at this
end Go.Proofs.YtegpnncmphhjjabDoor
