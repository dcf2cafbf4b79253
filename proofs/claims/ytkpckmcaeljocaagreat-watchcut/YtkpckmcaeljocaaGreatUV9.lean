/- Parts. -/
import Derived.Test.YtkpckmcaeljocaaGreatUOwnWalk
namespace Go.Proofs.YtkpckmcaeljocaaGreat
open Go.ChangeShapes Go.WideShapes Go.ChangeAt Go.RowKit
theorem keeps_kp {w w' : World} {R : Nat → Bool} {h : Nat} (q : Kp (fun k => R k = true) w w') (hh : h ≤ w.heap.size) : Keeps R h w w' :=
  ⟨fun k hr hk => q.block k (by omega) (by simp [hr]), fun k _ _ hr e => (q.block k (lt_of_block e) (by simp [hr])).trans e⟩
def SetR (F : Nat → Prop) (n x : Nat) (R : Nat → Bool) : Prop := ∀ k, R k = true ↔ ((F k ∧ k < n) ∨ k = x)
theorem setR_ex (F : Nat → Prop) (n x : Nat) : ∃ R, SetR F n x R := by
  classical
  exact ⟨fun k => decide ((F k ∧ k < n) ∨ k = x), fun k => decide_eq_true_iff⟩
theorem SetR.no {F : Nat → Prop} {n x k : Nat} {R : Nat → Bool} (hR : SetR F n x R) (h : ¬ F k) (hx : k ≠ x) : R k = false := by
  cases e : R k with
  | false => rfl
  | true => rcases (hR k).1 e with e | e; exact absurd e.1 h; exact absurd e hx
theorem SetR.yes {F : Nat → Prop} {n x k : Nat} {R : Nat → Bool} (hR : SetR F n x R) (h : R k = false) (hk : k < n) : ¬ F k := fun e => by
  rw [(hR k).2 (.inl ⟨e, hk⟩)] at h; cases h
theorem cut_kp {F : Nat → Prop} {w W : World} {x : Nat} {R : Nat → Bool} (hR : SetR F w.heap.size x R) (q : Quiet w W) (hx : w.heap.size ≤ x) : Kp F w (cutV R W.heap.size W) := by
  refine ⟨q.os, q.tape, q.output, by simpa [cutV] using q.size, fun k hk hF => ?_⟩
  rw [cutV_old (hR.no hF (by omega)) (by have := q.size; omega)]
  exact q.block k hk fun e => e
theorem uncut_safe {F : Nat → Prop} {n h x : Nat} {w : World} {v : V} {ao : Option Addr} {R : Nat → Bool} (hR : SetR F n x R) (hF : ∀ k, F k → k < n) (hi : Is (cutV R h w) v ao) : SafeF F (fun w => Is w v ao) w := by
  intro w2 k2
  refine hi.kept fun a u hc => ?_
  obtain ⟨h1, h2, _⟩ := cutV_cell hc
  refine k2.cell h1 fun e => ?_
  exact hR.yes h2 (hF _ e) e
set_option maxRecDepth 8000 in
set_option maxHeartbeats 1000000 in
theorem ownS_any (F : Nat → Prop) (v : V) (ao : Option Addr) (cap : Nat) (w : World) (hF : ∀ k, F k → k < w.heap.size) (hI : SafeF F (fun w => Is w v ao) w) (hS : v.size ≤ 500) :
    Calls Tryz.prog 107 #[.agg #[.int .i64 v.kind, .int .i64 v.n, .slice ao v.l.length cap]] w fun e w' => ∃ ao' cap', e = .returned (.agg #[.int .i64 v.kind, .int .i64 v.n, .slice ao' v.l.length cap']) ∧ SafeF F (fun w => Is w v ao') w' ∧ Quiet w w' := by
  obtain ⟨W, hW⟩ : ∃ W, W = ((w.alloc (.cells #[.int .i64 v.kind, .int .i64 v.n, .slice ao v.l.length cap] 38)).alloc (.cells #[.int .i64 0, .int .i64 0, .slice none 0 0] 38)).alloc (.cells #[.int .i64 v.kind, .int .i64 v.n, .slice ao v.l.length cap] 38) := ⟨_, rfl⟩
  have q3 : Quiet w W := by rw [hW]; exact (Kp.alloc _ _).trans ((Kp.alloc _ _).trans (Kp.alloc _ _))
  have sW : W.heap.size = w.heap.size + 3 := by rw [hW]; simp
  have b1 : W.heap[w.heap.size + 1]? = some (.cells #[.int .i64 0, .int .i64 0, .slice none 0 0] 38 (0, 0)) := by
    rw [hW, Below.heap_alloc _ _ _ (by simp)]; exact heap_two w _ _
  have b2 : W.heap[w.heap.size + 2]? = some (.cells #[.int .i64 v.kind, .int .i64 v.n, .slice ao v.l.length cap] 38 (0, 0)) := by
    rw [hW]; have := heap_alloc_new ((w.alloc (.cells #[.int .i64 v.kind, .int .i64 v.n, .slice ao v.l.length cap] 38)).alloc (.cells #[.int .i64 0, .int .i64 0, .slice none 0 0] 38)) (.cells #[.int .i64 v.kind, .int .i64 v.n, .slice ao v.l.length cap] 38); simpa using this
  obtain ⟨R, hR⟩ := setR_ex F w.heap.size (w.heap.size + 1)
  have hRn : ∀ k, w.heap.size ≤ k → k ≠ w.heap.size + 1 → R k = false := fun k h1 h2 => hR.no (fun e => by have := hF k e; omega) h2
  have hF1 : Fo (cutV R W.heap.size W) [v] (some ⟨w.heap.size + 2, 0, none⟩) := by
    refine fo_single (ao := ao) (cap := cap) ?_ (hI _ (cut_kp hR q3 (by omega)))
    rw [cutV_old (hRn _ (by omega) (by omega)) (by omega)]; exact b2
  have hr0 : ∀ k, R k = true → k < W.heap.size := by
    intro k e
    rcases Nat.lt_or_ge k W.heap.size with h | h
    · exact h
    · rw [hRn k (by omega) (by omega)] at e; cases e
  have HO := hid (own_any [v] (some ⟨w.heap.size + 2, 0, none⟩) 1 R W hr0 hF1 (by rw [sizes_one]; omega))
  rw [List.length_singleton] at HO
  have HB := hid (And.intro q3 (And.intro sW b1))
  have HW := hid hW
  have HR := hid (And.intro hR hF)
  rw [hW] at HO
  clear b1 b2 hF1 q3 sW hW hI hr0 hRn hR hF
  go_enter Tryz.func107, Tryz.ntmps107
  go_wp2_with (go_at_call 130; refine HO.out.mono ?_; rintro e w3 ⟨a3, c3, rfl, f3, q3⟩; rw [← HW.out] at f3 q3; obtain ⟨b, off, rfl, hh, ai, ci, cs, hci⟩ := f3.get 0 (by simp); simp only [List.getElem_cons_zero, Nat.zero_mul, Nat.add_zero] at hh cs hci; obtain ⟨d0, d1⟩ := head_kept (fun a x hc => (cutV_cell hc).1) hh; have ds := (cutV_cell cs).1; have hb3 := (q3.block _ (lt_of_block HB.out.2.2) (fun e => e)).trans HB.out.2.2; obtain ⟨r0, r1, rs⟩ := box_cells hb3; have f0 := frozen_of_row w3 (w.heap.size + 1) 0 _ 38 hb3; have f1 := frozen_of_row w3 (w.heap.size + 1) 1 _ 38 hb3; have f2 := frozen_of_row w3 (w.heap.size + 1) 2 _ 38 hb3; have hz3 := lt_of_block hb3; have HC := hid hci; clear hci hh cs f3 hb3)
  refine bodyPost_ret (v := .agg #[.int .i64 v.kind, .int .i64 v.n, .slice ai v.l.length ci]) (by simp [results, Tryz.results107, go_sem, r0, r1, rs]) rfl ?_
  have qz : Kp (fun k => k = w.heap.size + 1) w3 (((w3.setCell ⟨w.heap.size + 1, 0, none⟩ (.int .i64 v.kind)).setCell ⟨w.heap.size + 1, 1, none⟩ (.int .i64 v.n)).setCell ⟨w.heap.size + 1, 2, none⟩ (.slice ai v.l.length ci)) := ((kp_set _ _ _ _).trans (kp_set _ _ _ _)).trans (kp_set _ _ _ _)
  have qr : Kp (fun k => R k = true) w3 (((w3.setCell ⟨w.heap.size + 1, 0, none⟩ (.int .i64 v.kind)).setCell ⟨w.heap.size + 1, 1, none⟩ (.int .i64 v.n)).setCell ⟨w.heap.size + 1, 2, none⟩ (.slice ai v.l.length ci)) := qz.mono fun k _ e => (HR.out.1 k).2 (.inr e)
  refine ⟨ai, ci, rfl, ?_, (HB.out.1.trans q3).fresh (qz.mono fun k _ e => by omega)⟩
  have h1 := HC.out.kept (keeps_kp qr (by have := q3.size; omega)).cell
  exact uncut_safe HR.out.1 HR.out.2 h1
open Gr (Nd Res nd0 thereB openB deriveOf addOf gateOf cutOf cellB cellOf funcB funcOf rightsN wayOf gatesOf gatesW targetOf Wf NdOk GS IntsAt)
theorem plug_any (p : Int) (w : World) : Calls Tryz.prog 62 #[.int .i64 p] w fun e w' => e = .returned (.bool (plugB p)) ∧ w' = w := by
  by_cases h0 : 0 ≤ p
  · by_cases h1 : p < 4
    · have hE := hid (show plugB p = true by simp [plugB]; omega)
      go_enter Tryz.func62, Tryz.ntmps62
      go_wp2
      go_ret
      exact ⟨by rw [hE.out]; simp [*], rfl⟩
    · have hE := hid (show plugB p = false by simp [plugB]; omega)
      go_enter Tryz.func62, Tryz.ntmps62
      go_wp2
      go_ret
      exact ⟨by rw [hE.out]; simp [*], rfl⟩
  · have hE := hid (show plugB p = false by simp [plugB]; omega)
    have hd : decide (0 ≤ p) = false := by simpa using h0
    go_enter Tryz.func62, Tryz.ntmps62
    go_wp2
    go_ret
    exact ⟨by rw [hE.out]; simp [*], rfl⟩
theorem made_yes (k n : Int) (w : World) : Calls Tryz.prog 50 #[.int .i64 k, .int .i64 n, .int .i64 0] w fun e w' => e = .returned (.agg #[.int .i64 0, .int .i64 0, .int .i64 k, .int .i64 n, .slice none 0 0]) ∧ Quiet w w' := by
  go_enter Tryz.func50, Tryz.ntmps50
  go_wp2
  refine bodyPost_ret (v := .agg #[.int .i64 0, .int .i64 0, .int .i64 k, .int .i64 n, .slice none 0 0]) (by simp [results, Tryz.results50, go_sem]) rfl ⟨rfl, ?_⟩
  exact Kp.alloc _ _
theorem made_no (k n c : Int) (hc : c ≠ 0) (w : World) : Calls Tryz.prog 50 #[.int .i64 k, .int .i64 n, .int .i64 c] w fun e w' => e = .returned (.agg #[.int .i64 c, .int .i64 0, .int .i64 0, .int .i64 0, .slice none 0 0]) ∧ Quiet w w' := by
  go_enter Tryz.func50, Tryz.ntmps50
  go_wp2
  refine bodyPost_ret (v := .agg #[.int .i64 c, .int .i64 0, .int .i64 0, .int .i64 0, .slice none 0 0]) (by simp [results, Tryz.results50, go_sem]) rfl ⟨rfl, ?_⟩
  exact Kp.alloc _ _
section
variable {M : Hx} {q : Hq} {h : Hs} {w : World} {X : Nat → Prop}
theorem HouseS.handc (H : HouseS X M q h w) (j : Nat) (hj : j < 4) : w.cell? ⟨M.hb, 1 + j, none⟩ = some (handV q h j) := by
  have hb := H.obj
  obtain rfl | rfl | rfl | rfl : j = 0 ∨ j = 1 ∨ j = 2 ∨ j = 3 := by omega
  all_goals simp [World.cell?, hb]
def handW (q : Hq) (h : Hs) (p : Int) : Value := if plugB p then handV q h p.toNat else .slice none 0 0
set_option maxRecDepth 8000 in
set_option maxHeartbeats 1000000 in
theorem xhand_any (H : HouseS X M q h w) (p : Int) : Calls Tryz.prog 35 #[.pointer (some ⟨M.hb, 0, none⟩), .int .i64 p] w fun e w' => e = .returned (handW q h p) ∧ w' = w := by
  cases hp : plugB p with
  | false =>
    have hE := hid (show handW q h p = .slice none 0 0 by simp [handW, hp])
    go_enter Tryz.func35, Tryz.ntmps35
    go_wp2_with (go_at_call 62; refine (plug_any p _).mono ?_; rintro e w' ⟨rfl, rfl⟩; rw [hp])
    go_ret
    exact ⟨by rw [hE.out]; rfl, rfl⟩
  | true =>
    have hpp : 0 ≤ p ∧ p < 4 := by simpa [plugB] using hp
    obtain ⟨j, rfl⟩ : ∃ j : Nat, p = j := ⟨p.toNat, by omega⟩
    have hE := hid (show handW q h j = handV q h j by simp [handW, hp])
    have hc := H.handc j (by omega)
    have hj4 : (j : Int) < 4 := hpp.2
    unfold handV at hc hE
    clear hpp
    go_enter Tryz.func35, Tryz.ntmps35
    go_wp2_with (go_at_call 62; refine (plug_any j _).mono ?_; rintro e w' ⟨rfl, rfl⟩; rw [hp])
    go_ret
    exact ⟨by rw [hE.out]; simp, rfl⟩
end
theorem equalVals (d : Nat) (a : Option Addr) (n c : Nat) (w : World) : (Op.equalIn (d + 1) 36 (.slice a n c) (.slice none 0 0)).run Tryz.prog w = .ok a.isNone w := by
  cases a <;> simp [Op.equalIn, run_underlying Tryz.undV]
theorem eqlVals (a : Option Addr) (n c : Nat) (w : World) : (binOp .eql 36 (.slice a n c) (.slice none 0 0)).run Tryz.prog w = .ok (.bool a.isNone) w := by
  simp only [binOp]
  simp [Op.equal, Op.maxDepth, equalVals 9999 a n c w]
theorem cloneV_done {w w1 : World} {o : Obj} {v' : Value} {n : Nat} {xs : List Value} (hr : w1.ownsRow w.heap.size 38 3 v' (0 + n) ([] ++ xs)) (hg : (w.alloc o).grownBy w1 (Value.slice (some ⟨w.heap.size, 0, none⟩) 0 0).ownBlock) :
    w1.ownsRow w.heap.size 38 3 v' n xs ∧ Quiet w w1 := by
  refine ⟨by simpa using hr, hg.os, hg.tape, hg.output, Nat.le_trans (Kp.alloc (F := fun _ => False) w o).size hg.size, fun k hk _ => ?_⟩
  rw [hg.block k (by simp; omega) (by simp [Value.ownBlock]; omega)]
  exact Below.heap_alloc w o k hk
set_option maxRecDepth 8000 in
set_option maxHeartbeats 1000000 in
theorem cloneV_any (B : Nat) (w : World) (v : Value) (n : Nat) (ps : List Kd) (h : w.ownsRow B 38 3 v n (tris ps)) (hl : n = ps.length) (hn : n ≤ 100000) :
    Calls Tryz.prog 34 #[v] w fun e w' => ∃ ao cap, e = .returned (.slice ao n cap) ∧ w'.ownsRow w.heap.size 38 3 (.slice ao n cap) n (tris ps) ∧ Quiet w w' := by
  obtain ⟨i0, hi, hz0, hz1, hz2⟩ := info_parts Tryz.infoV
  have q := eqlVals
  rcases h.2 with ⟨rfl, h0⟩ | ⟨g, cap, cur, rfl, _⟩
  · have hN := hid (show w.ownsRow w.heap.size 38 3 (.slice none 0 0) n (tris ps) from ⟨h.1, .inl ⟨rfl, h0⟩⟩)
    subst h0
    clear h hl
    go_enter Tryz.func34, Tryz.ntmps34
    go_wp2
    go_ret
    exact ⟨_, _, rfl, hN.out, Kp.refl _ _⟩
  · have hlen : (tris ps).length = n * 3 := by rw [tris_len, hl]
    have hmade := hid (World.ownsRow_made (base := w.heap.size) (e := 38) (size := 3) w #[] 0 (Nat.le_refl _) (by decide) (by simp))
    have hsrc := hid ((h.alloc (.cells #[] 38)).cells rfl)
    clear h hl
    go_enter Tryz.func34, Tryz.ntmps34
    go_wp2_with (at_builtin; refine wpList_append_own _ rfl (.tmp 5) (.tmp 6) 36 rfl w.heap.size 38 i0 _ 3 40 Tryz.undV hi hz0 hz1 hz2 rfl (by decide) (.slice (some ⟨w.heap.size, 0, none⟩) 0 0) 0 [] rfl hmade.out ⟨g, 0, none⟩ n cap (tris ps) rfl hlen hsrc.out (tris_onec ps) (by unfold maxLen; omega) (by omega) (by simp) ?_; intro v' w1 hr hg _; have hD0 := cloneV_done hr hg; clear hr hg; obtain ⟨ao, cap', rfl⟩ := Gr.owns_shape hD0.1; have hD := hid hD0; clear hD0)
    go_ret
    exact ⟨_, _, rfl, hD.out.1, hD.out.2⟩
section
variable {M : Hx} {q : Hq} {h : Hs} {w : World} {X : Nat → Prop}
theorem hd_map (l : List V) : (hd l).map (·.1) = l := by induction l with
  | nil => rfl
  | cons v l ih => simp only [hd, List.map_cons] at ih ⊢; rw [ih]
theorem HouseS.all (H : HouseS X M q h w) (k : Nat) (e : OwnH M q k ∨ X k) : k < w.heap.size := by
  rcases e with e | e
  · exact (H.own k e).2
  · exact (H.xo k e).1
theorem handW_row (H : HouseS X M q h w) (p : Int) : w.ownsRow M.B 38 3 (handW q h p) (handOf h p).length (tris (hd (handOf h p))) ∧ ∀ v ∈ handOf h p, v.l = [] ∧ v.fits := by
  unfold handW handOf
  cases hp : plugB p with
  | false =>
    have hpp : ¬ (0 ≤ p ∧ p < 4) := by simpa [plugB] using hp
    rw [if_neg hpp]
    exact ⟨World.ownsRow_nil _ _ _ _, fun v hv => by simp at hv⟩
  | true =>
    have hpp : 0 ≤ p ∧ p < 4 := by simpa [plugB] using hp
    rw [if_pos hpp]
    exact ⟨H.row p.toNat (by omega), H.leaf p.toNat (by omega)⟩
theorem few_hand (hf : FewH h) (p : Int) : (handOf h p).length ≤ 100000 := by
  unfold handOf
  split
  · exact hf _
  · simp
set_option maxRecDepth 8000 in
set_option maxHeartbeats 1000000 in
theorem hhand_c : HHandC := by
  intro X M q h w p H hf _
  obtain ⟨hr, hl⟩ := handW_row H p
  have HA := hid H.all
  have HL := hid hl
  have HC := hid (cloneV_any M.B w (handW q h p) (handOf h p).length (hd (handOf h p)) hr (by simp [hd]) (few_hand hf p))
  have HH := hid (xhand_any H p)
  clear H hf hr hl
  generalize handW q h p = hv at *
  go_enter Tryz.func20, Tryz.ntmps20
  go_wp2_with (first
    | (go_at_call 34; refine HC.out.mono ?_; rintro e w3 ⟨ao, cap, rfl, r3, q3⟩; have H3 := hid (And.intro r3 q3); clear r3 q3)
    | (go_at_call 35; refine HH.out.mono ?_; rintro e w2 ⟨rfl, h2⟩; replace h2 := h2.symm; subst h2))
  go_ret
  refine ⟨ao, cap, rfl, fun w' k => ?_, H3.out.2⟩
  have hr := k.row H3.out.1 fun i hi e => by have := (H3.out.1.lt i hi).1; have := HA.out i e; omega
  have := fo_row hr (by simp [hd]) fun x hx => by
    simp only [hd, List.mem_map] at hx
    obtain ⟨v, hv, rfl⟩ := hx
    exact Is.leaf w' v (HL.out v hv).2 (HL.out v hv).1 none
  rwa [hd_map] at this
end
end Go.Proofs.YtkpckmcaeljocaaGreat
