/- The contract of vals.Own: what it answers stays, whatever some old blocks become. The program's own house: whether a number is a plugin's, an event, a hand, a capability; Hand and Kept. The program's own house: a module is loaded. The program's own house: a capability, a module. -/
import Derived.Test.YtgojcohcimmfjaaGreatUOwnWalk
import Derived.Test.YtgojcohcimmfjaaGreatUV4
import Derived.Test.YtgojcohcimmfjaaGreatUP0
import Derived.Test.YtgojcohcimmfjaaGreatUV6
import Derived.Test.YtgojcohcimmfjaaGreatUM0
import Derived.Test.YtgojcohcimmfjaaGreatUG1
import Derived.StillTailTactics
import Derived.Deep.RegionLaw
import Derived.Deep.RegionHeld3
namespace Go.Proofs.YtgojcohcimmfjaaGreat
open Go.ChangeShapes Go.WideShapes Go.ChangeAt Go.RowKit
theorem keeps_kp {w w' : World} {R : Nat → Bool} {h : Nat} (q : Kp (fun k => R k = true) w w') (hh : h ≤ w.heap.size) : Keeps R h w w' :=
  ⟨fun k hr hk => q.block k (by omega) (by simp [hr]), fun k _ _ hr e => (q.block k (lt_of_block e) (by simp [hr])).trans e⟩
/-- The blocks of F that are old, and one more. -/
def SetR (F : Nat → Prop) (n x : Nat) (R : Nat → Bool) : Prop := ∀ k, R k = true ↔ ((F k ∧ k < n) ∨ k = x)
theorem setR_ex (F : Nat → Prop) (n x : Nat) : ∃ R, SetR F n x R := by
  classical
  exact ⟨fun k => decide ((F k ∧ k < n) ∨ k = x), fun k => decide_eq_true_iff⟩
theorem SetR.no {F : Nat → Prop} {n x k : Nat} {R : Nat → Bool} (hR : SetR F n x R) (h : ¬ F k) (hx : k ≠ x) : R k = false := by
  cases e : R k with
  | false => rfl
  | true => rcases (hR k).1 e with e | e; exact absurd e.1 h; exact absurd e hx
theorem SetR.yes {F : Nat → Prop} {n x k : Nat} {R : Nat → Bool} (hR : SetR F n x R) (h : R k = false) (hk : k < n) : ¬ F k := fun e => by
  rw [(hR k).2 (.inl ⟨e, hk⟩)] at h; cases h
/-- The old memory without blocks of F: what stays whatever these become lies there. -/
theorem cut_kp {F : Nat → Prop} {w W : World} {x : Nat} {R : Nat → Bool} (hR : SetR F w.heap.size x R) (q : Quiet w W) (hx : w.heap.size ≤ x) : Kp F w (cutV R W.heap.size W) := by
  refine ⟨q.os, q.tape, q.output, by simpa [cutV] using q.size, fun k hk hF => ?_⟩
  rw [cutV_old (hR.no hF (by omega)) (by have := q.size; omega)]
  exact q.block k hk fun e => e
theorem uncut_safe {F : Nat → Prop} {n h x : Nat} {w : World} {v : V} {ao : Option Addr} {R : Nat → Bool} (hR : SetR F n x R) (hF : ∀ k, F k → k < n) (hi : Is (cutV R h w) v ao) : SafeF F (fun w => Is w v ao) w := by
  intro w2 k2
  refine hi.kept fun a u hc => ?_
  obtain ⟨h1, h2, _⟩ := cutV_cell hc
  refine k2.cell h1 fun e => ?_
  exact hR.yes h2 (hF _ e) e
set_option maxRecDepth 8000 in
set_option maxHeartbeats 1000000 in
theorem ownS_any (F : Nat → Prop) (v : V) (ao : Option Addr) (cap : Nat) (w : World) (hF : ∀ k, F k → k < w.heap.size) (hI : SafeF F (fun w => Is w v ao) w) (hS : v.size ≤ 500) :
    Calls Tryz.prog 45 #[.agg #[.int .i64 v.kind, .int .i64 v.n, .slice ao v.l.length cap]] w fun e w' => ∃ ao' cap', e = .returned (.agg #[.int .i64 v.kind, .int .i64 v.n, .slice ao' v.l.length cap']) ∧ SafeF F (fun w => Is w v ao') w' ∧ Quiet w w' := by
  obtain ⟨W, hW⟩ : ∃ W, W = ((w.alloc (.cells #[.int .i64 v.kind, .int .i64 v.n, .slice ao v.l.length cap] 31)).alloc (.cells #[.int .i64 0, .int .i64 0, .slice none 0 0] 31)).alloc (.cells #[.int .i64 v.kind, .int .i64 v.n, .slice ao v.l.length cap] 31) := ⟨_, rfl⟩
  have q3 : Quiet w W := by rw [hW]; exact (Kp.alloc _ _).trans ((Kp.alloc _ _).trans (Kp.alloc _ _))
  have sW : W.heap.size = w.heap.size + 3 := by rw [hW]; simp
  have b1 : W.heap[w.heap.size + 1]? = some (.cells #[.int .i64 0, .int .i64 0, .slice none 0 0] 31 (0, 0)) := by
    rw [hW, Below.heap_alloc _ _ _ (by simp)]; exact heap_two w _ _
  have b2 : W.heap[w.heap.size + 2]? = some (.cells #[.int .i64 v.kind, .int .i64 v.n, .slice ao v.l.length cap] 31 (0, 0)) := by
    rw [hW]; have := heap_alloc_new ((w.alloc (.cells #[.int .i64 v.kind, .int .i64 v.n, .slice ao v.l.length cap] 31)).alloc (.cells #[.int .i64 0, .int .i64 0, .slice none 0 0] 31)) (.cells #[.int .i64 v.kind, .int .i64 v.n, .slice ao v.l.length cap] 31); simpa using this
  obtain ⟨R, hR⟩ := setR_ex F w.heap.size (w.heap.size + 1)
  have hRn : ∀ k, w.heap.size ≤ k → k ≠ w.heap.size + 1 → R k = false := fun k h1 h2 => hR.no (fun e => by have := hF k e; omega) h2
  have hF1 : Fo (cutV R W.heap.size W) [v] (some ⟨w.heap.size + 2, 0, none⟩) := by
    refine fo_single (ao := ao) (cap := cap) ?_ (hI _ (cut_kp hR q3 (by omega)))
    rw [cutV_old (hRn _ (by omega) (by omega)) (by omega)]; exact b2
  have hr0 : ∀ k, R k = true → k < W.heap.size := by
    intro k e
    rcases Nat.lt_or_ge k W.heap.size with h | h
    · exact h
    · rw [hRn k (by omega) (by omega)] at e; cases e
  have HO := hid (own_any [v] (some ⟨w.heap.size + 2, 0, none⟩) 1 R W hr0 hF1 (by rw [sizes_one]; omega))
  rw [List.length_singleton] at HO
  have HB := hid (And.intro q3 (And.intro sW b1))
  have HW := hid hW
  have HR := hid (And.intro hR hF)
  rw [hW] at HO
  clear b1 b2 hF1 q3 sW hW hI hr0 hRn hR hF
  go_enter Tryz.func45, Tryz.ntmps45
  go_wp2_with (go_at_call 59; refine HO.out.mono ?_; rintro e w3 ⟨a3, c3, rfl, f3, q3⟩; rw [← HW.out] at f3 q3; obtain ⟨b, off, rfl, hh, ai, ci, cs, hci⟩ := f3.get 0 (by simp); simp only [List.getElem_cons_zero, Nat.zero_mul, Nat.add_zero] at hh cs hci; obtain ⟨d0, d1⟩ := head_kept (fun a x hc => (cutV_cell hc).1) hh; have ds := (cutV_cell cs).1; have hb3 := (q3.block _ (lt_of_block HB.out.2.2) (fun e => e)).trans HB.out.2.2; obtain ⟨r0, r1, rs⟩ := box_cells hb3; have f0 := frozen_of_row w3 (w.heap.size + 1) 0 _ 31 hb3; have f1 := frozen_of_row w3 (w.heap.size + 1) 1 _ 31 hb3; have f2 := frozen_of_row w3 (w.heap.size + 1) 2 _ 31 hb3; have hz3 := lt_of_block hb3; have HC := hid hci; clear hci hh cs f3 hb3)
  refine bodyPost_ret (v := .agg #[.int .i64 v.kind, .int .i64 v.n, .slice ai v.l.length ci]) (by simp [results, Tryz.results45, go_sem, r0, r1, rs]) rfl ?_
  have qz : Kp (fun k => k = w.heap.size + 1) w3 (((w3.setCell ⟨w.heap.size + 1, 0, none⟩ (.int .i64 v.kind)).setCell ⟨w.heap.size + 1, 1, none⟩ (.int .i64 v.n)).setCell ⟨w.heap.size + 1, 2, none⟩ (.slice ai v.l.length ci)) := ((kp_set _ _ _ _).trans (kp_set _ _ _ _)).trans (kp_set _ _ _ _)
  have qr : Kp (fun k => R k = true) w3 (((w3.setCell ⟨w.heap.size + 1, 0, none⟩ (.int .i64 v.kind)).setCell ⟨w.heap.size + 1, 1, none⟩ (.int .i64 v.n)).setCell ⟨w.heap.size + 1, 2, none⟩ (.slice ai v.l.length ci)) := qz.mono fun k _ e => (HR.out.1 k).2 (.inr e)
  refine ⟨ai, ci, rfl, ?_, (HB.out.1.trans q3).fresh (qz.mono fun k _ e => by omega)⟩
  have h1 := HC.out.kept (keeps_kp qr (by have := q3.size; omega)).cell
  exact uncut_safe HR.out.1 HR.out.2 h1
end Go.Proofs.YtgojcohcimmfjaaGreat
namespace Go.Proofs.YtgojcohcimmfjaaGreat
open Go.ChangeShapes Go.WideShapes Go.ChangeAt Go.RowKit
open Gr (Nd Res nd0 thereB openB deriveOf addOf gateOf cutOf cellB cellOf funcB funcOf rightsN wayOf gatesOf gatesW targetOf Wf NdOk GS IntsAt)
theorem plug_any (p : Int) (w : World) : Calls Tryz.prog 44 #[.int .i64 p] w fun e w' => e = .returned (.bool (plugB p)) ∧ w' = w := by
  by_cases h0 : 0 ≤ p
  · by_cases h1 : p < 4
    · have hE := hid (show plugB p = true by simp [plugB]; omega)
      go_enter Tryz.func44, Tryz.ntmps44
      go_wp2
      go_ret
      exact ⟨by rw [hE.out]; simp [*], rfl⟩
    · have hE := hid (show plugB p = false by simp [plugB]; omega)
      go_enter Tryz.func44, Tryz.ntmps44
      go_wp2
      go_ret
      exact ⟨by rw [hE.out]; simp [*], rfl⟩
  · have hE := hid (show plugB p = false by simp [plugB]; omega)
    have hd : decide (0 ≤ p) = false := by simpa using h0
    go_enter Tryz.func44, Tryz.ntmps44
    go_wp2
    go_ret
    exact ⟨by rw [hE.out]; simp [*], rfl⟩
theorem made_yes (k n : Int) (w : World) : Calls Tryz.prog 32 #[.int .i64 k, .int .i64 n, .int .i64 0] w fun e w' => e = .returned (.agg #[.int .i64 0, .int .i64 0, .int .i64 k, .int .i64 n, .slice none 0 0]) ∧ Quiet w w' := by
  go_enter Tryz.func32, Tryz.ntmps32
  go_wp2
  refine bodyPost_ret (v := .agg #[.int .i64 0, .int .i64 0, .int .i64 k, .int .i64 n, .slice none 0 0]) (by simp [results, Tryz.results32, go_sem]) rfl ⟨rfl, ?_⟩
  exact Kp.alloc _ _
theorem made_no (k n c : Int) (hc : c ≠ 0) (w : World) : Calls Tryz.prog 32 #[.int .i64 k, .int .i64 n, .int .i64 c] w fun e w' => e = .returned (.agg #[.int .i64 c, .int .i64 0, .int .i64 0, .int .i64 0, .slice none 0 0]) ∧ Quiet w w' := by
  go_enter Tryz.func32, Tryz.ntmps32
  go_wp2
  refine bodyPost_ret (v := .agg #[.int .i64 c, .int .i64 0, .int .i64 0, .int .i64 0, .slice none 0 0]) (by simp [results, Tryz.results32, go_sem]) rfl ⟨rfl, ?_⟩
  exact Kp.alloc _ _
section
variable {M : Hx} {q : Hq} {h : Hs} {w : World} {X : Nat → Prop}
theorem HouseS.handc (H : HouseS X M q h w) (j : Nat) (hj : j < 4) : w.cell? ⟨M.hb, 1 + j, none⟩ = some (handV q h j) := by
  have hb := H.obj
  obtain rfl | rfl | rfl | rfl : j = 0 ∨ j = 1 ∨ j = 2 ∨ j = 3 := by omega
  all_goals simp [World.cell?, hb]
def handW (q : Hq) (h : Hs) (p : Int) : Value := if plugB p then handV q h p.toNat else .slice none 0 0
set_option maxRecDepth 8000 in
set_option maxHeartbeats 1000000 in
theorem xhand_any (H : HouseS X M q h w) (p : Int) : Calls Tryz.prog 43 #[.pointer (some ⟨M.hb, 0, none⟩), .int .i64 p] w fun e w' => e = .returned (handW q h p) ∧ w' = w := by
  cases hp : plugB p with
  | false =>
    have hE := hid (show handW q h p = .slice none 0 0 by simp [handW, hp])
    go_enter Tryz.func43, Tryz.ntmps43
    go_wp2_with (go_at_call 44; refine (plug_any p _).mono ?_; rintro e w' ⟨rfl, rfl⟩; rw [hp])
    go_ret
    exact ⟨by rw [hE.out]; rfl, rfl⟩
  | true =>
    have hpp : 0 ≤ p ∧ p < 4 := by simpa [plugB] using hp
    obtain ⟨j, rfl⟩ : ∃ j : Nat, p = j := ⟨p.toNat, by omega⟩
    have hE := hid (show handW q h j = handV q h j by simp [handW, hp])
    have hc := H.handc j (by omega)
    have hj4 : (j : Int) < 4 := hpp.2
    unfold handV at hc hE
    clear hpp
    go_enter Tryz.func43, Tryz.ntmps43
    go_wp2_with (go_at_call 44; refine (plug_any j _).mono ?_; rintro e w' ⟨rfl, rfl⟩; rw [hp])
    go_ret
    exact ⟨by rw [hE.out]; simp, rfl⟩
end
theorem equalVals (d : Nat) (a : Option Addr) (n c : Nat) (w : World) : (Op.equalIn (d + 1) 29 (.slice a n c) (.slice none 0 0)).run Tryz.prog w = .ok a.isNone w := by
  cases a <;> simp [Op.equalIn, run_underlying Tryz.undV]
theorem eqlVals (a : Option Addr) (n c : Nat) (w : World) : (binOp .eql 29 (.slice a n c) (.slice none 0 0)).run Tryz.prog w = .ok (.bool a.isNone) w := by
  simp only [binOp]
  simp [Op.equal, Op.maxDepth, equalVals 9999 a n c w]
theorem cloneV_done {w w1 : World} {o : Obj} {v' : Value} {n : Nat} {xs : List Value} (hr : w1.ownsRow w.heap.size 31 3 v' (0 + n) ([] ++ xs)) (hg : (w.alloc o).grownBy w1 (Value.slice (some ⟨w.heap.size, 0, none⟩) 0 0).ownBlock) :
    w1.ownsRow w.heap.size 31 3 v' n xs ∧ Quiet w w1 := by
  refine ⟨by simpa using hr, hg.os, hg.tape, hg.output, Nat.le_trans (Kp.alloc (F := fun _ => False) w o).size hg.size, fun k hk _ => ?_⟩
  rw [hg.block k (by simp; omega) (by simp [Value.ownBlock]; omega)]
  exact Below.heap_alloc w o k hk
set_option maxRecDepth 8000 in
set_option maxHeartbeats 1000000 in
theorem cloneV_any (B : Nat) (w : World) (v : Value) (n : Nat) (ps : List Kd) (h : w.ownsRow B 31 3 v n (tris ps)) (hl : n = ps.length) (hn : n ≤ 100000) :
    Calls Tryz.prog 42 #[v] w fun e w' => ∃ ao cap, e = .returned (.slice ao n cap) ∧ w'.ownsRow w.heap.size 31 3 (.slice ao n cap) n (tris ps) ∧ Quiet w w' := by
  obtain ⟨i0, hi, hz0, hz1, hz2⟩ := info_parts Tryz.infoV
  have q := eqlVals
  rcases h.2 with ⟨rfl, h0⟩ | ⟨g, cap, cur, rfl, _⟩
  · have hN := hid (show w.ownsRow w.heap.size 31 3 (.slice none 0 0) n (tris ps) from ⟨h.1, .inl ⟨rfl, h0⟩⟩)
    subst h0
    clear h hl
    go_enter Tryz.func42, Tryz.ntmps42
    go_wp2
    go_ret
    exact ⟨_, _, rfl, hN.out, Kp.refl _ _⟩
  · have hlen : (tris ps).length = n * 3 := by rw [tris_len, hl]
    have hmade := hid (World.ownsRow_made (base := w.heap.size) (e := 31) (size := 3) w #[] 0 (Nat.le_refl _) (by decide) (by simp))
    have hsrc := hid ((h.alloc (.cells #[] 31)).cells rfl)
    clear h hl
    go_enter Tryz.func42, Tryz.ntmps42
    go_wp2_with (at_builtin; refine wpList_append_own _ rfl (.tmp 5) (.tmp 6) 29 rfl w.heap.size 31 i0 _ 3 40 Tryz.undV hi hz0 hz1 hz2 rfl (by decide) (.slice (some ⟨w.heap.size, 0, none⟩) 0 0) 0 [] rfl hmade.out ⟨g, 0, none⟩ n cap (tris ps) rfl hlen hsrc.out (tris_onec ps) (by unfold maxLen; omega) (by omega) (by simp) ?_; intro v' w1 hr hg _; have hD0 := cloneV_done hr hg; clear hr hg; obtain ⟨ao, cap', rfl⟩ := Gr.owns_shape hD0.1; have hD := hid hD0; clear hD0)
    go_ret
    exact ⟨_, _, rfl, hD.out.1, hD.out.2⟩
section
variable {M : Hx} {q : Hq} {h : Hs} {w : World} {X : Nat → Prop}
theorem hd_map (l : List V) : (hd l).map (·.1) = l := by induction l with
  | nil => rfl
  | cons v l ih => simp only [hd, List.map_cons] at ih ⊢; rw [ih]
/-- What of a house must stay lies below. -/
theorem HouseS.all (H : HouseS X M q h w) (k : Nat) (e : OwnH M q k ∨ X k) : k < w.heap.size := by
  rcases e with e | e
  · exact (H.own k e).2
  · exact (H.xo k e).1
theorem handW_row (H : HouseS X M q h w) (p : Int) : w.ownsRow M.B 31 3 (handW q h p) (handOf h p).length (tris (hd (handOf h p))) ∧ ∀ v ∈ handOf h p, v.l = [] ∧ v.fits := by
  unfold handW handOf
  cases hp : plugB p with
  | false =>
    have hpp : ¬ (0 ≤ p ∧ p < 4) := by simpa [plugB] using hp
    rw [if_neg hpp]
    exact ⟨World.ownsRow_nil _ _ _ _, fun v hv => by simp at hv⟩
  | true =>
    have hpp : 0 ≤ p ∧ p < 4 := by simpa [plugB] using hp
    rw [if_pos hpp]
    exact ⟨H.row p.toNat (by omega), H.leaf p.toNat (by omega)⟩
theorem few_hand (hf : FewH h) (p : Int) : (handOf h p).length ≤ 100000 := by
  unfold handOf
  split
  · exact hf _
  · simp
set_option maxRecDepth 8000 in
set_option maxHeartbeats 1000000 in
theorem hhand_c : HHandC := by
  intro X M q h w p H hf _
  obtain ⟨hr, hl⟩ := handW_row H p
  have HA := hid H.all
  have HL := hid hl
  have HC := hid (cloneV_any M.B w (handW q h p) (handOf h p).length (hd (handOf h p)) hr (by simp [hd]) (few_hand hf p))
  have HH := hid (xhand_any H p)
  clear H hf hr hl
  generalize handW q h p = hv at *
  go_enter Tryz.func20, Tryz.ntmps20
  go_wp2_with (first
    | (go_at_call 42; refine HC.out.mono ?_; rintro e w3 ⟨ao, cap, rfl, r3, q3⟩; have H3 := hid (And.intro r3 q3); clear r3 q3)
    | (go_at_call 43; refine HH.out.mono ?_; rintro e w2 ⟨rfl, h2⟩; replace h2 := h2.symm; subst h2))
  go_ret
  refine ⟨ao, cap, rfl, fun w' k => ?_, H3.out.2⟩
  have hr := k.row H3.out.1 fun i hi e => by have := (H3.out.1.lt i hi).1; have := HA.out i e; omega
  have := fo_row hr (by simp [hd]) fun x hx => by
    simp only [hd, List.mem_map] at hx
    obtain ⟨v, hv, rfl⟩ := hx
    exact Is.leaf w' v (HL.out v hv).2 (HL.out v hv).1 none
  rwa [hd_map] at this
/-- What a plugin keeps lies there. -/
theorem HouseS.keptc (H : HouseS X M q h w) (j : Nat) (hj : j < 4) : ∃ ao cap, w.cell? ⟨M.bb, 2 + j * 5 + 2, none⟩ = some (.int .i64 (keptOf h j).kind) ∧ w.cell? ⟨M.bb, 2 + j * 5 + 3, none⟩ = some (.int .i64 (keptOf h j).n) ∧ w.cell? ⟨M.bb, 2 + j * 5 + 4, none⟩ = some (.slice ao (keptOf h j).l.length cap) ∧ SafeF (fun k => OwnH M q k ∨ X k) (fun w => Is w (keptOf h j) ao) w := by
  obtain ⟨a, b, c, d, hb, hk⟩ := H.box
  have key : ∀ k x, (boxC M.g M.wd a b c d)[k]? = some x → w.cell? ⟨M.bb, k, none⟩ = some x := fun k x hx => by
    rw [← hx]; simp [World.cell?, hb.obj]
  have hs : ∀ x, x = a ∨ x = b ∨ x = c ∨ x = d → SafeF (fun k => OwnH M q k ∨ X k) (fun w => Is w x.kept x.ao) w := fun x hx => (hk x hx).mono fun k _ e => by
    rcases e with (e | e) | e
    · exact .inl e
    · exact .inr (.inl e)
    · exact .inr (.inr e)
  have hks := hb.ks
  have hc : (0 : Int) ≤ (j : Int) ∧ (j : Int) < 4 := by omega
  have hko : keptOf h j = h.s.ks.getD j v0 := by unfold keptOf; rw [if_pos hc, Int.toNat_natCast]
  rw [hko, hks]
  obtain rfl | rfl | rfl | rfl : j = 0 ∨ j = 1 ∨ j = 2 ∨ j = 3 := by omega
  · exact ⟨a.ao, a.cap, key _ _ rfl, key _ _ rfl, key _ _ rfl, hs a (.inl rfl)⟩
  · exact ⟨b.ao, b.cap, key _ _ rfl, key _ _ rfl, key _ _ rfl, hs b (.inr (.inl rfl))⟩
  · exact ⟨c.ao, c.cap, key _ _ rfl, key _ _ rfl, key _ _ rfl, hs c (.inr (.inr (.inl rfl)))⟩
  · exact ⟨d.ao, d.cap, key _ _ rfl, key _ _ rfl, key _ _ rfl, hs d (.inr (.inr (.inr rfl)))⟩
theorem HouseS.kept500 (H : HouseS X M q h w) (j : Nat) : (keptOf h j).check = 0 := by
  unfold keptOf
  split
  · rw [List.getD_eq_getElem?_getD]
    cases e : h.s.ks[(j : Int).toNat]? with
    | none => exact v0_check
    | some v => exact H.ok.inv.good v (List.mem_of_getElem? e)
  · exact v0_check
set_option maxRecDepth 8000 in
set_option maxHeartbeats 2000000 in
theorem hkept_c : HKeptC := by
  intro X M q h w p H _
  cases hp : plugB p with
  | false =>
    have hpp : ¬ (0 ≤ p ∧ p < 4) := by simpa [plugB] using hp
    have hk : keptOf h p = v0 := by unfold keptOf; rw [if_neg hpp]
    rw [hk]
    clear hpp hk H
    go_enter Tryz.func22, Tryz.ntmps22
    go_wp2_with (go_at_call 44; refine (plug_any p _).mono ?_; rintro e w' ⟨rfl, h2⟩; replace h2 := h2.symm; subst h2; rw [hp])
    refine bodyPost_ret (v := .agg #[.int .i64 0, .int .i64 0, .slice none 0 0]) (by simp [results, Tryz.results22, go_sem]) rfl ⟨none, 0, rfl, safe_leaf v0 v0_fits rfl none, ?_⟩
    exact Kp.alloc _ _
  | true =>
    have hpp : 0 ≤ p ∧ p < 4 := by simpa [plugB] using hp
    obtain ⟨j, rfl⟩ : ∃ j : Nat, p = j := ⟨p.toNat, by omega⟩
    have hj4 : (j : Int) < 4 := hpp.2
    have q1 : Quiet w (w.alloc (.cells #[.int .i64 0, .int .i64 0, .slice none 0 0] 31)) := Kp.alloc _ _
    obtain ⟨ao, cap, e0, e1, e2, hs0⟩ := H.keptc j (by omega)
    have c0 := q1.cell e0 fun e => e
    have c1 := q1.cell e1 fun e => e
    have c2 := q1.cell e2 fun e => e
    have hs : SafeF (fun k => (OwnH M q k ∨ X k) ∨ k = w.heap.size) (fun w => Is w (keptOf h j) ao) (w.alloc (.cells #[.int .i64 0, .int .i64 0, .slice none 0 0] 31)) := hs0.step (q1.mono fun _ _ e => e.elim) fun k hk e => by
      rcases e with e | e
      · exact e
      · omega
    have d0 := (H.quiet q1).cells.1
    have hb := heap_alloc_new w (.cells #[.int .i64 0, .int .i64 0, .slice none 0 0] 31)
    have HO := hid (ownS_any (fun k => (OwnH M q k ∨ X k) ∨ k = w.heap.size) (keptOf h j) ao cap _ (fun k e => by rcases e with e | e; exact (H.quiet q1).all k e; rw [e]; simp) hs (by have := check_size (H.kept500 j); omega))
    have HB := hid (And.intro hb (And.intro q1 H.all))
    clear hpp H hs hb q1 e0 e1 e2 hs0
    generalize keptOf h j = v at *
    go_enter Tryz.func22, Tryz.ntmps22
    go_wp2_with (first
      | (go_at_call 45; refine HO.out.mono ?_; rintro e w3 ⟨a3, c3, rfl, s3, q3⟩; have hb3 := (q3.block _ (lt_of_block HB.out.1) (fun e => e)).trans HB.out.1; obtain ⟨r0, r1, r2⟩ := box_cells hb3; obtain ⟨f0, f1, f2⟩ := box_free3 hb3; have hz3 := lt_of_block hb3; have H3 := hid (And.intro s3 (And.intro q3 hb3)); clear s3 q3 hb3)
      | (go_at_call 44; refine (plug_any j _).mono ?_; rintro e w' ⟨rfl, h2⟩; replace h2 := h2.symm; subst h2; rw [hp]))
    have b4 := three_put H3.out.2.2 (.int .i64 v.kind) (.int .i64 v.n) (.slice a3 v.l.length c3)
    have k4 := three_set w3 w.heap.size (.int .i64 v.kind) (.int .i64 v.n) (.slice a3 v.l.length c3)
    generalize ((w3.setCell ⟨w.heap.size, 0, none⟩ (.int .i64 v.kind)).setCell ⟨w.heap.size, 1, none⟩ (.int .i64 v.n)).setCell ⟨w.heap.size, 2, none⟩ (.slice a3 v.l.length c3) = W4 at *
    obtain ⟨z0, z1, z2⟩ := box_cells b4
    refine bodyPost_ret (v := .agg #[.int .i64 v.kind, .int .i64 v.n, .slice a3 v.l.length c3]) (by simp [results, Tryz.results22, go_sem, z0, z1, z2]) rfl ⟨a3, c3, rfl, ?_, (HB.out.2.1.trans H3.out.2.1).fresh (k4.mono fun k _ e => by omega)⟩
    exact H3.out.1.step (k4.mono fun k _ e => .inr e) fun k _ e => .inl e
end
end Go.Proofs.YtgojcohcimmfjaaGreat
namespace Go.Proofs.YtgojcohcimmfjaaGreat
open Go.ChangeShapes Go.WideShapes Go.ChangeAt Go.RowKit
open Gr (Nd Res nd0 thereB openB deriveOf addOf gateOf cutOf cellB cellOf funcB funcOf rightsN wayOf gatesOf gatesW targetOf Wf NdOk GS IntsAt)
section
variable {M : Hx} {q : Hq} {h : Hs} {w : World} {X : Nat → Prop}
/-- What a loading comes to. -/
def LoadQ (X : Nat → Prop) (P : Int × Int → Prop) (M : Hx) (q : Hq) (h : Hs) (x : Sx) (w : World) (e : Ending) (w' : World) : Prop :=
  ∃ c, (plugB x.p = true → ∃ f, P f ∧ f.1 = c) ∧ e = .returned (.int .i64 (loadH h (x.sp c)).1.code) ∧ HouseS X M q (loadH h (x.sp c)).2 w' ∧ GoesH M q w q w'
theorem load_far (h : Hs) (x : Sx) (hp : plugB x.p = false) : loadH h (x.sp 0) = (⟨1, 0, v0⟩, h) := by
  unfold loadH Sx.sp; simp only; rw [hp]; rfl
theorem load_bad (h : Hs) (x : Sx) {c : Int} (hp : plugB x.p = true) (hc : c ≠ 0) : loadH h (x.sp c) = (⟨c, 0, v0⟩, h) := by
  unfold loadH Sx.sp; simp only; rw [hp, if_pos rfl, if_neg hc]
theorem load_ok (h : Hs) (x : Sx) (hp : plugB x.p = true) : loadH h (x.sp 0) = (⟨0, 0, v0⟩, { h with ms := h.ms.set x.p.toNat (some x.fs), s := { h.s with ks := h.s.ks.set x.p.toNat v0 } }) := by
  unfold loadH Sx.sp; simp only; rw [hp]; simp
theorem HOk.load {h : Hs} (ok : HOk h) {j : Nat} (hj : j < 4) (fs : List Ex.V) : HOk ⟨{ h.s with ks := h.s.ks.set j v0 }, h.ms.set j (some fs), h.hs⟩ := by
  have hp : plugB (j : Int) = true := by simp [plugB]; omega
  have h1 := ok.step ⟨1, j, 0, 0, 0, 0, 0, 0, 0, fs⟩
  have h2 := load_ok h ⟨1, j, 0, 0, 0, 0, 0, 0, fs, none, 0⟩ hp
  unfold Sx.sp at h2
  unfold stepH at h1
  rw [if_pos rfl, h2] at h1
  exact h1
theorem HouseS.plugc (H : HouseS X M q h w) (j : Nat) (hj : j < 4) : (∃ t0 t1 t2 t3 t4, w.cell? ⟨M.bb, 2 + j * 5, none⟩ = some t0 ∧ w.cell? ⟨M.bb, 2 + j * 5 + 1, none⟩ = some t1 ∧ w.cell? ⟨M.bb, 2 + j * 5 + 2, none⟩ = some t2 ∧ w.cell? ⟨M.bb, 2 + j * 5 + 3, none⟩ = some t3 ∧ w.cell? ⟨M.bb, 2 + j * 5 + 4, none⟩ = some t4) ∧ (∀ k, w.frozen? ⟨M.bb, k, none⟩ = false) ∧ M.bb < w.heap.size := by
  obtain ⟨a, b, c, d, hb, _⟩ := H.box
  have key : ∀ k x, (boxC M.g M.wd a b c d)[k]? = some x → w.cell? ⟨M.bb, k, none⟩ = some x := fun k x hx => by
    rw [← hx]; simp [World.cell?, hb.obj]
  refine ⟨?_, fun k => frozen_of_row w _ k _ _ hb.obj, lt_of_block hb.obj⟩
  obtain rfl | rfl | rfl | rfl : j = 0 ∨ j = 1 ∨ j = 2 ∨ j = 3 := by omega
  all_goals exact ⟨_, _, _, _, _, key _ _ rfl, key _ _ rfl, key _ _ rfl, key _ _ rfl, key _ _ rfl⟩
set_option maxRecDepth 8000 in
set_option maxHeartbeats 2000000 in
theorem xload_any (H : HouseS X M q h w) (x : Sx) (hx : x.Fit) {P : Int × Int → Prop} (hM : MakeAt P x w) : Calls Tryz.prog 27 #[.pointer (some ⟨M.hb, 0, none⟩), .int .i64 x.p, .agg #[.slice x.fa x.fs.length x.fc]] w fun e w' => LoadQ X P M q h x w e w' := by
  have q1 : Quiet w (w.alloc (.cells #[.slice x.fa x.fs.length x.fc] 37)) := Kp.alloc _ _
  cases hp : plugB x.p with
  | false =>
    have HE := hid (load_far h x hp)
    have HH := hid (And.intro (H.quiet q1) q1)
    clear H hM q1
    obtain ⟨kind, p, qq, k, hh, r, g, n, fs, fa, fc⟩ := x
    simp only at *
    go_enter Tryz.func27, Tryz.ntmps27
    go_wp2_with (go_at_call 44; refine (plug_any p _).mono ?_; rintro e w' ⟨rfl, h2⟩; replace h2 := h2.symm; subst h2; rw [hp])
    go_ret
    refine ⟨0, fun e => (by simp only [hp] at e; cases e), ?_⟩
    rw [HE.out]
    exact ⟨rfl, HH.out.1, GoesH.quiet M q HH.out.2⟩
  | true =>
    have HE := hid (And.intro (fun c => load_bad h x (c := c) hp) (load_ok h x hp))
    have HM := hid (hM.2 _ q1)
    have HP := hid hM.1
    have HF := hid hx.ins
    have HH := hid (And.intro (H.quiet q1) q1)
    have hpp : 0 ≤ x.p ∧ x.p < 4 := by simpa [plugB] using hp
    clear H hM q1 hx
    obtain ⟨kind, p, qq, k, hh, r, g, n, fs, fa, fc⟩ := x
    simp only at *
    obtain ⟨j, rfl⟩ : ∃ j : Nat, p = j := ⟨p.toNat, by omega⟩
    have hj4 : (j : Int) < 4 := hpp.2
    have hj : j < 4 := by omega
    clear hpp
    go_enter Tryz.func27, Tryz.ntmps27
    go_wp2_with (first
      | (go_at_call 49; refine HM.out.mono ?_)
      | (go_at_call 44; refine (plug_any j _).mono ?_; rintro e w' ⟨rfl, h2⟩; replace h2 := h2.symm; subst h2; rw [hp]))
    rintro e w2 ⟨f, hf, q2, ⟨h0, rfl⟩ | ⟨h0, ao, cap, ps, rfl, md, hps⟩⟩
    · have HQ := hid (And.intro hf q2)
      clear hf q2
      go_wp2
      go_ret
      refine ⟨f.1, fun _ => ⟨f, HQ.out.1, rfl⟩, ?_⟩
      rw [HE.out.1 _ h0]
      have q3 := HQ.out.2.trans (Kp.alloc w2 (.cells #[.int .i64 f.1, .int .i64 f.2] 111))
      exact ⟨rfl, HH.out.1.quiet q3, GoesH.quiet M q (HH.out.2.trans q3)⟩
    · have q3 := q2.trans (Kp.alloc w2 (.cells #[.int .i64 0, .int .i64 0] 111))
      have H3 := HH.out.1.quiet q3
      have hca := (made_at md hps).kept (Kp.alloc (F := fun _ => False) w2 (.cells #[.int .i64 0, .int .i64 0] 111)) (fun _ _ _ _ _ e => e)
      have hl := H3.load hj hca (HP.out f hf h0) HF.out (HH.out.1.ok.load hj fs)
      obtain ⟨⟨t0, t1, t2, t3, t4, c0, c1, c2, c3, c4⟩, hfz, hlt⟩ := H3.plugc j hj
      have z0 := hfz (2 + j * 5)
      have z1 := hfz (2 + j * 5 + 1)
      have z2 := hfz (2 + j * 5 + 2)
      have z3 := hfz (2 + j * 5 + 3)
      have z4 := hfz (2 + j * 5 + 4)
      have d0 := H3.cells.1
      have HL := hid (And.intro hl (And.intro hf (And.intro h0 (HH.out.2.trans q3))))
      clear hfz hl q3 H3 hca hf q2 md hps
      go_wp2
      go_ret
      refine ⟨0, fun _ => ⟨f, HL.out.2.1, HL.out.2.2.1⟩, ?_⟩
      rw [HE.out.2]
      exact ⟨rfl, HL.out.1.1, (GoesH.quiet M q HL.out.2.2.2).trans HL.out.1.2⟩
end
end Go.Proofs.YtgojcohcimmfjaaGreat
namespace Go.Proofs.YtgojcohcimmfjaaGreat
open Go.ChangeShapes Go.WideShapes Go.ChangeAt Go.RowKit
open Gr (Nd Res nd0 thereB openB deriveOf addOf gateOf cutOf cellB cellOf funcB funcOf rightsN wayOf gatesOf gatesW targetOf Wf NdOk GS IntsAt StepP)
section
variable {M : Hx} {q : Hq} {h : Hs} {w : World} {X : Nat → Prop}
theorem nine_at {w : World} {g : Nat} {a b c d e f k l m : Value} {t : TypeId} (h : w.heap[g]? = some (.cells #[a, b, c, d, e, f, k, l, m] t (0, 0))) : w.cell? ⟨g, 0, none⟩ = some a ∧ w.cell? ⟨g, 1, none⟩ = some b ∧ w.cell? ⟨g, 2, none⟩ = some c ∧ w.cell? ⟨g, 3, none⟩ = some d ∧ w.cell? ⟨g, 4, none⟩ = some e ∧ w.cell? ⟨g, 5, none⟩ = some f ∧ w.cell? ⟨g, 6, none⟩ = some k ∧ w.cell? ⟨g, 7, none⟩ = some l ∧ w.cell? ⟨g, 8, none⟩ = some m := by
  refine ⟨?_, ?_, ?_, ?_, ?_, ?_, ?_, ?_, ?_⟩ <;> simp [World.cell?, h]
theorem evt_set (w : World) (x : Nat) (a b c d e : Value) : Kp (fun k => k = x) w (((((w.setCell ⟨x, 0, none⟩ a).setCell ⟨x, 1, none⟩ b).setCell ⟨x, 2, none⟩ c).setCell ⟨x, 3, none⟩ d).setCell ⟨x, 4, none⟩ e) := ((((kp_set w x 0 a).trans (kp_set _ x 1 b)).trans (kp_set _ x 2 c)).trans (kp_set _ x 3 d)).trans (kp_set _ x 4 e)
theorem evt_put {w : World} {g : Nat} {x0 x1 x2 x3 x4 : Value} {t : TypeId} (h : w.heap[g]? = some (.cells #[x0, x1, x2, x3, x4] t (0, 0))) (t0 t1 t2 t3 t4 : Value) : (((((w.setCell ⟨g, 0, none⟩ t0).setCell ⟨g, 1, none⟩ t1).setCell ⟨g, 2, none⟩ t2).setCell ⟨g, 3, none⟩ t3).setCell ⟨g, 4, none⟩ t4).heap[g]? = some (.cells #[t0, t1, t2, t3, t4] t (0, 0)) := by
  simp [World.setCell, Array.getElem?_modify, h]
theorem evt_cells {w : World} {g : Nat} {a b c d e : Value} {t : TypeId} (h : w.heap[g]? = some (.cells #[a, b, c, d, e] t (0, 0))) : (w.cell? ⟨g, 0, none⟩ = some a ∧ w.cell? ⟨g, 1, none⟩ = some b ∧ w.cell? ⟨g, 2, none⟩ = some c ∧ w.cell? ⟨g, 3, none⟩ = some d ∧ w.cell? ⟨g, 4, none⟩ = some e) ∧ w.frozen? ⟨g, 0, none⟩ = false ∧ w.frozen? ⟨g, 1, none⟩ = false ∧ w.frozen? ⟨g, 2, none⟩ = false ∧ w.frozen? ⟨g, 3, none⟩ = false ∧ w.frozen? ⟨g, 4, none⟩ = false := by
  refine ⟨⟨?_, ?_, ?_, ?_, ?_⟩, frozen_of_row w g 0 _ t h, frozen_of_row w g 1 _ t h, frozen_of_row w g 2 _ t h, frozen_of_row w g 3 _ t h, frozen_of_row w g 4 _ t h⟩ <;> simp [World.cell?, h]
/-- The capability that a step gives. -/
def capR (h : Hs) (x : Sx) : Res := if x.kind = 3 then funcOf h.s.ns h.s.os x.q x.k x.r x.g else cellOf h.s.ns h.s.os x.k x.r x.g
def CapQ (M : Hx) (q : Hq) (R : Res) (w : World) (e : Ending) (w' : World) : Prop := e = .returned (.tuple #[.int .i64 R.num, .int .i64 R.code]) ∧ ∃ vn' vo', GS 104 M.B w' M.g vn' vo' R.ns R.os ∧ Gr.Goes M.g q.n q.o w vn' vo' w'
/-- A house beside a step that lies in a block of its own. -/
structure HX (X : Nat → Prop) (M : Hx) (q : Hq) (h : Hs) (x : Sx) (b : Nat) (W : World) : Prop where
  s : HouseS X M q h W
  b : W.heap[b]? = some (.cells x.vals 39 (0, 0))
theorem HX.free {x : Sx} {b : Nat} {W : World} (H : HX X M q h x b W) : ¬ OwnH M q b := H.s.free H.b (by decide) (by decide) (by decide) (by decide) (by decide) (by decide) (by decide) (by decide)
/-- Where its graph goes on, all the rest lies as it lay. -/
theorem HX.cells {x : Sx} {b : Nat} {W w' : World} (H : HX X M q h x b W) (k : Kp (Gr.Own M.g q.n q.o) W w') :
    (w'.cell? ⟨M.hb, 0, none⟩ = some (.pointer (some ⟨M.bb, 0, none⟩)) ∧ w'.cell? ⟨M.bb, 0, none⟩ = some (.pointer (some ⟨M.g, 0, none⟩))) ∧ w'.cell? ⟨b, 0, none⟩ = some (.int .i64 x.kind) ∧ w'.cell? ⟨b, 1, none⟩ = some (.int .i64 x.p) ∧ w'.cell? ⟨b, 2, none⟩ = some (.int .i64 x.q) ∧ w'.cell? ⟨b, 3, none⟩ = some (.int .i64 x.k) ∧ w'.cell? ⟨b, 5, none⟩ = some (.int .i64 x.r) ∧ w'.cell? ⟨b, 6, none⟩ = some (.int .i64 x.g) := by
  have hf := H.free
  have hg : ∀ k, Gr.Own M.g q.n q.o k → OwnB M.bb M.g M.wd q.n q.o q.l k := fun k e => .inr (.inl e)
  obtain ⟨d0, d1, _⟩ := H.s.cells
  obtain ⟨c0, c1, c2, c3, _, c5, c6, _, _⟩ := nine_at H.b
  have n1 : ¬ Gr.Own M.g q.n q.o M.hb := fun e => H.s.bfree.1 (hg _ e)
  have n2 : ¬ Gr.Own M.g q.n q.o M.bb := by
    obtain ⟨a, b, c, d, hb⟩ := H.s.box.is
    exact H.s.gs.free_type hb.obj (by decide) (by decide) (by decide)
  have n3 : ¬ Gr.Own M.g q.n q.o b := fun e => hf (.inl (hg _ e))
  exact ⟨⟨k.cell d0 n1, k.cell d1 n2⟩, k.cell c0 n3, k.cell c1 n3, k.cell c2 n3, k.cell c3 n3, k.cell c5 n3, k.cell c6 n3⟩
set_option maxRecDepth 8000 in
set_option maxHeartbeats 2000000 in
theorem xcap_any (H : HouseS X M q h w) (x : Sx) : Calls Tryz.prog 50 #[.pointer (some ⟨M.hb, 0, none⟩), .agg x.vals] w fun e w' => CapQ M q (capR h x) w e w' := by
  obtain ⟨W, hW⟩ : ∃ W, W = w.alloc (.cells x.vals 39) := ⟨_, rfl⟩
  have qW : Quiet w W := by rw [hW]; exact Kp.alloc _ _
  have HH : HX X M q h x w.heap.size W := ⟨H.quiet qW, by rw [hW]; exact heap_alloc_new w _⟩
  obtain ⟨⟨d0, d1⟩, c0, c1, c2, c3, c5, c6⟩ := HH.cells (Kp.refl _ _)
  rw [hW] at d0 d1 c0 c1 c2 c3 c5 c6
  by_cases hk : x.kind = 3
  · have hE := hid (show capR h x = funcOf h.s.ns h.s.os x.q x.k x.r x.g by unfold capR; rw [if_pos hk])
    have HG := hid (Gr.func_any (HH.s.quiet (Kp.drew _)).gs x.q x.k x.r x.g)
    have sAll := hid (fun (w' : World) (z : Kp (Gr.Own M.g q.n q.o) W w') => HH.cells z)
    obtain ⟨kind, p, qq, k, hh, r, g, n, fs, fa, fc⟩ := x
    simp only [Sx.vals] at *
    subst hk
    have HQ := hid qW
    clear H HH qW
    go_enter Tryz.func50, Tryz.ntmps50
    go_wp2_with fail
    rw [← hW]
    clear hW
    have z0 : Kp (Gr.Own M.g q.n q.o) W W.drew := Kp.drew _
    go_region_held3 (fun w' => (w'.cell? ⟨M.hb, 0, none⟩ = some (.pointer (some ⟨M.bb, 0, none⟩)) ∧ w'.cell? ⟨M.bb, 0, none⟩ = some (.pointer (some ⟨M.g, 0, none⟩))) ∧ w'.cell? ⟨w.heap.size, 0, none⟩ = some (.int .i64 3) ∧ w'.cell? ⟨w.heap.size, 1, none⟩ = some (.int .i64 p) ∧ w'.cell? ⟨w.heap.size, 2, none⟩ = some (.int .i64 qq) ∧ w'.cell? ⟨w.heap.size, 3, none⟩ = some (.int .i64 k) ∧ w'.cell? ⟨w.heap.size, 5, none⟩ = some (.int .i64 r) ∧ w'.cell? ⟨w.heap.size, 6, none⟩ = some (.int .i64 g)) ((refine sAll.out _ ?_; assumption)) (first | (go_at_call 65; refine HG.out.mono ?_; rintro e w3 ⟨rfl, vn', vo', g3, o3⟩; have z3 : Kp (Gr.Own M.g q.n q.o) W w3 := z0.trans o3.kp; have H3 := hid (And.intro g3 (o3.after (HQ.out.trans (Kp.drew _)))); clear g3 o3 z0))
    go_wp2
    go_ret2
    rw [hE.out]
    exact ⟨rfl, _, _, H3.out.1, H3.out.2⟩
  · have hE := hid (show capR h x = cellOf h.s.ns h.s.os x.k x.r x.g by unfold capR; rw [if_neg hk])
    have HG := hid (Gr.cell_any (HH.s.quiet (Kp.drew _)).gs x.k x.r x.g)
    have sAll := hid (fun (w' : World) (z : Kp (Gr.Own M.g q.n q.o) W w') => HH.cells z)
    obtain ⟨kind, p, qq, k, hh, r, g, n, fs, fa, fc⟩ := x
    simp only [Sx.vals] at *
    have HQ := hid qW
    clear H HH qW
    go_enter Tryz.func50, Tryz.ntmps50
    go_wp2_with fail
    rw [← hW]
    clear hW
    have z0 : Kp (Gr.Own M.g q.n q.o) W W.drew := Kp.drew _
    go_region_held3 (fun w' => (w'.cell? ⟨M.hb, 0, none⟩ = some (.pointer (some ⟨M.bb, 0, none⟩)) ∧ w'.cell? ⟨M.bb, 0, none⟩ = some (.pointer (some ⟨M.g, 0, none⟩))) ∧ w'.cell? ⟨w.heap.size, 0, none⟩ = some (.int .i64 kind) ∧ w'.cell? ⟨w.heap.size, 1, none⟩ = some (.int .i64 p) ∧ w'.cell? ⟨w.heap.size, 2, none⟩ = some (.int .i64 qq) ∧ w'.cell? ⟨w.heap.size, 3, none⟩ = some (.int .i64 k) ∧ w'.cell? ⟨w.heap.size, 5, none⟩ = some (.int .i64 r) ∧ w'.cell? ⟨w.heap.size, 6, none⟩ = some (.int .i64 g)) ((refine sAll.out _ ?_; assumption)) (first | (go_at_call 66; refine HG.out.mono ?_; rintro e w3 ⟨rfl, vn', vo', g3, o3⟩; have z3 : Kp (Gr.Own M.g q.n q.o) W w3 := z0.trans o3.kp; have H3 := hid (And.intro g3 (o3.after (HQ.out.trans (Kp.drew _)))); clear g3 o3 z0))
    go_wp2
    go_ret2
    rw [hE.out]
    exact ⟨rfl, _, _, H3.out.1, H3.out.2⟩
end
end Go.Proofs.YtgojcohcimmfjaaGreat
