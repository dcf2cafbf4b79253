/- Parts. -/
import Derived.Test.YtkpckmcaeljocaaGreatUE2
namespace Go.Proofs.YtkpckmcaeljocaaGreat.Ex
open Go.ChangeShapes Go.WideShapes Go.ChangeAt Go.RowKit
theorem placeQ_any (v : V) (ao : Option Addr) (cap bc : Nat) (o F c : Int) (w : World) (hc : w.heap[bc]? = some (.cells #[.int .i64 c] 3 (0, 0))) :
    Calls Tryz.prog 122 #[.agg #[.int .i64 v.kind, .int .i64 v.k, .int .i64 v.n, .slice ao v.l.length cap, .int .i64 o, .int .i64 F], .pointer (some ⟨bc, 0, none⟩)] w fun e w' => e = .returned (.bool (fault1 F v o != 0)) ∧ w'.heap[bc]? = some (.cells #[.int .i64 (fault1 F v o)] 3 (0, 0)) ∧ Kp (fun k => k = bc) w w' := by
  have hlt := lt_of_block hc
  go_enter Tryz.func122, Tryz.ntmps122
  go_wp2_with (go_at_call 123; refine (fault_any v ao cap o F _).mono ?_; rintro e w2 ⟨rfl, q2⟩; have hb : w2.heap[bc]? = some (.cells #[.int .i64 c] 3 (0, 0)) := (((Kp.alloc _ _).trans q2).block bc hlt (fun h => h)).trans hc; have k0 := cell_of_one hb; have k1 := free_of_one hb)
  go_ret
  refine ⟨by simp, one_setCell hb, ?_⟩
  exact ((((Kp.alloc w _).trans q2).mono fun _ _ h => h.elim)).trans (Kp.setCell _ _ _ rfl)
set_option maxRecDepth 8000 in
set_option maxHeartbeats 4000000 in
theorem pin_any (v : V) (ao : Option Addr) (cap : Nat) (o F : Int) (W w : World) (hW : Below W.heap.size W w) (hI : Is W v ao) (hl : v.l.length ≤ 20000) (ho : 0 ≤ o ∧ o ≤ 12) :
    Calls Tryz.prog 121 #[.agg #[.int .i64 v.kind, .int .i64 v.k, .int .i64 v.n, .slice ao v.l.length cap, .int .i64 o, .int .i64 F]] w fun e w' => ∃ sv, ∃ ps : List Pc, e = .returned sv ∧ w'.ownsRow w.heap.size 189 6 sv ps.length (sixs F ps) ∧ ps.map vo = kids v o ∧ (∀ p ∈ ps, Is W p.1 p.2.2.1) ∧ Quiet w w' := by
  obtain ⟨i0, hi, hz0, hz1, hz2⟩ := info_parts Tryz.infoPl
  have HI := hid hI
  have hmx : ∀ j (h : j < v.l.length), (kids v o).take (j + 1) = (kids v o).take j ++ [(v.l[j], opens v.kind o j)] := fun j h => by
    rw [take_snoc _ j (by rw [kids_len]; exact h)]; simp [kids]
  have HMX := hid hmx
  clear hI hmx
  obtain ⟨kind, k, n, l⟩ := v
  simp only at *
  have hb0 := heap_alloc_new w (.cells #[.int .i64 kind, .int .i64 k, .int .i64 n, .slice ao l.length cap, .int .i64 o, .int .i64 F] 189)
  go_enter Tryz.func121, Tryz.ntmps121
  go_wp2
  go_loopw [3, 11] (fun sv i wr => ∃ (j : Nat) (ps : List Pc), j ≤ l.length ∧ i = .int .i64 j ∧ wr.ownsRow (w.heap.size + 1) 189 6 sv ps.length (sixs F ps) ∧ ps.map vo = (kids ⟨kind, k, n, l⟩ o).take j ∧ (∀ p ∈ ps, Is W p.1 p.2.2.1) ∧ Below (w.heap.size + 1) (w.alloc (.cells #[.int .i64 kind, .int .i64 k, .int .i64 n, .slice ao l.length cap, .int .i64 o, .int .i64 F] 189)) wr) (fun _ i _ => l.length - (intOf i).toNat)
  case atStart => exact ⟨0, [], Nat.zero_le _, rfl, World.ownsRow_nil _ _ _ _, by simp, fun p hp => by simp at hp, Below.refl _ _⟩
  case round =>
    rename World => wq
    obtain ⟨j, ps, hj, rfl, hr, hm, hps, hB⟩ := hrel
    have hsB := hB.size
    rw [World.size_alloc] at hsB
    have hpl : ps.length = j := by
      have := congrArg List.length hm
      rw [List.length_map, List.length_take, kids_len] at this
      simp only at this; omega
    rw [hpl] at hr
    obtain ⟨av, cv, hsv⟩ := owns_shape hr
    have hbx := (hB.block w.heap.size (by omega)).trans hb0
    have x0 : wq.cell? ⟨w.heap.size, 0, none⟩ = some (.int .i64 kind) := by simp [World.cell?, hbx]
    have x4 : wq.cell? ⟨w.heap.size, 4, none⟩ = some (.int .i64 o) := by simp [World.cell?, hbx]
    have x5 : wq.cell? ⟨w.heap.size, 5, none⟩ = some (.int .i64 F) := by simp [World.cell?, hbx]
    have z2 : w.heap.size < wq.heap.size := by omega
    have HB := hid (And.intro hB (And.intro hm (And.intro hps hpl)))
    have HR := hid hr
    clear hB hm hps hr hpl hbx hb0
    by_cases hlt : j < l.length
    · have qw : Quiet w wq := quiet_of (((Below.refl _ _).alloc (Nat.le_refl _) _).trans (HB.out.1.mono (by omega)))
      have hWq : Below W.heap.size W wq := hW.trans (qw.low.mono hW.size)
      obtain ⟨b, off, rfl, dh, ai, ci, ds, hci⟩ := (HI.out.low hWq).fo.get j hlt
      obtain ⟨_, _, e2, _, ai2, ci2, ds2, hci2⟩ := HI.out.fo.get j hlt
      cases e2
      obtain rfl : ai2 = ai := by
        have h1 := low_kept hWq _ _ ds2
        rw [ds] at h1; simp at h1; exact h1.1.symm
      have hmx := HMX.out j hlt
      obtain ⟨d0, d9, d1⟩ := dh
      simp only at *
      generalize hcu : l[j] = c at *
      have HC := hid (And.intro hmx hci2)
      subst hsv
      clear hcu hmx hci hci2 ds2
      by_cases hk : kind = 5
      · subst hk
        by_cases hj1 : j = 1
        · subst hj1
          have HO := hid (show opens 5 o 1 = o + 1 by simp [opens])
          go_wp2_with (at_builtin; refine wpList_append_lies _ rfl (.tmp 28) (.tmp 34) 211 rfl (w.heap.size + 1) 189 i0 _ 6 64 Tryz.undPl hi hz0 hz1 hz2 rfl (by decide) _ 1 (sixs F ps) rfl ((HR.out.alloc _).alloc _) ⟨wq.heap.size + 1, 0, none⟩ 1 1 (six F (c, o + 1, ai2, ci)) rfl rfl (news_from (t := 189) (heap_two wq _ _)) (six_one _ _) (by decide) (by unfold maxLen; omega) (by omega) (by simp; omega) (wq.heap.size + 2) (by simp) ?_; intro g2 cap2 w1 hr1 hg1 hat hlt1; have hS := hid (push_row6 (x := (c, o + 1, ai2, ci)) (HB.out.1.alloc (by omega) _) (by simp; omega) (HR.out.alloc _) HB.out.2.2.2.symm hr1 hg1); clear hr1 hg1 hat hlt1)
          refine ⟨⟨1 + 1, ps ++ [(c, o + 1, ai2, ci)], by omega, by go_num, hS.out.1, ?_, ?_, hS.out.2⟩, by simp [intOf]; omega⟩
          · rw [List.map_append, HB.out.2.1, HC.out.1, HO.out]; rfl
          · intro p hp
            rcases List.mem_append.1 hp with hp | hp
            · exact HB.out.2.2.1 p hp
            · simp at hp; subst hp; exact HC.out.2
        · have hj2 : ¬ (j : Int) = 1 := by omega
          have hj3 : decide ((j : Int) = 1) = false := by simp; omega
          have hj4 : ((j : Int) == 1) = false := by simp; omega
          have HO := hid (show opens 5 o j = o by simp [opens, hj1])
          go_wp2_with (at_builtin; refine wpList_append_lies _ rfl (.tmp 28) (.tmp 34) 211 rfl (w.heap.size + 1) 189 i0 _ 6 64 Tryz.undPl hi hz0 hz1 hz2 rfl (by decide) _ j (sixs F ps) rfl ((HR.out.alloc _).alloc _) ⟨wq.heap.size + 1, 0, none⟩ 1 1 (six F (c, o, ai2, ci)) rfl rfl (news_from (t := 189) (heap_two wq _ _)) (six_one _ _) (by decide) (by unfold maxLen; omega) (by omega) (by simp; omega) (wq.heap.size + 2) (by simp) ?_; intro g2 cap2 w1 hr1 hg1 hat hlt1; have hS := hid (push_row6 (x := (c, o, ai2, ci)) (HB.out.1.alloc (by omega) _) (by simp; omega) (HR.out.alloc _) HB.out.2.2.2.symm hr1 hg1); clear hr1 hg1 hat hlt1)
          refine ⟨⟨j + 1, ps ++ [(c, o, ai2, ci)], by omega, by go_num, hS.out.1, ?_, ?_, hS.out.2⟩, by simp [intOf]; omega⟩
          · rw [List.map_append, HB.out.2.1, HC.out.1, HO.out]; rfl
          · intro p hp
            rcases List.mem_append.1 hp with hp | hp
            · exact HB.out.2.2.1 p hp
            · simp at hp; subst hp; exact HC.out.2
      · have hk3 : decide (kind = 5) = false := by simpa using hk
        have hk4 : (kind == 5) = false := by simpa using hk
        have HO := hid (show opens kind o j = o by simp [opens, hk])
        go_wp2_with (at_builtin; refine wpList_append_lies _ rfl (.tmp 28) (.tmp 34) 211 rfl (w.heap.size + 1) 189 i0 _ 6 64 Tryz.undPl hi hz0 hz1 hz2 rfl (by decide) _ j (sixs F ps) rfl ((HR.out.alloc _).alloc _) ⟨wq.heap.size + 1, 0, none⟩ 1 1 (six F (c, o, ai2, ci)) rfl rfl (news_from (t := 189) (heap_two wq _ _)) (six_one _ _) (by decide) (by unfold maxLen; omega) (by omega) (by simp; omega) (wq.heap.size + 2) (by simp) ?_; intro g2 cap2 w1 hr1 hg1 hat hlt1; have hS := hid (push_row6 (x := (c, o, ai2, ci)) (HB.out.1.alloc (by omega) _) (by simp; omega) (HR.out.alloc _) HB.out.2.2.2.symm hr1 hg1); clear hr1 hg1 hat hlt1)
        refine ⟨⟨j + 1, ps ++ [(c, o, ai2, ci)], by omega, by go_num, hS.out.1, ?_, ?_, hS.out.2⟩, by simp [intOf]; omega⟩
        · rw [List.map_append, HB.out.2.1, HC.out.1, HO.out]; rfl
        · intro p hp
          rcases List.mem_append.1 hp with hp | hp
          · exact HB.out.2.2.1 p hp
          · simp at hp; subst hp; exact HC.out.2
    · have hjl : j = l.length := by omega
      subst hjl
      subst hsv
      go_wp2
      go_ret
      refine ⟨_, ps, rfl, owns_mono (by rw [HB.out.2.2.2]; exact HR.out) (by omega), ?_, HB.out.2.2.1, ?_⟩
      · have h := HB.out.2.1
        rw [h, List.take_of_length_le (by rw [kids_len]; exact Nat.le_refl _)]
      · exact quiet_of (((Below.refl _ _).alloc (Nat.le_refl _) _).trans (HB.out.1.mono (by omega)))
theorem _root_.Go.Proofs.YtkpckmcaeljocaaGreat.Kp.fresh2 {F : Nat → Prop} {a b c : World} (h : Kp F a b) (k : Kp (fun i => F i ∨ a.heap.size ≤ i) b c) : Kp F a c :=
  ⟨k.os.trans h.os, k.tape.trans h.tape, k.output.trans h.output, Nat.le_trans h.size k.size, fun i hi hF => (k.block i (Nat.lt_of_lt_of_le hi h.size) (fun e => e.elim hF (by omega))).trans (h.block i hi hF)⟩
structure PS (W E : World) (bc : Nat) (F : Int) (sv : Value) (ts : List Pc) (c : Int) (w : World) : Prop where
  row : w.ownsRow E.heap.size 189 6 sv ts.length (sixs F ts)
  lie : ∀ p ∈ ts, Is W p.1 p.2.2.1
  opn : ∀ p ∈ ts, 0 ≤ p.2.1 ∧ p.2.1 ≤ 12
  kp : Kp (fun k => k = bc) E w
  code : w.heap[bc]? = some (.cells #[.int .i64 c] 3 (0, 0))
structure PB (W E : World) (bc : Nat) : Prop where
  low : Below W.heap.size W E
  wb : W.heap.size ≤ bc
  lt : bc < E.heap.size
theorem PS.step {W E w w' : World} {bc : Nat} {F : Int} {sv : Value} {ts : List Pc} {c c' : Int} (B : PB W E bc) (H : PS W E bc F sv ts c w) (q : Kp (fun k => k = bc) w w') (hc : w'.heap[bc]? = some (.cells #[.int .i64 c'] 3 (0, 0))) : PS W E bc F sv ts c' w' :=
  ⟨q.row H.row fun k e hk => by have := (H.row.lt k e).1; have := B.lt; omega, H.lie, H.opn, H.kp.trans q, hc⟩
theorem PS.quiet {W E w w' : World} {bc : Nat} {F : Int} {sv : Value} {ts : List Pc} {c : Int} (B : PB W E bc) (H : PS W E bc F sv ts c w) (q : Quiet w w') : PS W E bc F sv ts c w' :=
  H.step B (q.mono fun _ _ e => e.elim) ((q.block bc (lt_of_block H.code) fun e => e).trans H.code)
theorem PS.is {W E w : World} {bc : Nat} {F : Int} {sv : Value} {ts : List Pc} {c : Int} (B : PB W E bc) (H : PS W E bc F sv ts c w) {v : V} {ao : Option Addr} (h : Is W v ao) : Is w v ao :=
  h.low (B.low.trans (H.kp.below B.low.size fun k hk => by have := B.wb; omega))
theorem PS.push {W E w w1 : World} {bc : Nat} {F : Int} {sv : Value} {ts : List Pc} {c : Int} {x : Pc} {n g cap : Nat} {o : Obj} (B : PB W E bc) (H : PS W E bc F sv ts c w) (hx : Is W x.1 x.2.2.1) (ho : 0 ≤ x.2.1 ∧ x.2.1 ≤ 12) (hn : n = ts.length)
    (hr1 : w1.ownsRow E.heap.size 189 6 (.slice (some ⟨g, 0, none⟩) (n + 1) cap) (n + 1) (sixs F ts ++ six F x)) (hg : (w.alloc o).grownBy w1 sv.ownBlock) : PS W E bc F (.slice (some ⟨g, 0, none⟩) (n + 1) cap) (ts ++ [x]) c w1 := by
  subst hn
  have hlt := lt_of_block H.code
  refine ⟨by rw [sixs_app, sixs_one]; simpa using hr1, fun p hp => ?_, fun p hp => ?_, ?_, ?_⟩
  · rcases List.mem_append.1 hp with hp | hp
    · exact H.lie p hp
    · simp at hp; subst hp; exact hx
  · rcases List.mem_append.1 hp with hp | hp
    · exact H.opn p hp
    · simp at hp; subst hp; exact ho
  · refine H.kp.fresh2 ((Kp.alloc _ o).trans (Kp.grown hg fun k _ e => .inr (H.row.lt k e.symm).1))
  · rw [hg.block bc (by simp; omega) (fun e => by have := (H.row.lt _ e.symm).1; have := B.lt; omega), Below.heap_alloc _ _ _ hlt]
    exact H.code
theorem six_cells {w : World} {g m : Nat} {F : Int} {v : V} {o : Int} {ao : Option Addr} {cap : Nat} (h : ∀ j, j < 6 → w.cell? ⟨g, m + j, none⟩ = (six F (v, o, ao, cap))[j]?) :
    w.cell? ⟨g, m, none⟩ = some (.int .i64 v.kind) ∧ w.cell? ⟨g, m + 1, none⟩ = some (.int .i64 v.k) ∧ w.cell? ⟨g, m + 2, none⟩ = some (.int .i64 v.n) ∧ w.cell? ⟨g, m + 3, none⟩ = some (.slice ao v.l.length cap) ∧ w.cell? ⟨g, m + 4, none⟩ = some (.int .i64 o) ∧ w.cell? ⟨g, m + 5, none⟩ = some (.int .i64 F) :=
  ⟨h 0 (by decide), h 1 (by decide), h 2 (by decide), h 3 (by decide), h 4 (by decide), h 5 (by decide)⟩
theorem box6 {w : World} {x : Nat} {a b c d e f : Value} {t : TypeId} (h : w.heap[x]? = some (.cells #[a, b, c, d, e, f] t (0, 0))) : w.cell? ⟨x, 0, none⟩ = some a ∧ w.cell? ⟨x, 1, none⟩ = some b ∧ w.cell? ⟨x, 2, none⟩ = some c ∧ w.cell? ⟨x, 3, none⟩ = some d ∧ w.cell? ⟨x, 4, none⟩ = some e ∧ w.cell? ⟨x, 5, none⟩ = some f := by
  refine ⟨?_, ?_, ?_, ?_, ?_, ?_⟩ <;> simp [World.cell?, h]
theorem firsts_one (F : Int) (v : V) (o : Int) : firsts F [(v, o)] = v.bad F o := by
  simp only [firsts]
  by_cases h : v.bad F o = 0
  · rw [if_pos h, h]
  · rw [if_neg h]
theorem rev_take {α : Type} (l : List α) (j : Nat) (h : j < l.length) : l.reverse.take (j + 1) = l.reverse.take j ++ [l[l.length - 1 - j]] := by
  rw [take_snoc l.reverse j (by simpa using h)]; simp
theorem search_mid {W E w w2 : World} {bc : Nat} {F : Int} {sv : Value} {ts : List Pc} {c c' : Int} {o : Obj} (B : PB W E bc) (H : PS W E bc F sv ts c w) (q : Kp (fun k => k = bc) (w.alloc o) w2) (hc : w2.heap[bc]? = some (.cells #[.int .i64 c'] 3 (0, 0))) : PS W E bc F sv ts c' w2 ∧ Below W.heap.size W w2 := by
  have h := (H.quiet B (Kp.alloc w o)).step B q hc
  exact ⟨h, B.low.trans (h.kp.below B.low.size fun k hk => by have := B.wb; omega)⟩
theorem inner_kept {w w1 : World} {B n m cap cap2 k2 g2 : Nat} {a3 av : Option Addr} {cv : Nat} {xs : List Value} {o : Obj} (hr : w.ownsRow B 189 6 (.slice a3 n cap) n xs) (hn : ∀ k, (Value.slice a3 n cap).ownBlock = some k → (Value.slice av m cv).ownBlock ≠ some k)
    (hg : (w.alloc o).grownBy w1 (Value.slice av m cv).ownBlock) (hat : (Value.slice av m cv).ownBlock = some g2 ∨ g2 = (w.alloc o).heap.size) :
    w1.ownsRow B 189 6 (.slice a3 n cap) n xs ∧ ∀ k, (Value.slice a3 n cap).ownBlock = some k → (Value.slice (some ⟨g2, 0, none⟩) k2 cap2).ownBlock ≠ some k := by
  refine ⟨?_, fun k e e2 => ?_⟩
  · refine Kp.row (F := fun k => (Value.slice av m cv).ownBlock = some k) (Kp.grown hg fun k _ e => e.symm) (hr.alloc o) fun k e e2 => hn k e e2
  · simp only [Value.ownBlock, Option.some.injEq] at e2
    subst e2
    rcases hat with h | h
    · exact hn _ e h
    · have := (hr.lt _ e).2; rw [World.size_alloc] at h; omega
set_option maxRecDepth 8000 in
set_option maxHeartbeats 4000000 in
theorem searchP_any (v : V) (ao : Option Addr) (cap bc : Nat) (F c : Int) (W w : World) (B : PB W w bc) (hI : Is W v ao) (hS : v.size ≤ 20000) (hc : w.heap[bc]? = some (.cells #[.int .i64 c] 3 (0, 0))) :
    Calls Tryz.prog 120 #[.agg #[.int .i64 v.kind, .int .i64 v.k, .int .i64 v.n, .slice ao v.l.length cap, .int .i64 0, .int .i64 F], .func (.func 121) #[] #[], .func (.func 122) #[] #[.pointer (some ⟨bc, 0, none⟩)]] w fun e w' => (∃ r, e = .returned (.bool r)) ∧ w'.heap[bc]? = some (.cells #[.int .i64 (v.bad F 0)] 3 (0, 0)) ∧ Kp (fun k => k = bc) w w' := by
  obtain ⟨i0, hi, hz0, hz1, hz2⟩ := info_parts Tryz.infoPl
  have HB := hid B
  have HI := hid hI
  have hst := hid (show PS W w bc F (.slice (some ⟨w.heap.size + 1, 0, none⟩) 1 1) [(v, 0, ao, cap)] c ((w.alloc (.cells #[.int .i64 v.kind, .int .i64 v.k, .int .i64 v.n, .slice ao v.l.length cap, .int .i64 0, .int .i64 F] 189)).alloc (.cells #[.int .i64 v.kind, .int .i64 v.k, .int .i64 v.n, .slice ao v.l.length cap, .int .i64 0, .int .i64 F] 189)) by
    have q : Quiet w ((w.alloc (.cells #[.int .i64 v.kind, .int .i64 v.k, .int .i64 v.n, .slice ao v.l.length cap, .int .i64 0, .int .i64 F] 189)).alloc (.cells #[.int .i64 v.kind, .int .i64 v.k, .int .i64 v.n, .slice ao v.l.length cap, .int .i64 0, .int .i64 F] 189)) := (Kp.alloc _ _).trans (Kp.alloc _ _)
    refine ⟨⟨by simp [sixs_len], .inr ⟨w.heap.size + 1, 1, _, rfl, by omega, heap_two w _ _, Nat.le_refl _, by decide, by simp, by simp [sixs_one, six]⟩⟩, fun p hp => ?_, fun p hp => ?_, q.mono fun _ _ e => e.elim, (q.block bc B.lt fun e => e).trans hc⟩
    · simp at hp; subst hp; exact hI
    · simp at hp; subst hp; exact ⟨Int.le_refl 0, show (0 : Int) ≤ 12 by decide⟩)
  clear hI B hc
  go_enter Tryz.func120, Tryz.ntmps120
  go_wp2
  go_loopg [7] v.size (fun gk sv wr => ∃ (ts : List Pc) (c : Int), psz ts = gk ∧ gk ≤ v.size ∧ PS W w bc F sv ts c wr ∧ firsts F (ts.map vo).reverse = v.bad F 0 ∧ (ts = [] → c = 0))
  case atStart => exact ⟨[(v, 0, ao, cap)], c, psz_one _, Nat.le_refl _, hst.out, firsts_one F v 0, fun e => by simp at e⟩
  case round =>
    rename World => wr
    clear hst
    obtain ⟨ts, c, hsz, hle, H, hf, hcz⟩ := hrel
    rcases List.eq_nil_or_concat ts with rfl | ⟨ts, ⟨u, o, ua, uc⟩, rfl⟩
    · obtain ⟨av, cv, hsv⟩ := owns_shape H.row
      have HH := hid (And.intro H (And.intro hf (hcz rfl)))
      subst hsv
      clear hsz hle H hf hcz
      go_wp2
      go_ret
      refine ⟨⟨_, rfl⟩, ?_, HH.out.1.kp⟩
      have h1 := HH.out.2.1; have h2 := HH.out.1.code; have h3 := HH.out.2.2
      rw [← h1, h2, h3]; rfl
    · rw [List.concat_eq_append] at hsz H hf
      have hr := H.row
      rw [sixs_app, sixs_one, List.length_append, List.length_cons, List.length_nil, Nat.zero_add] at hr
      obtain ⟨g, cp, hv⟩ := lies_shape hr (by omega)
      subst hv
      obtain ⟨hr', hc'⟩ := owns_pop hr rfl
      obtain ⟨t0, t1, t2, t3, t4, t5⟩ := six_cells hc'
      have hui := H.is HB.out (H.lie (u, o, ua, uc) (by simp))
      have huW := H.lie (u, o, ua, uc) (by simp)
      have huo := H.opn (u, o, ua, uc) (by simp)
      simp only at hui huo huW
      rw [psz_app, psz_one] at hsz
      simp only at hsz
      have htl := psz_len ts
      have hus := size_eq u
      have hul := sizes_len u.l
      have hcp := owns_cap hr
      have hul5 : u.l.length ≤ 20000 := by omega
      have htl5 : ts.length ≤ 20000 := by omega
      rw [List.map_append, List.map_cons, List.map_nil, List.reverse_append, List.reverse_cons, List.reverse_nil, List.nil_append, List.singleton_append] at hf
      have HX := hid (And.intro hsz (And.intro hus (And.intro hle hf)))
      have HH := hid (show PS W w bc F (.slice (some ⟨g, 0, none⟩) ts.length cp) ts c wr from ⟨hr', fun p hp => H.lie p (by simp [hp]), fun p hp => H.opn p (by simp [hp]), H.kp, H.code⟩)
      have HU := hid (And.intro huW huo)
      have hcd := H.code
      have hlt := lt_of_block hcd
      have HQ := hid (fun (o' : Obj) => placeQ_any u ua uc bc o F c (wr.alloc o') ((Below.heap_alloc wr o' bc hlt).trans hcd))
      clear hc' hr hsz hle H hr' hui huW huo hcz hf hcd hus
      by_cases hfz : fault1 F u o = 0
      · have hb : (fault1 F u o != 0) = false := by simp [hfz]
        have HFZ := hid hfz
        clear hfz
        go_wp2_with (first
          | (go_at_call 121; refine (pin_any u ua uc o F W w2 H2.out.2 HU.out.1 hul5 HU.out.2).mono ?_; rintro e w3 ⟨sv2, ps, rfl, r3, m3, i3, q3⟩; obtain ⟨a3, c3, hs3⟩ := owns_shape r3; subst hs3)
          | (go_at_call 122; refine (HQ.out _).mono ?_; rintro e w2 ⟨rfl, hb2, q2⟩; rw [hb]; rw [HFZ.out] at hb2; have hbx : w2.heap[wr.heap.size]? = some (.cells #[.int .i64 u.kind, .int .i64 u.k, .int .i64 u.n, .slice ua u.l.length uc, .int .i64 o, .int .i64 F] 189 (0, 0)) := (q2.block _ (by simp) (by show ¬ wr.heap.size = bc; omega)).trans (heap_alloc_new wr _); obtain ⟨y0, y1, y2, y3, y4, y5⟩ := box6 hbx; have H2 := hid (search_mid HB.out HH.out q2 hb2); clear hbx q2 hb2))
        have hpl : ps.length = u.l.length := by have := congrArg List.length m3; rwa [List.length_map, kids_len] at this
        rw [hpl]
        rw [hpl] at r3
        have HP := hid (And.intro m3 (And.intro hpl (And.intro (psz_vo m3) (fault1_open HFZ.out HU.out.2))))
        have H3 := hid (H2.out.1.quiet HB.out q3)
        have HI3 := hid i3
        have hn3 : ∀ k, (Value.slice a3 u.l.length c3).ownBlock = some k → (Value.slice (some ⟨g, 0, none⟩) ts.length cp).ownBlock ≠ some k := by
          intro k e e2
          have h1 := (r3.lt k e).1
          have h2 := (H2.out.1.row.lt k e2).2
          omega
        have HR3 := hid (And.intro r3 hn3)
        clear m3 i3 r3 q3 hpl y0 y1 y2 y3 y4 y5 t0 t1 t2 t3 t4 t5 hn3
        go_loopw [7, 35] (fun sv i w5 => ∃ (j : Nat), j ≤ u.l.length ∧ i = .int .i64 j ∧ PS W w bc F sv (ts ++ ps.reverse.take j) 0 w5 ∧ w5.ownsRow w2.heap.size 189 6 (.slice a3 u.l.length c3) u.l.length (sixs F ps) ∧ ∀ k, (Value.slice a3 u.l.length c3).ownBlock = some k → sv.ownBlock ≠ some k) (fun _ i _ => u.l.length - (intOf i).toNat)
        case atStart => exact ⟨0, Nat.zero_le _, rfl, by simpa using H3.out, HR3.out⟩
        case round =>
          rename World => wq
          clear H3 HR3 HH
          obtain ⟨j, hj, rfl, H, hr3, hn3⟩ := hrel
          have hl3 : (ps.reverse.take j).length = j := by rw [List.length_take, List.length_reverse, HP.out.2.1]; omega
          obtain ⟨nk, hnk⟩ : ∃ nk, nk = (ts ++ ps.reverse.take j).length := ⟨_, rfl⟩
          have hnk5 : nk ≤ 40000 := by rw [hnk, List.length_append, hl3]; omega
          have hrk := H.row
          rw [← hnk] at hrk
          obtain ⟨av, cv, hsv⟩ := owns_shape hrk
          have HNK := hid hnk
          clear hnk hl3
          by_cases hlt : j < u.l.length
          · have hidx : (u.l.length : Int) - 1 - (j : Int) = ((u.l.length - 1 - j : Nat) : Int) := by omega
            have hq : u.l.length - 1 - j < ps.length := by rw [HP.out.2.1]; omega
            obtain ⟨g3, e3, d3⟩ := owns_at hr3 (by omega)
            subst e3
            obtain ⟨x, xo, xa, xc, hx⟩ : ∃ x xo xa xc, ps[u.l.length - 1 - j] = (x, xo, xa, xc) := ⟨_, _, _, _, rfl⟩
            have hcells : ∀ k, k < 6 → wq.cell? ⟨g3, (u.l.length - 1 - j) * 6 + k, none⟩ = (six F (x, xo, xa, xc))[k]? := fun k hk => by
              rw [d3 _ (by omega), sixs_at F ps _ k hq hk, hx]
            obtain ⟨t0, t1, t2, t3, t4, t5⟩ := six_cells hcells
            have hmem : (x, xo, xa, xc) ∈ ps := hx ▸ List.getElem_mem hq
            have hxo : 0 ≤ xo ∧ xo ≤ 12 := by
              have h1 : ps[u.l.length - 1 - j] ∈ ps := List.getElem_mem hq
              have h2 : (ps.map vo)[u.l.length - 1 - j]'(by simpa using hq) = (x, xo) := by rw [List.getElem_map, hx]; rfl
              have h3 := HP.out.1
              simp only [h3] at h2
              have h4 : xo = opens u.kind o (u.l.length - 1 - j) := by
                have := congrArg Prod.snd h2
                simp only [kids, List.getElem_mapIdx] at this
                exact this.symm
              rw [h4]; exact HP.out.2.2.2 _
            have HN := hid (show ps.reverse.take (j + 1) = ps.reverse.take j ++ [(x, xo, xa, xc)] by
              rw [rev_take ps j (by rw [HP.out.2.1]; exact hlt), ← hx]; simp only [HP.out.2.1])
            have HXX := hid (And.intro (HI3.out _ hmem) hxo)
            have HH := hid (And.intro H (And.intro hr3 hn3))
            have HRK := hid hrk
            have hsz := lt_of_block H.code
            have hsE := H.kp.size
            subst hsv
            clear hcells hmem hxo hx hq d3 H hr3 hn3 hrk
            go_wp2_with (at_builtin; refine wpList_append_lies _ rfl (.tmp 38) (.tmp 47) 211 rfl w.heap.size 189 i0 _ 6 64 Tryz.undPl hi hz0 hz1 hz2 rfl (by decide) _ nk (sixs F (ts ++ ps.reverse.take j)) rfl (HRK.out.alloc _) ⟨wq.heap.size, 0, none⟩ 1 1 (six F (x, xo, xa, xc)) rfl rfl (news_at wq _ 189) (six_one _ _) (by decide) (by unfold maxLen; omega) (by omega) (by simp; omega) _ rfl ?_; intro g2 cap2 w1 hr1 hg1 hat hlt1; have hD := hid (HH.out.1.push HB.out (x := (x, xo, xa, xc)) HXX.out.1 HXX.out.2 HNK.out hr1 hg1); have hI := hid (inner_kept (k2 := nk + 1) (cap2 := cap2) HH.out.2.1 HH.out.2.2 hg1 hat); clear hr1 hg1 hat hlt1)
            exact ⟨⟨j + 1, by omega, by go_num, by rw [HN.out, ← List.append_assoc]; exact hD.out, hI.out.1, hI.out.2⟩, by simp [intOf]; omega⟩
          · have hjl : j = u.l.length := by omega
            subst hjl
            have HH := hid H
            subst hsv
            clear H hr3 hn3 hrk
            have hpr : ps.reverse.take u.l.length = ps.reverse := List.take_of_length_le (by rw [List.length_reverse, HP.out.2.1]; exact Nat.le_refl _)
            rw [hpr] at HH
            go_wp2
            go_roundg (psz (ts ++ ps.reverse))
            case measure =>
              have h2 := HP.out.2.2.1; have h3 := HX.out
              rw [psz_app, psz_rev]; omega
            case rel =>
              refine ⟨ts ++ ps.reverse, 0, rfl, ?_, HH.out, ?_, fun _ => rfl⟩
              · have h2 := HP.out.2.2.1; have h3 := HX.out
                rw [psz_app, psz_rev]; omega
              · have h1 := HX.out.2.2.2
                rw [List.map_append, List.reverse_append, List.map_reverse, List.reverse_reverse, HP.out.1, ← h1]
                exact (firsts_pop F u o _ HFZ.out).symm
      · have hb : (fault1 F u o != 0) = true := by simp [hfz]
        have hE := hid (show v.bad F 0 = fault1 F u o by have h := HX.out.2.2.2; rw [← h]; exact firsts_stop F u o _ hfz)
        go_wp2_with (go_at_call 122; refine (HQ.out _).mono ?_; rintro e w2 ⟨rfl, hb2, q2⟩; rw [hb])
        go_ret
        refine ⟨⟨_, rfl⟩, by rw [hE.out]; exact hb2, HH.out.kp.fresh2 ?_⟩
        exact (Kp.alloc _ _).trans (q2.mono fun _ _ e => .inl e)
theorem head_box {w : World} {b : Nat} {v : V} {ao : Option Addr} {cap : Nat} (h : w.heap[b]? = some (.cells #[.int .i64 v.kind, .int .i64 v.k, .int .i64 v.n, .slice ao v.l.length cap] 105 (0, 0))) : v.head w b 0 ∧ w.cell? ⟨b, 0 + 3, none⟩ = some (.slice ao v.l.length cap) := by
  obtain ⟨h0, h1, h2, h3⟩ := box_cells h
  exact ⟨⟨h0, h1, h2⟩, h3⟩
theorem fo_single {w : World} {b : Nat} {v : V} {ao : Option Addr} {cap : Nat} (h : w.heap[b]? = some (.cells #[.int .i64 v.kind, .int .i64 v.k, .int .i64 v.n, .slice ao v.l.length cap] 105 (0, 0))) (hI : Is w v ao) : Fo w [v] (some ⟨b, 0, none⟩) := by
  intro i hi
  obtain rfl : i = 0 := by simp at hi; omega
  refine ⟨b, 0, rfl, ?_⟩
  have := head_box h
  exact (at_iff _ _ _ _).2 ⟨this.1, ao, cap, this.2, hI⟩
theorem Is.cleanQ {w w' : World} {v : V} {ao : Option Addr} (h : Is (cln w) v ao) (q : Quiet w w') : Is (cln w') v ao := h.kept (cln_quiet q)
theorem Fo.cleanQ {w w' : World} {l : List V} {ao : Option Addr} (h : Fo (cln w) l ao) (q : Quiet w w') : Fo (cln w') l ao := h.kept (cln_quiet q)
set_option maxRecDepth 8000 in
set_option maxHeartbeats 2000000 in
theorem faultOf_any (v : V) (ao : Option Addr) (cap : Nat) (F : Int) (w : World) (hI : Is (cln w) v ao) (hS : v.size ≤ 20000) :
    Calls Tryz.prog 98 #[.agg #[.int .i64 v.kind, .int .i64 v.k, .int .i64 v.n, .slice ao v.l.length cap], .int .i64 F] w fun e w' => e = .returned (.int .i64 (fun1 F v)) ∧ Quiet w w' := by
  have q2 : Quiet w ((w.alloc (.cells #[.int .i64 v.kind, .int .i64 v.k, .int .i64 v.n, .slice ao v.l.length cap] 105)).alloc (.cells #[.int .i64 v.kind, .int .i64 v.k, .int .i64 v.n, .slice ao v.l.length cap] 105)) := (Kp.alloc _ _).trans (Kp.alloc _ _)
  have hF2 : Fo (cln ((w.alloc (.cells #[.int .i64 v.kind, .int .i64 v.k, .int .i64 v.n, .slice ao v.l.length cap] 105)).alloc (.cells #[.int .i64 v.kind, .int .i64 v.k, .int .i64 v.n, .slice ao v.l.length cap] 105))) [v] (some ⟨w.heap.size + 1, 0, none⟩) := fo_single (cln_same (heap_two w _ _)) (hI.cleanQ q2)
  have hb0 : ((w.alloc (.cells #[.int .i64 v.kind, .int .i64 v.k, .int .i64 v.n, .slice ao v.l.length cap] 105)).alloc (.cells #[.int .i64 v.kind, .int .i64 v.k, .int .i64 v.n, .slice ao v.l.length cap] 105)).heap[w.heap.size]? = some (.cells #[.int .i64 v.kind, .int .i64 v.k, .int .i64 v.n, .slice ao v.l.length cap] 105 (0, 0)) := by
    rw [Below.heap_alloc _ _ _ (by simp)]; exact heap_alloc_new w _
  have HD := hid (deeper_any [v] (some ⟨w.heap.size + 1, 0, none⟩) 1 30 _ hF2 (by rw [sizes_one]; exact hS) (by decide))
  have HM := hid (fun w3 (q : Quiet ((w.alloc (.cells #[.int .i64 v.kind, .int .i64 v.k, .int .i64 v.n, .slice ao v.l.length cap] 105)).alloc (.cells #[.int .i64 v.kind, .int .i64 v.k, .int .i64 v.n, .slice ao v.l.length cap] 105)) w3) => more_any [v] (some ⟨w.heap.size + 1, 0, none⟩) 1 120 w3 (hF2.unclean.quiet q) (by rw [sizes_one]; exact hS) (by decide))
  have HBX := hid (fun w3 (q : Quiet ((w.alloc (.cells #[.int .i64 v.kind, .int .i64 v.k, .int .i64 v.n, .slice ao v.l.length cap] 105)).alloc (.cells #[.int .i64 v.kind, .int .i64 v.k, .int .i64 v.n, .slice ao v.l.length cap] 105)) w3) => box_cells ((q.block _ (lt_of_block hb0) fun e => e).trans hb0))
  rw [List.length_singleton] at HD HM
  rw [sizes_one] at HM
  rw [deeps_one] at HD
  clear hF2 hb0
  have HI := hid hI.unclean
  clear hI
  by_cases h1 : 30 < v.deep
  · have hE := hid (show fun1 F v = 4 by unfold fun1; rw [if_pos h1])
    have hd := hid (show decide (30 + 1 < 1 + v.deep) = true by simp; omega)
    clear h1
    go_enter Tryz.func98, Tryz.ntmps98
    go_wp2_with (go_at_call 117; refine HD.out.mono ?_; rintro e w3 ⟨rfl, q3⟩; rw [hd.out])
    go_ret
    exact ⟨by rw [hE.out]; rfl, q2.trans q3⟩
  · have hd := hid (show decide (30 + 1 < 1 + v.deep) = false by simp; omega)
    by_cases h2 : 120 < v.size
    · have hE := hid (show fun1 F v = 3 by unfold fun1; rw [if_neg h1, if_pos h2])
      have hm := hid (show decide (120 < v.size) = true by simpa using h2)
      clear h1 h2
      go_enter Tryz.func98, Tryz.ntmps98
      go_wp2_with (first
        | (go_at_call 119; refine (HM.out w3 q3).mono ?_; rintro e w4 ⟨rfl, q4⟩; rw [hm.out])
        | (go_at_call 117; refine HD.out.mono ?_; rintro e w3 ⟨rfl, q3⟩; rw [hd.out]))
      go_ret
      exact ⟨by rw [hE.out]; rfl, q2.trans (q3.trans q4)⟩
    · have hE := hid (show fun1 F v = v.bad F 0 by unfold fun1; rw [if_neg h1, if_neg h2])
      have hm := hid (show decide (120 < v.size) = false by simpa using h2)
      clear h1 h2
      go_enter Tryz.func98, Tryz.ntmps98
      go_wp2_with (first
        | (go_at_call 120; refine (searchP_any v ao cap w4.heap.size F 0 w (w4.alloc (.cells #[.int .i64 0] 3)) ⟨(q24.trans (Kp.alloc _ _)).low, q24.size, (by simp)⟩ HI.out hS (heap_alloc_new w4 _)).mono ?_; rintro e w5 ⟨⟨r, rfl⟩, hb5, q5⟩; have c5 := cell_of_one hb5)
        | (go_at_call 119; refine (HM.out w3 q3).mono ?_; rintro e w4 ⟨rfl, q4⟩; rw [hm.out]; have q24 := q2.trans (q3.trans q4); obtain ⟨y0, y1, y2, y3⟩ := HBX.out w4 (q3.trans q4); have z4 : w.heap.size < w4.heap.size := (by have := (q3.trans q4).size; simp at this; omega))
        | (go_at_call 117; refine HD.out.mono ?_; rintro e w3 ⟨rfl, q3⟩; rw [hd.out]))
      go_ret
      refine ⟨by rw [hE.out]; rfl, ?_⟩
      exact q24.fresh (((Kp.alloc _ _).trans q5).mono fun k _ e => by have := q24.size; omega)
theorem funs_next (F : Int) (l : List V) (j : Nat) (h : j < l.length) (h0 : fun1 F l[j] = 0) : funs F (l.drop j) j = funs F (l.drop (j + 1)) (j + 1) := by
  rw [List.drop_eq_getElem_cons h, funs, if_pos h0]
theorem funs_stop (F : Int) (l : List V) (j : Nat) (h : j < l.length) (h0 : fun1 F l[j] ≠ 0) : funs F (l.drop j) j = (fun1 F l[j], (j : Int)) := by
  rw [List.drop_eq_getElem_cons h, funs, if_neg h0]
theorem funs_end (F : Int) (l : List V) : funs F (l.drop l.length) l.length = (0, 0) := by rw [List.drop_length, funs]
theorem fault_cells {w : World} {x : Nat} {a b : Value} {t : TypeId} (h : w.heap[x]? = some (.cells #[a, b] t (0, 0))) : w.cell? ⟨x, 0, none⟩ = some a ∧ w.cell? ⟨x, 1, none⟩ = some b ∧ w.frozen? ⟨x, 0, none⟩ = false ∧ w.frozen? ⟨x, 1, none⟩ = false :=
  ⟨by simp [World.cell?, h], by simp [World.cell?, h], frozen_of_row w x 0 _ t h, frozen_of_row w x 1 _ t h⟩
theorem mod_cell {w : World} {x : Nat} {a : Value} {t : TypeId} (h : w.heap[x]? = some (.cells #[a] t (0, 0))) : w.cell? ⟨x, 0, none⟩ = some a := by simp [World.cell?, h]
set_option maxRecDepth 8000 in
set_option maxHeartbeats 2000000 in
theorem check_any (l : List V) (ao : Option Addr) (cap : Nat) (w : World) (hF : Fo (cln w) l ao) (hS : sizes l ≤ 20000) :
    Calls Tryz.prog 87 #[.agg #[.slice ao l.length cap]] w fun e w' => e = .returned (.agg #[.int .i64 (modFault l).1, .int .i64 (modFault l).2]) ∧ Quiet w w' := by
  have q2 : Quiet w ((w.alloc (.cells #[.slice ao l.length cap] 45)).alloc (.cells #[.int .i64 0, .int .i64 0] 27)) := (Kp.alloc _ _).trans (Kp.alloc _ _)
  have hb0 : ((w.alloc (.cells #[.slice ao l.length cap] 45)).alloc (.cells #[.int .i64 0, .int .i64 0] 27)).heap[w.heap.size]? = some (.cells #[.slice ao l.length cap] 45 (0, 0)) := by
    rw [Below.heap_alloc _ _ _ (by simp)]; exact heap_alloc_new w _
  have hb1 := heap_two w (.cells #[.slice ao l.length cap] 45) (.cells #[.int .i64 0, .int .i64 0] 27)
  have hll := sizes_len l
  have hl5 : l.length ≤ 20000 := by omega
  by_cases h1 : l.length < 1
  · have hE := hid (show modFault l = (3, -1) by unfold modFault; rw [if_pos (.inl h1)])
    have hl0 : l.length = 0 := by omega
    have h1' : (l.length : Int) < 1 := by omega
    clear h1 hl0
    go_enter Tryz.func87, Tryz.ntmps87
    go_wp2
    refine bodyPost_ret (v := .agg #[.int .i64 3, .int .i64 (-1)]) (by simp [results, Tryz.results87, go_sem]) rfl ?_
    exact ⟨by rw [hE.out], (Kp.alloc _ _).trans (Kp.alloc _ _)⟩
  have h1' : ¬ (l.length : Int) < 1 := by omega
  by_cases h2 : 6 < l.length
  · have hE := hid (show modFault l = (3, -1) by unfold modFault; rw [if_pos (.inr h2)])
    have h2' : (6 : Int) < (l.length : Int) := by omega
    clear h1 h2
    go_enter Tryz.func87, Tryz.ntmps87
    go_wp2
    refine bodyPost_ret (v := .agg #[.int .i64 3, .int .i64 (-1)]) (by simp [results, Tryz.results87, go_sem]) rfl ?_
    exact ⟨by rw [hE.out], (Kp.alloc _ _).trans (Kp.alloc _ _)⟩
  have h2' : ¬ (6 : Int) < (l.length : Int) := by omega
  have HE := hid (show modFault l = funs (l.length : Int) l 0 by unfold modFault; rw [if_neg (by omega)])
  have HF := hid hF
  have HB := hid (And.intro hb0 (And.intro hb1 q2))
  clear hF hb0 hb1 q2 h1 h2
  go_enter Tryz.func87, Tryz.ntmps87
  go_wp2
  go_loopw [20] (fun i wr => ∃ j : Nat, j ≤ l.length ∧ i = .int .i64 j ∧ funs (l.length : Int) l 0 = funs (l.length : Int) (l.drop j) j ∧ Quiet ((w.alloc (.cells #[.slice ao l.length cap] 45)).alloc (.cells #[.int .i64 0, .int .i64 0] 27)) wr) (fun i _ => l.length - (intOf i).toNat)
  case atStart => exact ⟨0, Nat.zero_le _, rfl, rfl, Kp.refl _ _⟩
  case round =>
    rename World => wq
    obtain ⟨j, hj, rfl, hf, q⟩ := hrel
    have x0 := mod_cell ((q.block _ (lt_of_block HB.out.1) fun e => e).trans HB.out.1)
    have hbf := (q.block _ (lt_of_block HB.out.2.1) fun e => e).trans HB.out.2.1
    have hsz := q.size
    have z1 : w.heap.size < wq.heap.size := by simp at hsz; omega
    have z2 : w.heap.size + 1 < wq.heap.size := by simp at hsz; omega
    have HQ := hid (And.intro q hf)
    clear q hf hsz
    by_cases hlt : j < l.length
    · have hFq := HF.out.cleanQ (HB.out.2.2.trans HQ.out.1)
      obtain ⟨b, off, rfl, dh, ai, ci, ds, hci⟩ := hFq.get j hlt
      obtain ⟨d0, d9, d1⟩ := head_kept (fun a x hc => (cln_cell hc).1) dh
      have dsk := (cln_cell ds).1
      have HN := hid (And.intro (funs_next (l.length : Int) l j hlt) (funs_stop (l.length : Int) l j hlt))
      have hsz := size_get l j hlt
      generalize hcu : l[j] = c at *
      have HC := hid (faultOf_any c ai ci (l.length : Int) (wq.alloc (.cells #[.int .i64 c.kind, .int .i64 c.k, .int .i64 c.n, .slice ai c.l.length ci] 105)) (hci.cleanQ (Kp.alloc _ _)) (by omega))
      have hbf2 := (Below.heap_alloc wq (.cells #[.int .i64 c.kind, .int .i64 c.k, .int .i64 c.n, .slice ai c.l.length ci] 105) _ z2).trans hbf
      clear hcu dh ds hci hFq
      by_cases hz : fun1 (l.length : Int) c = 0
      · have HZ := hid hz
        clear hz
        go_wp2_with (go_at_call 98; refine HC.out.mono ?_; rintro e w3 ⟨rfl, q3⟩; rw [HZ.out])
        exact ⟨⟨j + 1, by omega, by go_num, by rw [HQ.out.2]; exact HN.out.1 HZ.out, HQ.out.1.trans ((Kp.alloc _ _).trans q3)⟩, by simp [intOf]; omega⟩
      · have HZ := hid hz
        have hz1 : (fun1 (l.length : Int) c != 0) = true := by simpa using hz
        go_wp2_with (go_at_call 98; refine HC.out.mono ?_; rintro e w3 ⟨rfl, q3⟩; obtain ⟨k0, k1, k2, k3⟩ := fault_cells ((q3.block _ (lt_of_block hbf2) (fun e => e)).trans hbf2))
        refine bodyPost_ret (v := .agg #[.int .i64 (fun1 (l.length : Int) c), .int .i64 j]) (by simp [results, Tryz.results87, go_sem, k0, k1]) rfl ?_
        refine ⟨?_, ?_⟩
        · rw [HE.out, HQ.out.2, HN.out.2 HZ.out]
        · exact (HB.out.2.2.trans (HQ.out.1.trans ((Kp.alloc _ _).trans q3))).fresh ((kp_set _ _ _ _).trans (kp_set _ _ _ _) |>.mono fun k _ e => by omega)
    · have hjl : j = l.length := by omega
      subst hjl
      obtain ⟨k0, k1, k2, k3⟩ := fault_cells hbf
      clear hbf
      go_wp2
      refine bodyPost_ret (v := .agg #[.int .i64 0, .int .i64 0]) (by simp [results, Tryz.results87, go_sem, k0, k1]) rfl ?_
      refine ⟨?_, ?_⟩
      · rw [HE.out, HQ.out.2, funs_end]
      · exact (HB.out.2.2.trans HQ.out.1).fresh ((kp_set _ _ _ _).trans (kp_set _ _ _ _) |>.mono fun k _ e => by omega)
end Go.Proofs.YtkpckmcaeljocaaGreat.Ex
