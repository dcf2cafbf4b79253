/- The contract of Search with the question of faultOf. -/
import Derived.Test.YtjcniiojcigefadPIn
namespace Go.Proofs.Ytjcniiojcigefad
open Go.ChangeShapes Go.WideShapes Go.ChangeAt Go.RowKit
theorem Kp.fresh2 {F : Nat → Prop} {a b c : World} (h : Kp F a b) (k : Kp (fun i => F i ∨ a.heap.size ≤ i) b c) : Kp F a c :=
  ⟨k.os.trans h.os, k.tape.trans h.tape, k.output.trans h.output, Nat.le_trans h.size k.size, fun i hi hF => (k.block i (Nat.lt_of_lt_of_le hi h.size) (fun e => e.elim hF (by omega))).trans (h.block i hi hF)⟩
/-- The state of the search: those that are still to be looked at; the fault that was told last. -/
structure PS (W E : World) (bc : Nat) (F : Int) (sv : Value) (ts : List Pc) (c : Int) (w : World) : Prop where
  row : w.ownsRow E.heap.size 61 6 sv ts.length (sixs F ts)
  lie : ∀ p ∈ ts, Is W p.1 p.2.2.1
  opn : ∀ p ∈ ts, 0 ≤ p.2.1 ∧ p.2.1 ≤ 12
  kp : Kp (fun k => k = bc) E w
  code : w.heap[bc]? = some (.cells #[.int .i64 c] 3 (0, 0))
/-- What stands from the beginning on. -/
structure PB (W E : World) (bc : Nat) : Prop where
  low : Below W.heap.size W E
  wb : W.heap.size ≤ bc
  lt : bc < E.heap.size
theorem PS.step {W E w w' : World} {bc : Nat} {F : Int} {sv : Value} {ts : List Pc} {c c' : Int} (B : PB W E bc) (H : PS W E bc F sv ts c w) (q : Kp (fun k => k = bc) w w') (hc : w'.heap[bc]? = some (.cells #[.int .i64 c'] 3 (0, 0))) : PS W E bc F sv ts c' w' :=
  ⟨q.row H.row fun k e hk => by have := (H.row.lt k e).1; have := B.lt; omega, H.lie, H.opn, H.kp.trans q, hc⟩
theorem PS.quiet {W E w w' : World} {bc : Nat} {F : Int} {sv : Value} {ts : List Pc} {c : Int} (B : PB W E bc) (H : PS W E bc F sv ts c w) (q : Quiet w w') : PS W E bc F sv ts c w' :=
  H.step B (q.mono fun _ _ e => e.elim) ((q.block bc (lt_of_block H.code) fun e => e).trans H.code)
theorem PS.is {W E w : World} {bc : Nat} {F : Int} {sv : Value} {ts : List Pc} {c : Int} (B : PB W E bc) (H : PS W E bc F sv ts c w) {v : V} {ao : Option Addr} (h : Is W v ao) : Is w v ao :=
  h.low (B.low.trans (H.kp.below B.low.size fun k hk => by have := B.wb; omega))
/-- One more. -/
theorem PS.push {W E w w1 : World} {bc : Nat} {F : Int} {sv : Value} {ts : List Pc} {c : Int} {x : Pc} {n g cap : Nat} {o : Obj} (B : PB W E bc) (H : PS W E bc F sv ts c w) (hx : Is W x.1 x.2.2.1) (ho : 0 ≤ x.2.1 ∧ x.2.1 ≤ 12) (hn : n = ts.length)
    (hr1 : w1.ownsRow E.heap.size 61 6 (.slice (some ⟨g, 0, none⟩) (n + 1) cap) (n + 1) (sixs F ts ++ six F x)) (hg : (w.alloc o).grownBy w1 sv.ownBlock) : PS W E bc F (.slice (some ⟨g, 0, none⟩) (n + 1) cap) (ts ++ [x]) c w1 := by
  subst hn
  have hlt := lt_of_block H.code
  refine ⟨by rw [sixs_app, sixs_one]; simpa using hr1, fun p hp => ?_, fun p hp => ?_, ?_, ?_⟩
  · rcases List.mem_append.1 hp with hp | hp
    · exact H.lie p hp
    · simp at hp; subst hp; exact hx
  · rcases List.mem_append.1 hp with hp | hp
    · exact H.opn p hp
    · simp at hp; subst hp; exact ho
  · refine H.kp.fresh2 ((Kp.alloc _ o).trans (Kp.grown hg fun k _ e => .inr (H.row.lt k e.symm).1))
  · rw [hg.block bc (by simp; omega) (fun e => by have := (H.row.lt _ e.symm).1; have := B.lt; omega), Below.heap_alloc _ _ _ hlt]
    exact H.code
theorem six_cells {w : World} {g m : Nat} {F : Int} {v : V} {o : Int} {ao : Option Addr} {cap : Nat} (h : ∀ j, j < 6 → w.cell? ⟨g, m + j, none⟩ = (six F (v, o, ao, cap))[j]?) :
    w.cell? ⟨g, m, none⟩ = some (.int .i64 v.kind) ∧ w.cell? ⟨g, m + 1, none⟩ = some (.int .i64 v.k) ∧ w.cell? ⟨g, m + 2, none⟩ = some (.int .i64 v.n) ∧ w.cell? ⟨g, m + 3, none⟩ = some (.slice ao v.l.length cap) ∧ w.cell? ⟨g, m + 4, none⟩ = some (.int .i64 o) ∧ w.cell? ⟨g, m + 5, none⟩ = some (.int .i64 F) :=
  ⟨h 0 (by decide), h 1 (by decide), h 2 (by decide), h 3 (by decide), h 4 (by decide), h 5 (by decide)⟩
theorem box6 {w : World} {x : Nat} {a b c d e f : Value} {t : TypeId} (h : w.heap[x]? = some (.cells #[a, b, c, d, e, f] t (0, 0))) : w.cell? ⟨x, 0, none⟩ = some a ∧ w.cell? ⟨x, 1, none⟩ = some b ∧ w.cell? ⟨x, 2, none⟩ = some c ∧ w.cell? ⟨x, 3, none⟩ = some d ∧ w.cell? ⟨x, 4, none⟩ = some e ∧ w.cell? ⟨x, 5, none⟩ = some f := by
  refine ⟨?_, ?_, ?_, ?_, ?_, ?_⟩ <;> simp [World.cell?, h]
theorem firsts_one (F : Int) (v : V) (o : Int) : firsts F [(v, o)] = v.bad F o := by
  simp only [firsts]
  by_cases h : v.bad F o = 0
  · rw [if_pos h, h]
  · rw [if_neg h]
theorem rev_take {α : Type} (l : List α) (j : Nat) (h : j < l.length) : l.reverse.take (j + 1) = l.reverse.take j ++ [l[l.length - 1 - j]] := by
  rw [take_snoc l.reverse j (by simpa using h)]; simp
theorem search_mid {W E w w2 : World} {bc : Nat} {F : Int} {sv : Value} {ts : List Pc} {c c' : Int} {o : Obj} (B : PB W E bc) (H : PS W E bc F sv ts c w) (q : Kp (fun k => k = bc) (w.alloc o) w2) (hc : w2.heap[bc]? = some (.cells #[.int .i64 c'] 3 (0, 0))) : PS W E bc F sv ts c' w2 ∧ Below W.heap.size W w2 := by
  have h := (H.quiet B (Kp.alloc w o)).step B q hc
  exact ⟨h, B.low.trans (h.kp.below B.low.size fun k hk => by have := B.wb; omega)⟩
theorem inner_kept {w w1 : World} {B n m cap cap2 k2 g2 : Nat} {a3 av : Option Addr} {cv : Nat} {xs : List Value} {o : Obj} (hr : w.ownsRow B 61 6 (.slice a3 n cap) n xs) (hn : ∀ k, (Value.slice a3 n cap).ownBlock = some k → (Value.slice av m cv).ownBlock ≠ some k)
    (hg : (w.alloc o).grownBy w1 (Value.slice av m cv).ownBlock) (hat : (Value.slice av m cv).ownBlock = some g2 ∨ g2 = (w.alloc o).heap.size) :
    w1.ownsRow B 61 6 (.slice a3 n cap) n xs ∧ ∀ k, (Value.slice a3 n cap).ownBlock = some k → (Value.slice (some ⟨g2, 0, none⟩) k2 cap2).ownBlock ≠ some k := by
  refine ⟨?_, fun k e e2 => ?_⟩
  · refine Kp.row (F := fun k => (Value.slice av m cv).ownBlock = some k) (Kp.grown hg fun k _ e => e.symm) (hr.alloc o) fun k e e2 => hn k e e2
  · simp only [Value.ownBlock, Option.some.injEq] at e2
    subst e2
    rcases hat with h | h
    · exact hn _ e h
    · have := (hr.lt _ e).2; rw [World.size_alloc] at h; omega
set_option maxRecDepth 8000 in
set_option maxHeartbeats 4000000 in
theorem searchP_any (v : V) (ao : Option Addr) (cap bc : Nat) (F c : Int) (W w : World) (B : PB W w bc) (hI : Is W v ao) (hS : v.size ≤ 20000) (hc : w.heap[bc]? = some (.cells #[.int .i64 c] 3 (0, 0))) :
    Calls Try.prog 30 #[.agg #[.int .i64 v.kind, .int .i64 v.k, .int .i64 v.n, .slice ao v.l.length cap, .int .i64 0, .int .i64 F], .func (.func 31) #[] #[], .func (.func 32) #[] #[.pointer (some ⟨bc, 0, none⟩)]] w fun e w' => (∃ r, e = .returned (.bool r)) ∧ w'.heap[bc]? = some (.cells #[.int .i64 (v.bad F 0)] 3 (0, 0)) ∧ Kp (fun k => k = bc) w w' := by
  obtain ⟨i0, hi, hz0, hz1, hz2⟩ := info_parts Try.infoPl
  have HB := hid B
  have HI := hid hI
  have hst := hid (show PS W w bc F (.slice (some ⟨w.heap.size + 1, 0, none⟩) 1 1) [(v, 0, ao, cap)] c ((w.alloc (.cells #[.int .i64 v.kind, .int .i64 v.k, .int .i64 v.n, .slice ao v.l.length cap, .int .i64 0, .int .i64 F] 61)).alloc (.cells #[.int .i64 v.kind, .int .i64 v.k, .int .i64 v.n, .slice ao v.l.length cap, .int .i64 0, .int .i64 F] 61)) by
    have q : Quiet w ((w.alloc (.cells #[.int .i64 v.kind, .int .i64 v.k, .int .i64 v.n, .slice ao v.l.length cap, .int .i64 0, .int .i64 F] 61)).alloc (.cells #[.int .i64 v.kind, .int .i64 v.k, .int .i64 v.n, .slice ao v.l.length cap, .int .i64 0, .int .i64 F] 61)) := (Kp.alloc _ _).trans (Kp.alloc _ _)
    refine ⟨⟨by simp [sixs_len], .inr ⟨w.heap.size + 1, 1, _, rfl, by omega, heap_two w _ _, Nat.le_refl _, by decide, by simp, by simp [sixs_one, six]⟩⟩, fun p hp => ?_, fun p hp => ?_, q.mono fun _ _ e => e.elim, (q.block bc B.lt fun e => e).trans hc⟩
    · simp at hp; subst hp; exact hI
    · simp at hp; subst hp; exact ⟨Int.le_refl 0, show (0 : Int) ≤ 12 by decide⟩)
  clear hI B hc
  go_enter Try.func30, Try.ntmps30
  go_wp2
  go_loopg [7] v.size (fun gk sv wr => ∃ (ts : List Pc) (c : Int), psz ts = gk ∧ gk ≤ v.size ∧ PS W w bc F sv ts c wr ∧ firsts F (ts.map vo).reverse = v.bad F 0 ∧ (ts = [] → c = 0))
  case atStart => exact ⟨[(v, 0, ao, cap)], c, psz_one _, Nat.le_refl _, hst.out, firsts_one F v 0, fun e => by simp at e⟩
  case round =>
    rename World => wr
    clear hst
    obtain ⟨ts, c, hsz, hle, H, hf, hcz⟩ := hrel
    rcases List.eq_nil_or_concat ts with rfl | ⟨ts, ⟨u, o, ua, uc⟩, rfl⟩
    · obtain ⟨av, cv, hsv⟩ := owns_shape H.row
      have HH := hid (And.intro H (And.intro hf (hcz rfl)))
      subst hsv
      clear hsz hle H hf hcz
      go_wp2
      go_ret
      refine ⟨⟨_, rfl⟩, ?_, HH.out.1.kp⟩
      have h1 := HH.out.2.1; have h2 := HH.out.1.code; have h3 := HH.out.2.2
      rw [← h1, h2, h3]; rfl
    · rw [List.concat_eq_append] at hsz H hf
      have hr := H.row
      rw [sixs_app, sixs_one, List.length_append, List.length_cons, List.length_nil, Nat.zero_add] at hr
      obtain ⟨g, cp, hv⟩ := lies_shape hr (by omega)
      subst hv
      obtain ⟨hr', hc'⟩ := owns_pop hr rfl
      obtain ⟨t0, t1, t2, t3, t4, t5⟩ := six_cells hc'
      have hui := H.is HB.out (H.lie (u, o, ua, uc) (by simp))
      have huW := H.lie (u, o, ua, uc) (by simp)
      have huo := H.opn (u, o, ua, uc) (by simp)
      simp only at hui huo huW
      rw [psz_app, psz_one] at hsz
      simp only at hsz
      have htl := psz_len ts
      have hus := size_eq u
      have hul := sizes_len u.l
      have hcp := owns_cap hr
      have hul5 : u.l.length ≤ 20000 := by omega
      have htl5 : ts.length ≤ 20000 := by omega
      rw [List.map_append, List.map_cons, List.map_nil, List.reverse_append, List.reverse_cons, List.reverse_nil, List.nil_append, List.singleton_append] at hf
      have HX := hid (And.intro hsz (And.intro hus (And.intro hle hf)))
      have HH := hid (show PS W w bc F (.slice (some ⟨g, 0, none⟩) ts.length cp) ts c wr from ⟨hr', fun p hp => H.lie p (by simp [hp]), fun p hp => H.opn p (by simp [hp]), H.kp, H.code⟩)
      have HU := hid (And.intro huW huo)
      have hcd := H.code
      have hlt := lt_of_block hcd
      have HQ := hid (fun (o' : Obj) => placeQ_any u ua uc bc o F c (wr.alloc o') ((Below.heap_alloc wr o' bc hlt).trans hcd))
      clear hc' hr hsz hle H hr' hui huW huo hcz hf hcd hus
      by_cases hfz : fault1 F u o = 0
      · have hb : (fault1 F u o != 0) = false := by simp [hfz]
        have HFZ := hid hfz
        clear hfz
        go_wp2_with (first
          | (go_at_call 31; refine (pin_any u ua uc o F W w2 H2.out.2 HU.out.1 hul5 HU.out.2).mono ?_; rintro e w3 ⟨sv2, ps, rfl, r3, m3, i3, q3⟩; obtain ⟨a3, c3, hs3⟩ := owns_shape r3; subst hs3)
          | (go_at_call 32; refine (HQ.out _).mono ?_; rintro e w2 ⟨rfl, hb2, q2⟩; rw [hb]; rw [HFZ.out] at hb2; have hbx : w2.heap[wr.heap.size]? = some (.cells #[.int .i64 u.kind, .int .i64 u.k, .int .i64 u.n, .slice ua u.l.length uc, .int .i64 o, .int .i64 F] 61 (0, 0)) := (q2.block _ (by simp) (by show ¬ wr.heap.size = bc; omega)).trans (heap_alloc_new wr _); obtain ⟨y0, y1, y2, y3, y4, y5⟩ := box6 hbx; have H2 := hid (search_mid HB.out HH.out q2 hb2); clear hbx q2 hb2))
        have hpl : ps.length = u.l.length := by have := congrArg List.length m3; rwa [List.length_map, kids_len] at this
        rw [hpl]
        rw [hpl] at r3
        have HP := hid (And.intro m3 (And.intro hpl (And.intro (psz_vo m3) (fault1_open HFZ.out HU.out.2))))
        have H3 := hid (H2.out.1.quiet HB.out q3)
        have HI3 := hid i3
        have hn3 : ∀ k, (Value.slice a3 u.l.length c3).ownBlock = some k → (Value.slice (some ⟨g, 0, none⟩) ts.length cp).ownBlock ≠ some k := by
          intro k e e2
          have h1 := (r3.lt k e).1
          have h2 := (H2.out.1.row.lt k e2).2
          omega
        have HR3 := hid (And.intro r3 hn3)
        clear m3 i3 r3 q3 hpl y0 y1 y2 y3 y4 y5 t0 t1 t2 t3 t4 t5 hn3
        go_loopw [7, 35] (fun sv i w5 => ∃ (j : Nat), j ≤ u.l.length ∧ i = .int .i64 j ∧ PS W w bc F sv (ts ++ ps.reverse.take j) 0 w5 ∧ w5.ownsRow w2.heap.size 61 6 (.slice a3 u.l.length c3) u.l.length (sixs F ps) ∧ ∀ k, (Value.slice a3 u.l.length c3).ownBlock = some k → sv.ownBlock ≠ some k) (fun _ i _ => u.l.length - (intOf i).toNat)
        case atStart => exact ⟨0, Nat.zero_le _, rfl, by simpa using H3.out, HR3.out⟩
        case round =>
          rename World => wq
          clear H3 HR3 HH
          obtain ⟨j, hj, rfl, H, hr3, hn3⟩ := hrel
          have hl3 : (ps.reverse.take j).length = j := by rw [List.length_take, List.length_reverse, HP.out.2.1]; omega
          obtain ⟨nk, hnk⟩ : ∃ nk, nk = (ts ++ ps.reverse.take j).length := ⟨_, rfl⟩
          have hnk5 : nk ≤ 40000 := by rw [hnk, List.length_append, hl3]; omega
          have hrk := H.row
          rw [← hnk] at hrk
          obtain ⟨av, cv, hsv⟩ := owns_shape hrk
          have HNK := hid hnk
          clear hnk hl3
          by_cases hlt : j < u.l.length
          · have hidx : (u.l.length : Int) - 1 - (j : Int) = ((u.l.length - 1 - j : Nat) : Int) := by omega
            have hq : u.l.length - 1 - j < ps.length := by rw [HP.out.2.1]; omega
            obtain ⟨g3, e3, d3⟩ := owns_at hr3 (by omega)
            subst e3
            obtain ⟨x, xo, xa, xc, hx⟩ : ∃ x xo xa xc, ps[u.l.length - 1 - j] = (x, xo, xa, xc) := ⟨_, _, _, _, rfl⟩
            have hcells : ∀ k, k < 6 → wq.cell? ⟨g3, (u.l.length - 1 - j) * 6 + k, none⟩ = (six F (x, xo, xa, xc))[k]? := fun k hk => by
              rw [d3 _ (by omega), sixs_at F ps _ k hq hk, hx]
            obtain ⟨t0, t1, t2, t3, t4, t5⟩ := six_cells hcells
            have hmem : (x, xo, xa, xc) ∈ ps := hx ▸ List.getElem_mem hq
            have hxo : 0 ≤ xo ∧ xo ≤ 12 := by
              have h1 : ps[u.l.length - 1 - j] ∈ ps := List.getElem_mem hq
              have h2 : (ps.map vo)[u.l.length - 1 - j]'(by simpa using hq) = (x, xo) := by rw [List.getElem_map, hx]; rfl
              have h3 := HP.out.1
              simp only [h3] at h2
              have h4 : xo = opens u.kind o (u.l.length - 1 - j) := by
                have := congrArg Prod.snd h2
                simp only [kids, List.getElem_mapIdx] at this
                exact this.symm
              rw [h4]; exact HP.out.2.2.2 _
            have HN := hid (show ps.reverse.take (j + 1) = ps.reverse.take j ++ [(x, xo, xa, xc)] by
              rw [rev_take ps j (by rw [HP.out.2.1]; exact hlt), ← hx]; simp only [HP.out.2.1])
            have HXX := hid (And.intro (HI3.out _ hmem) hxo)
            have HH := hid (And.intro H (And.intro hr3 hn3))
            have HRK := hid hrk
            have hsz := lt_of_block H.code
            have hsE := H.kp.size
            subst hsv
            clear hcells hmem hxo hx hq d3 H hr3 hn3 hrk
            go_wp2_with (at_builtin; refine wpList_append_lies _ rfl (.tmp 38) (.tmp 47) 74 rfl w.heap.size 61 i0 _ 6 64 Try.undPl hi hz0 hz1 hz2 rfl (by decide) _ nk (sixs F (ts ++ ps.reverse.take j)) rfl (HRK.out.alloc _) ⟨wq.heap.size, 0, none⟩ 1 1 (six F (x, xo, xa, xc)) rfl rfl (news_at wq _ 61) (six_one _ _) (by decide) (by unfold maxLen; omega) (by omega) (by simp; omega) _ rfl ?_; intro g2 cap2 w1 hr1 hg1 hat hlt1; have hD := hid (HH.out.1.push HB.out (x := (x, xo, xa, xc)) HXX.out.1 HXX.out.2 HNK.out hr1 hg1); have hI := hid (inner_kept (k2 := nk + 1) (cap2 := cap2) HH.out.2.1 HH.out.2.2 hg1 hat); clear hr1 hg1 hat hlt1)
            exact ⟨⟨j + 1, by omega, by go_num, by rw [HN.out, ← List.append_assoc]; exact hD.out, hI.out.1, hI.out.2⟩, by simp [intOf]; omega⟩
          · have hjl : j = u.l.length := by omega
            subst hjl
            have HH := hid H
            subst hsv
            clear H hr3 hn3 hrk
            have hpr : ps.reverse.take u.l.length = ps.reverse := List.take_of_length_le (by rw [List.length_reverse, HP.out.2.1]; exact Nat.le_refl _)
            rw [hpr] at HH
            go_wp2
            go_roundg (psz (ts ++ ps.reverse))
            case measure =>
              have h2 := HP.out.2.2.1; have h3 := HX.out
              rw [psz_app, psz_rev]; omega
            case rel =>
              refine ⟨ts ++ ps.reverse, 0, rfl, ?_, HH.out, ?_, fun _ => rfl⟩
              · have h2 := HP.out.2.2.1; have h3 := HX.out
                rw [psz_app, psz_rev]; omega
              · have h1 := HX.out.2.2.2
                rw [List.map_append, List.reverse_append, List.map_reverse, List.reverse_reverse, HP.out.1, ← h1]
                exact (firsts_pop F u o _ HFZ.out).symm
      · have hb : (fault1 F u o != 0) = true := by simp [hfz]
        have hE := hid (show v.bad F 0 = fault1 F u o by have h := HX.out.2.2.2; rw [← h]; exact firsts_stop F u o _ hfz)
        go_wp2_with (go_at_call 32; refine (HQ.out _).mono ?_; rintro e w2 ⟨rfl, hb2, q2⟩; rw [hb])
        go_ret
        refine ⟨⟨_, rfl⟩, by rw [hE.out]; exact hb2, HH.out.kp.fresh2 ?_⟩
        exact (Kp.alloc _ _).trans (q2.mono fun _ _ e => .inl e)
end Go.Proofs.Ytjcniiojcigefad
