/- The law HouseRefuses, whatever way a house goes. -/
import Derived.Test.YtgojcohcimmfjaaGreatUFreshWalk
import Derived.Test.YtgojcohcimmfjaaGreatUG2
import Derived.Test.YtgojcohcimmfjaaGreatUW0
import Derived.Deep.RegionHeld3
namespace Go.Proofs.YtgojcohcimmfjaaGreat
open Go.ChangeShapes Go.WideShapes Go.ChangeAt Go.RowKit
/-- A house beside a law's own memory. -/
structure RefS (X : Nat → Prop) (W : World) (M : Hx) (q : Hq) (h : Hs) (w : World) : Prop where
  s : HouseS X M q h w
  low : Below W.heap.size W w
  mb : W.heap.size ≤ M.B
section
variable {X X' : Nat → Prop} {W : World} {M : Hx} {q q' : Hq} {h h' : Hs} {w w' : World}
theorem RefS.step (H : RefS X W M q h w) (k : Quiet w w') (hX : ∀ i, i < w.heap.size → X' i → X i) (xo : ∀ i, X' i → i < w'.heap.size) : RefS X' W M q h w' := ⟨H.s.step k hX xo, low_of H.low k H.low.size, H.mb⟩
theorem RefS.quiet (H : RefS X W M q h w) (k : Quiet w w') : RefS X W M q h w' := ⟨H.s.quiet k, low_of H.low k H.low.size, H.mb⟩
theorem RefS.none (H : RefS X W M q h w) : RefS (fun _ => False) W M q h w := H.step (Kp.refl _ _) (fun _ _ e => e.elim) (fun _ e => e.elim)
theorem RefS.goes (H : RefS X W M q h w) (g : GoesH M q w q' w') (s' : HouseS X M q' h' w') : RefS X W M q' h' w' := ⟨s', H.s.below H.mb H.low g, H.mb⟩
theorem RefS.turn {F : Nat → Prop} (H : RefS X W M q h w) (k : Kp F w w') (hX : ∀ i, F i → X i) (hI : ∀ (i : Nat) (cs : Array Value) (t : TypeId), w.heap[i]? = some (.cells cs t (0, 0)) → t = 133 ∨ t = 127 → ¬ F i) (hF : ∀ i, F i → W.heap.size ≤ i) : RefS X W M q h w' :=
  ⟨H.s.turn k hX hI, H.low.trans (k.below H.low.size hF), H.mb⟩
/-- What was told of capabilities and cells. -/
structure Told (M : Hx) (q : Hq) (h : Hs) (na : Option Addr) (nc cb : Nat) (w : World) : Prop where
  nodes : w.ownsRow 0 101 6 (.slice na h.s.ns.length nc) h.s.ns.length (Gr.ndCells h.s.ns)
  cells : w.heap[cb]? = some (.cells (Wo.longs h.s.cs).toArray 94 (0, 0))
  n1 : ∀ k, (Value.slice na h.s.ns.length nc).ownBlock = some k → ¬ OwnH M q k
  n2 : ¬ OwnH M q cb
theorem Told.quiet {na : Option Addr} {nc cb : Nat} (H : Told M q h na nc cb w) (k : Quiet w w') : Told M q h na nc cb w' :=
  ⟨k.row H.nodes fun _ _ e => e, (k.block _ (lt_of_block H.cells) fun e => e).trans H.cells, H.n1, H.n2⟩
theorem Told.goes {na : Option Addr} {nc cb : Nat} (H : Told M q h na nc cb w) (g : GoesH M q w q' w') : Told M q' h na nc cb w' :=
  ⟨g.kp.row H.nodes H.n1, (g.block H.cells H.n2).1, fun k hk e => by
    rcases g.own k e with e | e
    · exact H.n1 k hk e
    · have := (H.nodes.lt k hk).2; omega, (g.block H.cells H.n2).2⟩
end
theorem longs12 {cs : List Int} {w : World} {g1 g2 : Nat} (hl : cs.length = 12) (h1 : w.heap[g1]? = some (.cells (Wo.longs cs).toArray 94 (0, 0))) (h2 : w.heap[g2]? = some (.cells (Wo.longs cs).toArray 94 (0, 0))) :
    Calls Tryz.prog 14 #[.slice (some ⟨g1, 0, none⟩) 12 12, .slice (some ⟨g2, 0, none⟩) 12 12] w fun e w' => e = .returned (.bool true) ∧ Quiet w w' := by
  have key : ∀ g, w.heap[g]? = some (.cells (Wo.longs cs).toArray 94 (0, 0)) → ∀ j, j < cs.length → w.cell? ⟨g, j, none⟩ = some (.int .i64 (cs.getD j 0)) := fun g h j hj => by
    rw [list_cell h, Wo.longs, List.getElem?_map, List.getElem?_eq_getElem hj, List.getD_eq_getElem?_getD, List.getElem?_eq_getElem hj]; rfl
  have h := Wo.longs_any w cs g1 g2 12 12 (by omega) (key g1 h1) (key g2 h2)
  rw [hl] at h
  exact h
set_option maxRecDepth 8000 in
set_option maxHeartbeats 4000000 in
theorem refusesLaw (hN : HNewC) (hD : HDoC) (hH : HHandC) (hK : HKeptC) (W : World) (xs : List Sx) (sa : Option Addr) (sc : Nat) (hxs : StepsAt W xs sa) :
    Calls Tryz.prog 6 #[.slice sa xs.length sc] W fun e w' => e = .returned (.bool true) ∧ Below W.heap.size W w' := by
  have HB := hid (hbegun_of hN hD hH W)
  have HX := hid hxs
  clear hxs
  have HG := hid (fun (w2 : World) (k : Below W.heap.size W w2) => greatHouse_any xs sa sc 100 w2 (HX.out.low k) (by decide))
  cases hg1 : greatH xs 100 with
  | true =>
    rw [hg1] at HG
    go_enter Tryz.func6, Tryz.ntmps6
    go_wp2_with (first
      | (go_at_call 8; refine (HG.out _ hl2).mono ?_; rintro e w3 ⟨rfl, q3⟩)
      | (go_at_call 7; refine HB.out.mono ?_; rintro e w2 ⟨rfl, hl2⟩))
    go_ret
    exact ⟨rfl, low_of hl2 q3 hl2.size⟩
  | false =>
    rw [hg1] at HG
    obtain ⟨hlen, hng⟩ := greatH_no hg1
    have HNG := hid hng
    clear hg1 hng
    go_enter Tryz.func6, Tryz.ntmps6
    go_wp2_with (first
      | (go_at_call 9; refine (hN (fun _ => False) W.heap.size w3 (fun k e => e.elim) (Nat.le_trans hl2.size q3.size)).mono ?_; rintro e w5 ⟨M, q0, hMB, rfl, h5, _, q5⟩)
      | (go_at_call 8; refine (HG.out _ hl2).mono ?_; rintro e w3 ⟨rfl, q3⟩)
      | (go_at_call 7; refine HB.out.mono ?_; rintro e w2 ⟨rfl, hl2⟩))
    have F5 := hid (show RefS (fun _ => False) W M q0 h00 w5 from ⟨h5, low_of (low_of hl2 q3 hl2.size) q5 (Nat.le_trans hl2.size q3.size), by omega⟩)
    clear h5 hMB q5 q3 hl2 HB HG
    go_loopw [4] (fun i wr => ∃ (j : Nat) (q : Hq) (h : Hs), i = .int .i64 j ∧ j ≤ xs.length ∧ Hid (RefS (fun _ => False) W M q h wr ∧ h.s.es.length ≤ 2000 * j ∧ ∀ p, (h.hs.getD p []).length ≤ j)) (fun i _ => xs.length - (intOf i).toNat)
    case atStart => exact ⟨0, q0, h00, rfl, Nat.zero_le _, ⟨F5.out, by decide, fun p => by show ((List.replicate 4 ([] : List V)).getD p []).length ≤ 0; rw [List.getD_eq_getElem?_getD, List.getElem?_replicate]; split <;> simp⟩⟩
    case round =>
      clear F5
      rename World => wq
      obtain ⟨j, q, h, rfl, hj, D⟩ := hrel
      by_cases hlt : j < xs.length
      · have hlt' : (j : Int) < (xs.length : Int) := by omega
        have qh : Quiet wq ((wq.alloc (.cells #[.slice none 0 0, .slice none 0 0, .slice none 0 0, .slice none 0 0] 44)).alloc (.cells #[.int .i64 0, .int .i64 0, .slice none 0 0, .int .i64 0, .int .i64 0, .slice none 0 0, .int .i64 0, .int .i64 0, .slice none 0 0, .int .i64 0, .int .i64 0, .slice none 0 0] 60)) := (Kp.alloc _ _).trans (Kp.alloc _ _)
        have hh1 : ((wq.alloc (.cells #[.slice none 0 0, .slice none 0 0, .slice none 0 0, .slice none 0 0] 44)).alloc (.cells #[.int .i64 0, .int .i64 0, .slice none 0 0, .int .i64 0, .int .i64 0, .slice none 0 0, .int .i64 0, .int .i64 0, .slice none 0 0, .int .i64 0, .int .i64 0, .slice none 0 0] 60)).heap[wq.heap.size]? = some (.cells #[.slice none 0 0, .slice none 0 0, .slice none 0 0, .slice none 0 0] 44 (0, 0)) := by rw [Below.heap_alloc _ _ _ (by simp)]; exact heap_alloc_new wq _
        have hh2 := heap_two wq (.cells #[.slice none 0 0, .slice none 0 0, .slice none 0 0, .slice none 0 0] 44) (.cells #[.int .i64 0, .int .i64 0, .slice none 0 0, .int .i64 0, .int .i64 0, .slice none 0 0, .int .i64 0, .int .i64 0, .slice none 0 0, .int .i64 0, .int .i64 0, .slice none 0 0] 60)
        have HF := hid (And.intro (D.out.1.step (X' := fun k => k = wq.heap.size ∨ k = wq.heap.size + 1) qh (fun i hi e => by
            rcases e with e | e
            · omega
            · omega) (fun i e => by
            rcases e with e | e
            · rw [e]; exact lt_of_block hh1
            · rw [e]; exact lt_of_block hh2)) (Held.start (X := fun k => k = wq.heap.size ∨ k = wq.heap.size + 1) (M := M) (q := q) (h := h) _ wq.heap.size (wq.heap.size + 1) (fun _ => (none, 0)) (fun _ => (none, 0)) hh1 hh2))
        have HD := hid D.out.2
        have HQ := hid (show W.heap.size ≤ wq.heap.size from D.out.1.low.size)
        clear D qh hh1 hh2 hj
        go_wp2_with fail
        go_loopw [7] (fun i wr => ∃ (p : Nat) (ha ka : Nat → Option Addr × Nat), i = .int .i64 p ∧ p ≤ 4 ∧ Hid (RefS (fun k => k = wq.heap.size ∨ k = wq.heap.size + 1) W M q h wr ∧ Held (fun k => k = wq.heap.size ∨ k = wq.heap.size + 1) M q h wq.heap.size (wq.heap.size + 1) p ha ka wr)) (fun i _ => 4 - (intOf i).toNat)
        case atStart => exact ⟨0, _, _, rfl, by decide, HF⟩
        case round =>
          clear HF
          rename World => wp
          obtain ⟨p, ha, ka, rfl, hp, E⟩ := hrel
          by_cases hp4 : p < 4
          · have hp4' : (p : Int) < 4 := by omega
            have HS := hid (fun (w2 : World) (k : Quiet wp w2) => hH _ M q h w2 p (E.out.1.s.quiet k) (fun p => by have := HD.out.2 p; omega) (in_few _ (by omega)))
            have HT := hid (fun (w2 : World) (k : Quiet wp w2) => hK _ M q h w2 p (E.out.1.s.quiet k) (in_few _ (by omega)))
            have HC := hid (fun (w2 : World) (k : Quiet wp w2) => And.intro ((E.out.2.quiet k).hcell p hp4) (And.intro ((E.out.2.quiet k).kcell (p * 3) (by omega)) (And.intro ((E.out.2.quiet k).kcell (p * 3 + 1) (by omega)) ((E.out.2.quiet k).kcell (p * 3 + 2) (by omega)))))
            have HZ := hid (fun (w2 : World) (k : Quiet wp w2) => And.intro (E.out.2.quiet k).hands (E.out.2.quiet k).kepts)
            go_wp2_with fail
            go_region_law ((first
              | (go_simp; go_at_call 22; refine (HT.out w6 ((Kp.drew _).trans q6)).mono ?_; rintro e w7 ⟨b7, d7, rfl, is7, q7⟩; obtain ⟨⟨z0, e0⟩, ⟨z1, e1⟩, ⟨z2, e2⟩, ⟨z3, e3⟩⟩ := HC.out w7 (((Kp.drew _).trans q6).trans q7); have HZ7 := HZ.out w7 (((Kp.drew _).trans q6).trans q7); have f0 := frozen_of_row w7 wq.heap.size p _ _ HZ7.1; have f1 := frozen_of_row w7 (wq.heap.size + 1) (p * 3) _ _ HZ7.2; have f2 := frozen_of_row w7 (wq.heap.size + 1) (p * 3 + 1) _ _ HZ7.2; have f3 := frozen_of_row w7 (wq.heap.size + 1) (p * 3 + 2) _ _ HZ7.2; have l0 := lt_of_block HZ7.1; have l1 := lt_of_block HZ7.2; have H7 := hid (And.intro fo6 (And.intro q6 (And.intro is7 q7))); clear HZ7 is7)
              | (go_simp; go_at_call 20; refine (HS.out wp.drew (Kp.drew _)).mono ?_; rintro e w6 ⟨a6, c6, rfl, fo6, q6⟩)))
            go_wp2_with fail
            have Q7 : Quiet wp w7 := ((Kp.drew _).trans H7.out.2.1).trans H7.out.2.2.2
            have F7 := E.out.1.quiet Q7
            have G7 := E.out.2.quiet Q7
            have k7 := putH_kp w7 wq.heap.size (wq.heap.size + 1) p h a6 b7 c6 d7
            have hsz := HQ.out
            exact ⟨⟨p + 1, upd ha p (a6, c6), upd ka p (b7, d7), by go_num, by omega, ⟨F7.turn k7 (fun i e => e) (put_types G7.hands G7.kepts) (fun i e => by omega), G7.put hp4 (.inl rfl) (.inr rfl) (safe_quiet H7.out.1 H7.out.2.2.2) H7.out.2.2.1⟩⟩, by simp [intOf]; omega⟩
          · obtain rfl : p = 4 := by omega
            have HP := hid (fun (w2 : World) (k : Quiet wp w2) => (E.out.1.s.quiet k))
            have HO := hid (fun k (hk : wp.heap.size ≤ k) => E.out.1.s.new k hk)
            have sAll := hid (fun (w' : World) (k : Quiet wp w') => (E.out.1.s.quiet k).cells)
            go_wp2_with fail
            go_region_held3 (fun w' => w'.cell? ⟨M.hb, 0, none⟩ = some (.pointer (some ⟨M.bb, 0, none⟩)) ∧ w'.cell? ⟨M.bb, 0, none⟩ = some (.pointer (some ⟨M.g, 0, none⟩)) ∧ w'.cell? ⟨M.bb, 1, none⟩ = some (.pointer (some ⟨M.wd, 0, none⟩))) ((refine sAll.out _ ?_; first | assumption | exact Kp.drew _))
              (first
                | (go_at_call 19; refine (Gr.nodes_any (HP.out wp.drew (Kp.drew _)).gs).mono ?_; rintro e w6 ⟨v6, rfl, r6, q6⟩; obtain ⟨na, nc, rfl⟩ := owns_shape r6; replace q6 : Quiet wp w6 := (Kp.drew wp).trans q6; have R6 := hid r6; clear r6)
                | (go_at_call 15; refine (Wo.cells_any M.B w6 M.wd h.s.cs q.l h.s.es (HP.out w6 q6).ws).mono ?_; rintro e w7 ⟨rfl, b7, q7⟩; have R7 := hid (And.intro b7 q7); replace q7 : Quiet wp w7 := q6.trans q7; clear b7)
                | (go_at_call 17; refine (Wo.log_any M.B w7 M.wd h.s.cs q.l h.s.es (HP.out w7 q7).ws (by have := HD.out.1; omega)).mono ?_; rintro e w8 ⟨v8, rfl, r8, q8⟩; obtain ⟨la, lc, rfl⟩ := owns_shape r8; have R8 := hid q8; replace q8 : Quiet wp w8 := q7.trans q8; clear r8))
            have Q68 : Quiet w6 w8 := R7.out.2.trans R8.out
            have T8 : Told M q h na nc w6.heap.size w8 := ⟨owns_mono (Q68.row R6.out fun _ _ e => e) (Nat.zero_le _), (R8.out.block _ (lt_of_block R7.out.1) fun e => e).trans R7.out.1, fun k hk => HO.out k (R6.out.lt k hk).1, HO.out _ q6.size⟩
            have E8 := hid (And.intro (E.out.1.quiet q8) (And.intro (E.out.2.quiet q8) T8))
            clear E sAll HP HO R6 R7 R8 Q68 T8 q6 q7 q8
            obtain ⟨b, off, rfl, c0, c1, c2, c3, c4, c5, c6, c7, c8, hs⟩ := (HX.out.low E8.out.1.low).get j hlt
            have HC := hid (hD _ M q h w8 xs[j] (toldZ xs[j]) E8.out.1.s hs.fit (by have := HD.out.1; omega) (fun p => by have := HD.out.2 p; omega) (make_at hs (HNG.out _ (List.getElem_mem hlt))))
            have HK0 := hid (fun (w2 : World) (k : Below W.heap.size W w2) => show w2.cell? ⟨b, off + j * 9, none⟩ = some (.int .i64 xs[j].kind) from by
              obtain ⟨b', off', e, d0, _⟩ := (HX.out.low k).get j hlt
              simp only [Option.some.injEq, Addr.mk.injEq, and_true] at e
              obtain ⟨rfl, rfl⟩ := e
              exact d0)
            generalize xs[j] = y at *
            simp only [Sx.vals] at HC
            clear hs
            go_wp2_with (go_at_call 11; refine HC.out.mono ?_)
            rintro e w9 ⟨c, _, q9, ao9, cap9, he, s9, g9, i9⟩
            subst he
            have HM := hid (step_refused E8.out.1.s.ok (y.sp c))
            have HA := hid (step_adds E8.out.1.s.ok (y.sp c))
            have F9 := E8.out.1.goes g9 s9
            have G9 := E8.out.2.1.goes E8.out.1.s g9
            have T9 := E8.out.2.2.goes g9
            clear s9 g9 HC E8 c0 c1 c2 c3 c4 c5 c6 c7 c8
            have hsp : (y.sp c).kind = y.kind := rfl
            rw [hsp] at HM
            clear hsp
            generalize stepH h (y.sp c) = R at *
            obtain ⟨⟨cd, fu, ev⟩, h2⟩ := R
            simp only at HM HA F9 G9 T9 i9 ⊢
            have qe : Quiet w9 (w9.alloc (.cells #[.int .i64 cd, .int .i64 fu, .int .i64 ev.kind, .int .i64 ev.n, .slice ao9 ev.l.length cap9] 33)) := Kp.alloc _ _
            have ek := HK0.out _ (F9.quiet qe).low
            have eb := heap_alloc_new w9 (.cells #[.int .i64 cd, .int .i64 fu, .int .i64 ev.kind, .int .i64 ev.n, .slice ao9 ev.l.length cap9] 33)
            have HE := hid (And.intro (F9.quiet qe) (And.intro (G9.quiet qe) (And.intro (T9.quiet qe) (And.intro eb (safe_quiet i9 qe)))))
            clear F9 G9 T9 i9 qe eb HK0
            have HN1 := hid (show Adds h h2 from HA.out)
            by_cases hcd : cd = 0
            · have b1 : (cd == 0) = true := by simpa using hcd
              clear hcd
              go_wp2_with fail
              refine ⟨⟨j + 1, q9, h2, by go_num, by omega, ⟨HE.out.1.none, ?_, fun p => ?_⟩⟩, by simp [intOf]; omega⟩
              · have := HN1.out.1; have := HD.out.1; omega
              · have := HN1.out.2 p; have := HD.out.2 p; omega
            · have b1 : (cd == 0) = false := by simpa using hcd
              by_cases hgo : y.kind = 4 ∧ 0 < fu
              · have b2 : (y.kind == 4) = true := by simpa using hgo.1
                have b3 : 0 < fu := hgo.2
                clear hcd hgo
                go_wp2_with fail
                refine ⟨⟨j + 1, q9, h2, by go_num, by omega, ⟨HE.out.1.none, ?_, fun p => ?_⟩⟩, by simp [intOf]; omega⟩
                · have := HN1.out.1; have := HD.out.1; omega
                · have := HN1.out.2 p; have := HD.out.2 p; omega
              · obtain ⟨hh2, hev⟩ := HM.out hcd (fun e => by
                  rcases Int.lt_or_le 0 fu with h | h
                  · exact absurd ⟨e, h⟩ hgo
                  · exact h)
                have hh3 := hh2.symm
                subst hh3
                have HEV := hid hev
                clear HM HA hev hh2 hcd HN1
                by_cases hk4 : y.kind = 4
                · have b2 : (y.kind == 4) = true := by simpa using hk4
                  have b3 : ¬ 0 < fu := fun e => hgo ⟨hk4, e⟩
                  clear hgo hk4
                  go_wp2_with fail
                  go_loopw [12] (fun i wr => ∃ p : Nat, i = .int .i64 p ∧ p ≤ 4 ∧ Hid (RefS (fun k => k = wq.heap.size ∨ k = wq.heap.size + 1) W M q9 h wr ∧ Held (fun k => k = wq.heap.size ∨ k = wq.heap.size + 1) M q9 h wq.heap.size (wq.heap.size + 1) 4 ha ka wr ∧ Told M q9 h na nc w6.heap.size wr ∧ wr.heap[w9.heap.size]? = some (.cells #[.int .i64 cd, .int .i64 fu, .int .i64 ev.kind, .int .i64 ev.n, .slice ao9 ev.l.length cap9] 33 (0, 0)))) (fun i _ => 4 - (intOf i).toNat)
                  case atStart => exact ⟨0, rfl, by decide, ⟨HE.out.1, HE.out.2.1, HE.out.2.2.1, HE.out.2.2.2.1⟩⟩
                  case round =>
                    clear HE ek
                    rename World => wz
                    obtain ⟨p, rfl, hp, E⟩ := hrel
                    by_cases hp4 : p < 4
                    · have hp4' : (p : Int) < 4 := by omega
                      have HU := hid (fresh_sizes E.out.1.s HD.out.2 (by omega) p hp4)
                      have HS := hid (fun (w2 : World) (k : Quiet wz w2) => hH _ M q9 h w2 p (E.out.1.s.quiet k) (fun p => by have := HD.out.2 p; omega) (in_few _ (by omega)))
                      have HT := hid (fun (w2 : World) (k : Quiet wz w2) => hK _ M q9 h w2 p (E.out.1.s.quiet k) (in_few _ (by omega)))
                      have HFO := hid (fun (w2 : World) (k : Quiet wz w2) => And.intro (safe_quiet (E.out.2.1.fo p hp4) k).now (safe_quiet (E.out.2.1.is p hp4) k).now)
                      have sAll := hid (fun (w' : World) (k : Quiet wz w') => And.intro ((E.out.2.1.quiet k).hand p hp4 (Nat.le_refl _)) ((E.out.2.1.quiet k).kept p hp4 (Nat.le_refl _)))
                      generalize ha p = hap at *
                      generalize ka p = kap at *
                      generalize handOf h p = hl at *
                      generalize keptOf h p = kv at *
                      go_wp2_with fail
                      go_region_held3 (fun w' => w'.cell? ⟨wq.heap.size, p, none⟩ = some (.slice hap.1 hl.length hap.2) ∧ w'.cell? ⟨wq.heap.size + 1, p * 3, none⟩ = some (.int .i64 kv.kind) ∧ w'.cell? ⟨wq.heap.size + 1, p * 3 + 1, none⟩ = some (.int .i64 kv.n) ∧ w'.cell? ⟨wq.heap.size + 1, p * 3 + 2, none⟩ = some (.slice kap.1 kv.l.length kap.2)) ((refine sAll.out _ ?_; first | assumption | exact Kp.drew _))
                        (first
                          | (go_at_call 20; refine (HS.out wz.drew (Kp.drew _)).mono ?_; rintro e u6 ⟨a6, c6, rfl, fo6, q6⟩; replace q6 : Quiet wz u6 := (Kp.drew wz).trans q6)
                          | (go_at_call 23; refine (sameVals_of hl hl (fun x _ => sameVal_any x) hap.1 a6 hap.2 c6 u6 (HFO.out u6 q6).1 fo6.now HU.out.1).mono ?_; rintro e u7 ⟨rfl, q7⟩; rw [sames_self]; replace q7 : Quiet wz u7 := q6.trans q7)
                          | (go_at_call 22; refine (HT.out u7 q7).mono ?_; rintro e u8 ⟨k8, d8, rfl, is8, q8⟩; replace q8 : Quiet wz u8 := q7.trans q8)
                          | (go_at_call 21; refine (sameVal_any kv kv kap.1 k8 kap.2 d8 u8 (HFO.out u8 q8).2 is8.now HU.out.2).mono ?_; rintro e u9 ⟨rfl, q10⟩; rw [same_refl]; replace q10 : Quiet wz u9 := q8.trans q10))
                      go_wp2_with fail
                      exact ⟨⟨p + 1, by go_num, by omega, ⟨E.out.1.quiet q10, E.out.2.1.quiet q10, E.out.2.2.1.quiet q10, (q10.block _ (lt_of_block E.out.2.2.2) fun e => e).trans E.out.2.2.2⟩⟩, by simp [intOf]; omega⟩
                    · obtain rfl : p = 4 := by omega
                      have hcs := E.out.1.s.ok.inv.cs
                      have hns := E.out.1.s.ok.inv.ln
                      have HLN := hid (fun (v3 : World) (g1 g2 : Nat) (h1 : v3.heap[g1]? = some (.cells (Wo.longs h.s.cs).toArray 94 (0, 0))) (h2 : v3.heap[g2]? = some (.cells (Wo.longs h.s.cs).toArray 94 (0, 0))) => longs12 hcs h1 h2)
                      have HP := hid (fun (w2 : World) (k : Quiet wz w2) => E.out.1.s.quiet k)
                      have HTD := hid (fun (w2 : World) (k : Quiet wz w2) => E.out.2.2.1.quiet k)
                      have HEB := hid (fun (w2 : World) (k : Quiet wz w2) => five_cells ((k.block _ (lt_of_block E.out.2.2.2) fun e => e).trans E.out.2.2.2))
                      have HSV := hid (fun (w2 : World) => show Calls Tryz.prog 21 #[.agg #[.int .i64 ev.kind, .int .i64 ev.n, .slice ao9 ev.l.length cap9], .agg #[.int .i64 0, .int .i64 0, .slice none 0 0]] w2 fun e w' => e = .returned (.bool true) ∧ Quiet w2 w' from by
                        rw [HEV.out]
                        have h1 := sameVal_any v0 v0 ao9 none cap9 0 w2 (safe_leaf (F := fun _ => False) v0 v0_fits rfl ao9).now (safe_leaf (F := fun _ => False) v0 v0_fits rfl none).now (by decide)
                        rw [same_refl] at h1
                        exact h1)
                      have HBD := hid (show h.s.es.length ≤ 1000000 by have := HD.out.1; omega)
                      have HNL := hid (show h.s.ns.length ≤ 100000 by omega)
                      obtain ⟨g0, g1, g2⟩ := E.out.1.s.cells
                      clear hcs hns
                      go_wp2_with (first
                        | (go_at_call 21; refine (HSV.out v5).mono ?_; rintro e v6 ⟨rfl, q6⟩; replace q6 : Quiet wz v6 := q5.trans q6)
                        | (go_at_call 17; refine (Wo.log_any M.B v4 M.wd h.s.cs q9.l h.s.es (HP.out v4 q4).ws HBD.out).mono ?_; rintro e v5 ⟨x8, rfl, r8, q5⟩; obtain ⟨la, lc, rfl⟩ := owns_shape r8; replace q5 : Quiet wz v5 := q4.trans q5; obtain ⟨_, _, e2, e3, e4⟩ := HEB.out v5 q5; clear r8)
                        | (go_at_call 14; refine (HLN.out v3 w6.heap.size v2.heap.size (HTD.out v3 q3).cells b3).mono ?_; rintro e v4 ⟨rfl, q4⟩; replace q4 : Quiet wz v4 := q3.trans q4; obtain ⟨l0, l1, l2⟩ := (HP.out v4 q4).cells)
                        | (go_at_call 15; refine (Wo.cells_any M.B v2 M.wd h.s.cs q9.l h.s.es (HP.out v2 q2).ws).mono ?_; rintro e v3 ⟨rfl, b3, q3⟩; replace q3 : Quiet wz v3 := q2.trans q3)
                        | (go_at_call 18; refine (Gr.sameNodes_any 0 wz.heap.size nc n2c v1 h.s.ns h.s.ns h.s.ns na n2a nc n2c HNL.out (HTD.out v1 q1).nodes r1.out List.prefix_rfl List.prefix_rfl).mono ?_; rintro e v2 ⟨rfl, q2⟩; replace q2 : Quiet wz v2 := q1.trans q2; obtain ⟨k0, k1, k2⟩ := (HP.out v2 q2).cells)
                        | (go_at_call 19; refine (Gr.nodes_any E.out.1.s.gs).mono ?_; rintro e v1 ⟨x1, rfl, r1, q1⟩; obtain ⟨n2a, n2c, rfl⟩ := owns_shape r1; replace r1 := hid r1))
                      refine ⟨⟨j + 1, q9, h, by go_num, by omega, ⟨(E.out.1.quiet q6).none, ?_, fun p => ?_⟩⟩, by simp [intOf]; omega⟩
                      · have := HD.out.1; omega
                      · have := HD.out.2 p; omega
                · have b2 : (y.kind == 4) = false := by simpa using hk4
                  clear hgo hk4
                  go_wp2_with fail
                  go_loopw [12] (fun i wr => ∃ p : Nat, i = .int .i64 p ∧ p ≤ 4 ∧ Hid (RefS (fun k => k = wq.heap.size ∨ k = wq.heap.size + 1) W M q9 h wr ∧ Held (fun k => k = wq.heap.size ∨ k = wq.heap.size + 1) M q9 h wq.heap.size (wq.heap.size + 1) 4 ha ka wr ∧ Told M q9 h na nc w6.heap.size wr ∧ wr.heap[w9.heap.size]? = some (.cells #[.int .i64 cd, .int .i64 fu, .int .i64 ev.kind, .int .i64 ev.n, .slice ao9 ev.l.length cap9] 33 (0, 0)))) (fun i _ => 4 - (intOf i).toNat)
                  case atStart => exact ⟨0, rfl, by decide, ⟨HE.out.1, HE.out.2.1, HE.out.2.2.1, HE.out.2.2.2.1⟩⟩
                  case round =>
                    clear HE ek
                    rename World => wz
                    obtain ⟨p, rfl, hp, E⟩ := hrel
                    by_cases hp4 : p < 4
                    · have hp4' : (p : Int) < 4 := by omega
                      have HU := hid (fresh_sizes E.out.1.s HD.out.2 (by omega) p hp4)
                      have HS := hid (fun (w2 : World) (k : Quiet wz w2) => hH _ M q9 h w2 p (E.out.1.s.quiet k) (fun p => by have := HD.out.2 p; omega) (in_few _ (by omega)))
                      have HT := hid (fun (w2 : World) (k : Quiet wz w2) => hK _ M q9 h w2 p (E.out.1.s.quiet k) (in_few _ (by omega)))
                      have HFO := hid (fun (w2 : World) (k : Quiet wz w2) => And.intro (safe_quiet (E.out.2.1.fo p hp4) k).now (safe_quiet (E.out.2.1.is p hp4) k).now)
                      have sAll := hid (fun (w' : World) (k : Quiet wz w') => And.intro ((E.out.2.1.quiet k).hand p hp4 (Nat.le_refl _)) ((E.out.2.1.quiet k).kept p hp4 (Nat.le_refl _)))
                      generalize ha p = hap at *
                      generalize ka p = kap at *
                      generalize handOf h p = hl at *
                      generalize keptOf h p = kv at *
                      go_wp2_with fail
                      go_region_held3 (fun w' => w'.cell? ⟨wq.heap.size, p, none⟩ = some (.slice hap.1 hl.length hap.2) ∧ w'.cell? ⟨wq.heap.size + 1, p * 3, none⟩ = some (.int .i64 kv.kind) ∧ w'.cell? ⟨wq.heap.size + 1, p * 3 + 1, none⟩ = some (.int .i64 kv.n) ∧ w'.cell? ⟨wq.heap.size + 1, p * 3 + 2, none⟩ = some (.slice kap.1 kv.l.length kap.2)) ((refine sAll.out _ ?_; first | assumption | exact Kp.drew _))
                        (first
                          | (go_at_call 20; refine (HS.out wz.drew (Kp.drew _)).mono ?_; rintro e u6 ⟨a6, c6, rfl, fo6, q6⟩; replace q6 : Quiet wz u6 := (Kp.drew wz).trans q6)
                          | (go_at_call 23; refine (sameVals_of hl hl (fun x _ => sameVal_any x) hap.1 a6 hap.2 c6 u6 (HFO.out u6 q6).1 fo6.now HU.out.1).mono ?_; rintro e u7 ⟨rfl, q7⟩; rw [sames_self]; replace q7 : Quiet wz u7 := q6.trans q7)
                          | (go_at_call 22; refine (HT.out u7 q7).mono ?_; rintro e u8 ⟨k8, d8, rfl, is8, q8⟩; replace q8 : Quiet wz u8 := q7.trans q8)
                          | (go_at_call 21; refine (sameVal_any kv kv kap.1 k8 kap.2 d8 u8 (HFO.out u8 q8).2 is8.now HU.out.2).mono ?_; rintro e u9 ⟨rfl, q10⟩; rw [same_refl]; replace q10 : Quiet wz u9 := q8.trans q10))
                      go_wp2_with fail
                      exact ⟨⟨p + 1, by go_num, by omega, ⟨E.out.1.quiet q10, E.out.2.1.quiet q10, E.out.2.2.1.quiet q10, (q10.block _ (lt_of_block E.out.2.2.2) fun e => e).trans E.out.2.2.2⟩⟩, by simp [intOf]; omega⟩
                    · obtain rfl : p = 4 := by omega
                      have hcs := E.out.1.s.ok.inv.cs
                      have hns := E.out.1.s.ok.inv.ln
                      have HLN := hid (fun (v3 : World) (g1 g2 : Nat) (h1 : v3.heap[g1]? = some (.cells (Wo.longs h.s.cs).toArray 94 (0, 0))) (h2 : v3.heap[g2]? = some (.cells (Wo.longs h.s.cs).toArray 94 (0, 0))) => longs12 hcs h1 h2)
                      have HP := hid (fun (w2 : World) (k : Quiet wz w2) => E.out.1.s.quiet k)
                      have HTD := hid (fun (w2 : World) (k : Quiet wz w2) => E.out.2.2.1.quiet k)
                      have HEB := hid (fun (w2 : World) (k : Quiet wz w2) => five_cells ((k.block _ (lt_of_block E.out.2.2.2) fun e => e).trans E.out.2.2.2))
                      have HSV := hid (fun (w2 : World) => show Calls Tryz.prog 21 #[.agg #[.int .i64 ev.kind, .int .i64 ev.n, .slice ao9 ev.l.length cap9], .agg #[.int .i64 0, .int .i64 0, .slice none 0 0]] w2 fun e w' => e = .returned (.bool true) ∧ Quiet w2 w' from by
                        rw [HEV.out]
                        have h1 := sameVal_any v0 v0 ao9 none cap9 0 w2 (safe_leaf (F := fun _ => False) v0 v0_fits rfl ao9).now (safe_leaf (F := fun _ => False) v0 v0_fits rfl none).now (by decide)
                        rw [same_refl] at h1
                        exact h1)
                      have HBD := hid (show h.s.es.length ≤ 1000000 by have := HD.out.1; omega)
                      have HNL := hid (show h.s.ns.length ≤ 100000 by omega)
                      obtain ⟨g0, g1, g2⟩ := E.out.1.s.cells
                      clear hcs hns
                      go_wp2_with (first
                        | (go_at_call 21; refine (HSV.out v5).mono ?_; rintro e v6 ⟨rfl, q6⟩; replace q6 : Quiet wz v6 := q5.trans q6)
                        | (go_at_call 17; refine (Wo.log_any M.B v4 M.wd h.s.cs q9.l h.s.es (HP.out v4 q4).ws HBD.out).mono ?_; rintro e v5 ⟨x8, rfl, r8, q5⟩; obtain ⟨la, lc, rfl⟩ := owns_shape r8; replace q5 : Quiet wz v5 := q4.trans q5; obtain ⟨_, _, e2, e3, e4⟩ := HEB.out v5 q5; clear r8)
                        | (go_at_call 14; refine (HLN.out v3 w6.heap.size v2.heap.size (HTD.out v3 q3).cells b3).mono ?_; rintro e v4 ⟨rfl, q4⟩; replace q4 : Quiet wz v4 := q3.trans q4; obtain ⟨l0, l1, l2⟩ := (HP.out v4 q4).cells)
                        | (go_at_call 15; refine (Wo.cells_any M.B v2 M.wd h.s.cs q9.l h.s.es (HP.out v2 q2).ws).mono ?_; rintro e v3 ⟨rfl, b3, q3⟩; replace q3 : Quiet wz v3 := q2.trans q3)
                        | (go_at_call 18; refine (Gr.sameNodes_any 0 wz.heap.size nc n2c v1 h.s.ns h.s.ns h.s.ns na n2a nc n2c HNL.out (HTD.out v1 q1).nodes r1.out List.prefix_rfl List.prefix_rfl).mono ?_; rintro e v2 ⟨rfl, q2⟩; replace q2 : Quiet wz v2 := q1.trans q2; obtain ⟨k0, k1, k2⟩ := (HP.out v2 q2).cells)
                        | (go_at_call 19; refine (Gr.nodes_any E.out.1.s.gs).mono ?_; rintro e v1 ⟨x1, rfl, r1, q1⟩; obtain ⟨n2a, n2c, rfl⟩ := owns_shape r1; replace r1 := hid r1))
                      refine ⟨⟨j + 1, q9, h, by go_num, by omega, ⟨(E.out.1.quiet q6).none, ?_, fun p => ?_⟩⟩, by simp [intOf]; omega⟩
                      · have := HD.out.1; omega
                      · have := HD.out.2 p; omega
      · obtain rfl : j = xs.length := by omega
        have hnl : ¬ ((xs.length : Int) < (xs.length : Int)) := by omega
        go_wp2_with fail
        go_ret
        exact ⟨rfl, D.out.1.low⟩
end Go.Proofs.YtgojcohcimmfjaaGreat
