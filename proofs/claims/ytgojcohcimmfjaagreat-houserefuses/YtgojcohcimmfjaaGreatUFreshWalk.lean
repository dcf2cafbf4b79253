/- The law HouseFresh, whatever way a house goes. -/
import Derived.Test.YtgojcohcimmfjaaGreatUV6
import Derived.Deep.RegionLaw
namespace Go.Proofs.YtgojcohcimmfjaaGreat
open Go.ChangeShapes Go.WideShapes Go.ChangeAt Go.RowKit
/-- A house beside the step that the law holds in a block of its own. -/
structure FreshS (X : Nat → Prop) (W : World) (M : Hx) (q : Hq) (h : Hs) (cs : Array Value) (w : World) : Prop where
  s : HouseS X M q h w
  low : Below W.heap.size W w
  xb : w.heap[W.heap.size]? = some (.cells cs 39 (0, 0))
  mb : M.B = W.heap.size + 1
section
variable {X X' : Nat → Prop} {W : World} {M : Hx} {q q' : Hq} {h h' : Hs} {cs : Array Value} {w w' : World}
theorem FreshS.step (H : FreshS X W M q h cs w) (k : Quiet w w') (hX : ∀ i, i < w.heap.size → X' i → X i) (xo : ∀ i, X' i → i < w'.heap.size) : FreshS X' W M q h cs w' :=
  ⟨H.s.step k hX xo, low_of H.low k H.low.size, (k.block _ (lt_of_block H.xb) fun e => e).trans H.xb, H.mb⟩
theorem FreshS.quiet (H : FreshS X W M q h cs w) (k : Quiet w w') : FreshS X W M q h cs w' :=
  ⟨H.s.quiet k, low_of H.low k H.low.size, (k.block _ (lt_of_block H.xb) fun e => e).trans H.xb, H.mb⟩
theorem FreshS.goes (H : FreshS X W M q h cs w) (g : GoesH M q w q' w') (s' : HouseS X M q' h' w') : FreshS X W M q' h' cs w' :=
  ⟨s', H.s.below (by rw [H.mb]; omega) H.low g, (g.block H.xb (H.s.old _ (by rw [H.mb]; omega))).1, H.mb⟩
/-- Blocks of X turn, behind the step's own. -/
theorem FreshS.turn {F : Nat → Prop} (H : FreshS X W M q h cs w) (k : Kp F w w') (hX : ∀ i, F i → X i) (hI : ∀ (i : Nat) (cs : Array Value) (t : TypeId), w.heap[i]? = some (.cells cs t (0, 0)) → t = 133 ∨ t = 127 → ¬ F i) (hF : ∀ i, F i → W.heap.size < i) : FreshS X W M q h cs w' :=
  ⟨H.s.turn k hX hI, H.low.trans (k.below H.low.size fun i e => by have := hF i e; omega), (k.block _ (lt_of_block H.xb) fun e => by have := hF _ e; omega).trans H.xb, H.mb⟩
/-- The step's own block turns. -/
theorem FreshS.own {cs' : Array Value} (H : FreshS X W M q h cs w) (k : Kp (fun i => i = W.heap.size) w w') (hX : X W.heap.size) (hb : w'.heap[W.heap.size]? = some (.cells cs' 39 (0, 0))) : FreshS X W M q h cs' w' :=
  ⟨H.s.turn k (fun i e => e ▸ hX) (fun i cs t hi ht e => by
      rw [e, H.xb] at hi
      simp at hi
      rcases ht with ht | ht <;> rw [ht] at hi <;> exact absurd hi.2 (by decide)), H.low.trans (k.below H.low.size fun i e => by omega), hb, H.mb⟩
theorem nine_cells {w : World} {g : Nat} {a b c d e f i j k : Value} {t : TypeId} (h : w.heap[g]? = some (.cells #[a, b, c, d, e, f, i, j, k] t (0, 0))) : w.cell? ⟨g, 0, none⟩ = some a ∧ w.cell? ⟨g, 1, none⟩ = some b ∧ w.cell? ⟨g, 2, none⟩ = some c ∧ w.cell? ⟨g, 3, none⟩ = some d ∧ w.cell? ⟨g, 4, none⟩ = some e ∧ w.cell? ⟨g, 5, none⟩ = some f ∧ w.cell? ⟨g, 6, none⟩ = some i ∧ w.cell? ⟨g, 7, none⟩ = some j ∧ w.cell? ⟨g, 8, none⟩ = some k := by
  refine ⟨?_, ?_, ?_, ?_, ?_, ?_, ?_, ?_, ?_⟩ <;> simp [World.cell?, h]
theorem put_types {hk kk : Nat} {L K : List Value} (h1 : w.heap[hk]? = some (.cells L.toArray 44 (0, 0))) (h2 : w.heap[kk]? = some (.cells K.toArray 60 (0, 0))) : ∀ (i : Nat) (cs : Array Value) (t : TypeId), w.heap[i]? = some (.cells cs t (0, 0)) → t = 133 ∨ t = 127 → ¬ (i = hk ∨ i = kk) := by
  intro i cs t hi ht e
  rcases e with e | e
  · rw [e, h1] at hi
    simp at hi
    rcases ht with ht | ht <;> rw [ht] at hi <;> exact absurd hi.2 (by decide)
  · rw [e, h2] at hi
    simp at hi
    rcases ht with ht | ht <;> rw [ht] at hi <;> exact absurd hi.2 (by decide)
end
/-- The contract of Make there: whatever is told. -/
def toldZ (x : Sx) (f : Int × Int) : Prop := f.1 = 0 → 1 ≤ x.fs.length ∧ ∀ v ∈ x.fs, v.bad x.fs.length 0 = 0
theorem make_at {w : World} {x : Sx} (hx : SxIs w x) (hg : Ex.great x.fs = false) : MakeAt (toldZ x) x w :=
  ⟨fun _ hf h0 v hv => (hf h0).2 v hv, fun w1 k => Ex.make_z x.fs x.fa x.fc w1 (hx.fo.thawQ k) (by have := Ex.great_sizes hg; omega)⟩
theorem fresh_math {h : Hs} {x : Sp} (hi : HOk h) (k : x.kind = 1) : (∀ p : Nat, p < 4 → handOf (stepH h x).2 p = handOf h p) ∧ ∀ p : Nat, p < 4 → keptOf (stepH h x).2 p = if (p : Int) = x.p ∧ (stepH h x).1.code = 0 then v0 else keptOf h p := by
  obtain ⟨h1, h2⟩ := step_fresh hi x k
  refine ⟨fun p hp => by unfold handOf; rw [h1], fun p hp => ?_⟩
  have hc : (0 : Int) ≤ (p : Int) ∧ (p : Int) < 4 := by omega
  unfold keptOf
  rw [if_pos hc, if_pos hc, Int.toNat_natCast]
  exact h2 p hp
theorem sames_self (l : List V) : sames l l = true := by
  induction l with
  | nil => rfl
  | cons v l ih => rw [sames_cons, same_refl, ih]; rfl
theorem sizes_leaf : ∀ l : List V, (∀ v ∈ l, v.l = []) → sizes l = l.length := by
  intro l
  induction l with
  | nil => intro _; rfl
  | cons v l ih =>
    intro hl
    rw [sizes_cons, ih fun u hu => hl u (List.mem_cons_of_mem _ hu), size_eq, hl v List.mem_cons_self, sizes_nil, List.length_cons]
    omega
/-- What a house holds is small. -/
theorem fresh_sizes {X : Nat → Prop} {M : Hx} {q : Hq} {h : Hs} {w : World} {n : Nat} (H : HouseS X M q h w) (hn : ∀ p, (h.hs.getD p []).length ≤ n) (h1 : n ≤ 100) (p : Nat) (hp : p < 4) : sizes (handOf h p) ≤ 500 ∧ (keptOf h p).size ≤ 500 := by
  have hc : (0 : Int) ≤ (p : Int) ∧ (p : Int) < 4 := by omega
  unfold handOf keptOf
  rw [if_pos hc, if_pos hc, Int.toNat_natCast]
  refine ⟨?_, ?_⟩
  · rw [sizes_leaf _ fun v hv => (H.leaf p hp v hv).1]
    have := hn p; omega
  · have hk : (h.s.ks.getD p v0).check = 0 := by
      rw [List.getD_eq_getElem?_getD]
      cases e : h.s.ks[p]? with
      | none => exact v0_check
      | some v => exact H.ok.inv.good v (List.mem_of_getElem? e)
    have := check_size hk
    omega
set_option maxRecDepth 8000 in
set_option maxHeartbeats 4000000 in
theorem freshLaw (hN : HNewC) (hD : HDoC) (hH : HHandC) (hK : HKeptC) (W : World) (xs : List Sx) (sa : Option Addr) (sc : Nat) (x : Sx) (hxs : StepsAt W xs sa) (hx : SxIs W x) :
    Calls Tryz.prog 4 #[.slice sa xs.length sc, .agg x.vals] W fun e w' => e = .returned (.bool true) ∧ Below W.heap.size W w' := by
  have q1 : Quiet W (W.alloc (.cells x.vals 39)) := Kp.alloc _ _
  have b1 := heap_alloc_new W (.cells x.vals 39)
  have HB := hid (hbegun_of hN hD hH (W.alloc (.cells x.vals 39)))
  have HL := hid (fun (w2 : World) (k : Below (W.alloc (.cells x.vals 39)).heap.size (W.alloc (.cells x.vals 39)) w2) => (show Below W.heap.size W w2 ∧ w2.heap[W.heap.size]? = some (.cells x.vals 39 (0, 0)) from ⟨q1.low.trans (k.mono (by simp)), (k.block _ (by simp)).trans b1⟩))
  have HX := hid (And.intro hxs hx)
  clear hxs hx
  have HG := hid (fun (w2 : World) (k : Below W.heap.size W w2) => greatHouse_any xs sa sc 100 w2 (HX.out.1.low k) (by decide))
  have HM := hid (fun (w2 : World) (k : Below W.heap.size W w2) => Ex.great_any x.fs x.fa x.fc w2 (HX.out.2.low k).fo.unthaw)
  cases hg1 : greatH xs 100 with
  | true =>
    rw [hg1] at HG
    simp only [Sx.vals] at *
    go_enter Tryz.func4, Tryz.ntmps4
    go_wp2_with (first
      | (go_at_call 8; refine (HG.out _ hl2).mono ?_; rintro e w3 ⟨rfl, q3⟩)
      | (go_at_call 7; refine HB.out.mono ?_; rintro e w2 ⟨rfl, k2⟩; obtain ⟨hl2, hb2⟩ := HL.out w2 k2))
    go_ret
    exact ⟨rfl, low_of hl2 q3 hl2.size⟩
  | false =>
    rw [hg1] at HG
    obtain ⟨hlen, hng⟩ := greatH_no hg1
    have HNG := hid hng
    clear hg1 hng
    cases hg2 : Ex.great x.fs with
    | true =>
      rw [hg2] at HM
      simp only [Sx.vals] at *
      have HC := hid (fun (w3 : World) (k : Quiet (W.alloc (.cells #[.int .i64 x.kind, .int .i64 x.p, .int .i64 x.q, .int .i64 x.k, .int .i64 x.h, .int .i64 x.r, .int .i64 x.g, .int .i64 x.n, .slice x.fa x.fs.length x.fc] 39)) w3) => k)
      go_enter Tryz.func4, Tryz.ntmps4
      go_wp2_with (first
        | (go_at_call 24; refine (HM.out _ (low_of hl2 q3 hl2.size)).mono ?_; rintro e w4 ⟨rfl, q4⟩)
        | (go_at_call 8; refine (HG.out _ hl2).mono ?_; rintro e w3 ⟨rfl, q3⟩; have c8 : w3.cell? ⟨W.heap.size, 8, none⟩ = some (.slice x.fa x.fs.length x.fc) := q3.cell (show w2.cell? ⟨W.heap.size, 8, none⟩ = _ by simp [World.cell?, hb2]) (fun e => e))
        | (go_at_call 7; refine HB.out.mono ?_; rintro e w2 ⟨rfl, k2⟩; obtain ⟨hl2, hb2⟩ := HL.out w2 k2))
      go_ret
      exact ⟨rfl, low_of (low_of hl2 q3 hl2.size) q4 (Nat.le_trans hl2.size q3.size)⟩
    | false =>
      rw [hg2] at HM
      have HX2 := hid hg2
      clear hg2
      simp only [Sx.vals] at *
      go_enter Tryz.func4, Tryz.ntmps4
      go_wp2_with (first
        | (go_at_call 9; refine (hN (fun k => k = W.heap.size) (W.heap.size + 1) w4 (fun k e => by rw [e]; exact Nat.lt_of_lt_of_le (lt_of_block hb2) (Nat.le_trans q3.size q4.size)) (by have := lt_of_block hb2; have := q3.size; have := q4.size; omega)).mono ?_; rintro e w5 ⟨M, q0, hMB, rfl, h5, _, q5⟩)
        | (go_at_call 24; refine (HM.out _ (low_of hl2 q3 hl2.size)).mono ?_; rintro e w4 ⟨rfl, q4⟩)
        | (go_at_call 8; refine (HG.out _ hl2).mono ?_; rintro e w3 ⟨rfl, q3⟩; have c8 : w3.cell? ⟨W.heap.size, 8, none⟩ = some (.slice x.fa x.fs.length x.fc) := q3.cell (show w2.cell? ⟨W.heap.size, 8, none⟩ = _ by simp [World.cell?, hb2]) (fun e => e))
        | (go_at_call 7; refine HB.out.mono ?_; rintro e w2 ⟨rfl, k2⟩; obtain ⟨hl2, hb2⟩ := HL.out w2 k2))
      have F5 := hid (show FreshS (fun k => k = W.heap.size) W M q0 h00 #[.int .i64 x.kind, .int .i64 x.p, .int .i64 x.q, .int .i64 x.k, .int .i64 x.h, .int .i64 x.r, .int .i64 x.g, .int .i64 x.n, .slice x.fa x.fs.length x.fc] w5 from ⟨h5, low_of (low_of (low_of hl2 q3 hl2.size) q4 (Nat.le_trans hl2.size q3.size)) q5 (Nat.le_trans (Nat.le_trans hl2.size q3.size) q4.size), (q5.block _ (Nat.lt_of_lt_of_le (lt_of_block hb2) (Nat.le_trans q3.size q4.size)) fun e => e).trans ((q4.block _ (Nat.lt_of_lt_of_le (lt_of_block hb2) q3.size) fun e => e).trans ((q3.block _ (lt_of_block hb2) fun e => e).trans hb2)), hMB⟩)
      clear h5 hMB q5 q4 q3 c8 k2 hl2 hb2 HB HL HG HM q1 b1
      go_loopw [6] (fun i wr => ∃ (j : Nat) (q : Hq) (h : Hs), i = .int .i64 j ∧ j ≤ xs.length ∧ Hid (FreshS (fun k => k = W.heap.size) W M q h #[.int .i64 x.kind, .int .i64 x.p, .int .i64 x.q, .int .i64 x.k, .int .i64 x.h, .int .i64 x.r, .int .i64 x.g, .int .i64 x.n, .slice x.fa x.fs.length x.fc] wr ∧ h.s.es.length ≤ 2000 * j ∧ ∀ p, (h.hs.getD p []).length ≤ j)) (fun i _ => xs.length - (intOf i).toNat)
      case atStart => exact ⟨0, q0, h00, rfl, Nat.zero_le _, ⟨F5.out, by decide, fun p => by show ((List.replicate 4 ([] : List V)).getD p []).length ≤ 0; rw [List.getD_eq_getElem?_getD, List.getElem?_replicate]; split <;> simp⟩⟩
      case round =>
        clear F5
        rename World => wq
        obtain ⟨j, q, h, rfl, hj, D⟩ := hrel
        by_cases hlt : j < xs.length
        · obtain ⟨b, off, rfl, c0, c1, c2, c3, c4, c5, c6, c7, c8, hs⟩ := (HX.out.1.low D.out.1.low).get j hlt
          have HC := hid (hD (fun k => k = W.heap.size) M q h wq xs[j] (toldZ xs[j]) D.out.1.s hs.fit (by have := D.out.2.1; omega) (fun p => by have := D.out.2.2 p; omega) (make_at hs (HNG.out _ (List.getElem_mem hlt))))
          generalize xs[j] = y at *
          simp only [Sx.vals] at HC
          clear hs
          go_wp2_with (go_at_call 11; refine HC.out.mono ?_; rintro e w3 ⟨c, _, q3, ao3, cap3, rfl, s3, g3, _⟩; have H3 := hid (And.intro s3 g3); clear s3 g3)
          refine ⟨⟨j + 1, q3, _, by go_num, by omega, ⟨D.out.1.goes H3.out.2 H3.out.1, ?_, fun p => ?_⟩⟩, by simp [intOf]; omega⟩
          · have := (step_adds D.out.1.s.ok (y.sp c)).1; have := D.out.2.1; omega
          · have := (step_adds D.out.1.s.ok (y.sp c)).2 p; have := D.out.2.2 p; omega
        · obtain rfl : j = xs.length := by omega
          have hnl : ¬ ((xs.length : Int) < (xs.length : Int)) := by omega
          have qh : Quiet wq ((wq.alloc (.cells #[.slice none 0 0, .slice none 0 0, .slice none 0 0, .slice none 0 0] 44)).alloc (.cells #[.int .i64 0, .int .i64 0, .slice none 0 0, .int .i64 0, .int .i64 0, .slice none 0 0, .int .i64 0, .int .i64 0, .slice none 0 0, .int .i64 0, .int .i64 0, .slice none 0 0] 60)) := (Kp.alloc _ _).trans (Kp.alloc _ _)
          have hh1 : ((wq.alloc (.cells #[.slice none 0 0, .slice none 0 0, .slice none 0 0, .slice none 0 0] 44)).alloc (.cells #[.int .i64 0, .int .i64 0, .slice none 0 0, .int .i64 0, .int .i64 0, .slice none 0 0, .int .i64 0, .int .i64 0, .slice none 0 0, .int .i64 0, .int .i64 0, .slice none 0 0] 60)).heap[wq.heap.size]? = some (.cells #[.slice none 0 0, .slice none 0 0, .slice none 0 0, .slice none 0 0] 44 (0, 0)) := by rw [Below.heap_alloc _ _ _ (by simp)]; exact heap_alloc_new wq _
          have hh2 := heap_two wq (.cells #[.slice none 0 0, .slice none 0 0, .slice none 0 0, .slice none 0 0] 44) (.cells #[.int .i64 0, .int .i64 0, .slice none 0 0, .int .i64 0, .int .i64 0, .slice none 0 0, .int .i64 0, .int .i64 0, .slice none 0 0, .int .i64 0, .int .i64 0, .slice none 0 0] 60)
          have HF := hid (And.intro (D.out.1.step (X' := fun k => k = W.heap.size ∨ k = wq.heap.size ∨ k = wq.heap.size + 1) qh (fun i hi e => by
              rcases e with e | e | e
              · exact e
              · omega
              · omega) (fun i e => by
              have := D.out.1.low.size
              rcases e with e | e | e
              · have h1 := lt_of_block hh2; rw [e]; omega
              · rw [e]; exact lt_of_block hh1
              · rw [e]; exact lt_of_block hh2)) (Held.start (X := fun k => k = W.heap.size ∨ k = wq.heap.size ∨ k = wq.heap.size + 1) (M := M) (q := q) (h := h) _ wq.heap.size (wq.heap.size + 1) (fun _ => (none, 0)) (fun _ => (none, 0)) hh1 hh2))
          have HD := hid D.out.2
          have HQ := hid (show W.heap.size < wq.heap.size from lt_of_block D.out.1.xb)
          clear D qh hh1 hh2 hnl hlt hj
          go_wp2_with fail
          go_loopw [9] (fun i wr => ∃ (p : Nat) (ha ka : Nat → Option Addr × Nat), i = .int .i64 p ∧ p ≤ 4 ∧ Hid (FreshS (fun k => k = W.heap.size ∨ k = wq.heap.size ∨ k = wq.heap.size + 1) W M q h #[.int .i64 x.kind, .int .i64 x.p, .int .i64 x.q, .int .i64 x.k, .int .i64 x.h, .int .i64 x.r, .int .i64 x.g, .int .i64 x.n, .slice x.fa x.fs.length x.fc] wr ∧ Held (fun k => k = W.heap.size ∨ k = wq.heap.size ∨ k = wq.heap.size + 1) M q h wq.heap.size (wq.heap.size + 1) p ha ka wr)) (fun i _ => 4 - (intOf i).toNat)
          case atStart => exact ⟨0, _, _, rfl, by decide, HF⟩
          case round =>
            clear HF
            rename World => wp
            obtain ⟨p, ha, ka, rfl, hp, E⟩ := hrel
            by_cases hp4 : p < 4
            · have hp4' : (p : Int) < 4 := by omega
              have HS := hid (fun (w2 : World) (k : Quiet wp w2) => hH _ M q h w2 p (E.out.1.s.quiet k) (fun p => by have := HD.out.2 p; omega) (in_few _ (by omega)))
              have HT := hid (fun (w2 : World) (k : Quiet wp w2) => hK _ M q h w2 p (E.out.1.s.quiet k) (in_few _ (by omega)))
              have HC := hid (fun (w2 : World) (k : Quiet wp w2) => And.intro ((E.out.2.quiet k).hcell p hp4) (And.intro ((E.out.2.quiet k).kcell (p * 3) (by omega)) (And.intro ((E.out.2.quiet k).kcell (p * 3 + 1) (by omega)) ((E.out.2.quiet k).kcell (p * 3 + 2) (by omega)))))
              have HZ := hid (fun (w2 : World) (k : Quiet wp w2) => And.intro (E.out.2.quiet k).hands (E.out.2.quiet k).kepts)
              go_wp2_with fail
              go_region_law ((first
                | (go_simp; go_at_call 22; refine (HT.out w6 ((Kp.drew _).trans q6)).mono ?_; rintro e w7 ⟨b7, d7, rfl, is7, q7⟩; obtain ⟨⟨z0, e0⟩, ⟨z1, e1⟩, ⟨z2, e2⟩, ⟨z3, e3⟩⟩ := HC.out w7 (((Kp.drew _).trans q6).trans q7); have HZ7 := HZ.out w7 (((Kp.drew _).trans q6).trans q7); have f0 := frozen_of_row w7 wq.heap.size p _ _ HZ7.1; have f1 := frozen_of_row w7 (wq.heap.size + 1) (p * 3) _ _ HZ7.2; have f2 := frozen_of_row w7 (wq.heap.size + 1) (p * 3 + 1) _ _ HZ7.2; have f3 := frozen_of_row w7 (wq.heap.size + 1) (p * 3 + 2) _ _ HZ7.2; have l0 := lt_of_block HZ7.1; have l1 := lt_of_block HZ7.2; have H7 := hid (And.intro fo6 (And.intro q6 (And.intro is7 q7))); clear HZ7 is7)
                | (go_simp; go_at_call 20; refine (HS.out wp.drew (Kp.drew _)).mono ?_; rintro e w6 ⟨a6, c6, rfl, fo6, q6⟩)))
              go_wp2_with fail
              have Q7 : Quiet wp w7 := ((Kp.drew _).trans H7.out.2.1).trans H7.out.2.2.2
              have F7 := E.out.1.quiet Q7
              have G7 := E.out.2.quiet Q7
              have k7 := putH_kp w7 wq.heap.size (wq.heap.size + 1) p h a6 b7 c6 d7
              have hsz := HQ.out
              exact ⟨⟨p + 1, upd ha p (a6, c6), upd ka p (b7, d7), by go_num, by omega, ⟨F7.turn k7 (fun i e => .inr e) (put_types G7.hands G7.kepts) (fun i e => by omega), G7.put hp4 (.inr (.inl rfl)) (.inr (.inr rfl)) (safe_quiet H7.out.1 H7.out.2.2.2) H7.out.2.2.1⟩⟩, by simp [intOf]; omega⟩
            · obtain rfl : p = 4 := by omega
              have q8 := E.out.1.xb
              obtain ⟨m0, m1, m2, m3, m4, m5, m6, m7, m8⟩ := nine_cells q8
              have mf := frozen_of_row wp W.heap.size 0 _ _ q8
              have ml := lt_of_block q8
              have k9 := kp_set wp W.heap.size 0 (.int .i64 1)
              have q9 : (wp.setCell ⟨W.heap.size, 0, none⟩ (.int .i64 1)).heap[W.heap.size]? = some (.cells #[.int .i64 1, .int .i64 x.p, .int .i64 x.q, .int .i64 x.k, .int .i64 x.h, .int .i64 x.r, .int .i64 x.g, .int .i64 x.n, .slice x.fa x.fs.length x.fc] 39 (0, 0)) := by simp [World.setCell, Array.getElem?_modify, q8]
              have F9 := hid (And.intro (E.out.1.own k9 (.inl rfl) q9) (show Held (fun k => k = W.heap.size ∨ k = wq.heap.size ∨ k = wq.heap.size + 1) M q h wq.heap.size (wq.heap.size + 1) 4 ha ka (wp.setCell ⟨W.heap.size, 0, none⟩ (.int .i64 1)) from ⟨(k9.block _ (lt_of_block E.out.2.hands) fun e => by have := HQ.out; omega).trans E.out.2.hands, (k9.block _ (lt_of_block E.out.2.kepts) fun e => by have := HQ.out; omega).trans E.out.2.kepts, fun i hi => (E.out.2.fo i hi).step (k9.mono fun i _ e => .inr (.inl e)) (fun _ _ e => e), fun i hi => (E.out.2.is i hi).step (k9.mono fun i _ e => .inr (.inl e)) (fun _ _ e => e)⟩))
              have HX9 := hid (show SxIs (wp.setCell ⟨W.heap.size, 0, none⟩ (.int .i64 1)) ⟨1, x.p, x.q, x.k, x.h, x.r, x.g, x.n, x.fs, x.fa, x.fc⟩ from ⟨⟨in_few 1 (by decide), HX.out.2.fit.p, HX.out.2.fit.q, HX.out.2.fit.k, HX.out.2.fit.h, HX.out.2.fit.r, HX.out.2.fit.g, HX.out.2.fit.n, HX.out.2.fit.ins⟩, (HX.out.2.low F9.out.1.low).fo⟩)
              have HC := hid (hD _ M q h _ ⟨1, x.p, x.q, x.k, x.h, x.r, x.g, x.n, x.fs, x.fa, x.fc⟩ (toldZ ⟨1, x.p, x.q, x.k, x.h, x.r, x.g, x.n, x.fs, x.fa, x.fc⟩) F9.out.1.s HX9.out.fit (by have := HD.out.1; omega) (fun p => by have := HD.out.2 p; omega) (make_at HX9.out HX2.out))
              simp only [Sx.vals, Sx.sp] at HC
              clear q8 k9 q9
              go_wp2_with (go_at_call 11; refine HC.out.mono ?_; rintro e w3 ⟨c, _, q3, ao3, cap3, rfl, s3, g3, _⟩; have H3 := hid (And.intro s3 g3); clear s3 g3)
              have HR := hid (fresh_math (x := ⟨1, x.p, x.q, x.k, x.h, x.r, x.g, x.n, c, x.fs⟩) F9.out.1.s.ok rfl)
              simp only at HR
              have q10 : Quiet w3 (w3.alloc (.cells #[.int .i64 (stepH h ⟨1, x.p, x.q, x.k, x.h, x.r, x.g, x.n, c, x.fs⟩).1.code, .int .i64 (stepH h ⟨1, x.p, x.q, x.k, x.h, x.r, x.g, x.n, c, x.fs⟩).1.fuel, .int .i64 (stepH h ⟨1, x.p, x.q, x.k, x.h, x.r, x.g, x.n, c, x.fs⟩).1.v.kind, .int .i64 (stepH h ⟨1, x.p, x.q, x.k, x.h, x.r, x.g, x.n, c, x.fs⟩).1.v.n, .slice ao3 (stepH h ⟨1, x.p, x.q, x.k, x.h, x.r, x.g, x.n, c, x.fs⟩).1.v.l.length cap3] 33)) := Kp.alloc _ _
              have F10 := hid (And.intro ((F9.out.1.goes H3.out.2 H3.out.1).quiet q10) (And.intro ((F9.out.2.goes F9.out.1.s H3.out.2).quiet q10) (heap_alloc_new w3 (.cells #[.int .i64 (stepH h ⟨1, x.p, x.q, x.k, x.h, x.r, x.g, x.n, c, x.fs⟩).1.code, .int .i64 (stepH h ⟨1, x.p, x.q, x.k, x.h, x.r, x.g, x.n, c, x.fs⟩).1.fuel, .int .i64 (stepH h ⟨1, x.p, x.q, x.k, x.h, x.r, x.g, x.n, c, x.fs⟩).1.v.kind, .int .i64 (stepH h ⟨1, x.p, x.q, x.k, x.h, x.r, x.g, x.n, c, x.fs⟩).1.v.n, .slice ao3 (stepH h ⟨1, x.p, x.q, x.k, x.h, x.r, x.g, x.n, c, x.fs⟩).1.v.l.length cap3] 33))))
              have HU := hid (fun p hp => fresh_sizes F9.out.1.s HD.out.2 hlen p hp)
              have HFW := hid (show FewH (stepH h ⟨1, x.p, x.q, x.k, x.h, x.r, x.g, x.n, c, x.fs⟩).2 from fun p => by have := (step_adds F9.out.1.s.ok ⟨1, x.p, x.q, x.k, x.h, x.r, x.g, x.n, c, x.fs⟩).2 p; have := HD.out.2 p; omega)
              clear H3 F9 HX9 HC q10 m0 m1 m2 m3 m4 m5 m6 m7 m8 mf ml E
              generalize (stepH h ⟨1, x.p, x.q, x.k, x.h, x.r, x.g, x.n, c, x.fs⟩).1.code = cd at *
              generalize (stepH h ⟨1, x.p, x.q, x.k, x.h, x.r, x.g, x.n, c, x.fs⟩).1.fuel = fu at *
              generalize (stepH h ⟨1, x.p, x.q, x.k, x.h, x.r, x.g, x.n, c, x.fs⟩).1.v = ev at *
              generalize (stepH h ⟨1, x.p, x.q, x.k, x.h, x.r, x.g, x.n, c, x.fs⟩).2 = h2 at *
              go_loopw [11] (fun i wr => ∃ p : Nat, i = .int .i64 p ∧ p ≤ 4 ∧ Hid (FreshS (fun k => k = W.heap.size ∨ k = wq.heap.size ∨ k = wq.heap.size + 1) W M q3 h2 #[.int .i64 1, .int .i64 x.p, .int .i64 x.q, .int .i64 x.k, .int .i64 x.h, .int .i64 x.r, .int .i64 x.g, .int .i64 x.n, .slice x.fa x.fs.length x.fc] wr ∧ Held (fun k => k = W.heap.size ∨ k = wq.heap.size ∨ k = wq.heap.size + 1) M q3 h wq.heap.size (wq.heap.size + 1) 4 ha ka wr ∧ wr.heap[w3.heap.size]? = some (.cells #[.int .i64 cd, .int .i64 fu, .int .i64 ev.kind, .int .i64 ev.n, .slice ao3 ev.l.length cap3] 33 (0, 0)))) (fun i _ => 4 - (intOf i).toNat)
              case atStart => exact ⟨0, rfl, by decide, F10⟩
              case round =>
                clear F10
                rename World => wz
                obtain ⟨p, rfl, hp, E⟩ := hrel
                by_cases hp4 : p < 4
                · have hp4' : (p : Int) < 4 := by omega
                  obtain ⟨c0, c1, c2⟩ := E.out.2.1.kept p hp4 (Nat.le_refl _)
                  obtain ⟨_, m1, _⟩ := nine_cells E.out.1.xb
                  obtain ⟨e0, _⟩ := five_cells E.out.2.2
                  have HU1 := hid (HU.out p hp4).1
                  have HS := hid (fun (w2 : World) (k : Quiet wz w2) => (show Calls Tryz.prog 20 #[.pointer (some ⟨M.hb, 0, none⟩), .int .i64 p] w2 fun e w' => ∃ ao cap, e = .returned (.slice ao (handOf h p).length cap) ∧ SafeF (fun k => OwnH M q3 k ∨ (k = W.heap.size ∨ k = wq.heap.size ∨ k = wq.heap.size + 1)) (fun w => Fo w (handOf h p) ao) w' ∧ Quiet w2 w' from by
                    have h1 := hH _ M q3 h2 w2 p (E.out.1.s.quiet k) HFW.out (in_few _ (by omega))
                    rw [HR.out.1 p hp4] at h1
                    exact h1))
                  have HT := hid (fun (w2 : World) (k : Quiet wz w2) => (show Calls Tryz.prog 22 #[.pointer (some ⟨M.hb, 0, none⟩), .int .i64 p] w2 fun e w' => ∃ ao cap, e = .returned (.agg #[.int .i64 (keptOf h2 p).kind, .int .i64 (keptOf h2 p).n, .slice ao (keptOf h2 p).l.length cap]) ∧ SafeF (fun k => OwnH M q3 k ∨ (k = W.heap.size ∨ k = wq.heap.size ∨ k = wq.heap.size + 1)) (fun w => Is w (keptOf h2 p) ao) w' ∧ Quiet w2 w' from hK _ M q3 h2 w2 p (E.out.1.s.quiet k) (in_few _ (by omega))))
                  have HV := hid (HR.out.2 p hp4)
                  have HW := hid (show SafeF (fun _ => False) (fun w => Is w (keptOf h p) (ka p).1) wz from (E.out.2.1.is p hp4).mono fun _ _ e => e.elim)
                  have a1 : (wz.alloc (.cells #[.int .i64 (keptOf h p).kind, .int .i64 (keptOf h p).n, .slice (ka p).1 (keptOf h p).l.length (ka p).2] 31)).cell? ⟨W.heap.size, 1, none⟩ = some (.int .i64 x.p) := (Kp.alloc (F := fun _ => False) wz _).cell m1 (fun e => e)
                  have a2 : (wz.alloc (.cells #[.int .i64 (keptOf h p).kind, .int .i64 (keptOf h p).n, .slice (ka p).1 (keptOf h p).l.length (ka p).2] 31)).cell? ⟨w3.heap.size, 0, none⟩ = some (.int .i64 cd) := (Kp.alloc (F := fun _ => False) wz _).cell e0 (fun e => e)
                  by_cases hpx : (p : Int) = x.p
                  · have b1 : ((p : Int) == x.p) = true := by simpa using hpx
                    by_cases hcd : cd = 0
                    · have b2 : (cd == 0) = true := by simpa using hcd
                      rw [if_pos ⟨hpx, hcd⟩] at HV
                      rw [HV.out] at HT
                      have HU2 := hid (show (v0 : V).size ≤ 500 by decide)
                      clear hpx hcd
                      go_wp2_with fail
                      have qy : Quiet wz (wz.alloc (.cells #[.int .i64 0, .int .i64 0, .slice none 0 0] 31)) := Kp.alloc _ _
                      obtain ⟨kv, hkv⟩ : ∃ kv : V, kv = v0 := ⟨_, rfl⟩
                      obtain ⟨wa, hwa⟩ : ∃ wa : Option Addr, wa = none := ⟨_, rfl⟩
                      obtain ⟨wc, hwc⟩ : ∃ wc : Nat, wc = 0 := ⟨_, rfl⟩
                      have by0 : (wz.alloc (.cells #[.int .i64 0, .int .i64 0, .slice none 0 0] 31)).heap[wz.heap.size]? = some (.cells #[.int .i64 kv.kind, .int .i64 kv.n, .slice wa kv.l.length wc] 31 (0, 0)) := by rw [hkv, hwa, hwc]; exact heap_alloc_new wz _
                      have sw : SafeF (fun _ => False) (fun w => Is w kv wa) (wz.alloc (.cells #[.int .i64 0, .int .i64 0, .slice none 0 0] 31)) := by rw [hkv]; exact safe_leaf v0 v0_fits rfl wa
                      rw [← hkv] at HT HU2
                      clear hkv hwa hwc HV HW
                      generalize wz.alloc (.cells #[.int .i64 0, .int .i64 0, .slice none 0 0] 31) = wy at *
                      have HY := hid (And.intro qy (And.intro by0 sw))
                      obtain ⟨t0, t1, t2⟩ := box_cells by0
                      have t3 := (E.out.2.1.quiet qy).hand p hp4 (Nat.le_refl _)
                      clear qy by0 sw
                      go_region_law ((first
                        | (go_simp; go_at_call 21; refine (sameVal_any kv kv k8 wa d8 wc w8 is8.now (HY.out.2.2 w8 (((Kp.drew _).trans q6).trans (q7.trans q8))) (HU2.out)).mono ?_; rintro e w9 ⟨rfl, q9⟩; rw [same_refl])
                        | (go_simp; go_at_call 22; refine (HT.out w7 (HY.out.1.trans (((Kp.drew _).trans q6).trans q7))).mono ?_; rintro e w8 ⟨k8, d8, rfl, is8, q8⟩; obtain ⟨y0, y1, y2⟩ := box_cells (((((Kp.drew (F := fun _ => False) wy).trans q6).trans (q7.trans q8)).block _ (lt_of_block HY.out.2.1) fun e => e).trans HY.out.2.1))
                        | (go_simp; go_at_call 23; refine (sameVals_of (handOf h p) (handOf h p) (fun x _ => sameVal_any x) a6 (ha p).1 c6 (ha p).2 w6 fo6.now (safe_quiet (E.out.2.1.fo p hp4) (HY.out.1.trans ((Kp.drew _).trans q6))).now HU1.out).mono ?_; rintro e w7 ⟨rfl, q7⟩; rw [sames_self]; obtain ⟨v0', v1', v2'⟩ := box_cells (((((Kp.drew (F := fun _ => False) wy).trans q6).trans q7).block _ (lt_of_block HY.out.2.1) fun e => e).trans HY.out.2.1))
                        | (go_simp; go_at_call 20; refine (HS.out wy.drew (HY.out.1.trans (Kp.drew _))).mono ?_; rintro e w6 ⟨a6, c6, rfl, fo6, q6⟩; have r3 := (E.out.2.1.quiet (HY.out.1.trans ((Kp.drew _).trans q6))).hand p hp4 (Nat.le_refl _))))
                      all_goals
                        go_wp2_with fail
                        have Q9 : Quiet wz w9 := HY.out.1.trans ((((Kp.drew _).trans q6).trans (q7.trans q8)).trans q9)
                        exact ⟨⟨p + 1, by go_num, by omega, ⟨E.out.1.quiet Q9, E.out.2.1.quiet Q9, (Q9.block _ (lt_of_block E.out.2.2) fun e => e).trans E.out.2.2⟩⟩, by simp [intOf]; omega⟩
                    · have b2 : (cd == 0) = false := by simpa using hcd
                      rw [if_neg fun e => hcd e.2] at HV
                      rw [HV.out] at HT
                      have HU2 := hid (HU.out p hp4).2
                      clear hpx hcd
                      go_wp2_with fail
                      have qy : Quiet wz (wz.alloc (.cells #[.int .i64 (keptOf h p).kind, .int .i64 (keptOf h p).n, .slice (ka p).1 (keptOf h p).l.length (ka p).2] 31)) := Kp.alloc _ _
                      have by0 := heap_alloc_new wz (.cells #[.int .i64 (keptOf h p).kind, .int .i64 (keptOf h p).n, .slice (ka p).1 (keptOf h p).l.length (ka p).2] 31)
                      have sw : SafeF (fun _ => False) (fun w => Is w (keptOf h p) (ka p).1) (wz.alloc (.cells #[.int .i64 (keptOf h p).kind, .int .i64 (keptOf h p).n, .slice (ka p).1 (keptOf h p).l.length (ka p).2] 31)) := safe_quiet HW.out qy
                      generalize wz.alloc (.cells #[.int .i64 (keptOf h p).kind, .int .i64 (keptOf h p).n, .slice (ka p).1 (keptOf h p).l.length (ka p).2] 31) = wy at *
                      obtain ⟨wa, hwa⟩ : ∃ wa, wa = (ka p).1 := ⟨_, rfl⟩
                      obtain ⟨wc, hwc⟩ : ∃ wc, wc = (ka p).2 := ⟨_, rfl⟩
                      rw [← hwa, ← hwc] at by0
                      rw [← hwa] at sw
                      clear hwa hwc HW HV
                      generalize keptOf h p = kv at *
                      have HY := hid (And.intro qy (And.intro by0 sw))
                      obtain ⟨t0, t1, t2⟩ := box_cells by0
                      have t3 := (E.out.2.1.quiet qy).hand p hp4 (Nat.le_refl _)
                      clear qy by0 sw
                      go_region_law ((first
                        | (go_simp; go_at_call 21; refine (sameVal_any kv kv k8 wa d8 wc w8 is8.now (HY.out.2.2 w8 (((Kp.drew _).trans q6).trans (q7.trans q8))) (HU2.out)).mono ?_; rintro e w9 ⟨rfl, q9⟩; rw [same_refl])
                        | (go_simp; go_at_call 22; refine (HT.out w7 (HY.out.1.trans (((Kp.drew _).trans q6).trans q7))).mono ?_; rintro e w8 ⟨k8, d8, rfl, is8, q8⟩; obtain ⟨y0, y1, y2⟩ := box_cells (((((Kp.drew (F := fun _ => False) wy).trans q6).trans (q7.trans q8)).block _ (lt_of_block HY.out.2.1) fun e => e).trans HY.out.2.1))
                        | (go_simp; go_at_call 23; refine (sameVals_of (handOf h p) (handOf h p) (fun x _ => sameVal_any x) a6 (ha p).1 c6 (ha p).2 w6 fo6.now (safe_quiet (E.out.2.1.fo p hp4) (HY.out.1.trans ((Kp.drew _).trans q6))).now HU1.out).mono ?_; rintro e w7 ⟨rfl, q7⟩; rw [sames_self]; obtain ⟨v0', v1', v2'⟩ := box_cells (((((Kp.drew (F := fun _ => False) wy).trans q6).trans q7).block _ (lt_of_block HY.out.2.1) fun e => e).trans HY.out.2.1))
                        | (go_simp; go_at_call 20; refine (HS.out wy.drew (HY.out.1.trans (Kp.drew _))).mono ?_; rintro e w6 ⟨a6, c6, rfl, fo6, q6⟩; have r3 := (E.out.2.1.quiet (HY.out.1.trans ((Kp.drew _).trans q6))).hand p hp4 (Nat.le_refl _))))
                      all_goals
                        go_wp2_with fail
                        have Q9 : Quiet wz w9 := HY.out.1.trans ((((Kp.drew _).trans q6).trans (q7.trans q8)).trans q9)
                        exact ⟨⟨p + 1, by go_num, by omega, ⟨E.out.1.quiet Q9, E.out.2.1.quiet Q9, (Q9.block _ (lt_of_block E.out.2.2) fun e => e).trans E.out.2.2⟩⟩, by simp [intOf]; omega⟩
                  · have b1 : ((p : Int) == x.p) = false := by simpa using hpx
                    rw [if_neg fun e => hpx e.1] at HV
                    rw [HV.out] at HT
                    have HU2 := hid (HU.out p hp4).2
                    clear hpx
                    go_wp2_with fail
                    have qy : Quiet wz (wz.alloc (.cells #[.int .i64 (keptOf h p).kind, .int .i64 (keptOf h p).n, .slice (ka p).1 (keptOf h p).l.length (ka p).2] 31)) := Kp.alloc _ _
                    have by0 := heap_alloc_new wz (.cells #[.int .i64 (keptOf h p).kind, .int .i64 (keptOf h p).n, .slice (ka p).1 (keptOf h p).l.length (ka p).2] 31)
                    have sw : SafeF (fun _ => False) (fun w => Is w (keptOf h p) (ka p).1) (wz.alloc (.cells #[.int .i64 (keptOf h p).kind, .int .i64 (keptOf h p).n, .slice (ka p).1 (keptOf h p).l.length (ka p).2] 31)) := safe_quiet HW.out qy
                    generalize wz.alloc (.cells #[.int .i64 (keptOf h p).kind, .int .i64 (keptOf h p).n, .slice (ka p).1 (keptOf h p).l.length (ka p).2] 31) = wy at *
                    obtain ⟨wa, hwa⟩ : ∃ wa, wa = (ka p).1 := ⟨_, rfl⟩
                    obtain ⟨wc, hwc⟩ : ∃ wc, wc = (ka p).2 := ⟨_, rfl⟩
                    rw [← hwa, ← hwc] at by0
                    rw [← hwa] at sw
                    clear hwa hwc HW HV
                    generalize keptOf h p = kv at *
                    have HY := hid (And.intro qy (And.intro by0 sw))
                    obtain ⟨t0, t1, t2⟩ := box_cells by0
                    have t3 := (E.out.2.1.quiet qy).hand p hp4 (Nat.le_refl _)
                    clear qy by0 sw
                    go_region_law ((first
                      | (go_simp; go_at_call 21; refine (sameVal_any kv kv k8 wa d8 wc w8 is8.now (HY.out.2.2 w8 (((Kp.drew _).trans q6).trans (q7.trans q8))) (HU2.out)).mono ?_; rintro e w9 ⟨rfl, q9⟩; rw [same_refl])
                      | (go_simp; go_at_call 22; refine (HT.out w7 (HY.out.1.trans (((Kp.drew _).trans q6).trans q7))).mono ?_; rintro e w8 ⟨k8, d8, rfl, is8, q8⟩; obtain ⟨y0, y1, y2⟩ := box_cells (((((Kp.drew (F := fun _ => False) wy).trans q6).trans (q7.trans q8)).block _ (lt_of_block HY.out.2.1) fun e => e).trans HY.out.2.1))
                      | (go_simp; go_at_call 23; refine (sameVals_of (handOf h p) (handOf h p) (fun x _ => sameVal_any x) a6 (ha p).1 c6 (ha p).2 w6 fo6.now (safe_quiet (E.out.2.1.fo p hp4) (HY.out.1.trans ((Kp.drew _).trans q6))).now HU1.out).mono ?_; rintro e w7 ⟨rfl, q7⟩; rw [sames_self]; obtain ⟨v0', v1', v2'⟩ := box_cells (((((Kp.drew (F := fun _ => False) wy).trans q6).trans q7).block _ (lt_of_block HY.out.2.1) fun e => e).trans HY.out.2.1))
                      | (go_simp; go_at_call 20; refine (HS.out wy.drew (HY.out.1.trans (Kp.drew _))).mono ?_; rintro e w6 ⟨a6, c6, rfl, fo6, q6⟩; have r3 := (E.out.2.1.quiet (HY.out.1.trans ((Kp.drew _).trans q6))).hand p hp4 (Nat.le_refl _))))
                    all_goals
                      go_wp2_with fail
                      have Q9 : Quiet wz w9 := HY.out.1.trans ((((Kp.drew _).trans q6).trans (q7.trans q8)).trans q9)
                      exact ⟨⟨p + 1, by go_num, by omega, ⟨E.out.1.quiet Q9, E.out.2.1.quiet Q9, (Q9.block _ (lt_of_block E.out.2.2) fun e => e).trans E.out.2.2⟩⟩, by simp [intOf]; omega⟩
                · obtain rfl : p = 4 := by omega
                  go_wp2_with fail
                  go_ret
                  exact ⟨rfl, E.out.1.low⟩
end Go.Proofs.YtgojcohcimmfjaaGreat
