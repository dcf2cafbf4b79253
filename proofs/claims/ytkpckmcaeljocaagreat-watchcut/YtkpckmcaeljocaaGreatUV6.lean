/- Parts. -/
import Derived.Test.YtkpckmcaeljocaaGreatUP1
namespace Go.Proofs.YtkpckmcaeljocaaGreat
open Go.ChangeShapes Go.WideShapes Go.ChangeAt Go.RowKit
def hvC (h : Hs) (ha : Nat → Option Addr × Nat) (p i : Nat) : Value := if i < p then .slice (ha i).1 (handOf h i).length (ha i).2 else .slice none 0 0
def handsC (h : Hs) (ha : Nat → Option Addr × Nat) (p : Nat) : List Value := [hvC h ha p 0, hvC h ha p 1, hvC h ha p 2, hvC h ha p 3]
def kvC (h : Hs) (ka : Nat → Option Addr × Nat) (p i : Nat) : List Value := if i < p then [.int .i64 (keptOf h i).kind, .int .i64 (keptOf h i).n, .slice (ka i).1 (keptOf h i).l.length (ka i).2] else [.int .i64 0, .int .i64 0, .slice none 0 0]
def keptsC (h : Hs) (ka : Nat → Option Addr × Nat) (p : Nat) : List Value := kvC h ka p 0 ++ (kvC h ka p 1 ++ (kvC h ka p 2 ++ kvC h ka p 3))
structure Held (X : Nat → Prop) (M : Hx) (q : Hq) (h : Hs) (hk kk p : Nat) (ha ka : Nat → Option Addr × Nat) (w : World) : Prop where
  hands : w.heap[hk]? = some (.cells (handsC h ha p).toArray 57 (0, 0))
  kepts : w.heap[kk]? = some (.cells (keptsC h ka p).toArray 112 (0, 0))
  fo : ∀ i : Nat, i < p → SafeF (fun k => OwnH M q k ∨ X k) (fun w => Fo w (handOf h i) (ha i).1) w
  is : ∀ i : Nat, i < p → SafeF (fun k => OwnH M q k ∨ X k) (fun w => Is w (keptOf h i) (ka i).1) w
def upd (f : Nat → Option Addr × Nat) (p : Nat) (x : Option Addr × Nat) : Nat → Option Addr × Nat := fun i => if i = p then x else f i
theorem hands_set (h : Hs) (ha : Nat → Option Addr × Nat) (p : Nat) (hp : p < 4) (a : Option Addr) (c : Nat) : (handsC h ha p).set p (.slice a (handOf h p).length c) = handsC h (upd ha p (a, c)) (p + 1) := by
  obtain rfl | rfl | rfl | rfl : p = 0 ∨ p = 1 ∨ p = 2 ∨ p = 3 := by omega
  all_goals simp [handsC, hvC, upd]
theorem kepts_set (h : Hs) (ka : Nat → Option Addr × Nat) (p : Nat) (hp : p < 4) (a : Option Addr) (c : Nat) : (((keptsC h ka p).set (p * 3) (.int .i64 (keptOf h p).kind)).set (p * 3 + 1) (.int .i64 (keptOf h p).n)).set (p * 3 + 2) (.slice a (keptOf h p).l.length c) = keptsC h (upd ka p (a, c)) (p + 1) := by
  obtain rfl | rfl | rfl | rfl : p = 0 ∨ p = 1 ∨ p = 2 ∨ p = 3 := by omega
  all_goals simp [keptsC, kvC, upd]
theorem list_set {w : World} {b : Nat} {L : List Value} {t : TypeId} (h : w.heap[b]? = some (.cells L.toArray t (0, 0))) (k : Nat) (x : Value) : (w.setCell ⟨b, k, none⟩ x).heap[b]? = some (.cells (L.set k x).toArray t (0, 0)) := by
  simp [World.setCell, Array.getElem?_modify, h]
theorem list_cell {w : World} {b : Nat} {L : List Value} {t : TypeId} (h : w.heap[b]? = some (.cells L.toArray t (0, 0))) (k : Nat) : w.cell? ⟨b, k, none⟩ = L[k]? := by simp [World.cell?, h]
section
variable {M : Hx} {q q' : Hq} {h h' : Hs} {hk kk p : Nat} {ha ka : Nat → Option Addr × Nat} {w w' w6 : World} {X : Nat → Prop}
theorem Held.start (w : World) (hk kk : Nat) (ha ka : Nat → Option Addr × Nat) (h1 : w.heap[hk]? = some (.cells #[.slice none 0 0, .slice none 0 0, .slice none 0 0, .slice none 0 0] 57 (0, 0))) (h2 : w.heap[kk]? = some (.cells #[.int .i64 0, .int .i64 0, .slice none 0 0, .int .i64 0, .int .i64 0, .slice none 0 0, .int .i64 0, .int .i64 0, .slice none 0 0, .int .i64 0, .int .i64 0, .slice none 0 0] 112 (0, 0))) : Held X M q h hk kk 0 ha ka w :=
  ⟨h1, h2, fun i hi => by omega, fun i hi => by omega⟩
theorem Held.quiet (H : Held X M q h hk kk p ha ka w) (k : Quiet w w') : Held X M q h hk kk p ha ka w' :=
  ⟨(k.block _ (lt_of_block H.hands) fun e => e).trans H.hands, (k.block _ (lt_of_block H.kepts) fun e => e).trans H.kepts, fun i hi => safe_quiet (H.fo i hi) k, fun i hi => safe_quiet (H.is i hi) k⟩
theorem Held.goes (H : Held X M q h hk kk p ha ka w) (S : HouseS X M q h' w) (g : GoesH M q w q' w') : Held X M q' h hk kk p ha ka w' :=
  ⟨(g.block H.hands (S.free H.hands (by decide) (by decide) (by decide) (by decide) (by decide) (by decide) (by decide) (by decide))).1, (g.block H.kepts (S.free H.kepts (by decide) (by decide) (by decide) (by decide) (by decide) (by decide) (by decide) (by decide))).1, fun i hi => g.safe (H.fo i hi), fun i hi => g.safe (H.is i hi)⟩
theorem Held.ne (H : Held X M q h hk kk p ha ka w) : hk ≠ kk := fun e => by
  have h1 := H.hands
  rw [e, H.kepts] at h1
  simp at h1
def putH (w : World) (hk kk p : Nat) (h : Hs) (a b : Option Addr) (c d : Nat) : World := (((w.setCell ⟨hk, p, none⟩ (.slice a (handOf h p).length c)).setCell ⟨kk, p * 3, none⟩ (.int .i64 (keptOf h p).kind)).setCell ⟨kk, p * 3 + 1, none⟩ (.int .i64 (keptOf h p).n)).setCell ⟨kk, p * 3 + 2, none⟩ (.slice b (keptOf h p).l.length d)
theorem putH_kp (w : World) (hk kk p : Nat) (h : Hs) (a b : Option Addr) (c d : Nat) : Kp (fun k => k = hk ∨ k = kk) w (putH w hk kk p h a b c d) :=
  ((((kp_set w hk p _).mono fun _ _ e => .inl e).trans ((kp_set _ kk _ _).mono fun _ _ e => .inr e)).trans ((kp_set _ kk _ _).mono fun _ _ e => .inr e)).trans ((kp_set _ kk _ _).mono fun _ _ e => .inr e)
theorem Held.hand (H : Held X M q h hk kk p ha ka w) (i : Nat) (hi : i < p) (hp : p ≤ 4) : w.cell? ⟨hk, i, none⟩ = some (.slice (ha i).1 (handOf h i).length (ha i).2) := by
  rw [list_cell H.hands]
  obtain rfl | rfl | rfl | rfl : i = 0 ∨ i = 1 ∨ i = 2 ∨ i = 3 := by omega
  all_goals simp [handsC, hvC, hi]
theorem Held.hcell (H : Held X M q h hk kk p ha ka w) (i : Nat) (hi : i < 4) : ∃ v, w.cell? ⟨hk, i, none⟩ = some v := by
  rw [list_cell H.hands]
  obtain rfl | rfl | rfl | rfl : i = 0 ∨ i = 1 ∨ i = 2 ∨ i = 3 := by omega
  all_goals exact ⟨_, rfl⟩
end
structure ScAt (w : World) (xs : List Sx) (sa ea : Option Addr) (tr : List (Sp × Int)) : Prop where
  st : StepsAt w xs sa
  le : tr.length ≤ xs.length
  same : ∀ i (h : i < tr.length) (h2 : i < xs.length), ∃ c, tr[i].1 = (xs[i]).sp c
  ev : ∀ i (h : i < tr.length), ∃ g, ea = some ⟨g, 0, none⟩ ∧ w.cell? ⟨g, i * 5, none⟩ = some (.int .i64 tr[i].2)
theorem ScAt.quiet {w w' : World} {xs : List Sx} {sa ea : Option Addr} {tr : List (Sp × Int)} (h : ScAt w xs sa ea tr) (k : Quiet w w') : ScAt w' xs sa ea tr :=
  ⟨h.st.quiet k, h.le, h.same, fun i hi => by
    obtain ⟨g, e, c⟩ := h.ev i hi
    exact ⟨g, e, k.cell c fun e => e⟩⟩
theorem ScAt.get {w : World} {xs : List Sx} {sa ea : Option Addr} {tr : List (Sp × Int)} (h : ScAt w xs sa ea tr) (i : Nat) (hi : i < tr.length) : ∃ (x : Sx) (b off g : Nat), sa = some ⟨b, off, none⟩ ∧ ea = some ⟨g, 0, none⟩ ∧ w.cell? ⟨g, i * 5, none⟩ = some (.int .i64 tr[i].2) ∧ (w.cell? ⟨b, off + i * 9, none⟩ = some (.int .i64 x.kind) ∧ w.cell? ⟨b, off + i * 9 + 1, none⟩ = some (.int .i64 x.p) ∧ w.cell? ⟨b, off + i * 9 + 2, none⟩ = some (.int .i64 x.q) ∧ w.cell? ⟨b, off + i * 9 + 3, none⟩ = some (.int .i64 x.k) ∧ w.cell? ⟨b, off + i * 9 + 4, none⟩ = some (.int .i64 x.h) ∧ w.cell? ⟨b, off + i * 9 + 5, none⟩ = some (.int .i64 x.r) ∧ w.cell? ⟨b, off + i * 9 + 6, none⟩ = some (.int .i64 x.g) ∧ w.cell? ⟨b, off + i * 9 + 7, none⟩ = some (.int .i64 x.n) ∧ w.cell? ⟨b, off + i * 9 + 8, none⟩ = some (.slice x.fa x.fs.length x.fc)) ∧ tr[i].1.kind = x.kind ∧ tr[i].1.p = x.p ∧ tr[i].1.q = x.q ∧ tr[i].1.k = x.k ∧ tr[i].1.r = x.r := by
  obtain ⟨b, off, e, c0, c1, c2, c3, c4, c5, c6, c7, c8, _⟩ := h.st.get i (Nat.lt_of_lt_of_le hi h.le)
  obtain ⟨g, e2, ce⟩ := h.ev i hi
  obtain ⟨c, ec⟩ := h.same i hi (Nat.lt_of_lt_of_le hi h.le)
  refine ⟨_, b, off, g, e, e2, ce, ⟨c0, c1, c2, c3, c4, c5, c6, c7, c8⟩, ?_⟩
  rw [ec]
  exact ⟨rfl, rfl, rfl, rfl, rfl⟩
theorem nine9 {w : World} {g : Nat} {a b c d e f k l m : Value} {t : TypeId} (h : w.heap[g]? = some (.cells #[a, b, c, d, e, f, k, l, m] t (0, 0))) : w.cell? ⟨g, 0, none⟩ = some a ∧ w.cell? ⟨g, 1, none⟩ = some b ∧ w.cell? ⟨g, 2, none⟩ = some c ∧ w.cell? ⟨g, 3, none⟩ = some d ∧ w.cell? ⟨g, 4, none⟩ = some e ∧ w.cell? ⟨g, 5, none⟩ = some f ∧ w.cell? ⟨g, 6, none⟩ = some k ∧ w.cell? ⟨g, 7, none⟩ = some l ∧ w.cell? ⟨g, 8, none⟩ = some m := by
  refine ⟨?_, ?_, ?_, ?_, ?_, ?_, ?_, ?_, ?_⟩ <;> simp [World.cell?, h]
def bools (S : List Bool) : List Value := S.map Value.bool
structure LkS (w : World) (S : List Bool) (wr : World) : Prop where
  q : Quiet w wr
  r : wr.heap[w.heap.size]? = some (.cells #[.bool false, .bool false, .bool false, .bool false] 91 (0, 0))
  o : wr.heap[w.heap.size + 1]? = some (.cells (bools S).toArray 91 (0, 0))
  len : S.length = 4
theorem LkS.quiet {w wr wn : World} {S : List Bool} (H : LkS w S wr) (k : Quiet wr wn) : LkS w S wn := ⟨H.q.trans k, (k.block _ (lt_of_block H.r) fun e => e).trans H.r, (k.block _ (lt_of_block H.o) fun e => e).trans H.o, H.len⟩
theorem bools_at (S : List Bool) (k : Nat) (hk : k < S.length) : (bools S)[k]? = some (.bool (S.getD k false)) := by
  simp [bools, hk]
theorem LkS.cell {w wr : World} {S : List Bool} (H : LkS w S wr) (k : Nat) (hk : k < 4) : wr.cell? ⟨w.heap.size + 1, k, none⟩ = some (.bool (S.getD k false)) := by
  rw [list_cell H.o, bools_at S k (by rw [H.len]; exact hk)]
theorem LkS.set {w wr : World} {S : List Bool} (H : LkS w S wr) (k : Nat) : LkS w (S.set k true) (wr.setCell ⟨w.heap.size + 1, k, none⟩ (.bool true)) := by
  have k1 := kp_set wr (w.heap.size + 1) k (.bool true)
  refine ⟨H.q.fresh (k1.mono fun i _ e => by omega), (k1.block _ (lt_of_block H.r) (by omega)).trans H.r, ?_, by simp [H.len]⟩
  have h1 := list_set H.o k (.bool true)
  rw [h1]
  simp [bools]
theorem set_swap (S : List Bool) (a b : Nat) : (S.set a true).set b true = (S.set b true).set a true := by
  by_cases e : a = b
  · rw [e]
  · exact List.set_comm _ _ e
theorem take_fold (tr : List (Sp × Int)) (S : List Bool) (j : Nat) (h : j < tr.length) : (tr.take (j + 1)).foldl lkStep S = lkStep ((tr.take j).foldl lkStep S) tr[j] := by
  rw [take_snoc tr j h, List.foldl_append]; rfl
set_option maxRecDepth 8000 in
set_option maxHeartbeats 8000000 in
theorem linked_any (xs : List Sx) (sa ea : Option Addr) (sc ec : Nat) (tr : List (Sp × Int)) (p : Int) (w : World) (hs : ScAt w xs sa ea tr) (ht : TrOk tr) (hp : plugB p = true) (hl : tr.length ≤ 100000) :
    Calls Tryz.prog 30 #[.slice sa tr.length sc, .slice ea tr.length ec, .int .i64 p] w fun e w' => e = .returned (.agg (bools (lkAll tr p)).toArray) ∧ Quiet w w' := by
  have hpp : 0 ≤ p ∧ p < 4 := by simpa [plugB] using hp
  obtain ⟨a, rfl⟩ : ∃ a : Nat, p = a := ⟨p.toNat, by omega⟩
  have ha4 : (a : Int) < 4 := hpp.2
  have H0 : LkS w [false, false, false, false] ((w.alloc (.cells #[.bool false, .bool false, .bool false, .bool false] 91)).alloc (.cells #[.bool false, .bool false, .bool false, .bool false] 91)) := ⟨(Kp.alloc _ _).trans (Kp.alloc _ _), by rw [Below.heap_alloc _ _ _ (by simp)]; exact heap_alloc_new w _, heap_two w _ _, rfl⟩
  have c0 := H0.cell a (by omega)
  have f0 := frozen_of_row _ (w.heap.size + 1) a _ _ H0.o
  have HS := hid hs
  have HT := hid ht
  have H1 := hid (show LkS w (lkFrom (a : Int)) ((w.alloc (.cells #[.bool false, .bool false, .bool false, .bool false] 91)).alloc (.cells ([Value.bool false, .bool false, .bool false, .bool false].set a (.bool true)).toArray 91)) from ⟨(Kp.alloc _ _).trans (Kp.alloc _ _), by rw [Below.heap_alloc _ _ _ (by simp)]; exact heap_alloc_new w _, by rw [heap_two]; simp [lkFrom, bools], by simp [lkFrom]⟩)
  clear hs ht H0 hp hpp
  go_enter Tryz.func30, Tryz.ntmps30
  go_wp2
  go_loopw [8] (fun i wr => ∃ m : Nat, m ≤ 4 ∧ i = .int .i64 m ∧ Hid (LkS w (lkMany tr m (lkFrom (a : Int))) wr)) (fun i _ => 4 - (intOf i).toNat)
  case atStart => exact ⟨0, by decide, rfl, H1⟩
  case round =>
    clear c0 f0 H1
    rename World => wq
    obtain ⟨m, hm, rfl, D⟩ := hrel
    by_cases hm4 : m < 4
    · have hm4' : (m : Int) < 4 := by omega
      have HM := hid (show lkMany tr (m + 1) (lkFrom (a : Int)) = lkPass tr (lkMany tr m (lkFrom (a : Int))) from rfl)
      generalize lkMany tr m (lkFrom (a : Int)) = S at *
      go_wp2
      go_loopw [9] (fun i wr => ∃ j : Nat, j ≤ tr.length ∧ i = .int .i64 j ∧ Hid (LkS w ((tr.take j).foldl lkStep S) wr)) (fun i _ => tr.length - (intOf i).toNat)
      case atStart => exact ⟨0, Nat.zero_le _, rfl, hid D.out⟩
      case round =>
        clear D
        rename World => wi
        obtain ⟨j, hj, rfl, D⟩ := hrel
        by_cases hlt : j < tr.length
        · have hlt' : (j : Int) < (tr.length : Int) := by omega
          obtain ⟨x, b, off, g, rfl, rfl, ce, ⟨c0, c1, c2, c3, c4, c5, c6, c7, c8⟩, e1, e2, e3, _, _⟩ := (HS.out.quiet D.out.q).get j hlt
          have HF := hid (take_fold tr S j hlt)
          have HO := hid (HT.out tr[j] (List.getElem_mem hlt))
          generalize (tr.take j).foldl lkStep S = S1 at *
          generalize tr[j] = y at *
          obtain ⟨⟨yk, yp, yq, yk2, yh, yr, yg, yn, yc, yf⟩, cd⟩ := y
          simp only at e1 e2 e3 ce HO HF
          obtain ⟨xk, xp, xq, xkk, xh, xr, xg, xn, xf, xa, xc⟩ := x
          simp only at *
          subst e1 e2 e3
          have k1 : Quiet wi (wi.alloc (.cells #[.int .i64 yk, .int .i64 yp, .int .i64 yq, .int .i64 xkk, .int .i64 xh, .int .i64 xr, .int .i64 xg, .int .i64 xn, .slice xa xf.length xc] 47)) := Kp.alloc _ _
          have ce2 := k1.cell ce fun e => e
          have D2 := hid (D.out.quiet k1)
          by_cases hk : yk = 3
          · subst hk
            by_cases hc : cd = 0
            · subst hc
              obtain ⟨hP, hQ⟩ := HO.out (.inr rfl) rfl
              have hpp2 : 0 ≤ yp ∧ yp < 4 := by simpa [plugB] using hP
              have hqq2 : 0 ≤ yq ∧ yq < 4 := by simpa [plugB] using hQ rfl
              obtain ⟨P1, rfl⟩ : ∃ P1 : Nat, yp = P1 := ⟨yp.toNat, by omega⟩
              obtain ⟨Q1, rfl⟩ : ∃ Q1 : Nat, yq = Q1 := ⟨yq.toNat, by omega⟩
              have hP4 : (P1 : Int) < 4 := hpp2.2
              have hQ4 : (Q1 : Int) < 4 := hqq2.2
              have g1 := D2.out.cell P1 (by omega)
              have g2 := D2.out.cell Q1 (by omega)
              have fz1 := frozen_of_row _ (w.heap.size + 1) P1 _ _ D2.out.o
              have fz2 := frozen_of_row _ (w.heap.size + 1) Q1 _ _ D2.out.o
              have g3 := (D2.out.set P1).cell Q1 (by omega)
              have g4 := (D2.out.set Q1).cell P1 (by omega)
              have fz3 := frozen_of_row _ (w.heap.size + 1) Q1 _ _ (D2.out.set P1).o
              have fz4 := frozen_of_row _ (w.heap.size + 1) P1 _ _ (D2.out.set Q1).o
              have D3 := hid (And.intro ((D2.out.set P1).set Q1) ((D2.out.set Q1).set P1))
              have hz := lt_of_block D2.out.o
              have hne : wi.heap.size ≠ w.heap.size + 1 := by have := lt_of_block D.out.o; omega
              have nb := heap_alloc_new wi (.cells #[.int .i64 3, .int .i64 P1, .int .i64 Q1, .int .i64 xkk, .int .i64 xh, .int .i64 xr, .int .i64 xg, .int .i64 xn, .slice xa xf.length xc] 47)
              have m1 := (kp_set (wi.alloc (.cells #[.int .i64 3, .int .i64 P1, .int .i64 Q1, .int .i64 xkk, .int .i64 xh, .int .i64 xr, .int .i64 xg, .int .i64 xn, .slice xa xf.length xc] 47)) (w.heap.size + 1) Q1 (.bool true)).cell (nine9 nb).2.1 hne
              have m2 := (kp_set (wi.alloc (.cells #[.int .i64 3, .int .i64 P1, .int .i64 Q1, .int .i64 xkk, .int .i64 xh, .int .i64 xr, .int .i64 xg, .int .i64 xn, .slice xa xf.length xc] 47)) (w.heap.size + 1) P1 (.bool true)).cell (nine9 nb).2.2.1 hne
              clear nb hne
              have HL := hid (show lkStep S1 (⟨3, (P1 : Int), (Q1 : Int), yk2, yh, yr, yg, yn, yc, yf⟩, 0) = if (S1.getD P1 false || S1.getD Q1 false) = true then (S1.set P1 true).set Q1 true else S1 from by unfold lkStep onB; simp only [Int.toNat_natCast, true_and])
              clear hpp2 hqq2 hP hQ
              cases hs1 : S1.getD P1 false with
              | true =>
                rw [hs1] at g1 HL
                clear hs1
                go_wp2
                go_region
                all_goals
                  go_wp2
                  refine ⟨⟨j + 1, by omega, by go_num, hid ?_⟩, by simp [intOf]; omega⟩
                  rw [HF.out, HL.out]
                  first
                    | exact D3.out.1.quiet (Kp.drew _)
                    | (rw [if_pos (by simp), set_swap]; exact D3.out.2.quiet (Kp.drew _))
                    | (rw [if_pos (by simp)]; exact D3.out.1.quiet (Kp.drew _))
                    | (rw [if_pos (by simp), set_swap]; exact D3.out.2)
                    | (rw [if_pos (by simp)]; exact D3.out.1)
              | false =>
                rw [hs1] at g1 HL
                cases hs2 : S1.getD Q1 false with
                | true =>
                  rw [hs2] at g2 HL
                  clear hs1 hs2
                  go_wp2
                  go_region
                  all_goals
                    go_wp2
                    refine ⟨⟨j + 1, by omega, by go_num, hid ?_⟩, by simp [intOf]; omega⟩
                    rw [HF.out, HL.out]
                    first
                      | exact D3.out.1.quiet (Kp.drew _)
                      | (rw [if_pos (by simp), set_swap]; exact D3.out.2.quiet (Kp.drew _))
                      | (rw [if_pos (by simp)]; exact D3.out.1.quiet (Kp.drew _))
                      | (rw [if_pos (by simp), set_swap]; exact D3.out.2)
                      | (rw [if_pos (by simp)]; exact D3.out.1)
                | false =>
                  rw [hs2] at g2 HL
                  clear g3 g4 fz3 fz4 D3 hs1 hs2 m1 m2
                  go_wp2
                  refine ⟨⟨j + 1, by omega, by go_num, hid ?_⟩, by simp [intOf]; omega⟩
                  rw [HF.out, HL.out]
                  exact D2.out
            · have hb : (cd == 0) = false := by simpa using hc
              go_wp2
              refine ⟨⟨j + 1, by omega, by go_num, hid ?_⟩, by simp [intOf]; omega⟩
              rw [HF.out]
              unfold lkStep
              rw [if_neg (by simp [hc])]
              exact D2.out
          · have hb : (yk == 3) = false := by simpa using hk
            go_wp2
            refine ⟨⟨j + 1, by omega, by go_num, hid ?_⟩, by simp [intOf]; omega⟩
            rw [HF.out]
            unfold lkStep
            rw [if_neg (by simp [hk])]
            exact D2.out
        · obtain rfl : j = tr.length := by omega
          have hnl : ¬ ((tr.length : Int) < (tr.length : Int)) := by omega
          go_wp2
          refine ⟨⟨m + 1, by omega, by go_num, hid ?_⟩, by simp [intOf]; omega⟩
          rw [HM.out]
          have h1 := D.out
          rw [List.take_length] at h1
          exact h1
    · obtain rfl : m = 4 := by omega
      have HR := hid (And.intro D.out.r (And.intro D.out.o D.out.q))
      have hlen := D.out.len
      obtain ⟨s0, s1, s2, s3, es⟩ : ∃ s0 s1 s2 s3, lkMany tr 4 (lkFrom (a : Int)) = [s0, s1, s2, s3] := by
        match lkMany tr 4 (lkFrom (a : Int)), hlen with
        | [s0, s1, s2, s3], _ => exact ⟨s0, s1, s2, s3, rfl⟩
      have HEQ := hid (show lkAll tr (a : Int) = [s0, s1, s2, s3] from es)
      rw [es] at HR
      clear D hlen es
      obtain ⟨v0', v1', v2', v3'⟩ : wq.cell? ⟨w.heap.size + 1, 0, none⟩ = some (.bool s0) ∧ wq.cell? ⟨w.heap.size + 1, 1, none⟩ = some (.bool s1) ∧ wq.cell? ⟨w.heap.size + 1, 2, none⟩ = some (.bool s2) ∧ wq.cell? ⟨w.heap.size + 1, 3, none⟩ = some (.bool s3) := by
        have h1 := HR.out.2.1
        refine ⟨?_, ?_, ?_, ?_⟩ <;> simp [World.cell?, h1, bools]
      obtain ⟨r0, r1, r2, r3⟩ : wq.cell? ⟨w.heap.size, 0, none⟩ = some (.bool false) ∧ wq.cell? ⟨w.heap.size, 1, none⟩ = some (.bool false) ∧ wq.cell? ⟨w.heap.size, 2, none⟩ = some (.bool false) ∧ wq.cell? ⟨w.heap.size, 3, none⟩ = some (.bool false) := by
        have h1 := HR.out.1
        refine ⟨?_, ?_, ?_, ?_⟩ <;> simp [World.cell?, h1]
      have f0 := frozen_of_row _ w.heap.size 0 _ _ HR.out.1
      have f1 := frozen_of_row _ w.heap.size 1 _ _ HR.out.1
      have f2 := frozen_of_row _ w.heap.size 2 _ _ HR.out.1
      have f3 := frozen_of_row _ w.heap.size 3 _ _ HR.out.1
      have hz := lt_of_block HR.out.1
      go_wp2
      have b5 : ((((wq.setCell ⟨w.heap.size, 0, none⟩ (.bool s0)).setCell ⟨w.heap.size, 1, none⟩ (.bool s1)).setCell ⟨w.heap.size, 2, none⟩ (.bool s2)).setCell ⟨w.heap.size, 3, none⟩ (.bool s3)).heap[w.heap.size]? = some (.cells #[.bool s0, .bool s1, .bool s2, .bool s3] 91 (0, 0)) := by
        have h1 := HR.out.1
        simp [World.setCell, Array.getElem?_modify, h1]
      have k5 : Kp (fun k => k = w.heap.size) wq ((((wq.setCell ⟨w.heap.size, 0, none⟩ (.bool s0)).setCell ⟨w.heap.size, 1, none⟩ (.bool s1)).setCell ⟨w.heap.size, 2, none⟩ (.bool s2)).setCell ⟨w.heap.size, 3, none⟩ (.bool s3)) := (((kp_set _ _ _ _).trans (kp_set _ _ _ _)).trans (kp_set _ _ _ _)).trans (kp_set _ _ _ _)
      generalize (((wq.setCell ⟨w.heap.size, 0, none⟩ (.bool s0)).setCell ⟨w.heap.size, 1, none⟩ (.bool s1)).setCell ⟨w.heap.size, 2, none⟩ (.bool s2)).setCell ⟨w.heap.size, 3, none⟩ (.bool s3) = W5 at *
      obtain ⟨u0, u1, u2, u3⟩ : W5.cell? ⟨w.heap.size, 0, none⟩ = some (.bool s0) ∧ W5.cell? ⟨w.heap.size, 1, none⟩ = some (.bool s1) ∧ W5.cell? ⟨w.heap.size, 2, none⟩ = some (.bool s2) ∧ W5.cell? ⟨w.heap.size, 3, none⟩ = some (.bool s3) := by
        refine ⟨?_, ?_, ?_, ?_⟩ <;> simp [World.cell?, b5]
      refine bodyPost_ret (v := .agg #[.bool s0, .bool s1, .bool s2, .bool s3]) (by simp [results, Tryz.results30, go_sem, u0, u1, u2, u3]) rfl ?_
      rw [HEQ.out]
      exact ⟨rfl, HR.out.2.2.fresh (k5.mono fun i _ e => by omega)⟩
def rbit (bit : Nat) : Int := if bit = 0 then 1 else 2
theorem rbitY_and (a bit : Nat) (ha : a ≤ 15) (hb : bit ≤ 1) : (bits .and .i64 (a : Int) (rbit bit) == rbit bit) = a.testBit bit := by
  have h : ∀ r : Fin 16, ∀ m : Fin 2, (bits .and .i64 (r.val : Int) (rbit m.val) == rbit m.val) = r.val.testBit m.val := by decide +kernel
  exact h ⟨a, by omega⟩ ⟨bit, by omega⟩
def gaveB (S : List Bool) (p cell : Int) (bit : Nat) (y : Sp × Int) : Bool := decide (y.1.kind = 2) && decide (y.2 = 0) && decide (y.1.k = cell) && y.1.r.toNat.testBit bit && (onB S y.1.p || decide (y.1.p = p))
theorem any_some {tr : List (Sp × Int)} {f : Sp × Int → Bool} (h : tr.any f = true) (hn : ∀ i (hi : i < tr.length), f tr[i] = false) : False := by
  obtain ⟨y, hy, hf⟩ := List.any_eq_true.1 h
  obtain ⟨i, hi, rfl⟩ := List.getElem_of_mem hy
  rw [hn i hi] at hf; cases hf
structure InS (w : World) (kb : Nat) (S : List Bool) (wr : World) : Prop where
  q : Quiet w wr
  o : wr.heap[kb]? = some (.cells (bools S).toArray 91 (0, 0))
  len : S.length = 4
theorem InS.quiet {w wr wn : World} {S : List Bool} {kb : Nat} (H : InS w kb S wr) (k : Quiet wr wn) : InS w kb S wn := ⟨H.q.trans k, (k.block _ (lt_of_block H.o) fun e => e).trans H.o, H.len⟩
theorem InS.cell {w wr : World} {S : List Bool} {kb : Nat} (H : InS w kb S wr) (k : Nat) (hk : k < 4) : wr.cell? ⟨kb, k, none⟩ = some (.bool (S.getD k false)) := by
  rw [list_cell H.o, bools_at S k (by rw [H.len]; exact hk)]
set_option maxRecDepth 8000 in
set_option maxHeartbeats 8000000 in
theorem maydo_any (xs : List Sx) (sa ea : Option Addr) (sc ec : Nat) (tr : List (Sp × Int)) (p cell : Int) (bit : Nat) (w : World) (hs : ScAt w xs sa ea tr) (ht : TrOk tr) (hr : ∀ y ∈ tr, y.1.kind = 2 → y.2 = 0 → 0 ≤ y.1.r ∧ y.1.r ≤ 15) (hp : plugB p = true) (hl : tr.length ≤ 100000) (hbit : bit ≤ 1) (hm : mayB tr p cell bit = true) :
    Calls Tryz.prog 16 #[.slice sa tr.length sc, .slice ea tr.length ec, .int .i64 p, .int .i64 cell, .int .i64 (rbit bit)] w fun e w' => e = .returned (.bool true) ∧ Quiet w w' := by
  have HS := hid hs
  have HT := hid ht
  have HR := hid hr
  have HM := hid (show tr.any (gaveB (lkAll tr p) p cell bit) = true from hm)
  have HL := hid (linked_any xs sa ea sc ec tr p w hs ht hp hl)
  have HB := hid (fun (a : Nat) (h : a ≤ 15) => rbitY_and a bit h hbit)
  have hlen := all_len tr p
  obtain ⟨s0, s1, s2, s3, es⟩ : ∃ s0 s1 s2 s3, lkAll tr p = [s0, s1, s2, s3] := by
    match lkAll tr p, hlen with
    | [s0, s1, s2, s3], _ => exact ⟨s0, s1, s2, s3, rfl⟩
  rw [es] at HL HM
  simp only [bools, List.map_cons, List.map_nil] at HL
  clear hs ht hr hp hm hlen es hbit
  generalize rbit bit = rt at *
  go_enter Tryz.func16, Tryz.ntmps16
  go_wp2_with (go_at_call 30; refine HL.out.mono ?_; rintro e w1 ⟨rfl, q1⟩; have H1 := hid (show InS w w1.heap.size [s0, s1, s2, s3] (w1.alloc (.cells #[.bool s0, .bool s1, .bool s2, .bool s3] 91)) from ⟨q1.trans (Kp.alloc _ _), heap_alloc_new w1 _, rfl⟩); clear q1)
  generalize hkb : w1.heap.size = kb at *
  generalize [s0, s1, s2, s3] = S at *
  go_loopw [12] (fun i wr => ∃ j : Nat, j ≤ tr.length ∧ i = .int .i64 j ∧ Hid (InS w kb S wr ∧ ∀ t (ht : t < tr.length), t < j → gaveB S p cell bit tr[t] = false)) (fun i _ => tr.length - (intOf i).toNat)
  case atStart => exact ⟨0, Nat.zero_le _, rfl, hid ⟨H1.out, fun t _ ht => by omega⟩⟩
  case round =>
    clear H1
    rename World => wi
    obtain ⟨j, hj, rfl, D⟩ := hrel
    by_cases hlt : j < tr.length
    · have hlt' : (j : Int) < (tr.length : Int) := by omega
      obtain ⟨x, b, off, g, rfl, rfl, ce, ⟨c0, c1, c2, c3, c4, c5, c6, c7, c8⟩, e1, e2, _, e4, e5⟩ := (HS.out.quiet D.out.1.q).get j hlt
      have HO := hid (HT.out tr[j] (List.getElem_mem hlt))
      have HY := hid (HR.out tr[j] (List.getElem_mem hlt))
      have HN := hid (show gaveB S p cell bit tr[j] = false → ∀ t (ht : t < tr.length), t < j + 1 → gaveB S p cell bit tr[t] = false from fun h t ht htj => by
        by_cases e : t = j
        · subst e; exact h
        · exact D.out.2 t ht (by omega))
      generalize tr[j] = y at *
      obtain ⟨⟨yk, yp, yq, yk2, yh, yr, yg, yn, yc, yf⟩, cd⟩ := y
      simp only at e1 e2 e4 e5 ce HO HY
      obtain ⟨xk, xp, xq, xkk, xh, xr, xg, xn, xf, xa, xc⟩ := x
      simp only at *
      subst e1 e2 e4 e5
      have k1 : Quiet wi (wi.alloc (.cells #[.int .i64 yk, .int .i64 yp, .int .i64 xq, .int .i64 yk2, .int .i64 xh, .int .i64 yr, .int .i64 xg, .int .i64 xn, .slice xa xf.length xc] 47)) := Kp.alloc _ _
      have ce2 := k1.cell ce fun e => e
      have D2 := hid (D.out.1.quiet k1)
      by_cases hk : yk = 2
      · subst hk
        by_cases hc : cd = 0
        · subst hc
          obtain ⟨hP, _⟩ := HO.out (.inl rfl) rfl
          obtain ⟨r0, r15⟩ := HY.out rfl rfl
          obtain ⟨rn, rfl⟩ : ∃ rn : Nat, yr = rn := ⟨yr.toNat, by omega⟩
          have hpp2 : 0 ≤ yp ∧ yp < 4 := by simpa [plugB] using hP
          obtain ⟨P1, rfl⟩ : ∃ P1 : Nat, yp = P1 := ⟨yp.toNat, by omega⟩
          have hP4 : (P1 : Int) < 4 := hpp2.2
          have g1 := D2.out.cell P1 (by omega)
          have hrb := HB.out rn (by omega)
          clear hpp2 hP r0 r15
          by_cases hcell : yk2 = cell
          · subst hcell
            cases ht : rn.testBit bit with
            | false =>
              rw [ht] at hrb
              have HG := hid (show gaveB S p yk2 bit (⟨2, (P1 : Int), yq, yk2, yh, (rn : Int), yg, yn, yc, yf⟩, 0) = false from by simp [gaveB, ht])
              clear ht
              go_wp2
              refine ⟨⟨j + 1, by omega, by go_num, hid ⟨D2.out, HN.out HG.out⟩⟩, by simp [intOf]; omega⟩
            | true =>
              rw [ht] at hrb
              cases hs1 : S.getD P1 false with
              | true =>
                rw [hs1] at g1
                clear hs1 ht
                go_wp2
                go_ret
                exact ⟨rfl, D2.out.q⟩
              | false =>
                rw [hs1] at g1
                by_cases hpe : (P1 : Int) = p
                · have hpb : ((P1 : Int) == p) = true := by simpa using hpe
                  clear hs1 ht hpe
                  go_wp2
                  go_ret
                  exact ⟨rfl, D2.out.q⟩
                · have hpb : ((P1 : Int) == p) = false := by simpa using hpe
                  have HG := hid (show gaveB S p yk2 bit (⟨2, (P1 : Int), yq, yk2, yh, (rn : Int), yg, yn, yc, yf⟩, 0) = false from by simp only [gaveB, onB, Int.toNat_natCast, hs1, hpe]; simp)
                  clear hs1 ht
                  go_wp2
                  refine ⟨⟨j + 1, by omega, by go_num, hid ⟨D2.out, HN.out HG.out⟩⟩, by simp [intOf]; omega⟩
          · have hb : (yk2 == cell) = false := by simpa using hcell
            have HG := hid (show gaveB S p cell bit (⟨2, (P1 : Int), yq, yk2, yh, (rn : Int), yg, yn, yc, yf⟩, 0) = false from by simp [gaveB, hcell])
            go_wp2
            refine ⟨⟨j + 1, by omega, by go_num, hid ⟨D2.out, HN.out HG.out⟩⟩, by simp [intOf]; omega⟩
        · have hb : (cd == 0) = false := by simpa using hc
          have HG := hid (show gaveB S p cell bit (⟨2, yp, yq, yk2, yh, yr, yg, yn, yc, yf⟩, cd) = false from by simp [gaveB, hc])
          go_wp2
          refine ⟨⟨j + 1, by omega, by go_num, hid ⟨D2.out, HN.out HG.out⟩⟩, by simp [intOf]; omega⟩
      · have hb : (yk == 2) = false := by simpa using hk
        have HG := hid (show gaveB S p cell bit (⟨yk, yp, yq, yk2, yh, yr, yg, yn, yc, yf⟩, cd) = false from by simp [gaveB, hk])
        go_wp2
        refine ⟨⟨j + 1, by omega, by go_num, hid ⟨D2.out, HN.out HG.out⟩⟩, by simp [intOf]; omega⟩
    · exact (any_some HM.out fun i hi => D.out.2 i hi (by omega)).elim
def hw1 : Hs := (stepH h00 ⟨2, 1, 0, 3, 0, 1, -1, 0, 0, []⟩).2
theorem yev (c : Int) : stepH h00 ⟨2, 1, 0, 3, 0, 1, -1, 0, c, []⟩ = (⟨0, 0, capV 0⟩, hw1) := by kernel_rfl
theorem ymay1 (c : Int) : mayB [(⟨2, 1, 0, 3, 0, 1, -1, 0, c, []⟩, 0)] 1 3 0 = true := by kernel_rfl
theorem ymay2 (c : Int) : mayB [(⟨2, 1, 0, 3, 0, 1, -1, 0, c, []⟩, 0)] 1 3 1 = false := by kernel_rfl
theorem ymay3 (c : Int) : mayB [(⟨2, 1, 0, 3, 0, 1, -1, 0, c, []⟩, 0)] 0 3 0 = false := by kernel_rfl
theorem yhand : handOf hw1 1 = [capV 0] := by kernel_rfl
theorem yfew : FewH hw1 := few_of (by have e : hw1.hs = [[], [capV 0], [], []] := by kernel_rfl
                                      rw [e]; decide)
theorem ytrs (c : Int) : TrS [(⟨2, 1, 0, 3, 0, 1, -1, 0, c, []⟩, 0)] hw1 := by
  have h := trs0.step ⟨2, 1, 0, 3, 0, 1, -1, 0, c, []⟩
  rw [yev] at h
  exact h
section
variable {T : WT} {p : T.P} {q : T.Q} {w : World}
theorem ydo (hD : WDoC T) (H : T.S (fun _ => False) p q h00 [] w) : Calls Tryz.prog 13 #[.pointer (some ⟨T.wb p, 0, none⟩), .agg #[.int .i64 2, .int .i64 1, .int .i64 0, .int .i64 3, .int .i64 0, .int .i64 1, .int .i64 (-1), .int .i64 0, .slice none 0 0]] w fun e w' => ∃ c q' ao cap, e = .returned (.tuple #[.agg #[.int .i64 0, .int .i64 0, .int .i64 4, .int .i64 0, .slice ao 0 cap], .agg #[.int .i64 0, .int .i64 0]]) ∧ T.S (fun _ => False) p q' hw1 [(⟨2, 1, 0, 3, 0, 1, -1, 0, c, []⟩, 0)] w' ∧ GoesW T p q w q' w' := by
  have hz : In64 0 := in_few 0 (by decide)
  refine (hD (fun _ => False) p q h00 [] w ⟨2, 1, 0, 3, 0, 1, -1, 0, [], none, 0⟩ (fun f => f = Ex.modFault []) H trs0 ⟨in_few 2 (by decide), in_few 1 (by decide), hz, in_few 3 (by decide), hz, in_few 1 (by decide), in_few (-1) (by decide), hz, fun v hv => by simp at hv⟩ (by decide) few00 (by decide) ⟨fun f _ _ v hv => by simp at hv, make_none w⟩).mono ?_
  rintro e w' ⟨c, _, q', ao, cap, he, hs, hg, _⟩
  simp only [Sx.sp, yev] at he hs
  exact ⟨c, q', ao, cap, he, hs, hg⟩
end
theorem ytwo {w : World} {g : Nat} {a b : Value} {t : TypeId} (h : w.heap[g]? = some (.cells #[a, b] t (0, 0))) : w.cell? ⟨g, 0, none⟩ = some a ∧ w.cell? ⟨g, 1, none⟩ = some b := by
  refine ⟨?_, ?_⟩ <;> simp [World.cell?, h]
theorem below_q {w w1 w2 : World} (h : Below w.heap.size w w1) (q : Quiet w1 w2) : Below w.heap.size w w2 := low_of h q h.size
set_option maxRecDepth 8000 in
set_option maxHeartbeats 2000000 in
theorem ybegun_of {T : WT} (hN : WNewC T) (hD : WDoC T) (hM : WMayC T) (hH : HHandC) (w : World) : Calls Tryz.prog 7 #[] w fun e w' => e = .returned (.bool true) ∧ Below w.heap.size w w' := by
  go_enter Tryz.func7, Tryz.ntmps7
  go_wp2_with (first
    | (go_at_call 20; refine HD4.out.2.2.mono ?_; rintro e w9 ⟨ao9, cap9, rfl, q9⟩)
    | (go_at_call 15; refine (hM (fun _ => False) p q3 hw1 _ w5 0 3 0 HD3.out.1 (ytrs c) (by simp) rfl (by decide)).mono ?_; rw [ymay3]; rintro e w6 ⟨rfl, q6⟩; have HD4 := hid (And.intro (WT.quiet HD3.out.1 q6) (And.intro (below_q HD3.out.2.1 q6) (HC.out w6 (WT.quiet HD3.out.1 q6)))); have yc := (WT.cells HD4.out.1).1; clear q6)
    | (go_at_call 15; refine (hM (fun _ => False) p q3 hw1 _ w4 1 3 1 HD2.out.1 (ytrs c) (by simp) rfl (by decide)).mono ?_; rw [ymay2]; rintro e w5 ⟨rfl, q5⟩; have HD3 := hid (And.intro (WT.quiet HD2.out.1 q5) (And.intro (below_q HD2.out.2 q5) (HC.out w5 (WT.quiet HD2.out.1 q5)))); clear q5)
    | (go_at_call 15; refine (hM (fun _ => False) p q3 hw1 _ _ 1 3 0 HD1.out.1 (ytrs c) (by simp) rfl (by decide)).mono ?_; rw [ymay1]; rintro e w4 ⟨rfl, q4⟩; have HD2 := hid (And.intro (WT.quiet HD1.out.1 q4) (below_q HD1.out.2 q4)); clear q4)
    | (go_at_call 13; refine (ydo hD H1.out.1).mono ?_; rintro e w3 ⟨c, q3, ao3, cap3, rfl, s3, g3⟩; have a3 : Quiet w3 ((w3.alloc (.cells #[.int .i64 0, .int .i64 0, .int .i64 4, .int .i64 0, .slice ao3 0 cap3] 40)).alloc (.cells #[.int .i64 0, .int .i64 0] 27)) := (Kp.alloc _ _).trans (Kp.alloc _ _); have HD1 := hid (And.intro (WT.quiet s3 a3) (below_q (WT.below H1.out.1 (by rw [H1.out.2.1]; exact Nat.le_refl _) H1.out.2.2 g3) a3)); have HC := hid (fun (w' : World) (s : T.S (fun _ => False) p q3 hw1 [(⟨2, 1, 0, 3, 0, 1, -1, 0, c, []⟩, 0)] w') => show Calls Tryz.prog 20 #[.pointer (some ⟨(T.hx p).hb, 0, none⟩), .int .i64 1] w' fun e w'' => ∃ ao cap, e = .returned (.slice ao 1 cap) ∧ Quiet w' w'' from by obtain ⟨Y, hh⟩ := T.house s; refine (hH Y _ _ hw1 w' 1 hh yfew (in_few 1 (by decide))).mono ?_; rw [yhand]; rintro e w'' ⟨ao, cap, he, _, k⟩; exact ⟨ao, cap, he, k⟩); clear s3 g3 a3)
    | (go_at_call 12; refine (hN (fun _ => False) w.heap.size w (fun _ e => e.elim) (Nat.le_refl _)).mono ?_; rintro e w1 ⟨p, q1, hB, rfl, s1, _, k1⟩; have H1 := hid (And.intro s1 (And.intro hB k1.low)); clear s1 hB k1))
  go_ret
  exact ⟨rfl, below_q HD4.out.2.1 q9⟩
theorem Tryz.infoEv : (Tryz.prog.info? 40).map (fun i => (i.zero, i.size, i.bytes)) = some (some (.agg #[.int .i64 0, .int .i64 0, .int .i64 0, .int .i64 0, .slice none 0 0]), 5, 56) := by kernel_rfl
theorem Tryz.undEv : Tryz.prog.underlying 25 = some (.slice 40) := by kernel_rfl
def evC1 (x : Int × Int × Kd) : List Value := [.int .i64 x.1, .int .i64 x.2.1] ++ tri x.2.2
def evC (l : List (Int × Int × Kd)) : List Value := l.flatMap evC1
theorem evC_snoc (l : List (Int × Int × Kd)) (x : Int × Int × Kd) : evC (l ++ [x]) = evC l ++ evC1 x := by simp [evC]
theorem evC1_len (x : Int × Int × Kd) : (evC1 x).length = 5 := rfl
theorem evC_at (l : List (Int × Int × Kd)) (k : Nat) (hk : k < l.length) : (evC l)[k * 5]? = some (.int .i64 l[k].1) := by
  induction l generalizing k with
  | nil => simp at hk
  | cons x l ih =>
    cases k with
    | zero => rfl
    | succ k =>
      have h1 : evC (x :: l) = evC1 x ++ evC l := rfl
      rw [h1, List.getElem?_append_right (by rw [evC1_len]; omega), evC1_len, show (k + 1) * 5 - 5 = k * 5 by omega, ih k (by simpa using hk)]
      rfl
theorem evC1_one (x : Int × Int × Kd) : ∀ u ∈ evC1 x, u.oneCell' = true := by
  intro u hu
  simp only [evC1, List.mem_append, List.mem_cons, List.not_mem_nil, or_false] at hu
  rcases hu with (rfl | rfl) | hu
  · rfl
  · rfl
  · exact tri_one _ u hu
def rowB (v : Value) (k : Nat) : Prop := v.ownBlock = some k
structure GvS (T : WT) (W : World) (xs : List Sx) (p : T.P) (q : T.Q) (h : Hs) (tr : List (Sp × Int)) (ea : Option Addr) (ec : Nat) (evs : List (Int × Int × Kd)) (w : World) : Prop where
  s : T.S (rowB (.slice ea evs.length ec)) p q h tr w
  low : Below W.heap.size W w
  hB : W.heap.size ≤ (T.hx p).B
  trs : TrS tr h
  len : tr.length = evs.length
  codes : ∀ i (h1 : i < tr.length) (h2 : i < evs.length), evs[i].1 = tr[i].2
  same : ∀ i (h1 : i < tr.length) (h2 : i < xs.length), ∃ c, tr[i].1 = (xs[i]).sp c
  row : w.ownsRow W.heap.size 40 5 (.slice ea evs.length ec) evs.length (evC evs)
section
variable {T : WT} {W w w3 w6 : World} {xs : List Sx} {p : T.P} {q q3 : T.Q} {h h3 : Hs} {tr : List (Sp × Int)} {ea : Option Addr} {ec : Nat} {evs : List (Int × Int × Kd)}
theorem GvS.sc (H : GvS T W xs p q h tr ea ec evs w) {sa : Option Addr} (hx : StepsAt W xs sa) (hl : tr.length ≤ xs.length) : ScAt w xs sa ea tr := by
  refine ⟨hx.low H.low, hl, H.same, fun i hi => ?_⟩
  have h2 : i < evs.length := by rw [← H.len]; exact hi
  obtain ⟨g, e, hc⟩ := Gr.owns_at H.row (by omega)
  refine ⟨g, e, ?_⟩
  rw [hc (i * 5) (by omega), evC_at evs i h2, H.codes i hi h2]
structure GvM (T : WT) (W : World) (xs : List Sx) (p : T.P) (q : T.Q) (h : Hs) (tr : List (Sp × Int)) (ea : Option Addr) (ec : Nat) (evs : List (Int × Int × Kd)) (y : Sp × Int) (w : World) : Prop where
  s : T.S (rowB (.slice ea evs.length ec)) p q h (tr ++ [y]) w
  low : Below W.heap.size W w
  row : w.ownsRow W.heap.size 40 5 (.slice ea evs.length ec) evs.length (evC evs)
theorem GvS.did (H : GvS T W xs p q h tr ea ec evs w) {y : Sp × Int} (s3 : T.S (rowB (.slice ea evs.length ec)) p q3 h3 (tr ++ [y]) w3) (g3 : GoesW T p q w q3 w3) : GvM T W xs p q3 h3 tr ea ec evs y w3 :=
  ⟨s3, WT.below H.s H.hB H.low g3, g3.kp.row H.row fun k hk e => (T.xo H.s (show rowB _ k from hk)).2 e⟩
theorem GvM.quiet {y : Sp × Int} (H : GvM T W xs p q h tr ea ec evs y w) (k : Quiet w w3) (hW : W.heap.size ≤ w.heap.size) : GvM T W xs p q h tr ea ec evs y w3 :=
  ⟨WT.quiet H.s k, low_of H.low k hW, k.row H.row fun _ _ e => e⟩
theorem GvM.push {y : Sp × Int} {gg cap : Nat} {x : Int × Int × Kd} (H0 : GvS T W xs p q3 h3 tr ea ec evs w3) (H : GvM T W xs p q h tr ea ec evs y w) (trs : TrS (tr ++ [y]) h) (hx : x.1 = y.2) (hs : ∀ (h2 : tr.length < xs.length), ∃ c, y.1 = (xs[tr.length]).sp c)
    (hr : w6.ownsRow W.heap.size 40 5 (.slice (some ⟨gg, 0, none⟩) (evs.length + 1) cap) (evs.length + 1) (evC evs ++ evC1 x)) (hg : w.grownBy w6 (Value.slice ea evs.length ec).ownBlock) (hat : (Value.slice ea evs.length ec).ownBlock = some gg ∨ w.heap.size ≤ gg) (hW : W.heap.size ≤ w.heap.size) :
    GvS T W xs p q h (tr ++ [y]) (some ⟨gg, 0, none⟩) cap (evs ++ [x]) w6 := by
  have k1 : Kp (rowB (.slice ea evs.length ec)) w w6 := Kp.grown hg fun k _ e => e.symm
  have hgg : gg < w6.heap.size := (hr.lt gg rfl).2
  have hb : ∀ k, rowB (.slice (some ⟨gg, 0, none⟩) (evs ++ [x]).length cap) k → k = gg := fun k e => by simp [rowB, Value.ownBlock] at e; exact e.symm
  refine ⟨T.turn H.s k1 (fun _ e => e) (fun i cs t hi ht e => ?_) (fun i hi e => ?_) (fun i e => ?_), ?_, H0.hB, trs, by simp [H0.len], fun i h1 h2 => ?_, fun i h1 h2 => ?_, ?_⟩
  · obtain ⟨cs', hc⟩ := row_type H.row e
    rw [hc] at hi
    simp at hi
    rcases ht with ht | ht <;> rw [ht] at hi <;> exact absurd hi.2 (by decide)
  · rw [hb i e] at hi ⊢
    rcases hat with e2 | e2
    · exact e2
    · omega
  · rw [hb i e]
    refine ⟨hgg, fun e3 => ?_⟩
    rcases hat with e2 | e2
    · exact (T.xo H.s (show rowB _ gg from e2)).2 e3
    · have := (T.lt H.s e3).2; omega
  · exact H.low.trans (k1.below hW fun k e => (H.row.lt k e).1)
  · by_cases e : i < tr.length
    · rw [List.getElem_append_left (by rw [← H0.len]; exact e), List.getElem_append_left e]; exact H0.codes i e _
    · obtain rfl : i = tr.length := by simp at h1; omega
      rw [List.getElem_append_right (by rw [H0.len]; exact Nat.le_refl _), List.getElem_append_right (Nat.le_refl _)]
      simp [H0.len, hx]
  · by_cases e : i < tr.length
    · rw [List.getElem_append_left e]; exact H0.same i e h2
    · obtain rfl : i = tr.length := by simp at h1; omega
      rw [List.getElem_append_right (Nat.le_refl _)]
      simpa using hs h2
  · rw [show (evs ++ [x]).length = evs.length + 1 by simp, evC_snoc]; exact hr
end
theorem ents_at {w : World} {B : Nat} {v : Value} {es : List Wo.Ent} (h : w.ownsRow B 70 4 v es.length (Wo.entCells es)) (k : Nat) (hk : k < es.length) : ∃ g cap, v = .slice (some ⟨g, 0, none⟩) es.length cap ∧ w.cell? ⟨g, k * 4, none⟩ = some (.int .i64 es[k].plugin) ∧ w.cell? ⟨g, k * 4 + 1, none⟩ = some (.int .i64 es[k].cell) ∧ w.cell? ⟨g, k * 4 + 2, none⟩ = some (.int .i64 es[k].right) ∧ w.cell? ⟨g, k * 4 + 3, none⟩ = some (.int .i64 es[k].node) := by
  obtain ⟨ao, cap, rfl⟩ := Gr.owns_shape h
  obtain ⟨g, rfl, hc⟩ := Gr.owns_at h (by omega)
  have key : ∀ j, j < 4 → w.cell? ⟨g, k * 4 + j, none⟩ = (es[k]).cells[j]? := fun j hj => by rw [hc _ (by omega), Wo.entCells_at es k j hk hj]
  exact ⟨g, cap, rfl, key 0 (by decide), key 1 (by decide), key 2 (by decide), key 3 (by decide)⟩
theorem ScAt.less {w : World} {xs : List Sx} {sa ea : Option Addr} {tr : List (Sp × Int)} {y : Sp × Int} (h : ScAt w xs sa ea (tr ++ [y])) : ScAt w xs sa ea tr := by
  have hl : ∀ i, i < tr.length → i < (tr ++ [y]).length := fun i hi => by simp; omega
  refine ⟨h.st, by have := h.le; simp at this; omega, fun i h1 h2 => ?_, fun i hi => ?_⟩
  · obtain ⟨c, e⟩ := h.same i (hl i h1) h2
    rw [List.getElem_append_left h1] at e
    exact ⟨c, e⟩
  · obtain ⟨g, e, c⟩ := h.ev i (hl i hi)
    rw [List.getElem_append_left hi] at c
    exact ⟨g, e, c⟩
theorem step_may2 {tr : List (Sp × Int)} (ht : TrOk tr) {h : Hs} (hi : HInv (Giv (Gvn tr)) h) (x : Sp) : ∃ new, (stepH h x).2.s.es = h.s.es ++ new ∧ ∀ e ∈ new, plugB e.plugin = true ∧ ∃ bit : Nat, bit ≤ 1 ∧ e.right = rbit bit ∧ mayB tr e.plugin e.cell bit = true ∧ Gr.thereB (stepH h x).2.s.ns.length e.node = true ∧ (Gr.targetOf (stepH h x).2.s.ns e.node).plugin < 0 ∧ (Gr.targetOf (stepH h x).2.s.ns e.node).cell = e.cell ∧ ∀ n ∈ Gr.wayOf (stepH h x).2.s.ns e.node, n.rights.toNat.testBit bit = true := by
  obtain ⟨new, e1, g⟩ := step_ent ht hi x
  refine ⟨new, e1, fun e he => ⟨(g e he).1, ?_⟩⟩
  have hw := (step_given hi x).1.gs.wf
  obtain ⟨bit, b1, b2, b3⟩ := ent_may hw (g e he)
  refine ⟨bit, by omega, ?_, may_found ht (g e he).1 b2, b3⟩
  unfold rbit
  rcases b1 with ⟨b1, b4⟩ | ⟨b1, b4⟩
  · rw [if_pos b4]; exact b1
  · rw [if_neg (by omega)]; exact b1
theorem ents_cells {w : World} {g : Nat} {a b c d : Value} {t : TypeId} (h : w.heap[g]? = some (.cells #[a, b, c, d] t (0, 0))) : w.cell? ⟨g, 0, none⟩ = some a ∧ w.cell? ⟨g, 1, none⟩ = some b ∧ w.cell? ⟨g, 2, none⟩ = some c ∧ w.cell? ⟨g, 3, none⟩ = some d := by
  refine ⟨?_, ?_, ?_, ?_⟩ <;> simp [World.cell?, h]
theorem row_cap {w : World} {B g n cap sz : Nat} {t : TypeId} {l : List Value} (h : w.ownsRow B t sz (.slice (some ⟨g, 0, none⟩) n cap) n l) : n ≤ cap := by
  rcases h.2 with ⟨e, _⟩ | ⟨g', cap', cur, e, _, _, h1, _⟩
  · cases e
  · cases e; exact h1
theorem sixY_put {w : World} {g : Nat} {x0 x1 x2 x3 x4 x5 : Value} {t : TypeId} (h : w.heap[g]? = some (.cells #[x0, x1, x2, x3, x4, x5] t (0, 0))) (t0 t1 t2 t3 t4 t5 : Value) : ((((((w.setCell ⟨g, 0, none⟩ t0).setCell ⟨g, 1, none⟩ t1).setCell ⟨g, 2, none⟩ t2).setCell ⟨g, 3, none⟩ t3).setCell ⟨g, 4, none⟩ t4).setCell ⟨g, 5, none⟩ t5).heap[g]? = some (.cells #[t0, t1, t2, t3, t4, t5] t (0, 0)) := by
  simp [World.setCell, Array.getElem?_modify, h]
theorem six_set (w : World) (x : Nat) (a b c d e f : Value) : Kp (fun k => k = x) w ((((((w.setCell ⟨x, 0, none⟩ a).setCell ⟨x, 1, none⟩ b).setCell ⟨x, 2, none⟩ c).setCell ⟨x, 3, none⟩ d).setCell ⟨x, 4, none⟩ e).setCell ⟨x, 5, none⟩ f) := (((((kp_set w x 0 a).trans (kp_set _ x 1 b)).trans (kp_set _ x 2 c)).trans (kp_set _ x 3 d)).trans (kp_set _ x 4 e)).trans (kp_set _ x 5 f)
theorem six_cells {w : World} {g : Nat} {a b c d e f : Value} {t : TypeId} (h : w.heap[g]? = some (.cells #[a, b, c, d, e, f] t (0, 0))) : (w.cell? ⟨g, 0, none⟩ = some a ∧ w.cell? ⟨g, 1, none⟩ = some b ∧ w.cell? ⟨g, 2, none⟩ = some c ∧ w.cell? ⟨g, 3, none⟩ = some d ∧ w.cell? ⟨g, 4, none⟩ = some e ∧ w.cell? ⟨g, 5, none⟩ = some f) ∧ w.frozen? ⟨g, 0, none⟩ = false ∧ w.frozen? ⟨g, 1, none⟩ = false ∧ w.frozen? ⟨g, 2, none⟩ = false ∧ w.frozen? ⟨g, 3, none⟩ = false ∧ w.frozen? ⟨g, 4, none⟩ = false ∧ w.frozen? ⟨g, 5, none⟩ = false := by
  refine ⟨⟨?_, ?_, ?_, ?_, ?_, ?_⟩, frozen_of_row w g 0 _ t h, frozen_of_row w g 1 _ t h, frozen_of_row w g 2 _ t h, frozen_of_row w g 3 _ t h, frozen_of_row w g 4 _ t h, frozen_of_row w g 5 _ t h⟩ <;> simp [World.cell?, h]
theorem gvs_quiet {T : WT} {W w w3 : World} {xs : List Sx} {p : T.P} {q : T.Q} {h : Hs} {tr : List (Sp × Int)} {ea : Option Addr} {ec : Nat} {evs : List (Int × Int × Kd)} (H : GvS T W xs p q h tr ea ec evs w) (k : Quiet w w3) (hW : W.heap.size ≤ w.heap.size) : GvS T W xs p q h tr ea ec evs w3 :=
  ⟨WT.quiet H.s k, low_of H.low k hW, H.hB, H.trs, H.len, H.codes, H.same, k.row H.row fun _ _ e => e⟩
end Go.Proofs.YtkpckmcaeljocaaGreat
