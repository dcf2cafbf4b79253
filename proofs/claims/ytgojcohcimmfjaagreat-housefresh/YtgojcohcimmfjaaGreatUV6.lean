/- What a law holds of a house: all hands, and all that is kept. The beginning of the laws of a house, whatever way New, Do and Hand go. The document's own answer: are two values the same? A house goes on: its box goes on; a hand has one thing more. What one place holds is one thing. What holds of things while they are copied in place: the old memory and the rows of things alone matter; a list that is exchanged for one like it. The contract of listOf; a nil map asked for such a key. The contract of Own: lists that are still to be copied. -/
import Derived.Test.YtgojcohcimmfjaaGreatUV2
import Derived.Test.YtgojcohcimmfjaaGreatUP1
import Derived.Test.YtgojcohcimmfjaaGreatUE5
import Derived.ProofKit
import Derived.Test.YtgojcohcimmfjaaGreatUV4
import Derived.StillTailTactics
import Derived.Test.YtgojcohcimmfjaaGreatUB1
import Derived.Test.YtgojcohcimmfjaaGreatUV0
import Derived.Laws.ResultCell
import Derived.Test.YtgojcohcimmfjaaGreatUV3
import Derived.Carry
namespace Go.Proofs.YtgojcohcimmfjaaGreat
open Go.ChangeShapes Go.WideShapes Go.ChangeAt Go.RowKit
def hvC (h : Hs) (ha : Nat → Option Addr × Nat) (p i : Nat) : Value := if i < p then .slice (ha i).1 (handOf h i).length (ha i).2 else .slice none 0 0
def handsC (h : Hs) (ha : Nat → Option Addr × Nat) (p : Nat) : List Value := [hvC h ha p 0, hvC h ha p 1, hvC h ha p 2, hvC h ha p 3]
def kvC (h : Hs) (ka : Nat → Option Addr × Nat) (p i : Nat) : List Value := if i < p then [.int .i64 (keptOf h i).kind, .int .i64 (keptOf h i).n, .slice (ka i).1 (keptOf h i).l.length (ka i).2] else [.int .i64 0, .int .i64 0, .slice none 0 0]
def keptsC (h : Hs) (ka : Nat → Option Addr × Nat) (p : Nat) : List Value := kvC h ka p 0 ++ (kvC h ka p 1 ++ (kvC h ka p 2 ++ kvC h ka p 3))
/-- The first p hands, and what the first p keep. -/
structure Held (X : Nat → Prop) (M : Hx) (q : Hq) (h : Hs) (hk kk p : Nat) (ha ka : Nat → Option Addr × Nat) (w : World) : Prop where
  hands : w.heap[hk]? = some (.cells (handsC h ha p).toArray 44 (0, 0))
  kepts : w.heap[kk]? = some (.cells (keptsC h ka p).toArray 60 (0, 0))
  fo : ∀ i : Nat, i < p → SafeF (fun k => OwnH M q k ∨ X k) (fun w => Fo w (handOf h i) (ha i).1) w
  is : ∀ i : Nat, i < p → SafeF (fun k => OwnH M q k ∨ X k) (fun w => Is w (keptOf h i) (ka i).1) w
def upd (f : Nat → Option Addr × Nat) (p : Nat) (x : Option Addr × Nat) : Nat → Option Addr × Nat := fun i => if i = p then x else f i
theorem hands_set (h : Hs) (ha : Nat → Option Addr × Nat) (p : Nat) (hp : p < 4) (a : Option Addr) (c : Nat) : (handsC h ha p).set p (.slice a (handOf h p).length c) = handsC h (upd ha p (a, c)) (p + 1) := by
  obtain rfl | rfl | rfl | rfl : p = 0 ∨ p = 1 ∨ p = 2 ∨ p = 3 := by omega
  all_goals simp [handsC, hvC, upd]
theorem kepts_set (h : Hs) (ka : Nat → Option Addr × Nat) (p : Nat) (hp : p < 4) (a : Option Addr) (c : Nat) : (((keptsC h ka p).set (p * 3) (.int .i64 (keptOf h p).kind)).set (p * 3 + 1) (.int .i64 (keptOf h p).n)).set (p * 3 + 2) (.slice a (keptOf h p).l.length c) = keptsC h (upd ka p (a, c)) (p + 1) := by
  obtain rfl | rfl | rfl | rfl : p = 0 ∨ p = 1 ∨ p = 2 ∨ p = 3 := by omega
  all_goals simp [keptsC, kvC, upd]
theorem list_set {w : World} {b : Nat} {L : List Value} {t : TypeId} (h : w.heap[b]? = some (.cells L.toArray t (0, 0))) (k : Nat) (x : Value) : (w.setCell ⟨b, k, none⟩ x).heap[b]? = some (.cells (L.set k x).toArray t (0, 0)) := by
  simp [World.setCell, Array.getElem?_modify, h]
theorem list_cell {w : World} {b : Nat} {L : List Value} {t : TypeId} (h : w.heap[b]? = some (.cells L.toArray t (0, 0))) (k : Nat) : w.cell? ⟨b, k, none⟩ = L[k]? := by simp [World.cell?, h]
section
variable {M : Hx} {q q' : Hq} {h h' : Hs} {hk kk p : Nat} {ha ka : Nat → Option Addr × Nat} {w w' w6 : World} {X : Nat → Prop}
theorem Held.start (w : World) (hk kk : Nat) (ha ka : Nat → Option Addr × Nat) (h1 : w.heap[hk]? = some (.cells #[.slice none 0 0, .slice none 0 0, .slice none 0 0, .slice none 0 0] 44 (0, 0))) (h2 : w.heap[kk]? = some (.cells #[.int .i64 0, .int .i64 0, .slice none 0 0, .int .i64 0, .int .i64 0, .slice none 0 0, .int .i64 0, .int .i64 0, .slice none 0 0, .int .i64 0, .int .i64 0, .slice none 0 0] 60 (0, 0))) : Held X M q h hk kk 0 ha ka w :=
  ⟨h1, h2, fun i hi => by omega, fun i hi => by omega⟩
theorem Held.quiet (H : Held X M q h hk kk p ha ka w) (k : Quiet w w') : Held X M q h hk kk p ha ka w' :=
  ⟨(k.block _ (lt_of_block H.hands) fun e => e).trans H.hands, (k.block _ (lt_of_block H.kepts) fun e => e).trans H.kepts, fun i hi => safe_quiet (H.fo i hi) k, fun i hi => safe_quiet (H.is i hi) k⟩
theorem Held.goes (H : Held X M q h hk kk p ha ka w) (S : HouseS X M q h' w) (g : GoesH M q w q' w') : Held X M q' h hk kk p ha ka w' :=
  ⟨(g.block H.hands (S.free H.hands (by decide) (by decide) (by decide) (by decide) (by decide) (by decide) (by decide) (by decide))).1, (g.block H.kepts (S.free H.kepts (by decide) (by decide) (by decide) (by decide) (by decide) (by decide) (by decide) (by decide))).1, fun i hi => g.safe (H.fo i hi), fun i hi => g.safe (H.is i hi)⟩
theorem Held.ne (H : Held X M q h hk kk p ha ka w) : hk ≠ kk := fun e => by
  have h1 := H.hands
  rw [e, H.kepts] at h1
  simp at h1
/-- The world with one more. -/
def putH (w : World) (hk kk p : Nat) (h : Hs) (a b : Option Addr) (c d : Nat) : World := (((w.setCell ⟨hk, p, none⟩ (.slice a (handOf h p).length c)).setCell ⟨kk, p * 3, none⟩ (.int .i64 (keptOf h p).kind)).setCell ⟨kk, p * 3 + 1, none⟩ (.int .i64 (keptOf h p).n)).setCell ⟨kk, p * 3 + 2, none⟩ (.slice b (keptOf h p).l.length d)
theorem putH_kp (w : World) (hk kk p : Nat) (h : Hs) (a b : Option Addr) (c d : Nat) : Kp (fun k => k = hk ∨ k = kk) w (putH w hk kk p h a b c d) :=
  ((((kp_set w hk p _).mono fun _ _ e => .inl e).trans ((kp_set _ kk _ _).mono fun _ _ e => .inr e)).trans ((kp_set _ kk _ _).mono fun _ _ e => .inr e)).trans ((kp_set _ kk _ _).mono fun _ _ e => .inr e)
theorem Held.put (H : Held X M q h hk kk p ha ka w) (hp : p < 4) {a b : Option Addr} {c d : Nat} (xh : X hk) (xk : X kk)
    (ff : SafeF (fun k => OwnH M q k ∨ X k) (fun w => Fo w (handOf h p) a) w) (fi : SafeF (fun k => OwnH M q k ∨ X k) (fun w => Is w (keptOf h p) b) w) :
    Held X M q h hk kk (p + 1) (upd ha p (a, c)) (upd ka p (b, d)) (putH w hk kk p h a b c d) := by
  have hne := H.ne
  have kp := putH_kp w hk kk p h a b c d
  have hs : ∀ {P : World → Prop}, SafeF (fun k => OwnH M q k ∨ X k) P w → SafeF (fun k => OwnH M q k ∨ X k) P (putH w hk kk p h a b c d) := fun hP => hP.step (kp.mono fun k _ e => .inr (by rcases e with e | e; exact e ▸ xh; exact e ▸ xk)) fun _ _ e => e
  refine ⟨?_, ?_, fun i hi => ?_, fun i hi => ?_⟩
  · rw [← hands_set h ha p hp a c]
    have h1 := list_set H.hands p (.slice a (handOf h p).length c)
    have k2 : Kp (fun k => k = kk) (w.setCell ⟨hk, p, none⟩ (.slice a (handOf h p).length c)) (putH w hk kk p h a b c d) := ((kp_set _ kk _ _).trans (kp_set _ kk _ _)).trans (kp_set _ kk _ _)
    exact (k2.block _ (lt_of_block h1) hne).trans h1
  · rw [← kepts_set h ka p hp b d]
    have h1 : (w.setCell ⟨hk, p, none⟩ (.slice a (handOf h p).length c)).heap[kk]? = _ := ((kp_set w hk p (.slice a (handOf h p).length c)).block _ (lt_of_block H.kepts) fun e => hne e.symm).trans H.kepts
    exact list_set (list_set (list_set h1 _ _) _ _) _ _
  · unfold upd
    by_cases e : i = p
    · rw [if_pos e, e]; exact hs ff
    · rw [if_neg e]; exact hs (H.fo i (by omega))
  · unfold upd
    by_cases e : i = p
    · rw [if_pos e, e]; exact hs fi
    · rw [if_neg e]; exact hs (H.is i (by omega))
/-- The cells of what is held. -/
theorem Held.hand (H : Held X M q h hk kk p ha ka w) (i : Nat) (hi : i < p) (hp : p ≤ 4) : w.cell? ⟨hk, i, none⟩ = some (.slice (ha i).1 (handOf h i).length (ha i).2) := by
  rw [list_cell H.hands]
  obtain rfl | rfl | rfl | rfl : i = 0 ∨ i = 1 ∨ i = 2 ∨ i = 3 := by omega
  all_goals simp [handsC, hvC, hi]
theorem Held.hcell (H : Held X M q h hk kk p ha ka w) (i : Nat) (hi : i < 4) : ∃ v, w.cell? ⟨hk, i, none⟩ = some v := by
  rw [list_cell H.hands]
  obtain rfl | rfl | rfl | rfl : i = 0 ∨ i = 1 ∨ i = 2 ∨ i = 3 := by omega
  all_goals exact ⟨_, rfl⟩
theorem kv_len (h : Hs) (ka : Nat → Option Addr × Nat) (p i : Nat) : (kvC h ka p i).length = 3 := by unfold kvC; split <;> rfl
theorem Held.kcell (H : Held X M q h hk kk p ha ka w) (i : Nat) (hi : i < 12) : ∃ v, w.cell? ⟨kk, i, none⟩ = some v := by
  rw [list_cell H.kepts]
  have hl : (keptsC h ka p).length = 12 := by simp [keptsC, kv_len]
  exact ⟨_, List.getElem?_eq_getElem (by omega)⟩
theorem Held.kept (H : Held X M q h hk kk p ha ka w) (i : Nat) (hi : i < p) (hp : p ≤ 4) : w.cell? ⟨kk, i * 3, none⟩ = some (.int .i64 (keptOf h i).kind) ∧ w.cell? ⟨kk, i * 3 + 1, none⟩ = some (.int .i64 (keptOf h i).n) ∧ w.cell? ⟨kk, i * 3 + 2, none⟩ = some (.slice (ka i).1 (keptOf h i).l.length (ka i).2) := by
  rw [list_cell H.kepts, list_cell H.kepts, list_cell H.kepts]
  obtain rfl | rfl | rfl | rfl : i = 0 ∨ i = 1 ∨ i = 2 ∨ i = 3 := by omega
  · simp [keptsC, kvC, hi]
  · have h0 : 0 < p := by omega
    simp [keptsC, kvC, hi, h0]
  · have h0 : 0 < p := by omega
    have h1 : 1 < p := by omega
    simp [keptsC, kvC, hi, h0, h1]
  · have h0 : 0 < p := by omega
    have h1 : 1 < p := by omega
    have h2 : 2 < p := by omega
    simp [keptsC, kvC, hi, h0, h1, h2]
end
end Go.Proofs.YtgojcohcimmfjaaGreat
namespace Go.Proofs.YtgojcohcimmfjaaGreat
open Go.ChangeShapes Go.WideShapes Go.ChangeAt Go.RowKit
open Gr (Nd Res nd0 thereB openB deriveOf addOf gateOf cutOf cellB cellOf funcB funcOf rightsN wayOf gatesOf gatesW targetOf Wf NdOk GS IntsAt)
def rd1 : Ex.V := ⟨13, 0, 0, [⟨3, 0, 0, []⟩]⟩
theorem rd1_fault : Ex.modFault [rd1] = (0, 0) := by decide
theorem rd1_bad : ∀ v ∈ [rd1], v.bad 1 0 = 0 := by intro v hv; simp at hv; subst hv; decide
theorem rd1_fo (w : World) : Ex.Fo (Ex.cln ((w.alloc (.cells #[.int .i64 3, .int .i64 0, .int .i64 0, .slice none 0 0] 82)).alloc (.cells #[.int .i64 13, .int .i64 0, .int .i64 0, .slice (some ⟨w.heap.size, 0, none⟩) 1 1] 82))) [rd1] (some ⟨w.heap.size + 1, 0, none⟩) := by
  have b0 := Ex.cln_same (show ((w.alloc (.cells #[.int .i64 3, .int .i64 0, .int .i64 0, .slice none 0 0] 82)).alloc (.cells #[.int .i64 13, .int .i64 0, .int .i64 0, .slice (some ⟨w.heap.size, 0, none⟩) 1 1] 82)).heap[w.heap.size]? = some (.cells #[.int .i64 3, .int .i64 0, .int .i64 0, .slice none 0 0] 82 (0, 0)) by rw [Below.heap_alloc _ _ _ (by simp)]; exact heap_alloc_new w _)
  have b1 := Ex.cln_same (heap_two w (.cells #[.int .i64 3, .int .i64 0, .int .i64 0, .slice none 0 0] 82) (.cells #[.int .i64 13, .int .i64 0, .int .i64 0, .slice (some ⟨w.heap.size, 0, none⟩) 1 1] 82))
  have in64 : ∀ z : Int, 0 ≤ z ∧ z ≤ 100 → In64 z := fun z h => ⟨by omega, by omega⟩
  have fit : ∀ (k kk n : Int) (l : List Ex.V), (0 ≤ k ∧ k ≤ 100) → (0 ≤ kk ∧ kk ≤ 100) → (0 ≤ n ∧ n ≤ 100) → Ex.V.fits ⟨k, kk, n, l⟩ := fun k kk n l h1 h2 h3 => ⟨in64 k h1, in64 kk h2, in64 n h3⟩
  intro i hi
  obtain rfl : i = 0 := by simp at hi; omega
  refine ⟨w.heap.size + 1, 0, rfl, (Ex.at_iff _ _ _ _).2 ⟨⟨?_, ?_, ?_⟩, some ⟨w.heap.size, 0, none⟩, 1, ?_, fit _ _ _ _ (by decide) (by decide) (by decide), fun j hj => ?_⟩⟩
  · simp [World.cell?, b1, rd1]
  · simp [World.cell?, b1, rd1]
  · simp [World.cell?, b1, rd1]
  · simp [World.cell?, b1, rd1]
  · obtain rfl : j = 0 := by simp [rd1] at hj; omega
    exact ⟨w.heap.size, 0, rfl, (Ex.at_iff _ _ _ _).2 ⟨⟨by simp [World.cell?, b0, rd1], by simp [World.cell?, b0, rd1], by simp [World.cell?, b0, rd1]⟩, none, 0, by simp [World.cell?, b0, rd1], fit _ _ _ _ (by decide) (by decide) (by decide), Ex.Fo.nil _ _⟩⟩
def hb1 : Hs := (stepH h00 ⟨1, 1, 0, 0, 0, 0, 0, 0, 0, [rd1]⟩).2
def hb2 : Hs := (stepH hb1 ⟨2, 1, 0, 3, 0, 1, -1, 0, 0, []⟩).2
def hb3 : Hs := (stepH hb2 ⟨4, 1, 0, 0, 0, 0, 0, 0, 0, []⟩).2
theorem ev1 : stepH h00 ⟨1, 1, 0, 0, 0, 0, 0, 0, 0, [rd1]⟩ = (⟨0, 0, v0⟩, hb1) := by kernel_rfl
theorem ev2 (c : Int) : stepH hb1 ⟨2, 1, 0, 3, 0, 1, -1, 0, c, []⟩ = (⟨0, 0, capV 0⟩, hb2) := by kernel_rfl
theorem ev3 (c : Int) : stepH hb2 ⟨4, 1, 0, 0, 0, 0, 0, 0, c, []⟩ = (⟨0, 2, intV 0⟩, hb3) := by kernel_rfl
theorem hand3 : handOf hb3 1 = [capV 0] := by kernel_rfl
theorem few00 : FewH h00 := few_of (by decide)
theorem few1 : FewH hb1 := few_of (by have e : hb1.hs = [[], [], [], []] := by kernel_rfl
                                      rw [e]; decide)
theorem few2 : FewH hb2 := few_of (by have e : hb2.hs = [[], [capV 0], [], []] := by kernel_rfl
                                      rw [e]; decide)
theorem few3 : FewH hb3 := few_of (by have e : hb3.hs = [[], [capV 0], [], []] := by kernel_rfl
                                      rw [e]; decide)
theorem in_few (z : Int) (h : -1 ≤ z ∧ z ≤ 100) : In64 z := ⟨by omega, by omega⟩
section
variable {M : Hx} {q : Hq} {w : World}
theorem do1 (hD : HDoC) (H : HouseS (fun _ => False) M q h00 w) : Calls Tryz.prog 11 #[.pointer (some ⟨M.hb, 0, none⟩), .agg #[.int .i64 1, .int .i64 1, .int .i64 0, .int .i64 0, .int .i64 0, .int .i64 0, .int .i64 0, .int .i64 0, .slice (some ⟨w.heap.size + 1, 0, none⟩) 1 1]] ((w.alloc (.cells #[.int .i64 3, .int .i64 0, .int .i64 0, .slice none 0 0] 82)).alloc (.cells #[.int .i64 13, .int .i64 0, .int .i64 0, .slice (some ⟨w.heap.size, 0, none⟩) 1 1] 82)) fun e w' => ∃ q' ao cap, e = .returned (.agg #[.int .i64 0, .int .i64 0, .int .i64 0, .int .i64 0, .slice ao 0 cap]) ∧ HouseS (fun _ => False) M q' hb1 w' ∧ GoesH M q w q' w' := by
  have qq : Quiet w ((w.alloc (.cells #[.int .i64 3, .int .i64 0, .int .i64 0, .slice none 0 0] 82)).alloc (.cells #[.int .i64 13, .int .i64 0, .int .i64 0, .slice (some ⟨w.heap.size, 0, none⟩) 1 1] 82)) := (Kp.alloc _ _).trans (Kp.alloc _ _)
  have hz : In64 0 := in_few 0 (by decide)
  refine (hD (fun _ => False) M q h00 _ ⟨1, 1, 0, 0, 0, 0, 0, 0, [rd1], some ⟨w.heap.size + 1, 0, none⟩, 1⟩ (fun f => f = Ex.modFault [rd1]) (H.quiet qq) ⟨in_few 1 (by decide), in_few 1 (by decide), hz, hz, hz, hz, hz, hz, fun v hv i hi => ?_⟩ (by decide) few00 ⟨fun f _ _ => rd1_bad, fun w1 k => Ex.make_any [rd1] _ 1 w1 ((rd1_fo w).cleanQ k) (by decide)⟩).mono ?_
  · simp only [List.mem_singleton] at hv
    subst hv
    have h : (Ex.funC rd1).all (fun i => decide (-1 ≤ i.n ∧ i.n ≤ 100)) = true := by kernel_rfl
    exact in_few _ (of_decide_eq_true (List.all_eq_true.1 h i hi))
  · rintro e w' ⟨c, hc, hq⟩
    obtain ⟨f, hf, rfl⟩ := hc rfl rfl
    rw [hf, rd1_fault] at hq
    obtain ⟨q', ao, cap, he, hs, hg, _⟩ := hq
    simp only [Sx.sp, ev1] at he hs
    exact ⟨q', ao, cap, he, hs, GoesH.after qq hg⟩
theorem make_none (w : World) : ∀ w1, Quiet w w1 → Calls Tryz.prog 49 #[.agg #[.slice none 0 0]] w1 fun e w' => Ex.MakeQ (fun f => f = Ex.modFault []) [] w1 e w' := fun w1 _ => Ex.make_any [] none 0 w1 (Ex.Fo.nil _ _) (by decide)
theorem do2 (hD : HDoC) (H : HouseS (fun _ => False) M q hb1 w) : Calls Tryz.prog 11 #[.pointer (some ⟨M.hb, 0, none⟩), .agg #[.int .i64 2, .int .i64 1, .int .i64 0, .int .i64 3, .int .i64 0, .int .i64 1, .int .i64 (-1), .int .i64 0, .slice none 0 0]] w fun e w' => ∃ q' ao cap, e = .returned (.agg #[.int .i64 0, .int .i64 0, .int .i64 4, .int .i64 0, .slice ao 0 cap]) ∧ HouseS (fun _ => False) M q' hb2 w' ∧ GoesH M q w q' w' := by
  have hz : In64 0 := in_few 0 (by decide)
  refine (hD (fun _ => False) M q hb1 w ⟨2, 1, 0, 3, 0, 1, -1, 0, [], none, 0⟩ (fun f => f = Ex.modFault []) H ⟨in_few 2 (by decide), in_few 1 (by decide), hz, in_few 3 (by decide), hz, in_few 1 (by decide), in_few (-1) (by decide), hz, fun v hv => by simp at hv⟩ (by decide) few1 ⟨fun f _ _ v hv => by simp at hv, make_none w⟩).mono ?_
  rintro e w' ⟨c, _, q', ao, cap, he, hs, hg, _⟩
  simp only [Sx.sp, ev2] at he hs
  exact ⟨q', ao, cap, he, hs, hg⟩
theorem do3 (hD : HDoC) (H : HouseS (fun _ => False) M q hb2 w) : Calls Tryz.prog 11 #[.pointer (some ⟨M.hb, 0, none⟩), .agg #[.int .i64 4, .int .i64 1, .int .i64 0, .int .i64 0, .int .i64 0, .int .i64 0, .int .i64 0, .int .i64 0, .slice none 0 0]] w fun e w' => ∃ q' ao cap, e = .returned (.agg #[.int .i64 0, .int .i64 2, .int .i64 1, .int .i64 0, .slice ao 0 cap]) ∧ HouseS (fun _ => False) M q' hb3 w' ∧ GoesH M q w q' w' := by
  have hz : In64 0 := in_few 0 (by decide)
  refine (hD (fun _ => False) M q hb2 w ⟨4, 1, 0, 0, 0, 0, 0, 0, [], none, 0⟩ (fun f => f = Ex.modFault []) H ⟨in_few 4 (by decide), in_few 1 (by decide), hz, hz, hz, hz, hz, hz, fun v hv => by simp at hv⟩ (by decide) few2 ⟨fun f _ _ v hv => by simp at hv, make_none w⟩).mono ?_
  rintro e w' ⟨c, _, q', ao, cap, he, hs, hg, _⟩
  simp only [Sx.sp, ev3] at he hs
  exact ⟨q', ao, cap, he, hs, hg⟩
/-- An event's block is not the house's. -/
theorem HouseS.event {X : Nat → Prop} {h : Hs} (H : HouseS X M q h w) {k : Nat} {cs : Array Value} (hk : w.heap[k]? = some (.cells cs 33 (0, 0))) : ¬ OwnH M q k := H.free hk (by decide) (by decide) (by decide) (by decide) (by decide) (by decide) (by decide) (by decide)
theorem five_cells {w : World} {g : Nat} {a b c d e : Value} {t : TypeId} (h : w.heap[g]? = some (.cells #[a, b, c, d, e] t (0, 0))) : w.cell? ⟨g, 0, none⟩ = some a ∧ w.cell? ⟨g, 1, none⟩ = some b ∧ w.cell? ⟨g, 2, none⟩ = some c ∧ w.cell? ⟨g, 3, none⟩ = some d ∧ w.cell? ⟨g, 4, none⟩ = some e := by
  refine ⟨?_, ?_, ?_, ?_, ?_⟩ <;> simp [World.cell?, h]
theorem begun2 {w w1 w3 : World} {q2 : Hq} {h h' : Hs} {o : Array Value} (h1 : HouseS (fun _ => False) M q h w1) (hB : w.heap.size ≤ M.B) (b1 : Below w.heap.size w w1) (h2 : HouseS (fun _ => False) M q2 h' w3) (g2 : GoesH M q w1 q2 w3) :
    HouseS (fun _ => False) M q2 h' (w3.alloc (.cells o 33)) ∧ (w3.alloc (.cells o 33)).heap[w3.heap.size]? = some (.cells o 33 (0, 0)) ∧ w.heap.size ≤ M.B ∧ Below w.heap.size w (w3.alloc (.cells o 33)) := by
  have q3 : Quiet w3 (w3.alloc (.cells o 33)) := Kp.alloc _ _
  refine ⟨h2.quiet q3, heap_alloc_new w3 _, hB, low_of (h1.below hB b1 g2) q3 ?_⟩
  have := lt_of_block h2.obj
  have := h2.lo
  omega
end
set_option maxRecDepth 8000 in
set_option maxHeartbeats 2000000 in
theorem hbegun_of (hN : HNewC) (hD : HDoC) (hH : HHandC) (w : World) : Calls Tryz.prog 7 #[] w fun e w' => e = .returned (.bool true) ∧ Below w.heap.size w w' := by
  go_enter Tryz.func7, Tryz.ntmps7
  go_wp2_with (first
    | (go_at_call 20; refine (hH (fun _ => False) M q4 hb3 _ 1 H4.out.1 few3 (in_few 1 (by decide))).mono ?_; rw [hand3]; rintro e w9 ⟨ao9, cap9, rfl, _, q9⟩)
    | (go_at_call 11; refine (do3 hD H3.out.1).mono ?_; rintro e w7 ⟨q4, ao4, cap4, rfl, h4, g4⟩; have e1 := (g4.block H3.out.2.1 (H3.out.1.event H3.out.2.1)).1; have e2 := (g4.block H3.out.2.2.1 (H3.out.1.event H3.out.2.2.1)).1; have a7 : Quiet w7 (w7.alloc (.cells #[.int .i64 0, .int .i64 2, .int .i64 1, .int .i64 0, .slice ao4 0 cap4] 33)) := Kp.alloc _ _; obtain ⟨x0, x1, x2, x3, x4⟩ := five_cells ((a7.block _ (lt_of_block e1) fun e => e).trans e1); obtain ⟨y0, y1, y2, y3, y4⟩ := five_cells ((a7.block _ (lt_of_block e2) fun e => e).trans e2); obtain ⟨z0, z1, z2, z3, z4⟩ := five_cells (heap_alloc_new w7 (.cells #[.int .i64 0, .int .i64 2, .int .i64 1, .int .i64 0, .slice ao4 0 cap4] 33)); have H4 := hid (And.intro (h4.quiet a7) (HouseS.below (H3.out.1) H3.out.2.2.2.1 H3.out.2.2.2.2 g4)); clear h4 g4 e1 e2)
    | (go_at_call 11; refine (do2 hD H2.out.1).mono ?_; rintro e w5 ⟨q3, ao3, cap3, rfl, h3, g3⟩; have H3 := hid (show HouseS (fun _ => False) M q3 hb2 (w5.alloc (.cells #[.int .i64 0, .int .i64 0, .int .i64 4, .int .i64 0, .slice ao3 0 cap3] 33)) ∧ (w5.alloc (.cells #[.int .i64 0, .int .i64 0, .int .i64 4, .int .i64 0, .slice ao3 0 cap3] 33)).heap[w3.heap.size]? = some (.cells #[.int .i64 0, .int .i64 0, .int .i64 0, .int .i64 0, .slice ao2 0 cap2] 33 (0, 0)) ∧ (w5.alloc (.cells #[.int .i64 0, .int .i64 0, .int .i64 4, .int .i64 0, .slice ao3 0 cap3] 33)).heap[w5.heap.size]? = some (.cells #[.int .i64 0, .int .i64 0, .int .i64 4, .int .i64 0, .slice ao3 0 cap3] 33 (0, 0)) ∧ w.heap.size ≤ M.B ∧ Below w.heap.size w (w5.alloc (.cells #[.int .i64 0, .int .i64 0, .int .i64 4, .int .i64 0, .slice ao3 0 cap3] 33)) from by obtain ⟨k1, k2, k3, k4⟩ := begun2 (o := #[.int .i64 0, .int .i64 0, .int .i64 4, .int .i64 0, .slice ao3 0 cap3]) H2.out.1 H2.out.2.2.1 H2.out.2.2.2 h3 g3; exact ⟨k1, ((Kp.alloc (F := fun _ => False) w5 (.cells #[.int .i64 0, .int .i64 0, .int .i64 4, .int .i64 0, .slice ao3 0 cap3] 33)).block _ (lt_of_block (g3.block H2.out.2.1 (H2.out.1.event H2.out.2.1)).1) (fun e => e)).trans (g3.block H2.out.2.1 (H2.out.1.event H2.out.2.1)).1, k2, k3, k4⟩); clear h3 g3)
    | (go_at_call 11; refine (do1 hD h1).mono ?_; rintro e w3 ⟨q2, ao2, cap2, rfl, h2, g2⟩; have H2 := hid (begun2 (w := w) (o := #[.int .i64 0, .int .i64 0, .int .i64 0, .int .i64 0, .slice ao2 0 cap2]) h1 (by omega) b1.low h2 g2); clear h2 g2)
    | (go_at_call 9; refine (hN (fun _ => False) w.heap.size w (fun _ e => e.elim) (Nat.le_refl _)).mono ?_; rintro e w1 ⟨M, q, hB, rfl, h1, _, b1⟩))
  go_ret
  have hs : w.heap.size ≤ w7.heap.size := H4.out.2.size
  exact ⟨rfl, low_of (low_of H4.out.2 a7 hs) q9 (by have := a7.size; omega)⟩
end Go.Proofs.YtgojcohcimmfjaaGreat
namespace Go.Proofs.YtgojcohcimmfjaaGreat
open Go.ChangeShapes Go.WideShapes Go.ChangeAt Go.RowKit
theorem Tryz.mixed : Tryz.prog.follows .mixedOrders = true := by kernel_rfl
def SameOk (x : V) : Prop := ∀ (u : V) (xa ua : Option Addr) (xc uc : Nat) (w : World), Is w x xa → Is w u ua → x.size ≤ 500 →
    Calls Tryz.prog 21 #[.agg #[.int .i64 x.kind, .int .i64 x.n, .slice xa x.l.length xc], .agg #[.int .i64 u.kind, .int .i64 u.n, .slice ua u.l.length uc]] w fun e w' => e = .returned (.bool (x.same u)) ∧ Quiet w w'
theorem fo_quiet {w w' : World} {l : List V} {ao : Option Addr} (h : Fo w l ao) (q : Quiet w w') : Fo w' l ao := fun i hi => by
  obtain ⟨b, off, e, k⟩ := h i hi
  exact ⟨b, off, e, at_quiet k q⟩
theorem fo_get {w : World} {l : List V} {ao : Option Addr} (h : Fo w l ao) (i : Nat) (hi : i < l.length) :
    ∃ b off, ao = some ⟨b, off, none⟩ ∧ w.cell? ⟨b, off + i * 3, none⟩ = some (.int .i64 l[i].kind) ∧ w.cell? ⟨b, off + i * 3 + 1, none⟩ = some (.int .i64 l[i].n) ∧ ∃ ai cap, w.cell? ⟨b, off + i * 3 + 2, none⟩ = some (.slice ai l[i].l.length cap) ∧ Is w l[i] ai := by
  obtain ⟨b, off, e, h⟩ := h i hi
  exact ⟨b, off, e, (at_iff3 w _ _ _).1 h⟩
theorem take_eq' {a b : List V} (hl : a.length = b.length) (j : Nat) (hj : j < a.length) (h : a.take j = b.take j) (h2 : a[j] = b[j]'(hl ▸ hj)) : a.take (j + 1) = b.take (j + 1) := by
  rw [List.take_add_one, List.take_add_one, List.getElem?_eq_getElem hj, List.getElem?_eq_getElem (hl ▸ hj), h, h2]
set_option maxRecDepth 8000 in
set_option maxHeartbeats 1000000 in
theorem sameVals_of (xs ys : List V) (hih : ∀ x ∈ xs, SameOk x) (xa ya : Option Addr) (xc yc : Nat) (w : World) (hx : Fo w xs xa) (hy : Fo w ys ya) (hS : sizes xs ≤ 500) :
    Calls Tryz.prog 23 #[.slice xa xs.length xc, .slice ya ys.length yc] w fun e w' => e = .returned (.bool (sames xs ys)) ∧ Quiet w w' := by
  have hlen : xs.length ≤ 500 := by have := sizes_len xs; omega
  by_cases hll : xs.length = ys.length
  · rw [← hll]
    have HLL := hid hll
    have HI := hid (And.intro hih (And.intro hx hy))
    clear hll hih hx hy
    go_enter Tryz.func23, Tryz.ntmps23
    go_wp2
    go_loopw [5] (fun i wr => ∃ j : Nat, j ≤ xs.length ∧ i = .int .i64 j ∧ xs.take j = ys.take j ∧ Quiet w wr) (fun i _ => xs.length - (intOf i).toNat)
    case atStart => exact ⟨0, Nat.zero_le _, rfl, by simp, Kp.refl _ _⟩
    case round =>
      obtain ⟨j, hj, rfl, he, q⟩ := hrel
      have HE := hid he
      clear he
      by_cases hlt : j < xs.length
      · obtain ⟨b, off, rfl, d0, d1, ai, ci, d2, hi⟩ := fo_get (fo_quiet HI.out.2.1 q) j hlt
        obtain ⟨b', off', rfl, e0, e1, ai', ci', e2, hi'⟩ := fo_get (fo_quiet HI.out.2.2 q) j (HLL.out ▸ hlt)
        have hsz : xs[j].size ≤ 500 := by have := size_get xs j hlt; omega
        have HC := hid (HI.out.1 xs[j] (List.getElem_mem hlt) (ys[j]'(HLL.out ▸ hlt)) ai ai' ci ci' wr.drew (hi.quiet (Kp.drew _)) (hi'.quiet (Kp.drew _)) hsz)
        have HN := hid (take_eq' HLL.out j hlt HE.out)
        have HF : Hid (¬ xs[j] = ys[j]'(HLL.out ▸ hlt) → ¬ xs = ys) := fun h e => h (by subst e; rfl)
        generalize hu : xs[j] = x at *
        generalize hv : ys[j]'(HLL.out ▸ hlt) = y at *
        clear hu hv hi hi' hsz
        cases hxy : x.same y with
        | true =>
          have h1 := hid ((same_iff x y).1 hxy)
          go_wp2
          go_still_tail 8, Tryz.mixed
          go_wp2_with (go_at_call 21; refine HC.out.mono ?_; rintro e w3 ⟨rfl, q3⟩; rw [hxy])
          exact ⟨⟨j + 1, by omega, by go_num, HN.out h1.out, q.trans ((Kp.drew _).trans q3)⟩, by simp [intOf]; omega⟩
        | false =>
          have h1 : Hid (¬ x = y) := fun e => by rw [same_iff x y |>.2 e] at hxy; simp at hxy
          go_wp2
          go_still_tail 8, Tryz.mixed
          go_wp2_with (go_at_call 21; refine HC.out.mono ?_; rintro e w3 ⟨rfl, q3⟩; rw [hxy])
          go_ret
          exact ⟨by rw [sames_false (HF.out h1.out)]; rfl, q.trans ((Kp.drew _).trans q3)⟩
      · have hE := hid (show xs = ys by have h := HE.out; rw [List.take_of_length_le (by omega), List.take_of_length_le (by have := HLL.out; omega)] at h; exact h)
        go_wp2
        go_ret
        exact ⟨by rw [sames_true hE.out]; rfl, q⟩
  · have hE := hid (sames_false (a := xs) (b := ys) (fun h => hll (h ▸ rfl)))
    have l1 : ((xs.length : Int) != (ys.length : Int)) = true := by simp; omega
    clear hih hx hy
    go_enter Tryz.func23, Tryz.ntmps23
    go_wp2
    go_ret
    exact ⟨by rw [hE.out]; rfl, Kp.refl _ _⟩
set_option maxRecDepth 8000 in
set_option maxHeartbeats 1000000 in
theorem sameVal_any (v : V) : SameOk v := by
  induction v using V.ind with
  | h k n l ih =>
    intro u xa ua xc uc w hx hu hS
    obtain ⟨k', n', l'⟩ := u
    have q1 : Quiet w (w.alloc (.cells #[.int .i64 k, .int .i64 n, .slice xa l.length xc] 31)) := Kp.alloc _ _
    have q2 : Quiet _ ((w.alloc (.cells #[.int .i64 k, .int .i64 n, .slice xa l.length xc] 31)).alloc (.cells #[.int .i64 k', .int .i64 n', .slice ua l'.length uc] 31)) := Kp.alloc _ _
    have q12 := q1.trans q2
    have HC := hid (sameVals_of l l' ih xa ua xc uc _ (fo_quiet hx.fo q12) (fo_quiet hu.fo q12) (by rw [size_mk] at hS; omega))
    clear ih hx hu
    by_cases hk : k = k'
    · subst hk
      by_cases hn : n = n'
      · subst hn
        have hE := hid (show (V.mk k n l).same ⟨k, n, l'⟩ = sames l l' by rw [same_mk]; simp)
        go_enter Tryz.func21, Tryz.ntmps21
        go_wp2_with (go_at_call 23; refine HC.out.mono ?_; rintro e w3 ⟨rfl, q3⟩)
        go_ret
        exact ⟨by rw [hE.out]; rfl, q12.trans q3⟩
      · have hE := hid (show (V.mk k n l).same ⟨k, n', l'⟩ = false by rw [same_mk]; simp [hn])
        have l1 : (n == n') = false := by simpa using hn
        have l2 : decide (n = n') = false := by simpa using hn
        go_enter Tryz.func21, Tryz.ntmps21
        go_wp2_with (go_at_call 23; refine HC.out.mono ?_; rintro e w3 ⟨rfl, q3⟩)
        go_ret
        exact ⟨by rw [hE.out]; rfl, q12⟩
    · have hE := hid (show (V.mk k n l).same ⟨k', n', l'⟩ = false by rw [same_mk]; simp [hk])
      have l1 : (k == k') = false := by simpa using hk
      have l2 : decide (k = k') = false := by simpa using hk
      go_enter Tryz.func21, Tryz.ntmps21
      go_wp2_with (go_at_call 23; refine HC.out.mono ?_; rintro e w3 ⟨rfl, q3⟩)
      go_ret
      exact ⟨by rw [hE.out]; rfl, q12⟩
end Go.Proofs.YtgojcohcimmfjaaGreat
namespace Go.Proofs.YtgojcohcimmfjaaGreat
open Go.ChangeShapes Go.WideShapes Go.ChangeAt Go.RowKit
open Gr (Nd Res nd0 thereB openB deriveOf addOf gateOf cutOf cellB cellOf funcB funcOf rightsN wayOf gatesOf gatesW targetOf Wf NdOk GS IntsAt)
section
variable {M : Hx} {q q' : Hq} {h h' : Hs} {w w' W w4 : World} {X : Nat → Prop} {vn' vo' vl' : Value} {ms' : Mods} {s' : Sg}
theorem HouseS.bfree (H : HouseS X M q h w) : ¬ OwnB M.bb M.g M.wd q.n q.o q.l M.hb ∧ ∀ p, p < 4 → ∀ k, (Value.slice (q.r p).1 0 0).ownBlock = some k → ¬ OwnB M.bb M.g M.wd q.n q.o q.l k ∧ k ≠ M.hb := by
  obtain ⟨a, b, c, d, hb⟩ := H.box.is
  refine ⟨hb.free H.obj (by decide) (by decide) (by decide) (by decide) (by decide) (by decide), fun p hp k hk => ?_⟩
  obtain ⟨cs, hc⟩ := row_type (H.row p hp) ((own_len _ _ _ _ _).trans hk)
  exact ⟨hb.free hc (by decide) (by decide) (by decide) (by decide) (by decide) (by decide), fun e => by rw [e, H.obj] at hc; simp at hc⟩
/-- Its box goes on. -/
theorem HouseS.goesB (H : HouseS X M q h w) (g : GoesB M.bb M.g M.wd q.n q.o q.l w vn' vo' vl' w') (hb : BoxX (fun k => OwnX M q k ∨ X k) M.B w' M.bb M.g M.wd vn' vo' vl' ms' s') (ok : HOk ⟨s', ms', h.hs⟩) (fit : FitsM ms') (ci : ∀ c ∈ s'.cs, In64 c) :
    HouseS X M ⟨vn', vo', vl', q.r⟩ ⟨s', ms', h.hs⟩ w' ∧ GoesH M q w ⟨vn', vo', vl', q.r⟩ w' := by
  have G : GoesH M q w ⟨vn', vo', vl', q.r⟩ w' := ⟨g.kp.mono fun _ _ e => .inl e, fun k e => by
    rcases e with e | e
    · rcases g.own k e with e | e
      · exact .inl (.inl e)
      · exact .inr e
    · exact .inl (.inr e)⟩
  obtain ⟨f1, f2⟩ := H.bfree
  refine ⟨⟨hb, (g.block H.obj f1).1, fun p hp => g.kp.row (H.row p hp) fun k hk => (f2 p hp k ((own_len _ _ _ _ _).trans hk)).1, H.ap, H.leaf, ok, fit, ci, H.lo, fun k hk => ⟨Nat.lt_of_lt_of_le (H.xo k hk).1 g.kp.size, fun e => ?_⟩⟩, G⟩
  rcases G.own k e with e | e
  · exact (H.xo k hk).2 e
  · have := (H.xo k hk).1; omega
/-- What it kept hangs on none of those blocks still. -/
theorem BoxX.goes {B bb g wd : Nat} {vn vo vl : Value} {ms : Mods} {s : Sg} {Y : Nat → Prop} (H : BoxX Y B w bb g wd vn vo vl ms s) (hg : GoesB bb g wd vn vo vl w vn' vo' vl' w') (hb : ∀ a b c d, BoxS B w bb g wd vn vo vl ms s a b c d → BoxS B w' bb g wd vn' vo' vl' ms s' a b c d) : BoxX Y B w' bb g wd vn' vo' vl' ms s' := by
  obtain ⟨a, b, c, d, h, hk⟩ := H
  refine ⟨a, b, c, d, hb a b c d h, fun x hx => (hk x hx).step (hg.kp.mono fun _ _ e => .inl e) fun k hk e => ?_⟩
  rcases e with e | e
  · rcases hg.own k e with e | e
    · exact .inl e
    · omega
  · exact .inr e
/-- A step of its graph. -/
theorem HouseS.graph {ns' : List Nd} {os' : List Bool} (H : HouseS X M q h w) (hg : Gr.Goes M.g q.n q.o w vn' vo' w') (hgs : GS 104 M.B w' M.g vn' vo' ns' os') (hwf : Wf ns' os'.length) (ok : HOk { h with s := { h.s with ns := ns', os := os' } }) :
    HouseS X M ⟨vn', vo', q.l, q.r⟩ { h with s := { h.s with ns := ns', os := os' } } w' ∧ GoesH M q w ⟨vn', vo', q.l, q.r⟩ w' := by
  obtain ⟨a, b, c, d, hb⟩ := H.box.is
  obtain ⟨_, g⟩ := hb.graph hg hgs hwf
  exact H.goesB (s' := { h.s with ns := ns', os := os' }) (ms' := h.ms) g (H.box.goes g fun a b c d hb => (hb.graph hg hgs hwf).1) ok H.fit H.ci
/-- A run. -/
theorem HouseS.run {p k : Int} {v : V} {e : Ending} (H : HouseS X M q h w) (hr : RunXQ (fun k => OwnX M q k ∨ X k) M.B M.bb M.g M.wd q.n q.o q.l h.ms (runR h.ms p k v 2000 h.s) w e w') :
    ∃ q' ao cap, e = .returned (.tuple #[.agg #[.int .i64 (gotV (runR h.ms p k v 2000 h.s).1).kind, .int .i64 (gotV (runR h.ms p k v 2000 h.s).1).n, .slice ao (gotV (runR h.ms p k v 2000 h.s).1).l.length cap], .int .i64 (runR h.ms p k v 2000 h.s).2.1, .int .i64 (gotC (runR h.ms p k v 2000 h.s).1)]) ∧ HouseS X M q' (runH h p k v).2 w' ∧ GoesH M q w q' w' ∧ SafeF (fun k => OwnH M q' k ∨ X k) (fun w => Is w (gotV (runR h.ms p k v 2000 h.s).1) ao) w' := by
  obtain ⟨ao, cap, vn', vo', vl', he, hs, hb, g, ci⟩ := hr
  obtain ⟨h1, h2⟩ := H.goesB g hb (H.ok.run p k v) H.fit ci
  refine ⟨_, ao, cap, he, h1, h2, hs.mono fun i _ e => ?_⟩
  rcases e with (e | e) | e
  · exact .inl e
  · exact .inr (.inl e)
  · exact .inr (.inr e)
/-- A plugin is another one. -/
def loadW (w : World) (bb j : Nat) (code : Value) : World := ((((w.setCell ⟨bb, 2 + j * 5, none⟩ (.bool true)).setCell ⟨bb, 2 + j * 5 + 1, none⟩ code).setCell ⟨bb, 2 + j * 5 + 2, none⟩ (.int .i64 0)).setCell ⟨bb, 2 + j * 5 + 3, none⟩ (.int .i64 0)).setCell ⟨bb, 2 + j * 5 + 4, none⟩ (.slice none 0 0)
theorem load_list {w : World} {b : Nat} {L : List Value} {t : TypeId} (h : w.heap[b]? = some (.cells L.toArray t (0, 0))) (j : Nat) (code : Value) : (loadW w b j code).heap[b]? = some (.cells (((((L.set (2 + j * 5) (.bool true)).set (2 + j * 5 + 1) code).set (2 + j * 5 + 2) (.int .i64 0)).set (2 + j * 5 + 3) (.int .i64 0)).set (2 + j * 5 + 4) (.slice none 0 0)).toArray t (0, 0)) :=
  list_set (list_set (list_set (list_set (list_set h _ _) _ _) _ _) _ _) _ _
theorem load_kp (w : World) (bb j : Nat) (code : Value) : Kp (fun k => k = bb) w (loadW w bb j code) := ((((kp_set _ _ _ _).trans (kp_set _ _ _ _)).trans (kp_set _ _ _ _)).trans (kp_set _ _ _ _)).trans (kp_set _ _ _ _)
theorem BoxX.load {B bb g wd : Nat} {vn vo vl : Value} {ms : Mods} {s : Sg} {Y : Nat → Prop} {l : List Ex.V} {ao : Option Addr} {cap j : Nat} (H : BoxX Y B w bb g wd vn vo vl ms s) (hj : j < 4) (hc : CodeAt w (.slice ao l.length cap) l) (hl : ∀ v ∈ l, v.bad l.length 0 = 0) :
    BoxX Y B (loadW w bb j (.slice ao l.length cap)) bb g wd vn vo vl (ms.set j (some l)) { s with ks := s.ks.set j v0 } ∧ GoesB bb g wd vn vo vl w vn vo vl (loadW w bb j (.slice ao l.length cap)) := by
  obtain ⟨a, b, c, d, h, hk⟩ := H
  obtain ⟨ma, mb, mc, md, e, ha, hb, hc', hd⟩ := h.mods
  have kp := load_kp w bb j (.slice ao l.length cap)
  have hks := h.ks
  have hs : ∀ x, x = a ∨ x = b ∨ x = c ∨ x = d → SafeF (fun k => OwnB bb g wd vn vo vl k ∨ Y k) (fun w => Is w x.kept x.ao) (loadW w bb j (.slice ao l.length cap)) := fun x hx => (hk x hx).step (kp.mono fun k _ e => .inl (.inl e)) fun _ _ e => e
  have hz : SafeF (fun k => OwnB bb g wd vn vo vl k ∨ Y k) (fun w => Is w v0 none) (loadW w bb j (.slice ao l.length cap)) := safe_leaf v0 v0_fits rfl none
  have hp : PgS w (OwnB bb g wd vn vo vl) (some l) ⟨true, .slice ao l.length cap, v0, none, 0⟩ := pgs_new hc hl
  subst e
  obtain rfl | rfl | rfl | rfl : j = 0 ∨ j = 1 ∨ j = 2 ∨ j = 3 := by omega
  · obtain ⟨h1, h2⟩ := h.put (a' := ⟨true, .slice ao l.length cap, v0, none, 0⟩) (b' := b) (c' := c) (d' := d) kp (load_list h.obj _ _) (s' := { s with ks := s.ks.set 0 v0 }) (by rw [hks]; rfl) hp hb hc' hd
    exact ⟨⟨_, _, _, _, h1, fun x hx => by rcases hx with rfl | hx; exact hz; exact hs x (.inr hx)⟩, h2⟩
  · obtain ⟨h1, h2⟩ := h.put (a' := a) (b' := ⟨true, .slice ao l.length cap, v0, none, 0⟩) (c' := c) (d' := d) kp (load_list h.obj _ _) (s' := { s with ks := s.ks.set 1 v0 }) (by rw [hks]; rfl) ha hp hc' hd
    exact ⟨⟨_, _, _, _, h1, fun x hx => by rcases hx with hx | rfl | hx; exact hs x (.inl hx); exact hz; exact hs x (.inr (.inr hx))⟩, h2⟩
  · obtain ⟨h1, h2⟩ := h.put (a' := a) (b' := b) (c' := ⟨true, .slice ao l.length cap, v0, none, 0⟩) (d' := d) kp (load_list h.obj _ _) (s' := { s with ks := s.ks.set 2 v0 }) (by rw [hks]; rfl) ha hb hp hd
    exact ⟨⟨_, _, _, _, h1, fun x hx => by rcases hx with hx | hx | rfl | hx; exact hs x (.inl hx); exact hs x (.inr (.inl hx)); exact hz; exact hs x (.inr (.inr (.inr hx)))⟩, h2⟩
  · obtain ⟨h1, h2⟩ := h.put (a' := a) (b' := b) (c' := c) (d' := ⟨true, .slice ao l.length cap, v0, none, 0⟩) kp (load_list h.obj _ _) (s' := { s with ks := s.ks.set 3 v0 }) (by rw [hks]; rfl) ha hb hc' hp
    exact ⟨⟨_, _, _, _, h1, fun x hx => by rcases hx with hx | hx | hx | rfl; exact hs x (.inl hx); exact hs x (.inr (.inl hx)); exact hs x (.inr (.inr (.inl hx))); exact hz⟩, h2⟩
/-- A module is loaded. -/
theorem HouseS.load {l : List Ex.V} {ao : Option Addr} {cap j : Nat} (H : HouseS X M q h w) (hj : j < 4) (hc : CodeAt w (.slice ao l.length cap) l) (hl : ∀ v ∈ l, v.bad l.length 0 = 0) (hf : ∀ x ∈ l, ∀ i ∈ Ex.funC x, In64 i.n) (ok : HOk ⟨{ h.s with ks := h.s.ks.set j v0 }, h.ms.set j (some l), h.hs⟩) :
    HouseS X M q ⟨{ h.s with ks := h.s.ks.set j v0 }, h.ms.set j (some l), h.hs⟩ (loadW w M.bb j (.slice ao l.length cap)) ∧ GoesH M q w q (loadW w M.bb j (.slice ao l.length cap)) := by
  obtain ⟨h1, h2⟩ := H.box.load hj hc hl
  refine H.goesB h2 h1 ok (fun i m hm x hx k hk => ?_) H.ci
  rw [List.getD_eq_getElem?_getD, List.getElem?_set] at hm
  by_cases e : j = i
  · rw [if_pos e] at hm
    by_cases e2 : j < h.ms.length
    · rw [if_pos e2] at hm
      simp only [Option.getD_some, Option.some.injEq] at hm
      subst hm
      exact hf x hx k hk
    · rw [if_neg e2] at hm; cases hm
  · rw [if_neg e, ← List.getD_eq_getElem?_getD] at hm
    exact H.fit i m hm x hx k hk
/-- A hand has one thing more. -/
theorem HouseS.push {g cap p : Nat} {v : V} (H : HouseS X M q h w) (kW : Quiet w W) (hp : p < 4) (hv : v.l = [] ∧ v.fits) (ok : HOk { h with hs := h.hs.set p (h.hs.getD p [] ++ [v]) })
    (hr : w4.ownsRow M.B 31 3 (.slice (some ⟨g, 0, none⟩) ((h.hs.getD p []).length + 1) cap) ((h.hs.getD p []).length + 1) (tris (hd (h.hs.getD p [])) ++ tri (v, none, 0))) (hg : W.grownBy w4 (handV q h p).ownBlock) (hat : (handV q h p).ownBlock = some g ∨ W.heap.size ≤ g) :
    HouseS X M { q with r := upd q.r p (some ⟨g, 0, none⟩, cap) } { h with hs := h.hs.set p (h.hs.getD p [] ++ [v]) } (w4.setCell ⟨M.hb, 1 + p, none⟩ (.slice (some ⟨g, 0, none⟩) ((h.hs.getD p []).length + 1) cap)) ∧
    GoesH M q w { q with r := upd q.r p (some ⟨g, 0, none⟩, cap) } (w4.setCell ⟨M.hb, 1 + p, none⟩ (.slice (some ⟨g, 0, none⟩) ((h.hs.getD p []).length + 1) cap)) := by
  have HW := H.quiet kW
  obtain ⟨f1, f2⟩ := HW.bfree
  have hlen := H.ok.len
  have hrow : ∀ k, (handV q h p).ownBlock = some k ↔ (Value.slice (q.r p).1 0 0).ownBlock = some k := fun k => by unfold handV; rw [own_len]
  have hgd : ∀ i, (h.hs.set p (h.hs.getD p [] ++ [v])).getD i [] = if i = p then h.hs.getD p [] ++ [v] else h.hs.getD i [] := fun i => by
    rw [List.getD_eq_getElem?_getD, List.getElem?_set]
    by_cases e : p = i
    · rw [if_pos e, if_pos (by omega), if_pos e.symm]; rfl
    · rw [if_neg e, if_neg fun e2 => e e2.symm, ← List.getD_eq_getElem?_getD]
  have hur : ∀ i, upd q.r p (some ⟨g, 0, none⟩, cap) i = if i = p then (some ⟨g, 0, none⟩, cap) else q.r i := fun i => rfl
  have hgb : ∀ k, (Value.slice (some (⟨g, 0, none⟩ : Addr)) 0 0).ownBlock = some k → k = g := fun k e => by simp [Value.ownBlock] at e; exact e.symm
  have hwz := kW.size
  have hgx : g ≠ M.hb := by
    rcases hat with e | e
    · exact (f2 p hp g ((hrow g).1 e)).2
    · have := lt_of_block HW.obj; omega
  -- what may turn
  have k1 : Kp (fun k => (handV q h p).ownBlock = some k) W w4 := Kp.grown hg fun k _ e => e.symm
  have k2 := kp_set w4 M.hb (1 + p) (.slice (some ⟨g, 0, none⟩) ((h.hs.getD p []).length + 1) cap)
  have kp : Kp (fun k => k = M.hb ∨ (handV q h p).ownBlock = some k) W (w4.setCell ⟨M.hb, 1 + p, none⟩ (.slice (some ⟨g, 0, none⟩) ((h.hs.getD p []).length + 1) cap)) := (k1.mono fun _ _ e => .inr e).trans (k2.mono fun _ _ e => .inl e)
  have hb4 : w4.heap[M.hb]? = _ := (k1.block _ (lt_of_block HW.obj) fun e => (f2 p hp _ ((hrow _).1 e)).2 rfl).trans HW.obj
  -- blocks that are its own then
  have hown : ∀ k, OwnX M { q with r := upd q.r p (some ⟨g, 0, none⟩, cap) } k → OwnX M q k ∨ W.heap.size ≤ k := fun k e => by
    rcases e with e | ⟨i, hi, e⟩
    · exact .inl (.inl e)
    · simp only [hur] at e
      by_cases ei : i = p
      · rw [if_pos ei] at e
        rw [hgb k e]
        rcases hat with e2 | e2
        · exact .inl (.inr ⟨p, hp, (hrow g).1 e2⟩)
        · exact .inr e2
      · rw [if_neg ei] at e
        exact .inl (.inr ⟨i, hi, e⟩)
  have hF : ∀ k, (k = M.hb ∨ (handV q h p).ownBlock = some k) → OwnX M q k := fun k e => by
    rcases e with e | e
    · exact .inl e
    · exact .inr ⟨p, hp, (hrow k).1 e⟩
  have hFB : ∀ k, OwnB M.bb M.g M.wd q.n q.o q.l k → ¬ (k = M.hb ∨ (handV q h p).ownBlock = some k) := fun k hk e => by
    rcases e with e | e
    · exact f1 (e ▸ hk)
    · exact (f2 p hp k ((hrow k).1 e)).1 hk
  have hbox : BoxX (fun k => OwnX M { q with r := upd q.r p (some ⟨g, 0, none⟩, cap) } k ∨ X k) M.B (w4.setCell ⟨M.hb, 1 + p, none⟩ (.slice (some ⟨g, 0, none⟩) ((h.hs.getD p []).length + 1) cap)) M.bb M.g M.wd q.n q.o q.l h.ms h.s := by
    have b1 := HW.box.step (X' := fun k => OwnX M q k ∨ OwnX M { q with r := upd q.r p (some ⟨g, 0, none⟩, cap) } k ∨ X k) (Kp.refl _ _) (fun i hi e => by
      rcases e with e | e | e
      · exact .inl e
      · rcases hown i e with e | e
        · exact .inl e
        · omega
      · exact .inr e)
    have b2 := b1.beside kp (fun k e => .inl (hF k e)) hFB (fun k cs t hk ht e => by
      rcases e with e | e
      · rw [e, HW.obj] at hk
        simp at hk
        rcases ht with ht | ht <;> rw [ht] at hk <;> exact absurd hk.2 (by decide)
      · obtain ⟨cs', hc'⟩ := row_type (HW.row p hp) e
        rw [hc'] at hk
        simp at hk
        rcases ht with ht | ht <;> rw [ht] at hk <;> exact absurd hk.2 (by decide))
    exact b2.step (Kp.refl _ _) fun i _ e => .inr e
  have hobj : (w4.setCell ⟨M.hb, 1 + p, none⟩ (.slice (some ⟨g, 0, none⟩) ((h.hs.getD p []).length + 1) cap)).heap[M.hb]? = some (.cells #[.pointer (some ⟨M.bb, 0, none⟩), handV { q with r := upd q.r p (some ⟨g, 0, none⟩, cap) } { h with hs := h.hs.set p (h.hs.getD p [] ++ [v]) } 0, handV { q with r := upd q.r p (some ⟨g, 0, none⟩, cap) } { h with hs := h.hs.set p (h.hs.getD p [] ++ [v]) } 1, handV { q with r := upd q.r p (some ⟨g, 0, none⟩, cap) } { h with hs := h.hs.set p (h.hs.getD p [] ++ [v]) } 2, handV { q with r := upd q.r p (some ⟨g, 0, none⟩, cap) } { h with hs := h.hs.set p (h.hs.getD p [] ++ [v]) } 3] 46 (0, 0)) := by
    have hs := list_set (L := [_, _, _, _, _]) hb4 (1 + p) (.slice (some ⟨g, 0, none⟩) ((h.hs.getD p []).length + 1) cap)
    rw [hs]
    unfold handV
    simp only [hur, hgd]
    obtain rfl | rfl | rfl | rfl : p = 0 ∨ p = 1 ∨ p = 2 ∨ p = 3 := by omega
    all_goals simp
  have hrows : ∀ i, i < 4 → (w4.setCell ⟨M.hb, 1 + p, none⟩ (.slice (some ⟨g, 0, none⟩) ((h.hs.getD p []).length + 1) cap)).ownsRow M.B 31 3 (handV { q with r := upd q.r p (some ⟨g, 0, none⟩, cap) } { h with hs := h.hs.set p (h.hs.getD p [] ++ [v]) } i) ((h.hs.set p (h.hs.getD p [] ++ [v])).getD i []).length (tris (hd ((h.hs.set p (h.hs.getD p [] ++ [v])).getD i []))) := fun i hi => by
    unfold handV
    simp only [hur, hgd]
    by_cases ei : i = p
    · simp only [if_pos ei]
      have h1 := k2.row hr (fun k hk e => by simp [Value.ownBlock] at hk; omega)
      rw [show (h.hs.getD p [] ++ [v]).length = (h.hs.getD p []).length + 1 by simp, show hd (h.hs.getD p [] ++ [v]) = hd (h.hs.getD p []) ++ [(v, none, 0)] by simp [hd], tris_app, tris_one]
      exact h1
    · simp only [if_neg ei]
      exact kp.row (HW.row i hi) fun k hk e => by
        have hk' : (Value.slice (q.r i).1 0 0).ownBlock = some k := (own_len _ _ _ _ _).trans hk
        rcases e with e | e
        · exact (f2 i hi k hk').2 e
        · exact H.ap i p hi hp ei k hk' ((hrow k).1 e)
  have hap : ∀ i j, i < 4 → j < 4 → i ≠ j → ∀ k, (Value.slice (upd q.r p (some ⟨g, 0, none⟩, cap) i).1 0 0).ownBlock = some k → (Value.slice (upd q.r p (some ⟨g, 0, none⟩, cap) j).1 0 0).ownBlock ≠ some k := fun i j hi hj hij k hk hk2 => by
    have other : ∀ i, i < 4 → i ≠ p → (Value.slice (q.r i).1 0 0).ownBlock ≠ some g := fun i hi ei e => by
      rcases hat with e2 | e2
      · exact H.ap i p hi hp ei g e ((hrow g).1 e2)
      · have := ((HW.row i hi).lt g ((own_len _ _ _ _ _).trans e)).2; omega
    simp only [hur] at hk hk2
    by_cases ei : i = p
    · have ej : j ≠ p := fun e => hij (ei.trans e.symm)
      rw [if_pos ei] at hk
      rw [if_neg ej] at hk2
      exact other j hj ej (hgb k hk ▸ hk2)
    · rw [if_neg ei] at hk
      by_cases ej : j = p
      · rw [if_pos ej] at hk2
        exact other i hi ei (hgb k hk2 ▸ hk)
      · rw [if_neg ej] at hk2
        exact H.ap i j hi hj hij k hk hk2
  have G : GoesH M q w { q with r := upd q.r p (some ⟨g, 0, none⟩, cap) } (w4.setCell ⟨M.hb, 1 + p, none⟩ (.slice (some ⟨g, 0, none⟩) ((h.hs.getD p []).length + 1) cap)) := ⟨(kW.mono fun _ _ e => e.elim).trans (kp.mono fun k _ e => .inr (hF k e)), fun k e => by
    rcases e with e | e
    · exact .inl (.inl e)
    · rcases hown k e with e | e
      · exact .inl (.inr e)
      · exact .inr (by omega)⟩
  refine ⟨⟨hbox, hobj, hrows, hap, fun i hi u hu => ?_, ok, H.fit, H.ci, H.lo, fun k hk => ⟨Nat.lt_of_lt_of_le (H.xo k hk).1 G.kp.size, fun e => ?_⟩⟩, G⟩
  · simp only [hgd] at hu
    by_cases ei : i = p
    · rw [if_pos ei] at hu
      rcases List.mem_append.1 hu with hu | hu
      · exact H.leaf p hp u hu
      · rw [List.mem_singleton.1 hu]; exact hv
    · rw [if_neg ei] at hu
      exact H.leaf i hi u hu
  · rcases G.own k e with e | e
    · exact (H.xo k hk).2 e
    · have := (H.xo k hk).1; omega
/-- A box above a place is above a lower one. -/
theorem box_mono {B B' bb g wd : Nat} {vn vo vl : Value} {ms : Mods} {s : Sg} {a b c d : Pg} (h : BoxS B w bb g wd vn vo vl ms s a b c d) (hB : B' ≤ B) : BoxS B' w bb g wd vn vo vl ms s a b c d :=
  ⟨h.obj, ⟨h.gs.obj, owns_mono h.gs.rn hB, owns_mono h.gs.ro hB, h.gs.nb, h.gs.ob, h.gs.no, Nat.le_trans hB h.gs.lo, h.gs.ln, h.gs.lg⟩, h.wf, ⟨h.ws.obj, owns_mono h.ws.row hB, h.ws.ne, Nat.le_trans hB h.ws.lo⟩, h.ks, Nat.le_trans hB h.lo, h.mods⟩
/-- A new box keeps nothing. -/
theorem boxx_new {B bb g wd : Nat} {vn vo vl : Value} {ms : Mods} {Y : Nat → Prop} (H : BoxIs B w bb g wd vn vo vl ms s0) : BoxX Y B w bb g wd vn vo vl ms s0 := by
  obtain ⟨a, b, c, d, h⟩ := H
  refine ⟨a, b, c, d, h, fun x hx => ?_⟩
  have hks := h.ks
  simp only [s0, List.cons.injEq, and_true] at hks
  obtain ⟨e1, e2, e3, e4⟩ := hks
  have e : x.kept = v0 := by
    rcases hx with rfl | rfl | rfl | rfl
    · exact e1.symm
    · exact e2.symm
    · exact e3.symm
    · exact e4.symm
  rw [e]
  exact safe_leaf v0 v0_fits rfl x.ao
/-- A new house. -/
theorem house_new {B bb g wd : Nat} {vn vo vl : Value} (H : BoxIs B w bb g wd vn vo vl [none, none, none, none] s0) (hX : ∀ k, X k → k < w.heap.size ∧ ¬ OwnB bb g wd vn vo vl k) (hB : B ≤ w.heap.size) :
    HouseS X ⟨B, w.heap.size, bb, g, wd⟩ ⟨vn, vo, vl, fun _ => (none, 0)⟩ h00 (w.alloc (.cells #[.pointer (some ⟨bb, 0, none⟩), .slice none 0 0, .slice none 0 0, .slice none 0 0, .slice none 0 0] 46)) := by
  have q1 : Quiet w (w.alloc (.cells #[.pointer (some ⟨bb, 0, none⟩), .slice none 0 0, .slice none 0 0, .slice none 0 0, .slice none 0 0] 46)) := Kp.alloc _ _
  have hnb : ∀ k : Nat, ¬ (Value.slice none 0 0).ownBlock = some k := fun k e => by simp [Value.ownBlock] at e
  have hrep : ∀ p : Nat, (List.replicate 4 ([] : List V)).getD p [] = [] := fun p => by
    rw [List.getD_eq_getElem?_getD, List.getElem?_replicate]; split <;> rfl
  have hh : ∀ p : Nat, h00.hs.getD p [] = [] := hrep
  refine ⟨(boxx_new (Y := fun k => OwnX _ _ k ∨ X k) H).quiet q1, ?_, fun p _ => ?_, fun p p' _ _ _ k hk => absurd hk (hnb k), fun p _ v hv => ?_, hok0, fun j l hl => ?_, ?_, hB, fun k hk => ⟨?_, fun e => ?_⟩⟩
  · have h1 := heap_alloc_new w (.cells #[.pointer (some ⟨bb, 0, none⟩), .slice none 0 0, .slice none 0 0, .slice none 0 0, .slice none 0 0] 46)
    unfold handV
    simp only [hh, List.length_nil]
    exact h1
  · unfold handV
    rw [hh]
    exact World.ownsRow_nil _ _ _ _
  · rw [hh] at hv; simp at hv
  · exfalso
    have : (List.replicate 4 (none : Option (List Ex.V))).getD j none = none := by rw [List.getD_eq_getElem?_getD, List.getElem?_replicate]; split <;> rfl
    rw [show h00.ms.getD j none = none from this] at hl
    cases hl
  · intro c hc
    have : c = 0 := List.eq_of_mem_replicate (show c ∈ List.replicate 12 (0 : Int) from hc)
    rw [this]; exact ⟨by decide, by decide⟩
  · exact Nat.lt_of_lt_of_le (hX k hk).1 q1.size
  · rcases e with e | e | ⟨p, _, e⟩
    · exact (hX k hk).2 e
    · have := (hX k hk).1; simp only at e; omega
    · exact hnb k e
end
end Go.Proofs.YtgojcohcimmfjaaGreat
namespace Go.Proofs.YtgojcohcimmfjaaGreat
open Go.ChangeShapes Go.WideShapes Go.ChangeAt Go.RowKit
theorem head_fun {w : World} {v u : V} {b off : Nat} (h : v.head w b off) (h' : u.head w b off) : v.kind = u.kind ∧ v.n = u.n := by
  obtain ⟨a1, a2⟩ := h; obtain ⟨b1, b2⟩ := h'
  rw [a1] at b1; rw [a2] at b2
  simp only [Option.some.injEq, Value.int.injEq, true_and] at b1 b2
  exact ⟨b1, b2⟩
theorem at_fun {w : World} (v : V) : ∀ (u : V) (b off : Nat), v.at w b off → u.at w b off → v = u := by
  induction v using V.ind' with
  | h v ih =>
    intro u b off hv hu
    rw [at_iff] at hv hu
    obtain ⟨c0, ao, cap, c2, hI⟩ := hv
    obtain ⟨d0, ao', cap', d2, hU⟩ := hu
    rw [c2] at d2
    simp only [Option.some.injEq, Value.slice.injEq] at d2
    obtain ⟨rfl, hlen, _⟩ := d2
    rw [v_ext]
    refine ⟨head_fun c0 d0, ?_⟩
    refine List.ext_getElem hlen fun i h1 h2 => ?_
    obtain ⟨b1, o1, e1, k1⟩ := hI.fo i h1
    obtain ⟨b2, o2, e2, k2⟩ := hU.fo i h2
    rw [e1] at e2; cases e2
    exact ih _ (List.getElem_mem h1) _ _ _ k1 k2
end Go.Proofs.YtgojcohcimmfjaaGreat
namespace Go.Proofs.YtgojcohcimmfjaaGreat
open Go.ChangeShapes Go.WideShapes Go.ChangeAt Go.RowKit
/-- A list is exchanged for a copy: every thing is what it was. -/
theorem at_write {w w' : World} {t : V} {b off : Nat} {cap' : Nat} {ao' : Option Addr} (ht : t.at w b off)
    (hk : ∀ (a : Addr) (x : Value), a ≠ ⟨b, off + 2, none⟩ → w.cell? a = some x → w'.cell? a = some x) (hn : w'.cell? ⟨b, off + 2, none⟩ = some (.slice ao' t.l.length cap')) (hF : Fo w t.l ao') :
    ∀ (m : Nat) (v : V) (b1 o1 : Nat), v.size ≤ m → v.at w b1 o1 → v.at w' b1 o1 := by
  intro m
  induction m with
  | zero => intro v _ _ h; have := size_pos v; omega
  | succ m ih =>
    intro v b1 o1 hs hv
    have hv0 := hv
    rw [at_iff] at hv ⊢
    obtain ⟨hh, a1, p1, c2, hI⟩ := hv
    obtain ⟨_, a0, p0, h2, _⟩ := (at_iff _ _ _ _).1 ht
    have hn' : ∀ (a : Addr) (k : Int), w.cell? a = some (.int .i64 k) → w'.cell? a = some (.int .i64 k) := by
      intro a k hc
      refine hk a _ ?_ hc
      rintro rfl
      rw [h2] at hc; simp at hc
    have kid : ∀ (l : List V) (ax : Option Addr), sizes l ≤ m → Fo w l ax → Fo w' l ax := by
      intro l ax hx hf i hi
      obtain ⟨bb, oo, e, k⟩ := hf i hi
      refine ⟨bb, oo, e, ih _ _ _ ?_ k⟩
      have := size_get l i hi; omega
    have hl : sizes v.l ≤ m := by have := size_eq v; omega
    refine ⟨⟨hn' _ _ hh.1, hn' _ _ hh.2⟩, ?_⟩
    by_cases he : (⟨b1, o1 + 2, none⟩ : Addr) = ⟨b, off + 2, none⟩
    · simp only [Addr.mk.injEq, and_true] at he
      obtain ⟨rfl, ho⟩ := he
      obtain rfl : o1 = off := by omega
      obtain rfl := at_fun v t _ _ hv0 ht
      exact ⟨ao', cap', hn, hI.fit, kid _ _ hl hF⟩
    · exact ⟨a1, p1, hk _ _ he c2, hI.fit, kid _ _ hl hI.fo⟩
/-- The world with nothing but the old blocks (without some) and the rows of things. -/
def cutV (R : Nat → Bool) (h : Nat) (w : World) : World := { w with heap := w.heap.mapIdx fun i o => if R i then .cells #[] 0 (0, 0) else if i < h then o else match o with | .cells c t z => if t = 31 then .cells c t z else .cells #[] 0 (0, 0) | _ => .cells #[] 0 (0, 0) }
/-- A row of things. -/
def IsV (w : World) (b : Nat) : Prop := ∃ c, w.heap[b]? = some (.cells c 31 (0, 0))
theorem cutV_old {R : Nat → Bool} {h : Nat} {w : World} {k : Nat} (hr : R k = false) (hk : k < h) : (cutV R h w).heap[k]? = w.heap[k]? := by
  simp only [cutV, Array.getElem?_mapIdx, hr, hk, if_true, if_false, Bool.false_eq_true]
  cases w.heap[k]? <;> rfl
theorem cutV_val {R : Nat → Bool} {h : Nat} {w : World} {k : Nat} {c : Array Value} {z : Nat × Nat} (hr : R k = false) (hk : w.heap[k]? = some (.cells c 31 z)) : (cutV R h w).heap[k]? = w.heap[k]? := by
  by_cases hh : k < h
  · exact cutV_old hr hh
  · simp only [cutV, Array.getElem?_mapIdx, hk, Option.map_some, if_true]
    rw [if_neg (by simp [hr]), if_neg hh]
/-- A cell that is left. -/
theorem cutV_cell {R : Nat → Bool} {h : Nat} {w : World} {a : Addr} {x : Value} (hc : (cutV R h w).cell? a = some x) : w.cell? a = some x ∧ R a.block = false ∧ (a.block < h ∨ ∃ c z, w.heap[a.block]? = some (.cells c 31 z)) := by
  have hb := World.block_lt_of_cell? (cutV R h w) a hc
  have hs : a.block < w.heap.size := by simpa [cutV] using hb
  have e0 : w.heap[a.block]? = some w.heap[a.block] := Array.getElem?_eq_getElem hs
  by_cases hr0 : R a.block = true
  · exfalso
    have hr := hr0
    have e1 : (cutV R h w).heap[a.block]? = some (.cells #[] 0 (0, 0)) := by
      simp only [cutV, Array.getElem?_mapIdx, e0, Option.map_some]
      rw [if_pos hr]
    simp [World.cell?, e1] at hc
  · have hr : R a.block = false := by simpa using hr0
    by_cases hk : a.block < h
    · exact ⟨(World.cell?_of_block (cutV_old hr hk)).symm.trans hc, hr, .inl hk⟩
    · cases ho : w.heap[a.block] with
      | cells c t z =>
        by_cases ht : t = 31
        · subst ht
          rw [ho] at e0
          exact ⟨(World.cell?_of_block (cutV_val hr e0)).symm.trans hc, hr, .inr ⟨c, z, e0⟩⟩
        · exfalso
          rw [ho] at e0
          have e1 : (cutV R h w).heap[a.block]? = some (.cells #[] 0 (0, 0)) := by
            simp only [cutV, Array.getElem?_mapIdx, e0, Option.map_some, hr, hk, ht, if_false, Bool.false_eq_true]
          simp [World.cell?, e1] at hc
      | _ =>
        exfalso
        rw [ho] at e0
        have e1 : (cutV R h w).heap[a.block]? = some (.cells #[] 0 (0, 0)) := by
          simp only [cutV, Array.getElem?_mapIdx, e0, Option.map_some, hr, hk, if_false, Bool.false_eq_true]
        simp [World.cell?, e1] at hc
theorem cutV_mk {R : Nat → Bool} {h : Nat} {w : World} {a : Addr} {x : Value} (hc : w.cell? a = some x) (hr : R a.block = false) (ha : a.block < h ∨ ∃ c z, w.heap[a.block]? = some (.cells c 31 z)) : (cutV R h w).cell? a = some x := by
  rcases ha with ha | ⟨c, z, ha⟩
  · exact (World.cell?_of_block (cutV_old hr ha)).trans hc
  · exact (World.cell?_of_block (cutV_val hr ha)).trans hc
theorem Fo.uncut {R : Nat → Bool} {h : Nat} {w : World} {l : List V} {ao : Option Addr} (hv : Fo (cutV R h w) l ao) : Fo w l ao := hv.kept fun _ _ hc => (cutV_cell hc).1
/-- The old blocks and the rows of things are as they were (but one block). -/
def Keeps (R : Nat → Bool) (h : Nat) (w w' : World) : Prop := (∀ k, R k = false → k < h → w'.heap[k]? = w.heap[k]?) ∧ ∀ (k : Nat) (c : Array Value) (z : Nat × Nat), R k = false → w.heap[k]? = some (Obj.cells c 31 z) → w'.heap[k]? = some (Obj.cells c 31 z)
theorem Keeps.cell {R : Nat → Bool} {h : Nat} {w w' : World} (hk : Keeps R h w w') : ∀ (a : Addr) (x : Value), (cutV R h w).cell? a = some x → (cutV R h w').cell? a = some x := by
  intro a x hc
  obtain ⟨h1, hr, h2⟩ := cutV_cell hc
  rcases h2 with h2 | ⟨c, z, h2⟩
  · exact cutV_mk ((World.cell?_of_block (hk.1 _ hr h2)).trans h1) hr (.inl h2)
  · have := hk.2 _ _ _ hr h2
    exact cutV_mk ((World.cell?_of_block (this.trans h2.symm)).trans h1) hr (.inr ⟨c, z, this⟩)
theorem Keeps.trans {R : Nat → Bool} {h : Nat} {a b c : World} (h1 : Keeps R h a b) (h2 : Keeps R h b c) : Keeps R h a c := ⟨fun k hr hk => (h2.1 k hr hk).trans (h1.1 k hr hk), fun k _ _ hr e => h2.2 k _ _ hr (h1.2 k _ _ hr e)⟩
theorem Keeps.quiet {R : Nat → Bool} {h : Nat} {w w' : World} (q : Quiet w w') (hh : h ≤ w.heap.size) : Keeps R h w w' :=
  ⟨fun k _ hk => q.block k (by omega) fun e => e, fun k _ _ _ e => (q.block k (lt_of_block e) fun e => e).trans e⟩
theorem Keeps.isV {R : Nat → Bool} {h : Nat} {w w' : World} (hk : Keeps R h w w') {b : Nat} (hr : R b = false) (hb : IsV w b) : IsV w' b := by obtain ⟨c, hc⟩ := hb; exact ⟨c, hk.2 b c _ hr hc⟩
/-- Another row grows. -/
theorem Keeps.grown {R : Nat → Bool} {h : Nat} {w w' : World} {B : Nat} {t : TypeId} {s : Nat} {v : Value} {n : Nat} {xs : List Value} (hr : w.ownsRow B t s v n xs) (ht : t ≠ 31) (hB : h ≤ B) (hg : w.grownBy w' v.ownBlock) (hh : h ≤ w.heap.size) : Keeps R h w w' := by
  refine ⟨fun k _ hk => hg.block k (by omega) fun e => by have := (hr.lt k e.symm).1; omega, fun k c z _ e => (hg.block k (lt_of_block e) fun e' => ?_).trans e⟩
  rcases hr.2 with ⟨rfl, _⟩ | ⟨g, cap, cur, rfl, _, hh, _⟩
  · simp [Value.ownBlock] at e'
  · simp [Value.ownBlock] at e'
    subst e'
    rw [hh] at e
    simp at e
    exact ht e.2.1
/-- The cells of some things, one behind the other. -/
theorem kids_of {w : World} {l : List V} {b o : Nat} (h : Fo w l (some ⟨b, o, none⟩)) : ∃ ps : List Kd, ps.map (·.1) = l ∧ (∀ p ∈ ps, Is w p.1 p.2.1) ∧ ∀ j x, (tris ps)[j]? = some x → w.cell? ⟨b, o + j, none⟩ = some x := by
  have key : ∀ i, i < l.length → ∃ p : Option Addr × Nat, ∀ hi : i < l.length, Is w l[i] p.1 ∧ ∀ c, c < 3 → w.cell? ⟨b, o + i * 3 + c, none⟩ = (tri (l[i], p))[c]? := by
    intro i hi
    obtain ⟨b', o', e, hh, ai, ci, c2, hI⟩ := h.get i hi
    cases e
    refine ⟨(ai, ci), fun _ => ⟨hI, fun c hc => ?_⟩⟩
    match c, hc with
    | 0, _ => exact hh.1
    | 1, _ => exact hh.2
    | 2, _ => exact c2
  haveI : Inhabited (Option Addr × Nat) := ⟨(none, 0)⟩
  obtain ⟨f, hf⟩ := Deep.choose_lt key
  refine ⟨l.mapIdx fun i x => (x, f i), ?_, fun p hp => ?_, fun j x hx => ?_⟩
  · apply List.ext_getElem <;> simp
  · obtain ⟨i, hi, rfl⟩ := List.getElem_of_mem hp
    have hi' : i < l.length := by simpa using hi
    simpa using (hf i hi' hi').1
  · have hlen := tris_len (l.mapIdx fun i x => (x, f i))
    have hj : j < (l.mapIdx fun i x => (x, f i)).length * 3 := by
      rw [← hlen]
      rcases Nat.lt_or_ge j (tris (l.mapIdx fun i x => (x, f i))).length with h' | h'
      · exact h'
      · rw [List.getElem?_eq_none h'] at hx; simp at hx
    have hi : j / 3 < l.length := by simp at hj; omega
    have e : j = j / 3 * 3 + j % 3 := by omega
    have h1 := (hf (j / 3) hi hi).2 (j % 3) (by omega)
    have h2 := tris_at (l.mapIdx fun i x => (x, f i)) (j / 3) (j % 3) (by simpa using hi) (by omega)
    rw [← e] at h2
    rw [h2] at hx
    simp only [List.getElem_mapIdx] at hx
    rw [show o + j = o + j / 3 * 3 + j % 3 by omega, h1]
    exact hx
/-- The copy of a row of things is those things. -/
theorem copied {w w4 : World} {R : Nat → Bool} {h B : Nat} {l : List V} {G m cap : Nat} {ps : List Kd} (hps : ps.map (·.1) = l) (hI : ∀ p ∈ ps, Is (cutV R h w) p.1 p.2.1) (hk : Keeps R h w w4) (hr : w4.ownsRow B 31 3 (.slice (some ⟨G, 0, none⟩) m cap) m (tris ps)) (hm : m = ps.length) (hm0 : 0 < m) (hGr : R G = false) :
    Fo (cutV R h w4) l (some ⟨G, 0, none⟩) ∧ IsV w4 G := by
  have hG : IsV w4 G := by
    rcases hr.2 with ⟨e, _⟩ | ⟨g, cp, cur, e, _, hh, _⟩
    · simp at e
    · simp only [Value.slice.injEq, Option.some.injEq, Addr.mk.injEq] at e
      obtain ⟨⟨rfl, _⟩, _⟩ := e
      exact ⟨cur, hh⟩
  refine ⟨?_, hG⟩
  subst hm hps
  intro i hi
  have hi' : i < ps.length := by simpa using hi
  obtain ⟨g, e, d⟩ := owns_at hr hm0
  cases e
  obtain ⟨c, hc⟩ := hG
  refine ⟨G, 0, rfl, ?_⟩
  have e : (ps.map (·.1))[i] = ps[i].1 := by simp
  rw [e, Nat.zero_add]
  refine tri_at (fun j hj => ?_) ((hI _ (List.getElem_mem hi')).kept hk.cell)
  have h1 := d (i * 3 + j) (by omega)
  rw [tris_at ps i j hi' hj] at h1
  have hj' : j < (tri ps[i]).length := by simp [tri]; omega
  rw [List.getElem?_eq_getElem hj'] at h1 ⊢
  exact cutV_mk h1 hGr (.inr ⟨c, _, hc⟩)
/-- A store elsewhere. -/
theorem cell_set {w : World} {p a : Addr} {x y : Value} (hne : a ≠ p) (hc : w.cell? a = some x) : (w.setCell p y).cell? a = some x := by
  rw [World.cell?_setCell_other (h := fun e => hne e.symm)]; exact hc
theorem cell_again {w : World} {p a : Addr} {x y : Value} (hp : w.cell? p = some y) (hc : w.cell? a = some x) : (w.setCell p y).cell? a = some x := by
  by_cases e : a = p
  · subst e; rw [hp] at hc; cases hc; exact World.cell?_setCell_same' _ _ _ (by rw [hp]; rfl)
  · exact cell_set e hc
theorem set_kind {w : World} {p : Addr} {y : Value} {k : Nat} {c : Array Value} {t : TypeId} {z : Nat × Nat} (hk : w.heap[k]? = some (.cells c t z)) : ∃ c', (w.setCell p y).heap[k]? = some (.cells c' t z) := by
  by_cases e : k = p.block
  · subst e
    exact ⟨_, by simp [World.setCell, Array.getElem?_modify, hk]; rfl⟩
  · exact ⟨c, (Below.heap_setCell _ _ _ _ e).trans hk⟩
/-- A thing is written where it stood, with another list. -/
structure Wrt (w w' : World) (b off : Nat) (y : Value) : Prop where
  cell : ∀ (a : Addr) (x : Value), a ≠ ⟨b, off + 2, none⟩ → w.cell? a = some x → w'.cell? a = some x
  new : w'.cell? ⟨b, off + 2, none⟩ = some y
  kp : Kp (fun k => k = b) w w'
  kind : ∀ (k : Nat) (c : Array Value) (t : TypeId) (z : Nat × Nat), w.heap[k]? = some (Obj.cells c t z) → ∃ c', w'.heap[k]? = some (Obj.cells c' t z)
theorem wrt_set {w : World} {b off : Nat} {v : V} {x y : Value} (hh : v.head w b off) (hs : w.cell? ⟨b, off + 2, none⟩ = some x) :
    Wrt w (((w.setCell ⟨b, off, none⟩ (.int .i64 v.kind)).setCell ⟨b, off + 1, none⟩ (.int .i64 v.n)).setCell ⟨b, off + 2, none⟩ y) b off y := by
  obtain ⟨h0, h1⟩ := hh
  have s1 : ∀ (a : Addr) (z : Value), w.cell? a = some z → (w.setCell ⟨b, off, none⟩ (.int .i64 v.kind)).cell? a = some z := fun a z hz => cell_again h0 hz
  have s3 : ∀ (a : Addr) (z : Value), w.cell? a = some z → ((w.setCell ⟨b, off, none⟩ (.int .i64 v.kind)).setCell ⟨b, off + 1, none⟩ (.int .i64 v.n)).cell? a = some z := fun a z hz => cell_again (s1 _ _ h1) (s1 _ _ hz)
  refine ⟨fun a z hne hz => cell_set hne (s3 a z hz), World.cell?_setCell_same' _ _ _ (by rw [s3 _ _ hs]; rfl), ?_, fun k c t z hk => ?_⟩
  · exact ((kp_set _ _ _ _).trans (kp_set _ _ _ _)).trans (kp_set _ _ _ _)
  · obtain ⟨c1, k1⟩ := set_kind (p := ⟨b, off, none⟩) (y := .int .i64 v.kind) hk
    obtain ⟨c3, k3⟩ := set_kind (p := ⟨b, off + 1, none⟩) (y := .int .i64 v.n) k1
    exact set_kind k3
end Go.Proofs.YtgojcohcimmfjaaGreat
namespace Go.Proofs.YtgojcohcimmfjaaGreat
open Go.ChangeShapes Go.WideShapes Go.ChangeAt Go.RowKit
/-- A key: where a list begins, how long it is. -/
def keyOf (a : Option Addr) (n : Nat) : Value := .agg #[.pointer (if n = 0 then none else a), .int .i64 n]
set_option maxRecDepth 8000 in
set_option maxHeartbeats 1000000 in
theorem listOf_any (a : Option Addr) (n cap : Nat) (w : World) (ha : 0 < n → ∃ b o, a = some ⟨b, o, none⟩) :
    Calls Tryz.prog 78 #[.slice a n cap] w fun e w' => e = .returned (keyOf a n) ∧ Quiet w w' := by
  by_cases hn : n = 0
  · subst hn
    go_enter Tryz.func78, Tryz.ntmps78
    go_wp2
    refine bodyPost_ret (v := .agg #[.pointer none, .int .i64 0]) (by simp [results, Tryz.results78, go_sem]) rfl ?_
    exact ⟨rfl, Kp.alloc _ _⟩
  · obtain ⟨b, o, rfl⟩ := ha (by omega)
    have hn1 : ¬ (n : Int) = 0 := by omega
    have hn2 : (0 : Int) < (n : Int) := by omega
    have hE := hid (show keyOf (some ⟨b, o, none⟩) n = .agg #[.pointer (some ⟨b, o, none⟩), .int .i64 n] by simp [keyOf, hn])
    clear hn
    go_enter Tryz.func78, Tryz.ntmps78
    go_wp2
    refine bodyPost_ret (v := .agg #[.pointer (some ⟨b, o, none⟩), .int .i64 n]) (by simp [results, Tryz.results78, go_sem]) rfl ?_
    exact ⟨by rw [hE.out], Kp.alloc _ _⟩
theorem part0 (p : Option Addr) (n : Int) (w : World) : (part 147 #[.pointer p, .int .i64 n] 0).run Tryz.prog w = .ok (.pointer p) w := by
  simp [go_sem, part]
theorem part1 (p : Option Addr) (n : Int) (w : World) : (part 3 #[.pointer p, .int .i64 n] 1).run Tryz.prog w = .ok (.int .i64 n) w := by
  simp [go_sem, part]
theorem key_p (e : Bool) (p : Option Addr) (m : Nat) (w : World) : (Instr.checkKey e (m + 1) 147 (.pointer p)).run Tryz.prog w = .ok () w := by
  simp [Instr.checkKey, run_underlying Tryz.underlying147, go_sem]
theorem key_i (e : Bool) (n : Int) (m : Nat) (w : World) : (Instr.checkKey e (m + 1) 3 (.int .i64 n)).run Tryz.prog w = .ok () w := by
  simp [Instr.checkKey, run_underlying Tryz.underlying3, go_sem]
theorem key_ok (e : Bool) (p : Option Addr) (n : Int) (m : Nat) (w : World) : (Instr.checkKey e (m + 1 + 1) 149 (.agg #[.pointer p, .int .i64 n])).run Tryz.prog w = .ok () w := by
  rw [Instr.checkKey]
  simp [run_underlying Tryz.underlying149, part0, part1, key_p, key_i, Result.andThen]
theorem look_nil (p : Option Addr) (n : Int) (w : World) : (Instr.lookup 142 (.map none) (.agg #[.pointer p, .int .i64 n]) true).run Tryz.prog w = .ok (.tuple #[.slice none 0 0, .bool false]) w := by
  have k := key_ok true p n 9998 w
  have hz := Tryz.zeroValue29 w
  unfold Instr.lookup
  simp only [Sem.run_bind, run_underlying Tryz.underlying142, Result.andThen]
  rw [show (10000 : Nat) = 9998 + 1 + 1 from rfl]
  generalize (9998 + 1 + 1 : Nat) = M at *
  simp [k, Instr.findKey, Instr.findNow, hz, Result.andThen, run_underlying Tryz.underlying149]
theorem eq_made (d : Nat) (w : World) : (Op.equalIn (d + 1) 142 (.map none) (.map none)).run Tryz.prog w = .ok true w := by
  simp [Op.equalIn, run_underlying Tryz.underlying142]
theorem neq_made (w : World) : (binOp .neq 142 (.map none) (.map none)).run Tryz.prog w = .ok (.bool false) w := by
  simp only [binOp]
  simp [Op.equal, Op.maxDepth, eq_made 9999 w]
end Go.Proofs.YtgojcohcimmfjaaGreat
namespace Go.Proofs.YtgojcohcimmfjaaGreat
open Go.ChangeShapes Go.WideShapes Go.ChangeAt Go.RowKit
set_option maxRecDepth 8000 in
set_option maxHeartbeats 1000000 in
theorem with_any (v : V) (ao a : Option Addr) (cap n c : Nat) (w : World) : Calls Tryz.prog 61 #[.agg #[.int .i64 v.kind, .int .i64 v.n, .slice ao v.l.length cap], .slice a n c] w fun e w' => e = .returned (.agg #[.int .i64 v.kind, .int .i64 v.n, .slice a n c]) ∧ Quiet w w' := by
  go_enter Tryz.func61, Tryz.ntmps61
  go_wp2
  refine bodyPost_ret (v := .agg #[.int .i64 v.kind, .int .i64 v.n, .slice a n c]) (by simp [results, Tryz.results61, go_sem]) rfl ?_
  exact ⟨rfl, (Kp.alloc _ _).trans (Kp.alloc _ _)⟩
theorem out_new {R : Nat → Bool} {n b : Nat} (hr0 : ∀ k, R k = true → k < n) (h : n ≤ b) : R b = false := by
  cases e : R b with
  | false => rfl
  | true => have := hr0 b e; omega
/-- The state of the loop: the lists that are still to be copied; what was made. -/
structure NS (R : Nat → Bool) (W : World) (l : List V) (ra : Option Addr) (sv : Value) (ts : List Pl) (w : World) : Prop where
  row : w.ownsRow W.heap.size 29 1 sv ts.length (ts.map slv)
  root : Fo (cutV R W.heap.size w) l ra
  all : ∀ x ∈ ts, Fo (cutV R W.heap.size w) x.1 x.2.1 ∧ (x.1 ≠ [] → ∃ b, x.2.1 = some ⟨b, 0, none⟩ ∧ W.heap.size ≤ b ∧ IsV w b)
  low : Below W.heap.size W w
theorem NS.keeps {R : Nat → Bool} {W w w' : World} {l : List V} {ra : Option Addr} {sv : Value} {ts : List Pl} (hr0 : ∀ k, R k = true → k < W.heap.size) (H : NS R W l ra sv ts w) (hk : Keeps R W.heap.size w w') (hr : w'.ownsRow W.heap.size 29 1 sv ts.length (ts.map slv)) (hl : Below W.heap.size W w') : NS R W l ra sv ts w' :=
  ⟨hr, H.root.kept hk.cell, fun x hx => by
    obtain ⟨h1, h2⟩ := H.all x hx
    refine ⟨h1.kept hk.cell, fun h => ?_⟩
    obtain ⟨b, e, h3, h4⟩ := h2 h
    exact ⟨b, e, h3, hk.isV (out_new hr0 h3) h4⟩, hl⟩
theorem NS.quiet {R : Nat → Bool} {W w w' : World} {l : List V} {ra : Option Addr} {sv : Value} {ts : List Pl} (hr0 : ∀ k, R k = true → k < W.heap.size) (H : NS R W l ra sv ts w) (q : Quiet w w') : NS R W l ra sv ts w' :=
  H.keeps hr0 (Keeps.quiet q H.low.size) (q.row H.row fun _ _ e => e) (low_of H.low q H.low.size)
/-- One list more is to be copied. -/
theorem NS.push {R : Nat → Bool} {W w w1 : World} {l : List V} {ra : Option Addr} {sv : Value} {ts : List Pl} {x : Pl} {g cap n : Nat} {o : Obj} (hr0 : ∀ k, R k = true → k < W.heap.size) (H : NS R W l ra sv ts w) (hx : Fo (cutV R W.heap.size w) x.1 x.2.1 ∧ (x.1 ≠ [] → ∃ b, x.2.1 = some ⟨b, 0, none⟩ ∧ W.heap.size ≤ b ∧ IsV w b)) (hn : n = ts.length)
    (hr1 : w1.ownsRow W.heap.size 29 1 (.slice (some ⟨g, 0, none⟩) (n + 1) cap) (n + 1) (ts.map slv ++ [slv x])) (hg : (w.alloc o).grownBy w1 sv.ownBlock) :
    NS R W l ra (.slice (some ⟨g, 0, none⟩) (n + 1) cap) (ts ++ [x]) w1 ∧ Keeps R W.heap.size w w1 := by
  subst hn
  have hsz := H.low.size
  have k1 : Keeps R W.heap.size w w1 := (Keeps.quiet (Kp.alloc _ _) hsz).trans (Keeps.grown (H.row.alloc _) (by decide) (Nat.le_refl _) hg (by simp; omega))
  have hp := push_row (x := x) H.low hsz H.row rfl hr1 hg
  refine ⟨⟨hp.1, H.root.kept k1.cell, fun y hy => ?_, hp.2⟩, k1⟩
  have hy' : Fo (cutV R W.heap.size w) y.1 y.2.1 ∧ (y.1 ≠ [] → ∃ b, y.2.1 = some ⟨b, 0, none⟩ ∧ W.heap.size ≤ b ∧ IsV w b) := by
    rcases List.mem_append.1 hy with hy | hy
    · exact H.all y hy
    · simp at hy; subst hy; exact hx
  refine ⟨hy'.1.kept k1.cell, fun h => ?_⟩
  obtain ⟨b, e, h3, h4⟩ := hy'.2 h
  exact ⟨b, e, h3, k1.isV (out_new hr0 h3) h4⟩
/-- A thing's list is exchanged for a copy of it. -/
theorem NS.write {R : Nat → Bool} {W w w' : World} {l : List V} {ra : Option Addr} {sv : Value} {ts : List Pl} {u : V} {b off cap' : Nat} {ao' : Option Addr} (hr0 : ∀ k, R k = true → k < W.heap.size) (H : NS R W l ra sv ts w) (hu : u.at (cutV R W.heap.size w) b off) (hb : W.heap.size ≤ b) (hv : IsV w b) (hF : Fo (cutV R W.heap.size w) u.l ao') (hw : Wrt w w' b off (.slice ao' u.l.length cap')) :
    NS R W l ra sv ts w' ∧ (∀ x ax, Fo (cutV R W.heap.size w) x ax → Fo (cutV R W.heap.size w') x ax) ∧ ∀ k, IsV w k → IsV w' k := by
  have V5 : ∀ k, IsV w k → IsV w' k := by
    rintro k ⟨c, hk⟩
    exact hw.kind _ _ _ _ hk
  have K1 : ∀ (a : Addr) (x : Value), a ≠ ⟨b, off + 2, none⟩ → (cutV R W.heap.size w).cell? a = some x → (cutV R W.heap.size w').cell? a = some x := by
    intro a x hne hx
    obtain ⟨h1, hr, h3⟩ := cutV_cell hx
    rcases h3 with h3 | ⟨c, z, h3⟩
    · exact cutV_mk (hw.cell a x hne h1) hr (.inl h3)
    · obtain ⟨c', h5⟩ := hw.kind _ _ _ _ h3
      exact cutV_mk (hw.cell a x hne h1) hr (.inr ⟨c', z, h5⟩)
  have K2 : (cutV R W.heap.size w').cell? ⟨b, off + 2, none⟩ = some (.slice ao' u.l.length cap') := by
    obtain ⟨c, hc⟩ := V5 b hv
    exact cutV_mk hw.new (out_new hr0 hb) (.inr ⟨c, _, hc⟩)
  have T : ∀ x ax, Fo (cutV R W.heap.size w) x ax → Fo (cutV R W.heap.size w') x ax := by
    intro x ax hf i hi
    obtain ⟨bb, oo, e, k⟩ := hf i hi
    exact ⟨bb, oo, e, at_write hu K1 K2 hF _ _ _ _ (Nat.le_refl _) k⟩
  refine ⟨⟨?_, T _ _ H.root, fun x hx => ?_, ?_⟩, T, V5⟩
  · refine hw.kp.row H.row fun k e hk => ?_
    subst hk
    obtain ⟨c, hc⟩ := hv
    rcases H.row.2 with ⟨rfl, _⟩ | ⟨g, cp, cur, rfl, _, hh, _⟩
    · simp [Value.ownBlock] at e
    · simp [Value.ownBlock] at e; subst e; rw [hh] at hc; simp at hc
  · obtain ⟨h1, h2⟩ := H.all x hx
    refine ⟨T _ _ h1, fun h => ?_⟩
    obtain ⟨b, e, h3, h4⟩ := h2 h
    exact ⟨b, e, h3, V5 _ h4⟩
  · exact H.low.trans (hw.kp.below H.low.size fun k e => by omega)
end Go.Proofs.YtgojcohcimmfjaaGreat
