/- Both graphs, behind steps. -/
import Derived.Test.YtclkaamcoicgcaeJPair
namespace Go.Proofs.Ytclkaamcoicgcae
open Go.ChangeShapes Go.WideShapes Go.ChangeAt Go.RowKit
open Gr (Nd Wf GS Goes Own Stp Lies Pair stepOf)
/-- What graphs tells: both, in agreement. -/
def GraphsQ (w : World) (e : Ending) (w' : World) : Prop := ∃ (gb rb : Nat) (vn vo vn2 vo2 : Value) (ns : List Nd) (os : List Bool), e = .returned (.tuple #[.pointer (some ⟨gb, 0, none⟩), .pointer (some ⟨rb, 0, none⟩)]) ∧ Pair w.heap.size w w' gb vn vo rb vn2 vo2 ns os ∧ Wf ns os.length
set_option maxRecDepth 8000 in
set_option maxHeartbeats 4000000 in
theorem graphs_any (w : World) (ao : Option Addr) (cap : Nat) (ss : List Stp) (hS : Lies w ao ss) (hl : ss.length ≤ 200) : Calls Try.prog 8 #[.slice ao ss.length cap] w fun e w' => GraphsQ w e w' := by
  have HS := hid hS
  clear hS
  go_enter Try.func8, Try.ntmps8
  go_wp2_with (go_at_call 24; refine (Gr.new_any w.heap.size _ (Nat.le_refl _)).mono ?_; rintro e w2 ⟨rfl, h2, k2⟩)
  have P0 := Pair.start h2 (k2.low)
  have HP0 := hid P0
  clear P0 h2
  go_loopw [6] (fun i wr => ∃ (k : Nat) (ns : List Nd) (os : List Bool) (vn vo vn2 vo2 : Value), k ≤ ss.length ∧ i = .int .i64 k ∧ Hid (Pair w.heap.size w wr w.heap.size vn vo w2.heap.size vn2 vo2 ns os) ∧ Hid (Wf ns os.length)) (fun i _ => ss.length - (intOf i).toNat)
  case atStart => exact ⟨0, [], [], _, _, _, _, Nat.zero_le _, rfl, HP0, Wf.nil _⟩
  case round =>
    obtain ⟨k, ns, os, vn, vo, vn2, vo2, hk, rfl, P, hW⟩ := hrel
    by_cases hlt : k < ss.length
    · obtain ⟨a, off, rfl, ha, c0', c1', c2', c3', c4'⟩ := HS.out k hlt
      rw [← P.out.below.cell (by exact ha)] at c0' c1' c2' c3' c4'
      have hgr := hid ((Gr.step_grows ns os ss[k]).wf hW.out)
      generalize ss[k] = x at *
      obtain ⟨xd, xa, xb, xc, xe⟩ := x
      dsimp only at c0' c1' c2' c3' c4'
      have HC := hid (Gr.gstep_any P.out.g P.out.r P.out.bes ⟨xd, xa, xb, xc, xe⟩)
      simp only [Gr.Stp.agg] at HC
      go_wp2_with (go_at_call 28; refine HC.out.mono ?_; rintro e w5 ⟨q, vn', vo', vn2', vo2', rfl, _, hg5, hr5, T⟩; have HD := hid (P.out.two hg5 hr5 T); clear hg5 hr5 T)
      exact ⟨⟨k + 1, _, _, _, _, _, _, by omega, by go_num, HD, hgr⟩, by simp [intOf]; omega⟩
    · go_wp2
      go_ret2
      exact ⟨_, _, _, _, _, _, _, _, rfl, P.out, hW.out⟩
end Go.Proofs.Ytclkaamcoicgcae
