/- Reading, and what was given up is caught. -/
import Derived.Test.YthogejofkodmkacDoorPModWalk
import Derived.Defers
import Derived.Recover
namespace Go.Proofs.YthogejofkodmkacDoor
open Go.ChangeShapes Go.WideShapes Go.ChangeAt Go.RowKit
theorem ta_nil (w : World) : (Instr.typeAssert .nilIface 20 75 true).run Tryd.prog w = .ok (.tuple #[.agg #[.int .i64 0, .int .i64 0], .bool false]) w := by kernel_rfl
theorem ta_hit (c a : Int) (w : World) : (Instr.typeAssert (.iface 75 (.agg #[.int .i64 c, .int .i64 a])) 20 75 true).run Tryd.prog w = .ok (.tuple #[.agg #[.int .i64 c, .int .i64 a], .bool true]) w := by kernel_rfl
theorem catch_idle (p : Addr) (w : World) :
    CallsD Tryd.prog 41 #[.pointer (some p)] .returning w fun e u' w' => e = .returned (.tuple #[]) ∧ u' = .returning ∧ w' = w.alloc (.cells #[.int .i64 0, .int .i64 0] 75) := by
  refine callsD_of_wpS Tryd.func41 rfl fun c₀ cs hu => ?_
  apply wpS_seq
  apply wpS_region
  simp [wpOpsS, go_sem, recoverD, hu, Tryd.ntmps41, Exit.thenS, ta_nil]
  apply wpS_seq
  apply wpS_region
  simp [wpOpsS, go_sem, Exit.thenS]
  refine wpS_cond (t := false) (by simp [Act.eval, Array.replicate]) ?_
  simp only [Bool.false_eq_true, if_false]
  refine wpS_of_wp (wp_skip ?_)
  cases c₀
  simp_all [bodyPostS, results, Tryd.results41]
theorem catch_panicking (p : Nat) (x y : Value) (c a : Int) (t : TypeId) (older : List PanicEntry) (w : World) (hb : w.heap[p]? = some (.cells #[x, y] t (0, 0))) :
    CallsD Tryd.prog 41 #[.pointer (some ⟨p, 0, none⟩)] (.panicking ({ v := .iface 75 (.agg #[.int .i64 c, .int .i64 a]), recovered := false } :: older)) w fun e u' w' =>
      e = .returned (.tuple #[]) ∧ u' = .panicking ({ v := .iface 75 (.agg #[.int .i64 c, .int .i64 a]), recovered := true } :: older) ∧ w' = ((w.alloc (.cells #[.int .i64 c, .int .i64 a] 75)).setCell ⟨p, 0, none⟩ (.int .i64 c)).setCell ⟨p, 1, none⟩ (.int .i64 a) := by
  have hlt := lt_of_block hb
  obtain ⟨c0, c1⟩ := box2 hb
  have hf := box_free hb
  clear hb
  refine callsD_of_wpS Tryd.func41 rfl fun c₀ cs hu => ?_
  apply wpS_seq
  apply wpS_region
  simp [wpOpsS, go_sem, recoverD, hu, Tryd.ntmps41, Exit.thenS, ta_hit]
  apply wpS_seq
  apply wpS_region
  simp [wpOpsS, go_sem, Exit.thenS]
  refine wpS_cond (t := true) (by simp [Act.eval, Array.replicate]) ?_
  simp only [if_true]
  apply wpS_region
  simp [wpOpsS, go_sem, c0, c1, hf, hlt, bodyPostS, results, Tryd.results41]
theorem two_kr {w w' : World} {a b : Obj} {rb : Nat} (hr : rb < w.heap.size) (q : Kr rb ((w.alloc a).alloc b) w') : w'.heap[w.heap.size]? = some a ∧ w'.heap[w.heap.size + 1]? = some b := by
  have h0 : ((w.alloc a).alloc b).heap[w.heap.size]? = some a := by rw [Below.heap_alloc _ _ _ (by simp)]; exact heap_alloc_new w _
  have h1 := heap_two w a b
  exact ⟨(q.block _ (lt_of_block h0) (by omega)).trans h0, (q.block _ (lt_of_block h1) (by omega)).trans h1⟩
/-- What comes of it. -/
def OutR (rb : Nat) (w : World) (g : Got (List V)) (e' : Ending) (w' : World) : Prop := match g with
  | .ok (l, _) => ∃ ao cap, e' = .returned (.tuple #[.agg #[.slice ao l.length cap], .agg #[.int .i64 0, .int .i64 0]]) ∧ HoldL w.heap.size w' l ao ∧ Kr rb w w'
  | .error x => e' = .returned (.tuple #[.agg #[.slice none 0 0], .agg #[.int .i64 x.1, .int .i64 x.2]]) ∧ Kr rb w w'
set_option maxRecDepth 8000 in
set_option maxHeartbeats 1000000 in
theorem read_any (e : Int) (rb : Nat) (ts : List Tk) (w : World) (h : RS w rb e ts) (hw : Rd w rb) (hF : Fine ts) (hl : ts.length ≤ 9000) :
    Calls Tryd.prog 26 #[.pointer (some ⟨rb, 0, none⟩)] w (OutR rb w (modFrom e [] ts)) := by
  have hmf : ∀ (fn : Fn) (first cap : Array Value) (w : World), (Instr.makeFunc fn first cap).run Tryd.prog w = .ok (.func fn first cap) w := fun _ _ _ _ => rfl
  have hlt := h.lt
  have HM := hid (fun o1 o2 => module_any e rb ts ((w.alloc o1).alloc o2) ((h.quiet (Kp.alloc _ _)).quiet (Kp.alloc _ _)) ((hw.quiet (Kp.alloc _ _)).quiet (Kp.alloc _ _)) hF hl)
  clear h hw hF hl
  cases hm : modFrom e [] ts with
  | error x =>
    rw [hm] at HM
    clear hm
    go_enter_defers Tryd.func26, Tryd.ntmps26
    go_wp2_with (go_at_call 42; refine (HM.out _ _).mono ?_; rintro e' w1 ⟨rfl, q1⟩)
    obtain ⟨hb0, hb1⟩ := two_kr hlt q1
    refine leaves_cons (f := 41) (args := #[.pointer (some ⟨w.heap.size + 1, 0, none⟩)]) (by simp) (by simp [go_sem]) ?_
    refine (catch_panicking (w.heap.size + 1) _ _ x.1 x.2 25 [] _ hb1).mono ?_
    rintro e' u' w'' ⟨rfl, rfl, rfl⟩
    have hl0 := lt_of_block hb0
    have hl1 := lt_of_block hb1
    have c0 := box1 hb0
    obtain ⟨d0, d1⟩ := box2 hb1
    simp [Leaves, settle, results, Tryd.results26, go_sem, c0, d0, d1, hl0, hl1]
    refine ⟨rfl, ?_⟩
    exact ((Kp.alloc _ _).trans ((Kp.alloc _ _).trans q1)).fresh (((Kp.setCell (F := fun i => w.heap.size ≤ i) _ ⟨w.heap.size + 1, 0, none⟩ _ (Nat.le_succ _)).trans (Kp.setCell _ ⟨w.heap.size + 1, 1, none⟩ _ (Nat.le_succ _))).trans (Kp.alloc _ _))
  | ok y =>
    obtain ⟨l, r⟩ := y
    rw [hm] at HM
    clear hm
    go_enter_defers Tryd.func26, Tryd.ntmps26
    go_wp2_with (go_at_call 42; refine (HM.out _ _).mono ?_; rintro e' w1 ⟨ao, cap, rfl, h1, q1⟩; obtain ⟨hb0, hb1⟩ := two_kr hlt q1; have c0 := box1 hb0; have f0 := box_free hb0; obtain ⟨d0, d1⟩ := box2 hb1; have f1 := box_free hb1; have hl0 := lt_of_block hb0; have hl1 := lt_of_block hb1)
    refine leaves_cons (f := 41) (args := #[.pointer (some ⟨w.heap.size + 1, 0, none⟩)]) (by simp) (by simp [go_sem]) ?_
    refine (catch_idle _ _).mono ?_
    rintro e' u' w'' ⟨rfl, rfl, rfl⟩
    simp [Leaves, settle, results, Tryd.results26, go_sem, c0, d0, d1, hl0, hl1]
    have hk : Kp (fun i => i = w.heap.size ∨ i = w.heap.size + 1) w1 ((((w1.setCell ⟨w.heap.size, 0, none⟩ (.slice ao l.length cap)).setCell ⟨w.heap.size + 1, 0, none⟩ (.int .i64 0)).setCell ⟨w.heap.size + 1, 1, none⟩ (.int .i64 0)).alloc (.cells #[.int .i64 0, .int .i64 0] 75)) :=
      (((Kp.setCell _ ⟨w.heap.size, 0, none⟩ _ (.inl rfl)).trans (Kp.setCell _ ⟨w.heap.size + 1, 0, none⟩ _ (.inr rfl))).trans (Kp.setCell _ ⟨w.heap.size + 1, 1, none⟩ _ (.inr rfl))).trans (Kp.alloc _ _)
    refine ⟨ao, cap, rfl, ?_, ?_⟩
    · have hz : ((w.alloc (.cells #[.slice none 0 0] 37)).alloc (.cells #[.int .i64 0, .int .i64 0] 25)).heap.size = w.heap.size + 2 := by simp
      rw [hz] at h1
      exact (h1.step fun k h2 h3 => hk.block k h3 (by omega)).wider (by omega)
    · exact ((Kp.alloc _ _).trans ((Kp.alloc _ _).trans q1)).fresh (hk.mono fun k _ e => by omega)
end Go.Proofs.YthogejofkodmkacDoor
