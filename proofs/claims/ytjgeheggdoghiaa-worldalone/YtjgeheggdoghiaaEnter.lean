/- The contracts of package world: Has, New, enter. -/
import Derived.Test.YtjgeheggdoghiaaMem
namespace Go.Proofs.Ytjgeheggdoghiaa
open Go.ChangeShapes Go.WideShapes Go.ChangeAt Go.RowKit
def hasB (c : Int) : Bool := decide (0 ≤ c ∧ c < 12)
theorem has_any (c : Int) (w : World) :
    Calls Try.prog 19 #[.int .i64 c] w fun e w' => e = .returned (.bool (hasB c)) ∧ w' = w := by
  unfold hasB
  by_cases h0 : 0 ≤ c
  · by_cases h1 : c < 12
    · go_enter Try.func19, Try.ntmps19
      go_wp2
      go_ret
      exact ⟨by simp [*], rfl⟩
    · go_enter Try.func19, Try.ntmps19
      go_wp2
      go_ret
      exact ⟨by simp [*], rfl⟩
  · have hd : decide (0 ≤ c) = false := by simpa using h0
    go_enter Try.func19, Try.ntmps19
    go_wp2
    go_ret
    exact ⟨by simp [*], rfl⟩
def zeros : List Int := [0, 0, 0, 0, 0, 0, 0, 0, 0, 0, 0, 0]
theorem new_any (B : Nat) (w : World) (hB : B ≤ w.heap.size) :
    Calls Try.prog 18 #[] w fun e w' => e = .returned (.pointer (some ⟨w.heap.size, 0, none⟩)) ∧ WS B w' w.heap.size zeros (.slice none 0 0) [] ∧ Kp (fun _ => False) w w' := by
  have hw := hid (show WS B (w.alloc (.cells ((zeros.map (Value.int .i64)) ++ [Value.slice none 0 0]).toArray 55)) w.heap.size zeros (.slice none 0 0) [] from
    ⟨⟨rfl, heap_alloc_new w _⟩, World.ownsRow_nil _ _ _ _, by simp [Value.ownBlock], hB⟩)
  go_enter Try.func18, Try.ntmps18
  go_wp2
  go_ret
  exact ⟨rfl, hw.out, Kp.alloc w _⟩
theorem Try.info43 : (Try.prog.info? 43).map (fun i => (i.zero, i.size, i.bytes)) = some (some (.agg #[.int .i64 0, .int .i64 0, .int .i64 0, .int .i64 0]), 4, 32) := by kernel_rfl
theorem Try.underlying37 : Try.prog.underlying 37 = some (.slice 43) := by kernel_rfl
theorem owns_shape {w : World} {base : Nat} {e : TypeId} {size : Nat} {v : Value} {n : Nat} {xs : List Value} (h : w.ownsRow base e size v n xs) : ∃ ao cap, v = .slice ao n cap := by
  rcases h.2 with ⟨rfl, rfl⟩ | ⟨g, cap, cur, rfl, _⟩
  · exact ⟨none, 0, rfl⟩
  · exact ⟨_, cap, rfl⟩
theorem news_at (w : World) (l : List Value) (t : TypeId) : ∀ j u, l[j]? = some u → (w.alloc (.cells l.toArray t)).cell? ((⟨w.heap.size, 0, none⟩ : Addr).add j) = some u := by
  intro j u hu
  rw [Addr.add_lit, cell_of_row _ _ _ _ t (0, 0) (heap_alloc_new w _)]
  simpa using hu
theorem alloc_near {w : World} {o : Obj} {v v' : Value} (h : Near (w.alloc o) v v') : Near w v v' := by
  rcases h with h | h
  · exact .inl h
  · exact .inr fun k hk => by have := h k hk; simp at this; omega
/-- An append onto the object's log, up to the store. -/
theorem enter_mid {B : Nat} {w w1 : World} {b : Nat} {cs : List Int} {v v' : Value} {es : List Ent} {o : Obj} (h : WS B w b cs v es) (hg : (w.alloc o).grownBy w1 v.ownBlock) :
    Wobj w1 b cs v ∧ Kp (Own b v) w w1 ∧ (Near (w.alloc o) v v' → Near w v v' ∧ v'.ownBlock ≠ some b) := by
  have k1 : Kp (Own b v) w w1 := (Kp.alloc w o).trans (Kp.grown hg fun k _ e => .inr e.symm)
  have k2 : Kp (fun k => v.ownBlock = some k) w w1 := (Kp.alloc w o).trans (Kp.grown hg fun k _ e => e.symm)
  refine ⟨h.obj.kept k2 h.ne, k1, fun hn => ⟨alloc_near hn, fun e => ?_⟩⟩
  rcases alloc_near hn with hn | hn
  · exact h.ne (hn ▸ e)
  · have := hn b e; have := h.obj.lt; omega
theorem enter_done {B : Nat} {w w1 : World} {b : Nat} {cs : List Int} {v v' : Value} {es : List Ent} {e : Ent} {o : Obj} (h : WS B w b cs v es) (hg : (w.alloc o).grownBy w1 v.ownBlock)
    (hr : w1.ownsRow B 43 4 v' (es.length + 1) (entCells es ++ e.cells)) (hn : Near (w.alloc o) v v') :
    WS B (w1.setCell ⟨b, 12, none⟩ v') b cs v' (es ++ [e]) ∧ Goes b v w v' (w1.setCell ⟨b, 12, none⟩ v') := by
  obtain ⟨h1, h2, h3⟩ := enter_mid (v' := v') h hg
  obtain ⟨h3, h4⟩ := h3 hn
  refine ⟨⟨h1.setLog v', ?_, h4, h.lo⟩, h2.trans (Kp.setCell _ _ _ (.inl rfl)), h3⟩
  have := ownsRow_setCell_other hr (a := ⟨b, 12, none⟩) h4 v'
  rw [entCells_snoc]
  simpa using this
set_option maxHeartbeats 1000000 in
theorem enter_any (B : Nat) (w : World) (b : Nat) (cs : List Int) (v : Value) (es : List Ent) (h : WS B w b cs v es) (hn : es.length ≤ 100000) (p c r n : Int) :
    Calls Try.prog 27 #[.pointer (some ⟨b, 0, none⟩), .int .i64 p, .int .i64 c, .int .i64 r, .int .i64 n] w fun e w' =>
      e = .returned (.tuple #[]) ∧ ∃ v', WS B w' b cs v' (es ++ [⟨p, c, r, n⟩]) ∧ Goes b v w v' w' := by
  have hl := h.obj.log
  have hB : B ≤ w.heap.size := by have := h.obj.lt; have := h.lo; omega
  obtain ⟨i0, hi, hz0, hz1, hz2⟩ := info_parts Try.info43
  go_enter Try.func27, Try.ntmps27
  go_wp2_with (at_builtin; refine wpList_append_near _ rfl (.tmp 14) (.tmp 20) 37 rfl B 43 i0 _ 4 32 Try.underlying37 hi hz0 hz1 hz2 rfl (by decide) v es.length (entCells es) rfl (h.row.alloc _) ⟨w.heap.size, 0, none⟩ 1 1 (Ent.cells ⟨p, c, r, n⟩) rfl rfl (news_at w _ 43) (by simpa [entCells] using entCells_one [⟨p, c, r, n⟩]) (by unfold maxLen; omega) (by omega) (by simp; omega) ?_; intro v' w1 hr hg hnear; have hD := hid (enter_done h hg hr hnear); have hM := (enter_mid (v' := v') h hg).1; have hc1 := hM.log; have hf1 := hM.free 12; obtain ⟨ao, cap, rfl⟩ := owns_shape hr; clear hr hg hnear)
  go_end0
  exact ⟨rfl, _, hD.out.1, hD.out.2⟩
end Go.Proofs.Ytjgeheggdoghiaa
