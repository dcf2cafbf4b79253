/- The contract of the beginning that both statements on package world ask for. -/
import Derived.Test.YtjgeheggdoghiaaWorld
import Derived.Deep.RegionWith
namespace Go.Proofs.Ytjgeheggdoghiaa
open Go.ChangeShapes Go.WideShapes Go.ChangeAt Go.RowKit
theorem ws_size {B : Nat} {w : World} {b : Nat} {cs : List Int} {v : Value} {es : List Ent} (h : WS B w b cs v es) : B ≤ w.heap.size := by
  have := h.obj.lt; have := h.lo; omega
theorem ws_below {B : Nat} {w0 w w' : World} {b : Nat} {cs : List Int} {v v' : Value} {es : List Ent} (h0 : Below B w0 w) (h : WS B w b cs v es) (hg : Goes b v w v' w') : Below B w0 w' :=
  h0.trans (hg.kp.below (ws_size h) fun k hk => (h.own_lt k hk).1)
theorem kp_below {B : Nat} {w0 w w' : World} (h0 : Below B w0 w) (hB : B ≤ w.heap.size) (hk : Kp (fun _ => False) w w') : Below B w0 w' :=
  h0.trans (hk.below hB fun _ h => h.elim)
theorem ws_kp {B : Nat} {w w' : World} {b : Nat} {cs : List Int} {v : Value} {es : List Ent} (h : WS B w b cs v es) (hk : Kp (fun _ => False) w w') : WS B w' b cs v es := h.kept hk fun _ _ h => h
theorem begun1 : holdAt zeros 2 4 = [0, 0, 4, 0, 0, 0, 0, 0, 0, 0, 0, 0] := by decide
theorem begun2 : entryOf [] 1 2 2 3 = [⟨1, 2, 2, 3⟩] := by simp [entryOf, hasB]
theorem begun3 : entryOf [⟨1, 2, 2, 3⟩] 5 2 1 6 = [⟨1, 2, 2, 3⟩, ⟨5, 2, 1, 6⟩] := by simp [entryOf, hasB]
theorem begun4 : entryOf [⟨1, 2, 2, 3⟩, ⟨5, 2, 1, 6⟩] 5 12 1 6 = [⟨1, 2, 2, 3⟩, ⟨5, 2, 1, 6⟩] := by simp [entryOf, hasB]
theorem begun5 : heldAt [0, 0, 4, 0, 0, 0, 0, 0, 0, 0, 0, 0] 2 = 4 := by decide
theorem begun6 : hasB 2 = true := by decide
theorem begun7 : hasB 12 = false := by decide
set_option maxHeartbeats 2000000 in
theorem begun_any (w : World) :
    Calls Try.prog 17 #[] w fun e w' => e = .returned (.bool true) ∧ Below w.heap.size w w' := by
  have q := eq43
  go_enter Try.func17, Try.ntmps17
  go_wp2_with (first
    | (go_at_call 18; refine (new_any w.heap.size _ (Nat.le_refl _)).mono ?_; rintro e w1 ⟨rfl, h1, k1⟩; have b1 := kp_below (Below.refl _ _) (Nat.le_refl _) k1; clear k1)
    | (go_at_call 21; refine (write_any w.heap.size _ _ _ _ _ h1 (by simp) _ _ _ _).mono ?_; rintro e w2 ⟨rfl, v2, h2, g2⟩; have b2 := ws_below b1 h1 g2; rw [begun1, begun2] at h2; rw [begun6]; clear g2 h1 b1)
    | (go_at_call_of 20 (Value.int .i64 2); refine (read_any w.heap.size _ _ _ _ _ h2 (by simp) _ _ _).mono ?_; rintro e w3 ⟨rfl, v3, h3, g3⟩; have b3 := ws_below b2 h2 g3; rw [begun3] at h3; rw [begun6, begun5]; clear g3 h2 b2)
    | (go_at_call_of 20 (Value.int .i64 12); refine (read_any w.heap.size _ _ _ _ _ h3 (by simp) _ _ _).mono ?_; rintro e w4 ⟨rfl, v4, h4, g4⟩; have b4 := ws_below b3 h3 g4; rw [begun4] at h4; rw [begun7]; clear g4 h3 b3)
    | (go_at_call 25; refine (log_any w.heap.size _ _ _ _ _ h4 (by simp)).mono ?_; rintro e w5 ⟨v5, rfl, hr, hk⟩; have b5 := kp_below b4 (ws_size h4) hk; have h5 := ws_kp h4 hk; obtain ⟨ao, cap, rfl⟩ := owns_shape hr; obtain ⟨g, rfl, d⟩ := owns_at hr (by simp); have d0 := d 0 (by simp); have d1 := d 1 (by simp); have d2 := d 2 (by simp); have d3 := d 3 (by simp); simp only [entCells, Ent.cells, List.flatMap_cons, List.cons_append, List.getElem?_cons_zero, List.getElem?_cons_succ] at d0 d1 d2 d3; clear hr hk d b4 h4)
    | (go_at_call 23; refine (cells_any w.heap.size _ _ _ _ _ h5).mono ?_; rintro e w6 ⟨rfl, _, hk⟩; have b6 := kp_below b5 (ws_size h5) hk; clear hk h5 b5))
  go_ret
  exact ⟨rfl, b6⟩
end Go.Proofs.Ytjgeheggdoghiaa
