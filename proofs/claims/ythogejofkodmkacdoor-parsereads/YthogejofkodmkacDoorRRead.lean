/- The document's reading: its box, and its smallest steps. -/
import Derived.Test.YthogejofkodmkacDoorGBase
import Derived.Test.YthogejofkodmkacDoorGPlain
import Derived.Test.YthogejofkodmkacDoorRefTell
import Derived.BigQuiet
import Derived.Deep.QuietTactic
import Derived.Deep.RegionLaw
import Derived.StillTailTactics
namespace Go.Proofs.YthogejofkodmkacDoor
open Go.ChangeShapes Go.WideShapes Go.ChangeAt Go.RowKit
/-- The box of a reading: all tokens, where the text ends, the next one, the first fault. -/
structure QB (w : World) (rb : Nat) (e : Int) (all : List Tk) (ao : Option Addr) (cap : Nat) (z c a : Int) : Prop where
  box : w.heap[rb]? = some (.cells #[.slice ao all.length cap, .int .i64 e, .int .i64 z, .int .i64 c, .int .i64 a] 59 (0, 0))
  lie : TkAt w rb all ao
theorem box5 {w : World} {x : Nat} {a b c d e : Value} {t : TypeId} (h : w.heap[x]? = some (.cells #[a, b, c, d, e] t (0, 0))) : w.cell? ⟨x, 0, none⟩ = some a ∧ w.cell? ⟨x, 1, none⟩ = some b ∧ w.cell? ⟨x, 2, none⟩ = some c ∧ w.cell? ⟨x, 3, none⟩ = some d ∧ w.cell? ⟨x, 4, none⟩ = some e := by
  refine ⟨?_, ?_, ?_, ?_, ?_⟩ <;> simp [World.cell?, h]
theorem QB.quiet {w w' : World} {rb : Nat} {e : Int} {all : List Tk} {ao : Option Addr} {cap : Nat} {z c a : Int} (h : QB w rb e all ao cap z c a) (q : Quiet w w') : QB w' rb e all ao cap z c a :=
  ⟨(q.block rb (lt_of_block h.box) fun e => e).trans h.box, h.lie.kept (q.mono fun _ _ e => e.elim)⟩
theorem QB.above {w w' : World} {rb : Nat} {e : Int} {all : List Tk} {ao : Option Addr} {cap : Nat} {z c a : Int} (h : QB w rb e all ao cap z c a) (q : Kp (fun k => rb < k) w w') : QB w' rb e all ao cap z c a :=
  ⟨(q.block rb (lt_of_block h.box) (by omega)).trans h.box, h.lie.kept (q.mono fun _ _ e => by omega)⟩
theorem QB.lt {w : World} {rb : Nat} {e : Int} {all : List Tk} {ao : Option Addr} {cap : Nat} {z c a : Int} (h : QB w rb e all ao cap z c a) : rb < w.heap.size := lt_of_block h.box
/-- The next one. -/
theorem QB.set2 {w : World} {rb : Nat} {e : Int} {all : List Tk} {ao : Option Addr} {cap : Nat} {z c a : Int} (h : QB w rb e all ao cap z c a) (z' : Int) : QB (w.setCell ⟨rb, 2, none⟩ (.int .i64 z')) rb e all ao cap z' c a ∧ Kr rb w (w.setCell ⟨rb, 2, none⟩ (.int .i64 z')) := by
  have hk : Kr rb w (w.setCell ⟨rb, 2, none⟩ (.int .i64 z')) := Kp.setCell (F := fun k => k = rb) w ⟨rb, 2, none⟩ _ rfl
  refine ⟨⟨?_, h.lie.kept (hk.mono fun k _ e => by omega)⟩, hk⟩
  simp [World.setCell, Array.getElem?_modify, h.box]
/-- A fault. -/
theorem QB.set34 {w w1 : World} {rb : Nat} {e : Int} {all : List Tk} {ao : Option Addr} {cap : Nat} {z c a : Int} (h : QB w rb e all ao cap z c a) (q : Quiet w w1) (c' a' : Int) : QB ((w1.setCell ⟨rb, 3, none⟩ (.int .i64 c')).setCell ⟨rb, 4, none⟩ (.int .i64 a')) rb e all ao cap z c' a' ∧ Kr rb w ((w1.setCell ⟨rb, 3, none⟩ (.int .i64 c')).setCell ⟨rb, 4, none⟩ (.int .i64 a')) := by
  have hk : Kr rb w1 ((w1.setCell ⟨rb, 3, none⟩ (.int .i64 c')).setCell ⟨rb, 4, none⟩ (.int .i64 a')) := (Kp.setCell (F := fun k => k = rb) w1 ⟨rb, 3, none⟩ _ rfl).trans (Kp.setCell (F := fun k => k = rb) _ ⟨rb, 4, none⟩ _ rfl)
  have h1 := h.quiet q
  refine ⟨⟨?_, h1.lie.kept (hk.mono fun k _ e => by omega)⟩, (Quiet.kr q).trans hk⟩
  simp [World.setCell, Array.getElem?_modify, h1.box]
theorem rok_any {w : World} {rb : Nat} {e : Int} {all : List Tk} {ao : Option Addr} {cap : Nat} {z c a : Int} (h : QB w rb e all ao cap z c a) : Calls Tryd.prog 28 #[.pointer (some ⟨rb, 0, none⟩)] w fun e' w' => e' = .returned (.bool (c == 0)) ∧ w' = w := by
  obtain ⟨b0, b1, b2, b3, b4⟩ := box5 h.box
  clear h
  go_enter Tryd.func28, Tryd.ntmps28
  go_wp2
  go_ret
  exact ⟨rfl, rfl⟩
theorem rok_no {w : World} {rb : Nat} {e : Int} {all : List Tk} {ao : Option Addr} {cap : Nat} {z c a : Int} (h : QB w rb e all ao cap z c a) (hc : c ≠ 0) : Calls Tryd.prog 28 #[.pointer (some ⟨rb, 0, none⟩)] w fun e' w' => e' = .returned (.bool false) ∧ w' = w := by
  have := rok_any h
  rwa [show (c == 0) = false by simpa using hc] at this
theorem rok_yes {w : World} {rb : Nat} {e : Int} {all : List Tk} {ao : Option Addr} {cap : Nat} {z a : Int} (h : QB w rb e all ao cap z 0 a) : Calls Tryd.prog 28 #[.pointer (some ⟨rb, 0, none⟩)] w fun e' w' => e' = .returned (.bool true) ∧ w' = w := rok_any h
theorem rwrong_not {w : World} {rb : Nat} {e : Int} {all : List Tk} {ao : Option Addr} {cap : Nat} {z c a : Int} (h : QB w rb e all ao cap z c a) (hc : c ≠ 0) (code : Int) : Calls Tryd.prog 45 #[.pointer (some ⟨rb, 0, none⟩), .int .i64 code] w fun e' w' => e' = .returned (.tuple #[]) ∧ w' = w := by
  have hc1 : (c == 0) = false := by simpa using hc
  have HO := hid (rok_any h)
  clear h hc
  go_enter Tryd.func45, Tryd.ntmps45
  go_wp2_with (go_at_call 28; refine HO.out.mono ?_; rintro e' w1 ⟨rfl, rfl⟩; rw [hc1])
  first | go_end0 | refine bodyPost_ret (results_none rfl _ _ _) rfl ?_
  exact ⟨rfl, rfl⟩
/-- What is told of a fault at what is left. -/
def wrongT (code e : Int) (rest : List Tk) : Int × Int := match rest with
  | [] => (if code = 5 then 6 else code, e)
  | t :: _ => (code, (t.pos : Int))
set_option maxRecDepth 8000 in
set_option maxHeartbeats 1000000 in
theorem rwrong_at {w : World} {rb : Nat} {e : Int} {all : List Tk} {ao : Option Addr} {cap : Nat} {j : Nat} {a : Int} (h : QB w rb e all ao cap j 0 a) (_hl : all.length ≤ 9000) (t : Tk) (ht : all[j]? = some t) (code : Int) : Calls Tryd.prog 45 #[.pointer (some ⟨rb, 0, none⟩), .int .i64 code] w fun e' w' => e' = .returned (.tuple #[]) ∧ QB w' rb e all ao cap j code t.pos ∧ Kr rb w w' := by
  obtain ⟨b0, b1, b2, b3, b4⟩ := box5 h.box
  have hf := box_free h.box
  obtain ⟨hj, _⟩ := List.getElem?_eq_some_iff.1 ht
  obtain ⟨g, off, rfl, hg, t0, t1, t2, t3⟩ := h.lie j t ht
  have hj' : (j : Int) < (all.length : Int) := by omega
  have hlt := h.lt
  have hgl : g < w.heap.size := by omega
  have HO := hid (rok_any h)
  have HQ := hid h
  clear h ht
  go_enter Tryd.func45, Tryd.ntmps45
  go_wp2_with (go_at_call 28; refine HO.out.mono ?_; rintro e' w1 ⟨rfl, hw1⟩; replace hw1 := hw1.symm; subst hw1)
  go_quiet (fail)
  go_wp2_with fail
  go_region_law ((go_simp; go_at_call 22; refine (F_any code (t.pos : Int) _).mono ?_; rintro e' w2 ⟨rfl, q2⟩; have q3 := (show Quiet w w2 from ((Kp.drewN w _).trans (Kp.drew _)).trans q2); have hb2 := (HQ.out.quiet q3).box; have x3 := (box5 hb2).2.2.2.1; have x4 := (box5 hb2).2.2.2.2; have hf2 := box_free hb2; clear hb2))
  all_goals
    go_end0
    exact ⟨rfl, HQ.out.set34 q3 code (t.pos : Int)⟩
set_option maxRecDepth 8000 in
set_option maxHeartbeats 1000000 in
theorem rwrong_end {w : World} {rb : Nat} {e : Int} {all : List Tk} {ao : Option Addr} {cap : Nat} {a : Int} (h : QB w rb e all ao cap (all.length : Int) 0 a) (code : Int) : Calls Tryd.prog 45 #[.pointer (some ⟨rb, 0, none⟩), .int .i64 code] w fun e' w' => e' = .returned (.tuple #[]) ∧ QB w' rb e all ao cap (all.length : Int) (if code = 5 then 6 else code) e ∧ Kr rb w w' := by
  obtain ⟨b0, b1, b2, b3, b4⟩ := box5 h.box
  have hf := box_free h.box
  have hj' : decide ((all.length : Int) < (all.length : Int)) = false := by simp
  have HO := hid (rok_any h)
  have HQ := hid h
  clear h
  by_cases h5 : code = 5
  · subst h5
    rw [if_pos rfl]
    go_enter Tryd.func45, Tryd.ntmps45
    go_wp2_with (go_at_call 28; refine HO.out.mono ?_; rintro e' w1 ⟨rfl, hw1⟩; replace hw1 := hw1.symm; subst hw1)
    go_quiet (fail)
    go_wp2_with (go_at_call 22; refine (F_any 6 e _).mono ?_; rintro e' w2 ⟨rfl, q2⟩; have q3 := (show Quiet w w2 from (Kp.drewN w _).trans q2); have hb2 := (HQ.out.quiet q3).box; have x3 := (box5 hb2).2.2.2.1; have x4 := (box5 hb2).2.2.2.2; have hf2 := box_free hb2; clear hb2)
    go_end0
    exact ⟨rfl, HQ.out.set34 q3 6 e⟩
  · rw [if_neg h5]
    have h51 : (code == 5) = false := by simpa using h5
    go_enter Tryd.func45, Tryd.ntmps45
    go_wp2_with (go_at_call 28; refine HO.out.mono ?_; rintro e' w1 ⟨rfl, hw1⟩; replace hw1 := hw1.symm; subst hw1)
    go_quiet (fail)
    go_wp2_with (go_at_call 22; refine (F_any code e _).mono ?_; rintro e' w2 ⟨rfl, q2⟩; have q3 := (show Quiet w w2 from (Kp.drewN w _).trans q2); have hb2 := (HQ.out.quiet q3).box; have x3 := (box5 hb2).2.2.2.1; have x4 := (box5 hb2).2.2.2.2; have hf2 := box_free hb2; clear hb2)
    go_end0
    exact ⟨rfl, HQ.out.set34 q3 code e⟩
theorem drop_cases (all : List Tk) (j : Nat) (h : j ≤ all.length) : (all.drop j = [] ∧ j = all.length) ∨ ∃ t, all[j]? = some t ∧ all.drop j = t :: all.drop (j + 1) ∧ j < all.length := by
  rcases Nat.lt_or_ge j all.length with h1 | h1
  · exact .inr ⟨all[j], List.getElem?_eq_getElem h1, List.drop_eq_getElem_cons h1, h1⟩
  · exact .inl ⟨List.drop_of_length_le h1, by omega⟩
theorem rwrong_any {w : World} {rb : Nat} {e : Int} {all : List Tk} {ao : Option Addr} {cap : Nat} {j : Nat} {a : Int} (h : QB w rb e all ao cap j 0 a) (hl : all.length ≤ 9000) (hj : j ≤ all.length) (code : Int) : Calls Tryd.prog 45 #[.pointer (some ⟨rb, 0, none⟩), .int .i64 code] w fun e' w' => e' = .returned (.tuple #[]) ∧ QB w' rb e all ao cap j (wrongT code e (all.drop j)).1 (wrongT code e (all.drop j)).2 ∧ Kr rb w w' := by
  rcases drop_cases all j hj with ⟨h1, rfl⟩ | ⟨t, h1, h2, _⟩
  · rw [h1]; exact rwrong_end h code
  · rw [h2]; exact rwrong_at h hl t h1 code
set_option maxRecDepth 8000 in
set_option maxHeartbeats 1000000 in
theorem ris_not {w : World} {rb : Nat} {e : Int} {all : List Tk} {ao : Option Addr} {cap : Nat} {z c a : Int} (h : QB w rb e all ao cap z c a) (hc : c ≠ 0) (s : ByteArray) : Calls Tryd.prog 44 #[.pointer (some ⟨rb, 0, none⟩), .string s] w fun e' w' => e' = .returned (.bool false) ∧ Quiet w w' := by
  have HO := hid (And.intro h hc)
  clear h hc
  go_enter Tryd.func44, Tryd.ntmps44
  go_wp2_with fail
  go_quiet ((go_at_call 28; refine Calls.quiet_of_same (rok_no (HO.out.1.quiet ?_) HO.out.2); exact Kp.drewN _ _))
  go_wp2_with fail
  go_ret
  exact ⟨rfl, Kp.drewN _ _⟩
set_option maxRecDepth 8000 in
set_option maxHeartbeats 1000000 in
theorem ris_end {w : World} {rb : Nat} {e : Int} {all : List Tk} {ao : Option Addr} {cap : Nat} {a : Int} (h : QB w rb e all ao cap (all.length : Int) 0 a) (s : ByteArray) : Calls Tryd.prog 44 #[.pointer (some ⟨rb, 0, none⟩), .string s] w fun e' w' => e' = .returned (.bool false) ∧ Quiet w w' := by
  obtain ⟨b0, b1, b2, b3, b4⟩ := box5 h.box
  have hj' : decide ((all.length : Int) < (all.length : Int)) = false := by simp
  have HO := hid h
  clear h
  go_enter Tryd.func44, Tryd.ntmps44
  go_wp2_with fail
  go_quiet ((go_at_call 28; refine Calls.quiet_of_same (rok_yes (HO.out.quiet ?_)); exact Kp.drewN _ _))
  go_wp2_with fail
  go_ret
  exact ⟨rfl, Kp.drewN _ _⟩
set_option maxRecDepth 8000 in
set_option maxHeartbeats 1000000 in
theorem ris_num {w : World} {rb : Nat} {e : Int} {all : List Tk} {ao : Option Addr} {cap : Nat} {j : Nat} {a : Int} (h : QB w rb e all ao cap j 0 a) (t : Tk) (ht : all[j]? = some t) (hn : t.num = true) (s : ByteArray) : Calls Tryd.prog 44 #[.pointer (some ⟨rb, 0, none⟩), .string s] w fun e' w' => e' = .returned (.bool false) ∧ Quiet w w' := by
  obtain ⟨b0, b1, b2, b3, b4⟩ := box5 h.box
  obtain ⟨hj, _⟩ := List.getElem?_eq_some_iff.1 ht
  obtain ⟨g, off, rfl, hg, t0, t1, t2, t3⟩ := h.lie j t ht
  rw [hn] at t2
  have hj' : (j : Int) < (all.length : Int) := by omega
  have HO := hid h
  clear h ht hn
  go_enter Tryd.func44, Tryd.ntmps44
  go_wp2_with fail
  go_quiet ((go_at_call 28; refine Calls.quiet_of_same (rok_yes (HO.out.quiet ?_)); exact Kp.drewN _ _))
  go_wp2_with fail
  go_ret
  exact ⟨rfl, Kp.drewN _ _⟩
set_option maxRecDepth 8000 in
set_option maxHeartbeats 1000000 in
theorem ris_word {w : World} {rb : Nat} {e : Int} {all : List Tk} {ao : Option Addr} {cap : Nat} {j : Nat} {a : Int} (h : QB w rb e all ao cap j 0 a) (t : Tk) (ht : all[j]? = some t) (hn : t.num = false) (s : List UInt8) : Calls Tryd.prog 44 #[.pointer (some ⟨rb, 0, none⟩), .string ⟨s.toArray⟩] w fun e' w' => e' = .returned (.bool (t.text == s)) ∧ Quiet w w' := by
  obtain ⟨b0, b1, b2, b3, b4⟩ := box5 h.box
  obtain ⟨hj, _⟩ := List.getElem?_eq_some_iff.1 ht
  obtain ⟨g, off, rfl, hg, t0, t1, t2, t3⟩ := h.lie j t ht
  rw [hn] at t2
  have hj' : (j : Int) < (all.length : Int) := by omega
  have HO := hid h
  clear h ht hn
  go_enter Tryd.func44, Tryd.ntmps44
  go_wp2_with fail
  go_quiet ((go_at_call 28; refine Calls.quiet_of_same (rok_yes (HO.out.quiet ?_)); exact Kp.drewN _ _))
  go_wp2_with fail
  go_ret
  exact ⟨rfl, Kp.drewN _ _⟩
end Go.Proofs.YthogejofkodmkacDoor
