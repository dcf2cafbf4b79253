/- Two rows of values that grow and shrink beside each other: a call's values and its names. -/
import Derived.Test.YtpppgmkefpelaaaGreatUB0
import Derived.Test.YtpppgmkefpelaaaGreatUP0
import Derived.Test.YtpppgmkefpelaaaGreatUV1
namespace Go.Proofs.YtpppgmkefpelaaaGreat
open Go.ChangeShapes Go.WideShapes Go.ChangeAt Go.RowKit
/-- The block of a row. -/
abbrev blk (a : Option Addr) (n c : Nat) : Option Nat := (Value.slice a n c).ownBlock
/-- Two rows of values; each value stays whatever becomes of F and of both rows. -/
structure Two (F : Nat → Prop) (lo : Nat) (w : World) (sa : Option Addr) (n sc : Nat) (ps : List Kd) (na : Option Addr) (m nc : Nat) (qs : List Kd) : Prop where
  rs : w.ownsRow lo 24 3 (.slice sa n sc) n (tris ps)
  rn : w.ownsRow lo 24 3 (.slice na m nc) m (tris qs)
  ls : n = ps.length
  ln : m = qs.length
  ap : ∀ k, blk sa n sc = some k → blk na m nc ≠ some k
  all : ∀ p, p ∈ ps ∨ p ∈ qs → SafeF (fun k => F k ∨ blk sa n sc = some k ∨ blk na m nc = some k) (fun w => Is w p.1 p.2.1) w
section
variable {F F' : Nat → Prop} {lo : Nat} {w w' : World} {sa : Option Addr} {n sc : Nat} {ps : List Kd} {na : Option Addr} {m nc : Nat} {qs : List Kd}
theorem Two.nil (F : Nat → Prop) (lo : Nat) (w : World) : Two F lo w none 0 0 [] none 0 0 [] :=
  ⟨World.ownsRow_nil _ _ _ _, World.ownsRow_nil _ _ _ _, rfl, rfl, fun k e => by simp [Value.ownBlock] at e, fun p hp => by simp at hp⟩
/-- Other blocks turn. -/
theorem Two.goes (H : Two F lo w sa n sc ps na m nc qs) (q : Kp F w w') (hF : ∀ k, blk sa n sc = some k ∨ blk na m nc = some k → ¬ F k) (ho : ∀ k, F' k → F k ∨ w.heap.size ≤ k) : Two F' lo w' sa n sc ps na m nc qs := by
  refine ⟨q.row H.rs fun k e => hF k (.inl e), q.row H.rn fun k e => hF k (.inr e), H.ls, H.ln, H.ap, fun p hp => (H.all p hp).step (q.mono fun k _ e => .inl e) fun k hk e => ?_⟩
  rcases e with e | e
  · rcases ho k e with e | e
    · exact .inl e
    · omega
  · exact .inr e
theorem Two.quiet (H : Two F lo w sa n sc ps na m nc qs) (q : Quiet w w') : Two F lo w' sa n sc ps na m nc qs := by
  refine ⟨q.row H.rs fun _ _ e => e, q.row H.rn fun _ _ e => e, H.ls, H.ln, H.ap, fun p hp => (H.all p hp).step (q.mono fun _ _ e => e.elim) fun k _ e => e⟩
/-- One more value. -/
theorem Two.push {o : Obj} {g cap : Nat} {p : Kd} (H : Two F lo w sa n sc ps na m nc qs) (hv : SafeF (fun k => F k ∨ blk sa n sc = some k ∨ blk na m nc = some k) (fun w => Is w p.1 p.2.1) w)
    (hr : w'.ownsRow lo 24 3 (.slice (some ⟨g, 0, none⟩) (n + 1) cap) (n + 1) (tris ps ++ tri p)) (hg : (w.alloc o).grownBy w' (blk sa n sc)) (hat : blk sa n sc = some g ∨ g = w.heap.size + 1) :
    Two F lo w' (some ⟨g, 0, none⟩) (n + 1) cap (ps ++ [p]) na m nc qs ∧ Kp (fun k => blk sa n sc = some k) w w' := by
  have k1 : Kp (fun k => blk sa n sc = some k) w w' := (Kp.alloc w o).trans (Kp.grown hg fun k _ e => e.symm)
  refine ⟨⟨by rw [tris_app, tris_one]; exact hr, k1.row H.rn fun k e e2 => H.ap k e2 e, by rw [List.length_append, ← H.ls]; rfl, H.ln, fun k e e2 => ?_, fun x hx => ?_⟩, k1⟩
  · simp [Value.ownBlock] at e
    subst e
    rcases hat with e | e
    · exact H.ap g e e2
    · have := (H.rn.lt g e2).2; omega
  · have hs : SafeF (fun k => F k ∨ blk sa n sc = some k ∨ blk na m nc = some k) (fun w => Is w x.1 x.2.1) w := by
      rcases hx with hx | hx
      · rcases List.mem_append.1 hx with hx | hx
        · exact H.all x (.inl hx)
        · simp at hx; subst hx; exact hv
      · exact H.all x (.inr hx)
    refine hs.step (k1.mono fun k _ e => .inr (.inl e)) fun k hk e => ?_
    rcases e with e | e | e
    · exact .inl e
    · simp [Value.ownBlock] at e
      subst e
      rcases hat with e | e
      · exact .inr (.inl e)
      · omega
    · exact .inr (.inr e)
/-- One less. -/
theorem Two.pop {g : Nat} {p : Kd} (H : Two F lo w (some ⟨g, 0, none⟩) (n + 1) sc (ps ++ [p]) na m nc qs) : Two F lo w (some ⟨g, 0, none⟩) n sc ps na m nc qs ∧ SafeF (fun k => F k ∨ blk (some ⟨g, 0, none⟩) n sc = some k ∨ blk na m nc = some k) (fun w => Is w p.1 p.2.1) w ∧ ∀ j, j < 3 → w.cell? ⟨g, n * 3 + j, none⟩ = (tri p)[j]? := by
  have hr := H.rs
  rw [tris_app, tris_one] at hr
  obtain ⟨h1, h2⟩ := owns_pop hr rfl
  have hb : ∀ k : Nat, blk (some ⟨g, 0, none⟩) n sc = some k ↔ blk (some ⟨g, 0, none⟩) (n + 1) sc = some k := fun k => by simp [Value.ownBlock]
  have hl := H.ls
  rw [List.length_append] at hl
  refine ⟨⟨h1, H.rn, by simpa using hl, H.ln, fun k e => H.ap k ((hb k).1 e), fun x hx => (H.all x (by rcases hx with hx | hx; exact .inl (by simp [hx]); exact .inr hx)).mono fun k _ e => ?_⟩, (H.all p (.inl (by simp))).mono fun k _ e => ?_, h2⟩
  · rcases e with e | e | e
    · exact .inl e
    · exact .inr (.inl ((hb k).1 e))
    · exact .inr (.inr e)
  · rcases e with e | e | e
    · exact .inl e
    · exact .inr (.inl ((hb k).1 e))
    · exact .inr (.inr e)
/-- The other way round. -/
theorem Two.swap (H : Two F lo w sa n sc ps na m nc qs) : Two F lo w na m nc qs sa n sc ps :=
  ⟨H.rn, H.rs, H.ln, H.ls, fun k e e2 => H.ap k e2 e, fun p hp => (H.all p hp.symm).mono fun k _ e => by
    rcases e with e | e | e
    · exact .inl e
    · exact .inr (.inr e)
    · exact .inr (.inl e)⟩
/-- The cells of a value in the row. -/
theorem Two.cells (H : Two F lo w sa n sc ps na m nc qs) (i : Nat) (hi : i < n) : ∃ g, sa = some ⟨g, 0, none⟩ ∧ ∀ j, j < 3 → w.cell? ⟨g, i * 3 + j, none⟩ = (tri (ps[i]'(by rw [← H.ls]; exact hi)))[j]? := by
  obtain ⟨g, e, d⟩ := owns_at H.rs (by omega)
  exact ⟨g, e, fun j hj => by rw [d (i * 3 + j) (by omega), tris_at ps i j (by rw [← H.ls]; exact hi) hj]⟩
/-- A row of values is not the box's. -/
theorem Two.free {B bb g wd : Nat} {vn vo vl : Value} {ms : Mods} {s : Sg} {a b c d : Pg} (H : Two F lo w sa n sc ps na m nc qs) (hb : BoxS B w bb g wd vn vo vl ms s a b c d) : ∀ k, blk sa n sc = some k ∨ blk na m nc = some k → ¬ OwnB bb g wd vn vo vl k := by
  intro k hk
  have : ∃ cs, w.heap[k]? = some (.cells cs 24 (0, 0)) := by
    rcases hk with hk | hk
    · exact row_box H.rs hk
    · exact row_box H.rn hk
  obtain ⟨cs, hc⟩ := this
  exact hb.free hc (by decide) (by decide) (by decide) (by decide) (by decide) (by decide)
end
end Go.Proofs.YtpppgmkefpelaaaGreat
