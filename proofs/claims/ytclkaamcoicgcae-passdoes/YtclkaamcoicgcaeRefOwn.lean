/- The document's own answer: a value in memory of its own. -/
import Derived.Test.YtclkaamcoicgcaeJBase
import Derived.Deep.RegionLaw
import Derived.Laws.ResultCell
namespace Go.Proofs.Ytclkaamcoicgcae
open Go.ChangeShapes Go.WideShapes Go.ChangeAt Go.RowKit
/-- What OwnVal tells. -/
def OwnR (v : V) : Prop := ∀ (ao : Option Addr) (cap : Nat) (w : World), Is w v ao → v.size ≤ 20000 →
    Calls Try.prog 9 #[.agg #[.int .i64 v.kind, .int .i64 v.n, .slice ao v.l.length cap]] w fun e w' => ∃ ao' cap', e = .returned (.agg #[.int .i64 v.kind, .int .i64 v.n, .slice ao' v.l.length cap']) ∧ Hold w.heap.size none w' v ao' ∧ Quiet w w'
/-- The state of the loop: what was made so far. -/
structure OS (W : World) (h : Nat) (v : V) (j : Nat) (av : Option Addr) (n cv : Nat) (ps : List Kd) (w : World) : Prop where
  obj : w.heap[h + 2]? = some (.cells #[.int .i64 v.kind, .int .i64 v.n, .slice av n cv] 25 (0, 0))
  row : w.ownsRow (h + 3) 25 3 (.slice av n cv) n (tris ps)
  len : n = ps.length
  all : ∀ p ∈ ps, Hold (h + 3) (Value.slice av n cv).ownBlock w p.1 p.2.1
  map : ps.map (·.1) = v.l.take j
  low : Below (h + 2) W w
  sz : h + 3 ≤ w.heap.size
theorem own_step {W w w3 w1 : World} {h : Nat} {v : V} {j : Nat} {av : Option Addr} {m cv : Nat} {ps : List Kd} {x : V} {a : Option Addr} {c g cap : Nat} {o : Obj} (H : OS W h v j av m cv ps w) (hx : v.l.take (j + 1) = v.l.take j ++ [x]) (q3 : Quiet w.drew w3) (hc : Hold w.heap.size none w3 x a)
    (hr : w1.ownsRow (h + 3) 25 3 (.slice (some ⟨g, 0, none⟩) (m + 1) cap) (m + 1) (tris ps ++ tri (x, a, c))) (hg : (w3.alloc o).grownBy w1 (Value.slice av m cv).ownBlock) (hat : (Value.slice av m cv).ownBlock = some g ∨ g = w3.heap.size + 1) :
    OS W h v (j + 1) (some ⟨g, 0, none⟩) (m + 1) cap (ps ++ [(x, a, c)]) (w1.setCell ⟨h + 2, 2, none⟩ (.slice (some ⟨g, 0, none⟩) (m + 1) cap)) ∧ (w1.cell? ⟨h + 2, 2, none⟩ = some (.slice av m cv) ∧ w1.frozen? ⟨h + 2, 2, none⟩ = false) := by
  have hm := H.len
  have hlt := lt_of_block H.obj
  have hs3 : w.heap.size ≤ w3.heap.size := q3.size
  have hs1 : w3.heap.size + 1 ≤ w1.heap.size := by have := hg.size; simpa using this
  have hrb : ∀ b, (Value.slice av m cv).ownBlock = some b → h + 3 ≤ b ∧ b < w.heap.size := fun b e => H.row.lt b e
  have hk1 : ∀ b, b < w.heap.size → (Value.slice av m cv).ownBlock ≠ some b → w1.heap[b]? = w.heap[b]? := by
    intro b hb hne
    rw [hg.block b (by simp; omega) (fun e => hne e.symm), Below.heap_alloc w3 o b (by omega)]
    exact q3.block b hb (fun e => e)
  have hk3 : ∀ b, w.heap.size ≤ b → b < w3.heap.size → w1.heap[b]? = w3.heap[b]? := by
    intro b hb hb3
    rw [hg.block b (by simp; omega) (fun e => by have := hrb b e.symm; omega), Below.heap_alloc w3 o b hb3]
  have hobj : w1.heap[h + 2]? = some (.cells #[.int .i64 v.kind, .int .i64 v.n, .slice av m cv] 25 (0, 0)) := by
    rw [hk1 (h + 2) hlt (fun e => by have := hrb _ e; omega)]; exact H.obj
  have hset : ∀ b, b ≠ h + 2 → (w1.setCell ⟨h + 2, 2, none⟩ (.slice (some ⟨g, 0, none⟩) (m + 1) cap)).heap[b]? = w1.heap[b]? := fun b hb => Below.heap_setCell _ _ _ _ (fun e => hb e)
  have hgl : h + 3 ≤ g := by
    rcases hat with e | e
    · exact (hrb g e).1
    · have := H.sz; omega
  refine ⟨⟨?_, ?_, ?_, ?_, ?_, ?_, ?_⟩, ?_⟩
  · simp [World.setCell, Array.getElem?_modify, hobj]
  · have := (Kp.setCell (F := fun b => b = h + 2) w1 ⟨h + 2, 2, none⟩ (.slice (some ⟨g, 0, none⟩) (m + 1) cap) rfl).row hr (fun b e => by simp [Value.ownBlock] at e; omega)
    rw [tris_app, tris_one]; simpa using this
  · rw [List.length_append, hm]; rfl
  · intro p hp
    have hrow' : (Value.slice (some ⟨g, 0, none⟩) (m + 1) cap).ownBlock = some g := rfl
    rw [hrow']
    rcases List.mem_append.1 hp with hp | hp
    · refine (H.all p hp).step (fun b h1 h2 h3 => ?_) ?_
      · rw [hset b (by omega)]; exact hk1 b h2 (fun e => h3 e)
      · rcases hat with e | e
        · exact .inl e.symm
        · exact .inr ⟨g, rfl, by omega⟩
    · simp at hp
      subst hp
      intro w2 h2
      refine hc w2 fun b c t h1 _ h3 => h2 b c t (by have := H.sz; omega) ?_ ((hset b (by have := H.sz; omega)).trans ((hk3 b h1 (lt_of_block h3)).trans h3))
      intro e
      simp at e
      have hb3 := lt_of_block h3
      rcases hat with e' | e'
      · have := hrb g e'; omega
      · omega
  · rw [List.map_append, H.map, hx]; rfl
  · refine ⟨?_, ?_, ?_, ?_, fun b hb => ?_⟩
    · exact (hg.os.trans q3.os).trans H.low.os
    · exact (hg.tape.trans q3.tape).trans H.low.tape
    · exact (hg.output.trans q3.output).trans H.low.output
    · have := H.low.size; simp [World.setCell]; omega
    · rw [hset b (by omega), hk1 b (by omega) (fun e => by have := hrb b e; omega)]; exact H.low.block b hb
  · simp [World.setCell]; omega
  · exact ⟨by simp [World.cell?, hobj], frozen_of_row w1 (h + 2) 2 _ 25 hobj⟩
/-- A world in which but one block has turned. -/
theorem own_end {W w w0 w' : World} {v : V} {j : Nat} {av : Option Addr} {n cv : Nat} {ps : List Kd} (H : OS W w0.heap.size v j av n cv ps w) (hj : v.l.length ≤ j) (hf : v.fits) (qW : Quiet w0 W) (q : Kp (fun k => k = w0.heap.size + 1) w w') :
    Hold w0.heap.size none w' v av ∧ Quiet w0 w' ∧ n = v.l.length := by
  have hm : ps.map (·.1) = v.l := by rw [H.map, List.take_of_length_le hj]
  have hs : ∀ b, b < w.heap.size → b ≠ w0.heap.size + 1 → w'.heap[b]? = w.heap[b]? := fun b hb hne => q.block b hb hne
  refine ⟨?_, ?_, ?_⟩
  · have h1 := hold_row (lo := w0.heap.size + 3) (B := w0.heap.size + 3) hf hm H.row H.len (Nat.le_refl _) H.all
    intro w2 h2
    exact h1 w2 fun b c t h3 _ h4 => h2 b c t (by omega) (by simp) ((hs b (lt_of_block h4) (by omega)).trans h4)
  · refine ⟨q.os.trans (H.low.os.trans qW.os), q.tape.trans (H.low.tape.trans qW.tape), q.output.trans (H.low.output.trans qW.output), by have := qW.size; have := H.low.size; have := q.size; omega, fun b hb _ => ?_⟩
    rw [hs b (by have := H.sz; omega) (by omega), H.low.block b (by omega)]
    exact qW.block b hb (fun e => e)
  · rw [H.len, ← hm, List.length_map]
theorem box_free {w : World} {x : Nat} {c : Array Value} {t : TypeId} (h : w.heap[x]? = some (.cells c t (0, 0))) : w.frozen? ⟨x, 0, none⟩ = false ∧ w.frozen? ⟨x, 1, none⟩ = false ∧ w.frozen? ⟨x, 2, none⟩ = false :=
  ⟨frozen_of_row w x 0 _ t h, frozen_of_row w x 1 _ t h, frozen_of_row w x 2 _ t h⟩
theorem kp1 (w : World) (b o : Nat) (y : Value) : Kp (fun k => k = b) w (w.setCell ⟨b, o, none⟩ y) := Kp.setCell w ⟨b, o, none⟩ y rfl
set_option maxRecDepth 8000 in
set_option maxHeartbeats 4000000 in
theorem ownR_any (v : V) : OwnR v := by
  obtain ⟨i0, hi0, hz0, hz1, hz2⟩ := info_parts Try.infoV
  induction v using V.ind' with
  | h v ih =>
    intro ao cap w hI hS
    have hlen : v.l.length ≤ 20000 := by have := sizes_len v.l; have := size_eq v; omega
    have hsz : ∀ j (h : j < v.l.length), v.l[j].size ≤ 20000 := fun j h => by have := size_get v.l j h; have := size_eq v; omega
    have HI := hid (And.intro hI (And.intro ih hsz))
    clear hI ih hsz hS
    obtain ⟨W, hW⟩ : ∃ W, W = ((w.alloc (.cells #[.int .i64 v.kind, .int .i64 v.n, .slice ao v.l.length cap] 25)).alloc (.cells #[.int .i64 0, .int .i64 0, .slice none 0 0] 25)).alloc (.cells #[.int .i64 v.kind, .int .i64 v.n, .slice none 0 0] 25) := ⟨_, rfl⟩
    have HW := hid hW
    have b0 : W.heap[w.heap.size]? = some (.cells #[.int .i64 v.kind, .int .i64 v.n, .slice ao v.l.length cap] 25 (0, 0)) := by
      rw [hW, Below.heap_alloc _ _ _ (by simp; omega), Below.heap_alloc _ _ _ (by simp)]; exact heap_alloc_new w _
    have b1 : W.heap[w.heap.size + 1]? = some (.cells #[.int .i64 0, .int .i64 0, .slice none 0 0] 25 (0, 0)) := by
      rw [hW, Below.heap_alloc _ _ _ (by simp)]; exact heap_two w _ _
    have b2 : W.heap[w.heap.size + 2]? = some (.cells #[.int .i64 v.kind, .int .i64 v.n, .slice none 0 0] 25 (0, 0)) := by
      rw [hW]; have := heap_alloc_new ((w.alloc (.cells #[.int .i64 v.kind, .int .i64 v.n, .slice ao v.l.length cap] 25)).alloc (.cells #[.int .i64 0, .int .i64 0, .slice none 0 0] 25)) (.cells #[.int .i64 v.kind, .int .i64 v.n, .slice none 0 0] 25); simpa using this
    have qW : Quiet w W := by rw [hW]; exact (Kp.alloc _ _).trans ((Kp.alloc _ _).trans (Kp.alloc _ _))
    have sW : W.heap.size = w.heap.size + 3 := by rw [hW]; simp
    have HB := hid (And.intro b0 (And.intro b1 (And.intro b2 (And.intro qW sW))))
    clear hW b0 b1 b2 qW sW
    go_enter Try.func9, Try.ntmps9
    go_wp2
    go_loopg [4] v.l.length (fun gk i wr => ∃ (j n : Nat) (av : Option Addr) (cv : Nat) (ps : List Kd), gk = v.l.length - j ∧ j ≤ v.l.length ∧ i = .int .i64 j ∧ OS W w.heap.size v j av n cv ps wr)
    case atStart =>
      refine ⟨0, 0, none, 0, [], by simp, Nat.zero_le _, rfl, ?_⟩
      have e : ∀ w', w' = W → OS W w.heap.size v 0 none 0 0 [] w' := by
        rintro w' rfl
        exact ⟨HB.out.2.2.1, World.ownsRow_nil _ _ _ _, rfl, fun p hp => by simp at hp, by simp, Below.refl _ _, by have := HB.out.2.2.2.2; omega⟩
      exact e _ HW.out.symm
    case round =>
      obtain ⟨j, m, av, cv, ps, hgk, hj, rfl, H⟩ := hrel
      have HG := hid (And.intro hgk H)
      obtain ⟨c0, c1, cs⟩ := box_cells ((H.low.block w.heap.size (by omega)).trans HB.out.1)
      obtain ⟨u0, u1, us⟩ := box_cells H.obj
      clear hgk H
      have hpl : m = j := by have h1 := congrArg List.length HG.out.2.map; have h2 := HG.out.2.len; rw [List.length_map, List.length_take] at h1; omega
      subst hpl
      by_cases hlt : m < v.l.length
      · have hIr : Is wr v ao := HI.out.1.low (HB.out.2.2.2.1.low.trans (HG.out.2.low.mono (by omega)))
        obtain ⟨b, off, rfl, dh, ai, ci, ds, hi⟩ := hIr.get m hlt
        obtain ⟨d0, d1⟩ := dh
        have HC := hid (HI.out.2.1 v.l[m] (List.getElem_mem hlt) ai ci wr.drew (hi.quiet (Kp.drew _)) (HI.out.2.2 m hlt))
        have HN := hid (take_snoc v.l m hlt)
        generalize hu : v.l[m] = x at *
        clear hu hi hIr
        have HR := hid HG.out.2.row
        have hzz := hid (show w.heap.size + 3 ≤ wr.heap.size from HG.out.2.sz)
        go_wp2
        go_region_law ((first
          | (refine step_append_lies _ (by rfl) _ _ _ (by rfl) (w.heap.size + 3) 25 i0 _ 3 40 Try.undV hi0 hz0 hz1 hz2 rfl (by omega) (.slice av m cv) m (tris ps) (by rfl) hr3 ⟨w3.heap.size, 0, none⟩ 1 1 (tri (x, xa, xc)) (by rfl) (by rfl) (news_at w3 _ 25) (tri_one _) (by omega) (by unfold maxLen; omega) (by omega) (by simp; omega) (w3.heap.size + 1) (by simp) ?_; intro gg cap2 w1 hown1 hgrow hat hlt1; have hD := own_step HG.out.2 HN.out q3 h3 hown1 hgrow hat; have e1 := hD.2.1; have e2 := hD.2.2; have HD := hid hD.1; clear hown1 hgrow hat hlt1 hD)
          | (go_simp; go_at_call 9; refine HC.out.mono ?_; rintro e w3 ⟨xa, xc, rfl, h3, q3⟩; have u3 : w3.cell? ⟨w.heap.size + 2, 2, none⟩ = some (.slice av m cv) := q3.cell us (fun e => e); have u4 : (w3.alloc (.cells #[.int .i64 x.kind, .int .i64 x.n, .slice xa x.l.length xc] 25)).cell? ⟨w.heap.size + 2, 2, none⟩ = some (.slice av m cv) := (Kp.alloc (F := fun _ => False) _ _).cell u3 (fun e => e); have hr3 := (q3.row (HR.out.drew) (fun _ _ e => e)).alloc (.cells #[.int .i64 x.kind, .int .i64 x.n, .slice xa x.l.length xc] 25); have z3 : w.heap.size + 3 ≤ w3.heap.size := Nat.le_trans hzz.out q3.size)))
        all_goals
          go_wp2
          go_roundg (v.l.length - (m + 1))
          case measure => have := HG.out.1; omega
          case rel => exact ⟨m + 1, _, _, _, _, rfl, by omega, by go_num, HD.out⟩
      · have hjl := hid (show m = v.l.length by omega)
        have hb1 := (HG.out.2.low.block (w.heap.size + 1) (by omega)).trans HB.out.2.1
        obtain ⟨r0, r1, rs⟩ := box_cells hb1
        obtain ⟨f0, f1, f2⟩ := box_free hb1
        have HF := hid (fun w' q => own_end (w' := w') HG.out.2 (by have := hjl.out; omega) HI.out.1.fit HB.out.2.2.2.1 q)
        have hjj : ((v.l.length : Nat) : Int) ≤ (m : Int) := by omega
        clear hb1
        have HJ := hid hj
        clear hj hlt
        go_wp2
        refine bodyPost_ret (v := .agg #[.int .i64 v.kind, .int .i64 v.n, .slice av m cv]) (by simp [results, Try.results9, go_sem, r0, r1, rs]) rfl ?_
        refine ⟨av, cv, by rw [hjl.out], (HF.out _ ?_).1, (HF.out _ ?_).2.1⟩
        all_goals exact ((kp1 _ _ _ _).trans (kp1 _ _ _ _)).trans (kp1 _ _ _ _)
end Go.Proofs.Ytclkaamcoicgcae
