/- The document's own answers on modules: too great? in memory of its own. -/
import Derived.Test.YtjcniiojcigefadRefOwn
import Derived.Test.YtjcniiojcigefadRefSize
import Derived.Test.YtjcniiojcigefadTell
namespace Go.Proofs.Ytjcniiojcigefad
open Go.ChangeShapes Go.WideShapes Go.ChangeAt Go.RowKit
/-- A module of which nothing is asked. -/
def great (l : List V) : Bool := decide (20 < l.length) || l.any fun v => decide (600 < v.size)
theorem great_false {l : List V} (h : great l = false) : l.length ≤ 20 ∧ ∀ v ∈ l, v.size ≤ 600 := by
  simp only [great, Bool.or_eq_false_iff, decide_eq_false_iff_not, List.any_eq_false, decide_eq_true_eq] at h
  exact ⟨by omega, fun v hv => by have := h.2 v hv; omega⟩
theorem great_sizes {l : List V} (h : great l = false) : sizes l ≤ 12000 := by
  obtain ⟨h1, h2⟩ := great_false h
  have key : ∀ l : List V, (∀ v ∈ l, v.size ≤ 600) → sizes l ≤ l.length * 600 := by
    intro l
    induction l with
    | nil => intro _; simp [sizes_nil]
    | cons x l ih => intro hx; rw [sizes_cons, List.length_cons]; have := hx x (by simp); have := ih fun v hv => hx v (by simp [hv]); omega
  have := key l h2; omega
set_option maxRecDepth 8000 in
set_option maxHeartbeats 1000000 in
theorem great_any (l : List V) (ao : Option Addr) (cap : Nat) (w : World) (hF : Fo w l ao) :
    Calls Try.prog 6 #[.agg #[.slice ao l.length cap]] w fun e w' => e = .returned (.bool (great l)) ∧ Quiet w w' := by
  have hb0 := heap_alloc_new w (.cells #[.slice ao l.length cap] 24)
  by_cases h1 : 20 < l.length
  · have hE := hid (show great l = true by simp [great, h1])
    have h1' : (20 : Int) < (l.length : Int) := by omega
    go_enter Try.func6, Try.ntmps6
    go_wp2
    go_ret
    exact ⟨by rw [hE.out]; rfl, Kp.alloc _ _⟩
  · have h1' : ¬ (20 : Int) < (l.length : Int) := by omega
    have HG := hid (show great l = l.any fun v => decide (600 < v.size) by simp [great, h1])
    have hl5 : l.length ≤ 20 := by omega
    have HF := hid hF
    clear h1 hF
    go_enter Try.func6, Try.ntmps6
    go_wp2
    go_loopw [3] (fun i wr => ∃ j : Nat, j ≤ l.length ∧ i = .int .i64 j ∧ ((l.take j).any fun v => decide (600 < v.size)) = false ∧ Quiet w wr ∧ wr.heap[w.heap.size]? = some (.cells #[.slice ao l.length cap] 24 (0, 0))) (fun i _ => l.length - (intOf i).toNat)
    case atStart => exact ⟨0, Nat.zero_le _, rfl, by simp, Kp.alloc _ _, hb0⟩
    case round =>
      rename World => wq
      obtain ⟨j, hj, rfl, hany, q, hb⟩ := hrel
      have x0 := cell_of_one hb
      have HB := hid (And.intro hb hany)
      clear hb hany hb0
      by_cases hlt : j < l.length
      · obtain ⟨b, off, rfl, dh, ai, ci, ds, hci⟩ := (HF.out.quiet q).get j hlt
        obtain ⟨d0, d9, d1⟩ := dh
        have HC := hid (size_any 601 l[j] ai ci 600 wq (by decide) (by decide) hci)
        have HN := hid (take_snoc l j hlt)
        have HM := hid (List.getElem_mem hlt)
        generalize hcu : l[j] = c at *
        clear hcu hci
        by_cases hbig : 600 < c.size
        · have hE := hid (show great l = true by rw [HG.out]; exact List.any_eq_true.2 ⟨c, HM.out, by simpa using hbig⟩)
          go_wp2_with (go_at_call 12; refine HC.out.mono ?_; rintro e w3 ⟨r, rfl, k1, k2, k3, k4, q3⟩; have hr : (600 : Int) < (r : Int) := (by have := k4 hbig; omega); clear k3 k4)
          go_ret
          exact ⟨by rw [hE.out]; rfl, q.trans q3⟩
        · go_wp2_with (go_at_call 12; refine HC.out.mono ?_; rintro e w3 ⟨r, rfl, k1, k2, k3, k4, q3⟩; have hr : ¬ (600 : Int) < (r : Int) := (by have := k3 (by omega); omega); clear k3 k4)
          refine ⟨⟨j + 1, by omega, by go_num, ?_, q.trans q3, (q3.block _ (lt_of_block HB.out.1) fun e => e).trans HB.out.1⟩, by simp [intOf]; omega⟩
          rw [HN.out, List.any_append, HB.out.2]; simp; omega
      · have hjl : j = l.length := by omega
        have hE := hid (show great l = false by have h := HB.out.2; rw [hjl, List.take_length] at h; rw [HG.out]; exact h)
        subst hjl
        go_wp2
        go_ret
        exact ⟨by rw [hE.out]; rfl, q⟩
/-- The state of the loop of OwnModule. -/
structure MS (W : World) (h : Nat) (l : List V) (j : Nat) (av : Option Addr) (n cv : Nat) (ps : List Kd) (w : World) : Prop where
  obj : w.heap[h + 2]? = some (.cells #[.slice av n cv] 24 (0, 0))
  row : w.ownsRow (h + 3) 38 4 (.slice av n cv) n (tris ps)
  len : n = ps.length
  all : ∀ p ∈ ps, Hold (h + 3) (Value.slice av n cv).ownBlock w p.1 p.2.1
  map : ps.map (·.1) = l.take j
  low : Below (h + 2) W w
  sz : h + 3 ≤ w.heap.size
theorem mod_step {W w w3 w1 : World} {h : Nat} {l : List V} {j : Nat} {av : Option Addr} {m cv : Nat} {ps : List Kd} {x : V} {a : Option Addr} {c g cap : Nat} {o : Obj} (H : MS W h l j av m cv ps w) (hx : l.take (j + 1) = l.take j ++ [x]) (q3 : Quiet w.drew w3) (hc : Hold w.heap.size none w3 x a)
    (hr : w1.ownsRow (h + 3) 38 4 (.slice (some ⟨g, 0, none⟩) (m + 1) cap) (m + 1) (tris ps ++ tri (x, a, c))) (hg : (w3.alloc o).grownBy w1 (Value.slice av m cv).ownBlock) (hat : (Value.slice av m cv).ownBlock = some g ∨ g = w3.heap.size + 1) :
    MS W h l (j + 1) (some ⟨g, 0, none⟩) (m + 1) cap (ps ++ [(x, a, c)]) (w1.setCell ⟨h + 2, 0, none⟩ (.slice (some ⟨g, 0, none⟩) (m + 1) cap)) ∧ (w1.cell? ⟨h + 2, 0, none⟩ = some (.slice av m cv) ∧ w1.frozen? ⟨h + 2, 0, none⟩ = false) := by
  have hm := H.len
  have hlt := lt_of_block H.obj
  have hs3 : w.heap.size ≤ w3.heap.size := q3.size
  have hs1 : w3.heap.size + 1 ≤ w1.heap.size := by have := hg.size; simpa using this
  have hrb : ∀ b, (Value.slice av m cv).ownBlock = some b → h + 3 ≤ b ∧ b < w.heap.size := fun b e => H.row.lt b e
  have hk1 : ∀ b, b < w.heap.size → (Value.slice av m cv).ownBlock ≠ some b → w1.heap[b]? = w.heap[b]? := by
    intro b hb hne
    rw [hg.block b (by simp; omega) (fun e => hne e.symm), Below.heap_alloc w3 o b (by omega)]
    exact q3.block b hb (fun e => e)
  have hk3 : ∀ b, w.heap.size ≤ b → b < w3.heap.size → w1.heap[b]? = w3.heap[b]? := by
    intro b hb hb3
    rw [hg.block b (by simp; omega) (fun e => by have := hrb b e.symm; omega), Below.heap_alloc w3 o b hb3]
  have hobj : w1.heap[h + 2]? = some (.cells #[.slice av m cv] 24 (0, 0)) := by
    rw [hk1 (h + 2) hlt (fun e => by have := hrb _ e; omega)]; exact H.obj
  have hset : ∀ b, b ≠ h + 2 → (w1.setCell ⟨h + 2, 0, none⟩ (.slice (some ⟨g, 0, none⟩) (m + 1) cap)).heap[b]? = w1.heap[b]? := fun b hb => Below.heap_setCell _ _ _ _ (fun e => hb e)
  have hgl : h + 3 ≤ g := by
    rcases hat with e | e
    · exact (hrb g e).1
    · have := H.sz; omega
  refine ⟨⟨one_setCell hobj, ?_, ?_, ?_, ?_, ?_, ?_⟩, cell_of_one hobj, free_of_one hobj⟩
  · have := (Kp.setCell (F := fun b => b = h + 2) w1 ⟨h + 2, 0, none⟩ (.slice (some ⟨g, 0, none⟩) (m + 1) cap) rfl).row hr (fun b e => by simp [Value.ownBlock] at e; omega)
    rw [tris_app, tris_one]; simpa using this
  · rw [List.length_append, hm]; rfl
  · intro p hp
    have hrow' : (Value.slice (some ⟨g, 0, none⟩) (m + 1) cap).ownBlock = some g := rfl
    rw [hrow']
    rcases List.mem_append.1 hp with hp | hp
    · refine (H.all p hp).step (fun b h1 h2 h3 => ?_) ?_
      · rw [hset b (by omega)]; exact hk1 b h2 (fun e => h3 e)
      · rcases hat with e | e
        · exact .inl e.symm
        · exact .inr ⟨g, rfl, by omega⟩
    · simp at hp
      subst hp
      intro w2 h2
      refine hc w2 fun b c t h1 _ h3 => h2 b c t (by have := H.sz; omega) ?_ ((hset b (by have := H.sz; omega)).trans ((hk3 b h1 (lt_of_block h3)).trans h3))
      intro e
      simp at e
      have hb3 := lt_of_block h3
      rcases hat with e' | e'
      · have := hrb g e'; omega
      · omega
  · rw [List.map_append, H.map, hx]; rfl
  · refine ⟨?_, ?_, ?_, ?_, fun b hb => ?_⟩
    · exact (hg.os.trans q3.os).trans H.low.os
    · exact (hg.tape.trans q3.tape).trans H.low.tape
    · exact (hg.output.trans q3.output).trans H.low.output
    · have := H.low.size; simp [World.setCell]; omega
    · rw [hset b (by omega), hk1 b (by omega) (fun e => by have := hrb b e; omega)]; exact H.low.block b hb
  · simp [World.setCell]; omega
theorem mod_end {W w w0 w' : World} {l : List V} {j : Nat} {av : Option Addr} {n cv : Nat} {ps : List Kd} (H : MS W w0.heap.size l j av n cv ps w) (hj : l.length ≤ j) (qW : Quiet w0 W) (q : Kp (fun k => k = w0.heap.size + 1) w w') :
    HoldL w0.heap.size w' l av ∧ Quiet w0 w' := by
  have hm : ps.map (·.1) = l := by rw [H.map, List.take_of_length_le hj]
  have hs : ∀ b, b < w.heap.size → b ≠ w0.heap.size + 1 → w'.heap[b]? = w.heap[b]? := fun b hb hne => q.block b hb hne
  refine ⟨?_, ?_⟩
  · have h1 := hold_rows (lo := w0.heap.size + 3) (B := w0.heap.size + 3) H.row H.len (Nat.le_refl _) H.all
    rw [hm] at h1
    intro w2 h2
    exact h1 w2 fun b c t h3 h4 => h2 b c t (by omega) ((hs b (lt_of_block h4) (by omega)).trans h4)
  · refine ⟨q.os.trans (H.low.os.trans qW.os), q.tape.trans (H.low.tape.trans qW.tape), q.output.trans (H.low.output.trans qW.output), by have := qW.size; have := H.low.size; have := q.size; omega, fun b hb _ => ?_⟩
    rw [hs b (by have := H.sz; omega) (by omega), H.low.block b (by omega)]
    exact qW.block b hb (fun e => e)
set_option maxRecDepth 8000 in
set_option maxHeartbeats 4000000 in
theorem ownMod_any (l : List V) (ao : Option Addr) (cap : Nat) (w : World) (hF : Fo w l ao) (hS : sizes l ≤ 20000) :
    Calls Try.prog 7 #[.agg #[.slice ao l.length cap]] w fun e w' => ∃ ao' cap', e = .returned (.agg #[.slice ao' l.length cap']) ∧ HoldL w.heap.size w' l ao' ∧ Quiet w w' := by
  obtain ⟨i0, hi0, hz0, hz1, hz2⟩ := info_parts Try.infoV
  have hlen : l.length ≤ 20000 := by have := sizes_len l; omega
  have hsz : ∀ j (h : j < l.length), l[j].size ≤ 20000 := fun j h => by have := size_get l j h; omega
  have HI := hid (And.intro hF hsz)
  clear hF hsz hS
  obtain ⟨W, hW⟩ : ∃ W, W = ((w.alloc (.cells #[.slice ao l.length cap] 24)).alloc (.cells #[.slice none 0 0] 24)).alloc (.cells #[.slice none 0 0] 24) := ⟨_, rfl⟩
  have HW := hid hW
  have b0 : W.heap[w.heap.size]? = some (.cells #[.slice ao l.length cap] 24 (0, 0)) := by
    rw [hW, Below.heap_alloc _ _ _ (by simp; omega), Below.heap_alloc _ _ _ (by simp)]; exact heap_alloc_new w _
  have b1 : W.heap[w.heap.size + 1]? = some (.cells #[.slice none 0 0] 24 (0, 0)) := by
    rw [hW, Below.heap_alloc _ _ _ (by simp)]; exact heap_two w _ _
  have b2 : W.heap[w.heap.size + 2]? = some (.cells #[.slice none 0 0] 24 (0, 0)) := by
    rw [hW]; have := heap_alloc_new ((w.alloc (.cells #[.slice ao l.length cap] 24)).alloc (.cells #[.slice none 0 0] 24)) (.cells #[.slice none 0 0] 24); simpa using this
  have qW : Quiet w W := by rw [hW]; exact (Kp.alloc _ _).trans ((Kp.alloc _ _).trans (Kp.alloc _ _))
  have sW : W.heap.size = w.heap.size + 3 := by rw [hW]; simp
  have HB := hid (And.intro b0 (And.intro b1 (And.intro b2 (And.intro qW sW))))
  clear hW b0 b1 b2 qW sW
  go_enter Try.func7, Try.ntmps7
  go_wp2
  go_loopg [4] l.length (fun gk i wr => ∃ (j n : Nat) (av : Option Addr) (cv : Nat) (ps : List Kd), gk = l.length - j ∧ j ≤ l.length ∧ i = .int .i64 j ∧ MS W w.heap.size l j av n cv ps wr)
  case atStart =>
    refine ⟨0, 0, none, 0, [], by simp, Nat.zero_le _, rfl, ?_⟩
    have e : ∀ w', w' = W → MS W w.heap.size l 0 none 0 0 [] w' := by
      rintro w' rfl
      exact ⟨HB.out.2.2.1, World.ownsRow_nil _ _ _ _, rfl, fun p hp => by simp at hp, by simp, Below.refl _ _, by have := HB.out.2.2.2.2; omega⟩
    exact e _ HW.out.symm
  case round =>
    obtain ⟨j, m, av, cv, ps, hgk, hj, rfl, H⟩ := hrel
    have HG := hid (And.intro hgk H)
    have cs := cell_of_one ((H.low.block w.heap.size (by omega)).trans HB.out.1)
    have us := cell_of_one H.obj
    clear hgk H
    have hpl : m = j := by have h1 := congrArg List.length HG.out.2.map; have h2 := HG.out.2.len; rw [List.length_map, List.length_take] at h1; omega
    subst hpl
    by_cases hlt : m < l.length
    · have hIr : Fo wr l ao := HI.out.1.low (HB.out.2.2.2.1.low.trans (HG.out.2.low.mono (by omega)))
      obtain ⟨b, off, rfl, dh, ai, ci, ds, hi⟩ := hIr.get m hlt
      obtain ⟨d0, d9, d1⟩ := dh
      have HC := hid (ownR_any l[m] ai ci wr.drew (hi.quiet (Kp.drew _)) (HI.out.2 m hlt))
      have HN := hid (take_snoc l m hlt)
      generalize hu : l[m] = x at *
      clear hu hi hIr
      have HR := hid HG.out.2.row
      have hzz := hid (show w.heap.size + 3 ≤ wr.heap.size from HG.out.2.sz)
      go_wp2
      go_region_law ((first
        | (refine step_append_lies _ (by rfl) _ _ _ (by rfl) (w.heap.size + 3) 38 i0 _ 4 48 Try.undV hi0 hz0 hz1 hz2 rfl (by omega) (.slice av m cv) m (tris ps) (by rfl) hr3 ⟨w3.heap.size, 0, none⟩ 1 1 (tri (x, xa, xc)) (by rfl) (by rfl) (news_at w3 _ 38) (tri_one _) (by omega) (by unfold maxLen; omega) (by omega) (by simp; omega) (w3.heap.size + 1) (by simp) ?_; intro gg cap2 w1 hown1 hgrow hat hlt1; have hD := mod_step HG.out.2 HN.out q3 h3 hown1 hgrow hat; have e1 := hD.2.1; have e2 := hD.2.2; have HD := hid hD.1; clear hown1 hgrow hat hlt1 hD)
        | (go_simp; go_at_call 14; refine HC.out.mono ?_; rintro e w3 ⟨xa, xc, rfl, h3, q3⟩; have u3 : w3.cell? ⟨w.heap.size + 2, 0, none⟩ = some (.slice av m cv) := q3.cell us (fun e => e); have u4 : (w3.alloc (.cells #[.int .i64 x.kind, .int .i64 x.k, .int .i64 x.n, .slice xa x.l.length xc] 38)).cell? ⟨w.heap.size + 2, 0, none⟩ = some (.slice av m cv) := (Kp.alloc (F := fun _ => False) _ _).cell u3 (fun e => e); have hr3 := (q3.row (HR.out.drew) (fun _ _ e => e)).alloc (.cells #[.int .i64 x.kind, .int .i64 x.k, .int .i64 x.n, .slice xa x.l.length xc] 38); have z3 : w.heap.size + 3 ≤ w3.heap.size := Nat.le_trans hzz.out q3.size)))
      all_goals
        go_wp2
        go_roundg (l.length - (m + 1))
        case measure => have := HG.out.1; omega
        case rel => exact ⟨m + 1, _, _, _, _, rfl, by omega, by go_num, HD.out⟩
    · have hjl := hid (show m = l.length by omega)
      have hb1 := (HG.out.2.low.block (w.heap.size + 1) (by omega)).trans HB.out.2.1
      have rs := cell_of_one hb1
      have f0 := free_of_one hb1
      have HF := hid (fun w' q => mod_end (w' := w') HG.out.2 (by have := hjl.out; omega) HB.out.2.2.2.1 q)
      have hjj : ((l.length : Nat) : Int) ≤ (m : Int) := by omega
      clear hb1
      have HJ := hid hj
      clear hj hlt
      go_wp2
      refine bodyPost_ret (v := .agg #[.slice av m cv]) (by simp [results, Try.results7, go_sem, rs]) rfl ?_
      refine ⟨av, cv, by rw [hjl.out], (HF.out _ ?_).1, (HF.out _ ?_).2⟩
      all_goals exact kp1 _ _ _ _
end Go.Proofs.Ytjcniiojcigefad
