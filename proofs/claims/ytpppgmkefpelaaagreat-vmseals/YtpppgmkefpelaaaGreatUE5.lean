/- The document's own answers on modules: too great? in memory of its own. The document's own answer: boxes of a look at two The document's own answer: how deep, as far as one too deep. The document's own answer: the first fault of an expression, of a module. The document's own answer: a module's fault. Where instructions go, which names are open at each, how many steps there are. -/
import Derived.Test.YtpppgmkefpelaaaGreatUE4
import Derived.Test.YtpppgmkefpelaaaGreatUE3
import Derived.Test.YtpppgmkefpelaaaGreatUE0
import Derived.StillTailTactics
import Derived.Test.YtpppgmkefpelaaaGreatUE2
import Derived.Laws.ResultCell
namespace Go.Proofs.YtpppgmkefpelaaaGreat.Ex
open Go.ChangeShapes Go.WideShapes Go.ChangeAt Go.RowKit
/-- The state of the loop of OwnModule. -/
structure MS (W : World) (h : Nat) (l : List V) (j : Nat) (av : Option Addr) (n cv : Nat) (ps : List Kd) (w : World) : Prop where
  obj : w.heap[h + 2]? = some (.cells #[.slice av n cv] 33 (0, 0))
  row : w.ownsRow (h + 3) 31 4 (.slice av n cv) n (tris ps)
  len : n = ps.length
  all : ∀ p ∈ ps, Hold (h + 3) (Value.slice av n cv).ownBlock w p.1 p.2.1
  map : ps.map (·.1) = l.take j
  low : Below (h + 2) W w
  sz : h + 3 ≤ w.heap.size
theorem mod_step {W w w3 w1 : World} {h : Nat} {l : List V} {j : Nat} {av : Option Addr} {m cv : Nat} {ps : List Kd} {x : V} {a : Option Addr} {c g cap : Nat} {o : Obj} (H : MS W h l j av m cv ps w) (hx : l.take (j + 1) = l.take j ++ [x]) (q3 : Quiet w.drew w3) (hc : Hold w.heap.size none w3 x a)
    (hr : w1.ownsRow (h + 3) 31 4 (.slice (some ⟨g, 0, none⟩) (m + 1) cap) (m + 1) (tris ps ++ tri (x, a, c))) (hg : (w3.alloc o).grownBy w1 (Value.slice av m cv).ownBlock) (hat : (Value.slice av m cv).ownBlock = some g ∨ g = w3.heap.size + 1) :
    MS W h l (j + 1) (some ⟨g, 0, none⟩) (m + 1) cap (ps ++ [(x, a, c)]) (w1.setCell ⟨h + 2, 0, none⟩ (.slice (some ⟨g, 0, none⟩) (m + 1) cap)) ∧ (w1.cell? ⟨h + 2, 0, none⟩ = some (.slice av m cv) ∧ w1.frozen? ⟨h + 2, 0, none⟩ = false) := by
  have hm := H.len
  have hlt := lt_of_block H.obj
  have hs3 : w.heap.size ≤ w3.heap.size := q3.size
  have hs1 : w3.heap.size + 1 ≤ w1.heap.size := by have := hg.size; simpa using this
  have hrb : ∀ b, (Value.slice av m cv).ownBlock = some b → h + 3 ≤ b ∧ b < w.heap.size := fun b e => H.row.lt b e
  have hk1 : ∀ b, b < w.heap.size → (Value.slice av m cv).ownBlock ≠ some b → w1.heap[b]? = w.heap[b]? := by
    intro b hb hne
    rw [hg.block b (by simp; omega) (fun e => hne e.symm), Below.heap_alloc w3 o b (by omega)]
    exact q3.block b hb (fun e => e)
  have hk3 : ∀ b, w.heap.size ≤ b → b < w3.heap.size → w1.heap[b]? = w3.heap[b]? := by
    intro b hb hb3
    rw [hg.block b (by simp; omega) (fun e => by have := hrb b e.symm; omega), Below.heap_alloc w3 o b hb3]
  have hobj : w1.heap[h + 2]? = some (.cells #[.slice av m cv] 33 (0, 0)) := by
    rw [hk1 (h + 2) hlt (fun e => by have := hrb _ e; omega)]; exact H.obj
  have hset : ∀ b, b ≠ h + 2 → (w1.setCell ⟨h + 2, 0, none⟩ (.slice (some ⟨g, 0, none⟩) (m + 1) cap)).heap[b]? = w1.heap[b]? := fun b hb => Below.heap_setCell _ _ _ _ (fun e => hb e)
  have hgl : h + 3 ≤ g := by
    rcases hat with e | e
    · exact (hrb g e).1
    · have := H.sz; omega
  refine ⟨⟨one_setCell hobj, ?_, ?_, ?_, ?_, ?_, ?_⟩, cell_of_one hobj, free_of_one hobj⟩
  · have := (Kp.setCell (F := fun b => b = h + 2) w1 ⟨h + 2, 0, none⟩ (.slice (some ⟨g, 0, none⟩) (m + 1) cap) rfl).row hr (fun b e => by simp [Value.ownBlock] at e; omega)
    rw [tris_app, tris_one]; simpa using this
  · rw [List.length_append, hm]; rfl
  · intro p hp
    have hrow' : (Value.slice (some ⟨g, 0, none⟩) (m + 1) cap).ownBlock = some g := rfl
    rw [hrow']
    rcases List.mem_append.1 hp with hp | hp
    · refine (H.all p hp).step (fun b h1 h2 h3 => ?_) ?_
      · rw [hset b (by omega)]; exact hk1 b h2 (fun e => h3 e)
      · rcases hat with e | e
        · exact .inl e.symm
        · exact .inr ⟨g, rfl, by omega⟩
    · simp at hp
      subst hp
      intro w2 h2
      refine hc w2 fun b c t h1 _ h3 => h2 b c t (by have := H.sz; omega) ?_ ((hset b (by have := H.sz; omega)).trans ((hk3 b h1 (lt_of_block h3)).trans h3))
      intro e
      simp at e
      have hb3 := lt_of_block h3
      rcases hat with e' | e'
      · have := hrb g e'; omega
      · omega
  · rw [List.map_append, H.map, hx]; rfl
  · refine ⟨?_, ?_, ?_, ?_, fun b hb => ?_⟩
    · exact (hg.os.trans q3.os).trans H.low.os
    · exact (hg.tape.trans q3.tape).trans H.low.tape
    · exact (hg.output.trans q3.output).trans H.low.output
    · have := H.low.size; simp [World.setCell]; omega
    · rw [hset b (by omega), hk1 b (by omega) (fun e => by have := hrb b e; omega)]; exact H.low.block b hb
  · simp [World.setCell]; omega
theorem mod_end {W w w0 w' : World} {l : List V} {j : Nat} {av : Option Addr} {n cv : Nat} {ps : List Kd} (H : MS W w0.heap.size l j av n cv ps w) (hj : l.length ≤ j) (qW : Quiet w0 W) (q : Kp (fun k => k = w0.heap.size + 1) w w') :
    HoldL w0.heap.size w' l av ∧ Quiet w0 w' := by
  have hm : ps.map (·.1) = l := by rw [H.map, List.take_of_length_le hj]
  have hs : ∀ b, b < w.heap.size → b ≠ w0.heap.size + 1 → w'.heap[b]? = w.heap[b]? := fun b hb hne => q.block b hb hne
  refine ⟨?_, ?_⟩
  · have h1 := hold_rows (lo := w0.heap.size + 3) (B := w0.heap.size + 3) H.row H.len (Nat.le_refl _) H.all
    rw [hm] at h1
    intro w2 h2
    exact h1 w2 fun b c t h3 h4 => h2 b c t (by omega) ((hs b (lt_of_block h4) (by omega)).trans h4)
  · refine ⟨q.os.trans (H.low.os.trans qW.os), q.tape.trans (H.low.tape.trans qW.tape), q.output.trans (H.low.output.trans qW.output), by have := qW.size; have := H.low.size; have := q.size; omega, fun b hb _ => ?_⟩
    rw [hs b (by have := H.sz; omega) (by omega), H.low.block b (by omega)]
    exact qW.block b hb (fun e => e)
set_option maxRecDepth 8000 in
set_option maxHeartbeats 4000000 in
theorem ownMod_any (l : List V) (ao : Option Addr) (cap : Nat) (w : World) (hF : Fo w l ao) (hS : sizes l ≤ 20000) :
    Calls Tryz.prog 34 #[.agg #[.slice ao l.length cap]] w fun e w' => ∃ ao' cap', e = .returned (.agg #[.slice ao' l.length cap']) ∧ HoldL w.heap.size w' l ao' ∧ Quiet w w' := by
  obtain ⟨i0, hi0, hz0, hz1, hz2⟩ := info_parts Tryz.infoV
  have hlen : l.length ≤ 20000 := by have := sizes_len l; omega
  have hsz : ∀ j (h : j < l.length), l[j].size ≤ 20000 := fun j h => by have := size_get l j h; omega
  have HI := hid (And.intro hF hsz)
  clear hF hsz hS
  obtain ⟨W, hW⟩ : ∃ W, W = ((w.alloc (.cells #[.slice ao l.length cap] 33)).alloc (.cells #[.slice none 0 0] 33)).alloc (.cells #[.slice none 0 0] 33) := ⟨_, rfl⟩
  have HW := hid hW
  have b0 : W.heap[w.heap.size]? = some (.cells #[.slice ao l.length cap] 33 (0, 0)) := by
    rw [hW, Below.heap_alloc _ _ _ (by simp; omega), Below.heap_alloc _ _ _ (by simp)]; exact heap_alloc_new w _
  have b1 : W.heap[w.heap.size + 1]? = some (.cells #[.slice none 0 0] 33 (0, 0)) := by
    rw [hW, Below.heap_alloc _ _ _ (by simp)]; exact heap_two w _ _
  have b2 : W.heap[w.heap.size + 2]? = some (.cells #[.slice none 0 0] 33 (0, 0)) := by
    rw [hW]; have := heap_alloc_new ((w.alloc (.cells #[.slice ao l.length cap] 33)).alloc (.cells #[.slice none 0 0] 33)) (.cells #[.slice none 0 0] 33); simpa using this
  have qW : Quiet w W := by rw [hW]; exact (Kp.alloc _ _).trans ((Kp.alloc _ _).trans (Kp.alloc _ _))
  have sW : W.heap.size = w.heap.size + 3 := by rw [hW]; simp
  have HB := hid (And.intro b0 (And.intro b1 (And.intro b2 (And.intro qW sW))))
  clear hW b0 b1 b2 qW sW
  go_enter Tryz.func34, Tryz.ntmps34
  go_wp2
  go_loopg [4] l.length (fun gk i wr => ∃ (j n : Nat) (av : Option Addr) (cv : Nat) (ps : List Kd), gk = l.length - j ∧ j ≤ l.length ∧ i = .int .i64 j ∧ MS W w.heap.size l j av n cv ps wr)
  case atStart =>
    refine ⟨0, 0, none, 0, [], by simp, Nat.zero_le _, rfl, ?_⟩
    have e : ∀ w', w' = W → MS W w.heap.size l 0 none 0 0 [] w' := by
      rintro w' rfl
      exact ⟨HB.out.2.2.1, World.ownsRow_nil _ _ _ _, rfl, fun p hp => by simp at hp, by simp, Below.refl _ _, by have := HB.out.2.2.2.2; omega⟩
    exact e _ HW.out.symm
  case round =>
    obtain ⟨j, m, av, cv, ps, hgk, hj, rfl, H⟩ := hrel
    have HG := hid (And.intro hgk H)
    have cs := cell_of_one ((H.low.block w.heap.size (by omega)).trans HB.out.1)
    have us := cell_of_one H.obj
    clear hgk H
    have hpl : m = j := by have h1 := congrArg List.length HG.out.2.map; have h2 := HG.out.2.len; rw [List.length_map, List.length_take] at h1; omega
    subst hpl
    by_cases hlt : m < l.length
    · have hIr : Fo wr l ao := HI.out.1.low (HB.out.2.2.2.1.low.trans (HG.out.2.low.mono (by omega)))
      obtain ⟨b, off, rfl, dh, ai, ci, ds, hi⟩ := hIr.get m hlt
      obtain ⟨d0, d9, d1⟩ := dh
      have HC := hid (ownR_any l[m] ai ci wr.drew (hi.quiet (Kp.drew _)) (HI.out.2 m hlt))
      have HN := hid (take_snoc l m hlt)
      generalize hu : l[m] = x at *
      clear hu hi hIr
      have HR := hid HG.out.2.row
      have hzz := hid (show w.heap.size + 3 ≤ wr.heap.size from HG.out.2.sz)
      go_wp2
      go_region_law ((first
        | (refine step_append_lies _ (by rfl) _ _ _ (by rfl) (w.heap.size + 3) 31 i0 _ 4 48 Tryz.undV hi0 hz0 hz1 hz2 rfl (by omega) (.slice av m cv) m (tris ps) (by rfl) hr3 ⟨w3.heap.size, 0, none⟩ 1 1 (tri (x, xa, xc)) (by rfl) (by rfl) (news_at w3 _ 31) (tri_one _) (by omega) (by unfold maxLen; omega) (by omega) (by simp; omega) (w3.heap.size + 1) (by simp) ?_; intro gg cap2 w1 hown1 hgrow hat hlt1; have hD := mod_step HG.out.2 HN.out q3 h3 hown1 hgrow hat; have e1 := hD.2.1; have e2 := hD.2.2; have HD := hid hD.1; clear hown1 hgrow hat hlt1 hD)
        | (go_simp; go_at_call 57; refine HC.out.mono ?_; rintro e w3 ⟨xa, xc, rfl, h3, q3⟩; have u3 : w3.cell? ⟨w.heap.size + 2, 0, none⟩ = some (.slice av m cv) := q3.cell us (fun e => e); have u4 : (w3.alloc (.cells #[.int .i64 x.kind, .int .i64 x.k, .int .i64 x.n, .slice xa x.l.length xc] 31)).cell? ⟨w.heap.size + 2, 0, none⟩ = some (.slice av m cv) := (Kp.alloc (F := fun _ => False) _ _).cell u3 (fun e => e); have hr3 := (q3.row (HR.out.drew) (fun _ _ e => e)).alloc (.cells #[.int .i64 x.kind, .int .i64 x.k, .int .i64 x.n, .slice xa x.l.length xc] 31); have z3 : w.heap.size + 3 ≤ w3.heap.size := Nat.le_trans hzz.out q3.size)))
      all_goals
        go_wp2
        go_roundg (l.length - (m + 1))
        case measure => have := HG.out.1; omega
        case rel => exact ⟨m + 1, _, _, _, _, rfl, by omega, by go_num, HD.out⟩
    · have hjl := hid (show m = l.length by omega)
      have hb1 := (HG.out.2.low.block (w.heap.size + 1) (by omega)).trans HB.out.2.1
      have rs := cell_of_one hb1
      have f0 := free_of_one hb1
      have HF := hid (fun w' q => mod_end (w' := w') HG.out.2 (by have := hjl.out; omega) HB.out.2.2.2.1 q)
      have hjj : ((l.length : Nat) : Int) ≤ (m : Int) := by omega
      clear hb1
      have HJ := hid hj
      clear hj hlt
      go_wp2
      refine bodyPost_ret (v := .agg #[.slice av m cv]) (by simp [results, Tryz.results34, go_sem, rs]) rfl ?_
      refine ⟨av, cv, by rw [hjl.out], (HF.out _ ?_).1, (HF.out _ ?_).2⟩
      all_goals exact kp1 _ _ _ _
end Go.Proofs.YtpppgmkefpelaaaGreat.Ex
namespace Go.Proofs.YtpppgmkefpelaaaGreat.Ex
open Go.ChangeShapes Go.WideShapes Go.ChangeAt Go.RowKit
theorem Tryz.mixed : Tryz.prog.follows .mixedOrders = true := by kernel_rfl
theorem two_boxes {w w' : World} {a b : Obj} (q : Quiet ((w.alloc a).alloc b) w') : w'.heap[w.heap.size]? = some a ∧ w'.heap[w.heap.size + 1]? = some b := by
  have h0 : ((w.alloc a).alloc b).heap[w.heap.size]? = some a := by rw [Below.heap_alloc _ _ _ (by simp)]; exact heap_alloc_new w _
  have h1 := heap_two w a b
  exact ⟨(q.block _ (lt_of_block h0) fun e => e).trans h0, (q.block _ (lt_of_block h1) fun e => e).trans h1⟩
end Go.Proofs.YtpppgmkefpelaaaGreat.Ex
namespace Go.Proofs.YtpppgmkefpelaaaGreat.Ex
open Go.ChangeShapes Go.WideShapes Go.ChangeAt Go.RowKit
set_option maxRecDepth 8000 in
set_option maxHeartbeats 2000000 in
theorem deep_any (f : Nat) : ∀ (v : V) (ao : Option Addr) (cap most : Nat) (w : World), most < f → most ≤ 1000 → v.size ≤ 20000 → Is w v ao →
    Calls Tryz.prog 54 #[.agg #[.int .i64 v.kind, .int .i64 v.k, .int .i64 v.n, .slice ao v.l.length cap], .int .i64 most] w fun e w' => ∃ r : Nat, e = .returned (.int .i64 r) ∧ r ≤ most + 1 ∧ (v.deep ≤ most → r = v.deep) ∧ (most < v.deep → r = most + 1) ∧ Quiet w w' := by
  induction f with
  | zero => intro v ao cap most w h; omega
  | succ f ih =>
    intro v ao cap most w hf hm hsz hI
    have hvl : v.l.length ≤ 20000 := by have := sizes_len v.l; have := size_eq v; omega
    have hS := hid (deep_eq v)
    go_enter Tryz.func54, Tryz.ntmps54
    go_wp2
    go_loopw [5, 6] (fun n i wr => ∃ (r j : Nat), n = .int .i64 r ∧ i = .int .i64 j ∧ j ≤ v.l.length ∧ r = min (deeps (v.l.take j)) (most + 1) ∧ Quiet w wr ∧ wr.heap[w.heap.size]? = some (.cells #[.int .i64 v.kind, .int .i64 v.k, .int .i64 v.n, .slice ao v.l.length cap] 31 (0, 0))) (fun _ i _ => v.l.length - (intOf i).toNat)
    case atStart => exact ⟨0, 0, rfl, rfl, Nat.zero_le _, by simp [deeps_nil], Kp.alloc _ _, heap_alloc_new w _⟩
    case round =>
      obtain ⟨r, j, rfl, rfl, hj, h1, q, hb⟩ := hrel
      obtain ⟨c0, c9, c1, c2⟩ := box_cells hb
      have HB := hid hb
      have hr5 : r ≤ most + 1 := by omega
      clear hb c0 c9 c1
      by_cases hlt : j < v.l.length
      · by_cases hr : r ≤ most
        · have hr' : (r : Int) ≤ (most : Int) := by omega
          obtain ⟨b, off, rfl, dh, ai, ci, d2, hi⟩ := (hI.quiet q).get j hlt
          obtain ⟨d0, d9, d1⟩ := dh
          have HT := hid (And.intro (deeps_take v.l j hlt) (And.intro (deep_eq v.l[j]) h1))
          by_cases hm0 : most = 0
          · have hm1 : ¬ (0 : Int) < (most : Int) := by omega
            have HM0 := hid hm0
            have hrz : r = 0 := by omega
            generalize hu : v.l[j] = u at *
            clear hu hi hI h1
            subst hm0
            subst hrz
            go_wp2
            refine ⟨⟨1, j + 1, rfl, by go_num, by omega, ?_, q, HB.out⟩, by simp [intOf]; omega⟩
            have h5 := HT.out; omega
          · have hm1 : (0 : Int) < (most : Int) := by omega
            have HIH := hid (ih v.l[j] ai ci (most - 1) wr (by omega) (by omega) (by have := size_get v.l j hlt; have := size_eq v; omega) hi)
            rw [show ((most - 1 : Nat) : Int) = (most : Int) - 1 by omega] at HIH
            clear h1
            generalize hu : v.l[j] = u at *
            clear hu hi hI
            by_cases hbig : r < 1 + min u.deep most
            · go_wp2_with (go_at_call 54; refine HIH.out.mono ?_; rintro e w3 ⟨r2, rfl, k1, k2, k3, q3⟩; have hr2 : r2 ≤ most := (by omega); have hgt : (r : Int) < 1 + (r2 : Int) := (by omega); have K2 := hid (And.intro k2 k3); clear k1 k2 k3)
              refine ⟨⟨1 + r2, j + 1, by go_num, by go_num, by omega, ?_, q.trans q3, (q3.block _ (lt_of_block HB.out) fun e => e).trans HB.out⟩, by simp [intOf]; omega⟩
              have h5 := HT.out; have h6 := K2.out; omega
            · go_wp2_with (go_at_call 54; refine HIH.out.mono ?_; rintro e w3 ⟨r2, rfl, k1, k2, k3, q3⟩; have hr2 : r2 ≤ most := (by omega); have hgt : ¬ (r : Int) < 1 + (r2 : Int) := (by omega); have K2 := hid (And.intro k2 k3); clear k1 k2 k3)
              refine ⟨⟨r, j + 1, rfl, by go_num, by omega, ?_, q.trans q3, (q3.block _ (lt_of_block HB.out) fun e => e).trans HB.out⟩, by simp [intOf]; omega⟩
              have h5 := HT.out; have h6 := K2.out; omega
        · have hr' : decide ((r : Int) ≤ (most : Int)) = false := by simp; omega
          have hr2 : ¬ (r : Int) ≤ (most : Int) := by omega
          have H := hid (And.intro h1 (deeps_take_le v.l j))
          clear h1
          go_wp2
          go_ret
          exact ⟨r, rfl, by omega, fun h => by have h5 := H.out; have := hS.out; omega, fun h => by have h5 := H.out; have := hS.out; omega, q⟩
      · have hjl : j = v.l.length := by omega
        have hd : decide ((j : Int) < (v.l.length : Int)) = false := by simp; omega
        have H := hid h1
        rw [hjl, List.take_length] at H
        clear h1
        go_wp2
        go_ret
        exact ⟨r, rfl, by omega, fun h => by have h5 := H.out; have := hS.out; omega, fun h => by have h5 := H.out; have := hS.out; omega, q⟩
end Go.Proofs.YtpppgmkefpelaaaGreat.Ex
namespace Go.Proofs.YtpppgmkefpelaaaGreat.Ex
open Go.ChangeShapes Go.WideShapes Go.ChangeAt Go.RowKit
theorem bads_next (F kind : Int) (l : List V) (j : Nat) (o : Int) (h : j < l.length) : (l[j].bad F (opens kind o j) = 0 → bads F kind (l.drop j) j o = bads F kind (l.drop (j + 1)) (j + 1) o) ∧ (l[j].bad F (opens kind o j) ≠ 0 → bads F kind (l.drop j) j o = l[j].bad F (opens kind o j)) := by
  rw [List.drop_eq_getElem_cons h, bads_cons]
  exact ⟨fun h0 => if_pos h0, fun h0 => if_neg h0⟩
set_option maxRecDepth 8000 in
set_option maxHeartbeats 16000000 in
theorem exprFault_any (F : Nat) (ma : Option Addr) (mc : Nat) (hF : F ≤ 20000) (v : V) : ∀ (ao : Option Addr) (cap : Nat) (o : Int) (w : World), Is w v ao → 0 ≤ o ∧ o ≤ 12 → v.size ≤ 20000 →
    Calls Tryz.prog 56 #[.agg #[.slice ma F mc], .agg #[.int .i64 v.kind, .int .i64 v.k, .int .i64 v.n, .slice ao v.l.length cap], .int .i64 o] w fun e w' => e = .returned (.int .i64 (v.bad F o)) ∧ Quiet w w' := by
  induction v using V.ind' with
  | h v ih =>
    intro ao cap o w hI ho hS
    obtain ⟨kind, k, n, l⟩ := v
    simp only at ih ⊢
    have q2 : Quiet w ((w.alloc (.cells #[.slice ma F mc] 33)).alloc (.cells #[.int .i64 kind, .int .i64 k, .int .i64 n, .slice ao l.length cap] 31)) := (Kp.alloc _ _).trans (Kp.alloc _ _)
    have HBE := hid (bad_eq F ⟨kind, k, n, l⟩ o)
    have hsz : ∀ j (h : j < l.length), l[j].size ≤ 20000 := fun j h => by have h1 := size_get l j h; have h2 := size_eq ⟨kind, k, n, l⟩; simp only at h2; omega
    have hll : l.length ≤ 20000 := by have h1 := sizes_len l; have h2 := size_eq ⟨kind, k, n, l⟩; simp only at h2; omega
    have HSZ := hid hsz
    have HI := hid (And.intro hI ih)
    clear hsz hS hI ih
    by_cases h1 : partsI kind < 0
    · have hE := hid (show V.bad F ⟨kind, k, n, l⟩ o = 2 by rw [HBE.out]; simp [fault1, h1])
      go_enter Tryz.func56, Tryz.ntmps56
      go_wp2_with (go_at_call 74; refine (partsOf_any _ _).mono ?_; rintro e w2 ⟨rfl, rfl⟩)
      go_ret
      exact ⟨by rw [hE.out] <;> rfl, q2⟩
    by_cases h2 : ¬ (l.length : Int) = partsI kind
    · have hE := hid (show V.bad F ⟨kind, k, n, l⟩ o = 5 by rw [HBE.out]; simp [fault1, h1, h2])
      have g1 : decide ((l.length : Int) = partsI kind) = false := by simpa using h2
      have g2 : ((l.length : Int) == partsI kind) = false := by simpa using h2
      have g3 : ((l.length : Int) != partsI kind) = true := by simpa using h2
      go_enter Tryz.func56, Tryz.ntmps56
      go_wp2_with (go_at_call 74; refine (partsOf_any _ _).mono ?_; rintro e w2 ⟨rfl, rfl⟩)
      go_ret
      exact ⟨by rw [hE.out] <;> rfl, q2⟩
    have h2 : (l.length : Int) = partsI kind := Decidable.not_not.1 h2
    have g1 : decide ((l.length : Int) = partsI kind) = true := by simpa using h2
    have g2 : ((l.length : Int) == partsI kind) = true := by simpa using h2
    have g3 : ((l.length : Int) != partsI kind) = false := by simpa using h2
    have HL := hid h2
    have HF1 := hid (show fault1 F ⟨kind, k, n, l⟩ o = if n ≠ 0 ∧ kind ≠ 2 then 5 else if faultK F kind k o ≠ 0 then faultK F kind k o else if kind = 5 ∧ 12 ≤ o then 3 else 0 by
      unfold fault1; simp only; rw [if_neg h1, if_neg (by rw [h2]; simp)])
    rename_i h2'
    clear h2 h2'
    by_cases h3 : n ≠ 0 ∧ kind ≠ 2
    · have hE := hid (show V.bad F ⟨kind, k, n, l⟩ o = 5 by rw [HBE.out, HF1.out, if_pos h3]; rfl)
      obtain ⟨h3, h4⟩ := h3
      have e1 : (n != 0) = true := by simpa using h3
      have e2 : (kind != 2) = true := by simpa using h4
      go_enter Tryz.func56, Tryz.ntmps56
      go_wp2_with (go_at_call 74; refine (partsOf_any _ _).mono ?_; rintro e w2 ⟨rfl, rfl⟩)
      go_ret
      exact ⟨by rw [hE.out] <;> rfl, q2⟩
    have HF2 := hid (HF1.out.trans (if_neg h3))
    clear HF1
    by_cases h4 : kind = 4
    · subst h4
      have hn0 : n = 0 := by
        by_cases h : n = 0
        · exact h
        · exact absurd ⟨h, by decide⟩ h3
      subst hn0
      clear h3
      by_cases ha : k < 0
      · have hE := hid (show V.bad F ⟨4, k, 0, l⟩ o = 1 by rw [HBE.out, HF2.out]; have hh : faultK F 4 k o = 1 := (by simp only [faultK]; simp; omega); simp [hh])
        go_enter Tryz.func56, Tryz.ntmps56
        go_wp2_with (go_at_call 74; refine (partsOf_any _ _).mono ?_; rintro e w2 ⟨rfl, rfl⟩)
        go_ret
        exact ⟨by rw [hE.out] <;> rfl, q2⟩
      have ha' : ¬ k < 0 := ha
      by_cases hb : o - 1 < k
      · have hE := hid (show V.bad F ⟨4, k, 0, l⟩ o = 1 by rw [HBE.out, HF2.out]; have hh : faultK F 4 k o = 1 := (by simp only [faultK]; simp; omega); simp [hh])
        go_enter Tryz.func56, Tryz.ntmps56
        go_wp2_with (go_at_call 74; refine (partsOf_any _ _).mono ?_; rintro e w2 ⟨rfl, rfl⟩)
        go_ret
        exact ⟨by rw [hE.out] <;> rfl, q2⟩
      have HZ := hid (show V.bad F ⟨4, k, 0, l⟩ o = bads F 4 l 0 o by rw [HBE.out, HF2.out]; have hh : faultK F 4 k o = 0 := (by simp only [faultK]; simp; omega); simp [hh])
      go_enter Tryz.func56, Tryz.ntmps56
      go_wp2_with (go_at_call 74; refine (partsOf_any _ _).mono ?_; rintro e w2 ⟨rfl, rfl⟩)
      go_loopw [10] (fun i wr => ∃ j : Nat, j ≤ l.length ∧ i = .int .i64 j ∧ bads F 4 l 0 o = bads F 4 (l.drop j) j o ∧ Quiet ((w.alloc (.cells #[.slice ma F mc] 33)).alloc (.cells #[.int .i64 4, .int .i64 k, .int .i64 0, .slice ao l.length cap] 31)) wr) (fun i _ => l.length - (intOf i).toNat)
      case atStart => exact ⟨0, Nat.zero_le _, rfl, rfl, Kp.refl _ _⟩
      case round =>
        rename World => wq
        obtain ⟨j, hj, rfl, hbd, q⟩ := hrel
        obtain ⟨hb0, hb1⟩ := two_boxes q
        have m0 := cell_of_one hb0
        obtain ⟨x0, _, _, x3⟩ := box_cells hb1
        have HB := hid hbd
        clear hb0 hb1 hbd
        by_cases hlt : j < l.length
        · have hlt' : (j : Int) < partsI 4 := by rw [← HL.out]; omega
          obtain ⟨b, off, rfl, dh, ai, ci, ds, hci⟩ := (HI.out.1.quiet (q2.trans q)).get j hlt
          obtain ⟨d0, d9, d1⟩ := dh
          have HC := hid (fun o' ho' => HI.out.2 l[j] (List.getElem_mem hlt) ai ci o' wq.drew (hci.quiet (Kp.drew _)) ho' (HSZ.out j hlt))
          have HN := hid (bads_next F 4 l j o hlt)
          simp only at d0 d9 d1 ds
          generalize hcu : l[j] = c at *
          clear hcu hci
          have HO := hid (show opens 4 o j = o by simp [opens])
          by_cases hcz : c.bad F (o) = 0
          · have HCZ := hid hcz
            clear hcz
            go_wp2
            go_still_tail 7, Tryz.mixed
            go_wp2_with (go_at_call 56; refine (HC.out (o) (by omega)).mono ?_; rintro e w3 ⟨rfl, q3⟩; rw [HCZ.out])
            exact ⟨⟨j + 1, by omega, by go_num, by rw [HB.out, HN.out.1 (by rw [HO.out]; exact HCZ.out)], q.trans ((Kp.drew _).trans q3)⟩, by simp [intOf]; omega⟩
          · have hE := hid (show V.bad F ⟨4, k, 0, l⟩ o = c.bad F (o) by
              rw [HZ.out, HB.out, HN.out.2 (by rw [HO.out]; exact hcz), HO.out])
            have hcb : (c.bad F (o) != 0) = true := by simpa using hcz
            go_wp2
            go_still_tail 7, Tryz.mixed
            go_wp2_with (go_at_call 56; refine (HC.out (o) (by omega)).mono ?_; rintro e w3 ⟨rfl, q3⟩)
            go_ret
            exact ⟨by rw [hE.out] <;> rfl, q2.trans (q.trans ((Kp.drew _).trans q3))⟩
        · have hlt' : ¬ (j : Int) < partsI 4 := by rw [← HL.out]; omega
          have hE := hid (show V.bad F ⟨4, k, 0, l⟩ o = 0 by
            rw [HZ.out, HB.out, List.drop_of_length_le (by omega), bads_nil])
          go_wp2
          go_ret
          exact ⟨by rw [hE.out] <;> rfl, q2.trans q⟩
    by_cases h6 : kind = 6
    · subst h6
      have hn0 : n = 0 := by
        by_cases h : n = 0
        · exact h
        · exact absurd ⟨h, by decide⟩ h3
      subst hn0
      clear h3
      by_cases ha : k < 1
      · have hE := hid (show V.bad F ⟨6, k, 0, l⟩ o = 1 by rw [HBE.out, HF2.out]; have hh : faultK F 6 k o = 1 := (by simp only [faultK]; simp; omega); simp [hh])
        go_enter Tryz.func56, Tryz.ntmps56
        go_wp2_with (go_at_call 74; refine (partsOf_any _ _).mono ?_; rintro e w2 ⟨rfl, rfl⟩)
        go_ret
        exact ⟨by rw [hE.out] <;> rfl, q2⟩
      have ha' : ¬ k < 1 := ha
      by_cases hb : 5 < k
      · have hE := hid (show V.bad F ⟨6, k, 0, l⟩ o = 1 by rw [HBE.out, HF2.out]; have hh : faultK F 6 k o = 1 := (by simp only [faultK]; simp; omega); simp [hh])
        go_enter Tryz.func56, Tryz.ntmps56
        go_wp2_with (go_at_call 74; refine (partsOf_any _ _).mono ?_; rintro e w2 ⟨rfl, rfl⟩)
        go_ret
        exact ⟨by rw [hE.out] <;> rfl, q2⟩
      have HZ := hid (show V.bad F ⟨6, k, 0, l⟩ o = bads F 6 l 0 o by rw [HBE.out, HF2.out]; have hh : faultK F 6 k o = 0 := (by simp only [faultK]; simp; omega); simp [hh])
      go_enter Tryz.func56, Tryz.ntmps56
      go_wp2_with (go_at_call 74; refine (partsOf_any _ _).mono ?_; rintro e w2 ⟨rfl, rfl⟩)
      go_loopw [10] (fun i wr => ∃ j : Nat, j ≤ l.length ∧ i = .int .i64 j ∧ bads F 6 l 0 o = bads F 6 (l.drop j) j o ∧ Quiet ((w.alloc (.cells #[.slice ma F mc] 33)).alloc (.cells #[.int .i64 6, .int .i64 k, .int .i64 0, .slice ao l.length cap] 31)) wr) (fun i _ => l.length - (intOf i).toNat)
      case atStart => exact ⟨0, Nat.zero_le _, rfl, rfl, Kp.refl _ _⟩
      case round =>
        rename World => wq
        obtain ⟨j, hj, rfl, hbd, q⟩ := hrel
        obtain ⟨hb0, hb1⟩ := two_boxes q
        have m0 := cell_of_one hb0
        obtain ⟨x0, _, _, x3⟩ := box_cells hb1
        have HB := hid hbd
        clear hb0 hb1 hbd
        by_cases hlt : j < l.length
        · have hlt' : (j : Int) < partsI 6 := by rw [← HL.out]; omega
          obtain ⟨b, off, rfl, dh, ai, ci, ds, hci⟩ := (HI.out.1.quiet (q2.trans q)).get j hlt
          obtain ⟨d0, d9, d1⟩ := dh
          have HC := hid (fun o' ho' => HI.out.2 l[j] (List.getElem_mem hlt) ai ci o' wq.drew (hci.quiet (Kp.drew _)) ho' (HSZ.out j hlt))
          have HN := hid (bads_next F 6 l j o hlt)
          simp only at d0 d9 d1 ds
          generalize hcu : l[j] = c at *
          clear hcu hci
          have HO := hid (show opens 6 o j = o by simp [opens])
          by_cases hcz : c.bad F (o) = 0
          · have HCZ := hid hcz
            clear hcz
            go_wp2
            go_still_tail 7, Tryz.mixed
            go_wp2_with (go_at_call 56; refine (HC.out (o) (by omega)).mono ?_; rintro e w3 ⟨rfl, q3⟩; rw [HCZ.out])
            exact ⟨⟨j + 1, by omega, by go_num, by rw [HB.out, HN.out.1 (by rw [HO.out]; exact HCZ.out)], q.trans ((Kp.drew _).trans q3)⟩, by simp [intOf]; omega⟩
          · have hE := hid (show V.bad F ⟨6, k, 0, l⟩ o = c.bad F (o) by
              rw [HZ.out, HB.out, HN.out.2 (by rw [HO.out]; exact hcz), HO.out])
            have hcb : (c.bad F (o) != 0) = true := by simpa using hcz
            go_wp2
            go_still_tail 7, Tryz.mixed
            go_wp2_with (go_at_call 56; refine (HC.out (o) (by omega)).mono ?_; rintro e w3 ⟨rfl, q3⟩)
            go_ret
            exact ⟨by rw [hE.out] <;> rfl, q2.trans (q.trans ((Kp.drew _).trans q3))⟩
        · have hlt' : ¬ (j : Int) < partsI 6 := by rw [← HL.out]; omega
          have hE := hid (show V.bad F ⟨6, k, 0, l⟩ o = 0 by
            rw [HZ.out, HB.out, List.drop_of_length_le (by omega), bads_nil])
          go_wp2
          go_ret
          exact ⟨by rw [hE.out] <;> rfl, q2.trans q⟩
    by_cases h15 : kind = 15
    · subst h15
      have hn0 : n = 0 := by
        by_cases h : n = 0
        · exact h
        · exact absurd ⟨h, by decide⟩ h3
      subst hn0
      clear h3
      by_cases ha : k < 0
      · have hE := hid (show V.bad F ⟨15, k, 0, l⟩ o = 1 by rw [HBE.out, HF2.out]; have hh : faultK F 15 k o = 1 := (by simp only [faultK]; simp; omega); simp [hh])
        go_enter Tryz.func56, Tryz.ntmps56
        go_wp2_with (go_at_call 74; refine (partsOf_any _ _).mono ?_; rintro e w2 ⟨rfl, rfl⟩)
        go_ret
        exact ⟨by rw [hE.out] <;> rfl, q2⟩
      have ha' : ¬ k < 0 := ha
      by_cases hb : 15 < k
      · have hE := hid (show V.bad F ⟨15, k, 0, l⟩ o = 1 by rw [HBE.out, HF2.out]; have hh : faultK F 15 k o = 1 := (by simp only [faultK]; simp; omega); simp [hh])
        go_enter Tryz.func56, Tryz.ntmps56
        go_wp2_with (go_at_call 74; refine (partsOf_any _ _).mono ?_; rintro e w2 ⟨rfl, rfl⟩)
        go_ret
        exact ⟨by rw [hE.out] <;> rfl, q2⟩
      have HZ := hid (show V.bad F ⟨15, k, 0, l⟩ o = bads F 15 l 0 o by rw [HBE.out, HF2.out]; have hh : faultK F 15 k o = 0 := (by simp only [faultK]; simp; omega); simp [hh])
      go_enter Tryz.func56, Tryz.ntmps56
      go_wp2_with (go_at_call 74; refine (partsOf_any _ _).mono ?_; rintro e w2 ⟨rfl, rfl⟩)
      go_loopw [10] (fun i wr => ∃ j : Nat, j ≤ l.length ∧ i = .int .i64 j ∧ bads F 15 l 0 o = bads F 15 (l.drop j) j o ∧ Quiet ((w.alloc (.cells #[.slice ma F mc] 33)).alloc (.cells #[.int .i64 15, .int .i64 k, .int .i64 0, .slice ao l.length cap] 31)) wr) (fun i _ => l.length - (intOf i).toNat)
      case atStart => exact ⟨0, Nat.zero_le _, rfl, rfl, Kp.refl _ _⟩
      case round =>
        rename World => wq
        obtain ⟨j, hj, rfl, hbd, q⟩ := hrel
        obtain ⟨hb0, hb1⟩ := two_boxes q
        have m0 := cell_of_one hb0
        obtain ⟨x0, _, _, x3⟩ := box_cells hb1
        have HB := hid hbd
        clear hb0 hb1 hbd
        by_cases hlt : j < l.length
        · have hlt' : (j : Int) < partsI 15 := by rw [← HL.out]; omega
          obtain ⟨b, off, rfl, dh, ai, ci, ds, hci⟩ := (HI.out.1.quiet (q2.trans q)).get j hlt
          obtain ⟨d0, d9, d1⟩ := dh
          have HC := hid (fun o' ho' => HI.out.2 l[j] (List.getElem_mem hlt) ai ci o' wq.drew (hci.quiet (Kp.drew _)) ho' (HSZ.out j hlt))
          have HN := hid (bads_next F 15 l j o hlt)
          simp only at d0 d9 d1 ds
          generalize hcu : l[j] = c at *
          clear hcu hci
          have HO := hid (show opens 15 o j = o by simp [opens])
          by_cases hcz : c.bad F (o) = 0
          · have HCZ := hid hcz
            clear hcz
            go_wp2
            go_still_tail 7, Tryz.mixed
            go_wp2_with (go_at_call 56; refine (HC.out (o) (by omega)).mono ?_; rintro e w3 ⟨rfl, q3⟩; rw [HCZ.out])
            exact ⟨⟨j + 1, by omega, by go_num, by rw [HB.out, HN.out.1 (by rw [HO.out]; exact HCZ.out)], q.trans ((Kp.drew _).trans q3)⟩, by simp [intOf]; omega⟩
          · have hE := hid (show V.bad F ⟨15, k, 0, l⟩ o = c.bad F (o) by
              rw [HZ.out, HB.out, HN.out.2 (by rw [HO.out]; exact hcz), HO.out])
            have hcb : (c.bad F (o) != 0) = true := by simpa using hcz
            go_wp2
            go_still_tail 7, Tryz.mixed
            go_wp2_with (go_at_call 56; refine (HC.out (o) (by omega)).mono ?_; rintro e w3 ⟨rfl, q3⟩)
            go_ret
            exact ⟨by rw [hE.out] <;> rfl, q2.trans (q.trans ((Kp.drew _).trans q3))⟩
        · have hlt' : ¬ (j : Int) < partsI 15 := by rw [← HL.out]; omega
          have hE := hid (show V.bad F ⟨15, k, 0, l⟩ o = 0 by
            rw [HZ.out, HB.out, List.drop_of_length_le (by omega), bads_nil])
          go_wp2
          go_ret
          exact ⟨by rw [hE.out] <;> rfl, q2.trans q⟩
    by_cases h18 : kind = 18
    · subst h18
      have hn0 : n = 0 := by
        by_cases h : n = 0
        · exact h
        · exact absurd ⟨h, by decide⟩ h3
      subst hn0
      clear h3
      by_cases ha : k < 0
      · have hE := hid (show V.bad F ⟨18, k, 0, l⟩ o = 1 by rw [HBE.out, HF2.out]; have hh : faultK F 18 k o = 1 := (by simp only [faultK]; simp; omega); simp [hh])
        go_enter Tryz.func56, Tryz.ntmps56
        go_wp2_with (go_at_call 74; refine (partsOf_any _ _).mono ?_; rintro e w2 ⟨rfl, rfl⟩)
        go_ret
        exact ⟨by rw [hE.out] <;> rfl, q2⟩
      have ha' : ¬ k < 0 := ha
      by_cases hb : (F : Int) - 1 < k
      · have hE := hid (show V.bad F ⟨18, k, 0, l⟩ o = 1 by rw [HBE.out, HF2.out]; have hh : faultK F 18 k o = 1 := (by simp only [faultK]; simp; omega); simp [hh])
        go_enter Tryz.func56, Tryz.ntmps56
        go_wp2_with (go_at_call 74; refine (partsOf_any _ _).mono ?_; rintro e w2 ⟨rfl, rfl⟩)
        go_ret
        exact ⟨by rw [hE.out] <;> rfl, q2⟩
      have HZ := hid (show V.bad F ⟨18, k, 0, l⟩ o = bads F 18 l 0 o by rw [HBE.out, HF2.out]; have hh : faultK F 18 k o = 0 := (by simp only [faultK]; simp; omega); simp [hh])
      go_enter Tryz.func56, Tryz.ntmps56
      go_wp2_with (go_at_call 74; refine (partsOf_any _ _).mono ?_; rintro e w2 ⟨rfl, rfl⟩)
      go_loopw [10] (fun i wr => ∃ j : Nat, j ≤ l.length ∧ i = .int .i64 j ∧ bads F 18 l 0 o = bads F 18 (l.drop j) j o ∧ Quiet ((w.alloc (.cells #[.slice ma F mc] 33)).alloc (.cells #[.int .i64 18, .int .i64 k, .int .i64 0, .slice ao l.length cap] 31)) wr) (fun i _ => l.length - (intOf i).toNat)
      case atStart => exact ⟨0, Nat.zero_le _, rfl, rfl, Kp.refl _ _⟩
      case round =>
        rename World => wq
        obtain ⟨j, hj, rfl, hbd, q⟩ := hrel
        obtain ⟨hb0, hb1⟩ := two_boxes q
        have m0 := cell_of_one hb0
        obtain ⟨x0, _, _, x3⟩ := box_cells hb1
        have HB := hid hbd
        clear hb0 hb1 hbd
        by_cases hlt : j < l.length
        · have hlt' : (j : Int) < partsI 18 := by rw [← HL.out]; omega
          obtain ⟨b, off, rfl, dh, ai, ci, ds, hci⟩ := (HI.out.1.quiet (q2.trans q)).get j hlt
          obtain ⟨d0, d9, d1⟩ := dh
          have HC := hid (fun o' ho' => HI.out.2 l[j] (List.getElem_mem hlt) ai ci o' wq.drew (hci.quiet (Kp.drew _)) ho' (HSZ.out j hlt))
          have HN := hid (bads_next F 18 l j o hlt)
          simp only at d0 d9 d1 ds
          generalize hcu : l[j] = c at *
          clear hcu hci
          have HO := hid (show opens 18 o j = o by simp [opens])
          by_cases hcz : c.bad F (o) = 0
          · have HCZ := hid hcz
            clear hcz
            go_wp2
            go_still_tail 7, Tryz.mixed
            go_wp2_with (go_at_call 56; refine (HC.out (o) (by omega)).mono ?_; rintro e w3 ⟨rfl, q3⟩; rw [HCZ.out])
            exact ⟨⟨j + 1, by omega, by go_num, by rw [HB.out, HN.out.1 (by rw [HO.out]; exact HCZ.out)], q.trans ((Kp.drew _).trans q3)⟩, by simp [intOf]; omega⟩
          · have hE := hid (show V.bad F ⟨18, k, 0, l⟩ o = c.bad F (o) by
              rw [HZ.out, HB.out, HN.out.2 (by rw [HO.out]; exact hcz), HO.out])
            have hcb : (c.bad F (o) != 0) = true := by simpa using hcz
            go_wp2
            go_still_tail 7, Tryz.mixed
            go_wp2_with (go_at_call 56; refine (HC.out (o) (by omega)).mono ?_; rintro e w3 ⟨rfl, q3⟩)
            go_ret
            exact ⟨by rw [hE.out] <;> rfl, q2.trans (q.trans ((Kp.drew _).trans q3))⟩
        · have hlt' : ¬ (j : Int) < partsI 18 := by rw [← HL.out]; omega
          have hE := hid (show V.bad F ⟨18, k, 0, l⟩ o = 0 by
            rw [HZ.out, HB.out, List.drop_of_length_le (by omega), bads_nil])
          go_wp2
          go_ret
          exact ⟨by rw [hE.out] <;> rfl, q2.trans q⟩
    have c4 : (kind == 4) = false := by simpa using h4
    have c6 : (kind == 6) = false := by simpa using h6
    have c15 : (kind == 15) = false := by simpa using h15
    have c18 : (kind == 18) = false := by simpa using h18
    have hfk : faultK F kind k o = if k = 0 then 0 else 5 := by simp [faultK, h4, h6, h15, h18]
    by_cases hk : ¬ k = 0
    · have hE := hid (show V.bad F ⟨kind, k, n, l⟩ o = 5 by rw [HBE.out, HF2.out, hfk, if_neg hk]; rfl)
      have b1 : (k != 0) = true := by simpa using hk
      by_cases hn0 : n = 0
      · subst hn0
        clear h3
        go_enter Tryz.func56, Tryz.ntmps56
        go_wp2_with (go_at_call 74; refine (partsOf_any _ _).mono ?_; rintro e w2 ⟨rfl, rfl⟩)
        go_ret
        exact ⟨by rw [hE.out] <;> rfl, q2⟩
      · have hk2 : kind = 2 := by
          by_cases h : kind = 2
          · exact h
          · exact absurd ⟨hn0, h⟩ h3
        subst hk2
        have b2 : (n != 0) = true := by simpa using hn0
        clear h3
        go_enter Tryz.func56, Tryz.ntmps56
        go_wp2_with (go_at_call 74; refine (partsOf_any _ _).mono ?_; rintro e w2 ⟨rfl, rfl⟩)
        go_ret
        exact ⟨by rw [hE.out] <;> rfl, q2⟩
    have hk : k = 0 := Decidable.not_not.1 hk
    subst hk
    rw [if_pos rfl] at hfk
    by_cases h5 : kind = 5
    · subst h5
      have hn0 : n = 0 := by
        by_cases h : n = 0
        · exact h
        · exact absurd ⟨h, by decide⟩ h3
      subst hn0
      clear h3
      by_cases h12 : o = 12
      · subst h12
        have hE := hid (show V.bad F ⟨5, 0, 0, l⟩ 12 = 3 by rw [HBE.out, HF2.out, hfk]; simp)
        go_enter Tryz.func56, Tryz.ntmps56
        go_wp2_with (go_at_call 74; refine (partsOf_any _ _).mono ?_; rintro e w2 ⟨rfl, rfl⟩)
        go_ret
        exact ⟨by rw [hE.out] <;> rfl, q2⟩
      have d12 : (o == 12) = false := by simpa using h12
      have d13 : decide (o = 12) = false := by simpa using h12
      have HZ := hid (show V.bad F ⟨5, 0, 0, l⟩ o = bads F 5 l 0 o by rw [HBE.out, HF2.out, hfk]; have : ¬ 12 ≤ o := (by omega); simp [this])
      go_enter Tryz.func56, Tryz.ntmps56
      go_wp2_with (go_at_call 74; refine (partsOf_any _ _).mono ?_; rintro e w2 ⟨rfl, rfl⟩)
      go_loopw [10] (fun i wr => ∃ j : Nat, j ≤ l.length ∧ i = .int .i64 j ∧ bads F 5 l 0 o = bads F 5 (l.drop j) j o ∧ Quiet ((w.alloc (.cells #[.slice ma F mc] 33)).alloc (.cells #[.int .i64 5, .int .i64 0, .int .i64 0, .slice ao l.length cap] 31)) wr) (fun i _ => l.length - (intOf i).toNat)
      case atStart => exact ⟨0, Nat.zero_le _, rfl, rfl, Kp.refl _ _⟩
      case round =>
        rename World => wq
        obtain ⟨j, hj, rfl, hbd, q⟩ := hrel
        obtain ⟨hb0, hb1⟩ := two_boxes q
        have m0 := cell_of_one hb0
        obtain ⟨x0, _, _, x3⟩ := box_cells hb1
        have HB := hid hbd
        clear hb0 hb1 hbd
        by_cases hlt : j < l.length
        · have hlt' : (j : Int) < partsI 5 := by rw [← HL.out]; omega
          obtain ⟨b, off, rfl, dh, ai, ci, ds, hci⟩ := (HI.out.1.quiet (q2.trans q)).get j hlt
          obtain ⟨d0, d9, d1⟩ := dh
          have HC := hid (fun o' ho' => HI.out.2 l[j] (List.getElem_mem hlt) ai ci o' wq.drew (hci.quiet (Kp.drew _)) ho' (HSZ.out j hlt))
          have HN := hid (bads_next F 5 l j o hlt)
          simp only at d0 d9 d1 ds
          generalize hcu : l[j] = c at *
          clear hcu hci
          by_cases hj1 : j = 1
          · have HJ1 := hid hj1
            have hj3 : decide ((j : Int) = 1) = true := by simp; omega
            have hj4 : ((j : Int) == 1) = true := by simp; omega
            have HO := hid (show opens 5 o j = o + 1 by simp [opens, hj1])
            clear hj1
            by_cases hcz : c.bad F (o + 1) = 0
            · have HCZ := hid hcz
              clear hcz
              go_wp2
              go_still_tail 7, Tryz.mixed
              go_wp2_with (go_at_call 56; refine (HC.out (o + 1) (by omega)).mono ?_; rintro e w3 ⟨rfl, q3⟩; rw [HCZ.out])
              exact ⟨⟨j + 1, by omega, by go_num, by rw [HB.out, HN.out.1 (by rw [HO.out]; exact HCZ.out)], q.trans ((Kp.drew _).trans q3)⟩, by simp [intOf]; omega⟩
            · have hE := hid (show V.bad F ⟨5, 0, 0, l⟩ o = c.bad F (o + 1) by
                rw [HZ.out, HB.out, HN.out.2 (by rw [HO.out]; exact hcz), HO.out])
              have hcb : (c.bad F (o + 1) != 0) = true := by simpa using hcz
              go_wp2
              go_still_tail 7, Tryz.mixed
              go_wp2_with (go_at_call 56; refine (HC.out (o + 1) (by omega)).mono ?_; rintro e w3 ⟨rfl, q3⟩)
              go_ret
              exact ⟨by rw [hE.out] <;> rfl, q2.trans (q.trans ((Kp.drew _).trans q3))⟩
          · have hj2 : ¬ (j : Int) = 1 := by omega
            have hj3 : decide ((j : Int) = 1) = false := by simp; omega
            have hj4 : ((j : Int) == 1) = false := by simp; omega
            have HO := hid (show opens 5 o j = o by simp [opens, hj1])
            by_cases hcz : c.bad F (o) = 0
            · have HCZ := hid hcz
              clear hcz
              go_wp2
              go_still_tail 7, Tryz.mixed
              go_wp2_with (go_at_call 56; refine (HC.out (o) (by omega)).mono ?_; rintro e w3 ⟨rfl, q3⟩; rw [HCZ.out])
              exact ⟨⟨j + 1, by omega, by go_num, by rw [HB.out, HN.out.1 (by rw [HO.out]; exact HCZ.out)], q.trans ((Kp.drew _).trans q3)⟩, by simp [intOf]; omega⟩
            · have hE := hid (show V.bad F ⟨5, 0, 0, l⟩ o = c.bad F (o) by
                rw [HZ.out, HB.out, HN.out.2 (by rw [HO.out]; exact hcz), HO.out])
              have hcb : (c.bad F (o) != 0) = true := by simpa using hcz
              go_wp2
              go_still_tail 7, Tryz.mixed
              go_wp2_with (go_at_call 56; refine (HC.out (o) (by omega)).mono ?_; rintro e w3 ⟨rfl, q3⟩)
              go_ret
              exact ⟨by rw [hE.out] <;> rfl, q2.trans (q.trans ((Kp.drew _).trans q3))⟩
        · have hlt' : ¬ (j : Int) < partsI 5 := by rw [← HL.out]; omega
          have hE := hid (show V.bad F ⟨5, 0, 0, l⟩ o = 0 by
            rw [HZ.out, HB.out, List.drop_of_length_le (by omega), bads_nil])
          go_wp2
          go_ret
          exact ⟨by rw [hE.out] <;> rfl, q2.trans q⟩
    have c5 : (kind == 5) = false := by simpa using h5
    have c55 : decide (kind = 5) = false := by simpa using h5
    have HZ := hid (show V.bad F ⟨kind, 0, n, l⟩ o = bads F kind l 0 o by rw [HBE.out, HF2.out, hfk]; simp [h5])
    by_cases hn0 : n = 0
    · subst hn0
      clear h3
      go_enter Tryz.func56, Tryz.ntmps56
      go_wp2_with (go_at_call 74; refine (partsOf_any _ _).mono ?_; rintro e w2 ⟨rfl, rfl⟩)
      go_loopw [10] (fun i wr => ∃ j : Nat, j ≤ l.length ∧ i = .int .i64 j ∧ bads F kind l 0 o = bads F kind (l.drop j) j o ∧ Quiet ((w.alloc (.cells #[.slice ma F mc] 33)).alloc (.cells #[.int .i64 kind, .int .i64 0, .int .i64 0, .slice ao l.length cap] 31)) wr) (fun i _ => l.length - (intOf i).toNat)
      case atStart => exact ⟨0, Nat.zero_le _, rfl, rfl, Kp.refl _ _⟩
      case round =>
        rename World => wq
        obtain ⟨j, hj, rfl, hbd, q⟩ := hrel
        obtain ⟨hb0, hb1⟩ := two_boxes q
        have m0 := cell_of_one hb0
        obtain ⟨x0, _, _, x3⟩ := box_cells hb1
        have HB := hid hbd
        clear hb0 hb1 hbd
        by_cases hlt : j < l.length
        · have hlt' : (j : Int) < partsI kind := by rw [← HL.out]; omega
          obtain ⟨b, off, rfl, dh, ai, ci, ds, hci⟩ := (HI.out.1.quiet (q2.trans q)).get j hlt
          obtain ⟨d0, d9, d1⟩ := dh
          have HC := hid (fun o' ho' => HI.out.2 l[j] (List.getElem_mem hlt) ai ci o' wq.drew (hci.quiet (Kp.drew _)) ho' (HSZ.out j hlt))
          have HN := hid (bads_next F kind l j o hlt)
          simp only at d0 d9 d1 ds
          generalize hcu : l[j] = c at *
          clear hcu hci
          have HO := hid (show opens kind o j = o by simp [opens, h5])
          by_cases hcz : c.bad F (o) = 0
          · have HCZ := hid hcz
            clear hcz
            go_wp2
            go_still_tail 7, Tryz.mixed
            go_wp2_with (go_at_call 56; refine (HC.out (o) (by omega)).mono ?_; rintro e w3 ⟨rfl, q3⟩; rw [HCZ.out])
            exact ⟨⟨j + 1, by omega, by go_num, by rw [HB.out, HN.out.1 (by rw [HO.out]; exact HCZ.out)], q.trans ((Kp.drew _).trans q3)⟩, by simp [intOf]; omega⟩
          · have hE := hid (show V.bad F ⟨kind, 0, 0, l⟩ o = c.bad F (o) by
              rw [HZ.out, HB.out, HN.out.2 (by rw [HO.out]; exact hcz), HO.out])
            have hcb : (c.bad F (o) != 0) = true := by simpa using hcz
            go_wp2
            go_still_tail 7, Tryz.mixed
            go_wp2_with (go_at_call 56; refine (HC.out (o) (by omega)).mono ?_; rintro e w3 ⟨rfl, q3⟩)
            go_ret
            exact ⟨by rw [hE.out] <;> rfl, q2.trans (q.trans ((Kp.drew _).trans q3))⟩
        · have hlt' : ¬ (j : Int) < partsI kind := by rw [← HL.out]; omega
          have hE := hid (show V.bad F ⟨kind, 0, 0, l⟩ o = 0 by
            rw [HZ.out, HB.out, List.drop_of_length_le (by omega), bads_nil])
          go_wp2
          go_ret
          exact ⟨by rw [hE.out] <;> rfl, q2.trans q⟩
    · have hk2 : kind = 2 := by
        by_cases h : kind = 2
        · exact h
        · exact absurd ⟨hn0, h⟩ h3
      subst hk2
      have b2 : (n != 0) = true := by simpa using hn0
      clear h3
      go_enter Tryz.func56, Tryz.ntmps56
      go_wp2_with (go_at_call 74; refine (partsOf_any _ _).mono ?_; rintro e w2 ⟨rfl, rfl⟩)
      go_loopw [10] (fun i wr => ∃ j : Nat, j ≤ l.length ∧ i = .int .i64 j ∧ bads F 2 l 0 o = bads F 2 (l.drop j) j o ∧ Quiet ((w.alloc (.cells #[.slice ma F mc] 33)).alloc (.cells #[.int .i64 2, .int .i64 0, .int .i64 n, .slice ao l.length cap] 31)) wr) (fun i _ => l.length - (intOf i).toNat)
      case atStart => exact ⟨0, Nat.zero_le _, rfl, rfl, Kp.refl _ _⟩
      case round =>
        rename World => wq
        obtain ⟨j, hj, rfl, hbd, q⟩ := hrel
        obtain ⟨hb0, hb1⟩ := two_boxes q
        have m0 := cell_of_one hb0
        obtain ⟨x0, _, _, x3⟩ := box_cells hb1
        have HB := hid hbd
        clear hb0 hb1 hbd
        by_cases hlt : j < l.length
        · have hlt' : (j : Int) < partsI 2 := by rw [← HL.out]; omega
          obtain ⟨b, off, rfl, dh, ai, ci, ds, hci⟩ := (HI.out.1.quiet (q2.trans q)).get j hlt
          obtain ⟨d0, d9, d1⟩ := dh
          have HC := hid (fun o' ho' => HI.out.2 l[j] (List.getElem_mem hlt) ai ci o' wq.drew (hci.quiet (Kp.drew _)) ho' (HSZ.out j hlt))
          have HN := hid (bads_next F 2 l j o hlt)
          simp only at d0 d9 d1 ds
          generalize hcu : l[j] = c at *
          clear hcu hci
          have HO := hid (show opens 2 o j = o by simp [opens])
          by_cases hcz : c.bad F (o) = 0
          · have HCZ := hid hcz
            clear hcz
            go_wp2
            go_still_tail 7, Tryz.mixed
            go_wp2_with (go_at_call 56; refine (HC.out (o) (by omega)).mono ?_; rintro e w3 ⟨rfl, q3⟩; rw [HCZ.out])
            exact ⟨⟨j + 1, by omega, by go_num, by rw [HB.out, HN.out.1 (by rw [HO.out]; exact HCZ.out)], q.trans ((Kp.drew _).trans q3)⟩, by simp [intOf]; omega⟩
          · have hE := hid (show V.bad F ⟨2, 0, n, l⟩ o = c.bad F (o) by
              rw [HZ.out, HB.out, HN.out.2 (by rw [HO.out]; exact hcz), HO.out])
            have hcb : (c.bad F (o) != 0) = true := by simpa using hcz
            go_wp2
            go_still_tail 7, Tryz.mixed
            go_wp2_with (go_at_call 56; refine (HC.out (o) (by omega)).mono ?_; rintro e w3 ⟨rfl, q3⟩)
            go_ret
            exact ⟨by rw [hE.out] <;> rfl, q2.trans (q.trans ((Kp.drew _).trans q3))⟩
        · have hlt' : ¬ (j : Int) < partsI 2 := by rw [← HL.out]; omega
          have hE := hid (show V.bad F ⟨2, 0, n, l⟩ o = 0 by
            rw [HZ.out, HB.out, List.drop_of_length_le (by omega), bads_nil])
          go_wp2
          go_ret
          exact ⟨by rw [hE.out] <;> rfl, q2.trans q⟩
end Go.Proofs.YtpppgmkefpelaaaGreat.Ex
namespace Go.Proofs.YtpppgmkefpelaaaGreat.Ex
open Go.ChangeShapes Go.WideShapes Go.ChangeAt Go.RowKit
theorem F_any (c a : Int) (w : World) : Calls Tryz.prog 53 #[.int .i64 c, .int .i64 a] w fun e w' => e = .returned (.agg #[.int .i64 c, .int .i64 a]) ∧ Quiet w w' := by
  go_enter Tryz.func53, Tryz.ntmps53
  go_wp2
  refine bodyPost_ret (v := .agg #[.int .i64 c, .int .i64 a]) (by simp [results, Tryz.results53, go_sem]) rfl ?_
  exact ⟨rfl, Kp.alloc _ _⟩
set_option maxRecDepth 8000 in
set_option maxHeartbeats 4000000 in
theorem codeFault_any (l : List V) (ao : Option Addr) (cap : Nat) (w : World) (hF : Fo w l ao) (hL : l.length ≤ 20000) (hS : ∀ x ∈ l, x.size ≤ 20000) :
    Calls Tryz.prog 33 #[.agg #[.slice ao l.length cap]] w fun e w' => e = .returned (.agg #[.int .i64 (modFault l).1, .int .i64 (modFault l).2]) ∧ Quiet w w' := by
  have q2 : Quiet w ((w.alloc (.cells #[.slice ao l.length cap] 33)).alloc (.cells #[.int .i64 0, .int .i64 0] 46)) := (Kp.alloc _ _).trans (Kp.alloc _ _)
  have hb0 : ((w.alloc (.cells #[.slice ao l.length cap] 33)).alloc (.cells #[.int .i64 0, .int .i64 0] 46)).heap[w.heap.size]? = some (.cells #[.slice ao l.length cap] 33 (0, 0)) := by
    rw [Below.heap_alloc _ _ _ (by simp)]; exact heap_alloc_new w _
  have hb1 := heap_two w (.cells #[.slice ao l.length cap] 33) (.cells #[.int .i64 0, .int .i64 0] 46)
  by_cases h12 : l.length < 1 ∨ 6 < l.length
  · have hE := hid (show modFault l = (3, -1) by unfold modFault; rw [if_pos h12])
    by_cases h1 : l.length < 1
    · have h1' : (l.length : Int) < 1 := by omega
      clear h1 h12
      go_enter Tryz.func33, Tryz.ntmps33
      go_wp2_with (go_at_call 53; refine (F_any 3 (-1) _).mono ?_; rintro e w9 ⟨rfl, q9⟩; obtain ⟨k0, k1, k2, k3⟩ := fault_cells ((q9.block _ (lt_of_block hb1) (fun e => e)).trans hb1))
      refine bodyPost_ret (v := .agg #[.int .i64 3, .int .i64 (-1)]) (by simp [results, Tryz.results33, go_sem, k0, k1]) rfl ?_
      exact ⟨by rw [hE.out], (q2.trans q9).fresh ((kp_set _ _ _ _).trans (kp_set _ _ _ _) |>.mono fun k _ e => by omega)⟩
    · have h1' : ¬ (l.length : Int) < 1 := by omega
      have h2' : (6 : Int) < (l.length : Int) := by omega
      clear h1 h12
      go_enter Tryz.func33, Tryz.ntmps33
      go_wp2_with (go_at_call 53; refine (F_any 3 (-1) _).mono ?_; rintro e w9 ⟨rfl, q9⟩; obtain ⟨k0, k1, k2, k3⟩ := fault_cells ((q9.block _ (lt_of_block hb1) (fun e => e)).trans hb1))
      refine bodyPost_ret (v := .agg #[.int .i64 3, .int .i64 (-1)]) (by simp [results, Tryz.results33, go_sem, k0, k1]) rfl ?_
      exact ⟨by rw [hE.out], (q2.trans q9).fresh ((kp_set _ _ _ _).trans (kp_set _ _ _ _) |>.mono fun k _ e => by omega)⟩
  have h1' : ¬ (l.length : Int) < 1 := by omega
  have h2' : ¬ (6 : Int) < (l.length : Int) := by omega
  have HE := hid (show modFault l = funs (l.length : Int) l 0 by unfold modFault; rw [if_neg h12])
  have HF := hid (And.intro hF hS)
  have HB := hid (And.intro hb0 (And.intro hb1 q2))
  clear hF hb0 hb1 q2 h12 hS
  go_enter Tryz.func33, Tryz.ntmps33
  go_wp2
  go_loopw [3] (fun i wr => ∃ j : Nat, j ≤ l.length ∧ i = .int .i64 j ∧ funs (l.length : Int) l 0 = funs (l.length : Int) (l.drop j) j ∧ Quiet ((w.alloc (.cells #[.slice ao l.length cap] 33)).alloc (.cells #[.int .i64 0, .int .i64 0] 46)) wr) (fun i _ => l.length - (intOf i).toNat)
  case atStart => exact ⟨0, Nat.zero_le _, rfl, rfl, Kp.refl _ _⟩
  case round =>
    rename World => wq
    obtain ⟨j, hj, rfl, hf, q⟩ := hrel
    have hm0 := (q.block _ (lt_of_block HB.out.1) fun e => e).trans HB.out.1
    have x0 := mod_cell hm0
    have hbf := (q.block _ (lt_of_block HB.out.2.1) fun e => e).trans HB.out.2.1
    have hsz := q.size
    have z1 : w.heap.size < wq.heap.size := by simp at hsz; omega
    have z2 : w.heap.size + 1 < wq.heap.size := by simp at hsz; omega
    have HQ := hid (And.intro q hf)
    clear q hf hsz
    by_cases hlt : j < l.length
    · have hFq := HF.out.1.quiet (HB.out.2.2.trans HQ.out.1)
      obtain ⟨b, off, rfl, dh, ai, ci, ds, hci⟩ := hFq.get j hlt
      obtain ⟨d0, d9, d1⟩ := dh
      have HN := hid (And.intro (funs_next (l.length : Int) l j hlt) (funs_stop (l.length : Int) l j hlt))
      have hs6 := HF.out.2 l[j] (List.getElem_mem hlt)
      generalize hcu : l[j] = c at *
      have hbx := heap_alloc_new wq (.cells #[.int .i64 c.kind, .int .i64 c.k, .int .i64 c.n, .slice ai c.l.length ci] 31)
      have hbf2 := (Below.heap_alloc wq (.cells #[.int .i64 c.kind, .int .i64 c.k, .int .i64 c.n, .slice ai c.l.length ci] 31) _ z2).trans hbf
      have hbm := (Below.heap_alloc wq (.cells #[.int .i64 c.kind, .int .i64 c.k, .int .i64 c.n, .slice ai c.l.length ci] 31) _ z1).trans hm0
      have hca : Is (wq.alloc (.cells #[.int .i64 c.kind, .int .i64 c.k, .int .i64 c.n, .slice ai c.l.length ci] 31)) c ai := hci.quiet (Kp.alloc _ _)
      have HD := hid (deep_any 31 c ai ci 30 (wq.alloc (.cells #[.int .i64 c.kind, .int .i64 c.k, .int .i64 c.n, .slice ai c.l.length ci] 31)) (by decide) (by decide) (by omega) hca)
      have HSZ := hid (fun w3 (q3 : Quiet (wq.alloc (.cells #[.int .i64 c.kind, .int .i64 c.k, .int .i64 c.n, .slice ai c.l.length ci] 31)) w3) => size_any 121 c ai ci 120 w3 (by decide) (by decide) (hca.quiet q3))
      have HEF := hid (fun w4 (q4 : Quiet (wq.alloc (.cells #[.int .i64 c.kind, .int .i64 c.k, .int .i64 c.n, .slice ai c.l.length ci] 31)) w4) => exprFault_any l.length (some ⟨b, off, none⟩) cap (by omega) c ai ci 0 w4 (hca.quiet q4) ⟨by decide, by decide⟩ (by omega))
      clear hcu hci hFq hca hm0 hbf
      by_cases h3 : 30 < c.deep
      · have HFN := hid (show fun1 (l.length : Int) c = 4 by unfold fun1; rw [if_pos h3])
        go_wp2_with (first
          | (go_at_call 53; refine (F_any 4 (j : Int) _).mono ?_; rintro e w9 ⟨rfl, q9⟩; obtain ⟨k0, k1, k2, k3⟩ := fault_cells (((q3.trans q9).block _ (lt_of_block hbf2) (fun e => e)).trans hbf2))
          | (go_at_call 54; refine HD.out.mono ?_; rintro e w3 ⟨r3, rfl, _, k3a, k3b, q3⟩; have hr3 : (30 : Int) < (r3 : Int) := (by have := k3b h3; omega); obtain ⟨y0, y9, y1, y2⟩ := box_cells ((q3.block _ (lt_of_block hbx) (fun e => e)).trans hbx); clear k3a k3b))
        refine bodyPost_ret (v := .agg #[.int .i64 4, .int .i64 j]) (by simp [results, Tryz.results33, go_sem, k0, k1]) rfl ?_
        refine ⟨?_, ?_⟩
        · rw [HE.out, HQ.out.2, HN.out.2 (by rw [HFN.out]; first | decide | exact hbz), HFN.out]
        · exact (HB.out.2.2.trans (HQ.out.1.trans ((Kp.alloc _ _).trans (q3.trans q9)))).fresh ((kp_set _ _ _ _).trans (kp_set _ _ _ _) |>.mono fun k _ e => by omega)
      by_cases h4 : 120 < c.size
      · have HFN := hid (show fun1 (l.length : Int) c = 3 by unfold fun1; rw [if_neg h3, if_pos h4])
        go_wp2_with (first
          | (go_at_call 53; refine (F_any 3 (j : Int) _).mono ?_; rintro e w9 ⟨rfl, q9⟩; obtain ⟨k0, k1, k2, k3⟩ := fault_cells (((q4.trans q9).block _ (lt_of_block hbf2) (fun e => e)).trans hbf2))
          | (go_at_call 55; refine (HSZ.out w3 q3).mono ?_; rintro e w4 ⟨r4, rfl, _, _, k4a, k4b, q4⟩; have hr4 : (120 : Int) < (r4 : Int) := (by have := k4b h4; omega); replace q4 := q3.trans q4; obtain ⟨z0, z9, z1, z2⟩ := box_cells ((q4.block _ (lt_of_block hbx) (fun e => e)).trans hbx); have zm := mod_cell ((q4.block _ (lt_of_block hbm) (fun e => e)).trans hbm); clear k4a k4b)
          | (go_at_call 54; refine HD.out.mono ?_; rintro e w3 ⟨r3, rfl, _, k3a, k3b, q3⟩; have hr3 : ¬ (30 : Int) < (r3 : Int) := (by have := k3a (by omega); omega); obtain ⟨y0, y9, y1, y2⟩ := box_cells ((q3.block _ (lt_of_block hbx) (fun e => e)).trans hbx); clear k3a k3b))
        refine bodyPost_ret (v := .agg #[.int .i64 3, .int .i64 j]) (by simp [results, Tryz.results33, go_sem, k0, k1]) rfl ?_
        refine ⟨?_, ?_⟩
        · rw [HE.out, HQ.out.2, HN.out.2 (by rw [HFN.out]; first | decide | exact hbz), HFN.out]
        · exact (HB.out.2.2.trans (HQ.out.1.trans ((Kp.alloc _ _).trans (q4.trans q9)))).fresh ((kp_set _ _ _ _).trans (kp_set _ _ _ _) |>.mono fun k _ e => by omega)
      by_cases hbz : ¬ c.bad (l.length : Int) 0 = 0
      · have HFN := hid (show fun1 (l.length : Int) c = c.bad (l.length : Int) 0 by unfold fun1; rw [if_neg h3, if_neg h4])
        have hbb : (c.bad (l.length : Int) 0 != 0) = true := by simpa using hbz
        go_wp2_with (first
          | (go_at_call 53; refine (F_any (c.bad (l.length : Int) 0) (j : Int) _).mono ?_; rintro e w9 ⟨rfl, q9⟩; obtain ⟨k0, k1, k2, k3⟩ := fault_cells (((q5.trans q9).block _ (lt_of_block hbf2) (fun e => e)).trans hbf2))
          | (go_at_call 56; refine (HEF.out w4 q4).mono ?_; rintro e w5 ⟨rfl, q5⟩; replace q5 := q4.trans q5)
          | (go_at_call 55; refine (HSZ.out w3 q3).mono ?_; rintro e w4 ⟨r4, rfl, _, _, k4a, k4b, q4⟩; have hr4 : ¬ (120 : Int) < (r4 : Int) := (by have := k4a (by omega); omega); replace q4 := q3.trans q4; obtain ⟨z0, z9, z1, z2⟩ := box_cells ((q4.block _ (lt_of_block hbx) (fun e => e)).trans hbx); have zm := mod_cell ((q4.block _ (lt_of_block hbm) (fun e => e)).trans hbm); clear k4a k4b)
          | (go_at_call 54; refine HD.out.mono ?_; rintro e w3 ⟨r3, rfl, _, k3a, k3b, q3⟩; have hr3 : ¬ (30 : Int) < (r3 : Int) := (by have := k3a (by omega); omega); obtain ⟨y0, y9, y1, y2⟩ := box_cells ((q3.block _ (lt_of_block hbx) (fun e => e)).trans hbx); clear k3a k3b))
        refine bodyPost_ret (v := .agg #[.int .i64 (c.bad (l.length : Int) 0), .int .i64 j]) (by simp [results, Tryz.results33, go_sem, k0, k1]) rfl ?_
        refine ⟨?_, ?_⟩
        · rw [HE.out, HQ.out.2, HN.out.2 (by rw [HFN.out]; first | decide | exact hbz), HFN.out]
        · exact (HB.out.2.2.trans (HQ.out.1.trans ((Kp.alloc _ _).trans (q5.trans q9)))).fresh ((kp_set _ _ _ _).trans (kp_set _ _ _ _) |>.mono fun k _ e => by omega)
      · have HBZ := hid (Decidable.not_not.1 hbz)
        have HFN := hid (show fun1 (l.length : Int) c = 0 by unfold fun1; rw [if_neg h3, if_neg h4]; exact HBZ.out)
        clear hbz
        go_wp2_with (first
          | (go_at_call 56; refine (HEF.out w4 q4).mono ?_; rintro e w5 ⟨rfl, q5⟩; replace q5 := q4.trans q5; rw [HBZ.out])
          | (go_at_call 55; refine (HSZ.out w3 q3).mono ?_; rintro e w4 ⟨r4, rfl, _, _, k4a, k4b, q4⟩; have hr4 : ¬ (120 : Int) < (r4 : Int) := (by have := k4a (by omega); omega); replace q4 := q3.trans q4; obtain ⟨z0, z9, z1, z2⟩ := box_cells ((q4.block _ (lt_of_block hbx) (fun e => e)).trans hbx); have zm := mod_cell ((q4.block _ (lt_of_block hbm) (fun e => e)).trans hbm); clear k4a k4b)
          | (go_at_call 54; refine HD.out.mono ?_; rintro e w3 ⟨r3, rfl, _, k3a, k3b, q3⟩; have hr3 : ¬ (30 : Int) < (r3 : Int) := (by have := k3a (by omega); omega); obtain ⟨y0, y9, y1, y2⟩ := box_cells ((q3.block _ (lt_of_block hbx) (fun e => e)).trans hbx); clear k3a k3b))
        exact ⟨⟨j + 1, by omega, by go_num, by rw [HQ.out.2]; exact HN.out.1 HFN.out, HQ.out.1.trans ((Kp.alloc _ _).trans q5)⟩, by simp [intOf]; omega⟩
    · have hjl : j = l.length := by omega
      subst hjl
      obtain ⟨k0, k1, k2, k3⟩ := fault_cells hbf
      clear hbf
      go_wp2
      refine bodyPost_ret (v := .agg #[.int .i64 0, .int .i64 0]) (by simp [results, Tryz.results33, go_sem, k0, k1]) rfl ?_
      refine ⟨?_, ?_⟩
      · rw [HE.out, HQ.out.2, funs_end]
      · exact (HB.out.2.2.trans HQ.out.1).fresh ((kp_set _ _ _ _).trans (kp_set _ _ _ _) |>.mono fun k _ e => by omega)
end Go.Proofs.YtpppgmkefpelaaaGreat.Ex
namespace Go.Proofs.YtpppgmkefpelaaaGreat.Ex
/-- The names that are open behind an instruction. -/
def openI (x : Ik) (o : Int) : Int := if x.op = 101 then o + 1 else if x.op = 102 then o - 1 else o
def tickI (x : Ik) : Int := if x.op = 100 then 1 else 0
def openL : List Ik → Int → Int
  | [], o => o
  | x :: c, o => openL c (openI x o)
def tickL : List Ik → Int
  | [] => 0
  | x :: c => tickI x + tickL c
/-- What is asked of the instruction at a place. -/
structure Good (len i : Nat) (x : Ik) (o : Int) : Prop where
  jump : x.op = 103 ∨ x.op = 104 → (i : Int) < x.k ∧ x.k < (len : Int)
  var : x.op = 4 → x.k < o
  lo : 0 ≤ openI x o
  hi : openI x o ≤ 12
  back : x.op = 105 ↔ i + 1 = len
def Goods (len : Nat) : List Ik → Nat → Int → Prop
  | [], _, _ => True
  | x :: c, i, o => Good len i x o ∧ Goods len c (i + 1) (openI x o)
theorem openL_app (a b : List Ik) : ∀ o, openL (a ++ b) o = openL b (openL a o) := by
  induction a with
  | nil => intro o; rfl
  | cons x a ih => intro o; exact ih _
theorem tickL_app (a b : List Ik) : tickL (a ++ b) = tickL a + tickL b := by
  induction a with
  | nil => simp [tickL]
  | cons x a ih => rw [List.cons_append, tickL, tickL, ih]; omega
theorem goods_app (len : Nat) (a b : List Ik) : ∀ i o, Goods len (a ++ b) i o ↔ Goods len a i o ∧ Goods len b (i + a.length) (openL a o) := by
  induction a with
  | nil => intro i o; simp [Goods, openL]
  | cons x a ih =>
    intro i o
    rw [List.cons_append, Goods, Goods, ih, List.length_cons, openL, show i + 1 + a.length = i + (a.length + 1) by omega]
    exact and_assoc.symm
theorem goods_get (len : Nat) (c : List Ik) : ∀ i o, Goods len c i o → ∀ j (h : j < c.length), Good len (i + j) c[j] (openL (c.take j) o) := by
  induction c with
  | nil => intro i o _ j h; simp at h
  | cons x c ih =>
    intro i o h j hj
    cases j with
    | zero => exact h.1
    | succ j =>
      have := ih (i + 1) (openI x o) h.2 j (by simpa using hj)
      rw [show i + 1 + j = i + (j + 1) by omega] at this
      simpa [openL] using this
/-- An instruction that does not go elsewhere, inside. -/
theorem good_of {len i : Nat} {x : Ik} {o : Int} (h3 : x.op ≠ 103 ∧ x.op ≠ 104) (h4 : x.op = 4 → x.k < o) (hl : 0 ≤ openI x o) (hh : openI x o ≤ 12) (hb : x.op ≠ 105) (hi : i + 1 < len) : Good len i x o :=
  ⟨fun h => by omega, h4, hl, hh, ⟨fun h => absurd h hb, fun h => by omega⟩⟩
theorem good_jump {len i : Nat} {x : Ik} {o : Int} (h3 : x.op = 103 ∨ x.op = 104) (hk : (i : Int) < x.k ∧ x.k < (len : Int)) (hl : 0 ≤ o) (hh : o ≤ 12) (hi : i + 1 < len) : Good len i x o := by
  have e : openI x o = o := by unfold openI; rw [if_neg (by omega), if_neg (by omega)]
  exact ⟨fun _ => hk, fun h => by omega, by rw [e]; exact hl, by rw [e]; exact hh, ⟨fun h => by omega, fun h => by omega⟩⟩
/-- What holds of the instructions of an expression. -/
def CodeGood (v : V) : Prop := ∀ (F o : Int) (p len : Nat), v.bad F o = 0 → 0 ≤ o → o ≤ 12 → p + (v.code p).length < len → Goods len (v.code p) p o ∧ openL (v.code p) o = o ∧ tickL (v.code p) = (v.size : Int)
theorem codes_good (l : List V) : (∀ x ∈ l, CodeGood x) → ∀ (F o : Int) (p len : Nat), (∀ x ∈ l, x.bad F o = 0) → 0 ≤ o → o ≤ 12 → p + (codesP l p).length < len → Goods len (codesP l p) p o ∧ openL (codesP l p) o = o ∧ tickL (codesP l p) = (sizes l : Int) := by
  induction l with
  | nil => intro _ F o p len _ _ _ _; rw [codesP_nil, sizes_nil]; exact ⟨trivial, rfl, rfl⟩
  | cons x l ih =>
    intro hx F o p len hb h0 h12 hp
    rw [codesP_cons, List.length_append] at hp
    obtain ⟨g1, g2, g3⟩ := hx x (by simp) F o p len (hb x (by simp)) h0 h12 (by omega)
    obtain ⟨k1, k2, k3⟩ := ih (fun y hy => hx y (by simp [hy])) F o (p + (x.code p).length) len (fun y hy => hb y (by simp [hy])) h0 h12 (by omega)
    rw [codesP_cons, goods_app, openL_app, tickL_app, g2, g3, k3, sizes_cons]
    exact ⟨⟨g1, k1⟩, k2, by simp⟩
theorem bads_same {F kind : Int} {l : List V} {o : Int} (hk : kind ≠ 5) : ∀ {i : Nat}, bads F kind l i o = 0 → ∀ x ∈ l, x.bad F o = 0 := by
  induction l with
  | nil => intro i _ x hx; simp at hx
  | cons v l ih =>
    intro i h x hx
    obtain ⟨h1, h2⟩ := bads_one h
    rw [opens, if_neg (by omega)] at h1
    rcases List.mem_cons.1 hx with rfl | hx
    · exact h1
    · exact ih h2 x hx
theorem code_good (v : V) : CodeGood v := by
  induction v using V.ind' with
  | h v ih =>
    intro F o p len hb h0 h12 hp
    obtain ⟨hf, hbs⟩ := bad_one hb
    obtain ⟨hk, _, h4, h5⟩ := fault_facts hf
    have tick : Good len p ⟨100, 0, 0⟩ o := good_of (by decide) (fun h => by simp at h) h0 h12 (by decide) (by have := code_pos v p; omega)
    have opn : openI ⟨100, 0, 0⟩ o = o := rfl
    by_cases e5 : v.kind = 5
    · obtain ⟨a, b, hl⟩ := Ok.two ⟨F, o, hb⟩ e5
      have ho := h5 e5
      rw [hl, e5] at hbs
      obtain ⟨ba, hbs⟩ := bads_one hbs
      obtain ⟨bb, _⟩ := bads_one hbs
      rw [opens, if_neg (by omega)] at ba
      rw [opens, if_pos ⟨rfl, rfl⟩] at bb
      rw [code_let e5 hl] at hp ⊢
      unfold letC at hp ⊢
      simp only [List.length_append, List.length_singleton] at hp
      obtain ⟨g1, g2, g3⟩ := ih a (by simp [hl]) F o (p + 1) len ba h0 h12 (by omega)
      obtain ⟨k1, k2, k3⟩ := ih b (by simp [hl]) F (o + 1) (p + 1 + (a.code (p + 1)).length + 1) len bb (by omega) (by omega) (by omega)
      have o1 : openI ⟨101, 0, 0⟩ o = o + 1 := rfl
      have o2 : openI ⟨102, 0, 0⟩ (o + 1) = o := by show o + 1 - 1 = o; omega
      simp only [goods_app, openL_app, tickL_app, Goods, openL, tickL, tickI, g2, g3, k2, k3, opn, o1, o2, List.length_singleton]
      refine ⟨⟨⟨tick, trivial⟩, g1, ⟨good_of (by decide) (fun h => by simp at h) (by rw [o1]; omega) (by rw [o1]; omega) (by decide) (by omega), trivial⟩, k1, good_of (by decide) (fun h => by simp at h) (by rw [o2]; omega) (by rw [o2]; omega) (by decide) (by omega), trivial⟩, ?_⟩
      rw [size_eq v, hl, sizes_cons, sizes_cons, sizes_nil]
      refine ⟨trivial, ?_⟩
      simp
    · by_cases e7 : v.kind = 7
      · obtain ⟨a, b, c, hl⟩ := Ok.three ⟨F, o, hb⟩ e7
        have hall := bads_same e5 hbs
        rw [hl] at hall
        rw [code_if e7 hl] at hp ⊢
        unfold ifC at hp ⊢
        simp only [List.length_append, List.length_singleton] at hp
        have hE : elseAt a b (p + 1) = p + 1 + (a.code (p + 1)).length + 1 + (b.code (p + 1 + (a.code (p + 1)).length + 1)).length + 1 := rfl
        obtain ⟨g1, g2, g3⟩ := ih a (by simp [hl]) F o (p + 1) len (hall a (by simp)) h0 h12 (by omega)
        obtain ⟨k1, k2, k3⟩ := ih b (by simp [hl]) F o (p + 1 + (a.code (p + 1)).length + 1) len (hall b (by simp)) h0 h12 (by omega)
        obtain ⟨m1, m2, m3⟩ := ih c (by simp [hl]) F o (elseAt a b (p + 1)) len (hall c (by simp)) h0 h12 (by omega)
        have o1 : ∀ x, openI ⟨103, x, 0⟩ o = o := fun _ => rfl
        have o2 : ∀ x, openI ⟨104, x, 0⟩ o = o := fun _ => rfl
        simp only [goods_app, openL_app, tickL_app, Goods, openL, tickL, tickI, g2, g3, k2, k3, m2, m3, opn, o1, o2, List.length_singleton]
        refine ⟨⟨⟨tick, trivial⟩, g1, ⟨good_jump (.inl rfl) (by constructor <;> simp only <;> omega) h0 h12 (by omega), trivial⟩, k1, ⟨good_jump (.inr rfl) (by constructor <;> simp only <;> omega) h0 h12 (by omega), trivial⟩, ?_⟩, trivial, ?_⟩
        · rw [show p + 1 + (a.code (p + 1)).length + 1 + (b.code (p + 1 + (a.code (p + 1)).length + 1)).length + 1 = elseAt a b (p + 1) from rfl]; exact m1
        · rw [size_eq v, hl, sizes_cons, sizes_cons, sizes_cons, sizes_nil]
          simp
      · have hall := bads_same e5 hbs
        rw [code_other e5 e7] at hp ⊢
        simp only [List.length_append, List.length_singleton] at hp
        obtain ⟨g1, g2, g3⟩ := codes_good v.l ih F o (p + 1) len hall h0 h12 (by omega)
        have o1 : openI ⟨v.kind, v.k, v.n⟩ o = o := by unfold openI; rw [if_neg (by simp only; omega), if_neg (by simp only; omega)]
        have t1 : tickI ⟨v.kind, v.k, v.n⟩ = 0 := by unfold tickI; rw [if_neg (by simp only; omega)]
        have t0 : tickI ⟨100, 0, 0⟩ = 1 := rfl
        simp only [goods_app, openL_app, tickL_app, Goods, openL, tickL, t0, t1, g2, g3, opn, o1, List.length_singleton]
        refine ⟨⟨⟨tick, trivial⟩, g1, good_of (by simp only; omega) h4 (by rw [o1]; exact h0) (by rw [o1]; exact h12) (by simp only; omega) (by omega), trivial⟩, trivial, ?_⟩
        rw [size_eq v]
        simp
theorem fun_good {v : V} {F : Int} (h : v.bad F 0 = 0) : Goods (funC v).length (funC v) 0 0 ∧ openL (funC v) 0 = 0 ∧ tickL (funC v) = (v.size : Int) := by
  have hl : (funC v).length = (v.code 0).length + 1 := by simp [funC]
  obtain ⟨g1, g2, g3⟩ := code_good v F 0 0 (funC v).length h (by decide) (by decide) (by omega)
  rw [hl] at g1 ⊢
  unfold funC
  simp only [goods_app, openL_app, tickL_app, Goods, openL, tickL, g2, g3]
  refine ⟨⟨g1, ⟨fun h => by simp at h, fun h => by simp at h, by decide, by decide, ⟨fun _ => by omega, fun _ => rfl⟩⟩, trivial⟩, rfl, by simp [tickI]⟩
end Go.Proofs.YtpppgmkefpelaaaGreat.Ex
