/- A module, as the program reads it: the walk. -/
import Derived.Test.YthogejofkodmkacDoorPExprWalk
namespace Go.Proofs.YthogejofkodmkacDoor
open Go.ChangeShapes Go.WideShapes Go.ChangeAt Go.RowKit
/-- What comes of reading a module. -/
def OutM (rb : Nat) (w : World) (g : Got (List V)) (e' : Ending) (w' : World) : Prop := match g with
  | .ok (l, _) => ∃ ao cap, e' = .returned (.agg #[.slice ao l.length cap]) ∧ HoldL w.heap.size w' l ao ∧ Kr rb w w'
  | .error x => e' = .panicked (gave x) ∧ Kr rb w w'
/-- The state of the loop over functions. -/
structure MSt (W : World) (rb : Nat) (e : Int) (tot : Got (List V)) (acc : List V) (rest : List Tk) (av : Option Addr) (m cv : Nat) (ps : List Kd) (w : World) : Prop where
  box : w.heap[W.heap.size]? = some (.cells #[.slice av m cv] 37 (0, 0))
  row : Row W rb (W.heap.size + 1) acc av m cv ps w
  rs : RS w rb e rest
  tot : modFrom e acc rest = tot
  fine : Fine rest
  few : acc.length + rest.length ≤ 9000
theorem box_set0 {w : World} {x : Nat} {a y : Value} {t : TypeId} (h : w.heap[x]? = some (.cells #[a] t (0, 0))) : (w.setCell ⟨x, 0, none⟩ y).heap[x]? = some (.cells #[y] t (0, 0)) := by
  simp [World.setCell, Array.getElem?_modify, h]
theorem box1 {w : World} {x : Nat} {a : Value} {t : TypeId} (h : w.heap[x]? = some (.cells #[a] t (0, 0))) : w.cell? ⟨x, 0, none⟩ = some a := by simp [World.cell?, h]
theorem MSt.kp {W w w' : World} {rb : Nat} {e : Int} {tot : Got (List V)} {acc : List V} {rest : List Tk} {av : Option Addr} {m cv : Nat} {ps : List Kd} (H : MSt W rb e tot acc rest av m cv ps w) (hr : rb < W.heap.size) (q : Kr rb w w') :
    w'.heap[W.heap.size]? = some (.cells #[.slice av m cv] 37 (0, 0)) ∧ Row W rb (W.heap.size + 1) acc av m cv ps w' :=
  ⟨(q.block _ (lt_of_block H.box) (by omega)).trans H.box, H.row.kp (by omega) q⟩
theorem mod_push {W w w3 w1 : World} {rb : Nat} {e : Int} {tot : Got (List V)} {acc : List V} {r : List Tk} {av : Option Addr} {m cv : Nat} {ps : List Kd} {v : V} {a : Option Addr} {c gg cap : Nat} {o : Obj} (hb : w.heap[W.heap.size]? = some (.cells #[.slice av m cv] 37 (0, 0))) (H : Row W rb (W.heap.size + 1) acc av m cv ps w) (hr : rb < W.heap.size) (ht : modFrom e (acc ++ [v]) r = tot) (hF : Fine r) (hl : acc.length + 1 + r.length ≤ 9000)
    (q3 : Kr rb w.drew w3) (hc : Hold w.heap.size none w3 v a) (hs : RS w3 rb e r)
    (hr1 : w1.ownsRow (W.heap.size + 1) 53 4 (.slice (some ⟨gg, 0, none⟩) (m + 1) cap) (m + 1) (tris ps ++ tri (v, a, c))) (hg : (w3.alloc o).grownBy w1 (Value.slice av m cv).ownBlock) (hat : (Value.slice av m cv).ownBlock = some gg ∨ gg = w3.heap.size + 1) :
    MSt W rb e tot (acc ++ [v]) r (some ⟨gg, 0, none⟩) (m + 1) cap (ps ++ [(v, a, c)]) (w1.setCell ⟨W.heap.size, 0, none⟩ (.slice (some ⟨gg, 0, none⟩) (m + 1) cap)) ∧ w1.cell? ⟨W.heap.size, 0, none⟩ = some (.slice av m cv) ∧ w1.frozen? ⟨W.heap.size, 0, none⟩ = false := by
  obtain ⟨k1, k2, k3⟩ := H.push (x := W.heap.size) (j := 0) hr (Nat.lt_succ_self _) (Nat.le_refl _) q3 hc hs hr1 hg hat
  have hb2 := k3.trans hb
  exact ⟨⟨box_set0 hb2, k1, k2, ht, hF, by rw [List.length_append, List.length_singleton]; exact hl⟩, box1 hb2, box_free hb2 0⟩
theorem HoldL.step {lo : Nat} {w w' : World} {l : List V} {ao : Option Addr} (h : HoldL lo w l ao) (hk : ∀ k, lo ≤ k → k < w.heap.size → w'.heap[k]? = w.heap[k]?) : HoldL lo w' l ao :=
  fun w2 h2 => h w2 fun k c t h1 hc => h2 k c t h1 ((hk k h1 (lt_of_block hc)).trans hc)
theorem HoldL.wider {lo lo' : Nat} {w : World} {l : List V} {ao : Option Addr} (h : HoldL lo w l ao) (hl : lo' ≤ lo) : HoldL lo' w l ao :=
  fun w2 h2 => h w2 fun k c t h1 hc => h2 k c t (by omega) hc
theorem told_mod {w W w5 : World} {rb : Nat} {acc : List V} {av : Option Addr} {m cv : Nat} {ps : List Kd} {o0 : Obj} (q : Kr rb (w.alloc o0) W) (H : Row W rb (W.heap.size + 1) acc av m cv ps w5) (a : Value) :
    HoldL w.heap.size (w5.setCell ⟨w.heap.size, 0, none⟩ a) acc av ∧ Kr rb w (w5.setCell ⟨w.heap.size, 0, none⟩ a) := by
  have hW : w.heap.size + 1 ≤ W.heap.size := by have := q.size; simpa using this
  have hk : Kp (fun k => k = w.heap.size) w5 (w5.setCell ⟨w.heap.size, 0, none⟩ a) := kp_set _ _ _ _
  refine ⟨(H.holdL.step fun k h1 h2 => hk.block k h2 (by omega)).wider (by omega), ?_⟩
  exact ((Kp.alloc w o0).trans (q.trans H.kr)).fresh (hk.mono fun k _ e => by omega)
set_option maxRecDepth 8000 in
set_option maxHeartbeats 4000000 in
theorem module_any (e : Int) (rb : Nat) (ts : List Tk) (w : World) (h : RS w rb e ts) (hw : Rd w rb) (hF : Fine ts) (hl : ts.length ≤ 9000) :
    Calls Tryd.prog 42 #[.pointer (some ⟨rb, 0, none⟩)] w (OutM rb w (modFrom e [] ts)) := by
  obtain ⟨i0, hi0, hz0, hz1, hz2⟩ := info_parts Tryd.infoV
  have hlt := h.lt
  obtain ⟨tot, htot⟩ : ∃ tot, tot = modFrom e [] ts := ⟨_, rfl⟩
  rw [← htot]
  obtain ⟨W, hW⟩ : ∃ W, W = w.alloc (.cells #[.slice none 0 0] 37) := ⟨_, rfl⟩
  have hsW : W.heap.size = w.heap.size + 1 := by rw [hW]; simp
  have hst : MSt W rb e tot [] ts none 0 0 [] (W.alloc (.cells #[.slice none 0 0] 37)) := by
    refine ⟨heap_alloc_new W _, Row.nil _ _ _ _ (Kp.alloc _ _) (by simp), ?_, htot.symm, hF, by simpa using hl⟩
    rw [hW]; exact (h.quiet (Kp.alloc _ _)).quiet (Kp.alloc _ _)
  have HST := hid hst
  have HW := hid (And.intro hW (And.intro hsW (show Rd W rb by rw [hW]; exact hw.quiet (Kp.alloc _ _))))
  have hltW : rb < W.heap.size := by omega
  clear h hF hl htot hst hw hW hsW
  go_enter Tryd.func42, Tryd.ntmps42
  go_wp2
  rw [← HW.out.1]
  rw [← HW.out.2.1]
  go_loopg [] ts.length (fun gk wr => ∃ (m : Nat) (av : Option Addr) (cv : Nat) (ps : List Kd) (acc : List V) (rest : List Tk), gk = rest.length ∧ Hid (MSt W rb e tot acc rest av m cv ps wr))
  case atStart => exact ⟨0, none, 0, [], [], ts, rfl, HST⟩
  case round =>
    obtain ⟨m, av, cv, ps, acc, rest, hgk, HE⟩ := hrel
    have hszr : W.heap.size + 1 ≤ wr.heap.size := HE.out.row.sz
    have hzw : w.heap.size < W.heap.size := by have := HW.out.2.1; omega
    cases rest with
    | nil =>
      obtain ⟨ao, cap, hb, _, _⟩ := HE.out.rs
      obtain ⟨b0, b1⟩ := box2 hb
      simp only [List.length_nil] at b0
      have hT : tot = .ok (acc, []) := by rw [← HE.out.tot, modFrom_nil]
      have c0 := box1 HE.out.box
      have hb0 : wr.heap[w.heap.size]? = some (.cells #[.slice none 0 0] 37 (0, 0)) := by
        rw [HE.out.row.kr.block _ hzw (by omega), HW.out.1]; exact heap_alloc_new w _
      have d0 := box1 hb0
      have hf0 := box_free hb0
      have hm := hid HE.out.row.lens
      subst hT
      clear hb hb0
      go_wp2
      refine bodyPost_ret (v := .agg #[.slice av m cv]) (by simp [results, Tryd.results42, go_sem, d0]) rfl ?_
      refine ⟨av, cv, by rw [hm.out], ?_⟩
      exact told_mod (o0 := .cells #[.slice none 0 0] 37) (by rw [HW.out.1]; exact Kp.refl _ _) HE.out.row _
    | cons t r =>
      obtain ⟨ao, cap, hb, _, _⟩ := HE.out.rs
      obtain ⟨b0, b1⟩ := box2 hb
      simp only [List.length_cons] at b0
      clear hb
      cases h1 : mustT e funB (t :: r) with
      | error x =>
        have hT : tot = .error x := by rw [← HE.out.tot, modFrom_cons, h1]; rfl
        have HS := hid (skip_bad e rb funB (t :: r) x wr HE.out.rs h1)
        have HQ := hid (show Kr rb w wr from (show Kr rb w W by rw [HW.out.1]; exact Kp.alloc _ _).trans HE.out.row.kr)
        subst hT
        clear h1
        go_wp2_with (go_at_call 53; refine HS.out.mono ?_; rintro e' w3 ⟨rfl, q3⟩)
        exact ⟨rfl, rfl, HQ.out.trans q3⟩
      | ok y =>
        obtain ⟨u, r1⟩ := y
        obtain ⟨t', h2, _⟩ := must_ok h1
        cases h2
        have HS := hid (skip_ok e rb funB (t :: r) r u wr HE.out.rs h1)
        have hT0 : tot = andThen (exprT e 31 r) fun v r => modFrom e (acc ++ [v]) r := by rw [← HE.out.tot, modFrom_cons, h1]; rfl
        have hFr : Fine r := Fine.rest (p := [t]) HE.out.fine
        have hlr : acc.length + 1 + r.length ≤ 9000 := by have := HE.out.few; rw [List.length_cons] at this; omega
        have HC := hid (fun (w1 : World) (s1 : RS w1 rb e r) (q1 : Kr rb wr w1) => expr_any e rb 31 0 r w1.drew (by decide) (by decide) (s1.quiet (Kp.drew _)) (((HW.out.2.2.kr HE.out.row.kr).kr q1).quiet (Kp.drew _)) hFr (by omega))
        have HK := hid (fun (w1 : World) (q1 : Kr rb wr w1) => HE.out.kp hltW q1)
        have hm9 : m ≤ 9000 := by have := HE.out.row.lens; omega
        cases h2 : exprT e 31 r with
        | error x =>
          have hT : tot = .error x := by rw [hT0, h2]; rfl
          rw [h2] at HC
          have HQ := hid (show Kr rb w wr from (show Kr rb w W by rw [HW.out.1]; exact Kp.alloc _ _).trans HE.out.row.kr)
          clear h1 h2 hT0 hFr hlr
          subst hT
          go_wp2_with (go_at_call 53; refine HS.out.mono ?_; rintro e' w1 ⟨rfl, s1, q1⟩; have c0 := box1 (HK.out w1 q1).1)
          go_region_dies
          all_goals
            refine (HC.out w1 s1 q1).mono ?_
            rintro e' w3 ⟨rfl, q3⟩
            exact ⟨rfl, rfl, HQ.out.trans (q1.trans ((Kp.drew _).trans q3))⟩
        | ok y =>
          obtain ⟨v, r'⟩ := y
          have hT : modFrom e (acc ++ [v]) r' = tot := by rw [hT0, h2]; rfl
          rw [h2] at HC
          obtain ⟨p, hp, _⟩ := expr_ok e 31 r v r' h2
          have hF' : Fine r' := Fine.rest (p := p) (hp ▸ hFr)
          have hpl : r'.length ≤ r.length := by rw [hp]; simp
          have hl' : acc.length + 1 + r'.length ≤ 9000 := by omega
          have HX := hid (And.intro hT (And.intro hF' (And.intro hl' (And.intro hpl hgk))))
          clear h1 h2 hT0 hFr hlr hT hF' hl' hpl hp hgk
          go_wp2_with (go_at_call 53; refine HS.out.mono ?_; rintro e' w1 ⟨rfl, s1, q1⟩; have c0 := box1 (HK.out w1 q1).1)
          have HR := hid (HK.out w1 q1).2.row
          have hsz1 : W.heap.size + 1 ≤ w1.heap.size := Nat.le_trans hszr q1.size
          go_region_law ((first
            | (refine step_append_lies _ (by rfl) _ _ _ (by rfl) (W.heap.size + 1) 53 i0 _ 4 48 Tryd.undV hi0 hz0 hz1 hz2 rfl (by omega) (.slice av m cv) m (tris ps) (by rfl) hr3 ⟨w3.heap.size, 0, none⟩ 1 1 (tri (v, xa, xc)) (by rfl) (by rfl) (news_at w3 _ 53) (tri_one _) (by omega) (by unfold maxLen; omega) (by omega) (by simp; omega) (w3.heap.size + 1) (by simp) ?_; intro gg cap2 w4 hown1 hgrow hat hlt1; have hD := mod_push (HK.out w1 q1).1 (HK.out w1 q1).2 hltW HX.out.1 HX.out.2.1 HX.out.2.2.1 q3 h3 s3 hown1 hgrow hat; have e1 := hD.2.1; have e2 := hD.2.2; have HD := hid hD.1; clear hown1 hgrow hat hlt1 hD)
            | (go_simp; go_at_call 54; refine (HC.out w1 s1 q1).mono ?_; rintro e' w3 ⟨xa, xc, rfl, h3, s3, q3⟩; have u3 : w3.cell? ⟨W.heap.size, 0, none⟩ = some (.slice av m cv) := q3.cell c0 (show ¬ W.heap.size = rb by omega); have u4 : (w3.alloc (.cells #[.int .i64 v.kind, .int .i64 v.k, .int .i64 v.n, .slice xa v.l.length xc] 53)).cell? ⟨W.heap.size, 0, none⟩ = some (.slice av m cv) := (Kp.alloc (F := fun _ => False) _ _).cell u3 (fun e => e); have hr3 := (q3.row (HR.out.drew) (fun k e1 e2 => (by have := (HR.out.lt k e1).1; omega))).alloc (.cells #[.int .i64 v.kind, .int .i64 v.k, .int .i64 v.n, .slice xa v.l.length xc] 53); have z3 : W.heap.size + 1 ≤ w3.heap.size := Nat.le_trans hsz1 q3.size)))
          all_goals
            go_wp2
            go_roundg r'.length
            case measure => have h7 := HX.out.2.2.2; rw [List.length_cons] at h7; omega
            case rel => exact ⟨_, _, _, _, _, r', rfl, HD⟩
end Go.Proofs.YthogejofkodmkacDoor
