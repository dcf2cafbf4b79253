/- The contract of Make, whatever is told of Check. -/
import Derived.Test.YtjcniiojcigefadLExpr
import Derived.Test.YtjcniiojcigefadCheckZ
namespace Go.Proofs.Ytjcniiojcigefad
open Go.ChangeShapes Go.WideShapes Go.ChangeAt Go.RowKit
theorem Try.infoLs : (Try.prog.info? 41).map (fun i => (i.zero, i.size, i.bytes)) = some (some (.slice none 0 0), 1, 24) := by kernel_rfl
theorem Try.undLs : Try.prog.underlying 28 = some (.slice 41) := by kernel_rfl
/-- Instructions and where they lie. -/
abbrev Ls := List Ik × Option Addr × Nat
def lsv (x : Ls) : Value := .slice x.2.1 x.1.length x.2.2
theorem lsv_one (x : Ls) : ∀ u ∈ [lsv x], u.oneCell' = true := by
  intro u hu
  simp only [List.mem_singleton] at hu
  subst hu; rfl
/-- Lists of instructions in a row of their own. -/
structure Md (B : Nat) (w : World) (sv : Value) (n : Nat) (ps : List Ls) : Prop where
  row : w.ownsRow B 41 1 sv n (ps.map lsv)
  len : n = ps.length
  all : ∀ p ∈ ps, w.ownsRow B 42 3 (lsv p) p.1.length (insC p.1)
theorem Md.kept {B : Nat} {w w' : World} {sv : Value} {n : Nat} {ps : List Ls} {F : Nat → Prop} (h : Md B w sv n ps) (q : Kp F w w') (hF : ∀ k, B ≤ k → k < w.heap.size → ¬ F k) : Md B w' sv n ps :=
  ⟨q.row h.row fun k e => hF k (h.row.lt k e).1 (h.row.lt k e).2, h.len, fun p hp => q.row (h.all p hp) fun k e => hF k ((h.all p hp).lt k e).1 ((h.all p hp).lt k e).2⟩
theorem Md.quiet {B : Nat} {w w' : World} {sv : Value} {n : Nat} {ps : List Ls} (h : Md B w sv n ps) (q : Quiet w w') : Md B w' sv n ps := h.kept q fun _ _ _ e => e
theorem Md.mono {B B' : Nat} {w : World} {sv : Value} {n : Nat} {ps : List Ls} (h : Md B w sv n ps) (hB : B' ≤ B) : Md B' w sv n ps := ⟨owns_mono h.row hB, h.len, fun p hp => owns_mono (h.all p hp) hB⟩
theorem below_kp {b : Nat} {w w' : World} (h : Below b w w') : Kp (fun k => b ≤ k) w w' := ⟨h.os, h.tape, h.output, h.size, fun k _ hk => h.block k (by omega)⟩
theorem rows_apart {w : World} {B B' s s' n n' : Nat} {e e' : TypeId} {v v' : Value} {xs xs' : List Value} (h : w.ownsRow B e s v n xs) (h' : w.ownsRow B' e' s' v' n' xs') (he : e ≠ e') (k : Nat) (hk : v.ownBlock = some k) : v'.ownBlock ≠ some k := by
  intro hk'
  rcases h.2 with ⟨rfl, _⟩ | ⟨g, cap, cur, rfl, _, hg, _⟩
  · simp [Value.ownBlock] at hk
  · rcases h'.2 with ⟨rfl, _⟩ | ⟨g', cap', cur', rfl, _, hg', _⟩
    · simp [Value.ownBlock] at hk'
    · simp [Value.ownBlock] at hk hk'
      subst hk
      rw [hk', hg] at hg'
      simp at hg'
      exact he hg'.2
theorem md_push {B g cap m : Nat} {w w' : World} {sv : Value} {ps : List Ls} {p : Ls} {o : Obj} (M : Md B w sv m ps) (hp : w.ownsRow B 42 3 (lsv p) p.1.length (insC p.1))
    (hr : w'.ownsRow B 41 1 (.slice (some ⟨g, 0, none⟩) (m + 1) cap) (m + 1) (ps.map lsv ++ [lsv p])) (hg : (w.alloc o).grownBy w' sv.ownBlock) : Md B w' (.slice (some ⟨g, 0, none⟩) (m + 1) cap) (m + 1) (ps ++ [p]) := by
  have hk : ∀ x : Ls, w.ownsRow B 42 3 (lsv x) x.1.length (insC x.1) → w'.ownsRow B 42 3 (lsv x) x.1.length (insC x.1) := by
    intro x hx
    have q : Kp (fun k => some k = sv.ownBlock) w w' := (Kp.alloc w o).trans (Kp.grown hg fun k _ e => e)
    exact q.row hx fun k e e' => rows_apart hx M.row (by decide) k e e'.symm
  refine ⟨by simpa using hr, by rw [List.length_append, M.len]; rfl, fun x hx => ?_⟩
  rcases List.mem_append.1 hx with hx | hx
  · exact hk x (M.all x hx)
  · simp at hx; subst hx; exact hk _ hp
/-- A fault as it is told. -/
def faultV (f : Int × Int) : Value := .agg #[.int .i64 f.1, .int .i64 f.2]
/-- What Make tells, if Check told such a fault. -/
def MakeQ (P : Int × Int → Prop) (l : List V) (w : World) (e : Ending) (w' : World) : Prop := ∃ f : Int × Int, P f ∧ Quiet w w' ∧
  ((f.1 ≠ 0 ∧ e = .returned (.tuple #[.slice none 0 0, .agg #[.int .i64 f.1, .int .i64 f.2]])) ∨
   (f.1 = 0 ∧ ∃ ao cap ps, e = .returned (.tuple #[.slice ao l.length cap, .agg #[.int .i64 0, .int .i64 0]]) ∧ Md w.heap.size w' (.slice ao l.length cap) l.length ps ∧ ps.map (·.1) = l.map funC))
theorem funs_take (l : List V) (j : Nat) (h : j < l.length) : (l.take (j + 1)).map funC = (l.take j).map funC ++ [funC l[j]] := by rw [take_snoc l j h, List.map_append]; rfl
theorem far_set (w0 w : World) (x o : Nat) (y : Value) (h : w0.heap.size ≤ x) : Kp (fun i => w0.heap.size ≤ i) w (w.setCell ⟨x, o, none⟩ y) := Kp.setCell w ⟨x, o, none⟩ y h
theorem far_two (w0 w : World) (x : Nat) (y z : Value) (h : w0.heap.size ≤ x) : Kp (fun i => w0.heap.size ≤ i) w ((w.setCell ⟨x, 0, none⟩ y).setCell ⟨x, 1, none⟩ z) := (far_set w0 _ x 0 y h).trans (far_set w0 _ x 1 z h)
theorem at_two (w : World) (x : Nat) (y z : Value) : Kp (fun i => i = x) w ((w.setCell ⟨x, 0, none⟩ y).setCell ⟨x, 1, none⟩ z) := (kp_set w x 0 y).trans (kp_set _ x 1 z)
/-- The state of Make's loop. -/
structure MkS (w : World) (l : List V) (j : Nat) (sv : Value) (ps : List Ls) (wr : World) : Prop where
  made : Md (w.heap.size + 2) wr sv j ps
  funs : ps.map (·.1) = (l.take j).map funC
  low : Below w.heap.size w wr
  box : wr.heap[w.heap.size + 1]? = some (.cells #[.int .i64 0, .int .i64 0] 30 (0, 0))
theorem MkS.mid {w wr A w5 : World} {l : List V} {j : Nat} {sv : Value} {ps : List Ls} (H : MkS w l j sv ps wr) (q : Quiet wr A) (k : KI (wr.heap.size + 1) A w5) : MkS w l j sv ps w5 := by
  have kp : Kp (fun k => wr.heap.size + 1 ≤ k) wr w5 := (q.mono fun _ _ e => e.elim).trans (below_kp k.low)
  have hz := lt_of_block H.box
  refine ⟨H.made.kept kp fun k _ h => by omega, H.funs, H.low.trans (kp.below H.low.size fun k hk => by have := H.low.size; omega), ?_⟩
  rw [kp.block _ hz (by omega)]; exact H.box
theorem MkS.step {w w5 w6 : World} {l : List V} {j g cap : Nat} {sv : Value} {ps : List Ls} {u : V} {p : Ls} {o : Obj} (H : MkS w l j sv ps w5) (hN : (l.take (j + 1)).map funC = (l.take j).map funC ++ [funC u]) (hp : p.1 = funC u) (hr5 : w5.ownsRow (w.heap.size + 2) 42 3 (lsv p) p.1.length (insC p.1))
    (hr : w6.ownsRow (w.heap.size + 2) 41 1 (.slice (some ⟨g, 0, none⟩) (j + 1) cap) (j + 1) (ps.map lsv ++ [lsv p])) (hg : (w5.alloc o).grownBy w6 sv.ownBlock) : MkS w l (j + 1) (.slice (some ⟨g, 0, none⟩) (j + 1) cap) (ps ++ [p]) w6 := by
  have hz := lt_of_block H.box
  have kp : Kp (fun k => w.heap.size + 2 ≤ k) w5 w6 := (Kp.alloc w5 o).trans (Kp.grown hg fun k _ e => (H.made.row.lt k e.symm).1)
  refine ⟨md_push H.made hr5 hr hg, ?_, H.low.trans (kp.below H.low.size fun k hk => by omega), ?_⟩
  · rw [List.map_append, H.funs, hN, List.map_singleton, hp]
  · rw [kp.block _ hz (by omega)]; exact H.box
set_option maxRecDepth 8000 in
set_option maxHeartbeats 4000000 in
theorem make_of (l : List V) (ao : Option Addr) (cap : Nat) (w : World) (hF : Fo w l ao) (hS : sizes l ≤ 20000) (P : Int × Int → Prop) (hP1 : ∀ f, P f → f.1 = 0 → ∀ v ∈ l, Ok v)
    (hC : ∀ w1, Quiet w w1 → Calls Try.prog 15 #[.agg #[.slice ao l.length cap]] w1 fun e w' => ∃ f : Int × Int, e = .returned (.agg #[.int .i64 f.1, .int .i64 f.2]) ∧ P f ∧ Quiet w1 w') :
    Calls Try.prog 8 #[.agg #[.slice ao l.length cap]] w fun e w' => MakeQ P l w e w' := by
  obtain ⟨i0, hi, hz0, hz1, hz2⟩ := info_parts' Try.infoLs
  have q2 : Quiet w ((w.alloc (.cells #[.slice ao l.length cap] 24)).alloc (.cells #[.int .i64 0, .int .i64 0] 30)) := (Kp.alloc _ _).trans (Kp.alloc _ _)
  have hb0 : ((w.alloc (.cells #[.slice ao l.length cap] 24)).alloc (.cells #[.int .i64 0, .int .i64 0] 30)).heap[w.heap.size]? = some (.cells #[.slice ao l.length cap] 24 (0, 0)) := by
    rw [Below.heap_alloc _ _ _ (by simp)]; exact heap_alloc_new w _
  have hb1 := heap_two w (.cells #[.slice ao l.length cap] 24) (.cells #[.int .i64 0, .int .i64 0] 30)
  have hll := sizes_len l
  have hl5 : l.length ≤ 20000 := by omega
  have HC := hid (hC _ q2)
  have HF := hid hF
  have HP := hid hP1
  clear hC hF hP1
  go_enter Try.func8, Try.ntmps8
  go_wp2_with (go_at_call 15; refine HC.out.mono ?_)
  rintro e w3 ⟨⟨c, a⟩, rfl, hPf, q3⟩
  simp only
  have hb03 := (q3.block _ (lt_of_block hb0) fun e => e).trans hb0
  have hb13 := (q3.block _ (lt_of_block hb1) fun e => e).trans hb1
  have x0 := mod_cell hb03
  obtain ⟨k0, k1, k2, k3⟩ := fault_cells hb13
  have z3 : w.heap.size < w3.heap.size := lt_of_block hb03
  have z3' : w.heap.size + 1 < w3.heap.size := lt_of_block hb13
  have q23 := q2.trans q3
  by_cases hc : c = 0
  · subst hc
    have HO := hid (HP.out _ hPf rfl)
    have q4 : Quiet w (w3.alloc (.cells #[.int .i64 0, .int .i64 a] 30)) := q23.trans (Kp.alloc _ _)
    have hb14 := (Below.heap_alloc w3 (.cells #[.int .i64 0, .int .i64 a] 30) _ z3').trans hb13
    have HQ4 := hid (And.intro q4 hb14)
    have HPF := hid hPf
    clear hb03 hb13 hb14 hb0 hb1 q2 q3 q4 hPf
    go_wp2
    go_loopw [5, 18] (fun sv i wr => ∃ (j : Nat) (ps : List Ls), j ≤ l.length ∧ i = .int .i64 j ∧ MkS w l j sv ps wr) (fun _ i _ => l.length - (intOf i).toNat)
    case atStart =>
      exact ⟨0, [], Nat.zero_le _, rfl, ⟨⟨World.ownsRow_nil _ _ _ _, rfl, fun p hp => by simp at hp⟩, rfl, HQ4.out.1.low, HQ4.out.2⟩⟩
    case round =>
      obtain ⟨j, ps, hj, rfl, hM⟩ := hrel
      have hzw := lt_of_block hM.box
      have hB := hM.low
      by_cases hlt : j < l.length
      · obtain ⟨bb, oo, rfl, dh, ca, cc, ds, hk⟩ := HF.out.get j hlt
        obtain ⟨d0, d1, d2⟩ := head_kept (low_kept hB) dh
        have dsk := low_kept hB _ _ ds
        have hus := size_get l j hlt
        have hO := HO.out l[j] (List.getElem_mem hlt)
        have HN := hid (funs_take l j hlt)
        generalize l[j] = u at *
        obtain ⟨sa, sc, hsv⟩ := owns_shape hM.made.row
        subst hsv
        obtain ⟨A, hA⟩ : ∃ A, A = (wr.alloc (.cells #[.int .i64 u.kind, .int .i64 u.k, .int .i64 u.n, .slice ca u.l.length cc] 38)).alloc (.cells #[.slice none 0 0] 47) := ⟨_, rfl⟩
        have qA : Quiet wr A := by rw [hA]; exact (Kp.alloc _ _).trans (Kp.alloc _ _)
        have hLA : Lst (wr.heap.size + 1) [] A := by rw [hA]; have := lst_new (wr.alloc (.cells #[.int .i64 u.kind, .int .i64 u.k, .int .i64 u.n, .slice ca u.l.length cc] 38)); simpa using this
        have hBA : Below w.heap.size w A := low_of hB qA hB.size
        have HL := hid (lexpr_any w (wr.heap.size + 1) u ca cc [] A hk hO hBA (by have := hB.size; omega) hLA (by simp; omega))
        rw [List.nil_append, List.length_nil, hA] at HL
        have hul := code_len u 0
        have HA := hid (And.intro hA (And.intro qA hBA))
        have HM := hid hM
        have hBs := hB.size
        clear dh ds hk hM hB k0 k1 k2 k3 hA qA hLA hBA hO
        go_wp2_with (first
          | (at_builtin; refine wpList_append_lies _ rfl (.tmp 26) (.tmp 29) 28 rfl (w.heap.size + 2) 41 i0 _ 1 24 Try.undLs hi hz0 hz1 hz2 rfl (by decide) _ j (ps.map lsv) rfl (HM5.out.made.row.alloc _) ⟨w5.heap.size, 0, none⟩ 1 1 [.slice fa fn fc] rfl rfl (news_at w5 _ 41) (by simp [Value.oneCell']) (by decide) (by unfold maxLen; omega) (by omega) (by simp; omega) _ rfl ?_; intro g2 cap2 w6 hr6 hg6 hat hlt6; have HD := hid (HM5.out.step (p := (funC u, fa, fc)) HN.out rfl HR5.out.1 (by rw [HR5.out.2]; exact hr6) hg6); clear hr6 hg6 hat hlt6)
          | (go_at_call 17; refine (lput_any _ _ ⟨105, 0, 0⟩ _ h4 (by omega)).mono ?_; rintro e w5 ⟨rfl, h5, k5⟩; have HM5 := hid (HM.out.mid HA.out.2.1 (k4.trans k5)); obtain ⟨fa, fc, y1, y2⟩ := h5; obtain ⟨fn, hfn⟩ : ∃ n, (u.code 0 ++ [(⟨105, 0, 0⟩ : Ik)]).length = n := ⟨_, rfl⟩; have HR5 := hid (And.intro (show w5.ownsRow (w.heap.size + 2) 42 3 (lsv (funC u, fa, fc)) (funC u).length (insC (funC u)) from owns_mono y2 (by omega)) (show lsv (funC u, fa, fc) = .slice fa fn fc by rw [← hfn]; rfl)); rw [hfn] at y1; have y3 := mod_cell y1; have y4 := lt_of_block y1; clear y1 y2 hfn)
          | (go_at_call 16; refine HL.out.mono ?_; rintro e w4 ⟨rfl, h4, k4⟩; rw [← HA.out.1] at k4))
        exact ⟨⟨j + 1, _, by omega, by go_num, HD.out⟩, by simp [intOf]; omega⟩
      · have hjl : j = l.length := by omega
        subst hjl
        obtain ⟨sa, sc, hsv⟩ := owns_shape hM.made.row
        subst hsv
        obtain ⟨r0, r1, r2, r3⟩ := fault_cells hM.box
        have HM := hid hM
        clear hM hB k0 k1 k2 k3
        go_wp2
        refine bodyPost_ret (v := .tuple #[.slice sa l.length sc, .agg #[.int .i64 0, .int .i64 0]]) (by simp [results, Try.results8, go_sem, r0, r1]) rfl ?_
        refine ⟨(0, a), HPF.out, (quiet_of HM.out.low).fresh (far_two w _ _ _ _ (by omega)), .inr ⟨rfl, sa, sc, ps, rfl, ?_, ?_⟩⟩
        · exact (HM.out.made.kept (at_two _ _ _ _) fun k h _ => by omega).mono (by omega)
        · have := HM.out.funs
          rwa [List.take_length] at this
  · have hz1 : (c != 0) = true := by simpa using hc
    have HPF := hid (And.intro hPf hc)
    clear hb03 hb13 hb0 hb1 hPf hc
    go_wp2
    go_region
    all_goals
      go_wp2
      refine bodyPost_ret (v := .tuple #[.slice none 0 0, .agg #[.int .i64 c, .int .i64 a]]) (by simp [results, Try.results8, go_sem, k0, k1, z3']) rfl ?_
      exact ⟨(c, a), HPF.out.1, q23.fresh ((far_two w _ _ _ _ (by omega)).trans ((Kp.alloc _ _).trans (Kp.drew _))), .inl ⟨HPF.out.2, rfl⟩⟩
end Go.Proofs.Ytjcniiojcigefad
