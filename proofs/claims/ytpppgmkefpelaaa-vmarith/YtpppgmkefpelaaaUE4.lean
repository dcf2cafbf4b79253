/- What Check does in memory whose blocks may be marked: where it tells no fault, nothing is wrong with what stands by itself. The contract of Make, whatever is told of Check. Make of what is in memory of its own, and of what came in; the laws' own beginning. Where instructions go, which names are open at each, how many steps there are. -/
import Derived.Test.YtpppgmkefpelaaaUE2
import Derived.Test.YtpppgmkefpelaaaUE3
import Derived.Test.YtpppgmkefpelaaaUE0
namespace Go.Proofs.Ytpppgmkefpelaaa.Ex
open Go.ChangeShapes Go.WideShapes Go.ChangeAt Go.RowKit
end Go.Proofs.Ytpppgmkefpelaaa.Ex
namespace Go.Proofs.Ytpppgmkefpelaaa.Ex
open Go.ChangeShapes Go.WideShapes Go.ChangeAt Go.RowKit
theorem Try.infoLs : (Try.prog.info? 54).map (fun i => (i.zero, i.size, i.bytes)) = some (some (.slice none 0 0), 1, 24) := by kernel_rfl
theorem Try.undLs : Try.prog.underlying 27 = some (.slice 54) := by kernel_rfl
/-- Instructions and where they lie. -/
abbrev Ls := List Ik × Option Addr × Nat
def lsv (x : Ls) : Value := .slice x.2.1 x.1.length x.2.2
/-- Lists of instructions in a row of their own. -/
structure Md (B : Nat) (w : World) (sv : Value) (n : Nat) (ps : List Ls) : Prop where
  row : w.ownsRow B 54 1 sv n (ps.map lsv)
  len : n = ps.length
  all : ∀ p ∈ ps, w.ownsRow B 60 3 (lsv p) p.1.length (insC p.1)
theorem Md.kept {B : Nat} {w w' : World} {sv : Value} {n : Nat} {ps : List Ls} {F : Nat → Prop} (h : Md B w sv n ps) (q : Kp F w w') (hF : ∀ k, B ≤ k → k < w.heap.size → ¬ F k) : Md B w' sv n ps :=
  ⟨q.row h.row fun k e => hF k (h.row.lt k e).1 (h.row.lt k e).2, h.len, fun p hp => q.row (h.all p hp) fun k e => hF k ((h.all p hp).lt k e).1 ((h.all p hp).lt k e).2⟩
theorem Md.quiet {B : Nat} {w w' : World} {sv : Value} {n : Nat} {ps : List Ls} (h : Md B w sv n ps) (q : Quiet w w') : Md B w' sv n ps := h.kept q fun _ _ _ e => e
theorem Md.mono {B B' : Nat} {w : World} {sv : Value} {n : Nat} {ps : List Ls} (h : Md B w sv n ps) (hB : B' ≤ B) : Md B' w sv n ps := ⟨owns_mono h.row hB, h.len, fun p hp => owns_mono (h.all p hp) hB⟩
theorem below_kp {b : Nat} {w w' : World} (h : Below b w w') : Kp (fun k => b ≤ k) w w' := ⟨h.os, h.tape, h.output, h.size, fun k _ hk => h.block k (by omega)⟩
theorem rows_apart {w : World} {B B' s s' n n' : Nat} {e e' : TypeId} {v v' : Value} {xs xs' : List Value} (h : w.ownsRow B e s v n xs) (h' : w.ownsRow B' e' s' v' n' xs') (he : e ≠ e') (k : Nat) (hk : v.ownBlock = some k) : v'.ownBlock ≠ some k := by
  intro hk'
  rcases h.2 with ⟨rfl, _⟩ | ⟨g, cap, cur, rfl, _, hg, _⟩
  · simp [Value.ownBlock] at hk
  · rcases h'.2 with ⟨rfl, _⟩ | ⟨g', cap', cur', rfl, _, hg', _⟩
    · simp [Value.ownBlock] at hk'
    · simp [Value.ownBlock] at hk hk'
      subst hk
      rw [hk', hg] at hg'
      simp at hg'
      exact he hg'.2
theorem md_push {B g cap m : Nat} {w w' : World} {sv : Value} {ps : List Ls} {p : Ls} {o : Obj} (M : Md B w sv m ps) (hp : w.ownsRow B 60 3 (lsv p) p.1.length (insC p.1))
    (hr : w'.ownsRow B 54 1 (.slice (some ⟨g, 0, none⟩) (m + 1) cap) (m + 1) (ps.map lsv ++ [lsv p])) (hg : (w.alloc o).grownBy w' sv.ownBlock) : Md B w' (.slice (some ⟨g, 0, none⟩) (m + 1) cap) (m + 1) (ps ++ [p]) := by
  have hk : ∀ x : Ls, w.ownsRow B 60 3 (lsv x) x.1.length (insC x.1) → w'.ownsRow B 60 3 (lsv x) x.1.length (insC x.1) := by
    intro x hx
    have q : Kp (fun k => some k = sv.ownBlock) w w' := (Kp.alloc w o).trans (Kp.grown hg fun k _ e => e)
    exact q.row hx fun k e e' => rows_apart hx M.row (by decide) k e e'.symm
  refine ⟨by simpa using hr, by rw [List.length_append, M.len]; rfl, fun x hx => ?_⟩
  rcases List.mem_append.1 hx with hx | hx
  · exact hk x (M.all x hx)
  · simp at hx; subst hx; exact hk _ hp
/-- What Make tells, if Check told such a fault. -/
def MakeQ (P : Int × Int → Prop) (l : List V) (w : World) (e : Ending) (w' : World) : Prop := ∃ f : Int × Int, P f ∧ Quiet w w' ∧
  ((f.1 ≠ 0 ∧ e = .returned (.tuple #[.slice none 0 0, .agg #[.int .i64 f.1, .int .i64 f.2]])) ∨
   (f.1 = 0 ∧ ∃ ao cap ps, e = .returned (.tuple #[.slice ao l.length cap, .agg #[.int .i64 0, .int .i64 0]]) ∧ Md w.heap.size w' (.slice ao l.length cap) l.length ps ∧ ps.map (·.1) = l.map funC))
theorem funs_take (l : List V) (j : Nat) (h : j < l.length) : (l.take (j + 1)).map funC = (l.take j).map funC ++ [funC l[j]] := by rw [take_snoc l j h, List.map_append]; rfl
theorem far_set (w0 w : World) (x o : Nat) (y : Value) (h : w0.heap.size ≤ x) : Kp (fun i => w0.heap.size ≤ i) w (w.setCell ⟨x, o, none⟩ y) := Kp.setCell w ⟨x, o, none⟩ y h
theorem far_two (w0 w : World) (x : Nat) (y z : Value) (h : w0.heap.size ≤ x) : Kp (fun i => w0.heap.size ≤ i) w ((w.setCell ⟨x, 0, none⟩ y).setCell ⟨x, 1, none⟩ z) := (far_set w0 _ x 0 y h).trans (far_set w0 _ x 1 z h)
theorem at_two (w : World) (x : Nat) (y z : Value) : Kp (fun i => i = x) w ((w.setCell ⟨x, 0, none⟩ y).setCell ⟨x, 1, none⟩ z) := (kp_set w x 0 y).trans (kp_set _ x 1 z)
/-- The state of Make's loop. -/
structure MkS (w : World) (l : List V) (j : Nat) (sv : Value) (ps : List Ls) (wr : World) : Prop where
  made : Md (w.heap.size + 2) wr sv j ps
  funs : ps.map (·.1) = (l.take j).map funC
  low : Below w.heap.size w wr
  box : wr.heap[w.heap.size + 1]? = some (.cells #[.int .i64 0, .int .i64 0] 29 (0, 0))
theorem MkS.mid {w wr A w5 : World} {l : List V} {j : Nat} {sv : Value} {ps : List Ls} (H : MkS w l j sv ps wr) (q : Quiet wr A) (k : KI (wr.heap.size + 1) A w5) : MkS w l j sv ps w5 := by
  have kp : Kp (fun k => wr.heap.size + 1 ≤ k) wr w5 := (q.mono fun _ _ e => e.elim).trans (below_kp k.low)
  have hz := lt_of_block H.box
  refine ⟨H.made.kept kp fun k _ h => by omega, H.funs, H.low.trans (kp.below H.low.size fun k hk => by have := H.low.size; omega), ?_⟩
  rw [kp.block _ hz (by omega)]; exact H.box
theorem MkS.step {w w5 w6 : World} {l : List V} {j g cap : Nat} {sv : Value} {ps : List Ls} {u : V} {p : Ls} {o : Obj} (H : MkS w l j sv ps w5) (hN : (l.take (j + 1)).map funC = (l.take j).map funC ++ [funC u]) (hp : p.1 = funC u) (hr5 : w5.ownsRow (w.heap.size + 2) 60 3 (lsv p) p.1.length (insC p.1))
    (hr : w6.ownsRow (w.heap.size + 2) 54 1 (.slice (some ⟨g, 0, none⟩) (j + 1) cap) (j + 1) (ps.map lsv ++ [lsv p])) (hg : (w5.alloc o).grownBy w6 sv.ownBlock) : MkS w l (j + 1) (.slice (some ⟨g, 0, none⟩) (j + 1) cap) (ps ++ [p]) w6 := by
  have hz := lt_of_block H.box
  have kp : Kp (fun k => w.heap.size + 2 ≤ k) w5 w6 := (Kp.alloc w5 o).trans (Kp.grown hg fun k _ e => (H.made.row.lt k e.symm).1)
  refine ⟨md_push H.made hr5 hr hg, ?_, H.low.trans (kp.below H.low.size fun k hk => by omega), ?_⟩
  · rw [List.map_append, H.funs, hN, List.map_singleton, hp]
  · rw [kp.block _ hz (by omega)]; exact H.box
set_option maxRecDepth 8000 in
set_option maxHeartbeats 4000000 in
theorem make_of (l : List V) (ao : Option Addr) (cap : Nat) (w : World) (hF : Fo w l ao) (hS : sizes l ≤ 20000) (P : Int × Int → Prop) (hP1 : ∀ f, P f → f.1 = 0 → ∀ v ∈ l, Ok v)
    (hC : ∀ w1, Quiet w w1 → Calls Try.prog 14 #[.agg #[.slice ao l.length cap]] w1 fun e w' => ∃ f : Int × Int, e = .returned (.agg #[.int .i64 f.1, .int .i64 f.2]) ∧ P f ∧ Quiet w1 w') :
    Calls Try.prog 8 #[.agg #[.slice ao l.length cap]] w fun e w' => MakeQ P l w e w' := by
  obtain ⟨i0, hi, hz0, hz1, hz2⟩ := info_parts' Try.infoLs
  have q2 : Quiet w ((w.alloc (.cells #[.slice ao l.length cap] 37)).alloc (.cells #[.int .i64 0, .int .i64 0] 29)) := (Kp.alloc _ _).trans (Kp.alloc _ _)
  have hb0 : ((w.alloc (.cells #[.slice ao l.length cap] 37)).alloc (.cells #[.int .i64 0, .int .i64 0] 29)).heap[w.heap.size]? = some (.cells #[.slice ao l.length cap] 37 (0, 0)) := by
    rw [Below.heap_alloc _ _ _ (by simp)]; exact heap_alloc_new w _
  have hb1 := heap_two w (.cells #[.slice ao l.length cap] 37) (.cells #[.int .i64 0, .int .i64 0] 29)
  have hll := sizes_len l
  have hl5 : l.length ≤ 20000 := by omega
  have HC := hid (hC _ q2)
  have HF := hid hF
  have HP := hid hP1
  clear hC hF hP1
  go_enter Try.func8, Try.ntmps8
  go_wp2_with (go_at_call 14; refine HC.out.mono ?_)
  rintro e w3 ⟨⟨c, a⟩, rfl, hPf, q3⟩
  simp only
  have hb03 := (q3.block _ (lt_of_block hb0) fun e => e).trans hb0
  have hb13 := (q3.block _ (lt_of_block hb1) fun e => e).trans hb1
  have x0 := mod_cell hb03
  obtain ⟨k0, k1, k2, k3⟩ := fault_cells hb13
  have z3 : w.heap.size < w3.heap.size := lt_of_block hb03
  have z3' : w.heap.size + 1 < w3.heap.size := lt_of_block hb13
  have q23 := q2.trans q3
  by_cases hc : c = 0
  · subst hc
    have HO := hid (HP.out _ hPf rfl)
    have q4 : Quiet w (w3.alloc (.cells #[.int .i64 0, .int .i64 a] 29)) := q23.trans (Kp.alloc _ _)
    have hb14 := (Below.heap_alloc w3 (.cells #[.int .i64 0, .int .i64 a] 29) _ z3').trans hb13
    have HQ4 := hid (And.intro q4 hb14)
    have HPF := hid hPf
    clear hb03 hb13 hb14 hb0 hb1 q2 q3 q4 hPf
    go_wp2
    go_loopw [5, 18] (fun sv i wr => ∃ (j : Nat) (ps : List Ls), j ≤ l.length ∧ i = .int .i64 j ∧ MkS w l j sv ps wr) (fun _ i _ => l.length - (intOf i).toNat)
    case atStart =>
      exact ⟨0, [], Nat.zero_le _, rfl, ⟨⟨World.ownsRow_nil _ _ _ _, rfl, fun p hp => by simp at hp⟩, rfl, HQ4.out.1.low, HQ4.out.2⟩⟩
    case round =>
      obtain ⟨j, ps, hj, rfl, hM⟩ := hrel
      have hzw := lt_of_block hM.box
      have hB := hM.low
      by_cases hlt : j < l.length
      · obtain ⟨bb, oo, rfl, dh, ca, cc, ds, hk⟩ := HF.out.get j hlt
        obtain ⟨d0, d1, d2⟩ := head_kept (low_kept hB) dh
        have dsk := low_kept hB _ _ ds
        have hus := size_get l j hlt
        have hO := HO.out l[j] (List.getElem_mem hlt)
        have HN := hid (funs_take l j hlt)
        generalize l[j] = u at *
        obtain ⟨sa, sc, hsv⟩ := owns_shape hM.made.row
        subst hsv
        obtain ⟨A, hA⟩ : ∃ A, A = (wr.alloc (.cells #[.int .i64 u.kind, .int .i64 u.k, .int .i64 u.n, .slice ca u.l.length cc] 34)).alloc (.cells #[.slice none 0 0] 56) := ⟨_, rfl⟩
        have qA : Quiet wr A := by rw [hA]; exact (Kp.alloc _ _).trans (Kp.alloc _ _)
        have hLA : Lst (wr.heap.size + 1) [] A := by rw [hA]; have := lst_new (wr.alloc (.cells #[.int .i64 u.kind, .int .i64 u.k, .int .i64 u.n, .slice ca u.l.length cc] 34)); simpa using this
        have hBA : Below w.heap.size w A := low_of hB qA hB.size
        have HL := hid (lexpr_any w (wr.heap.size + 1) u ca cc [] A hk hO hBA (by have := hB.size; omega) hLA (by simp; omega))
        rw [List.nil_append, List.length_nil, hA] at HL
        have hul := code_len u 0
        have HA := hid (And.intro hA (And.intro qA hBA))
        have HM := hid hM
        have hBs := hB.size
        clear dh ds hk hM hB k0 k1 k2 k3 hA qA hLA hBA hO
        go_wp2_with (first
          | (at_builtin; refine wpList_append_lies _ rfl (.tmp 26) (.tmp 29) 27 rfl (w.heap.size + 2) 54 i0 _ 1 24 Try.undLs hi hz0 hz1 hz2 rfl (by decide) _ j (ps.map lsv) rfl (HM5.out.made.row.alloc _) ⟨w5.heap.size, 0, none⟩ 1 1 [.slice fa fn fc] rfl rfl (news_at w5 _ 54) (by simp [Value.oneCell']) (by decide) (by unfold maxLen; omega) (by omega) (by simp; omega) _ rfl ?_; intro g2 cap2 w6 hr6 hg6 hat hlt6; have HD := hid (HM5.out.step (p := (funC u, fa, fc)) HN.out rfl HR5.out.1 (by rw [HR5.out.2]; exact hr6) hg6); clear hr6 hg6 hat hlt6)
          | (go_at_call 16; refine (lput_any _ _ ⟨105, 0, 0⟩ _ h4 (by omega)).mono ?_; rintro e w5 ⟨rfl, h5, k5⟩; have HM5 := hid (HM.out.mid HA.out.2.1 (k4.trans k5)); obtain ⟨fa, fc, y1, y2⟩ := h5; obtain ⟨fn, hfn⟩ : ∃ n, (u.code 0 ++ [(⟨105, 0, 0⟩ : Ik)]).length = n := ⟨_, rfl⟩; have HR5 := hid (And.intro (show w5.ownsRow (w.heap.size + 2) 60 3 (lsv (funC u, fa, fc)) (funC u).length (insC (funC u)) from owns_mono y2 (by omega)) (show lsv (funC u, fa, fc) = .slice fa fn fc by rw [← hfn]; rfl)); rw [hfn] at y1; have y3 := mod_cell y1; have y4 := lt_of_block y1; clear y1 y2 hfn)
          | (go_at_call 15; refine HL.out.mono ?_; rintro e w4 ⟨rfl, h4, k4⟩; rw [← HA.out.1] at k4))
        exact ⟨⟨j + 1, _, by omega, by go_num, HD.out⟩, by simp [intOf]; omega⟩
      · have hjl : j = l.length := by omega
        subst hjl
        obtain ⟨sa, sc, hsv⟩ := owns_shape hM.made.row
        subst hsv
        obtain ⟨r0, r1, r2, r3⟩ := fault_cells hM.box
        have HM := hid hM
        clear hM hB k0 k1 k2 k3
        go_wp2
        refine bodyPost_ret (v := .tuple #[.slice sa l.length sc, .agg #[.int .i64 0, .int .i64 0]]) (by simp [results, Try.results8, go_sem, r0, r1]) rfl ?_
        refine ⟨(0, a), HPF.out, (quiet_of HM.out.low).fresh (far_two w _ _ _ _ (by omega)), .inr ⟨rfl, sa, sc, ps, rfl, ?_, ?_⟩⟩
        · exact (HM.out.made.kept (at_two _ _ _ _) fun k h _ => by omega).mono (by omega)
        · have := HM.out.funs
          rwa [List.take_length] at this
  · have hz1 : (c != 0) = true := by simpa using hc
    have HPF := hid (And.intro hPf hc)
    clear hb03 hb13 hb0 hb1 hPf hc
    go_wp2
    go_region
    all_goals
      go_wp2
      refine bodyPost_ret (v := .tuple #[.slice none 0 0, .agg #[.int .i64 c, .int .i64 a]]) (by simp [results, Try.results8, go_sem, k0, k1, z3']) rfl ?_
      exact ⟨(c, a), HPF.out.1, q23.fresh ((far_two w _ _ _ _ (by omega)).trans ((Kp.alloc _ _).trans (Kp.drew _))), .inl ⟨HPF.out.2, rfl⟩⟩
end Go.Proofs.Ytpppgmkefpelaaa.Ex
namespace Go.Proofs.Ytpppgmkefpelaaa.Ex
open Go.ChangeShapes Go.WideShapes Go.ChangeAt Go.RowKit
theorem funs_ok (F : Int) (l : List V) : ∀ i, (funs F l i).1 = 0 → ∀ v ∈ l, fun1 F v = 0 := by
  induction l with
  | nil => intro i _ v hv; simp at hv
  | cons x l ih =>
    intro i h v hv
    rw [funs] at h
    by_cases h0 : fun1 F x = 0
    · rw [if_pos h0] at h
      rcases List.mem_cons.1 hv with rfl | hv
      · exact h0
      · exact ih _ h v hv
    · rw [if_neg h0] at h; exact absurd h h0
theorem fun1_ok {F : Int} {v : V} (h : fun1 F v = 0) : v.bad F 0 = 0 := by
  unfold fun1 at h
  by_cases h1 : 30 < v.deep
  · rw [if_pos h1] at h; cases h
  · rw [if_neg h1] at h
    by_cases h2 : 120 < v.size
    · rw [if_pos h2] at h; cases h
    · rwa [if_neg h2] at h
theorem modFault_ok {l : List V} (h : (modFault l).1 = 0) : ∀ v ∈ l, Ok v := by
  unfold modFault at h
  by_cases h1 : l.length < 1 ∨ 6 < l.length
  · rw [if_pos h1] at h; cases h
  · rw [if_neg h1] at h
    exact fun v hv => ⟨_, 0, fun1_ok (funs_ok _ l 0 h v hv)⟩
theorem make_any (l : List V) (ao : Option Addr) (cap : Nat) (w : World) (hF : Fo (cln w) l ao) (hS : sizes l ≤ 20000) :
    Calls Try.prog 8 #[.agg #[.slice ao l.length cap]] w fun e w' => MakeQ (fun f => f = modFault l) l w e w' := by
  refine make_of l ao cap w hF.unclean hS (fun f => f = modFault l) (fun f hf h0 => modFault_ok (hf ▸ h0)) fun w1 q => ?_
  refine (check_any l ao cap w1 (hF.cleanQ q) hS).mono ?_
  rintro e w' ⟨he, q'⟩
  exact ⟨modFault l, he, rfl, q'⟩
/-- The cells of a list among those that were made. -/
theorem Md.get {B : Nat} {w : World} {ao : Option Addr} {n cap : Nat} {ps : List Ls} (h : Md B w (.slice ao n cap) n ps) (j : Nat) (c : List Ik) (hc : (ps.map (·.1))[j]? = some c) :
    ∃ g fa fc, ao = some ⟨g, 0, none⟩ ∧ w.cell? ⟨g, j, none⟩ = some (.slice fa c.length fc) ∧ w.ownsRow B 60 3 (.slice fa c.length fc) c.length (insC c) := by
  rw [List.getElem?_map] at hc
  obtain ⟨p, hp, rfl⟩ : ∃ p, ps[j]? = some p ∧ p.1 = c := by
    cases e : ps[j]? with
    | none => rw [e] at hc; simp at hc
    | some p => rw [e] at hc; exact ⟨p, rfl, by simpa using hc⟩
  obtain ⟨hj, hp2⟩ := List.getElem?_eq_some_iff.1 hp
  have hl := h.len
  obtain ⟨g, e, d⟩ := owns_at h.row (by omega)
  refine ⟨g, p.2.1, p.2.2, e, ?_, h.all p (hp2 ▸ List.getElem_mem hj)⟩
  rw [d j (by omega), List.getElem?_map, hp]; rfl
def cv : V := ⟨2, 0, 5, []⟩
theorem in_small (z : Int) (h : 0 ≤ z ∧ z ≤ 100) : In64 z := ⟨by omega, by omega⟩
theorem num_any (n : Int) (w : World) : Calls Try.prog 9 #[.int .i64 n] w fun e w' => e = .returned (.agg #[.int .i64 2, .int .i64 0, .int .i64 n, .slice none 0 0]) ∧ Quiet w w' := by
  go_enter Try.func9, Try.ntmps9
  go_wp2
  refine bodyPost_ret (v := .agg #[.int .i64 2, .int .i64 0, .int .i64 n, .slice none 0 0]) (by simp [results, Try.results9, go_sem]) rfl ?_
  exact ⟨rfl, Kp.alloc _ _⟩
theorem cell_on {w : World} {a : Addr} {x : Value} (h : w.cell? a = some x) (o : Obj) : (w.alloc o).cell? a = some x := (Kp.alloc (F := fun _ => False) w o).cell h fun e => e
end Go.Proofs.Ytpppgmkefpelaaa.Ex
namespace Go.Proofs.Ytpppgmkefpelaaa.Ex
/-- The names that are open behind an instruction. -/
def openI (x : Ik) (o : Int) : Int := if x.op = 101 then o + 1 else if x.op = 102 then o - 1 else o
def tickI (x : Ik) : Int := if x.op = 100 then 1 else 0
def openL : List Ik → Int → Int
  | [], o => o
  | x :: c, o => openL c (openI x o)
def tickL : List Ik → Int
  | [] => 0
  | x :: c => tickI x + tickL c
/-- What is asked of the instruction at a place. -/
structure Good (len i : Nat) (x : Ik) (o : Int) : Prop where
  jump : x.op = 103 ∨ x.op = 104 → (i : Int) < x.k ∧ x.k < (len : Int)
  var : x.op = 4 → x.k < o
  lo : 0 ≤ openI x o
  hi : openI x o ≤ 12
  back : x.op = 105 ↔ i + 1 = len
def Goods (len : Nat) : List Ik → Nat → Int → Prop
  | [], _, _ => True
  | x :: c, i, o => Good len i x o ∧ Goods len c (i + 1) (openI x o)
theorem openL_app (a b : List Ik) : ∀ o, openL (a ++ b) o = openL b (openL a o) := by
  induction a with
  | nil => intro o; rfl
  | cons x a ih => intro o; exact ih _
theorem tickL_app (a b : List Ik) : tickL (a ++ b) = tickL a + tickL b := by
  induction a with
  | nil => simp [tickL]
  | cons x a ih => rw [List.cons_append, tickL, tickL, ih]; omega
theorem goods_app (len : Nat) (a b : List Ik) : ∀ i o, Goods len (a ++ b) i o ↔ Goods len a i o ∧ Goods len b (i + a.length) (openL a o) := by
  induction a with
  | nil => intro i o; simp [Goods, openL]
  | cons x a ih =>
    intro i o
    rw [List.cons_append, Goods, Goods, ih, List.length_cons, openL, show i + 1 + a.length = i + (a.length + 1) by omega]
    exact and_assoc.symm
theorem goods_get (len : Nat) (c : List Ik) : ∀ i o, Goods len c i o → ∀ j (h : j < c.length), Good len (i + j) c[j] (openL (c.take j) o) := by
  induction c with
  | nil => intro i o _ j h; simp at h
  | cons x c ih =>
    intro i o h j hj
    cases j with
    | zero => exact h.1
    | succ j =>
      have := ih (i + 1) (openI x o) h.2 j (by simpa using hj)
      rw [show i + 1 + j = i + (j + 1) by omega] at this
      simpa [openL] using this
/-- An instruction that does not go elsewhere, inside. -/
theorem good_of {len i : Nat} {x : Ik} {o : Int} (h3 : x.op ≠ 103 ∧ x.op ≠ 104) (h4 : x.op = 4 → x.k < o) (hl : 0 ≤ openI x o) (hh : openI x o ≤ 12) (hb : x.op ≠ 105) (hi : i + 1 < len) : Good len i x o :=
  ⟨fun h => by omega, h4, hl, hh, ⟨fun h => absurd h hb, fun h => by omega⟩⟩
theorem good_jump {len i : Nat} {x : Ik} {o : Int} (h3 : x.op = 103 ∨ x.op = 104) (hk : (i : Int) < x.k ∧ x.k < (len : Int)) (hl : 0 ≤ o) (hh : o ≤ 12) (hi : i + 1 < len) : Good len i x o := by
  have e : openI x o = o := by unfold openI; rw [if_neg (by omega), if_neg (by omega)]
  exact ⟨fun _ => hk, fun h => by omega, by rw [e]; exact hl, by rw [e]; exact hh, ⟨fun h => by omega, fun h => by omega⟩⟩
/-- What holds of the instructions of an expression. -/
def CodeGood (v : V) : Prop := ∀ (F o : Int) (p len : Nat), v.bad F o = 0 → 0 ≤ o → o ≤ 12 → p + (v.code p).length < len → Goods len (v.code p) p o ∧ openL (v.code p) o = o ∧ tickL (v.code p) = (v.size : Int)
theorem codes_good (l : List V) : (∀ x ∈ l, CodeGood x) → ∀ (F o : Int) (p len : Nat), (∀ x ∈ l, x.bad F o = 0) → 0 ≤ o → o ≤ 12 → p + (codesP l p).length < len → Goods len (codesP l p) p o ∧ openL (codesP l p) o = o ∧ tickL (codesP l p) = (sizes l : Int) := by
  induction l with
  | nil => intro _ F o p len _ _ _ _; rw [codesP_nil, sizes_nil]; exact ⟨trivial, rfl, rfl⟩
  | cons x l ih =>
    intro hx F o p len hb h0 h12 hp
    rw [codesP_cons, List.length_append] at hp
    obtain ⟨g1, g2, g3⟩ := hx x (by simp) F o p len (hb x (by simp)) h0 h12 (by omega)
    obtain ⟨k1, k2, k3⟩ := ih (fun y hy => hx y (by simp [hy])) F o (p + (x.code p).length) len (fun y hy => hb y (by simp [hy])) h0 h12 (by omega)
    rw [codesP_cons, goods_app, openL_app, tickL_app, g2, g3, k3, sizes_cons]
    exact ⟨⟨g1, k1⟩, k2, by simp⟩
theorem bads_same {F kind : Int} {l : List V} {o : Int} (hk : kind ≠ 5) : ∀ {i : Nat}, bads F kind l i o = 0 → ∀ x ∈ l, x.bad F o = 0 := by
  induction l with
  | nil => intro i _ x hx; simp at hx
  | cons v l ih =>
    intro i h x hx
    obtain ⟨h1, h2⟩ := bads_one h
    rw [opens, if_neg (by omega)] at h1
    rcases List.mem_cons.1 hx with rfl | hx
    · exact h1
    · exact ih h2 x hx
theorem code_good (v : V) : CodeGood v := by
  induction v using V.ind' with
  | h v ih =>
    intro F o p len hb h0 h12 hp
    obtain ⟨hf, hbs⟩ := bad_one hb
    obtain ⟨hk, _, h4, h5⟩ := fault_facts hf
    have tick : Good len p ⟨100, 0, 0⟩ o := good_of (by decide) (fun h => by simp at h) h0 h12 (by decide) (by have := code_pos v p; omega)
    have opn : openI ⟨100, 0, 0⟩ o = o := rfl
    by_cases e5 : v.kind = 5
    · obtain ⟨a, b, hl⟩ := Ok.two ⟨F, o, hb⟩ e5
      have ho := h5 e5
      rw [hl, e5] at hbs
      obtain ⟨ba, hbs⟩ := bads_one hbs
      obtain ⟨bb, _⟩ := bads_one hbs
      rw [opens, if_neg (by omega)] at ba
      rw [opens, if_pos ⟨rfl, rfl⟩] at bb
      rw [code_let e5 hl] at hp ⊢
      unfold letC at hp ⊢
      simp only [List.length_append, List.length_singleton] at hp
      obtain ⟨g1, g2, g3⟩ := ih a (by simp [hl]) F o (p + 1) len ba h0 h12 (by omega)
      obtain ⟨k1, k2, k3⟩ := ih b (by simp [hl]) F (o + 1) (p + 1 + (a.code (p + 1)).length + 1) len bb (by omega) (by omega) (by omega)
      have o1 : openI ⟨101, 0, 0⟩ o = o + 1 := rfl
      have o2 : openI ⟨102, 0, 0⟩ (o + 1) = o := by show o + 1 - 1 = o; omega
      simp only [goods_app, openL_app, tickL_app, Goods, openL, tickL, tickI, g2, g3, k2, k3, opn, o1, o2, List.length_singleton]
      refine ⟨⟨⟨tick, trivial⟩, g1, ⟨good_of (by decide) (fun h => by simp at h) (by rw [o1]; omega) (by rw [o1]; omega) (by decide) (by omega), trivial⟩, k1, good_of (by decide) (fun h => by simp at h) (by rw [o2]; omega) (by rw [o2]; omega) (by decide) (by omega), trivial⟩, ?_⟩
      rw [size_eq v, hl, sizes_cons, sizes_cons, sizes_nil]
      refine ⟨trivial, ?_⟩
      simp
    · by_cases e7 : v.kind = 7
      · obtain ⟨a, b, c, hl⟩ := Ok.three ⟨F, o, hb⟩ e7
        have hall := bads_same e5 hbs
        rw [hl] at hall
        rw [code_if e7 hl] at hp ⊢
        unfold ifC at hp ⊢
        simp only [List.length_append, List.length_singleton] at hp
        have hE : elseAt a b (p + 1) = p + 1 + (a.code (p + 1)).length + 1 + (b.code (p + 1 + (a.code (p + 1)).length + 1)).length + 1 := rfl
        obtain ⟨g1, g2, g3⟩ := ih a (by simp [hl]) F o (p + 1) len (hall a (by simp)) h0 h12 (by omega)
        obtain ⟨k1, k2, k3⟩ := ih b (by simp [hl]) F o (p + 1 + (a.code (p + 1)).length + 1) len (hall b (by simp)) h0 h12 (by omega)
        obtain ⟨m1, m2, m3⟩ := ih c (by simp [hl]) F o (elseAt a b (p + 1)) len (hall c (by simp)) h0 h12 (by omega)
        have o1 : ∀ x, openI ⟨103, x, 0⟩ o = o := fun _ => rfl
        have o2 : ∀ x, openI ⟨104, x, 0⟩ o = o := fun _ => rfl
        simp only [goods_app, openL_app, tickL_app, Goods, openL, tickL, tickI, g2, g3, k2, k3, m2, m3, opn, o1, o2, List.length_singleton]
        refine ⟨⟨⟨tick, trivial⟩, g1, ⟨good_jump (.inl rfl) (by constructor <;> simp only <;> omega) h0 h12 (by omega), trivial⟩, k1, ⟨good_jump (.inr rfl) (by constructor <;> simp only <;> omega) h0 h12 (by omega), trivial⟩, ?_⟩, trivial, ?_⟩
        · rw [show p + 1 + (a.code (p + 1)).length + 1 + (b.code (p + 1 + (a.code (p + 1)).length + 1)).length + 1 = elseAt a b (p + 1) from rfl]; exact m1
        · rw [size_eq v, hl, sizes_cons, sizes_cons, sizes_cons, sizes_nil]
          simp
      · have hall := bads_same e5 hbs
        rw [code_other e5 e7] at hp ⊢
        simp only [List.length_append, List.length_singleton] at hp
        obtain ⟨g1, g2, g3⟩ := codes_good v.l ih F o (p + 1) len hall h0 h12 (by omega)
        have o1 : openI ⟨v.kind, v.k, v.n⟩ o = o := by unfold openI; rw [if_neg (by simp only; omega), if_neg (by simp only; omega)]
        have t1 : tickI ⟨v.kind, v.k, v.n⟩ = 0 := by unfold tickI; rw [if_neg (by simp only; omega)]
        have t0 : tickI ⟨100, 0, 0⟩ = 1 := rfl
        simp only [goods_app, openL_app, tickL_app, Goods, openL, tickL, t0, t1, g2, g3, opn, o1, List.length_singleton]
        refine ⟨⟨⟨tick, trivial⟩, g1, good_of (by simp only; omega) h4 (by rw [o1]; exact h0) (by rw [o1]; exact h12) (by simp only; omega) (by omega), trivial⟩, trivial, ?_⟩
        rw [size_eq v]
        simp
theorem fun_good {v : V} {F : Int} (h : v.bad F 0 = 0) : Goods (funC v).length (funC v) 0 0 ∧ openL (funC v) 0 = 0 ∧ tickL (funC v) = (v.size : Int) := by
  have hl : (funC v).length = (v.code 0).length + 1 := by simp [funC]
  obtain ⟨g1, g2, g3⟩ := code_good v F 0 0 (funC v).length h (by decide) (by decide) (by omega)
  rw [hl] at g1 ⊢
  unfold funC
  simp only [goods_app, openL_app, tickL_app, Goods, openL, tickL, g2, g3]
  refine ⟨⟨g1, ⟨fun h => by simp at h, fun h => by simp at h, by decide, by decide, ⟨fun _ => by omega, fun _ => rfl⟩⟩, trivial⟩, rfl, by simp [tickI]⟩
end Go.Proofs.Ytpppgmkefpelaaa.Ex
