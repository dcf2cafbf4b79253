/- What Check does in memory whose blocks may be marked: where it tells no fault, nothing is wrong with what stands by itself. The contract of Make, whatever is told of Check. Make of what is in memory of its own, and of what came in; the laws' own beginning. A thing in memory of its own: it hangs on new blocks alone, none of them marked; a row of things. The document's own answer: a value in memory of its own. The document's own answer: how many, as far as one too many. -/
import Derived.Test.YtpppgmkefpelaaaGreatUE2
import Derived.Test.YtpppgmkefpelaaaGreatUE3
import Derived.Test.YtpppgmkefpelaaaGreatUE0
import Derived.Deep.RegionLaw
import Derived.Laws.ResultCell
namespace Go.Proofs.YtpppgmkefpelaaaGreat.Ex
open Go.ChangeShapes Go.WideShapes Go.ChangeAt Go.RowKit
end Go.Proofs.YtpppgmkefpelaaaGreat.Ex
namespace Go.Proofs.YtpppgmkefpelaaaGreat.Ex
open Go.ChangeShapes Go.WideShapes Go.ChangeAt Go.RowKit
theorem Tryz.infoLs : (Tryz.prog.info? 86).map (fun i => (i.zero, i.size, i.bytes)) = some (some (.slice none 0 0), 1, 24) := by kernel_rfl
theorem Tryz.undLs : Tryz.prog.underlying 44 = some (.slice 86) := by kernel_rfl
/-- Instructions and where they lie. -/
abbrev Ls := List Ik × Option Addr × Nat
def lsv (x : Ls) : Value := .slice x.2.1 x.1.length x.2.2
/-- Lists of instructions in a row of their own. -/
structure Md (B : Nat) (w : World) (sv : Value) (n : Nat) (ps : List Ls) : Prop where
  row : w.ownsRow B 86 1 sv n (ps.map lsv)
  len : n = ps.length
  all : ∀ p ∈ ps, w.ownsRow B 92 3 (lsv p) p.1.length (insC p.1)
theorem Md.kept {B : Nat} {w w' : World} {sv : Value} {n : Nat} {ps : List Ls} {F : Nat → Prop} (h : Md B w sv n ps) (q : Kp F w w') (hF : ∀ k, B ≤ k → k < w.heap.size → ¬ F k) : Md B w' sv n ps :=
  ⟨q.row h.row fun k e => hF k (h.row.lt k e).1 (h.row.lt k e).2, h.len, fun p hp => q.row (h.all p hp) fun k e => hF k ((h.all p hp).lt k e).1 ((h.all p hp).lt k e).2⟩
theorem Md.quiet {B : Nat} {w w' : World} {sv : Value} {n : Nat} {ps : List Ls} (h : Md B w sv n ps) (q : Quiet w w') : Md B w' sv n ps := h.kept q fun _ _ _ e => e
theorem Md.mono {B B' : Nat} {w : World} {sv : Value} {n : Nat} {ps : List Ls} (h : Md B w sv n ps) (hB : B' ≤ B) : Md B' w sv n ps := ⟨owns_mono h.row hB, h.len, fun p hp => owns_mono (h.all p hp) hB⟩
theorem below_kp {b : Nat} {w w' : World} (h : Below b w w') : Kp (fun k => b ≤ k) w w' := ⟨h.os, h.tape, h.output, h.size, fun k _ hk => h.block k (by omega)⟩
theorem rows_apart {w : World} {B B' s s' n n' : Nat} {e e' : TypeId} {v v' : Value} {xs xs' : List Value} (h : w.ownsRow B e s v n xs) (h' : w.ownsRow B' e' s' v' n' xs') (he : e ≠ e') (k : Nat) (hk : v.ownBlock = some k) : v'.ownBlock ≠ some k := by
  intro hk'
  rcases h.2 with ⟨rfl, _⟩ | ⟨g, cap, cur, rfl, _, hg, _⟩
  · simp [Value.ownBlock] at hk
  · rcases h'.2 with ⟨rfl, _⟩ | ⟨g', cap', cur', rfl, _, hg', _⟩
    · simp [Value.ownBlock] at hk'
    · simp [Value.ownBlock] at hk hk'
      subst hk
      rw [hk', hg] at hg'
      simp at hg'
      exact he hg'.2
theorem md_push {B g cap m : Nat} {w w' : World} {sv : Value} {ps : List Ls} {p : Ls} {o : Obj} (M : Md B w sv m ps) (hp : w.ownsRow B 92 3 (lsv p) p.1.length (insC p.1))
    (hr : w'.ownsRow B 86 1 (.slice (some ⟨g, 0, none⟩) (m + 1) cap) (m + 1) (ps.map lsv ++ [lsv p])) (hg : (w.alloc o).grownBy w' sv.ownBlock) : Md B w' (.slice (some ⟨g, 0, none⟩) (m + 1) cap) (m + 1) (ps ++ [p]) := by
  have hk : ∀ x : Ls, w.ownsRow B 92 3 (lsv x) x.1.length (insC x.1) → w'.ownsRow B 92 3 (lsv x) x.1.length (insC x.1) := by
    intro x hx
    have q : Kp (fun k => some k = sv.ownBlock) w w' := (Kp.alloc w o).trans (Kp.grown hg fun k _ e => e)
    exact q.row hx fun k e e' => rows_apart hx M.row (by decide) k e e'.symm
  refine ⟨by simpa using hr, by rw [List.length_append, M.len]; rfl, fun x hx => ?_⟩
  rcases List.mem_append.1 hx with hx | hx
  · exact hk x (M.all x hx)
  · simp at hx; subst hx; exact hk _ hp
/-- What Make tells, if Check told such a fault. -/
def MakeQ (P : Int × Int → Prop) (l : List V) (w : World) (e : Ending) (w' : World) : Prop := ∃ f : Int × Int, P f ∧ Quiet w w' ∧
  ((f.1 ≠ 0 ∧ e = .returned (.tuple #[.slice none 0 0, .agg #[.int .i64 f.1, .int .i64 f.2]])) ∨
   (f.1 = 0 ∧ ∃ ao cap ps, e = .returned (.tuple #[.slice ao l.length cap, .agg #[.int .i64 0, .int .i64 0]]) ∧ Md w.heap.size w' (.slice ao l.length cap) l.length ps ∧ ps.map (·.1) = l.map funC))
theorem funs_take (l : List V) (j : Nat) (h : j < l.length) : (l.take (j + 1)).map funC = (l.take j).map funC ++ [funC l[j]] := by rw [take_snoc l j h, List.map_append]; rfl
theorem far_set (w0 w : World) (x o : Nat) (y : Value) (h : w0.heap.size ≤ x) : Kp (fun i => w0.heap.size ≤ i) w (w.setCell ⟨x, o, none⟩ y) := Kp.setCell w ⟨x, o, none⟩ y h
theorem far_two (w0 w : World) (x : Nat) (y z : Value) (h : w0.heap.size ≤ x) : Kp (fun i => w0.heap.size ≤ i) w ((w.setCell ⟨x, 0, none⟩ y).setCell ⟨x, 1, none⟩ z) := (far_set w0 _ x 0 y h).trans (far_set w0 _ x 1 z h)
theorem at_two (w : World) (x : Nat) (y z : Value) : Kp (fun i => i = x) w ((w.setCell ⟨x, 0, none⟩ y).setCell ⟨x, 1, none⟩ z) := (kp_set w x 0 y).trans (kp_set _ x 1 z)
/-- The state of Make's loop. -/
structure MkS (w : World) (l : List V) (j : Nat) (sv : Value) (ps : List Ls) (wr : World) : Prop where
  made : Md (w.heap.size + 2) wr sv j ps
  funs : ps.map (·.1) = (l.take j).map funC
  low : Below w.heap.size w wr
  box : wr.heap[w.heap.size + 1]? = some (.cells #[.int .i64 0, .int .i64 0] 46 (0, 0))
theorem MkS.mid {w wr A w5 : World} {l : List V} {j : Nat} {sv : Value} {ps : List Ls} (H : MkS w l j sv ps wr) (q : Quiet wr A) (k : KI (wr.heap.size + 1) A w5) : MkS w l j sv ps w5 := by
  have kp : Kp (fun k => wr.heap.size + 1 ≤ k) wr w5 := (q.mono fun _ _ e => e.elim).trans (below_kp k.low)
  have hz := lt_of_block H.box
  refine ⟨H.made.kept kp fun k _ h => by omega, H.funs, H.low.trans (kp.below H.low.size fun k hk => by have := H.low.size; omega), ?_⟩
  rw [kp.block _ hz (by omega)]; exact H.box
theorem MkS.step {w w5 w6 : World} {l : List V} {j g cap : Nat} {sv : Value} {ps : List Ls} {u : V} {p : Ls} {o : Obj} (H : MkS w l j sv ps w5) (hN : (l.take (j + 1)).map funC = (l.take j).map funC ++ [funC u]) (hp : p.1 = funC u) (hr5 : w5.ownsRow (w.heap.size + 2) 92 3 (lsv p) p.1.length (insC p.1))
    (hr : w6.ownsRow (w.heap.size + 2) 86 1 (.slice (some ⟨g, 0, none⟩) (j + 1) cap) (j + 1) (ps.map lsv ++ [lsv p])) (hg : (w5.alloc o).grownBy w6 sv.ownBlock) : MkS w l (j + 1) (.slice (some ⟨g, 0, none⟩) (j + 1) cap) (ps ++ [p]) w6 := by
  have hz := lt_of_block H.box
  have kp : Kp (fun k => w.heap.size + 2 ≤ k) w5 w6 := (Kp.alloc w5 o).trans (Kp.grown hg fun k _ e => (H.made.row.lt k e.symm).1)
  refine ⟨md_push H.made hr5 hr hg, ?_, H.low.trans (kp.below H.low.size fun k hk => by omega), ?_⟩
  · rw [List.map_append, H.funs, hN, List.map_singleton, hp]
  · rw [kp.block _ hz (by omega)]; exact H.box
set_option maxRecDepth 8000 in
set_option maxHeartbeats 4000000 in
theorem make_of (l : List V) (ao : Option Addr) (cap : Nat) (w : World) (hF : Fo w l ao) (hS : sizes l ≤ 20000) (P : Int × Int → Prop) (hP1 : ∀ f, P f → f.1 = 0 → ∀ v ∈ l, Ok v)
    (hC : ∀ w1, Quiet w w1 → Calls Tryz.prog 28 #[.agg #[.slice ao l.length cap]] w1 fun e w' => ∃ f : Int × Int, e = .returned (.agg #[.int .i64 f.1, .int .i64 f.2]) ∧ P f ∧ Quiet w1 w') :
    Calls Tryz.prog 11 #[.agg #[.slice ao l.length cap]] w fun e w' => MakeQ P l w e w' := by
  obtain ⟨i0, hi, hz0, hz1, hz2⟩ := info_parts' Tryz.infoLs
  have q2 : Quiet w ((w.alloc (.cells #[.slice ao l.length cap] 33)).alloc (.cells #[.int .i64 0, .int .i64 0] 46)) := (Kp.alloc _ _).trans (Kp.alloc _ _)
  have hb0 : ((w.alloc (.cells #[.slice ao l.length cap] 33)).alloc (.cells #[.int .i64 0, .int .i64 0] 46)).heap[w.heap.size]? = some (.cells #[.slice ao l.length cap] 33 (0, 0)) := by
    rw [Below.heap_alloc _ _ _ (by simp)]; exact heap_alloc_new w _
  have hb1 := heap_two w (.cells #[.slice ao l.length cap] 33) (.cells #[.int .i64 0, .int .i64 0] 46)
  have hll := sizes_len l
  have hl5 : l.length ≤ 20000 := by omega
  have HC := hid (hC _ q2)
  have HF := hid hF
  have HP := hid hP1
  clear hC hF hP1
  go_enter Tryz.func11, Tryz.ntmps11
  go_wp2_with (go_at_call 28; refine HC.out.mono ?_)
  rintro e w3 ⟨⟨c, a⟩, rfl, hPf, q3⟩
  simp only
  have hb03 := (q3.block _ (lt_of_block hb0) fun e => e).trans hb0
  have hb13 := (q3.block _ (lt_of_block hb1) fun e => e).trans hb1
  have x0 := mod_cell hb03
  obtain ⟨k0, k1, k2, k3⟩ := fault_cells hb13
  have z3 : w.heap.size < w3.heap.size := lt_of_block hb03
  have z3' : w.heap.size + 1 < w3.heap.size := lt_of_block hb13
  have q23 := q2.trans q3
  by_cases hc : c = 0
  · subst hc
    have HO := hid (HP.out _ hPf rfl)
    have q4 : Quiet w (w3.alloc (.cells #[.int .i64 0, .int .i64 a] 46)) := q23.trans (Kp.alloc _ _)
    have hb14 := (Below.heap_alloc w3 (.cells #[.int .i64 0, .int .i64 a] 46) _ z3').trans hb13
    have HQ4 := hid (And.intro q4 hb14)
    have HPF := hid hPf
    clear hb03 hb13 hb14 hb0 hb1 q2 q3 q4 hPf
    go_wp2
    go_loopw [5, 18] (fun sv i wr => ∃ (j : Nat) (ps : List Ls), j ≤ l.length ∧ i = .int .i64 j ∧ MkS w l j sv ps wr) (fun _ i _ => l.length - (intOf i).toNat)
    case atStart =>
      exact ⟨0, [], Nat.zero_le _, rfl, ⟨⟨World.ownsRow_nil _ _ _ _, rfl, fun p hp => by simp at hp⟩, rfl, HQ4.out.1.low, HQ4.out.2⟩⟩
    case round =>
      obtain ⟨j, ps, hj, rfl, hM⟩ := hrel
      have hzw := lt_of_block hM.box
      have hB := hM.low
      by_cases hlt : j < l.length
      · obtain ⟨bb, oo, rfl, dh, ca, cc, ds, hk⟩ := HF.out.get j hlt
        obtain ⟨d0, d1, d2⟩ := head_kept (low_kept hB) dh
        have dsk := low_kept hB _ _ ds
        have hus := size_get l j hlt
        have hO := HO.out l[j] (List.getElem_mem hlt)
        have HN := hid (funs_take l j hlt)
        generalize l[j] = u at *
        obtain ⟨sa, sc, hsv⟩ := owns_shape hM.made.row
        subst hsv
        obtain ⟨A, hA⟩ : ∃ A, A = (wr.alloc (.cells #[.int .i64 u.kind, .int .i64 u.k, .int .i64 u.n, .slice ca u.l.length cc] 31)).alloc (.cells #[.slice none 0 0] 88) := ⟨_, rfl⟩
        have qA : Quiet wr A := by rw [hA]; exact (Kp.alloc _ _).trans (Kp.alloc _ _)
        have hLA : Lst (wr.heap.size + 1) [] A := by rw [hA]; have := lst_new (wr.alloc (.cells #[.int .i64 u.kind, .int .i64 u.k, .int .i64 u.n, .slice ca u.l.length cc] 31)); simpa using this
        have hBA : Below w.heap.size w A := low_of hB qA hB.size
        have HL := hid (lexpr_any w (wr.heap.size + 1) u ca cc [] A hk hO hBA (by have := hB.size; omega) hLA (by simp; omega))
        rw [List.nil_append, List.length_nil, hA] at HL
        have hul := code_len u 0
        have HA := hid (And.intro hA (And.intro qA hBA))
        have HM := hid hM
        have hBs := hB.size
        clear dh ds hk hM hB k0 k1 k2 k3 hA qA hLA hBA hO
        go_wp2_with (first
          | (at_builtin; refine wpList_append_lies _ rfl (.tmp 26) (.tmp 29) 44 rfl (w.heap.size + 2) 86 i0 _ 1 24 Tryz.undLs hi hz0 hz1 hz2 rfl (by decide) _ j (ps.map lsv) rfl (HM5.out.made.row.alloc _) ⟨w5.heap.size, 0, none⟩ 1 1 [.slice fa fn fc] rfl rfl (news_at w5 _ 86) (by simp [Value.oneCell']) (by decide) (by unfold maxLen; omega) (by omega) (by simp; omega) _ rfl ?_; intro g2 cap2 w6 hr6 hg6 hat hlt6; have HD := hid (HM5.out.step (p := (funC u, fa, fc)) HN.out rfl HR5.out.1 (by rw [HR5.out.2]; exact hr6) hg6); clear hr6 hg6 hat hlt6)
          | (go_at_call 30; refine (lput_any _ _ ⟨105, 0, 0⟩ _ h4 (by omega)).mono ?_; rintro e w5 ⟨rfl, h5, k5⟩; have HM5 := hid (HM.out.mid HA.out.2.1 (k4.trans k5)); obtain ⟨fa, fc, y1, y2⟩ := h5; obtain ⟨fn, hfn⟩ : ∃ n, (u.code 0 ++ [(⟨105, 0, 0⟩ : Ik)]).length = n := ⟨_, rfl⟩; have HR5 := hid (And.intro (show w5.ownsRow (w.heap.size + 2) 92 3 (lsv (funC u, fa, fc)) (funC u).length (insC (funC u)) from owns_mono y2 (by omega)) (show lsv (funC u, fa, fc) = .slice fa fn fc by rw [← hfn]; rfl)); rw [hfn] at y1; have y3 := mod_cell y1; have y4 := lt_of_block y1; clear y1 y2 hfn)
          | (go_at_call 29; refine HL.out.mono ?_; rintro e w4 ⟨rfl, h4, k4⟩; rw [← HA.out.1] at k4))
        exact ⟨⟨j + 1, _, by omega, by go_num, HD.out⟩, by simp [intOf]; omega⟩
      · have hjl : j = l.length := by omega
        subst hjl
        obtain ⟨sa, sc, hsv⟩ := owns_shape hM.made.row
        subst hsv
        obtain ⟨r0, r1, r2, r3⟩ := fault_cells hM.box
        have HM := hid hM
        clear hM hB k0 k1 k2 k3
        go_wp2
        refine bodyPost_ret (v := .tuple #[.slice sa l.length sc, .agg #[.int .i64 0, .int .i64 0]]) (by simp [results, Tryz.results11, go_sem, r0, r1]) rfl ?_
        refine ⟨(0, a), HPF.out, (quiet_of HM.out.low).fresh (far_two w _ _ _ _ (by omega)), .inr ⟨rfl, sa, sc, ps, rfl, ?_, ?_⟩⟩
        · exact (HM.out.made.kept (at_two _ _ _ _) fun k h _ => by omega).mono (by omega)
        · have := HM.out.funs
          rwa [List.take_length] at this
  · have hz1 : (c != 0) = true := by simpa using hc
    have HPF := hid (And.intro hPf hc)
    clear hb03 hb13 hb0 hb1 hPf hc
    go_wp2
    go_region
    all_goals
      go_wp2
      refine bodyPost_ret (v := .tuple #[.slice none 0 0, .agg #[.int .i64 c, .int .i64 a]]) (by simp [results, Tryz.results11, go_sem, k0, k1, z3']) rfl ?_
      exact ⟨(c, a), HPF.out.1, q23.fresh ((far_two w _ _ _ _ (by omega)).trans ((Kp.alloc _ _).trans (Kp.drew _))), .inl ⟨HPF.out.2, rfl⟩⟩
end Go.Proofs.YtpppgmkefpelaaaGreat.Ex
namespace Go.Proofs.YtpppgmkefpelaaaGreat.Ex
open Go.ChangeShapes Go.WideShapes Go.ChangeAt Go.RowKit
theorem funs_ok (F : Int) (l : List V) : ∀ i, (funs F l i).1 = 0 → ∀ v ∈ l, fun1 F v = 0 := by
  induction l with
  | nil => intro i _ v hv; simp at hv
  | cons x l ih =>
    intro i h v hv
    rw [funs] at h
    by_cases h0 : fun1 F x = 0
    · rw [if_pos h0] at h
      rcases List.mem_cons.1 hv with rfl | hv
      · exact h0
      · exact ih _ h v hv
    · rw [if_neg h0] at h; exact absurd h h0
theorem fun1_ok {F : Int} {v : V} (h : fun1 F v = 0) : v.bad F 0 = 0 := by
  unfold fun1 at h
  by_cases h1 : 30 < v.deep
  · rw [if_pos h1] at h; cases h
  · rw [if_neg h1] at h
    by_cases h2 : 120 < v.size
    · rw [if_pos h2] at h; cases h
    · rwa [if_neg h2] at h
theorem modFault_ok {l : List V} (h : (modFault l).1 = 0) : ∀ v ∈ l, Ok v := by
  unfold modFault at h
  by_cases h1 : l.length < 1 ∨ 6 < l.length
  · rw [if_pos h1] at h; cases h
  · rw [if_neg h1] at h
    exact fun v hv => ⟨_, 0, fun1_ok (funs_ok _ l 0 h v hv)⟩
theorem make_any (l : List V) (ao : Option Addr) (cap : Nat) (w : World) (hF : Fo (cln w) l ao) (hS : sizes l ≤ 20000) :
    Calls Tryz.prog 11 #[.agg #[.slice ao l.length cap]] w fun e w' => MakeQ (fun f => f = modFault l) l w e w' := by
  refine make_of l ao cap w hF.unclean hS (fun f => f = modFault l) (fun f hf h0 => modFault_ok (hf ▸ h0)) fun w1 q => ?_
  refine (check_any l ao cap w1 (hF.cleanQ q) hS).mono ?_
  rintro e w' ⟨he, q'⟩
  exact ⟨modFault l, he, rfl, q'⟩
/-- The cells of a list among those that were made. -/
theorem Md.get {B : Nat} {w : World} {ao : Option Addr} {n cap : Nat} {ps : List Ls} (h : Md B w (.slice ao n cap) n ps) (j : Nat) (c : List Ik) (hc : (ps.map (·.1))[j]? = some c) :
    ∃ g fa fc, ao = some ⟨g, 0, none⟩ ∧ w.cell? ⟨g, j, none⟩ = some (.slice fa c.length fc) ∧ w.ownsRow B 92 3 (.slice fa c.length fc) c.length (insC c) := by
  rw [List.getElem?_map] at hc
  obtain ⟨p, hp, rfl⟩ : ∃ p, ps[j]? = some p ∧ p.1 = c := by
    cases e : ps[j]? with
    | none => rw [e] at hc; simp at hc
    | some p => rw [e] at hc; exact ⟨p, rfl, by simpa using hc⟩
  obtain ⟨hj, hp2⟩ := List.getElem?_eq_some_iff.1 hp
  have hl := h.len
  obtain ⟨g, e, d⟩ := owns_at h.row (by omega)
  refine ⟨g, p.2.1, p.2.2, e, ?_, h.all p (hp2 ▸ List.getElem_mem hj)⟩
  rw [d j (by omega), List.getElem?_map, hp]; rfl
def cv : V := ⟨2, 0, 5, []⟩
theorem in_small (z : Int) (h : 0 ≤ z ∧ z ≤ 100) : In64 z := ⟨by omega, by omega⟩
theorem num_any (n : Int) (w : World) : Calls Tryz.prog 12 #[.int .i64 n] w fun e w' => e = .returned (.agg #[.int .i64 2, .int .i64 0, .int .i64 n, .slice none 0 0]) ∧ Quiet w w' := by
  go_enter Tryz.func12, Tryz.ntmps12
  go_wp2
  refine bodyPost_ret (v := .agg #[.int .i64 2, .int .i64 0, .int .i64 n, .slice none 0 0]) (by simp [results, Tryz.results12, go_sem]) rfl ?_
  exact ⟨rfl, Kp.alloc _ _⟩
theorem cell_on {w : World} {a : Addr} {x : Value} (h : w.cell? a = some x) (o : Obj) : (w.alloc o).cell? a = some x := (Kp.alloc (F := fun _ => False) w o).cell h fun e => e
end Go.Proofs.YtpppgmkefpelaaaGreat.Ex
namespace Go.Proofs.YtpppgmkefpelaaaGreat.Ex
open Go.ChangeShapes Go.WideShapes Go.ChangeAt Go.RowKit
/-- It is there in whatever world has the blocks from lo on that are not marked (but one, perhaps) as they are here. -/
def Hold (lo : Nat) (row : Option Nat) (w : World) (v : V) (ao : Option Addr) : Prop :=
  ∀ w' : World, (∀ k c t, lo ≤ k → row ≠ some k → w.heap[k]? = some (.cells c t (0, 0)) → w'.heap[k]? = some (.cells c t (0, 0))) → Is w' v ao
theorem Hold.is {lo : Nat} {row : Option Nat} {w : World} {v : V} {ao : Option Addr} (h : Hold lo row w v ao) : Is w v ao := h w fun _ _ _ _ _ h => h
theorem Hold.step {lo : Nat} {row row' : Option Nat} {w w' : World} {v : V} {ao : Option Addr} (h : Hold lo row w v ao) (hk : ∀ k, lo ≤ k → k < w.heap.size → row ≠ some k → w'.heap[k]? = w.heap[k]?)
    (hr : row' = row ∨ ∃ g, row' = some g ∧ w.heap.size ≤ g) : Hold lo row' w' v ao := by
  intro w2 h2
  refine h w2 fun k c t h1 h4 hc => h2 k c t h1 ?_ ((hk k h1 (lt_of_block hc) h4).trans hc)
  rcases hr with rfl | ⟨g, rfl, hg⟩
  · exact h4
  · intro e; simp at e; have := lt_of_block hc; omega
theorem Hold.drew {lo : Nat} {row : Option Nat} {w : World} {v : V} {ao : Option Addr} (h : Hold lo row w v ao) : Hold lo row w.drew v ao := h
/-- A thing and where its list lies. -/
abbrev Kd := V × Option Addr × Nat
def tri (p : Kd) : List Value := [.int .i64 p.1.kind, .int .i64 p.1.k, .int .i64 p.1.n, .slice p.2.1 p.1.l.length p.2.2]
def tris (ps : List Kd) : List Value := ps.flatMap tri
theorem tris_len (ps : List Kd) : (tris ps).length = ps.length * 4 := by
  induction ps with
  | nil => rfl
  | cons p ps ih => simp only [tris, List.flatMap_cons, List.length_append] at ih ⊢; rw [ih]; simp [tri]; omega
theorem tris_app (a b : List Kd) : tris (a ++ b) = tris a ++ tris b := by simp [tris]
theorem tris_one (p : Kd) : tris [p] = tri p := by simp [tris]
theorem tris_at (ps : List Kd) (k j : Nat) (hk : k < ps.length) (hj : j < 4) : (tris ps)[k * 4 + j]? = (tri ps[k])[j]? := by
  induction ps generalizing k with
  | nil => simp at hk
  | cons e es ih =>
    cases k with
    | zero => simp only [tris, List.flatMap_cons]; rw [List.getElem?_append_left (by simp [tri]; omega)]; simp
    | succ k =>
      simp only [tris, List.flatMap_cons]
      rw [List.getElem?_append_right (by simp [tri]; omega)]
      have := ih k (by simpa using hk)
      simp only [tris] at this
      rw [show (k + 1) * 4 + j - (tri e).length = k * 4 + j by simp [tri]; omega, this]
      simp
theorem tri_one (p : Kd) : ∀ u ∈ tri p, u.oneCell' = true := by
  intro u hu
  simp only [tri, List.mem_cons, List.not_mem_nil, or_false] at hu
  rcases hu with rfl | rfl | rfl | rfl <;> rfl
theorem tris_onec (ps : List Kd) : ∀ u ∈ tris ps, u.oneCell' = true := by
  intro u hu
  simp only [tris, List.mem_flatMap] at hu
  obtain ⟨e, _, he⟩ := hu
  exact tri_one e u he
/-- A thing's cells in a row are the thing's. -/
theorem tri_at {w : World} {g off : Nat} {p : Kd} (c : ∀ j, j < 4 → w.cell? ⟨g, off + j, none⟩ = (tri p)[j]?) (hp : Is w p.1 p.2.1) : p.1.at w g off := by
  rw [at_iff]
  exact ⟨⟨c 0 (by decide), c 1 (by decide), c 2 (by decide)⟩, _, _, c 3 (by decide), hp⟩
/-- A row of things, each of which is there. -/
theorem fo_row {w : World} {B : Nat} {ao : Option Addr} {n cap : Nat} {ps : List Kd} (h : w.ownsRow B 31 4 (.slice ao n cap) n (tris ps)) (hn : n = ps.length) (hp : ∀ p ∈ ps, Is w p.1 p.2.1) : Fo w (ps.map (·.1)) ao := by
  subst hn
  intro i hi
  have hi' : i < ps.length := by simpa using hi
  obtain ⟨g, rfl, d⟩ := owns_at h (by omega)
  refine ⟨g, 0, rfl, ?_⟩
  have e : (ps.map (·.1))[i] = ps[i].1 := by simp
  rw [e, Nat.zero_add]
  exact tri_at (fun j hj => by rw [d _ (by omega), tris_at ps i j hi' hj]) (hp _ (List.getElem_mem hi'))
/-- Several in memory of their own. -/
def HoldL (lo : Nat) (w : World) (l : List V) (ao : Option Addr) : Prop :=
  ∀ w' : World, (∀ k c t, lo ≤ k → w.heap[k]? = some (.cells c t (0, 0)) → w'.heap[k]? = some (.cells c t (0, 0))) → Fo w' l ao
theorem HoldL.fo {lo : Nat} {w : World} {l : List V} {ao : Option Addr} (h : HoldL lo w l ao) : Fo w l ao := h w fun _ _ _ _ h => h
theorem hold_rows {lo B : Nat} {w : World} {ao : Option Addr} {m cap : Nat} {ps : List Kd} (h : w.ownsRow B 31 4 (.slice ao m cap) m (tris ps)) (hm : m = ps.length) (hB : lo ≤ B) (hp : ∀ p ∈ ps, Hold lo (Value.slice ao m cap).ownBlock w p.1 p.2.1) :
    HoldL lo w (ps.map (·.1)) ao := by
  intro w2 h2
  refine fo_row (w := w2) (B := B) (n := m) (cap := cap) ?_ hm fun p hp' => hp p hp' w2 fun k c t h1 _ hc => h2 k c t h1 hc
  refine ⟨h.1, ?_⟩
  rcases h.2 with hn | ⟨g, cap', cur, e, hb, hg, rest⟩
  · exact .inl hn
  · exact .inr ⟨g, cap', cur, e, hb, h2 g _ _ (by omega) hg, rest⟩
theorem hold_row {lo B : Nat} {w : World} {ao : Option Addr} {v : V} {m cap : Nat} {ps : List Kd} (hf : v.fits) (hv : ps.map (·.1) = v.l) (h : w.ownsRow B 31 4 (.slice ao m cap) m (tris ps)) (hm : m = ps.length) (hB : lo ≤ B) (hp : ∀ p ∈ ps, Hold lo (Value.slice ao m cap).ownBlock w p.1 p.2.1) :
    Hold lo none w v ao := by
  intro w2 h2
  exact ⟨hf, hv ▸ hold_rows h hm hB hp w2 fun k c t h1 hc => h2 k c t h1 (by simp) hc⟩
end Go.Proofs.YtpppgmkefpelaaaGreat.Ex
namespace Go.Proofs.YtpppgmkefpelaaaGreat.Ex
open Go.ChangeShapes Go.WideShapes Go.ChangeAt Go.RowKit
/-- What OwnVal tells. -/
def OwnR (v : V) : Prop := ∀ (ao : Option Addr) (cap : Nat) (w : World), Is w v ao → v.size ≤ 20000 →
    Calls Tryz.prog 57 #[.agg #[.int .i64 v.kind, .int .i64 v.k, .int .i64 v.n, .slice ao v.l.length cap]] w fun e w' => ∃ ao' cap', e = .returned (.agg #[.int .i64 v.kind, .int .i64 v.k, .int .i64 v.n, .slice ao' v.l.length cap']) ∧ Hold w.heap.size none w' v ao' ∧ Quiet w w'
/-- The state of the loop: what was made so far. -/
structure OS (W : World) (h : Nat) (v : V) (j : Nat) (av : Option Addr) (n cv : Nat) (ps : List Kd) (w : World) : Prop where
  obj : w.heap[h + 2]? = some (.cells #[.int .i64 v.kind, .int .i64 v.k, .int .i64 v.n, .slice av n cv] 31 (0, 0))
  row : w.ownsRow (h + 3) 31 4 (.slice av n cv) n (tris ps)
  len : n = ps.length
  all : ∀ p ∈ ps, Hold (h + 3) (Value.slice av n cv).ownBlock w p.1 p.2.1
  map : ps.map (·.1) = v.l.take j
  low : Below (h + 2) W w
  sz : h + 3 ≤ w.heap.size
theorem own_step {W w w3 w1 : World} {h : Nat} {v : V} {j : Nat} {av : Option Addr} {m cv : Nat} {ps : List Kd} {x : V} {a : Option Addr} {c g cap : Nat} {o : Obj} (H : OS W h v j av m cv ps w) (hx : v.l.take (j + 1) = v.l.take j ++ [x]) (q3 : Quiet w.drew w3) (hc : Hold w.heap.size none w3 x a)
    (hr : w1.ownsRow (h + 3) 31 4 (.slice (some ⟨g, 0, none⟩) (m + 1) cap) (m + 1) (tris ps ++ tri (x, a, c))) (hg : (w3.alloc o).grownBy w1 (Value.slice av m cv).ownBlock) (hat : (Value.slice av m cv).ownBlock = some g ∨ g = w3.heap.size + 1) :
    OS W h v (j + 1) (some ⟨g, 0, none⟩) (m + 1) cap (ps ++ [(x, a, c)]) (w1.setCell ⟨h + 2, 3, none⟩ (.slice (some ⟨g, 0, none⟩) (m + 1) cap)) ∧ (w1.cell? ⟨h + 2, 3, none⟩ = some (.slice av m cv) ∧ w1.frozen? ⟨h + 2, 3, none⟩ = false) := by
  have hm := H.len
  have hlt := lt_of_block H.obj
  have hs3 : w.heap.size ≤ w3.heap.size := q3.size
  have hs1 : w3.heap.size + 1 ≤ w1.heap.size := by have := hg.size; simpa using this
  have hrb : ∀ b, (Value.slice av m cv).ownBlock = some b → h + 3 ≤ b ∧ b < w.heap.size := fun b e => H.row.lt b e
  have hk1 : ∀ b, b < w.heap.size → (Value.slice av m cv).ownBlock ≠ some b → w1.heap[b]? = w.heap[b]? := by
    intro b hb hne
    rw [hg.block b (by simp; omega) (fun e => hne e.symm), Below.heap_alloc w3 o b (by omega)]
    exact q3.block b hb (fun e => e)
  have hk3 : ∀ b, w.heap.size ≤ b → b < w3.heap.size → w1.heap[b]? = w3.heap[b]? := by
    intro b hb hb3
    rw [hg.block b (by simp; omega) (fun e => by have := hrb b e.symm; omega), Below.heap_alloc w3 o b hb3]
  have hobj : w1.heap[h + 2]? = some (.cells #[.int .i64 v.kind, .int .i64 v.k, .int .i64 v.n, .slice av m cv] 31 (0, 0)) := by
    rw [hk1 (h + 2) hlt (fun e => by have := hrb _ e; omega)]; exact H.obj
  have hset : ∀ b, b ≠ h + 2 → (w1.setCell ⟨h + 2, 3, none⟩ (.slice (some ⟨g, 0, none⟩) (m + 1) cap)).heap[b]? = w1.heap[b]? := fun b hb => Below.heap_setCell _ _ _ _ (fun e => hb e)
  have hgl : h + 3 ≤ g := by
    rcases hat with e | e
    · exact (hrb g e).1
    · have := H.sz; omega
  refine ⟨⟨?_, ?_, ?_, ?_, ?_, ?_, ?_⟩, ?_⟩
  · simp [World.setCell, Array.getElem?_modify, hobj]
  · have := (Kp.setCell (F := fun b => b = h + 2) w1 ⟨h + 2, 3, none⟩ (.slice (some ⟨g, 0, none⟩) (m + 1) cap) rfl).row hr (fun b e => by simp [Value.ownBlock] at e; omega)
    rw [tris_app, tris_one]; simpa using this
  · rw [List.length_append, hm]; rfl
  · intro p hp
    have hrow' : (Value.slice (some ⟨g, 0, none⟩) (m + 1) cap).ownBlock = some g := rfl
    rw [hrow']
    rcases List.mem_append.1 hp with hp | hp
    · refine (H.all p hp).step (fun b h1 h2 h3 => ?_) ?_
      · rw [hset b (by omega)]; exact hk1 b h2 (fun e => h3 e)
      · rcases hat with e | e
        · exact .inl e.symm
        · exact .inr ⟨g, rfl, by omega⟩
    · simp at hp
      subst hp
      intro w2 h2
      refine hc w2 fun b c t h1 _ h3 => h2 b c t (by have := H.sz; omega) ?_ ((hset b (by have := H.sz; omega)).trans ((hk3 b h1 (lt_of_block h3)).trans h3))
      intro e
      simp at e
      have hb3 := lt_of_block h3
      rcases hat with e' | e'
      · have := hrb g e'; omega
      · omega
  · rw [List.map_append, H.map, hx]; rfl
  · refine ⟨?_, ?_, ?_, ?_, fun b hb => ?_⟩
    · exact (hg.os.trans q3.os).trans H.low.os
    · exact (hg.tape.trans q3.tape).trans H.low.tape
    · exact (hg.output.trans q3.output).trans H.low.output
    · have := H.low.size; simp [World.setCell]; omega
    · rw [hset b (by omega), hk1 b (by omega) (fun e => by have := hrb b e; omega)]; exact H.low.block b hb
  · simp [World.setCell]; omega
  · exact ⟨by simp [World.cell?, hobj], frozen_of_row w1 (h + 2) 3 _ 31 hobj⟩
/-- A world in which but one block has turned. -/
theorem own_end {W w w0 w' : World} {v : V} {j : Nat} {av : Option Addr} {n cv : Nat} {ps : List Kd} (H : OS W w0.heap.size v j av n cv ps w) (hj : v.l.length ≤ j) (hf : v.fits) (qW : Quiet w0 W) (q : Kp (fun k => k = w0.heap.size + 1) w w') :
    Hold w0.heap.size none w' v av ∧ Quiet w0 w' ∧ n = v.l.length := by
  have hm : ps.map (·.1) = v.l := by rw [H.map, List.take_of_length_le hj]
  have hs : ∀ b, b < w.heap.size → b ≠ w0.heap.size + 1 → w'.heap[b]? = w.heap[b]? := fun b hb hne => q.block b hb hne
  refine ⟨?_, ?_, ?_⟩
  · have h1 := hold_row (lo := w0.heap.size + 3) (B := w0.heap.size + 3) hf hm H.row H.len (Nat.le_refl _) H.all
    intro w2 h2
    exact h1 w2 fun b c t h3 _ h4 => h2 b c t (by omega) (by simp) ((hs b (lt_of_block h4) (by omega)).trans h4)
  · refine ⟨q.os.trans (H.low.os.trans qW.os), q.tape.trans (H.low.tape.trans qW.tape), q.output.trans (H.low.output.trans qW.output), by have := qW.size; have := H.low.size; have := q.size; omega, fun b hb _ => ?_⟩
    rw [hs b (by have := H.sz; omega) (by omega), H.low.block b (by omega)]
    exact qW.block b hb (fun e => e)
  · rw [H.len, ← hm, List.length_map]
theorem box_free {w : World} {x : Nat} {c : Array Value} {t : TypeId} (h : w.heap[x]? = some (.cells c t (0, 0))) : w.frozen? ⟨x, 0, none⟩ = false ∧ w.frozen? ⟨x, 1, none⟩ = false ∧ w.frozen? ⟨x, 2, none⟩ = false ∧ w.frozen? ⟨x, 3, none⟩ = false :=
  ⟨frozen_of_row w x 0 _ t h, frozen_of_row w x 1 _ t h, frozen_of_row w x 2 _ t h, frozen_of_row w x 3 _ t h⟩
theorem kp1 (w : World) (b o : Nat) (y : Value) : Kp (fun k => k = b) w (w.setCell ⟨b, o, none⟩ y) := Kp.setCell w ⟨b, o, none⟩ y rfl
set_option maxRecDepth 8000 in
set_option maxHeartbeats 4000000 in
theorem ownR_any (v : V) : OwnR v := by
  obtain ⟨i0, hi0, hz0, hz1, hz2⟩ := info_parts Tryz.infoV
  induction v using V.ind' with
  | h v ih =>
    intro ao cap w hI hS
    have hlen : v.l.length ≤ 20000 := by have := sizes_len v.l; have := size_eq v; omega
    have hsz : ∀ j (h : j < v.l.length), v.l[j].size ≤ 20000 := fun j h => by have := size_get v.l j h; have := size_eq v; omega
    have HI := hid (And.intro hI (And.intro ih hsz))
    clear hI ih hsz hS
    obtain ⟨W, hW⟩ : ∃ W, W = ((w.alloc (.cells #[.int .i64 v.kind, .int .i64 v.k, .int .i64 v.n, .slice ao v.l.length cap] 31)).alloc (.cells #[.int .i64 0, .int .i64 0, .int .i64 0, .slice none 0 0] 31)).alloc (.cells #[.int .i64 v.kind, .int .i64 v.k, .int .i64 v.n, .slice none 0 0] 31) := ⟨_, rfl⟩
    have HW := hid hW
    have b0 : W.heap[w.heap.size]? = some (.cells #[.int .i64 v.kind, .int .i64 v.k, .int .i64 v.n, .slice ao v.l.length cap] 31 (0, 0)) := by
      rw [hW, Below.heap_alloc _ _ _ (by simp; omega), Below.heap_alloc _ _ _ (by simp)]; exact heap_alloc_new w _
    have b1 : W.heap[w.heap.size + 1]? = some (.cells #[.int .i64 0, .int .i64 0, .int .i64 0, .slice none 0 0] 31 (0, 0)) := by
      rw [hW, Below.heap_alloc _ _ _ (by simp)]; exact heap_two w _ _
    have b2 : W.heap[w.heap.size + 2]? = some (.cells #[.int .i64 v.kind, .int .i64 v.k, .int .i64 v.n, .slice none 0 0] 31 (0, 0)) := by
      rw [hW]; have := heap_alloc_new ((w.alloc (.cells #[.int .i64 v.kind, .int .i64 v.k, .int .i64 v.n, .slice ao v.l.length cap] 31)).alloc (.cells #[.int .i64 0, .int .i64 0, .int .i64 0, .slice none 0 0] 31)) (.cells #[.int .i64 v.kind, .int .i64 v.k, .int .i64 v.n, .slice none 0 0] 31); simpa using this
    have qW : Quiet w W := by rw [hW]; exact (Kp.alloc _ _).trans ((Kp.alloc _ _).trans (Kp.alloc _ _))
    have sW : W.heap.size = w.heap.size + 3 := by rw [hW]; simp
    have HB := hid (And.intro b0 (And.intro b1 (And.intro b2 (And.intro qW sW))))
    clear hW b0 b1 b2 qW sW
    go_enter Tryz.func57, Tryz.ntmps57
    go_wp2
    go_loopg [4] v.l.length (fun gk i wr => ∃ (j n : Nat) (av : Option Addr) (cv : Nat) (ps : List Kd), gk = v.l.length - j ∧ j ≤ v.l.length ∧ i = .int .i64 j ∧ OS W w.heap.size v j av n cv ps wr)
    case atStart =>
      refine ⟨0, 0, none, 0, [], by simp, Nat.zero_le _, rfl, ?_⟩
      have e : ∀ w', w' = W → OS W w.heap.size v 0 none 0 0 [] w' := by
        rintro w' rfl
        exact ⟨HB.out.2.2.1, World.ownsRow_nil _ _ _ _, rfl, fun p hp => by simp at hp, by simp, Below.refl _ _, by have := HB.out.2.2.2.2; omega⟩
      exact e _ HW.out.symm
    case round =>
      obtain ⟨j, m, av, cv, ps, hgk, hj, rfl, H⟩ := hrel
      have HG := hid (And.intro hgk H)
      obtain ⟨c0, c9, c1, cs⟩ := box_cells ((H.low.block w.heap.size (by omega)).trans HB.out.1)
      obtain ⟨u0, u9, u1, us⟩ := box_cells H.obj
      clear hgk H
      have hpl : m = j := by have h1 := congrArg List.length HG.out.2.map; have h2 := HG.out.2.len; rw [List.length_map, List.length_take] at h1; omega
      subst hpl
      by_cases hlt : m < v.l.length
      · have hIr : Is wr v ao := HI.out.1.low (HB.out.2.2.2.1.low.trans (HG.out.2.low.mono (by omega)))
        obtain ⟨b, off, rfl, dh, ai, ci, ds, hi⟩ := hIr.get m hlt
        obtain ⟨d0, d9, d1⟩ := dh
        have HC := hid (HI.out.2.1 v.l[m] (List.getElem_mem hlt) ai ci wr.drew (hi.quiet (Kp.drew _)) (HI.out.2.2 m hlt))
        have HN := hid (take_snoc v.l m hlt)
        generalize hu : v.l[m] = x at *
        clear hu hi hIr
        have HR := hid HG.out.2.row
        have hzz := hid (show w.heap.size + 3 ≤ wr.heap.size from HG.out.2.sz)
        go_wp2
        go_region_law ((first
          | (refine step_append_lies _ (by rfl) _ _ _ (by rfl) (w.heap.size + 3) 31 i0 _ 4 48 Tryz.undV hi0 hz0 hz1 hz2 rfl (by omega) (.slice av m cv) m (tris ps) (by rfl) hr3 ⟨w3.heap.size, 0, none⟩ 1 1 (tri (x, xa, xc)) (by rfl) (by rfl) (news_at w3 _ 31) (tri_one _) (by omega) (by unfold maxLen; omega) (by omega) (by simp; omega) (w3.heap.size + 1) (by simp) ?_; intro gg cap2 w1 hown1 hgrow hat hlt1; have hD := own_step HG.out.2 HN.out q3 h3 hown1 hgrow hat; have e1 := hD.2.1; have e2 := hD.2.2; have HD := hid hD.1; clear hown1 hgrow hat hlt1 hD)
          | (go_simp; go_at_call 57; refine HC.out.mono ?_; rintro e w3 ⟨xa, xc, rfl, h3, q3⟩; have u3 : w3.cell? ⟨w.heap.size + 2, 3, none⟩ = some (.slice av m cv) := q3.cell us (fun e => e); have u4 : (w3.alloc (.cells #[.int .i64 x.kind, .int .i64 x.k, .int .i64 x.n, .slice xa x.l.length xc] 31)).cell? ⟨w.heap.size + 2, 3, none⟩ = some (.slice av m cv) := (Kp.alloc (F := fun _ => False) _ _).cell u3 (fun e => e); have hr3 := (q3.row (HR.out.drew) (fun _ _ e => e)).alloc (.cells #[.int .i64 x.kind, .int .i64 x.k, .int .i64 x.n, .slice xa x.l.length xc] 31); have z3 : w.heap.size + 3 ≤ w3.heap.size := Nat.le_trans hzz.out q3.size)))
        all_goals
          go_wp2
          go_roundg (v.l.length - (m + 1))
          case measure => have := HG.out.1; omega
          case rel => exact ⟨m + 1, _, _, _, _, rfl, by omega, by go_num, HD.out⟩
      · have hjl := hid (show m = v.l.length by omega)
        have hb1 := (HG.out.2.low.block (w.heap.size + 1) (by omega)).trans HB.out.2.1
        obtain ⟨r0, r9, r1, rs⟩ := box_cells hb1
        obtain ⟨f0, f1, f2, f3⟩ := box_free hb1
        have HF := hid (fun w' q => own_end (w' := w') HG.out.2 (by have := hjl.out; omega) HI.out.1.fit HB.out.2.2.2.1 q)
        have hjj : ((v.l.length : Nat) : Int) ≤ (m : Int) := by omega
        clear hb1
        have HJ := hid hj
        clear hj hlt
        go_wp2
        refine bodyPost_ret (v := .agg #[.int .i64 v.kind, .int .i64 v.k, .int .i64 v.n, .slice av m cv]) (by simp [results, Tryz.results57, go_sem, r0, r9, r1, rs]) rfl ?_
        refine ⟨av, cv, by rw [hjl.out], (HF.out _ ?_).1, (HF.out _ ?_).2.1⟩
        all_goals exact (((kp1 _ _ _ _).trans (kp1 _ _ _ _)).trans (kp1 _ _ _ _)).trans (kp1 _ _ _ _)
end Go.Proofs.YtpppgmkefpelaaaGreat.Ex
namespace Go.Proofs.YtpppgmkefpelaaaGreat.Ex
open Go.ChangeShapes Go.WideShapes Go.ChangeAt Go.RowKit
set_option maxRecDepth 8000 in
set_option maxHeartbeats 1000000 in
theorem size_any (f : Nat) : ∀ (v : V) (ao : Option Addr) (cap most : Nat) (w : World), most < f → most ≤ 1000 → Is w v ao →
    Calls Tryz.prog 55 #[.agg #[.int .i64 v.kind, .int .i64 v.k, .int .i64 v.n, .slice ao v.l.length cap], .int .i64 most] w fun e w' => ∃ r : Nat, e = .returned (.int .i64 r) ∧ 1 ≤ r ∧ r ≤ most + 1 ∧ (v.size ≤ most → r = v.size) ∧ (most < v.size → r = most + 1) ∧ Quiet w w' := by
  induction f with
  | zero => intro v ao cap most w h; omega
  | succ f ih =>
    intro v ao cap most w hf hm hI
    have hS := hid (size_eq v)
    go_enter Tryz.func55, Tryz.ntmps55
    go_wp2
    go_loopw [5, 6] (fun n i wr => ∃ (r j : Nat), n = .int .i64 r ∧ i = .int .i64 j ∧ j ≤ v.l.length ∧ j + 1 ≤ r ∧ r ≤ most + 1 ∧ (r ≤ most → r = 1 + sizes (v.l.take j)) ∧ (most < r → most < 1 + sizes (v.l.take j)) ∧ Quiet w wr ∧ wr.heap[w.heap.size]? = some (.cells #[.int .i64 v.kind, .int .i64 v.k, .int .i64 v.n, .slice ao v.l.length cap] 31 (0, 0))) (fun _ i _ => v.l.length - (intOf i).toNat)
    case atStart => exact ⟨1, 0, rfl, rfl, Nat.zero_le _, Nat.le_refl _, by omega, by simp [sizes_nil], by simp [sizes_nil], Kp.alloc _ _, heap_alloc_new w _⟩
    case round =>
      obtain ⟨r, j, rfl, rfl, hj, h1, h2, h3, h4, q, hb⟩ := hrel
      obtain ⟨c0, c9, c1, c2⟩ := box_cells hb
      have HB := hid hb
      clear hb c0 c9 c1
      by_cases hlt : j < v.l.length
      · by_cases hr : r ≤ most
        · have hr' : (r : Int) ≤ (most : Int) := by omega
          obtain ⟨b, off, rfl, dh, ai, ci, d2, hi⟩ := (hI.quiet q).get j hlt
          obtain ⟨d0, d9, d1⟩ := dh
          have HT := hid (And.intro (sizes_take v.l j hlt) (h3 hr))
          have HIH := hid (ih v.l[j] ai ci (most - r) wr (by omega) (by omega) hi)
          rw [show ((most - r : Nat) : Int) = (most : Int) - (r : Int) by omega] at HIH
          clear h3 h4
          generalize hu : v.l[j] = u at *
          clear hu hi hI
          go_wp2_with (go_at_call 55; refine HIH.out.mono ?_; rintro e w3 ⟨r2, rfl, k1, k2, k3, k4, q3⟩)
          refine ⟨⟨r + r2, j + 1, by go_num, by go_num, by omega, by omega, by omega, ?_, ?_, q.trans q3, (q3.block _ (lt_of_block HB.out) fun e => e).trans HB.out⟩, by simp [intOf]; omega⟩
          · intro h; have h5 := HT.out; omega
          · intro h; have h5 := HT.out; omega
        · have hr' : decide ((r : Int) ≤ (most : Int)) = false := by simp; omega
          have H := hid (And.intro (h4 (by omega)) (sizes_take_le v.l j))
          clear h3 h4
          go_wp2
          go_ret
          exact ⟨r, rfl, by omega, h2, fun h => by have h5 := H.out; have := hS.out; omega, fun h => by omega, q⟩
      · have hjl : j = v.l.length := by omega
        have hd : decide ((j : Int) < (v.l.length : Int)) = false := by simp; omega
        have H := hid (And.intro h3 h4)
        rw [hjl, List.take_length] at H
        clear h3 h4
        go_wp2
        go_ret
        exact ⟨r, rfl, by omega, h2, fun h => by have h5 := H.out; have := hS.out; omega, fun h => by have h5 := H.out; have := hS.out; omega, q⟩
end Go.Proofs.YtpppgmkefpelaaaGreat.Ex
