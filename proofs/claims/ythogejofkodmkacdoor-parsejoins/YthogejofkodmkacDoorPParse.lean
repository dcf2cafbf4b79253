/- Parse, as the program tells it. -/
import Derived.Test.YthogejofkodmkacDoorPRead
import Derived.Test.YthogejofkodmkacDoorTScan
import Derived.Test.YthogejofkodmkacDoorTell
import Derived.Test.YthogejofkodmkacDoorGPlain
namespace Go.Proofs.YthogejofkodmkacDoor
open Go.ChangeShapes Go.WideShapes Go.ChangeAt Go.RowKit
theorem var_lt {w : World} {n : String} {g : Nat} {cs : Array Value} (h : w.var? Tryd.prog n = some cs) (hg : Tryd.prog.globalNamed n = some g) : g < w.heap.size := by
  unfold World.var? at h
  rw [hg] at h
  simp only [Option.bind_some] at h
  rcases Nat.lt_or_ge g w.heap.size with h' | h'
  · exact h'
  · rw [Array.getElem?_eq_none h'] at h; simp at h
theorem Wds.rd {w w' : World} {rb : Nat} (h : Wds w) (q : Quiet w w') (hr : w.heap.size ≤ rb) : Rd w' rb :=
  ⟨h.quiet q, Nat.lt_of_lt_of_le (var_lt h.words Tryd.gW) hr, Nat.lt_of_lt_of_le (var_lt h.bins Tryd.gB) hr⟩
theorem scan_fine (l : List UInt8) : Fine (scan l).1 := by
  intro t ht
  have hg := scan_good l t ht
  refine ⟨hg, ?_⟩
  rcases hg with ⟨_, _, h⟩ | ⟨_, _, _, h⟩ | ⟨_, _, _, _, _, h, _⟩
  · rw [h]; unfold In64; omega
  · rw [h]; unfold In64; omega
  · exact parse_in (longOf_ok h).1
theorem scan_few_len (l : List UInt8) : (scan l).1.length ≤ l.length := Nat.le_trans (total_len (scan_good l)) (scan_total l)
theorem owns_fit {w : World} {base : Nat} {e : TypeId} {size : Nat} {ao : Option Addr} {n m cap : Nat} {xs : List Value} (h : w.ownsRow base e size (.slice ao m cap) n xs) : n ≤ cap := by
  rcases h.2 with ⟨h', rfl⟩ | ⟨g', cap', cur, h', hb, hg, hc, _⟩
  · exact Nat.zero_le _
  · simp only [Value.slice.injEq] at h'
    omega
theorem rs_begin {w1 w2 : World} {B : Nat} {ao : Option Addr} {cap : Nat} {e : Int} {ts : List Tk} (h : Toks w1 B 32 (.slice ao ts.length cap) ts) (q : Quiet w1 w2) : RS (w2.alloc (.cells #[.slice ao ts.length cap, .int .i64 e] 55)) w2.heap.size e ts := by
  refine ⟨ao, cap, heap_alloc_new w2 _, ?_, owns_fit h⟩
  intro i t ht
  obtain ⟨g, rfl, h0, h1, h2, h3⟩ := (h.quiet (q.trans (Kp.alloc w2 (.cells #[.slice ao ts.length cap, .int .i64 e] 55)))).tok rfl i t ht
  have hg : g < w2.heap.size := by
    obtain ⟨g', e', k0, _⟩ := (h.quiet q).tok rfl i t ht
    cases e'
    exact World.block_lt_of_cell? _ _ k0
  exact ⟨g, 0, rfl, hg, by rw [Nat.zero_add]; exact h0, by rw [Nat.zero_add]; exact h1, by rw [Nat.zero_add]; exact h2, by rw [Nat.zero_add]; exact h3⟩
theorem HoldL.clean {lo : Nat} {w : World} {l : List V} {ao : Option Addr} (h : HoldL lo w l ao) : Fo (cln w) l ao := h _ fun _ _ _ _ hc => cln_same hc
/-- What Parse tells. -/
def OutP (w : World) (p : List V × Int × Int) (e' : Ending) (w' : World) : Prop :=
  ∃ ao cap, e' = .returned (.tuple #[.agg #[.slice ao p.1.length cap], .agg #[.int .i64 p.2.1, .int .i64 p.2.2]]) ∧ Fo w' p.1 ao ∧ Quiet w w'
theorem two_q {w w' : World} {a b : Obj} (q : Quiet ((w.alloc a).alloc b) w') : w'.heap[w.heap.size]? = some a ∧ w'.heap[w.heap.size + 1]? = some b := by
  have h0 : ((w.alloc a).alloc b).heap[w.heap.size]? = some a := by rw [Below.heap_alloc _ _ _ (by simp)]; exact heap_alloc_new w _
  have h1 := heap_two w a b
  exact ⟨(q.block _ (lt_of_block h0) fun e => e).trans h0, (q.block _ (lt_of_block h1) fun e => e).trans h1⟩
theorem parse_told {w w' w2 : World} {o1 o2 : Obj} (q : Quiet ((w.alloc o1).alloc o2) w') (k : Kp (fun i => w.heap.size ≤ i) w' w2) : Quiet w w2 := ((Kp.alloc _ _).trans ((Kp.alloc _ _).trans q)).fresh k
theorem res_set (w0 w : World) (j o : Nat) (y : Value) : Kp (fun i => w0.heap.size ≤ i) w (w.setCell ⟨w0.heap.size + j, o, none⟩ y) := Kp.setCell w ⟨w0.heap.size + j, o, none⟩ y (Nat.le_add_right _ _)
theorem res_set0 (w0 w : World) (o : Nat) (y : Value) : Kp (fun i => w0.heap.size ≤ i) w (w.setCell ⟨w0.heap.size, o, none⟩ y) := Kp.setCell w ⟨w0.heap.size, o, none⟩ y (Nat.le_refl _)
set_option maxRecDepth 8000 in
set_option maxHeartbeats 2000000 in
theorem parse_scan (l : List UInt8) (hl : l.length ≤ 9000) (w : World) (hw : Laid w) (hc : (scan l).2.1 ≠ 0) : Calls Tryd.prog 11 #[.string ⟨l.toArray⟩] w (OutP w ([], (scan l).2.1, (scan l).2.2)) := by
  have HS := hid (fun o1 o2 => scan_any l hl ((w.alloc o1).alloc o2) ((hw.quiet (Kp.alloc _ _)).quiet (Kp.alloc _ _)))
  generalize hs : scan l = s at *
  obtain ⟨ts, c, a⟩ := s
  simp only at hc HS ⊢
  have hc1 : (c != 0) = true := by simpa using hc
  clear hw hs
  go_enter Tryd.func11, Tryd.ntmps11
  go_wp2_with (go_at_call 8; refine (HS.out _ _).mono ?_; rintro e' w1 ⟨v, rfl, hT, q1⟩; obtain ⟨hb0, hb1⟩ := two_q q1; have c0 := box1 hb0; have f0 := box_free hb0; obtain ⟨d0, d1⟩ := box2 hb1; have f1 := box_free hb1; have hl0 := lt_of_block hb0; have hl1 := lt_of_block hb1; clear hb0 hb1)
  go_region
  go_wp2
  refine bodyPost_ret (v := .tuple #[.agg #[.slice none 0 0], .agg #[.int .i64 c, .int .i64 a]]) (by simp [results, Tryd.results11, go_sem, c0, d0, d1, hl0, hl1]) rfl ⟨none, 0, rfl, Fo.nil _ _, parse_told q1 ?_⟩
  exact (((res_set0 w _ 0 _).trans (res_set w _ 1 0 _)).trans (res_set w _ 1 1 _)).trans ((Kp.alloc _ _).trans (Kp.drew _))
theorem parse_boxes {w w1 w2 : World} {o1 o2 o3 o4 : Obj} (q1 : Quiet ((w.alloc o1).alloc o2) w1) (q2 : Kr (w1.heap.size + 1) ((w1.alloc o3).alloc o4) w2) : w2.heap[w.heap.size]? = some o1 ∧ w2.heap[w.heap.size + 1]? = some o2 ∧ w2.heap[w1.heap.size]? = some o3 := by
  obtain ⟨h1, h2⟩ := two_q q1
  have l1 := lt_of_block h1
  have l2 := lt_of_block h2
  have h3 : ((w1.alloc o3).alloc o4).heap[w1.heap.size]? = some o3 := by rw [Below.heap_alloc _ _ _ (by simp)]; exact heap_alloc_new w1 _
  refine ⟨?_, ?_, ?_⟩
  · rw [q2.block _ (by simp; omega) (by omega), Below.heap_alloc _ _ _ (by simp; omega), Below.heap_alloc _ _ _ l1]; exact h1
  · rw [q2.block _ (by simp; omega) (by omega), Below.heap_alloc _ _ _ (by simp; omega), Below.heap_alloc _ _ _ l2]; exact h2
  · exact (q2.block _ (lt_of_block h3) (by omega)).trans h3
theorem parse_far {w w1 w2 w3 : World} {o1 o2 o3 o4 : Obj} (q1 : Quiet ((w.alloc o1).alloc o2) w1) (q2 : Kr (w1.heap.size + 1) ((w1.alloc o3).alloc o4) w2) (k : Kp (fun i => w.heap.size ≤ i) w2 w3) : Quiet w w3 := by
  have hs : w.heap.size ≤ w1.heap.size := by have := q1.size; simp at this; omega
  exact parse_told q1 (((Kp.alloc _ _).trans ((Kp.alloc _ _).trans (q2.mono fun i _ e => by omega))).trans k)
theorem far_set (w0 w : World) (x o : Nat) (y : Value) (h : w0.heap.size ≤ x) : Kp (fun i => w0.heap.size ≤ i) w (w.setCell ⟨x, o, none⟩ y) := Kp.setCell w ⟨x, o, none⟩ y h
/-- What was read stays while the box of the fault alone turns. -/
theorem parse_fo {w1 w2 w3 : World} {o3 o4 : Obj} {m : List V} {ao : Option Addr} (h : HoldL ((w1.alloc o3).alloc o4).heap.size w2 m ao) (k : Kp (fun i => i ≤ w1.heap.size) w2 w3) : Fo (cln w3) m ao := by
  have hz : ((w1.alloc o3).alloc o4).heap.size = w1.heap.size + 2 := by simp
  rw [hz] at h
  exact (h.step fun k' h2 h3 => k.block k' h3 (by omega)).clean
theorem set_two (w : World) (x : Nat) (a b : Value) (o : Obj) : Kp (fun i => i ≤ x) w (((w.setCell ⟨x, 0, none⟩ a).setCell ⟨x, 1, none⟩ b).alloc o) :=
  ((Kp.setCell (F := fun i => i ≤ x) w ⟨x, 0, none⟩ a (Nat.le_refl _)).trans (Kp.setCell _ ⟨x, 1, none⟩ b (Nat.le_refl _))).trans (Kp.alloc _ _)
theorem set_keeps {w w3 : World} {x k : Nat} {a b : Value} {o o' : Obj} (h : w.heap[k]? = some o') (hx : k ≠ x) (q : Quiet (((w.setCell ⟨x, 0, none⟩ a).setCell ⟨x, 1, none⟩ b).alloc o) w3) : w3.heap[k]? = some o' := by
  have hk : Kp (fun i => i = x) w (((w.setCell ⟨x, 0, none⟩ a).setCell ⟨x, 1, none⟩ b).alloc o) := ((kp_set _ _ _ _).trans (kp_set _ _ _ _)).trans (Kp.alloc _ _)
  have h1 := (hk.block k (lt_of_block h) hx).trans h
  exact (q.block k (lt_of_block h1) fun e => e).trans h1
theorem set_news {w w3 : World} {x : Nat} {a b : Value} {o : Obj} (q : Quiet (((w.setCell ⟨x, 0, none⟩ a).setCell ⟨x, 1, none⟩ b).alloc o) w3) : w3.heap[w.heap.size]? = some o := by
  have h1 := heap_alloc_new ((w.setCell ⟨x, 0, none⟩ a).setCell ⟨x, 1, none⟩ b) o
  have e : ((w.setCell ⟨x, 0, none⟩ a).setCell ⟨x, 1, none⟩ b).heap.size = w.heap.size := by simp [World.setCell]
  rw [e] at h1
  exact (q.block _ (lt_of_block h1) fun e => e).trans h1
set_option maxRecDepth 8000 in
set_option maxHeartbeats 4000000 in
theorem parse_read (l : List UInt8) (hl : l.length ≤ 9000) (w : World) (hw : Laid w) (hd : Wds w) (hc : (scan l).2.1 = 0) : Calls Tryd.prog 11 #[.string ⟨l.toArray⟩] w (OutP w (parseT (l.length : Int) (scan l).1)) := by
  have hz := bytes_size l
  have hF := scan_fine l
  have hn := scan_few_len l
  have HS := hid (fun o1 o2 => scan_any l hl ((w.alloc o1).alloc o2) ((hw.quiet (Kp.alloc _ _)).quiet (Kp.alloc _ _)))
  rw [scan_at hc] at HS
  generalize (scan l).1 = ts at *
  simp only at HS
  have hts : ts.length ≤ 9000 := by omega
  have HR := hid (fun (o1 o2 o3 : Obj) (ao : Option Addr) (cap : Nat) (w1 : World) (q1 : Quiet ((w.alloc o1).alloc o2) w1) (hT : Toks w1 ((w.alloc o1).alloc o2).heap.size 32 (.slice ao ts.length cap) ts) =>
    read_any (l.length : Int) (w1.heap.size + 1) ts ((w1.alloc o3).alloc (.cells #[.slice ao ts.length cap, .int .i64 (l.length : Int)] 55)) (by have := rs_begin (e := (l.length : Int)) hT (Kp.alloc w1 o3); simpa using this) (hd.rd (((Kp.alloc _ _).trans ((Kp.alloc _ _).trans q1)).trans ((Kp.alloc _ _).trans (Kp.alloc _ _))) (by have := q1.size; simp at this; omega)) hF hts)
  clear hw hd hc hF
  unfold parseT
  cases hm : modFrom (l.length : Int) [] ts with
  | error x =>
    have hx1 : (x.1 != 0) = true := by simpa using from_told x hm
    rw [hm] at HR
    clear hm
    go_enter Tryd.func11, Tryd.ntmps11
    go_wp2_with (first
      | (go_at_call 26; refine (HR.out _ _ _ _ _ w1 q1 hT).mono ?_; rintro e' w2 ⟨rfl, q2⟩; obtain ⟨hb0, hb1, hb2⟩ := parse_boxes q1 q2; have c0 := box1 hb0; have f0 := box_free hb0; obtain ⟨d0, d1⟩ := box2 hb1; have f1 := box_free hb1; obtain ⟨g0, g1⟩ := box2 hb2; have f2 := box_free hb2; have hl0 := lt_of_block hb0; have hl1 := lt_of_block hb1; have hl2 := lt_of_block hb2; clear hb0 hb1 hb2)
      | (go_at_call 8; refine (HS.out _ _).mono ?_; rintro e' w1 ⟨v, rfl, hT, q1⟩; obtain ⟨ao, cap, rfl⟩ := hT.shape; have hne : ¬ w.heap.size = w1.heap.size := (by have := q1.size; simp at this; omega); have hne1 : ¬ w.heap.size + 1 = w1.heap.size := (by have := q1.size; simp at this; omega)))
    go_region
    go_wp2
    have hle : w.heap.size ≤ w1.heap.size := by have := q1.size; simp at this; omega
    refine bodyPost_ret (v := .tuple #[.agg #[.slice none 0 0], .agg #[.int .i64 x.1, .int .i64 x.2]]) (by simp [results, Tryd.results11, go_sem, c0, d0, d1, hl0, hl1]) rfl ⟨none, 0, rfl, Fo.nil _ _, parse_far q1 q2 ?_⟩
    exact (((((far_set w _ _ 0 _ hle).trans (far_set w _ _ 1 _ hle)).trans (res_set0 w _ 0 _)).trans (res_set w _ 1 0 _)).trans (res_set w _ 1 1 _)).trans ((Kp.alloc _ _).trans (Kp.drew _))
  | ok y =>
    obtain ⟨m, r⟩ := y
    have hms : sizes m ≤ 20000 := by have := mod_ok _ _ _ _ _ _ hm; rw [sizes_nil] at this; omega
    rw [hm] at HR
    simp only
    have HC := hid (fun (ao : Option Addr) (cap : Nat) (w3 : World) (h : Fo (cln w3) m ao) => check_any m ao cap w3 h hms)
    clear hm
    by_cases hf : (modFault m).1 = 0
    · rw [if_pos hf]
      have HFZ := hid hf
      clear hf
      go_enter Tryd.func11, Tryd.ntmps11
      go_wp2_with (first
        | (go_at_call 27; refine (HC.out ao2 cap2 _ (HF.out _ (set_two w2 w1.heap.size _ _ _))).mono ?_; rintro e' w3 ⟨rfl, q3⟩; rw [HFZ.out]; have hm0 := set_news q3; have a0 := set_keeps HB.out.1 hne q3; have a1 := set_keeps HB.out.2 hne1 q3; have m0 := box1 hm0; have c0 := box1 a0; have f0 := box_free a0; obtain ⟨d0, d1⟩ := box2 a1; have f1 := box_free a1; have l0 := lt_of_block a0; have l1 := lt_of_block a1; have l2 := lt_of_block hm0; clear a0 a1 hm0)
        | (go_at_call 26; refine (HR.out _ _ _ _ _ w1 q1 hT).mono ?_; rintro e' w2 ⟨ao2, cap2, rfl, hH, q2⟩; obtain ⟨hb0, hb1, hb2⟩ := parse_boxes q1 q2; obtain ⟨g0, g1⟩ := box2 hb2; have f2 := box_free hb2; have hl2 := lt_of_block hb2; have HB := hid (And.intro hb0 hb1); have HF := hid (fun (w3 : World) (k : Kp (fun i => i ≤ w1.heap.size) w2 w3) => parse_fo hH k); clear hb0 hb1 hb2 hH)
        | (go_at_call 8; refine (HS.out _ _).mono ?_; rintro e' w1 ⟨v, rfl, hT, q1⟩; obtain ⟨ao, cap, rfl⟩ := hT.shape; have hne : ¬ w.heap.size = w1.heap.size := (by have := q1.size; simp at this; omega); have hne1 : ¬ w.heap.size + 1 = w1.heap.size := (by have := q1.size; simp at this; omega)))
      have hle : w.heap.size ≤ w1.heap.size := by have := q1.size; simp at this; omega
      refine bodyPost_ret (v := .tuple #[.agg #[.slice ao2 m.length cap2], .agg #[.int .i64 0, .int .i64 0]]) (by simp [results, Tryd.results11, go_sem, c0, d0, d1, l0, l1]) rfl ⟨ao2, cap2, rfl, ?_, ?_⟩
      · have hle1 : w.heap.size + 1 ≤ w1.heap.size := by have := q1.size; simp at this; omega
        refine (HF.out _ ?_).unclean
        refine ((set_two w2 w1.heap.size _ _ _).trans (Kp.mono q3 fun _ _ e => e.elim)).trans ?_
        exact (((Kp.setCell (F := fun i => i ≤ w1.heap.size) _ ⟨w.heap.size, 0, none⟩ _ hle).trans (Kp.setCell _ ⟨w.heap.size + 1, 0, none⟩ _ hle1)).trans (Kp.setCell _ ⟨w.heap.size + 1, 1, none⟩ _ hle1)).trans (Kp.alloc _ _)
      · refine parse_far q1 q2 ?_
        refine ((((far_set w w2 w1.heap.size 0 _ hle).trans (far_set w _ w1.heap.size 1 _ hle)).trans (Kp.alloc _ _)).trans (Kp.mono q3 fun _ _ e => e.elim)).trans ?_
        exact (((res_set0 w _ 0 _).trans (res_set w _ 1 0 _)).trans (res_set w _ 1 1 _)).trans (Kp.alloc _ _)
    · rw [if_neg hf]
      have hf1 : ((modFault m).1 != 0) = true := by simpa using hf
      go_enter Tryd.func11, Tryd.ntmps11
      go_wp2_with (first
        | (go_at_call 27; refine (HC.out ao2 cap2 _ (HF.out _ (set_two w2 w1.heap.size _ _ _))).mono ?_; rintro e' w3 ⟨rfl, q3⟩; have hm0 := set_news q3; have a0 := set_keeps HB.out.1 hne q3; have a1 := set_keeps HB.out.2 hne1 q3; have m0 := box1 hm0; have c0 := box1 a0; have f0 := box_free a0; obtain ⟨d0, d1⟩ := box2 a1; have f1 := box_free a1; have l0 := lt_of_block a0; have l1 := lt_of_block a1; have l2 := lt_of_block hm0; clear a0 a1 hm0)
        | (go_at_call 26; refine (HR.out _ _ _ _ _ w1 q1 hT).mono ?_; rintro e' w2 ⟨ao2, cap2, rfl, hH, q2⟩; obtain ⟨hb0, hb1, hb2⟩ := parse_boxes q1 q2; obtain ⟨g0, g1⟩ := box2 hb2; have f2 := box_free hb2; have hl2 := lt_of_block hb2; have HB := hid (And.intro hb0 hb1); have HF := hid (fun (w3 : World) (k : Kp (fun i => i ≤ w1.heap.size) w2 w3) => parse_fo hH k); clear hb0 hb1 hb2 hH)
        | (go_at_call 8; refine (HS.out _ _).mono ?_; rintro e' w1 ⟨v, rfl, hT, q1⟩; obtain ⟨ao, cap, rfl⟩ := hT.shape; have hne : ¬ w.heap.size = w1.heap.size := (by have := q1.size; simp at this; omega); have hne1 : ¬ w.heap.size + 1 = w1.heap.size := (by have := q1.size; simp at this; omega)))
      go_region
      go_wp2
      have hle : w.heap.size ≤ w1.heap.size := by have := q1.size; simp at this; omega
      refine bodyPost_ret (v := .tuple #[.agg #[.slice none 0 0], .agg #[.int .i64 (modFault m).1, .int .i64 (modFault m).2]]) (by simp [results, Tryd.results11, go_sem, c0, d0, d1, l0, l1]) rfl ⟨none, 0, rfl, Fo.nil _ _, parse_far q1 q2 ?_⟩
      refine ((((far_set w w2 w1.heap.size 0 _ hle).trans (far_set w _ w1.heap.size 1 _ hle)).trans (Kp.alloc _ _)).trans (Kp.mono q3 fun _ _ e => e.elim)).trans ?_
      exact (((res_set0 w _ 0 _).trans (res_set w _ 1 0 _)).trans (res_set w _ 1 1 _)).trans ((Kp.alloc _ _).trans (Kp.drew _))
theorem parse_any (l : List UInt8) (hl : l.length ≤ 9000) (w : World) (hw : Laid w) (hd : Wds w) : Calls Tryd.prog 11 #[.string ⟨l.toArray⟩] w (OutP w (parseB l)) := by
  unfold parseB
  split
  · rename_i h; exact parse_read l hl w hw hd h
  · rename_i h; exact parse_scan l hl w hw h
end Go.Proofs.YthogejofkodmkacDoor
