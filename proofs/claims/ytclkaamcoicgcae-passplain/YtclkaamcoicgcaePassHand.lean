/- The document's own answer: a value whose capabilities are through gates. -/
import Derived.Test.YtclkaamcoicgcaePassSafe
import Derived.Test.YtclkaamcoicgcaePassRef
import Derived.Laws.ResultCell
namespace Go.Proofs.Ytclkaamcoicgcae
open Go.ChangeShapes Go.WideShapes Go.ChangeAt Go.RowKit
open Gr (Nd Res nd0 thereB deriveOf addOf rightsN wayOf gatesOf gatesW targetOf Wf NdOk GS Goes Own StepP IntsAt)
/-- What is told of a value that is handed on: it lies in new memory beside the object. -/
def HandQ (t : TypeId) (B b : Nat) (vn vo : Value) (R : V × Int × List Nd) (ss : List Bool) (w : World) (e : Ending) (w' : World) : Prop :=
  ∃ ao cap vn' vo', e = .returned (.tuple #[.agg #[.int .i64 R.1.kind, .int .i64 R.1.n, .slice ao R.1.l.length cap], .int .i64 R.2.1]) ∧ SafeF (fun k => Own b vn' vo' k ∨ k < w.heap.size) (fun w => Is w R.1 ao) w' ∧ GS t B w' b vn' vo' R.2.2 ss ∧ Goes b vn vo w vn' vo' w'
theorem handQ_mk {t : TypeId} {B b : Nat} {vn vo vn' vo' : Value} {x : V} {c : Int} {ns' : List Nd} {R : V × Int × List Nd} {ss : List Bool} {w w' : World} {e : Ending} (ao : Option Addr) (cap : Nat) (hR : R = (x, c, ns')) (he : e = .returned (.tuple #[.agg #[.int .i64 x.kind, .int .i64 x.n, .slice ao x.l.length cap], .int .i64 c]))
    (hs : SafeF (fun k => Own b vn' vo' k ∨ k < w.heap.size) (fun w => Is w x ao) w') (hg : GS t B w' b vn' vo' ns' ss) (go : Goes b vn vo w vn' vo' w') : HandQ t B b vn vo R ss w e w' := by
  subst hR
  exact ⟨ao, cap, vn', vo', he, hs, hg, go⟩
theorem safe_leaf {F : Nat → Prop} {w : World} (x : V) (hf : x.fits) (hl : x.l = []) (ao : Option Addr) : SafeF F (fun w => Is w x ao) w := fun w' _ => Is.leaf w' x hf hl ao
theorem four_in : In64 4 := ⟨by decide, by decide⟩
theorem v0_fits : v0.fits := ⟨⟨by decide, by decide⟩, ⟨by decide, by decide⟩⟩
theorem three_set (w : World) (x : Nat) (a b c : Value) : Kp (fun k => k = x) w (((w.setCell ⟨x, 0, none⟩ a).setCell ⟨x, 1, none⟩ b).setCell ⟨x, 2, none⟩ c) := ((kp_set w x 0 a).trans (kp_set _ x 1 b)).trans (kp_set _ x 2 c)
theorem box_free3 {w : World} {x : Nat} {c : Array Value} {t : TypeId} (h : w.heap[x]? = some (.cells c t (0, 0))) : w.frozen? ⟨x, 0, none⟩ = false ∧ w.frozen? ⟨x, 1, none⟩ = false ∧ w.frozen? ⟨x, 2, none⟩ = false := ⟨frozen_of_row w x 0 _ t h, frozen_of_row w x 1 _ t h, frozen_of_row w x 2 _ t h⟩
theorem three_new (w : World) (o1 o2 o3 : Obj) : (((w.alloc o1).alloc o2).alloc o3).heap[w.heap.size]? = some o1 ∧ (((w.alloc o1).alloc o2).alloc o3).heap[w.heap.size + 1]? = some o2 ∧ (((w.alloc o1).alloc o2).alloc o3).heap[w.heap.size + 1 + 1]? = some o3 := by
  refine ⟨?_, ?_, ?_⟩
  · rw [Below.heap_alloc _ _ _ (by simp; omega), Below.heap_alloc _ _ _ (by simp)]; exact heap_alloc_new w o1
  · rw [Below.heap_alloc _ _ _ (by simp)]; exact heap_two w o1 o2
  · have := heap_two (w.alloc o1) o2 o3
    simpa using this
set_option maxRecDepth 8000 in
set_option maxHeartbeats 8000000 in
theorem hand_cap {B b : Nat} {ss : List Bool} (n : Int) (ao : Option Addr) (cap : Nat) (gs : List Int) (ga : Option Addr) (gc : Nat) (w : World) (vn vo : Value) (ns : List Nd) (h : GS 45 B w b vn vo ns ss) (hn : In64 n)
    (hG : SafeF (Own b vn vo) (fun w => IntsAt w ga gs) w) (hgl : gs.length ≤ 100) :
    Calls Try.prog 37 #[.pointer (some ⟨b, 0, none⟩), .agg #[.int .i64 4, .int .i64 n, .slice ao 0 cap], .slice ga gs.length gc] w fun e w' => HandQ 45 B b vn vo ((⟨4, n, []⟩ : V).handed ss gs ns) ss w e w' := by
  obtain ⟨W, hW⟩ : ∃ W, W = ((w.alloc (.cells #[.int .i64 4, .int .i64 n, .slice ao 0 cap] 25)).alloc (.cells #[.int .i64 0, .int .i64 0, .slice none 0 0] 25)).alloc (.cells #[.int .i64 4, .int .i64 n, .slice none 0 0] 25) := ⟨_, rfl⟩
  have qW : Quiet w W := by rw [hW]; exact ((Kp.alloc _ _).trans (Kp.alloc _ _)).trans (Kp.alloc _ _)
  have hB3 := three_new w (.cells #[.int .i64 4, .int .i64 n, .slice ao 0 cap] 25) (.cells #[.int .i64 0, .int .i64 0, .slice none 0 0] 25) (.cells #[.int .i64 4, .int .i64 n, .slice none 0 0] 25)
  rw [← hW] at hB3
  have hfree := fun k (hk : w.heap.size ≤ k) => h.free_new k hk
  have HBX := hid (fun (w' : World) (vn' vo' : Value) (g : Goes b vn vo W vn' vo' w') => And.intro (g.block hB3.1 (hfree _ (Nat.le_refl _))) (And.intro (g.block hB3.2.1 (hfree _ (by omega))) (g.block hB3.2.2 (hfree _ (by omega)))))
  have HG := hid (fun (w' : World) (vn' vo' : Value) (g : Goes b vn vo W vn' vo' w') => hG w' (g.after qW).kp)
  have HW := hid (And.intro hW (And.intro qW (h.quiet qW)))
  have HE := hid (handed_cap ss gs (v := ⟨4, n, []⟩) ns rfl rfl)
  clear h hG hfree hB3 qW hW
  go_enter Try.func37, Try.ntmps37
  go_wp2
  go_loopw [9, 10] (fun nd i wr => ∃ (k : Nat) (x : Int) (nsr : List Nd) (vn' vo' : Value), k ≤ gs.length ∧ nd = .int .i64 x ∧ i = .int .i64 k ∧ In64 x ∧ Hid (through ss ns n gs = through ss nsr x (gs.drop k)) ∧ Hid (GS 45 B wr b vn' vo' nsr ss) ∧ Hid (Goes b vn vo W vn' vo' wr)) (fun _ i _ => gs.length - (intOf i).toNat)
  case atStart =>
    refine ⟨0, n, ns, vn, vo, Nat.zero_le _, rfl, rfl, hn, rfl, ?_, ?_⟩
    · rw [← HW.out.1]; exact HW.out.2.2
    · rw [← HW.out.1]; exact Goes.refl _ _ _ _
  case round =>
    obtain ⟨k, x, nsr, vn', vo', hk, rfl, rfl, hx, ht, hg, hgo⟩ := hrel
    obtain ⟨⟨x0, f0⟩, ⟨x1, f1⟩, ⟨x2, f2⟩⟩ := HBX.out _ _ _ hgo.out
    obtain ⟨y0, y1, y2⟩ := box_cells x0
    have hzw := lt_of_block x2
    have hsW : w.heap.size ≤ W.heap.size := HW.out.2.1.size
    by_cases hlt : k < gs.length
    · obtain ⟨gg, go, rfl, cg⟩ := (HG.out _ _ _ hgo.out) k hlt
      have HT := hid (through_step ss nsr x gs k hlt)
      have hos := derive_os nsr ss x 15 gs[k]
      have hnu := derive_num nsr ss x 15 gs[k] hg.out.ln
      have HC := hid (Gr.nderive_any hg.out x 15 gs[k])
      generalize gs[k] = gk at *
      generalize deriveOf nsr ss x 15 gk = R at *
      obtain ⟨rn, rc, rns, ros⟩ := R
      simp only at hos hnu HT
      subst hos
      unfold StepP at HC
      simp only at HC
      by_cases hrc : rc = 0
      · subst hrc
        go_wp2_with (go_at_call 53; refine HC.out.mono ?_; rintro e w5 ⟨rfl, vn2, vo2, hg5, go5⟩; have HG5 := hid hg5; have HO5 := hid (hgo.out.trans go5); clear hg5 go5)
        refine ⟨⟨k + 1, rn, rns, vn2, vo2, by omega, rfl, by go_num, hnu, ?_, HG5, HO5⟩, by simp [intOf]; omega⟩
        rw [Hid, ht.out, HT.out]; simp
      · have hrb : (rc != 0) = true := by simpa using hrc
        have HRC := hid hrc
        clear hrc
        go_wp2_with (go_at_call 53; refine HC.out.mono ?_; rintro e w5 ⟨rfl, vn2, vo2, hg5, go5⟩; have HG5 := hid hg5; have HO5 := hid (hgo.out.trans go5); have HX := hid (HBX.out _ _ _ HO5.out); obtain ⟨c0, c1, c2⟩ := box_cells HX.out.2.1.1; obtain ⟨e0, e1, e2⟩ := box_free3 HX.out.2.1.1; have hz5 := lt_of_block HX.out.2.1.1; clear hg5 go5)
        refine bodyPost_ret (v := .tuple #[.agg #[.int .i64 0, .int .i64 0, .slice none 0 0], .int .i64 rc]) (by simp [results, Try.results37, go_sem, c0, c1, c2]) rfl ?_
        refine handQ_mk (vn' := vn2) (vo' := vo2) (x := v0) none 0 (ns' := rns) ?_ rfl (safe_leaf v0 v0_fits rfl none) ?_ ?_
        · rw [HE.out]
          have h1 := ht.out
          rw [HT.out, if_neg HRC.out] at h1
          rw [h1, if_neg HRC.out]
        · exact HG5.out.kept (three_set _ _ _ _ _) fun k hk e => HX.out.2.1.2 (e ▸ hk)
        · exact (HO5.out.after HW.out.2.1).fresh ((three_set _ _ _ _ _).mono fun k _ e => by omega)
    · have hkn : k = gs.length := by omega
      subst hkn
      have hfin := ht.out
      rw [List.drop_length, through] at hfin
      have HF := hid hfin
      obtain ⟨c0, c1, c2⟩ := box_cells x2
      obtain ⟨e0, e1, e2⟩ := box_free3 x2
      obtain ⟨wx, hwx⟩ : ∃ wx, wx = wr.setCell ⟨w.heap.size + 1 + 1, 1, none⟩ (.int .i64 x) := ⟨_, rfl⟩
      have kx : Kp (fun k => k = w.heap.size + 1 + 1) wr wx := by rw [hwx]; exact kp_set _ _ _ _
      have X0 := (kx.block _ (lt_of_block x0) (by omega)).trans x0
      have X1 := (kx.block _ (lt_of_block x1) (by omega)).trans x1
      have X2 : wx.heap[w.heap.size + 1 + 1]? = some (.cells #[.int .i64 4, .int .i64 x, .slice none 0 0] 25 (0, 0)) := by rw [hwx]; simp [World.setCell, Array.getElem?_modify, x2]
      have HX := hid (And.intro hwx (And.intro kx (And.intro f1 f2)))
      clear x0 x1 x2 f0 f1 f2 kx
      go_wp2
      rw [← hwx]
      clear hwx
      go_loopw [13] (fun i wy => i = .int .i64 0 ∧ wy = wx) (fun _ _ => 0)
      case atStart => exact ⟨rfl, rfl⟩
      case round =>
        obtain ⟨rfl, rfl⟩ := hrel
        obtain ⟨a0, a1, a2⟩ := box_cells X0
        obtain ⟨b0, b1, b2⟩ := box_cells X1
        obtain ⟨g0, g1, g2⟩ := box_free3 X1
        obtain ⟨d0, d1, d2⟩ := box_cells X2
        have hz1 := lt_of_block X1
        clear c0 c1 c2 e0 e1 e2 y0 y1 y2
        go_wp2
        refine bodyPost_ret (v := .tuple #[.agg #[.int .i64 4, .int .i64 x, .slice none 0 0], .int .i64 0]) (by simp [results, Try.results37, go_sem, b0, b1, b2]) rfl ?_
        refine handQ_mk (vn' := vn') (vo' := vo') (x := ⟨4, x, []⟩) none 0 (ns' := nsr) ?_ rfl (safe_leaf _ ⟨four_in, hx⟩ rfl none) ?_ ?_
        · rw [HE.out, HF.out]; simp
        · exact (hg.out.kept HX.out.2.1 fun k hk e => HX.out.2.2.2 (e ▸ hk)).kept (three_set _ _ _ _ _) fun k hk e => HX.out.2.2.1 (e ▸ hk)
        · exact (hgo.out.after HW.out.2.1).fresh ((HX.out.2.1.mono fun k _ e => by omega).trans ((three_set _ _ _ _ _).mono fun k _ e => by omega))
end Go.Proofs.Ytclkaamcoicgcae
