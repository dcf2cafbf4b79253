/- A value whose capabilities go through gates, as the program does it: capabilities. -/
import Derived.Test.YtclkaamcoicgcaePThrough
import Derived.RegionDies
namespace Go.Proofs.Ytclkaamcoicgcae
open Go.ChangeShapes Go.WideShapes Go.ChangeAt Go.RowKit
open Gr (Nd Res nd0 thereB deriveOf addOf rightsN wayOf gatesOf gatesW targetOf Wf NdOk GS Goes Own StepP IntsAt)
/-- What is told of a value: it lies in new memory beside the object; or it was given up. -/
def ValQ (B b : Nat) (vn vo : Value) (R : V × Int × List Nd) (os : List Bool) (w : World) (e : Ending) (w' : World) : Prop :=
  if R.2.1 = 0 then ∃ ao cap vn' vo', e = .returned (.agg #[.int .i64 R.1.kind, .int .i64 R.1.n, .slice ao R.1.l.length cap]) ∧ SafeF (fun k => Own b vn' vo' k ∨ k < w.heap.size) (fun w => Is w R.1 ao) w' ∧ GS 70 B w' b vn' vo' R.2.2 os ∧ Goes b vn vo w vn' vo' w'
  else ∃ vn' vo', e = .panicked (gave R.2.1) ∧ GS 70 B w' b vn' vo' R.2.2 os ∧ Goes b vn vo w vn' vo' w'
theorem valQ_ok {B b : Nat} {vn vo vn' vo' : Value} {x : V} {ns' : List Nd} {R : V × Int × List Nd} {os : List Bool} {w w' : World} {e : Ending} (ao : Option Addr) (cap : Nat) (hR : R = (x, 0, ns')) (he : e = .returned (.agg #[.int .i64 x.kind, .int .i64 x.n, .slice ao x.l.length cap]))
    (hs : SafeF (fun k => Own b vn' vo' k ∨ k < w.heap.size) (fun w => Is w x ao) w') (hg : GS 70 B w' b vn' vo' ns' os) (go : Goes b vn vo w vn' vo' w') : ValQ B b vn vo R os w e w' := by
  subst hR
  unfold ValQ
  rw [if_pos rfl]
  exact ⟨ao, cap, vn', vo', he, hs, hg, go⟩
theorem valQ_bad {B b : Nat} {vn vo vn' vo' : Value} {x : V} {c : Int} {ns' : List Nd} {R : V × Int × List Nd} {os : List Bool} {w w' : World} {e : Ending} (hc : c ≠ 0) (hR : R = (x, c, ns')) (he : e = .panicked (gave c))
    (hg : GS 70 B w' b vn' vo' ns' os) (go : Goes b vn vo w vn' vo' w') : ValQ B b vn vo R os w e w' := by
  subst hR
  unfold ValQ
  rw [if_neg hc]
  exact ⟨vn', vo', he, hg, go⟩
/-- What is told of value. -/
def ValR (B b : Nat) (os : List Bool) (gs : List Int) (v : V) : Prop := ∀ (ao : Option Addr) (cap : Nat) (ga : Option Addr) (gc : Nat) (w : World) (vn vo : Value) (ns : List Nd), GS 70 B w b vn vo ns os → v.fault = 0 → v.size ≤ 500 →
    SafeF (Own b vn vo) (fun w => Is w v ao) w → SafeF (Own b vn vo) (fun w => IntsAt w ga gs) w →
    Calls Try.prog 65 #[.agg #[.pointer (some ⟨b, 0, none⟩), .slice ga gs.length gc], .agg #[.int .i64 v.kind, .int .i64 v.n, .slice ao v.l.length cap]] w fun e w' => ValQ B b vn vo (v.handed os gs ns) os w e w'
theorem through_in {os : List Bool} (gs : List Int) : ∀ (ns : List Nd) (n : Int), ns.length ≤ 80 → In64 n → In64 (through os ns n gs).1 := by
  induction gs with
  | nil => intro ns n _ hn; exact hn
  | cons g gs ih =>
    intro ns n hl hn
    rw [through]
    split
    · refine ih _ _ ?_ (derive_num ns os n 15 g hl)
      unfold deriveOf addOf
      repeat' split
      all_goals (simp only [List.length_append, List.length_cons, List.length_nil]; omega)
    · exact small_in 0 (by decide)
set_option maxRecDepth 8000 in
set_option maxHeartbeats 8000000 in
theorem value_cap {B b : Nat} {os : List Bool} (n : Int) (ao : Option Addr) (cap : Nat) (gs : List Int) (ga : Option Addr) (gc : Nat) (w : World) (vn vo : Value) (ns : List Nd) (h : GS 70 B w b vn vo ns os) (hn : In64 n)
    (hG : SafeF (Own b vn vo) (fun w => IntsAt w ga gs) w) (hgl : gs.length ≤ 100) :
    Calls Try.prog 65 #[.agg #[.pointer (some ⟨b, 0, none⟩), .slice ga gs.length gc], .agg #[.int .i64 4, .int .i64 n, .slice ao 0 cap]] w fun e w' => ValQ B b vn vo ((⟨4, n, []⟩ : V).handed os gs ns) os w e w' := by
  obtain ⟨W, hW⟩ : ∃ W, W = ((w.alloc (.cells #[.pointer (some ⟨b, 0, none⟩), .slice ga gs.length gc] 65)).alloc (.cells #[.int .i64 4, .int .i64 n, .slice ao 0 cap] 25)).alloc (.cells #[.int .i64 0, .int .i64 0, .slice none 0 0] 25) := ⟨_, rfl⟩
  have qW : Quiet w W := by rw [hW]; exact ((Kp.alloc _ _).trans (Kp.alloc _ _)).trans (Kp.alloc _ _)
  have hB3 := three_new w (.cells #[.pointer (some ⟨b, 0, none⟩), .slice ga gs.length gc] 65) (.cells #[.int .i64 4, .int .i64 n, .slice ao 0 cap] 25) (.cells #[.int .i64 0, .int .i64 0, .slice none 0 0] 25)
  rw [← hW] at hB3
  have hfree := fun k (hk : w.heap.size ≤ k) => h.free_new k hk
  have HBX := hid (fun (w' : World) (vn' vo' : Value) (g : Goes b vn vo W vn' vo' w') => And.intro (g.block hB3.1 (hfree _ (Nat.le_refl _))) (And.intro (g.block hB3.2.1 (hfree _ (by omega))) (g.block hB3.2.2 (hfree _ (by omega)))))
  have HTH := hid (through_any n gs ga gc W vn vo ns (h.quiet qW) (safe_quiet hG qW) hgl)
  have HW := hid (And.intro hW (And.intro qW (h.quiet qW)))
  have HE := hid (handed_cap os gs (v := ⟨4, n, []⟩) ns rfl rfl)
  have hin := through_in (os := os) gs ns n h.ln hn
  have HSZ := hid qW.size
  simp only at HE
  clear h hG hfree hB3 qW
  rw [hW] at HTH
  generalize through os ns n gs = R at *
  obtain ⟨x, c, ns'⟩ := R
  simp only at hin HE
  unfold ThruQ at HTH
  simp only at HTH
  by_cases hc : c = 0
  · subst hc
    rw [if_pos rfl] at HTH HE
    clear hW
    go_enter Try.func65, Try.ntmps65
    go_wp2_with (go_at_call 71; refine HTH.out.mono ?_; rintro e w5 ⟨vn', vo', rfl, hg5, go5⟩; rw [← HW.out.1] at go5; have HG5 := hid (And.intro hg5 go5); have HX := hid (HBX.out _ _ _ go5); obtain ⟨c0, c1, c2⟩ := box_cells HX.out.2.1.1; obtain ⟨e0, e1, e2⟩ := box_free3 HX.out.2.1.1; obtain ⟨d0, d1, d2⟩ := box_cells HX.out.2.2.1; obtain ⟨f0, f1, f2⟩ := box_free3 HX.out.2.2.1; have hz5 := lt_of_block HX.out.2.2.1; clear hg5 go5)
    obtain ⟨wx, hwx⟩ : ∃ wx, wx = w5.setCell ⟨w.heap.size + 1, 1, none⟩ (.int .i64 x) := ⟨_, rfl⟩
    have kx : Kp (fun k => k = w.heap.size + 1) w5 wx := by rw [hwx]; exact kp_set _ _ _ _
    have X1 : wx.heap[w.heap.size + 1]? = some (.cells #[.int .i64 4, .int .i64 x, .slice ao 0 cap] 25 (0, 0)) := by rw [hwx]; simp [World.setCell, Array.getElem?_modify, HX.out.2.1.1]
    have X2 := (kx.block _ (lt_of_block HX.out.2.2.1) (by omega)).trans HX.out.2.2.1
    have HK := hid kx
    rw [← hwx]
    clear hwx kx c0 c1 c2 e0 e1 e2 d0 d1 d2 f0 f1 f2 hz5
    go_loopw [5, 19] (fun l i wy => l = .slice none 0 0 ∧ i = .int .i64 0 ∧ wy = wx) (fun _ _ _ => 0)
    case atStart => exact ⟨rfl, rfl, rfl⟩
    case round =>
      obtain ⟨rfl, rfl, rfl⟩ := hrel
      obtain ⟨c0, c1, c2⟩ := box_cells X1
      obtain ⟨e0, e1, e2⟩ := box_free3 X1
      obtain ⟨d0, d1, d2⟩ := box_cells X2
      obtain ⟨f0, f1, f2⟩ := box_free3 X2
      have hz1 := lt_of_block X1
      have hz2 := lt_of_block X2
      go_wp2
      refine bodyPost_ret (v := .agg #[.int .i64 4, .int .i64 x, .slice none 0 0]) (by simp [results, Try.results65, go_sem, d0, d1, d2]) rfl ?_
      refine valQ_ok (vn' := vn') (vo' := vo') (x := ⟨4, x, []⟩) none 0 (ns' := ns') HE.out rfl (safe_leaf _ ⟨four_in, hin⟩ rfl none) ?_ ?_
      · exact ((HG5.out.1.kept HK.out fun k hk e => HX.out.2.1.2 (e ▸ hk)).kept (kp_set _ (w.heap.size + 1) 2 _) fun k hk e => HX.out.2.1.2 (e ▸ hk)).kept (three_set _ _ _ _ _) fun k hk e => HX.out.2.2.2 (e ▸ hk)
      · exact (HG5.out.2.after HW.out.2.1).fresh (((HK.out.mono fun k _ e => by omega).trans ((kp_set _ (w.heap.size + 1) 2 _).mono fun k _ e => by omega)).trans ((three_set _ _ _ _ _).mono fun k _ e => by omega))
  · rw [if_neg hc] at HTH HE
    have HC := hid hc
    clear hW hc
    go_enter Try.func65, Try.ntmps65
    go_wp2_with (go_at_call 71; refine HTH.out.mono ?_; rintro e w5 ⟨vn', vo', rfl, hg5, go5⟩; rw [← HW.out.1] at go5)
    exact ⟨rfl, valQ_bad HC.out HE.out rfl hg5 (go5.after HW.out.2.1)⟩
end Go.Proofs.Ytclkaamcoicgcae
