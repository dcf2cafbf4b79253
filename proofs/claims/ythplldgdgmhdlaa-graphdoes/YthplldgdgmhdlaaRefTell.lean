/- The contracts of the document's net: Gates, Target. -/
import Derived.Test.YthplldgdgmhdlaaRefLook
import Derived.BigQuiet
import Derived.Deep.RegionHeld3
namespace Go.Proofs.Ythplldgdgmhdlaa
open Go.ChangeShapes Go.WideShapes Go.ChangeAt Go.RowKit
theorem ints_cell {w : World} {base g cap : Nat} {l : List Int} (h : w.ownsRow base 3 1 (.slice (some ⟨g, 0, none⟩) l.length cap) l.length (ints l)) (k : Nat) (hk : k < l.length) : w.cell? ⟨g, k, none⟩ = some (.int .i64 l[k]) := by
  obtain ⟨g', e, d⟩ := owns_at h (by omega)
  cases e
  rw [d k (by omega)]
  simp [ints, hk]
section
variable {B : Nat} {w : World} {b : Nat} {vn vo : Value} {ns : List Nd} {os : List Bool}
set_option maxHeartbeats 2000000 in
theorem ngates_any (h : GS 58 B w b vn vo ns os) (hw : Wf ns os.length) (n : Int) :
    Calls Try.prog 38 #[.pointer (some ⟨b, 0, none⟩), .int .i64 n] w fun e w' => ∃ v', e = .returned v' ∧ w'.ownsRow w.heap.size 3 1 v' (gatesOf ns n).length (ints (gatesOf ns n)) ∧ Quiet w w' := by
  obtain ⟨i0, hi, hz0, hz1, hz2⟩ := info_parts Try.infoI
  have HL := way_len hw n
  have HN := h.ln
  have HG := hid h
  have HIL := hid (idx_len ns n)
  have HIA := hid (fun k (a : k < (idxOf ns n).length) (b : k < (wayOf ns n).length) => idx_at a b)
  have HM := hid (way_mem hw n)
  have hE := hid (show gatesOf ns n = gatesW (wayOf ns n) from rfl)
  go_enter Try.func38, Try.ntmps38
  go_wp2_with (go_at_call 58; refine (nway_any hw _ _ _ (Nat.lt_succ_self _) h).mono ?_; rintro e w2 ⟨v2, rfl, hr2, hq2, _⟩; obtain ⟨a2, cap2, rfl⟩ := owns_shape hr2)
  have HR := hid hr2
  have HQ := hid hq2
  clear hr2 hq2 h hw
  generalize wayOf ns n = ws at *
  generalize idxOf ns n = is at *
  go_loopw [5, 7] (fun v i wr => ∃ k : Nat, k ≤ is.length ∧ i = .int .i64 k ∧ wr.ownsRow w2.heap.size 3 1 v (gatesTo ws k).length (ints (gatesTo ws k)) ∧ Quiet w2 wr) (fun _ i _ => is.length - (intOf i).toNat)
  case atStart => exact ⟨0, Nat.zero_le _, rfl, World.ownsRow_nil _ _ _ _, Kp.refl _ _⟩
  case round =>
    obtain ⟨k, hk, rfl, hrow, hq⟩ := hrel
    by_cases hlti : k < is.length
    · have hlt : k < ws.length := by have := HIL.out; omega
      have hisl : is.length ≤ 80 := by have := HIL.out; omega
      have hr := hq.row HR.out (fun _ _ e => e)
      obtain ⟨g, cap, hv⟩ := lies_shape hr (by omega)
      simp only [Value.slice.injEq, true_and] at hv
      obtain ⟨rfl, rfl⟩ := hv
      have ck := ints_cell hr k (by omega)
      obtain ⟨i, ei, hi', en⟩ := HIA.out k (by omega) hlt
      rw [ei] at ck
      have hg := HG.out.quiet (HQ.out.trans hq)
      have c0 := hg.cell0
      have hrn := hg.rn
      obtain ⟨gn, capn, hvn⟩ := lies_shape hrn (by omega)
      subst hvn
      obtain ⟨_, d1, _⟩ := nd_cells' hrn i hi'
      rw [en] at d1
      obtain ⟨av, cv, rfl⟩ := owns_shape hrow
      obtain ⟨kk, hok⟩ := HM.out ws[k] (List.getElem_mem hlt)
      have hal : (gatesTo ws k).length ≤ 80 := by have := gates_len (ws.take k); simp [gatesTo] at this ⊢; omega
      have ha := hid (show gatesTo ws (k + 1) = gatesW (ws.take k ++ [ws[k]]) by unfold gatesTo; rw [take_snoc ws k hlt])
      have hlt' : (k : Int) < (is.length : Int) := by omega
      have hii : (i : Int) < (ns.length : Int) := by omega
      have hg0 := hok.g0
      have HS := hid (And.intro hrow hq)
      clear hr hrn hg hok HG ei en
      generalize ws[k] = x at *
      obtain ⟨xp, xg, xr, xc, xl, xf⟩ := x
      dsimp only at *
      by_cases hgate : xg = -1
      · subst hgate
        have hb := hid (ha.out.trans (gates_snoc_no (ws.take k) ⟨xp, -1, xr, xc, xl, xf⟩ rfl))
        clear hrow hq
        go_wp2
        go_big_quiet (fail)
        go_wp2
        exact ⟨⟨k + 1, by omega, by go_num, by rw [hb.out]; exact (Kp.drewN wr nq).row HS.out.1 (fun _ _ e => e), HS.out.2.trans (Kp.drewN _ _)⟩, by simp [intOf]; omega⟩
      · have hge : 0 ≤ xg := by
          rcases hg0 with e | e
          · exact absurd e hgate
          · simp [thereB] at e; omega
        have hb := hid (ha.out.trans (gates_snoc_yes (ws.take k) ⟨xp, xg, xr, xc, xl, xf⟩ hgate))
        go_wp2
        go_big_quiet (fail)
        go_wp2_with (at_builtin; refine wpList_append_lies _ rfl (.tmp 31) (.tmp 33) 70 rfl w2.heap.size 3 i0 _ 1 8 Try.undI hi hz0 hz1 hz2 rfl (by decide) _ (gatesTo ws k).length (ints (gatesTo ws k)) rfl (((Kp.drewN wr nq).row hrow (fun _ _ e => e)).alloc _) ⟨wr.heap.size, 0, none⟩ 1 1 [.int .i64 xg] rfl rfl (news_at (wr.drewN nq) _ 3) (by simp [Value.oneCell']) (by decide) (by unfold maxLen; omega) (by omega) (by have := hq.size; simp; omega) (wr.heap.size + 1) (by simp) ?_; intro g2 cap2 w1 hr1 hg1 hat hlt1; have hS := hid (gates_step (x := xg) (hq.trans (Kp.drewN wr nq)) ((Kp.drewN wr nq).row hrow (fun _ _ e => e)) hg1 hr1); clear hr1 hg1 hat hlt1)
        exact ⟨⟨k + 1, by omega, by go_num, by rw [hb.out]; exact hS.out.1, hS.out.2⟩, by simp [intOf]; omega⟩
    · have hke : k = ws.length := by have := HIL.out; omega
      subst hke
      have hg := hid (show gatesTo ws ws.length = gatesOf ns n by rw [hE.out]; simp [gatesTo])
      obtain ⟨av, cv, rfl⟩ := owns_shape hrow
      go_wp2
      go_ret
      rw [← hg.out]
      exact ⟨_, rfl, owns_mono hrow HQ.out.size, HQ.out.trans hq⟩
end
end Go.Proofs.Ythplldgdgmhdlaa
