/- A capability through one gate behind the other, as the program does it. -/
import Derived.Test.YtclkaamcoicgcaePassLaw
namespace Go.Proofs.Ytclkaamcoicgcae
open Go.ChangeShapes Go.WideShapes Go.ChangeAt Go.RowKit
open Gr (Nd Res nd0 thereB deriveOf addOf rightsN wayOf gatesOf gatesW targetOf Wf NdOk GS Goes Own StepP IntsAt)
/-- What a mover gave up with. -/
def gave (c : Int) : List PanicEntry := [{ v := .iface 80 (.int .i64 c), recovered := false }]
/-- What is told of a capability that went through gates. -/
def ThruQ (B b : Nat) (vn vo : Value) (R : Int × Int × List Nd) (os : List Bool) (w : World) (e : Ending) (w' : World) : Prop :=
  ∃ vn' vo', e = (if R.2.1 = 0 then .returned (.int .i64 R.1) else .panicked (gave R.2.1)) ∧ GS 70 B w' b vn' vo' R.2.2 os ∧ Goes b vn vo w vn' vo' w'
theorem thru_ok {B b : Nat} {vn vo vn' vo' : Value} {x : Int} {ns' : List Nd} {R : Int × Int × List Nd} {os : List Bool} {w w' : World} {e : Ending} (hR : R = (x, 0, ns')) (he : e = .returned (.int .i64 x)) (hg : GS 70 B w' b vn' vo' ns' os) (go : Goes b vn vo w vn' vo' w') : ThruQ B b vn vo R os w e w' := by
  subst hR
  exact ⟨vn', vo', by simpa using he, hg, go⟩
theorem thru_bad {B b : Nat} {vn vo vn' vo' : Value} {x c : Int} {ns' : List Nd} {R : Int × Int × List Nd} {os : List Bool} {w w' : World} {e : Ending} (hc : c ≠ 0) (hR : R = (x, c, ns')) (he : e = .panicked (gave c)) (hg : GS 70 B w' b vn' vo' ns' os) (go : Goes b vn vo w vn' vo' w') : ThruQ B b vn vo R os w e w' := by
  subst hR
  exact ⟨vn', vo', by simpa [hc] using he, hg, go⟩
theorem box_two {w : World} {x : Nat} {a b : Value} {t : TypeId} (h : w.heap[x]? = some (.cells #[a, b] t (0, 0))) : w.cell? ⟨x, 0, none⟩ = some a ∧ w.cell? ⟨x, 1, none⟩ = some b := by
  refine ⟨?_, ?_⟩ <;> simp [World.cell?, h]
set_option maxRecDepth 8000 in
set_option maxHeartbeats 4000000 in
theorem through_any {B b : Nat} {os : List Bool} (n : Int) (gs : List Int) (ga : Option Addr) (gc : Nat) (w : World) (vn vo : Value) (ns : List Nd) (h : GS 70 B w b vn vo ns os)
    (hG : SafeF (Own b vn vo) (fun w => IntsAt w ga gs) w) (hgl : gs.length ≤ 100) :
    Calls Try.prog 71 #[.agg #[.pointer (some ⟨b, 0, none⟩), .slice ga gs.length gc], .int .i64 n] w fun e w' => ThruQ B b vn vo (through os ns n gs) os w e w' := by
  obtain ⟨W, hW⟩ : ∃ W, W = w.alloc (.cells #[.pointer (some ⟨b, 0, none⟩), .slice ga gs.length gc] 65) := ⟨_, rfl⟩
  have qW : Quiet w W := by rw [hW]; exact Kp.alloc _ _
  have hB : W.heap[w.heap.size]? = some (.cells #[.pointer (some ⟨b, 0, none⟩), .slice ga gs.length gc] 65 (0, 0)) := by rw [hW]; exact heap_alloc_new w _
  have HBX := hid (fun (w' : World) (vn' vo' : Value) (g : Goes b vn vo W vn' vo' w') => (g.block hB (h.free_new _ (Nat.le_refl _))).1)
  have HG := hid (fun (w' : World) (vn' vo' : Value) (g : Goes b vn vo W vn' vo' w') => hG w' (g.after qW).kp)
  have HW := hid (And.intro hW (And.intro qW (h.quiet qW)))
  clear h hG hB qW hW
  go_enter Try.func71, Try.ntmps71
  go_wp2
  go_loopw [1, 12] (fun nd i wr => ∃ (k : Nat) (x : Int) (nsr : List Nd) (vn' vo' : Value), k ≤ gs.length ∧ nd = .int .i64 x ∧ i = .int .i64 k ∧ Hid (through os ns n gs = through os nsr x (gs.drop k)) ∧ Hid (GS 70 B wr b vn' vo' nsr os) ∧ Hid (Goes b vn vo W vn' vo' wr)) (fun _ i _ => gs.length - (intOf i).toNat)
  case atStart =>
    refine ⟨0, n, ns, vn, vo, Nat.zero_le _, rfl, rfl, rfl, ?_, ?_⟩
    · rw [← HW.out.1]; exact HW.out.2.2
    · rw [← HW.out.1]; exact Goes.refl _ _ _ _
  case round =>
    obtain ⟨k, x, nsr, vn', vo', hk, rfl, rfl, ht, hg, hgo⟩ := hrel
    obtain ⟨y0, y1⟩ := box_two (HBX.out _ _ _ hgo.out)
    by_cases hlt : k < gs.length
    · obtain ⟨gg, go, rfl, cg⟩ := (HG.out _ _ _ hgo.out) k hlt
      have HT := hid (through_step os nsr x gs k hlt)
      have hos := derive_os nsr os x 15 gs[k]
      have HC := hid (Gr.derive_any hg.out x 15 gs[k])
      generalize gs[k] = gk at *
      generalize deriveOf nsr os x 15 gk = R at *
      obtain ⟨rn, rc, rns, ros⟩ := R
      simp only at hos HT
      subst hos
      unfold StepP at HC
      simp only at HC
      by_cases hrc : rc = 0
      · subst hrc
        go_wp2_with (go_at_call 52; refine HC.out.mono ?_; rintro e w5 ⟨rfl, vn2, vo2, hg5, go5⟩; have HG5 := hid hg5; have HO5 := hid (hgo.out.trans go5); clear hg5 go5)
        refine ⟨⟨k + 1, rn, rns, vn2, vo2, by omega, rfl, by go_num, ?_, HG5, HO5⟩, by simp [intOf]; omega⟩
        rw [Hid, ht.out, HT.out]; simp
      · have hrb : (rc != 0) = true := by simpa using hrc
        have HRC := hid hrc
        clear hrc
        go_wp2_with (go_at_call 52; refine HC.out.mono ?_; rintro e w5 ⟨rfl, vn2, vo2, hg5, go5⟩; have HG5 := hid hg5; have HO5 := hid (hgo.out.trans go5); clear hg5 go5)
        have hE : through ros ns n gs = (0, rc, rns) := by
          have h1 := ht.out
          rw [HT.out, if_neg HRC.out] at h1
          exact h1
        exact ⟨rfl, thru_bad HRC.out hE rfl HG5.out (HO5.out.after HW.out.2.1)⟩
    · have hkn : k = gs.length := by omega
      subst hkn
      have hfin := ht.out
      rw [List.drop_length, through] at hfin
      have HF := hid hfin
      clear hfin
      go_wp2
      go_ret
      exact thru_ok HF.out rfl hg.out (hgo.out.after HW.out.2.1)
end Go.Proofs.Ytclkaamcoicgcae
