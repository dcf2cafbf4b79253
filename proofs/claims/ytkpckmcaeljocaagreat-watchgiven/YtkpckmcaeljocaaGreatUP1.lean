/- Parts. -/
import Derived.Test.YtkpckmcaeljocaaGreatUV5
import Derived.RegionDies
namespace Go.Proofs.YtkpckmcaeljocaaGreat
open Go.ChangeShapes Go.WideShapes Go.ChangeAt Go.RowKit
open Gr (Nd Res nd0 thereB deriveOf addOf rightsN wayOf gatesOf gatesW targetOf Wf NdOk GS Goes StepP)
theorem ints_get {w : World} {B n cap : Nat} {ao : Option Addr} {l : List Int} (h : w.ownsRow B 3 1 (.slice ao n cap) n (ints l)) (hn : l.length = n) (k : Nat) (hk : k < n) : ∃ g, ao = some ⟨g, 0, none⟩ ∧ w.cell? ⟨g, k, none⟩ = some (.int .i64 (l.getD k 0)) := by
  obtain ⟨g, e, d⟩ := owns_at h (by omega)
  refine ⟨g, e, ?_⟩
  rw [d k (by omega)]
  simp [ints, show k < l.length by omega]
def passL (ns : List Nd) (os : List Bool) (l : List Int) : Bool := l.all fun c => (rightsN ns os c).testBit 2
theorem passL_take (ns : List Nd) (os : List Bool) (l : List Int) (k : Nat) (hk : k < l.length) : passL ns os (l.take (k + 1)) = (passL ns os (l.take k) && (rightsN ns os (l.getD k 0)).testBit 2) := by
  unfold passL
  rw [take_snoc l k hk, List.all_append]
  simp [hk]
theorem passL_stop {ns : List Nd} {os : List Bool} {l : List Int} (k : Nat) (h : passL ns os (l.take k) = false) : passL ns os l = false := by
  unfold passL at h ⊢
  rw [← List.take_append_drop k l, List.all_append, h]; rfl
end Go.Proofs.YtkpckmcaeljocaaGreat
namespace Go.Proofs.YtkpckmcaeljocaaGreat
open Go.ChangeShapes Go.WideShapes Go.ChangeAt Go.RowKit
open Gr (Nd Res nd0 thereB deriveOf addOf rightsN wayOf gatesOf gatesW targetOf Wf NdOk GS Goes Own StepP IntsAt)
def HandQ (t : TypeId) (B b : Nat) (vn vo : Value) (R : V × Int × List Nd) (ss : List Bool) (w : World) (e : Ending) (w' : World) : Prop :=
  ∃ ao cap vn' vo', e = .returned (.tuple #[.agg #[.int .i64 R.1.kind, .int .i64 R.1.n, .slice ao R.1.l.length cap], .int .i64 R.2.1]) ∧ SafeF (fun k => Own b vn' vo' k ∨ k < w.heap.size) (fun w => Is w R.1 ao) w' ∧ GS t B w' b vn' vo' R.2.2 ss ∧ Goes b vn vo w vn' vo' w'
theorem handQ_mk {t : TypeId} {B b : Nat} {vn vo vn' vo' : Value} {x : V} {c : Int} {ns' : List Nd} {R : V × Int × List Nd} {ss : List Bool} {w w' : World} {e : Ending} (ao : Option Addr) (cap : Nat) (hR : R = (x, c, ns')) (he : e = .returned (.tuple #[.agg #[.int .i64 x.kind, .int .i64 x.n, .slice ao x.l.length cap], .int .i64 c]))
    (hs : SafeF (fun k => Own b vn' vo' k ∨ k < w.heap.size) (fun w => Is w x ao) w') (hg : GS t B w' b vn' vo' ns' ss) (go : Goes b vn vo w vn' vo' w') : HandQ t B b vn vo R ss w e w' := by
  subst hR
  exact ⟨ao, cap, vn', vo', he, hs, hg, go⟩
theorem safe_leaf {F : Nat → Prop} {w : World} (x : V) (hf : x.fits) (hl : x.l = []) (ao : Option Addr) : SafeF F (fun w => Is w x ao) w := fun w' _ => Is.leaf w' x hf hl ao
theorem four_in : In64 4 := ⟨by decide, by decide⟩
theorem v0_fits : v0.fits := ⟨⟨by decide, by decide⟩, ⟨by decide, by decide⟩⟩
theorem three_set (w : World) (x : Nat) (a b c : Value) : Kp (fun k => k = x) w (((w.setCell ⟨x, 0, none⟩ a).setCell ⟨x, 1, none⟩ b).setCell ⟨x, 2, none⟩ c) := ((kp_set w x 0 a).trans (kp_set _ x 1 b)).trans (kp_set _ x 2 c)
theorem box_free3 {w : World} {x : Nat} {c : Array Value} {t : TypeId} (h : w.heap[x]? = some (.cells c t (0, 0))) : w.frozen? ⟨x, 0, none⟩ = false ∧ w.frozen? ⟨x, 1, none⟩ = false ∧ w.frozen? ⟨x, 2, none⟩ = false := ⟨frozen_of_row w x 0 _ t h, frozen_of_row w x 1 _ t h, frozen_of_row w x 2 _ t h⟩
theorem three_new (w : World) (o1 o2 o3 : Obj) : (((w.alloc o1).alloc o2).alloc o3).heap[w.heap.size]? = some o1 ∧ (((w.alloc o1).alloc o2).alloc o3).heap[w.heap.size + 1]? = some o2 ∧ (((w.alloc o1).alloc o2).alloc o3).heap[w.heap.size + 1 + 1]? = some o3 := by
  refine ⟨?_, ?_, ?_⟩
  · rw [Below.heap_alloc _ _ _ (by simp; omega), Below.heap_alloc _ _ _ (by simp)]; exact heap_alloc_new w o1
  · rw [Below.heap_alloc _ _ _ (by simp)]; exact heap_two w o1 o2
  · have := heap_two (w.alloc o1) o2 o3
    simpa using this
structure HS (t : TypeId) (B b : Nat) (ss : List Bool) (gs : List Int) (ns0 : List Nd) (w : World) (vn vo : Value) (v : V) (ao : Option Addr) (cap j : Nat) (vn' vo' : Value) (nsr : List Nd) (av : Option Addr) (n cv : Nat) (ps : List Kd) (wr : World) : Prop where
  obj : GS t B wr b vn' vo' nsr ss
  goes : Goes b vn vo w vn' vo' wr
  b0 : wr.heap[w.heap.size]? = some (.cells #[.int .i64 v.kind, .int .i64 v.n, .slice ao v.l.length cap] 38 (0, 0))
  b1 : wr.heap[w.heap.size + 1]? = some (.cells #[.int .i64 0, .int .i64 0, .slice none 0 0] 38 (0, 0))
  b2 : wr.heap[w.heap.size + 1 + 1]? = some (.cells #[.int .i64 v.kind, .int .i64 v.n, .slice av n cv] 38 (0, 0))
  row : wr.ownsRow (w.heap.size + 3) 38 3 (.slice av n cv) n (tris ps)
  len : n = ps.length
  all : ∀ p ∈ ps, SafeF (fun k => Own b vn' vo' k ∨ k < w.heap.size + 3 ∨ (Value.slice av n cv).ownBlock = some k) (fun w => Is w p.1 p.2.1) wr
  map : handeds ss gs (v.l.take j) ns0 = (ps.map (·.1), 0, nsr)
theorem cell_on {w : World} {a : Addr} {x : Value} (h : w.cell? a = some x) (o : Obj) : (w.alloc o).cell? a = some x := (Kp.alloc (F := fun _ => False) w o).cell h fun e => e
theorem row_box {w : World} {B : Nat} {e : TypeId} {s n : Nat} {v : Value} {xs : List Value} (h : w.ownsRow B e s v n xs) {k : Nat} (hk : v.ownBlock = some k) : ∃ c, w.heap[k]? = some (.cells c e (0, 0)) := by
  rcases h.2 with ⟨rfl, _⟩ | ⟨g, cap, cur, rfl, _, hg, _⟩
  · simp [Value.ownBlock] at hk
  · simp [Value.ownBlock] at hk; subst hk; exact ⟨cur, hg⟩
section
variable {B b : Nat} {ss : List Bool} {gs : List Int} {ns0 : List Nd} {w : World} {vn vo : Value} {v : V} {ao : Option Addr} {cap j : Nat} {vn' vo' : Value} {nsr : List Nd} {av : Option Addr} {n cv : Nat} {ps : List Kd} {wr : World}
theorem HS.lt (H : HS 108 B b ss gs ns0 w vn vo v ao cap j vn' vo' nsr av n cv ps wr) : w.heap.size + 3 ≤ wr.heap.size := by have := lt_of_block H.b2; omega
end
theorem may_fault {ns : List Nd} {os : List Bool} {v : V} (h : mayOf ns os v = 0) : v.check = 0 := by
  unfold mayOf at h
  by_cases h1 : v.check = 0
  · exact h1
  · rw [if_neg h1] at h; exact absurd h h1
theorem safe_quiet {F : Nat → Prop} {P : World → Prop} {w w' : World} (h : SafeF F P w) (q : Quiet w w') : SafeF F P w' := h.step (q.mono fun _ _ e => e.elim) fun _ _ e => e
end Go.Proofs.YtkpckmcaeljocaaGreat
namespace Go.Proofs.YtkpckmcaeljocaaGreat
open Go.ChangeShapes Go.WideShapes Go.ChangeAt Go.RowKit
open Gr (Nd Res nd0 thereB deriveOf addOf rightsN wayOf gatesOf gatesW targetOf Wf NdOk GS Goes Own StepP IntsAt cellOf gateOf)
def MayC : Prop := ∀ (B b : Nat) (os : List Bool) (v : V) (ao : Option Addr) (cap : Nat) (w : World) (vn vo : Value) (ns : List Nd), GS 101 B w b vn vo ns os → Wf ns os.length → Is w v ao → v.size ≤ 500 →
    Calls Tryz.prog 183 #[.pointer (some ⟨b, 0, none⟩), .agg #[.int .i64 v.kind, .int .i64 v.n, .slice ao v.l.length cap]] w fun e w' => e = .returned (.int .i64 (mayOf ns os v)) ∧ Quiet w w'
def AcrossC : Prop := ∀ (B b : Nat) (os : List Bool) (gs : List Int) (v : V) (ao : Option Addr) (cap : Nat) (ga : Option Addr) (gc : Nat) (w : World) (vn vo : Value) (ns : List Nd), GS 101 B w b vn vo ns os → Wf ns os.length → v.size ≤ 500 → gs.length ≤ 100 →
    SafeF (Own b vn vo) (fun w => Is w v ao) w → SafeF (Own b vn vo) (fun w => IntsAt w ga gs) w →
    Calls Tryz.prog 180 #[.pointer (some ⟨b, 0, none⟩), .agg #[.int .i64 v.kind, .int .i64 v.n, .slice ao v.l.length cap], .slice ga gs.length gc] w fun e w' => HandQ 101 B b vn vo (passedOf ns os gs v) os w e w'
theorem small_in (z : Int) (h : 0 ≤ z ∧ z ≤ 100) : In64 z := ⟨by omega, by omega⟩
end Go.Proofs.YtkpckmcaeljocaaGreat
namespace Go.Proofs.YtkpckmcaeljocaaGreat
open Go.ChangeShapes Go.WideShapes Go.ChangeAt Go.RowKit
open Gr (Nd Res nd0 thereB deriveOf addOf rightsN wayOf gatesOf gatesW targetOf Wf NdOk GS Goes Own StepP IntsAt)
def gave (c : Int) : List PanicEntry := [{ v := .iface 251 (.int .i64 c), recovered := false }]
def ThruQ (B b : Nat) (vn vo : Value) (R : Int × Int × List Nd) (os : List Bool) (w : World) (e : Ending) (w' : World) : Prop :=
  ∃ vn' vo', e = (if R.2.1 = 0 then .returned (.int .i64 R.1) else .panicked (gave R.2.1)) ∧ GS 101 B w' b vn' vo' R.2.2 os ∧ Goes b vn vo w vn' vo' w'
theorem thru_ok {B b : Nat} {vn vo vn' vo' : Value} {x : Int} {ns' : List Nd} {R : Int × Int × List Nd} {os : List Bool} {w w' : World} {e : Ending} (hR : R = (x, 0, ns')) (he : e = .returned (.int .i64 x)) (hg : GS 101 B w' b vn' vo' ns' os) (go : Goes b vn vo w vn' vo' w') : ThruQ B b vn vo R os w e w' := by
  subst hR
  exact ⟨vn', vo', by simpa using he, hg, go⟩
theorem thru_bad {B b : Nat} {vn vo vn' vo' : Value} {x c : Int} {ns' : List Nd} {R : Int × Int × List Nd} {os : List Bool} {w w' : World} {e : Ending} (hc : c ≠ 0) (hR : R = (x, c, ns')) (he : e = .panicked (gave c)) (hg : GS 101 B w' b vn' vo' ns' os) (go : Goes b vn vo w vn' vo' w') : ThruQ B b vn vo R os w e w' := by
  subst hR
  exact ⟨vn', vo', by simpa [hc] using he, hg, go⟩
theorem box_two {w : World} {x : Nat} {a b : Value} {t : TypeId} (h : w.heap[x]? = some (.cells #[a, b] t (0, 0))) : w.cell? ⟨x, 0, none⟩ = some a ∧ w.cell? ⟨x, 1, none⟩ = some b := by
  refine ⟨?_, ?_⟩ <;> simp [World.cell?, h]
set_option maxRecDepth 8000 in
set_option maxHeartbeats 4000000 in
theorem through_any {B b : Nat} {os : List Bool} (n : Int) (gs : List Int) (ga : Option Addr) (gc : Nat) (w : World) (vn vo : Value) (ns : List Nd) (h : GS 101 B w b vn vo ns os)
    (hG : SafeF (Own b vn vo) (fun w => IntsAt w ga gs) w) (hgl : gs.length ≤ 100) :
    Calls Tryz.prog 191 #[.agg #[.pointer (some ⟨b, 0, none⟩), .slice ga gs.length gc], .int .i64 n] w fun e w' => ThruQ B b vn vo (through os ns n gs) os w e w' := by
  obtain ⟨W, hW⟩ : ∃ W, W = w.alloc (.cells #[.pointer (some ⟨b, 0, none⟩), .slice ga gs.length gc] 249) := ⟨_, rfl⟩
  have qW : Quiet w W := by rw [hW]; exact Kp.alloc _ _
  have hB : W.heap[w.heap.size]? = some (.cells #[.pointer (some ⟨b, 0, none⟩), .slice ga gs.length gc] 249 (0, 0)) := by rw [hW]; exact heap_alloc_new w _
  have HBX := hid (fun (w' : World) (vn' vo' : Value) (g : Goes b vn vo W vn' vo' w') => (g.block hB (h.free_new _ (Nat.le_refl _))).1)
  have HG := hid (fun (w' : World) (vn' vo' : Value) (g : Goes b vn vo W vn' vo' w') => hG w' (g.after qW).kp)
  have HW := hid (And.intro hW (And.intro qW (h.quiet qW)))
  clear h hG hB qW hW
  go_enter Tryz.func191, Tryz.ntmps191
  go_wp2
  go_loopw [1, 12] (fun nd i wr => ∃ (k : Nat) (x : Int) (nsr : List Nd) (vn' vo' : Value), k ≤ gs.length ∧ nd = .int .i64 x ∧ i = .int .i64 k ∧ Hid (through os ns n gs = through os nsr x (gs.drop k)) ∧ Hid (GS 101 B wr b vn' vo' nsr os) ∧ Hid (Goes b vn vo W vn' vo' wr)) (fun _ i _ => gs.length - (intOf i).toNat)
  case atStart =>
    refine ⟨0, n, ns, vn, vo, Nat.zero_le _, rfl, rfl, rfl, ?_, ?_⟩
    · rw [← HW.out.1]; exact HW.out.2.2
    · rw [← HW.out.1]; exact Goes.refl _ _ _ _
  case round =>
    obtain ⟨k, x, nsr, vn', vo', hk, rfl, rfl, ht, hg, hgo⟩ := hrel
    obtain ⟨y0, y1⟩ := box_two (HBX.out _ _ _ hgo.out)
    by_cases hlt : k < gs.length
    · obtain ⟨gg, go, rfl, cg⟩ := (HG.out _ _ _ hgo.out) k hlt
      have HT := hid (through_step os nsr x gs k hlt)
      have hos := derive_os nsr os x 15 gs[k]
      have HC := hid (Gr.derive_any hg.out x 15 gs[k])
      generalize gs[k] = gk at *
      generalize deriveOf nsr os x 15 gk = R at *
      obtain ⟨rn, rc, rns, ros⟩ := R
      simp only at hos HT
      subst hos
      unfold StepP at HC
      simp only at HC
      by_cases hrc : rc = 0
      · subst hrc
        go_wp2_with (go_at_call 173; refine HC.out.mono ?_; rintro e w5 ⟨rfl, vn2, vo2, hg5, go5⟩; have HG5 := hid hg5; have HO5 := hid (hgo.out.trans go5); clear hg5 go5)
        refine ⟨⟨k + 1, rn, rns, vn2, vo2, by omega, rfl, by go_num, ?_, HG5, HO5⟩, by simp [intOf]; omega⟩
        rw [Hid, ht.out, HT.out]; simp
      · have hrb : (rc != 0) = true := by simpa using hrc
        have HRC := hid hrc
        clear hrc
        go_wp2_with (go_at_call 173; refine HC.out.mono ?_; rintro e w5 ⟨rfl, vn2, vo2, hg5, go5⟩; have HG5 := hid hg5; have HO5 := hid (hgo.out.trans go5); clear hg5 go5)
        have hE : through ros ns n gs = (0, rc, rns) := by
          have h1 := ht.out
          rw [HT.out, if_neg HRC.out] at h1
          exact h1
        exact ⟨rfl, thru_bad HRC.out hE rfl HG5.out (HO5.out.after HW.out.2.1)⟩
    · have hkn : k = gs.length := by omega
      subst hkn
      have hfin := ht.out
      rw [List.drop_length, through] at hfin
      have HF := hid hfin
      clear hfin
      go_wp2
      go_ret
      exact thru_ok HF.out rfl hg.out (hgo.out.after HW.out.2.1)
def ValQ (B b : Nat) (vn vo : Value) (R : V × Int × List Nd) (os : List Bool) (w : World) (e : Ending) (w' : World) : Prop :=
  if R.2.1 = 0 then ∃ ao cap vn' vo', e = .returned (.agg #[.int .i64 R.1.kind, .int .i64 R.1.n, .slice ao R.1.l.length cap]) ∧ SafeF (fun k => Own b vn' vo' k ∨ k < w.heap.size) (fun w => Is w R.1 ao) w' ∧ GS 101 B w' b vn' vo' R.2.2 os ∧ Goes b vn vo w vn' vo' w'
  else ∃ vn' vo', e = .panicked (gave R.2.1) ∧ GS 101 B w' b vn' vo' R.2.2 os ∧ Goes b vn vo w vn' vo' w'
theorem valQ_ok {B b : Nat} {vn vo vn' vo' : Value} {x : V} {ns' : List Nd} {R : V × Int × List Nd} {os : List Bool} {w w' : World} {e : Ending} (ao : Option Addr) (cap : Nat) (hR : R = (x, 0, ns')) (he : e = .returned (.agg #[.int .i64 x.kind, .int .i64 x.n, .slice ao x.l.length cap]))
    (hs : SafeF (fun k => Own b vn' vo' k ∨ k < w.heap.size) (fun w => Is w x ao) w') (hg : GS 101 B w' b vn' vo' ns' os) (go : Goes b vn vo w vn' vo' w') : ValQ B b vn vo R os w e w' := by
  subst hR
  unfold ValQ
  rw [if_pos rfl]
  exact ⟨ao, cap, vn', vo', he, hs, hg, go⟩
theorem valQ_bad {B b : Nat} {vn vo vn' vo' : Value} {x : V} {c : Int} {ns' : List Nd} {R : V × Int × List Nd} {os : List Bool} {w w' : World} {e : Ending} (hc : c ≠ 0) (hR : R = (x, c, ns')) (he : e = .panicked (gave c))
    (hg : GS 101 B w' b vn' vo' ns' os) (go : Goes b vn vo w vn' vo' w') : ValQ B b vn vo R os w e w' := by
  subst hR
  unfold ValQ
  rw [if_neg hc]
  exact ⟨vn', vo', he, hg, go⟩
def ValR (B b : Nat) (os : List Bool) (gs : List Int) (v : V) : Prop := ∀ (ao : Option Addr) (cap : Nat) (ga : Option Addr) (gc : Nat) (w : World) (vn vo : Value) (ns : List Nd), GS 101 B w b vn vo ns os → v.fault = 0 → v.size ≤ 500 →
    SafeF (Own b vn vo) (fun w => Is w v ao) w → SafeF (Own b vn vo) (fun w => IntsAt w ga gs) w →
    Calls Tryz.prog 188 #[.agg #[.pointer (some ⟨b, 0, none⟩), .slice ga gs.length gc], .agg #[.int .i64 v.kind, .int .i64 v.n, .slice ao v.l.length cap]] w fun e w' => ValQ B b vn vo (v.handed os gs ns) os w e w'
theorem through_in {os : List Bool} (gs : List Int) : ∀ (ns : List Nd) (n : Int), ns.length ≤ 80 → In64 n → In64 (through os ns n gs).1 := by
  induction gs with
  | nil => intro ns n _ hn; exact hn
  | cons g gs ih =>
    intro ns n hl hn
    rw [through]
    split
    · refine ih _ _ ?_ (derive_num ns os n 15 g hl)
      unfold deriveOf addOf
      repeat' split
      all_goals (simp only [List.length_append, List.length_cons, List.length_nil]; omega)
    · exact small_in 0 (by decide)
set_option maxRecDepth 8000 in
set_option maxHeartbeats 8000000 in
theorem value_cap {B b : Nat} {os : List Bool} (n : Int) (ao : Option Addr) (cap : Nat) (gs : List Int) (ga : Option Addr) (gc : Nat) (w : World) (vn vo : Value) (ns : List Nd) (h : GS 101 B w b vn vo ns os) (hn : In64 n)
    (hG : SafeF (Own b vn vo) (fun w => IntsAt w ga gs) w) (hgl : gs.length ≤ 100) :
    Calls Tryz.prog 188 #[.agg #[.pointer (some ⟨b, 0, none⟩), .slice ga gs.length gc], .agg #[.int .i64 4, .int .i64 n, .slice ao 0 cap]] w fun e w' => ValQ B b vn vo ((⟨4, n, []⟩ : V).handed os gs ns) os w e w' := by
  obtain ⟨W, hW⟩ : ∃ W, W = ((w.alloc (.cells #[.pointer (some ⟨b, 0, none⟩), .slice ga gs.length gc] 249)).alloc (.cells #[.int .i64 4, .int .i64 n, .slice ao 0 cap] 38)).alloc (.cells #[.int .i64 0, .int .i64 0, .slice none 0 0] 38) := ⟨_, rfl⟩
  have qW : Quiet w W := by rw [hW]; exact ((Kp.alloc _ _).trans (Kp.alloc _ _)).trans (Kp.alloc _ _)
  have hB3 := three_new w (.cells #[.pointer (some ⟨b, 0, none⟩), .slice ga gs.length gc] 249) (.cells #[.int .i64 4, .int .i64 n, .slice ao 0 cap] 38) (.cells #[.int .i64 0, .int .i64 0, .slice none 0 0] 38)
  rw [← hW] at hB3
  have hfree := fun k (hk : w.heap.size ≤ k) => h.free_new k hk
  have HBX := hid (fun (w' : World) (vn' vo' : Value) (g : Goes b vn vo W vn' vo' w') => And.intro (g.block hB3.1 (hfree _ (Nat.le_refl _))) (And.intro (g.block hB3.2.1 (hfree _ (by omega))) (g.block hB3.2.2 (hfree _ (by omega)))))
  have HTH := hid (through_any n gs ga gc W vn vo ns (h.quiet qW) (safe_quiet hG qW) hgl)
  have HW := hid (And.intro hW (And.intro qW (h.quiet qW)))
  have HE := hid (handed_cap os gs (v := ⟨4, n, []⟩) ns rfl rfl)
  have hin := through_in (os := os) gs ns n h.ln hn
  have HSZ := hid qW.size
  simp only at HE
  clear h hG hfree hB3 qW
  rw [hW] at HTH
  generalize through os ns n gs = R at *
  obtain ⟨x, c, ns'⟩ := R
  simp only at hin HE
  unfold ThruQ at HTH
  simp only at HTH
  by_cases hc : c = 0
  · subst hc
    rw [if_pos rfl] at HTH HE
    clear hW
    go_enter Tryz.func188, Tryz.ntmps188
    go_wp2_with (go_at_call 191; refine HTH.out.mono ?_; rintro e w5 ⟨vn', vo', rfl, hg5, go5⟩; rw [← HW.out.1] at go5; have HG5 := hid (And.intro hg5 go5); have HX := hid (HBX.out _ _ _ go5); obtain ⟨c0, c1, c2⟩ := box_cells HX.out.2.1.1; obtain ⟨e0, e1, e2⟩ := box_free3 HX.out.2.1.1; obtain ⟨d0, d1, d2⟩ := box_cells HX.out.2.2.1; obtain ⟨f0, f1, f2⟩ := box_free3 HX.out.2.2.1; have hz5 := lt_of_block HX.out.2.2.1; clear hg5 go5)
    obtain ⟨wx, hwx⟩ : ∃ wx, wx = w5.setCell ⟨w.heap.size + 1, 1, none⟩ (.int .i64 x) := ⟨_, rfl⟩
    have kx : Kp (fun k => k = w.heap.size + 1) w5 wx := by rw [hwx]; exact kp_set _ _ _ _
    have X1 : wx.heap[w.heap.size + 1]? = some (.cells #[.int .i64 4, .int .i64 x, .slice ao 0 cap] 38 (0, 0)) := by rw [hwx]; simp [World.setCell, Array.getElem?_modify, HX.out.2.1.1]
    have X2 := (kx.block _ (lt_of_block HX.out.2.2.1) (by omega)).trans HX.out.2.2.1
    have HK := hid kx
    rw [← hwx]
    clear hwx kx c0 c1 c2 e0 e1 e2 d0 d1 d2 f0 f1 f2 hz5
    go_loopw [5, 19] (fun l i wy => l = .slice none 0 0 ∧ i = .int .i64 0 ∧ wy = wx) (fun _ _ _ => 0)
    case atStart => exact ⟨rfl, rfl, rfl⟩
    case round =>
      obtain ⟨rfl, rfl, rfl⟩ := hrel
      obtain ⟨c0, c1, c2⟩ := box_cells X1
      obtain ⟨e0, e1, e2⟩ := box_free3 X1
      obtain ⟨d0, d1, d2⟩ := box_cells X2
      obtain ⟨f0, f1, f2⟩ := box_free3 X2
      have hz1 := lt_of_block X1
      have hz2 := lt_of_block X2
      go_wp2
      refine bodyPost_ret (v := .agg #[.int .i64 4, .int .i64 x, .slice none 0 0]) (by simp [results, Tryz.results188, go_sem, d0, d1, d2]) rfl ?_
      refine valQ_ok (vn' := vn') (vo' := vo') (x := ⟨4, x, []⟩) none 0 (ns' := ns') HE.out rfl (safe_leaf _ ⟨four_in, hin⟩ rfl none) ?_ ?_
      · exact ((HG5.out.1.kept HK.out fun k hk e => HX.out.2.1.2 (e ▸ hk)).kept (kp_set _ (w.heap.size + 1) 2 _) fun k hk e => HX.out.2.1.2 (e ▸ hk)).kept (three_set _ _ _ _ _) fun k hk e => HX.out.2.2.2 (e ▸ hk)
      · exact (HG5.out.2.after HW.out.2.1).fresh (((HK.out.mono fun k _ e => by omega).trans ((kp_set _ (w.heap.size + 1) 2 _).mono fun k _ e => by omega)).trans ((three_set _ _ _ _ _).mono fun k _ e => by omega))
  · rw [if_neg hc] at HTH HE
    have HC := hid hc
    clear hW hc
    go_enter Tryz.func188, Tryz.ntmps188
    go_wp2_with (go_at_call 191; refine HTH.out.mono ?_; rintro e w5 ⟨vn', vo', rfl, hg5, go5⟩; rw [← HW.out.1] at go5)
    exact ⟨rfl, valQ_bad HC.out HE.out rfl hg5 (go5.after HW.out.2.1)⟩
structure MvS (B b : Nat) (os : List Bool) (gs : List Int) (ns0 : List Nd) (w : World) (vn vo : Value) (v : V) (ao : Option Addr) (cap : Nat) (ga : Option Addr) (gc j : Nat) (vn' vo' : Value) (nsr : List Nd) (av : Option Addr) (n cv : Nat) (ps : List Kd) (wr : World) : Prop where
  obj : GS 101 B wr b vn' vo' nsr os
  goes : Goes b vn vo w vn' vo' wr
  bm : wr.heap[w.heap.size]? = some (.cells #[.pointer (some ⟨b, 0, none⟩), .slice ga gs.length gc] 249 (0, 0))
  b0 : wr.heap[w.heap.size + 1]? = some (.cells #[.int .i64 v.kind, .int .i64 v.n, .slice ao v.l.length cap] 38 (0, 0))
  b1 : wr.heap[w.heap.size + 1 + 1]? = some (.cells #[.int .i64 0, .int .i64 0, .slice none 0 0] 38 (0, 0))
  row : wr.ownsRow (w.heap.size + 3) 38 3 (.slice av n cv) n (tris ps)
  len : n = ps.length
  all : ∀ p ∈ ps, SafeF (fun k => Own b vn' vo' k ∨ k < w.heap.size + 3 ∨ (Value.slice av n cv).ownBlock = some k) (fun w => Is w p.1 p.2.1) wr
  map : handeds os gs (v.l.take j) ns0 = (ps.map (·.1), 0, nsr)
section
variable {B b : Nat} {os : List Bool} {gs : List Int} {ns0 : List Nd} {w : World} {vn vo : Value} {v : V} {ao : Option Addr} {cap j : Nat} {ga : Option Addr} {gc : Nat} {vn' vo' : Value} {nsr : List Nd} {av : Option Addr} {n cv : Nat} {ps : List Kd} {wr : World}
theorem MvS.lt (H : MvS B b os gs ns0 w vn vo v ao cap ga gc j vn' vo' nsr av n cv ps wr) : w.heap.size + 3 ≤ wr.heap.size := by have := lt_of_block H.b1; omega
theorem MvS.step {w2 w3 w6 : World} {vn2 vo2 : Value} {ns2 : List Nd} {y : V} {a : Option Addr} {c g cap2 : Nat} {o1 : Obj} {x : V} (H : MvS B b os gs ns0 w vn vo v ao cap ga gc j vn' vo' nsr av n cv ps wr) (hj : j < v.l.length) (hx : v.l[j] = x) (hR : x.handed os gs nsr = (y, 0, ns2)) (q2 : Quiet wr w2)
    (hs : SafeF (fun k => Own b vn2 vo2 k ∨ k < w2.heap.size) (fun w => Is w y a) w3) (hg3 : GS 101 B w3 b vn2 vo2 ns2 os) (go2 : Goes b vn' vo' w2 vn2 vo2 w3)
    (hr : w6.ownsRow (w.heap.size + 3) 38 3 (.slice (some ⟨g, 0, none⟩) (n + 1) cap2) (n + 1) (tris ps ++ tri (y, a, c))) (hg : (w3.alloc o1).grownBy w6 (Value.slice av n cv).ownBlock) (hat : (Value.slice av n cv).ownBlock = some g ∨ g = w3.heap.size + 1) :
    MvS B b os gs ns0 w vn vo v ao cap ga gc (j + 1) vn2 vo2 ns2 (some ⟨g, 0, none⟩) (n + 1) cap2 (ps ++ [(y, a, c)]) w6 := by
  have hlt := H.lt
  have go3 := go2.after q2
  have h12 := q2.size
  have hrb : ∀ k, (Value.slice av n cv).ownBlock = some k → w.heap.size + 3 ≤ k ∧ k < wr.heap.size := fun k e => H.row.lt k e
  have h13 : wr.heap.size ≤ w3.heap.size := go3.kp.size
  have h23 : w2.heap.size ≤ w3.heap.size := go2.kp.size
  have nb : ∀ k c, wr.heap[k]? = some (.cells c 38 (0, 0)) → ¬ Own b vn' vo' k := fun k c hk => H.obj.free_type hk (by decide) (by decide) (by decide)
  have BM := go3.block H.bm (H.obj.free_type H.bm (by decide) (by decide) (by decide))
  have B0 := go3.block H.b0 (nb _ _ H.b0)
  have B1 := go3.block H.b1 (nb _ _ H.b1)
  have k36 : Kp (fun k => (Value.slice av n cv).ownBlock = some k) w3 w6 := (Kp.alloc w3 o1).trans (Kp.grown hg fun k _ e => e.symm)
  have hgl : w.heap.size + 3 ≤ g := by
    rcases hat with e | e
    · exact (hrb g e).1
    · omega
  have nrow : ∀ k, Own b vn2 vo2 k → (Value.slice av n cv).ownBlock ≠ some k := by
    intro k hk e
    obtain ⟨c, hc⟩ := row_box H.row e
    exact (go3.block hc (nb _ _ hc)).2 hk
  refine ⟨?_, ?_, ?_, ?_, ?_, ?_, ?_, ?_, ?_⟩
  · exact hg3.kept k36 fun k hk e => nrow k hk e
  · exact (H.goes.trans go3).fresh (k36.mono fun k _ e => by have := hrb k e; omega)
  · exact (k36.block _ (lt_of_block BM.1) (fun e => by have := hrb _ e; omega)).trans BM.1
  · exact (k36.block _ (lt_of_block B0.1) (fun e => by have := hrb _ e; omega)).trans B0.1
  · exact (k36.block _ (lt_of_block B1.1) (fun e => by have := hrb _ e; omega)).trans B1.1
  · rw [tris_app, tris_one]; exact hr
  · rw [List.length_append, H.len]; rfl
  · intro p hp
    rcases List.mem_append.1 hp with hp | hp
    · refine (H.all p hp).step ((go3.kp.mono fun k _ e => .inl e).trans (k36.mono fun k _ e => .inr (.inr e))) fun k hk e => ?_
      rcases e with e | e | e
      · rcases go3.own k e with e | e
        · exact .inl e
        · omega
      · exact .inr (.inl e)
      · simp [Value.ownBlock] at e
        subst e
        rcases hat with e | e
        · exact .inr (.inr e)
        · omega
    · simp at hp
      subst hp
      refine hs.step (k36.mono fun k _ e => ?_) fun k hk e => ?_
      · right
        have := (hrb k e).2
        omega
      · rcases e with e | e | e
        · exact .inl e
        · exact .inr (by omega)
        · simp [Value.ownBlock] at e
          subst e
          rcases hat with e | e
          · have := (hrb _ e).2; exact .inr (by omega)
          · omega
  · rw [handeds_take os gs v.l ns0 j hj _ _ H.map, hx, hR]
    simp
theorem MvS.done {w8 : World} (H : MvS B b os gs ns0 w vn vo v ao cap ga gc j vn' vo' nsr av n cv ps wr) (hf : v.fits) (k8 : Kp (fun k => k = w.heap.size + 1 ∨ k = w.heap.size + 1 + 1) wr w8) :
    SafeF (fun k => Own b vn' vo' k ∨ k < w.heap.size) (fun w => Is w ⟨v.kind, v.n, ps.map (·.1)⟩ av) w8 ∧ GS 101 B w8 b vn' vo' nsr os ∧ Goes b vn vo w vn' vo' w8 := by
  have nb : ∀ k c, wr.heap[k]? = some (.cells c 38 (0, 0)) → ¬ Own b vn' vo' k := fun k c hk => H.obj.free_type hk (by decide) (by decide) (by decide)
  refine ⟨fun w2 k2 => ⟨hf, ?_⟩, H.obj.kept k8 fun k hk e => ?_, H.goes.fresh (k8.mono fun k _ e => by omega)⟩
  · have hr8 := k8.row H.row fun k e e2 => by have := (H.row.lt k e).1; omega
    have hr2 := k2.row hr8 fun k e e2 => by
      rcases e2 with e2 | e2
      · obtain ⟨c, hc⟩ := row_box H.row e
        exact nb _ _ hc e2
      · have := (H.row.lt k e).1; omega
    refine fo_row (B := w.heap.size + 3) hr2 H.len fun p hp => ?_
    exact ((H.all p hp).step (F' := fun k => Own b vn' vo' k ∨ k < w.heap.size) (k8.mono fun k _ e => .inr (.inl (by omega))) fun k _ e => by
      rcases e with e | e
      · exact .inl e
      · exact .inr (.inl (by omega))) w2 k2
  · rcases e with e | e
    · exact nb _ _ H.b0 (e ▸ hk)
    · exact nb _ _ H.b1 (e ▸ hk)
end
set_option maxRecDepth 8000 in
set_option maxHeartbeats 8000000 in
theorem value_other {B b : Nat} {os : List Bool} {gs : List Int} (v : V) (ih : ∀ x ∈ v.l, ValR B b os gs x) (hk4 : v.kind ≠ 4) (ao : Option Addr) (cap : Nat) (ga : Option Addr) (gc : Nat) (w : World) (vn vo : Value) (ns : List Nd) (h : GS 101 B w b vn vo ns os) (hf : v.fault = 0) (hS : v.size ≤ 500)
    (hI : SafeF (Own b vn vo) (fun w => Is w v ao) w) (hG : SafeF (Own b vn vo) (fun w => IntsAt w ga gs) w) :
    Calls Tryz.prog 188 #[.agg #[.pointer (some ⟨b, 0, none⟩), .slice ga gs.length gc], .agg #[.int .i64 v.kind, .int .i64 v.n, .slice ao v.l.length cap]] w fun e w' => ValQ B b vn vo (v.handed os gs ns) os w e w' := by
  obtain ⟨i0, hi0, hz0, hz1, hz2⟩ := info_parts' Tryz.infoV
  have hfit := hI.now.fit
  have hlen : v.l.length ≤ 500 := by have := sizes_len v.l; have := size_eq v; omega
  have hsz : ∀ j (h : j < v.l.length), v.l[j].size ≤ 500 := fun j h => by have := size_get v.l j h; have := size_eq v; omega
  obtain ⟨W, hW⟩ : ∃ W, W = ((w.alloc (.cells #[.pointer (some ⟨b, 0, none⟩), .slice ga gs.length gc] 249)).alloc (.cells #[.int .i64 v.kind, .int .i64 v.n, .slice ao v.l.length cap] 38)).alloc (.cells #[.int .i64 0, .int .i64 0, .slice none 0 0] 38) := ⟨_, rfl⟩
  have qW : Quiet w W := by rw [hW]; exact ((Kp.alloc _ _).trans (Kp.alloc _ _)).trans (Kp.alloc _ _)
  have hB3 := three_new w (.cells #[.pointer (some ⟨b, 0, none⟩), .slice ga gs.length gc] 249) (.cells #[.int .i64 v.kind, .int .i64 v.n, .slice ao v.l.length cap] 38) (.cells #[.int .i64 0, .int .i64 0, .slice none 0 0] 38)
  rw [← hW] at hB3
  have H0 : MvS B b os gs ns w vn vo v ao cap ga gc 0 vn vo ns none 0 0 [] W := ⟨h.quiet qW, Goes.quiet _ _ _ qW, hB3.1, hB3.2.1, hB3.2.2, World.ownsRow_nil _ _ _ _, rfl, fun p hp => by simp at hp, by rw [List.take_zero, handeds_nil]; rfl⟩
  have HW := hid (And.intro hW H0)
  have HI := hid (And.intro hI (And.intro hG (And.intro ih (And.intro hsz (fun j (h : j < v.l.length) => fault_get hf j h)))))
  have HE := hid (handed_other os gs ns hk4)
  have n4 : (v.kind == 4) = false := by simpa using hk4
  have hk5 : decide (v.kind = 4) = false := by simpa using hk4
  clear h hI hG ih hsz hf qW hB3 hW H0 hS
  go_enter Tryz.func188, Tryz.ntmps188
  go_wp2
  go_loopw [5, 19] (fun l i wr => ∃ (j : Nat) (vn' vo' : Value) (nsr : List Nd) (av : Option Addr) (cv : Nat) (ps : List Kd), j ≤ v.l.length ∧ l = .slice av j cv ∧ i = .int .i64 j ∧ Hid (MvS B b os gs ns w vn vo v ao cap ga gc j vn' vo' nsr av j cv ps wr)) (fun _ i _ => v.l.length - (intOf i).toNat)
  case atStart =>
    refine ⟨0, vn, vo, ns, none, 0, [], Nat.zero_le _, rfl, rfl, ?_⟩
    rw [← HW.out.1]; exact HW.out.2
  case round =>
    obtain ⟨j, vn', vo', nsr, av, cv, ps, hj, rfl, rfl, H⟩ := hrel
    obtain ⟨m0, m1⟩ := box_two H.out.bm
    have hlt3 := H.out.lt
    by_cases hlt : j < v.l.length
    · obtain ⟨bb, oo, ca, cc, rfl, _, ⟨⟨d0, d1⟩, ds⟩, hIx⟩ := (HI.out.1.goes H.out.goes).kid j hlt
      have hIG := HI.out.2.1.goes H.out.goes
      have hX : ∀ w2 : World, Quiet wr w2 → ∀ (c : Nat), Calls Tryz.prog 188 #[.agg #[.pointer (some ⟨b, 0, none⟩), .slice ga gs.length gc], .agg #[.int .i64 v.l[j].kind, .int .i64 v.l[j].n, .slice ca v.l[j].l.length c]] w2 fun e w' => ValQ B b vn' vo' (v.l[j].handed os gs nsr) os w2 e w' :=
        fun w2 q2 c => HI.out.2.2.1 v.l[j] (List.getElem_mem hlt) ca c ga gc w2 vn' vo' nsr (H.out.obj.quiet q2) (HI.out.2.2.2.2 j hlt) (HI.out.2.2.2.1 j hlt) (safe_quiet hIx q2) (safe_quiet hIG q2)
      have HC := hid hX
      have HT := hid (handeds_take os gs v.l ns j hlt _ _ H.out.map)
      obtain ⟨x, hx⟩ : ∃ x, v.l[j] = x := ⟨_, rfl⟩
      rw [hx] at HC HT d0 d1 ds
      have HX := hid hx
      obtain ⟨y, c, ns2, hR⟩ : ∃ y c ns2, x.handed os gs nsr = (y, c, ns2) := ⟨_, _, _, rfl⟩
      have HR := hid hR
      unfold ValQ at HC
      rw [hR] at HC HT
      simp only at HC HT
      clear hx hR hIx hIG hX
      by_cases hc : c = 0
      · subst hc
        simp only [if_true] at HC
        have p0 := cell_on m0
        have p1 := cell_on m1
        have hq0 := hid (show Quiet wr (wr.alloc (.cells #[.int .i64 x.kind, .int .i64 x.n, .slice ca x.l.length cc] 38)) from Kp.alloc _ _)
        have hwz := H.out.lt
        go_wp2_with (first
          | (at_builtin; refine wpList_append_lies _ rfl (.tmp 23) (.tmp 27) 36 rfl (w.heap.size + 3) 38 i0 _ 3 40 Tryz.undV hi0 hz0 hz1 hz2 rfl (by decide) _ j (tris ps) rfl Hrow.out ⟨w3.heap.size, 0, none⟩ 1 1 (tri (y, a, cp)) rfl rfl (news_at w3 _ 38) (tri_one _) (by decide) (by unfold maxLen; omega) (by omega) (by simp; omega) (w3.heap.size + 1) (by simp) ?_; intro g6 cap6 w6 hr6 hg6 hat hlt6; have HD := hid (H.out.step hlt HX.out HR.out hq0.out hs3.out hg3.out go3.out hr6 hg6 hat); clear hr6 hg6 hat hlt6)
          | (go_at_call 188; refine (HC.out _ hq0.out cc).mono ?_; rintro e w3 ⟨a, cp, vn2, vo2, rfl, hs3, hg3, go3⟩; have hz3 : wr.heap.size + 1 ≤ w3.heap.size := (by have := go3.kp.size; simpa using this); have Hrow := hid (show (w3.alloc (.cells #[.int .i64 y.kind, .int .i64 y.n, .slice a y.l.length cp] 38)).ownsRow (w.heap.size + 3) 38 3 (.slice av j cv) j (tris ps) from (go3.kp.row (H.out.row.alloc _) (fun k e => by obtain ⟨c, hc⟩ := row_box H.out.row e; exact H.out.obj.free_type hc (by decide) (by decide) (by decide))).alloc _); have hs3 := hid hs3; have hg3 := hid hg3; have go3 := hid go3))
        exact ⟨⟨j + 1, vn2, vo2, ns2, _, _, _, by omega, rfl, by go_num, HD⟩, by simp [intOf]; omega⟩
      · have HCN := hid hc
        simp only [hc, if_false] at HC
        have p0 := cell_on m0
        have p1 := cell_on m1
        have hq0 := hid (show Quiet wr (wr.alloc (.cells #[.int .i64 x.kind, .int .i64 x.n, .slice ca x.l.length cc] 38)) from Kp.alloc _ _)
        clear hc
        go_wp2_with (go_at_call 188; refine (HC.out _ hq0.out cc).mono ?_; rintro e w3 ⟨vn2, vo2, rfl, hg3, go3⟩)
        have hE : v.handed os gs ns = (v0, c, ns2) := by
          have h1 := HT.out
          rw [if_neg HCN.out] at h1
          rw [HE.out, handeds_stop os gs v.l ns (j + 1) c ns2 HCN.out h1, if_neg HCN.out]
        exact ⟨rfl, valQ_bad HCN.out hE rfl hg3 (H.out.goes.trans (go3.after hq0.out))⟩
    · have hjl : j = v.l.length := by omega
      subst hjl
      have hmap := H.out.map
      rw [List.take_length] at hmap
      have HMP := hid hmap
      obtain ⟨c0, c1, c2⟩ := box_cells H.out.b0
      obtain ⟨e0, e1, e2⟩ := box_free3 H.out.b0
      obtain ⟨d0, d1, d2⟩ := box_cells H.out.b1
      obtain ⟨f0, f1, f2⟩ := box_free3 H.out.b1
      have hz1 := lt_of_block H.out.b1
      have HL := hid H.out.len
      clear hmap
      go_wp2
      refine bodyPost_ret (v := .agg #[.int .i64 v.kind, .int .i64 v.n, .slice av v.l.length cv]) (by simp [results, Tryz.results188, go_sem, d0, d1, d2]) rfl ?_
      have hD := H.out.done (w8 := _) hfit (((kp_set wr (w.heap.size + 1) 2 (.slice av v.l.length cv)).mono fun k _ e => .inl e).trans ((three_set _ (w.heap.size + 1 + 1) (.int .i64 v.kind) (.int .i64 v.n) (.slice av v.l.length cv)).mono fun k _ e => .inr e))
      refine valQ_ok (vn' := vn') (vo' := vo') (x := ⟨v.kind, v.n, ps.map (·.1)⟩) av cv (ns' := nsr) ?_ ?_ hD.1 hD.2.1 hD.2.2
      · rw [HE.out, HMP.out]; simp
      · rw [List.length_map, ← HL.out]
theorem value_any {B b : Nat} {os : List Bool} {gs : List Int} (hgl : gs.length ≤ 100) (v : V) : ValR B b os gs v := by
  induction v using V.ind' with
  | h v ih =>
    intro ao cap ga gc w vn vo ns h hf hS hI hG
    by_cases h4 : v.kind = 4
    · have hl := cap_leaf hf h4
      have hfit := hI.now.fit
      obtain ⟨k, n, l⟩ := v
      simp only at h4 hl
      subst h4
      subst hl
      exact value_cap n ao cap gs ga gc w vn vo ns h hfit.2 hG hgl
    · exact value_other v ih h4 ao cap ga gc w vn vo ns h hf hS hI hG
theorem four_small (q : Nat) (hq : q ≤ 15) : (bits .and .i64 (q : Int) 4 == 4) = q.testBit 2 := by
  have H : ∀ q : Fin 16, (bits .and .i64 (q.val : Int) 4 == 4) = q.val.testBit 2 := by decide +kernel
  exact H ⟨q, by omega⟩
theorem has4_any (q : Nat) (hq : q ≤ 15) (w : World) :
    Calls Tryz.prog 60 #[.int .i64 q, .int .i64 4] w fun e w' => e = .returned (.bool (q.testBit 2)) ∧ w' = w := by
  have hE := hid (four_small q hq)
  go_enter Tryz.func60, Tryz.ntmps60
  go_wp2
  go_ret
  exact ⟨by rw [← hE.out]; rfl, rfl⟩
set_option maxRecDepth 8000 in
set_option maxHeartbeats 4000000 in
theorem may_c : MayC := by
  intro B b os v ao cap w vn vo ns h hw hI hS
  have qW : Quiet w (w.alloc (.cells #[.int .i64 v.kind, .int .i64 v.n, .slice ao v.l.length cap] 38)) := Kp.alloc _ _
  have b0 := heap_alloc_new w (.cells #[.int .i64 v.kind, .int .i64 v.n, .slice ao v.l.length cap] 38)
  have HBX := hid (fun (w' : World) (q : Quiet (w.alloc (.cells #[.int .i64 v.kind, .int .i64 v.n, .slice ao v.l.length cap] 38)) w') => box_cells ((q.block _ (lt_of_block b0) fun e => e).trans b0))
  have H1 := hid (check_any v ao cap _ (hI.quiet qW) hS)
  have HI := hid (hI.quiet qW)
  have HG := hid (h.quiet qW)
  clear b0 hI h
  by_cases h1 : v.check = 0
  · have HM := hid (show mayOf ns os v = if v.gate then 9 else if passL ns os v.caps then 0 else 9 by unfold mayOf; rw [if_pos h1]; rfl)
    rw [h1] at H1
    have HC := hid h1
    clear h1
    cases hg : v.gate with
    | true =>
      rw [hg] at HM
      go_enter Tryz.func183, Tryz.ntmps183
      go_wp2_with (first
        | (go_at_call 185; refine (gates_any v ao cap _ (HI.out.quiet q2) HC.out).mono ?_; rintro e w3 ⟨rfl, q3⟩; rw [hg])
        | (go_at_call 105; refine H1.out.mono ?_; rintro e w2 ⟨rfl, q2⟩; obtain ⟨z0, z1, z2⟩ := HBX.out _ q2))
      go_ret
      exact ⟨by rw [HM.out]; rfl, qW.trans (q2.trans q3)⟩
    | false =>
      rw [hg] at HM
      go_enter Tryz.func183, Tryz.ntmps183
      go_wp2_with (first
        | (go_at_call 186; refine (caps_any v ao cap _ (HI.out.quiet Q3.out) HC.out).mono ?_; rintro e w4 ⟨sv, rfl, hr4, q4, _⟩; obtain ⟨ca, cc, rfl⟩ := owns_shape hr4; have Q4 := hid (Q3.out.trans q4); have HR := hid hr4; clear hr4 q4)
        | (go_at_call 185; refine (gates_any v ao cap _ (HI.out.quiet q2) HC.out).mono ?_; rintro e w3 ⟨rfl, q3⟩; rw [hg]; have Q3 := hid (q2.trans q3); obtain ⟨y0, y1, y2⟩ := HBX.out _ Q3.out)
        | (go_at_call 105; refine H1.out.mono ?_; rintro e w2 ⟨rfl, q2⟩; obtain ⟨z0, z1, z2⟩ := HBX.out _ q2))
      have hcl := caps_len v
      generalize v.caps = cs at *
      obtain ⟨n, hn⟩ : ∃ n, cs.length = n := ⟨_, rfl⟩
      rw [hn] at HR hcl ⊢
      have HN := hid hn
      have hn5 : n ≤ 500 := by omega
      clear hn q2 q3 z0 z1 z2 y0 y1 y2 hcl
      go_loopw [18] (fun i wr => ∃ k : Nat, k ≤ n ∧ i = .int .i64 k ∧ Hid (passL ns os (cs.take k) = true) ∧ Hid (Quiet w4 wr)) (fun i _ => n - (intOf i).toNat)
      case atStart => exact ⟨0, Nat.zero_le _, rfl, rfl, Kp.refl _ _⟩
      case round =>
        obtain ⟨k, hk, rfl, hp, hq⟩ := hrel
        by_cases hlt : k < n
        · have hr := hq.out.row HR.out (fun _ _ e => e)
          obtain ⟨g, rfl, ck⟩ := ints_get hr HN.out k hlt
          have HT := hid (passL_take ns os cs k (by rw [HN.out]; exact hlt))
          have hrl := Gr.rights_le ns os (cs.getD k 0)
          have HC := hid (Gr.rights_any (HG.out.quiet (Q4.out.trans hq.out)) hw (cs.getD k 0))
          generalize cs.getD k 0 = c at *
          generalize rightsN ns os c = r at *
          have HB := hid (fun w => has4_any r hrl w)
          clear hr
          cases hb : r.testBit 2 with
          | true =>
            rw [hb] at HB HT
            go_wp2_with (first
              | (go_at_call 60; refine (HB.out _).mono ?_; rintro e w6 ⟨rfl, h6⟩; replace h6 := h6.symm; subst h6)
              | (go_at_call 179; refine HC.out.mono ?_; rintro e w5 ⟨rfl, q5⟩))
            exact ⟨⟨k + 1, by omega, by go_num, by rw [Hid, HT.out, hp.out]; rfl, hq.out.trans q5⟩, by simp [intOf]; omega⟩
          | false =>
            rw [hb] at HB HT
            go_wp2_with (first
              | (go_at_call 60; refine (HB.out _).mono ?_; rintro e w6 ⟨rfl, h6⟩; replace h6 := h6.symm; subst h6)
              | (go_at_call 179; refine HC.out.mono ?_; rintro e w5 ⟨rfl, q5⟩))
            go_ret
            refine ⟨?_, qW.trans (Q4.out.trans (hq.out.trans q5))⟩
            have h9 := HM.out
            rw [passL_stop (k + 1) (by rw [HT.out]; simp)] at h9
            rw [h9]; rfl
        · have hkn : k = n := by omega
          subst hkn
          go_wp2
          go_ret
          refine ⟨?_, qW.trans (Q4.out.trans hq.out)⟩
          have h9 := HM.out
          have h8 := hp.out
          rw [← HN.out, List.take_length] at h8
          rw [h8] at h9
          rw [h9]; rfl
  · have HM := hid (show mayOf ns os v = v.check by unfold mayOf; rw [if_neg h1])
    have hne : (v.check != 0) = true := by simpa using h1
    go_enter Tryz.func183, Tryz.ntmps183
    go_wp2_with (go_at_call 105; refine H1.out.mono ?_; rintro e w2 ⟨rfl, q2⟩; obtain ⟨z0, z1, z2⟩ := HBX.out _ q2)
    go_ret
    exact ⟨by simp [HM.out], qW.trans q2⟩
end Go.Proofs.YtkpckmcaeljocaaGreat
