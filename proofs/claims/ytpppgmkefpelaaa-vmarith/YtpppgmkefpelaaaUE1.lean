/- Memory that came in: none of its cells is frozen, though its blocks may be marked. Lists that were met, in memory whose blocks may be marked: whatever the answers are, there is one, and only draws are made. The contract of HasMore: lists of what is still to be looked at. What one place holds is one thing. The contract of IsDeeper: level by level, in memory that is not marked. The contracts of package code on an expression where it stands: its fault, what is in it. -/
import Derived.Test.YtpppgmkefpelaaaUE0
import Derived.Deep.Slices
import Derived.Test.YtpppgmkefpelaaaUESmall
namespace Go.Proofs.Ytpppgmkefpelaaa.Ex
open Go.ChangeShapes Go.WideShapes Go.ChangeAt Go.RowKit
/-- The world with nothing in its frozen cells. -/
def thw (w : World) : World := { w with heap := w.heap.map fun o => match o with | .cells c t fz => .cells (c.mapIdx fun i x => if fz.1 ≤ i ∧ i < fz.2 then .tuple #[] else x) t fz | o => o }
theorem thw_cell {w : World} {a : Addr} {x : Value} (h : (thw w).cell? a = some x) (hx : x ≠ .tuple #[]) : w.cell? a = some x ∧ w.frozen? a = false ∧ ∃ c t fz, w.heap[a.block]? = some (.cells c t fz) := by
  unfold World.cell? World.frozen? at *
  cases hb : w.heap[a.block]? with
  | none => simp [thw, hb] at h
  | some o =>
    cases o with
    | cells c t fz =>
      obtain ⟨lo, hi⟩ := fz
      simp only [thw, Array.getElem?_map, hb, Option.map_some] at h ⊢
      split at h
      · cases h
      · rename_i hs
        rw [Array.getElem?_mapIdx] at h
        rw [if_neg hs]
        cases hc : c[a.off]? with
        | none => rw [hc] at h; cases h
        | some y =>
          rw [hc] at h
          simp only [Option.map_some, Option.some.injEq] at h
          by_cases e : lo ≤ a.off ∧ a.off < hi
          · rw [if_pos e] at h; exact absurd h.symm hx
          · rw [if_neg e] at h
            refine ⟨by rw [h], ?_, _, _, _, rfl⟩
            cases h1 : (decide (lo ≤ a.off) && decide (a.off < hi)) with
            | false => rfl
            | true => simp at h1; exact absurd h1 e
    | _ => simp [thw, hb] at h
/-- A place that a pointer may name: none, or a cell that is not frozen. -/
def Cz (w : World) (a : Option Addr) : Prop := ∀ x, a = some x → w.frozen? x = false ∧ ∃ c t fz, w.heap[x.block]? = some (.cells c t fz)
theorem Fo.cz {w : World} {l : List V} {ao : Option Addr} (h : Fo (thw w) l ao) (hl : l ≠ []) : Cz w ao := by
  intro x hx
  have h0 : 0 < l.length := List.length_pos_iff.2 hl
  obtain ⟨b, o, e, hh, _⟩ := h.get 0 h0
  rw [e] at hx; cases hx
  have := (thw_cell hh.1 (by simp)).2
  simpa using this
section
variable {H : Type} {enc : TypeId × Value → H} {w : World}
end
end Go.Proofs.Ytpppgmkefpelaaa.Ex
namespace Go.Proofs.Ytpppgmkefpelaaa.Ex
open Go.ChangeShapes Go.WideShapes Go.ChangeAt Go.RowKit
/-- The keys of a map are such. -/
def Kz (w : World) (es : List MapEntry) : Prop := ∀ e ∈ es, e.val = .agg #[] ∧ ∃ b m, e.key = .agg #[.pointer b, .int .i64 m] ∧ Cz w b
theorem Cz.drewN {w : World} {a : Option Addr} (h : Cz w a) (k : Nat) : Cz (w.drewN k) a := h
theorem Kz.drewN {w : World} {es : List MapEntry} (h : Kz w es) (k : Nat) : Kz (w.drewN k) es := h
/-- The world with other keys. -/
def setMap (w : World) (r : Nat) (es : Array MapEntry) (clock : Nat) : World := { w with heap := w.heap.setIfInBounds r (.map es clock) }
theorem setMap_quiet {w : World} {r clock k : Nat} {es : Array MapEntry} : Kp (fun i => i = r) w (setMap (w.drewN k) r es clock) :=
  ⟨rfl, rfl, rfl, by simp [setMap], fun i _ hi => by simp [setMap, Ne.symm hi]⟩
theorem setMap_at {w : World} {r clock k : Nat} {es : Array MapEntry} (hb : r < w.heap.size) : (setMap (w.drewN k) r es clock).heap[r]? = some (.map es clock) := by
  simp [setMap, hb]
end Go.Proofs.Ytpppgmkefpelaaa.Ex
namespace Go.Proofs.Ytpppgmkefpelaaa.Ex
open Go.ChangeShapes Go.WideShapes Go.ChangeAt Go.RowKit
set_option maxRecDepth 8000 in
set_option maxHeartbeats 2000000 in
theorem more_any (l : List V) (ao : Option Addr) (cap than : Nat) (w : World) (hF : Fo w l ao) (hS : sizes l ≤ 20000) (hth : than ≤ 67108864) :
    Calls Try.prog 30 #[.slice ao l.length cap, .int .i64 than, .func (.func 29) #[] #[]] w fun e w' => e = .returned (.bool (decide (than < sizes l))) ∧ Quiet w w' := by
  obtain ⟨i0, hi, hz0, hz1, hz2⟩ := info_parts Try.infoL
  have hroot := hid hF
  have hll := sizes_len l
  have hlen5 : l.length ≤ 20000 := by omega
  have hrow := hid (row_one w 32 (slv (l, ao, cap)))
  clear hF
  go_enter Try.func30, Try.ntmps30
  go_wp2
  go_loopg [7, 8] (1 + sizes l) (fun gk p sv wr => ∃ (P : Nat) (ts : List Pl), p = .int .i64 P ∧ wr.ownsRow w.heap.size 32 1 sv ts.length (ts.map slv) ∧ Lie w ts ∧ tsz ts = gk ∧ gk ≤ 1 + sizes l ∧ P + trs ts = sizes l ∧ Below w.heap.size w wr)
  case atStart =>
    refine ⟨l.length, [(l, ao, cap)], rfl, hrow.out, ?_, tsz_one _, Nat.le_refl _, by rw [trs_one]; simp only; omega, (Below.refl _ _).alloc (Nat.le_refl _) _⟩
    intro x hx; simp at hx; subst hx; exact hroot.out
  case round =>
    obtain ⟨P, ts, rfl, hr, hL, hsz, hle, hP, hB⟩ := hrel
    have hsB := hB.size
    by_cases hbig : than < P
    · have hE := hid (show decide (than < sizes l) = true by simp; omega)
      have hd : decide ((P : Int) ≤ (than : Int)) = false := by simp; omega
      have hd2 : ¬ (P : Int) ≤ (than : Int) := by omega
      have hP5 : P ≤ 20000 := by omega
      clear hsz hP
      go_wp2
      go_ret
      exact ⟨by rw [hE.out]; simp, quiet_of hB⟩
    · have hd2 : (P : Int) ≤ (than : Int) := by omega
      rcases List.eq_nil_or_concat ts with rfl | ⟨ts, ⟨u, ua, uc⟩, rfl⟩
      · obtain ⟨av, cv, rfl⟩ := owns_shape hr
        have hE := hid (show decide (than < sizes l) = false by simp [trs_nil] at hP; simp; omega)
        have hP5 : P ≤ 20000 := by omega
        clear hsz hP
        go_wp2
        go_ret
        exact ⟨by rw [hE.out]; simp, quiet_of hB⟩
      · rw [List.concat_eq_append] at hr hL hsz hP
        rw [List.map_append, List.map_cons, List.map_nil, List.length_append, List.length_cons, List.length_nil, Nat.zero_add] at hr
        obtain ⟨g, cp, hv⟩ := lies_shape hr (by omega)
        subst hv
        obtain ⟨hr', hc'⟩ := owns_pop hr rfl
        have hc := hc' 0 (by decide)
        simp only [Nat.mul_one, Nat.add_zero, List.getElem?_cons_zero, slv] at hc
        have hu := hL (u, ua, uc) (by simp)
        simp only at hu
        have hL' : Lie w ts := fun x hx => hL x (by simp [hx])
        rw [tsz_app, tsz_one] at hsz
        rw [trs_app, trs_one] at hP
        simp only at hsz hP
        have htl := tsz_len ts
        have hul := sizes_len u
        have hcp := owns_cap hr
        have hul5 : u.length ≤ 20000 := by omega
        have htl5 : ts.length ≤ 20000 := by omega
        have hP5 : P ≤ 20000 := by omega
        have HL := hid hL'
        have HU := hid hu
        have HX := hid (And.intro hsz hP)
        clear hc' hr hL hL' hu hsz hP
        go_wp2
        go_loopw [7, 8, 38] (fun p sv i w2 => ∃ (j Q : Nat) (ks : List Pl), j ≤ u.length ∧ i = .int .i64 j ∧ p = .int .i64 (P + Q : Nat) ∧ w2.ownsRow w.heap.size 32 1 sv (ts ++ ks).length ((ts ++ ks).map slv) ∧ Lie w ks ∧ (Q + trs ks + j = sizes (u.take j) ∧ tsz ks ≤ sizes (u.take j) ∧ ks.length ≤ j) ∧ Below w.heap.size w w2) (fun _ _ i _ => u.length - (intOf i).toNat)
        case atStart => exact ⟨0, 0, [], Nat.zero_le _, rfl, rfl, by simpa using hr', fun x hx => by simp at hx, ⟨by simp [trs_nil, sizes_nil], by simp [tsz_nil], Nat.le_refl _⟩, hB⟩
        case round =>
          obtain ⟨j, Q, ks, hj, rfl, rfl, hrk, hLk, hks, hBk⟩ := hrel
          have htt := sizes_take_le u j
          have hlen6 : (ts ++ ks).length ≤ 40000 := by have := HX.out; simp only [List.length_append]; omega
          have hQ5 : Q ≤ 20000 := by have := HX.out; omega
          obtain ⟨nk, hnk⟩ : ∃ nk, nk = (ts ++ ks).length := ⟨_, rfl⟩
          rw [← hnk] at hrk hlen6
          have HNK := hid hnk
          clear hnk
          obtain ⟨av, cv, hsv⟩ := owns_shape hrk
          by_cases hlt : j < u.length
          · obtain ⟨bb, oo, rfl, dh, ca, cc, ds, hci⟩ := HU.out.get j hlt
            have hbb := World.block_lt_of_cell? w _ ds
            obtain ⟨d0, d9, d1⟩ := head_kept (low_kept hBk) dh
            have dsk := low_cell hBk ds hbb
            have hnx := sizes_take u j hlt
            generalize hcu : u[j] = c at *
            have HC := hid hci.fo
            have HN := hid (And.intro hnx (size_eq c))
            have HK := hid hks
            have hcl5 : c.l.length ≤ 20000 := by have := sizes_len c.l; have := size_eq c; have := sizes_take_le u (j + 1); have := HX.out; omega
            clear hcu hnx hks dh ds hci
            by_cases hcl : c.l.length = 0
            · subst hsv
              have hcl' : ¬ (0 : Int) < (c.l.length : Int) := by omega
              have HCL := hid hcl
              clear hcl
              go_wp2_with (go_at_call 29; refine (inside_any c ca cc _).mono ?_; rintro e w3 ⟨rfl, q3⟩)
              refine ⟨⟨j + 1, Q, ks, by omega, by go_num, by go_num, HNK.out ▸ (q3.row (hrk.alloc _) fun _ _ e => e), hLk, ?_, low_of (hBk.alloc hBk.size _) q3 (by have := hBk.size; simp; omega)⟩, by simp [intOf]; omega⟩
              have h0 : c.l = [] := List.eq_nil_of_length_eq_zero HCL.out
              have h1 := HN.out; have h2 := HK.out
              rw [h0, sizes_nil] at h1; exact ⟨by omega, by omega, by omega⟩
            · have hcl' : (0 : Int) < (c.l.length : Int) := by omega
              have HR := hid hrk
              subst hsv
              have hsk := hBk.size
              go_wp2_with (first
                | (at_builtin; refine wpList_append_lies _ rfl (.tmp 52) (.tmp 54) 103 rfl w.heap.size 32 i0 _ 1 24 Try.undL hi hz0 hz1 hz2 rfl (by decide) _ nk ((ts ++ ks).map slv) rfl (hr3.alloc _) ⟨w3.heap.size, 0, none⟩ 1 1 [slv (c.l, ca, cc)] rfl rfl (news_at w3 _ 32) (by simp [Value.oneCell', slv]) (by decide) (by unfold maxLen; omega) (by omega) (by simp; omega) _ rfl ?_; intro g2 cap2 w1 hr1 hg1 hat hlt1; have hS := hid (push_row (x := (c.l, ca, cc)) hB3 (by omega) hr3 HNK.out hr1 hg1); clear hr1 hg1 hat hlt1)
                | (go_at_call 29; refine (inside_any c ca cc _).mono ?_; rintro e w3 ⟨rfl, q3⟩; have hr3 := q3.row (HR.out.alloc _) (fun _ _ e => e); have hB3 := low_of (hBk.alloc hBk.size _) q3 (by simp; omega); have hs3 := hB3.size))
              refine ⟨⟨j + 1, Q + c.l.length, ks ++ [(c.l, ca, cc)], by omega, by go_num, by go_num, ?_, hLk.app ?_, ?_, hS.out.2⟩, by simp [intOf]; omega⟩
              · rw [← List.append_assoc]; exact hS.out.1
              · intro x hx; simp at hx; subst hx; exact HC.out
              · have h1 := HN.out; have h2 := HK.out; have h3 := sizes_len c.l
                rw [trs_app, trs_one, tsz_app, tsz_one, List.length_append]; simp only [List.length_cons, List.length_nil]; exact ⟨by omega, by omega, by omega⟩
          · have hjl : j = u.length := by omega
            subst hjl
            have HK := hid hks
            clear hks
            subst hsv
            go_wp2
            go_roundg (tsz (ts ++ ks))
            case measure =>
              have h2 := HK.out; have h3 := HX.out
              rw [List.take_length] at h2; rw [tsz_app]; omega
            case rel =>
              refine ⟨P + Q, ts ++ ks, by go_num, HNK.out ▸ hrk, HL.out.app hLk, rfl, ?_, ?_, hBk⟩
              · have h2 := HK.out; have h3 := HX.out
                rw [List.take_length] at h2; rw [tsz_app]; omega
              · have h2 := HK.out; have h3 := HX.out
                rw [List.take_length] at h2; rw [trs_app]; omega
end Go.Proofs.Ytpppgmkefpelaaa.Ex
namespace Go.Proofs.Ytpppgmkefpelaaa.Ex
open Go.ChangeShapes Go.WideShapes Go.ChangeAt Go.RowKit
theorem head_fun {w : World} {v u : V} {b off : Nat} (h : v.head w b off) (h' : u.head w b off) : v.kind = u.kind ∧ v.k = u.k ∧ v.n = u.n := by
  obtain ⟨a1, a2, a3⟩ := h; obtain ⟨b1, b2, b3⟩ := h'
  rw [a1] at b1; rw [a2] at b2; rw [a3] at b3
  simp only [Option.some.injEq, Value.int.injEq, true_and] at b1 b2 b3
  exact ⟨b1, b2, b3⟩
theorem at_fun {w : World} (v : V) : ∀ (u : V) (b off : Nat), v.at w b off → u.at w b off → v = u := by
  induction v using V.ind' with
  | h v ih =>
    intro u b off hv hu
    rw [at_iff] at hv hu
    obtain ⟨c0, ao, cap, c2, hI⟩ := hv
    obtain ⟨d0, ao', cap', d2, hU⟩ := hu
    rw [c2] at d2
    simp only [Option.some.injEq, Value.slice.injEq] at d2
    obtain ⟨rfl, hlen, _⟩ := d2
    rw [v_ext]
    refine ⟨head_fun c0 d0, ?_⟩
    refine List.ext_getElem hlen fun i h1 h2 => ?_
    obtain ⟨b1, o1, e1, k1⟩ := hI.fo i h1
    obtain ⟨b2, o2, e2, k2⟩ := hU.fo i h2
    rw [e1] at e2; cases e2
    exact ih _ (List.getElem_mem h1) _ _ _ k1 k2
end Go.Proofs.Ytpppgmkefpelaaa.Ex
namespace Go.Proofs.Ytpppgmkefpelaaa.Ex
open Go.ChangeShapes Go.WideShapes Go.ChangeAt Go.RowKit
/-- The deepest of some lists. -/
def mx (ls : List Pl) : Nat := ls.foldr (fun x m => max (deeps x.1) m) 0
theorem mx_nil : mx [] = 0 := rfl
theorem mx_app (a b : List Pl) : mx (a ++ b) = max (mx a) (mx b) := by
  induction a with
  | nil => simp [mx]
  | cons x a ih => simp only [mx, List.cons_append, List.foldr_cons] at ih ⊢; rw [ih]; omega
theorem mx_one (x : Pl) : mx [x] = deeps x.1 := by simp [mx]
theorem mx_mem {ls : List Pl} {x : Pl} (h : x ∈ ls) : deeps x.1 ≤ mx ls := by
  induction ls with
  | nil => simp at h
  | cons y ls ih =>
    simp only [mx, List.foldr_cons] at ih ⊢
    rcases List.mem_cons.1 h with rfl | h
    · omega
    · have := ih h; omega
theorem mx_take (ls : List Pl) (j : Nat) (h : j < ls.length) : mx (ls.take (j + 1)) = max (mx (ls.take j)) (deeps ls[j].1) := by
  rw [List.take_add_one, mx_app, List.getElem?_eq_getElem h]; simp [mx]
/-- How many things are in some lists. -/
def ssz (ts : List Pl) : Nat := (ts.map fun x => sizes x.1).sum
theorem ssz_app (a b : List Pl) : ssz (a ++ b) = ssz a + ssz b := by simp [ssz]
theorem ssz_one (x : Pl) : ssz [x] = sizes x.1 := by simp [ssz]
theorem ssz_take (ls : List Pl) (j : Nat) (h : j < ls.length) : ssz (ls.take (j + 1)) = ssz (ls.take j) + sizes ls[j].1 := by
  rw [List.take_add_one, ssz_app, List.getElem?_eq_getElem h]; simp [ssz]
theorem ssz_take_le (ls : List Pl) (j : Nat) : ssz (ls.take j) ≤ ssz ls := by
  have h : ssz ls = ssz (ls.take j ++ ls.drop j) := by rw [List.take_append_drop]
  rw [h, ssz_app]; omega
theorem ssz_len {ts : List Pl} (h : ∀ x ∈ ts, x.1 ≠ []) : ts.length ≤ ssz ts := by
  induction ts with
  | nil => simp [ssz]
  | cons x ts ih =>
    have h1 := ih fun y hy => h y (by simp [hy])
    have h2 : 1 ≤ sizes x.1 := by have := sizes_len x.1; have := List.length_pos_iff.2 (h x (by simp)); omega
    simp [ssz] at h1 ⊢; omega
/-- Lists that lie in memory that is not marked. -/
def LieC (w : World) (ts : List Pl) : Prop := ∀ x ∈ ts, Fo (cln w) x.1 x.2.1
def kv (x : Pl) : Value := .agg #[.pointer x.2.1, .int .i64 x.1.length]
/-- What there is of the next level. -/
structure DS (W Wr : World) (bl : Value) (ks : List Pl) (es : Array MapEntry) (clock : Nat) (w : World) : Prop where
  row : w.ownsRow (Wr.heap.size + 1) 32 1 bl ks.length (ks.map slv)
  lie : LieC W ks
  ne : ∀ x ∈ ks, x.1 ≠ []
  map : w.heap[Wr.heap.size]? = some (.map es clock)
  keys : ∀ e ∈ es.toList, e.val = .agg #[] ∧ ∃ x ∈ ks, e.key = kv x
  low : Below Wr.heap.size Wr w
theorem cp_of {W w : World} {B : Nat} {x : Pl} (hl : Fo (cln W) x.1 x.2.1) (hn : x.1 ≠ []) (hB : Below B W w) (hW : W.heap.size ≤ B) : Cp w x.2.1 := by
  intro a ha
  have h0 : 0 < x.1.length := List.length_pos_iff.2 hn
  obtain ⟨b, o, e, _⟩ := hl.get 0 h0
  rw [e] at ha hl; cases ha
  obtain ⟨c, t, hc⟩ := hl.clean hn
  exact ⟨c, t, (hB.block b (by have := lt_of_block hc; omega)).trans hc⟩
theorem DS.ks {W Wr w : World} {bl : Value} {ks : List Pl} {es : Array MapEntry} {clock : Nat} (H : DS W Wr bl ks es clock w) (hW : Below W.heap.size W Wr) : Ks w es.toList := by
  intro e he
  obtain ⟨hv, x, hx, hk⟩ := H.keys e he
  exact ⟨hv, _, _, hk, cp_of (H.lie x hx) (H.ne x hx) (hW.trans (H.low.mono hW.size)) (Nat.le_refl _)⟩
theorem DS.quiet {W Wr w w' : World} {bl : Value} {ks : List Pl} {es : Array MapEntry} {clock : Nat} (H : DS W Wr bl ks es clock w) (q : Quiet w w') : DS W Wr bl ks es clock w' :=
  ⟨q.row H.row fun _ _ e => e, H.lie, H.ne, (q.block _ (lt_of_block H.map) fun e => e).trans H.map, H.keys, H.low.trans (q.below (by have := lt_of_block H.map; omega) fun _ e => e.elim)⟩
/-- A key that is there is one of those lists. -/
theorem DS.met {W Wr w : World} {bl : Value} {ks : List Pl} {es : Array MapEntry} {clock : Nat} {x : Pl} (H : DS W Wr bl ks es clock w) (hx : Fo (cln W) x.1 x.2.1) (h : hasKey es.toList x.2.1 x.1.length = true) : deeps x.1 ≤ mx ks := by
  obtain ⟨e, he, hk⟩ := List.any_eq_true.1 h
  obtain ⟨_, y, hy, hek⟩ := H.keys e he
  rw [isKey_at hek] at hk
  simp only [Bool.and_eq_true, decide_eq_true_eq] at hk
  obtain ⟨h1, h2⟩ := hk
  have h2 : x.1.length = y.1.length := by omega
  have hl : x.1 = y.1 := by
    refine List.ext_getElem h2 fun i i1 i2 => ?_
    obtain ⟨b1, o1, e1, k1⟩ := hx i i1
    obtain ⟨b2, o2, e2, k2⟩ := H.lie y hy i i2
    rw [h1, e2] at e1; cases e1
    exact at_fun _ _ _ _ k1 k2
  rw [hl]; exact mx_mem hy
theorem DS.noNil {W Wr w : World} {bl : Value} {ks : List Pl} {es : Array MapEntry} {clock : Nat} (H : DS W Wr bl ks es clock w) : hasKey es.toList none 0 = false := by
  cases h : hasKey es.toList none 0 with
  | false => rfl
  | true =>
    obtain ⟨e, he, hk⟩ := List.any_eq_true.1 h
    obtain ⟨_, y, hy, hek⟩ := H.keys e he
    rw [isKey_at hek] at hk
    simp only [Bool.and_eq_true, decide_eq_true_eq] at hk
    obtain ⟨_, h2⟩ := hk
    exact absurd (List.length_eq_zero_iff.1 (by omega)) (H.ne y hy)
/-- One list more. -/
theorem DS.push {W Wr w w5 w1 : World} {bl : Value} {ks : List Pl} {es : Array MapEntry} {clock : Nat} {x : Pl} {g cap n : Nat} {o : Obj} (H : DS W Wr bl ks es clock w) (q : Quiet w w5) (hx : Fo (cln W) x.1 x.2.1) (hne : x.1 ≠ []) (hn : n = ks.length)
    (hr1 : w1.ownsRow (Wr.heap.size + 1) 32 1 (.slice (some ⟨g, 0, none⟩) (n + 1) cap) (n + 1) (ks.map slv ++ [slv x])) (hg : ((addKey w5 Wr.heap.size es clock x.2.1 x.1.length).alloc o).grownBy w1 bl.ownBlock) :
    DS W Wr (.slice (some ⟨g, 0, none⟩) (n + 1) cap) (ks ++ [x]) (es.push { key := kv x, val := .agg #[], born := clock }) (clock + 1) w1 := by
  subst hn
  have H5 := H.quiet q
  have hz5 : (addKey w5 Wr.heap.size es clock x.2.1 x.1.length).heap.size = w5.heap.size := by simp [addKey]
  have hlt := lt_of_block H5.map
  refine ⟨by simpa using hr1, fun y hy => ?_, fun y hy => ?_, ?_, fun e he => ?_, ?_⟩
  · rcases List.mem_append.1 hy with hy | hy
    · exact H.lie y hy
    · simp at hy; subst hy; exact hx
  · rcases List.mem_append.1 hy with hy | hy
    · exact H.ne y hy
    · simp at hy; subst hy; exact hne
  · rw [hg.block Wr.heap.size (by simp; omega) (fun e => by have := (H5.row.lt _ e.symm).1; omega), Below.heap_alloc _ _ _ (by omega)]
    exact addKey_at H5.map
  · simp only [Array.toList_push, List.mem_append, List.mem_singleton] at he
    rcases he with he | rfl
    · obtain ⟨h1, y, hy, h2⟩ := H.keys e he
      exact ⟨h1, y, by simp [hy], h2⟩
    · exact ⟨rfl, x, by simp, rfl⟩
  · refine ⟨?_, ?_, ?_, ?_, fun k hk => ?_⟩
    · exact (hg.os.trans rfl).trans H5.low.os
    · exact (hg.tape.trans rfl).trans H5.low.tape
    · exact (hg.output.trans rfl).trans H5.low.output
    · have := hg.size; have := H5.low.size; simp at *; omega
    · rw [hg.block k (by simp; omega) (fun e => by have := (H5.row.lt _ e.symm).1; omega), Below.heap_alloc _ _ _ (by omega), addKey_quiet.block k (by omega) (by omega)]
      exact H5.low.block k hk
end Go.Proofs.Ytpppgmkefpelaaa.Ex
namespace Go.Proofs.Ytpppgmkefpelaaa.Ex
open Go.ChangeShapes Go.WideShapes Go.ChangeAt Go.RowKit
set_option maxRecDepth 8000 in
set_option maxHeartbeats 8000000 in
theorem fault_any (v : V) (ao : Option Addr) (cap : Nat) (o F : Int) (w : World) : Calls Try.prog 34 #[.agg #[.int .i64 v.kind, .int .i64 v.k, .int .i64 v.n, .slice ao v.l.length cap, .int .i64 o, .int .i64 F]] w fun e w' => e = .returned (.int .i64 (fault1 F v o)) ∧ Quiet w w' := by
  have q1 : Quiet w (w.alloc (.cells #[.int .i64 v.kind, .int .i64 v.k, .int .i64 v.n, .slice ao v.l.length cap, .int .i64 o, .int .i64 F] 89)) := Kp.alloc _ _
  have HK := hid (faultK_any v ao cap o F)
  by_cases h1 : partsI v.kind < 0
  · have hE := hid (show fault1 F v o = 2 by simp [fault1, h1])
    go_enter Try.func34, Try.ntmps34
    go_wp2_with (go_at_call 44; refine (parts_any _ _).mono ?_; rintro e w2 ⟨rfl, rfl⟩)
    go_ret
    exact ⟨by rw [hE.out]; rfl, q1⟩
  by_cases h2 : ¬ (v.l.length : Int) = partsI v.kind
  · have hE := hid (show fault1 F v o = 5 by simp [fault1, h1, h2])
    have hd : decide ((v.l.length : Int) = partsI v.kind) = false := by simpa using h2
    have hd1 : ((v.l.length : Int) == partsI v.kind) = false := by simpa using h2
    have hd2 : ((v.l.length : Int) != partsI v.kind) = true := by simpa using h2
    go_enter Try.func34, Try.ntmps34
    go_wp2_with (go_at_call 44; refine (parts_any _ _).mono ?_; rintro e w2 ⟨rfl, rfl⟩)
    go_ret
    exact ⟨by rw [hE.out]; rfl, q1⟩
  have h2 : (v.l.length : Int) = partsI v.kind := Decidable.not_not.1 h2
  have g1 : decide ((v.l.length : Int) = partsI v.kind) = true := by simpa using h2
  have g2 : ((v.l.length : Int) == partsI v.kind) = true := by simpa using h2
  have g3 : ((v.l.length : Int) != partsI v.kind) = false := by simpa using h2
  have H2 := hid h2
  clear h2
  have hfl : fault1 F v o = if v.n ≠ 0 ∧ v.kind ≠ 2 then 5 else if faultK F v.kind v.k o ≠ 0 then faultK F v.kind v.k o else if v.kind = 5 ∧ 12 ≤ o then 3 else 0 := by
    unfold fault1; rw [if_neg h1, if_neg (by rw [H2.out]; simp)]
  obtain ⟨fk, hfk⟩ : ∃ fk, fk = faultK F v.kind v.k o := ⟨_, rfl⟩
  rw [← hfk] at hfl
  have hK := hid hfk.symm
  clear hfk
  have HF := hid hfl
  clear hfl
  by_cases h3 : v.n ≠ 0 ∧ v.kind ≠ 2
  · obtain ⟨h3, h4⟩ := h3
    have hE := hid (show fault1 F v o = 5 by rw [HF.out, if_pos ⟨h3, h4⟩])
    have b1 : (v.n != 0) = true := by simpa using h3
    have b2 : (v.kind != 2) = true := by simpa using h4
    go_enter Try.func34, Try.ntmps34
    go_wp2_with (go_at_call 44; refine (parts_any _ _).mono ?_; rintro e w2 ⟨rfl, rfl⟩)
    go_ret
    exact ⟨by rw [hE.out]; rfl, q1⟩
  have HF2 := hid (HF.out.trans (if_neg h3))
  clear HF
  by_cases h4 : fk = 0
  · subst h4
    by_cases h5 : v.kind = 5
    · have h6 : v.n = 0 := by
        by_cases h : v.n = 0
        · exact h
        · exact absurd ⟨h, by omega⟩ h3
      by_cases h7 : 12 ≤ o
      · have hE := hid (show fault1 F v o = 3 by rw [HF2.out]; simp [h5, h7])
        obtain ⟨kind, k, n, l⟩ := v
        simp only at h5 h6
        subst h5 h6
        clear h3
        go_enter Try.func34, Try.ntmps34
        go_wp2_with (first | (go_at_call 45; refine (HK.out _).mono ?_; rintro e w3 ⟨rfl, q3⟩; rw [hK.out]; have c0 : w3.cell? ⟨w.heap.size, 0, none⟩ = some (.int .i64 5) := q3.cell (by simp) (fun e => e); have c4 : w3.cell? ⟨w.heap.size, 4, none⟩ = some (.int .i64 o) := q3.cell (by simp) (fun e => e)) | (go_at_call 44; refine (parts_any _ _).mono ?_; rintro e w2 ⟨rfl, rfl⟩))
        go_ret
        exact ⟨by rw [hE.out] <;> rfl, q1.trans q3⟩
      · have hd : decide (12 ≤ o) = false := by simpa using h7
        have hE := hid (show fault1 F v o = 0 by rw [HF2.out]; simp [h7])
        obtain ⟨kind, k, n, l⟩ := v
        simp only at h5 h6
        subst h5 h6
        clear h3
        go_enter Try.func34, Try.ntmps34
        go_wp2_with (first | (go_at_call 45; refine (HK.out _).mono ?_; rintro e w3 ⟨rfl, q3⟩; rw [hK.out]; have c0 : w3.cell? ⟨w.heap.size, 0, none⟩ = some (.int .i64 5) := q3.cell (by simp) (fun e => e); have c4 : w3.cell? ⟨w.heap.size, 4, none⟩ = some (.int .i64 o) := q3.cell (by simp) (fun e => e)) | (go_at_call 44; refine (parts_any _ _).mono ?_; rintro e w2 ⟨rfl, rfl⟩))
        go_ret
        exact ⟨by rw [hE.out] <;> rfl, q1.trans q3⟩
    · have hE := hid (show fault1 F v o = 0 by rw [HF2.out]; simp [h5])
      have b5 : (v.kind == 5) = false := by simpa using h5
      have b6 : decide (v.kind = 5) = false := by simpa using h5
      by_cases h6 : v.n = 0
      · obtain ⟨kind, k, n, l⟩ := v
        simp only at h6 b5 b6 h5
        subst h6
        clear h3 HF2
        simp only at *
        go_enter Try.func34, Try.ntmps34
        go_wp2_with (first | (go_at_call 45; refine (HK.out _).mono ?_; rintro e w3 ⟨rfl, q3⟩; rw [hK.out]; have c0 : w3.cell? ⟨w.heap.size, 0, none⟩ = some (.int .i64 kind) := q3.cell (by simp) (fun e => e); have c4 : w3.cell? ⟨w.heap.size, 4, none⟩ = some (.int .i64 o) := q3.cell (by simp) (fun e => e)) | (go_at_call 44; refine (parts_any _ _).mono ?_; rintro e w2 ⟨rfl, rfl⟩))
        go_ret
        exact ⟨by rw [hE.out] <;> rfl, q1.trans q3⟩
      · have h8 : v.kind = 2 := by
          by_cases h : v.kind = 2
          · exact h
          · exact absurd ⟨h6, h⟩ h3
        obtain ⟨kind, k, n, l⟩ := v
        simp only at h8
        subst h8
        clear h3 h5
        have b1 : (n != 0) = true := by simpa using h6
        go_enter Try.func34, Try.ntmps34
        go_wp2_with (first | (go_at_call 45; refine (HK.out _).mono ?_; rintro e w3 ⟨rfl, q3⟩; rw [hK.out]; have c0 : w3.cell? ⟨w.heap.size, 0, none⟩ = some (.int .i64 2) := q3.cell (by simp) (fun e => e); have c4 : w3.cell? ⟨w.heap.size, 4, none⟩ = some (.int .i64 o) := q3.cell (by simp) (fun e => e)) | (go_at_call 44; refine (parts_any _ _).mono ?_; rintro e w2 ⟨rfl, rfl⟩))
        go_ret
        exact ⟨by rw [hE.out] <;> rfl, q1.trans q3⟩
  · have hE := hid (show fault1 F v o = fk by rw [HF2.out, if_pos h4])
    have b4 : (fk != 0) = true := by simpa using h4
    by_cases h6 : v.n = 0
    · obtain ⟨kind, k, n, l⟩ := v
      simp only at h6
      subst h6
      clear h3 HF2
      simp only at *
      go_enter Try.func34, Try.ntmps34
      go_wp2_with (first | (go_at_call 45; refine (HK.out _).mono ?_; rintro e w3 ⟨rfl, q3⟩; rw [hK.out]; have c0 : w3.cell? ⟨w.heap.size, 0, none⟩ = some (.int .i64 kind) := q3.cell (by simp) (fun e => e); have c4 : w3.cell? ⟨w.heap.size, 4, none⟩ = some (.int .i64 o) := q3.cell (by simp) (fun e => e)) | (go_at_call 44; refine (parts_any _ _).mono ?_; rintro e w2 ⟨rfl, rfl⟩))
      go_ret
      exact ⟨by rw [hE.out] <;> rfl, q1.trans q3⟩
    · have h8 : v.kind = 2 := by
        by_cases h : v.kind = 2
        · exact h
        · exact absurd ⟨h6, h⟩ h3
      obtain ⟨kind, k, n, l⟩ := v
      simp only at h8
      subst h8
      clear h3
      have b1 : (n != 0) = true := by simpa using h6
      go_enter Try.func34, Try.ntmps34
      go_wp2_with (first | (go_at_call 45; refine (HK.out _).mono ?_; rintro e w3 ⟨rfl, q3⟩; rw [hK.out]; have c0 : w3.cell? ⟨w.heap.size, 0, none⟩ = some (.int .i64 2) := q3.cell (by simp) (fun e => e); have c4 : w3.cell? ⟨w.heap.size, 4, none⟩ = some (.int .i64 o) := q3.cell (by simp) (fun e => e)) | (go_at_call 44; refine (parts_any _ _).mono ?_; rintro e w2 ⟨rfl, rfl⟩))
      go_ret
      exact ⟨by rw [hE.out] <;> rfl, q1.trans q3⟩
end Go.Proofs.Ytpppgmkefpelaaa.Ex
