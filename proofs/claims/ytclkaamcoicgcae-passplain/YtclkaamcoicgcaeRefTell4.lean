/- The document's own answers: capabilities and gates in a value, its text; the same numbers? -/
import Derived.Test.YtclkaamcoicgcaeRefFault4
import Derived.Test.YtclkaamcoicgcaeSearchP
import Derived.BigQuiet
import Derived.Deep.LoopGhost
namespace Go.Proofs.Ytclkaamcoicgcae
open Go.ChangeShapes Go.WideShapes Go.ChangeAt Go.RowKit
theorem row_kind {w : World} {B : Nat} {e : TypeId} {v : Value} {n : Nat} {xs : List Value} (h : w.ownsRow B e 1 v n xs) : ∀ g, v.ownBlock = some g → ∃ c fz, w.heap[g]? = some (.cells c e fz) := by
  intro g hg
  rcases h.2 with ⟨rfl, _⟩ | ⟨g', cap, cur, rfl, _, hh, _⟩
  · simp [Value.ownBlock] at hg
  · simp [Value.ownBlock] at hg; subst hg; exact ⟨_, _, hh⟩
set_option maxRecDepth 8000 in
set_option maxHeartbeats 2000000 in
theorem caps_cons (k n : Int) (l : List V) : (V.mk k n l).caps = capOf k n ++ capsIn (pres l) := by rw [caps_eq]; rfl
set_option maxRecDepth 8000 in
set_option maxHeartbeats 1000000 in
theorem gateR_any (v : V) : ∀ (ao : Option Addr) (cap : Nat) (w : World), Is w v ao → v.size ≤ 500 →
    Calls Try.prog 19 #[.agg #[.int .i64 v.kind, .int .i64 v.n, .slice ao v.l.length cap]] w fun e w' => e = .returned (.bool v.gate) ∧ Quiet w w' := by
  induction v using V.ind with
  | h k n l ih =>
    intro ao cap w hI hS
    have hlen : l.length ≤ 500 := by have := sizes_len l; rw [size_mk] at hS; omega
    have hE := hid (gate_eq (V.mk k n l))
    have hsz : ∀ j (h : j < l.length), l[j].size ≤ 500 := fun j h => by have := size_get l j h; rw [size_mk] at hS; omega
    have HI := hid (And.intro hI (And.intro ih hsz))
    clear hI ih hsz hS
    go_enter Try.func19, Try.ntmps19
    go_wp2
    go_loopw [3] (fun i wr => ∃ j : Nat, j ≤ l.length ∧ i = .int .i64 j ∧ gateIn (pres (l.take j)) = false ∧ Quiet w wr ∧ wr.heap[w.heap.size]? = some (.cells #[.int .i64 k, .int .i64 n, .slice ao l.length cap] 25 (0, 0))) (fun i _ => l.length - (intOf i).toNat)
    case atStart => exact ⟨0, Nat.zero_le _, rfl, by simp [pres_nil, gateIn], Kp.alloc _ _, heap_alloc_new w _⟩
    case round =>
      obtain ⟨j, hj, rfl, hg, q, hb⟩ := hrel
      obtain ⟨c0, c1, c2⟩ := box_cells hb
      have HG := hid (And.intro hg hb)
      clear hg hb c1
      by_cases hlt : j < l.length
      · obtain ⟨b, off, rfl, d0, d1, ai, ci, d2, hi⟩ := (HI.out.1.quiet q).get3 j hlt
        have HC := hid (HI.out.2.1 l[j] (List.getElem_mem hlt) ai ci wr hi (HI.out.2.2 j hlt))
        have HN := hid (And.intro (gate_take l j hlt) (pres_split l j hlt))
        simp only at d0 d1 d2
        generalize hu : l[j] = u at *
        clear hu hi c0
        cases hug : u.gate with
        | true =>
          go_wp2_with (go_at_call 19; refine HC.out.mono ?_; rintro e w3 ⟨rfl, q3⟩; rw [hug])
          go_ret
          exact ⟨by rw [hE.out, HN.out.2, gateIn_append, gateIn_append, ← V.gate, hug]; simp, q.trans q3⟩
        | false =>
          go_wp2_with (go_at_call 19; refine HC.out.mono ?_; rintro e w3 ⟨rfl, q3⟩; rw [hug])
          exact ⟨⟨j + 1, by omega, by go_num, by rw [HN.out.1, HG.out.1, hug]; rfl, q.trans q3, (q3.block _ (lt_of_block HG.out.2) fun e => e).trans HG.out.2⟩, by simp [intOf]; omega⟩
      · have hz := hid (show gateIn (pres l) = false by have h := HG.out.1; rwa [List.take_of_length_le (by omega)] at h)
        go_wp2
        go_ret
        exact ⟨by rw [hE.out, hz.out]; simp, q⟩
theorem caps_grow {w wr w2 w1 : World} {a b : List Int} {sv : Value} {g cap n m : Nat} (qr : Quiet w wr) (q2 : Quiet wr w2) (hr : wr.ownsRow w.heap.size 3 1 sv a.length (ints a)) (hn : n = a.length) (hm : m = b.length)
    (hr1 : w1.ownsRow w.heap.size 3 1 (.slice (some ⟨g, 0, none⟩) (n + m) cap) (n + m) (ints a ++ ints b)) (hg : w2.grownBy w1 sv.ownBlock) :
    w1.ownsRow w.heap.size 3 1 (.slice (some ⟨g, 0, none⟩) (n + m) cap) (a ++ b).length (ints (a ++ b)) ∧ Quiet w w1 := by
  subst hn hm
  exact ⟨by rw [ints_app, List.length_append]; exact hr1, (qr.trans q2).fresh (Kp.grown hg fun k _ e => (hr.lt k e.symm).1)⟩
theorem row_not {w : World} {B x : Nat} {c : Array Value} {v : Value} {n : Nat} {xs : List Value} (hb : w.heap[x]? = some (.cells c 25 (0, 0))) (hr : w.ownsRow B 3 1 v n xs) : some x = v.ownBlock → False := by
  intro e
  obtain ⟨c', fz, hg⟩ := row_kind hr x e.symm
  rw [hb] at hg
  simp at hg
theorem own_cases {w : World} {base : Nat} {e : TypeId} {size : Nat} {v : Value} {n : Nat} {xs : List Value} (h : w.ownsRow base e size v n xs) : (v = .slice none 0 0 ∧ n = 0) ∨ ∃ g cap, v = .slice (some ⟨g, 0, none⟩) n cap ∧ n ≤ cap := by
  rcases h.2 with h | ⟨g, cap, cur, rfl, _, _, hc, _⟩
  · exact .inl h
  · exact .inr ⟨g, cap, rfl, hc⟩
/-- What CapsOf tells. -/
def CapsR (v : V) : Prop := ∀ (ao : Option Addr) (cap : Nat) (w : World), Is w v ao → v.size ≤ 500 →
    Calls Try.prog 17 #[.agg #[.int .i64 v.kind, .int .i64 v.n, .slice ao v.l.length cap]] w fun e w' => ∃ sv, e = .returned sv ∧ w'.ownsRow w.heap.size 3 1 sv v.caps.length (ints v.caps) ∧ Quiet w w' ∧ (v.caps = [] → sv = .slice none 0 0)
set_option maxRecDepth 8000 in
set_option maxHeartbeats 2000000 in
theorem capsR_any (v : V) : CapsR v := by
  obtain ⟨i0, hi0, hz0, hz1, hz2⟩ := info_parts Try.infoI
  induction v using V.ind with
  | h k n l ih =>
    intro ao cap w hI hS
    have hlen : l.length ≤ 500 := by have := sizes_len l; rw [size_mk] at hS; omega
    have hSl : sizes l ≤ 499 := by rw [size_mk] at hS; omega
    have hE := hid (caps_cons k n l)
    have hsz : ∀ j (h : j < l.length), l[j].size ≤ 500 := fun j h => by have := size_get l j h; omega
    have HI := hid (And.intro hI (And.intro ih hsz))
    clear hI ih hsz hS
    have h1c : ∀ k n, (capOf k n).length ≤ 1 := by intro k n; unfold capOf; split <;> simp
    by_cases hk : k = 4
    · subst hk
      have h1c := h1c 4 n
      have hcap := hid (show capOf 4 n = [n] by simp [capOf])
      go_enter Try.func17, Try.ntmps17
      go_wp2
      go_loopg [3, 4] l.length (fun gk out i wr => ∃ j : Nat, gk = l.length - j ∧ j ≤ l.length ∧ i = .int .i64 j ∧ wr.ownsRow w.heap.size 3 1 out (capOf 4 n ++ capsIn (pres (l.take j))).length (ints (capOf 4 n ++ capsIn (pres (l.take j)))) ∧ (capOf 4 n ++ capsIn (pres (l.take j)) = [] → out = .slice none 0 0) ∧ Quiet w wr ∧ wr.heap[w.heap.size]? = some (.cells #[.int .i64 4, .int .i64 n, .slice ao l.length cap] 25 (0, 0)))
      case atStart =>
        refine ⟨0, rfl, Nat.zero_le _, rfl, ?_, ?_, (Kp.alloc _ _).trans (Kp.alloc _ _), (Below.heap_alloc _ _ _ (by simp)).trans (heap_alloc_new w _)⟩
        · have := row_one (w.alloc (.cells #[.int .i64 4, .int .i64 n, .slice ao l.length cap] 25)) 3 (.int .i64 n)
          have h2 := owns_mono this (base' := w.heap.size) (by simp)
          rw [hcap.out]
          simpa [pres_nil, capsIn, ints] using h2
        · rw [hcap.out]; simp
      case round =>
        obtain ⟨j, hgk, hj, rfl, hr, he, q, hb⟩ := hrel
        have HGK := hid hgk
        clear hgk
        obtain ⟨c0, c1, c2⟩ := box_cells hb
        have HB := hid hb
        have HE := hid he
        clear hb he c0 c1
        have hal : (capsIn (pres (l.take j))).length ≤ 499 := by have := caps_lens (l.take j); have := sizes_take_le l j; omega
        have hal2 : (capOf 4 n ++ capsIn (pres (l.take j))).length ≤ 500 := by rw [List.length_append]; omega
        by_cases hlt : j < l.length
        · obtain ⟨b, off, rfl, d0, d1, ai, ci, d2, hi⟩ := (HI.out.1.quiet q).get3 j hlt
          have HC := hid (HI.out.2.1 l[j] (List.getElem_mem hlt) ai ci wr hi (HI.out.2.2 j hlt))
          have HN := hid (caps_take l j hlt)
          have hul : l[j].caps.length ≤ 500 := by have := caps_len l[j]; have := HI.out.2.2 j hlt; omega
          simp only at d0 d1 d2
          generalize hu : l[j] = u at *
          clear hu hi
          have HR := hid hr
          obtain ⟨av, cv, hsv⟩ := owns_shape hr
          clear hr hal
          by_cases hu0 : u.caps = []
          · generalize hacc : capOf 4 n ++ capsIn (pres (l.take j)) = acc at *
            have HACC := hid hacc
            have HU0 := hid hu0
            clear hacc hsv hu0
            rcases own_cases HR.out with ⟨hsv, h00⟩ | ⟨g9, cv9, hsv, hcv9⟩
            all_goals
              subst hsv
              go_wp2_with (go_at_call 17; refine HC.out.mono ?_; rintro e w3 ⟨sv3, rfl, r3, q3, e3⟩; obtain rfl := e3 HU0.out; clear r3 e3)
              have hnx : capOf 4 n ++ capsIn (pres (l.take (j + 1))) = acc := by rw [HN.out, HU0.out, List.append_nil, HACC.out]
              go_roundg (l.length - (j + 1))
              case rel =>
                refine ⟨j + 1, rfl, by omega, by go_num, ?_, ?_, q.trans q3, (q3.block _ (lt_of_block HB.out) fun e => e).trans HB.out⟩
                · rw [hnx]; exact q3.row HR.out fun _ _ e => e
                · rw [hnx]; intro h; first | rfl | exact HE.out h
              case measure => have := HGK.out; omega
          · have hpos : 0 < u.caps.length := by
              rcases Nat.eq_zero_or_pos u.caps.length with e | e
              · exact absurd (List.eq_nil_of_length_eq_zero e) hu0
              · exact e
            generalize hacc : capOf 4 n ++ capsIn (pres (l.take j)) = acc at *
            have HACC := hid hacc
            have HU0 := hid hu0
            clear hacc hu0
            subst hsv
            go_wp2_with (first
              | (go_at_call 17; refine HC.out.mono ?_; rintro e w3 ⟨sv3, rfl, r3, q3, e3⟩; obtain ⟨g2, cap2, rfl⟩ := lies_shape r3 hpos; clear e3)
              | (at_builtin; refine wpList_append_lies _ rfl (.tmp 18) (.tmp 24) 26 rfl w.heap.size 3 i0 _ 1 8 Try.undI hi0 hz0 hz1 hz2 rfl (by decide) _ acc.length (ints acc) rfl (q3.row HR.out fun _ _ e => e) ⟨g2, 0, none⟩ u.caps.length cap2 (ints u.caps) rfl (by rw [ints_len, Nat.mul_one]) (r3.cells rfl) (ints_one _) hpos (by unfold maxLen; omega) (by omega) (by have := (q.trans q3).size; omega) _ rfl ?_; intro g4 cap4 w4 hr4 hg4 hat4 hlt4; have hD := hid (caps_grow q q3 HR.out rfl rfl hr4 hg4); have hB4 := hid (show w4.heap[w.heap.size]? = _ from (hg4.block w.heap.size (by have := lt_of_block HB.out; have := q3.size; omega) (fun e => by have := row_not HB.out HR.out e; exact this)).trans ((q3.block _ (lt_of_block HB.out) fun e => e).trans HB.out)); clear hr4 hg4 hat4 hlt4))
            have hnx : capOf 4 n ++ capsIn (pres (l.take (j + 1))) = acc ++ u.caps := by rw [HN.out, ← List.append_assoc, HACC.out]
            go_roundg (l.length - (j + 1))
            case measure => have := HGK.out; omega
            case rel =>
              refine ⟨j + 1, rfl, by omega, by go_num, ?_, ?_, hD.out.2, hB4.out⟩
              · rw [hnx]; exact hD.out.1
              · rw [hnx]; intro e; exact absurd (List.append_eq_nil_iff.1 e).2 HU0.out
        · have hjl := hid (show capOf 4 n ++ capsIn (pres (l.take j)) = (V.mk 4 n l).caps by rw [hE.out, List.take_of_length_le (by omega)])
          rw [hjl.out] at hr HE
          obtain ⟨av, cv, rfl⟩ := owns_shape hr
          clear hal hal2
          go_wp2
          go_ret
          exact ⟨_, rfl, hr, q, HE.out⟩
    · have h1c := h1c k n
      have hcap := hid (show capOf k n = [] by simp [capOf, hk])
      have hkb : (k == 4) = false := by simpa using hk
      go_enter Try.func17, Try.ntmps17
      go_wp2
      go_loopg [3, 4] l.length (fun gk out i wr => ∃ j : Nat, gk = l.length - j ∧ j ≤ l.length ∧ i = .int .i64 j ∧ wr.ownsRow w.heap.size 3 1 out (capOf k n ++ capsIn (pres (l.take j))).length (ints (capOf k n ++ capsIn (pres (l.take j)))) ∧ (capOf k n ++ capsIn (pres (l.take j)) = [] → out = .slice none 0 0) ∧ Quiet w wr ∧ wr.heap[w.heap.size]? = some (.cells #[.int .i64 k, .int .i64 n, .slice ao l.length cap] 25 (0, 0)))
      case atStart =>
        refine ⟨0, rfl, Nat.zero_le _, rfl, ?_, fun _ => rfl, Kp.alloc _ _, heap_alloc_new w _⟩
        have e0 : capOf k n ++ capsIn (pres (l.take 0)) = [] := by rw [hcap.out]; simp [pres_nil, capsIn]
        rw [e0]
        exact World.ownsRow_nil _ _ _ _
      case round =>
        obtain ⟨j, hgk, hj, rfl, hr, he, q, hb⟩ := hrel
        have HGK := hid hgk
        clear hgk
        obtain ⟨c0, c1, c2⟩ := box_cells hb
        have HB := hid hb
        have HE := hid he
        clear hb he c0 c1
        have hal : (capsIn (pres (l.take j))).length ≤ 499 := by have := caps_lens (l.take j); have := sizes_take_le l j; omega
        have hal2 : (capOf k n ++ capsIn (pres (l.take j))).length ≤ 500 := by rw [List.length_append]; omega
        by_cases hlt : j < l.length
        · obtain ⟨b, off, rfl, d0, d1, ai, ci, d2, hi⟩ := (HI.out.1.quiet q).get3 j hlt
          have HC := hid (HI.out.2.1 l[j] (List.getElem_mem hlt) ai ci wr hi (HI.out.2.2 j hlt))
          have HN := hid (caps_take l j hlt)
          have hul : l[j].caps.length ≤ 500 := by have := caps_len l[j]; have := HI.out.2.2 j hlt; omega
          simp only at d0 d1 d2
          generalize hu : l[j] = u at *
          clear hu hi
          have HR := hid hr
          obtain ⟨av, cv, hsv⟩ := owns_shape hr
          clear hr hal
          by_cases hu0 : u.caps = []
          · generalize hacc : capOf k n ++ capsIn (pres (l.take j)) = acc at *
            have HACC := hid hacc
            have HU0 := hid hu0
            clear hacc hsv hu0
            rcases own_cases HR.out with ⟨hsv, h00⟩ | ⟨g9, cv9, hsv, hcv9⟩
            all_goals
              subst hsv
              go_wp2_with (go_at_call 17; refine HC.out.mono ?_; rintro e w3 ⟨sv3, rfl, r3, q3, e3⟩; obtain rfl := e3 HU0.out; clear r3 e3)
              have hnx : capOf k n ++ capsIn (pres (l.take (j + 1))) = acc := by rw [HN.out, HU0.out, List.append_nil, HACC.out]
              go_roundg (l.length - (j + 1))
              case rel =>
                refine ⟨j + 1, rfl, by omega, by go_num, ?_, ?_, q.trans q3, (q3.block _ (lt_of_block HB.out) fun e => e).trans HB.out⟩
                · rw [hnx]; exact q3.row HR.out fun _ _ e => e
                · rw [hnx]; intro h; first | rfl | exact HE.out h
              case measure => have := HGK.out; omega
          · have hpos : 0 < u.caps.length := by
              rcases Nat.eq_zero_or_pos u.caps.length with e | e
              · exact absurd (List.eq_nil_of_length_eq_zero e) hu0
              · exact e
            generalize hacc : capOf k n ++ capsIn (pres (l.take j)) = acc at *
            have HACC := hid hacc
            have HU0 := hid hu0
            clear hacc hu0
            subst hsv
            go_wp2_with (first
              | (go_at_call 17; refine HC.out.mono ?_; rintro e w3 ⟨sv3, rfl, r3, q3, e3⟩; obtain ⟨g2, cap2, rfl⟩ := lies_shape r3 hpos; clear e3)
              | (at_builtin; refine wpList_append_lies _ rfl (.tmp 18) (.tmp 24) 26 rfl w.heap.size 3 i0 _ 1 8 Try.undI hi0 hz0 hz1 hz2 rfl (by decide) _ acc.length (ints acc) rfl (q3.row HR.out fun _ _ e => e) ⟨g2, 0, none⟩ u.caps.length cap2 (ints u.caps) rfl (by rw [ints_len, Nat.mul_one]) (r3.cells rfl) (ints_one _) hpos (by unfold maxLen; omega) (by omega) (by have := (q.trans q3).size; omega) _ rfl ?_; intro g4 cap4 w4 hr4 hg4 hat4 hlt4; have hD := hid (caps_grow q q3 HR.out rfl rfl hr4 hg4); have hB4 := hid (show w4.heap[w.heap.size]? = _ from (hg4.block w.heap.size (by have := lt_of_block HB.out; have := q3.size; omega) (fun e => by have := row_not HB.out HR.out e; exact this)).trans ((q3.block _ (lt_of_block HB.out) fun e => e).trans HB.out)); clear hr4 hg4 hat4 hlt4))
            have hnx : capOf k n ++ capsIn (pres (l.take (j + 1))) = acc ++ u.caps := by rw [HN.out, ← List.append_assoc, HACC.out]
            go_roundg (l.length - (j + 1))
            case measure => have := HGK.out; omega
            case rel =>
              refine ⟨j + 1, rfl, by omega, by go_num, ?_, ?_, hD.out.2, hB4.out⟩
              · rw [hnx]; exact hD.out.1
              · rw [hnx]; intro e; exact absurd (List.append_eq_nil_iff.1 e).2 HU0.out
        · have hjl := hid (show capOf k n ++ capsIn (pres (l.take j)) = (V.mk k n l).caps by rw [hE.out, List.take_of_length_le (by omega)])
          rw [hjl.out] at hr HE
          obtain ⟨av, cv, rfl⟩ := owns_shape hr
          clear hal hal2
          go_wp2
          go_ret
          exact ⟨_, rfl, hr, q, HE.out⟩
end Go.Proofs.Ytclkaamcoicgcae
