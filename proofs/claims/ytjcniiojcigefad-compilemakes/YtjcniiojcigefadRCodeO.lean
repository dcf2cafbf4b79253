/- The document's own instructions of an expression: the others; the contract. -/
import Derived.Test.YtjcniiojcigefadRCodeI
namespace Go.Proofs.Ytjcniiojcigefad
open Go.ChangeShapes Go.WideShapes Go.ChangeAt Go.RowKit
set_option maxRecDepth 8000 in
set_option maxHeartbeats 8000000 in
theorem rcode_other (v : V) (ih : ∀ x ∈ v.l, RCode x) (h5 : v.kind ≠ 5) (h7 : v.kind ≠ 7) (ao : Option Addr) (cap : Nat) (p : Nat) (w : World) (hI : Is w v ao) (ho : Ok v) (hp : p + 3 * v.size ≤ 8000000) :
    Calls Try.prog 11 #[.agg #[.int .i64 v.kind, .int .i64 v.k, .int .i64 v.n, .slice ao v.l.length cap], .int .i64 (p : Int)] w fun e w' => CodeQ ([⟨100, 0, 0⟩] ++ (codesP v.l (p + 1) ++ [⟨v.kind, v.k, v.n⟩])) w e w' := by
  obtain ⟨i0, hi, hz0, hz1, hz2⟩ := info_parts' Try.infoR
  obtain ⟨W, hW⟩ : ∃ W, W = w.alloc (.cells #[.int .i64 v.kind, .int .i64 v.k, .int .i64 v.n, .slice ao v.l.length cap] 38) := ⟨_, rfl⟩
  have qW : Quiet w W := by rw [hW]; exact Kp.alloc _ _
  have sW : W.heap.size = w.heap.size + 1 := by rw [hW]; simp
  have b0 : W.heap[w.heap.size]? = some (.cells #[.int .i64 v.kind, .int .i64 v.k, .int .i64 v.n, .slice ao v.l.length cap] 38 (0, 0)) := by rw [hW]; exact heap_alloc_new w _
  have HBX := hid (fun (w' : World) (q : Quiet W w') => box_cells ((q.block _ (lt_of_block b0) fun e => e).trans b0))
  have h1 := rs_start W
  rw [sW] at h1
  have H1 := hid (And.intro h1 (And.intro qW hW))
  have HI := hid (And.intro hI (And.intro ih ho.kids))
  have hsz := size_eq v
  have hvl := sizes_len v.l
  have hvl5 : v.l.length ≤ 8000000 := by omega
  have n5 : (v.kind == 5) = false := by simpa using h5
  have n7 : (v.kind == 7) = false := by simpa using h7
  clear hI ih ho qW b0 hW h1
  go_enter Try.func11, Try.ntmps11
  go_wp2
  go_loopw [5, 9] (fun sv i wr => ∃ (j n : Nat), j ≤ v.l.length ∧ i = .int .i64 j ∧ RS W wr sv n ([⟨100, 0, 0⟩] ++ codesP (v.l.take j) (p + 1))) (fun _ i _ => v.l.length - (intOf i).toNat)
  case atStart =>
    refine ⟨0, 1, Nat.zero_le _, rfl, ?_⟩
    rw [List.take_zero, codesP_nil, List.append_nil, ← H1.out.2.2]; exact H1.out.1
  case round =>
    obtain ⟨j, n, hj, rfl, h⟩ := hrel
    have hstl := sizes_take_le v.l j
    have hcj := codesP_len (v.l.take j) (p + 1)
    obtain ⟨z0, z9, z1, z2⟩ := HBX.out _ h.q
    have hn := h.len
    rw [List.length_append, List.length_singleton] at hn
    obtain ⟨sa, sc, hsv⟩ := owns_shape h.row
    subst hsv
    by_cases hlt : j < v.l.length
    · obtain ⟨bb, oo, rfl, dh, ca, cc, ds, hki⟩ := HI.out.1.get j hlt
      have qr : Quiet w wr := H1.out.2.1.trans h.q
      obtain ⟨d0, d1, d2⟩ := head_kept (low_kept qr.low) dh
      have dsk := low_kept qr.low _ _ ds
      have HO := hid (And.intro (HI.out.2.1 v.l[j] (List.getElem_mem hlt)) (HI.out.2.2 v.l[j] (List.getElem_mem hlt)))
      have HN := hid (codesP_take v.l j hlt (p + 1))
      have hst := sizes_take v.l j hlt
      have hst2 := sizes_take_le v.l (j + 1)
      generalize v.l[j] = u at *
      have hul := code_len u (p + n)
      have hup := code_pos u (p + n)
      have hnb : n ≤ 3 * sizes (v.l.take j) + 1 := by omega
      have HC := hid (HO.out.1 ca cc (p + n) ((p : Int) + n) wr (by simp) (hki.quiet qr) HO.out.2 (by omega))
      have HR := hid (And.intro h hn)
      clear h hn dh ds hki qr HO hcj
      go_wp2_with (first
        | (at_builtin; refine wpList_append_lies _ rfl (.tmp 106) (.tmp 116) 35 rfl W.heap.size 40 i0 _ 3 24 Try.undR hi hz0 hz1 hz2 rfl (by decide) _ n _ rfl h2.out.row ⟨g2, 0, none⟩ m sc2 (insC (u.code (p + n))) rfl (ins_len hm2.out) hn2.out (ins_one _) (by omega) (by unfold maxLen; omega) (by omega) h2.out.size _ rfl ?_; intro g3 cap3 w3 hr3 hg3 hat hlt3; have h3 := hid (h2.out.push hm2.out hr3 hg3); clear hr3 hg3 hat hlt3)
        | (go_at_call 11; refine HC.out.mono ?_; rintro e w2 ⟨sa2, sc2, m, rfl, hm2, hr2, q2⟩; have hmb : 1 ≤ m ∧ m ≤ 3 * u.size := (by omega); have hm2 := hid hm2; have h2 := hid (HR.out.1.quiet q2); obtain ⟨g2, rfl, hn2⟩ := row_news hr2 (by omega); have hn2 := hid hn2; clear hr2 q2))
      refine ⟨⟨j + 1, n + m, by omega, by go_num, ?_⟩, by simp [intOf]; omega⟩
      have h4 := h3.out
      have e1 : p + n = p + 1 + (codesP (v.l.take j) (p + 1)).length := by have := HR.out.2; omega
      rw [HN.out, ← e1, ← List.append_assoc]
      exact h4
    · have hjl : j = v.l.length := by omega
      subst hjl
      rw [List.take_length] at h hcj hn
      have HR := hid h
      have hnb : n ≤ 3 * sizes v.l + 1 := by omega
      clear h hn hcj
      go_wp2_with (at_builtin; refine wpList_append_lies _ rfl (.tmp 118) (.tmp 126) 35 rfl W.heap.size 40 i0 _ 3 24 Try.undR hi hz0 hz1 hz2 rfl (by decide) _ n _ rfl (HR.out.row.alloc _) ⟨wr.heap.size, 0, none⟩ 1 1 (insC [⟨v.kind, v.k, v.n⟩]) rfl rfl (news_at wr _ 40) (ins_one _) (by omega) (by unfold maxLen; omega) (by omega) (by have := HR.out.size; simp; omega) _ rfl ?_; intro g3 cap3 w3 hr3 hg3 hat hlt3; have h3 := hid ((HR.out.quiet (Kp.alloc _ _)).push rfl hr3 hg3); clear hr3 hg3 hat hlt3)
      go_ret
      have h4 := h3.out
      rw [List.append_assoc] at h4
      exact ⟨_, _, _, rfl, h4.len, owns_mono h4.row (by omega), H1.out.2.1.trans h4.q⟩
/-- The contract of the document's Code. -/
theorem rcode_any (v : V) : RCode v := by
  induction v using V.ind' with
  | h v ih =>
    intro ao cap p pi w hpi hI ho hp
    subst hpi
    have hsz := size_eq v
    by_cases e5 : v.kind = 5
    · obtain ⟨x, y, hxy⟩ := ho.two e5
      have hx : x ∈ v.l := by simp [hxy]
      have hy : y ∈ v.l := by simp [hxy]
      have hsx : sizes v.l = x.size + y.size := by rw [hxy, sizes_cons, sizes_cons, sizes_nil]; rfl
      have hF := hI.fo
      rw [code_let e5 hxy]
      rw [hxy] at hF
      rw [hxy, e5]
      exact rcode_let x y v.k v.n (ih x hx) (ih y hy) ao cap p w hF (ho.kids x hx) (ho.kids y hy) (by omega)
    · by_cases e7 : v.kind = 7
      · obtain ⟨x, y, z, hxy⟩ := ho.three e7
        have hx : x ∈ v.l := by simp [hxy]
        have hy : y ∈ v.l := by simp [hxy]
        have hz : z ∈ v.l := by simp [hxy]
        have hsx : sizes v.l = x.size + y.size + z.size := by rw [hxy, sizes_cons, sizes_cons, sizes_cons, sizes_nil]; omega
        have hF := hI.fo
        rw [code_if e7 hxy]
        rw [hxy] at hF
        rw [hxy, e7]
        exact rcode_if x y z v.k v.n (ih x hx) (ih y hy) (ih z hz) ao cap p w hF (ho.kids x hx) (ho.kids y hy) (ho.kids z hz) (by omega)
      · rw [code_other e5 e7]
        exact rcode_other v ih e5 e7 ao cap p w hI ho hp
end Go.Proofs.Ytjcniiojcigefad
