/- Parts. -/
import Derived.Test.YtkpckmcaeljocaaGreatUV4
namespace Go.Proofs.YtkpckmcaeljocaaGreat
open Go.ChangeShapes Go.WideShapes Go.ChangeAt Go.RowKit
end Go.Proofs.YtkpckmcaeljocaaGreat
namespace Go.Proofs.YtkpckmcaeljocaaGreat
open Gr (Nd Res nd0 thereB openB deriveOf addOf gateOf cutOf cellB cellOf funcB funcOf rightsN wayOf gatesOf gatesW targetOf Wf NdOk)
def giftOf (y : Sp × Int) : Nd := if y.1.kind = 2 then ⟨-1, y.1.g, y.1.r, y.1.k, -1, 0⟩ else ⟨-1, y.1.g, y.1.r, 0, y.1.q, y.1.k⟩
def gaveY (p : Int) (y : Sp × Int) : Bool := decide (y.2 = 0) && (decide (y.1.kind = 2) || decide (y.1.kind = 3)) && decide (y.1.p = p)
def giftsOf (tr : List (Sp × Int)) (p : Int) : List Nd := (tr.filter (gaveY p)).map giftOf
theorem gave_iff {p : Int} {y : Sp × Int} : gaveY p y = true ↔ y.2 = 0 ∧ (y.1.kind = 2 ∨ y.1.kind = 3) ∧ y.1.p = p := by
  unfold gaveY
  simp [and_assoc]
theorem gifts_mem {tr : List (Sp × Int)} {p : Int} {n : Nd} : n ∈ giftsOf tr p ↔ ∃ y ∈ tr, y.2 = 0 ∧ (y.1.kind = 2 ∨ y.1.kind = 3) ∧ y.1.p = p ∧ n = giftOf y := by
  unfold giftsOf
  simp only [List.mem_map, List.mem_filter, gave_iff]
  constructor
  · rintro ⟨y, ⟨h1, h2, h3, h4⟩, rfl⟩; exact ⟨y, h1, h2, h3, h4, rfl⟩
  · rintro ⟨y, h1, h2, h3, h4, rfl⟩; exact ⟨y, ⟨h1, h2, h3, h4⟩, rfl⟩
theorem gifts_no {tr : List (Sp × Int)} {p : Int} {y : Sp × Int} (h : gaveY p y = false) : giftsOf (tr ++ [y]) p = giftsOf tr p := by
  unfold giftsOf; rw [List.filter_append]; simp [h]
theorem gifts_yes {tr : List (Sp × Int)} {p : Int} {y : Sp × Int} (h : gaveY p y = true) : giftsOf (tr ++ [y]) p = giftsOf tr p ++ [giftOf y] := by
  unfold giftsOf; rw [List.filter_append]; simp [h]
structure HandT (tr : List (Sp × Int)) (h : Hs) : Prop where
  there : ∀ p : Nat, p < 4 → ∀ v ∈ h.hs.getD p [], thereB h.s.ns.length v.n = true
  gifts : ∀ p : Nat, p < 4 → (h.hs.getD p []).map (fun v => targetOf h.s.ns v.n) = giftsOf tr p
theorem there_more {ns ns' : List Nd} (hp : ns <+: ns') {c : Int} (h : thereB ns.length c = true) : thereB ns'.length c = true := by
  have := hp.length_le
  simp [thereB] at h ⊢; omega
theorem map_stays {ns ns' : List Nd} {g : Nat} (hw : Wf ns' g) (hp : ns <+: ns') {l : List V} (hl : ∀ v ∈ l, thereB ns.length v.n = true) : l.map (fun v => targetOf ns' v.n) = l.map (fun v => targetOf ns v.n) :=
  List.map_congr_left fun v hv => target_stays hw hp (hl v hv)
theorem HandT.more {tr tr' : List (Sp × Int)} {h h' : Hs} {g : Nat} (H : HandT tr h) (hs : h'.hs = h.hs) (hw : Wf h'.s.ns g) (hp : h.s.ns <+: h'.s.ns) (ht : ∀ p : Nat, p < 4 → giftsOf tr' p = giftsOf tr p) : HandT tr' h' := by
  refine ⟨fun p h4 v hv => ?_, fun p h4 => ?_⟩
  · rw [hs] at hv; exact there_more hp (H.there p h4 v hv)
  · rw [hs, ht p h4, ← H.gifts p h4]
    exact map_stays hw hp (H.there p h4)
theorem handt0 : HandT [] h00 := by
  have : ∀ q : Nat, q < 4 → h00.hs.getD q [] = [] := fun q hq => by
    have : q = 0 ∨ q = 1 ∨ q = 2 ∨ q = 3 := by omega
    rcases this with rfl | rfl | rfl | rfl <;> rfl
  refine ⟨fun p hp v hv => ?_, fun p hp => ?_⟩
  · rw [this p hp] at hv; simp at hv
  · rw [this p hp]; rfl
theorem HandT.give {tr : List (Sp × Int)} {h : Hs} (H : HandT tr h) (hl : h.hs.length = 4) {y : Sp × Int} {r : Res} {g : Nat} (hpl : plugB y.1.p = true) (hg : gaveY y.1.p y = true) (hw : Wf r.ns g) (hp : h.s.ns <+: r.ns) (ht : thereB r.ns.length r.num = true) (hway : wayOf r.ns r.num = [giftOf y]) (hc : r.code = 0) : HandT (tr ++ [y]) (giveH h y.1.p r).2 := by
  have hpp : 0 ≤ y.1.p ∧ y.1.p < 4 := by simpa [plugB] using hpl
  have e0 : (giveH h y.1.p r).2 = { h with s := { h.s with ns := r.ns, os := r.os }, hs := h.hs.set y.1.p.toNat (h.hs.getD y.1.p.toNat [] ++ [capV r.num]) } := by unfold giveH; rw [if_pos hc]
  rw [e0]
  have eh : ∀ q : Nat, q < 4 → (h.hs.set y.1.p.toNat (h.hs.getD y.1.p.toNat [] ++ [capV r.num])).getD q [] = if y.1.p = (q : Int) then h.hs.getD q [] ++ [capV r.num] else h.hs.getD q [] := fun q hq => by
    rw [List.getD_eq_getElem?_getD, List.getElem?_set]
    by_cases e : y.1.p = (q : Int)
    · have e2 : y.1.p.toNat = q := by omega
      have e3 : q < h.hs.length := by omega
      rw [if_pos e2, if_pos e, if_pos (by omega), e2]; rfl
    · rw [if_neg (by omega), if_neg e, List.getD_eq_getElem?_getD]
  refine ⟨fun p h4 v hv => ?_, fun p h4 => ?_⟩
  · simp only at hv ⊢
    rw [eh p h4] at hv
    split at hv
    · rcases List.mem_append.1 hv with hv | hv
      · exact there_more hp (H.there p h4 v hv)
      · rw [List.mem_singleton.1 hv]; exact ht
    · exact there_more hp (H.there p h4 v hv)
  · simp only
    rw [eh p h4]
    split
    · rename_i e
      rw [e] at hg
      rw [gifts_yes hg, List.map_append, map_stays hw hp (H.there p h4), H.gifts p h4]
      simp only [List.map_cons, List.map_nil]
      rw [show (capV r.num).n = r.num from rfl, tgt_one hway]
    · rename_i e
      rw [gifts_no (by
        cases e2 : gaveY p y with
        | false => rfl
        | true => exact absurd (gave_iff.1 e2).2.2 e), map_stays hw hp (H.there p h4), H.gifts p h4]
theorem call_pre {K : List Nd → Int → Int → Prop} {h : Hs} (hi : HInv K h) (x : Sp) : (callH h x).2.hs = h.hs ∧ h.s.ns <+: (callH h x).2.s.ns ∧ Wf (callH h x).2.s.ns (callH h x).2.s.os.length := by
  have hi' : HInv (fun _ _ _ => True) h := hi.mono fun _ _ _ _ => trivial
  have hK : KeepsG (fun _ _ _ => True) (fun _ => True) := ⟨fun _ _ _ _ => trivial, fun _ _ _ _ => trivial, fun _ _ _ _ _ _ => trivial, fun _ _ _ _ _ _ => trivial, fun _ _ _ _ => trivial⟩
  have hr : ∀ v, Hd (fun _ _ _ => True) h.s.ns x.p v → (runH h x.p x.k v).2.hs = h.hs ∧ h.s.ns <+: (runH h x.p x.k v).2.s.ns ∧ Wf (runH h x.p x.k v).2.s.ns (runH h x.p x.k v).2.s.os.length := fun v hv => by
    obtain ⟨k1, k2, _, _⟩ := run_given hK h.ms hi'.gs x.p x.k trivial hv 2000
    exact ⟨rfl, k2, k1.wf⟩
  have hz : h.hs = h.hs ∧ h.s.ns <+: h.s.ns ∧ Wf h.s.ns h.s.os.length := ⟨rfl, List.prefix_refl _, hi.gs.wf⟩
  unfold callH
  split
  · split
    · rename_i hp
      have hpp : 0 ≤ x.p ∧ x.p < 4 := by simpa [plugB] using hp
      split
      · rename_i v e
        have := hi'.hand x.p.toNat (by omega) v (List.mem_of_getElem? e)
        rw [Int.toNat_of_nonneg hpp.1] at this
        exact hr v this
      · exact hz
    · exact hz
  · exact hr _ (Hd.leaf (by decide))
theorem HandT.step {K : List Nd → Int → Int → Prop} {tr : List (Sp × Int)} {h : Hs} (H : HandT tr h) (hi : HInv K h) (x : Sp) : HandT (tr ++ [(x, (stepH h x).1.code)]) (stepH h x).2 := by
  have hz : ∀ {h' : Hs} {c : Int}, h'.hs = h.hs → h'.s.ns = h.s.ns → ¬ ((x.kind = 2 ∨ x.kind = 3) ∧ c = 0) → HandT (tr ++ [(x, c)]) h' := fun {h' c} e1 e2 hn =>
    H.more (g := h.s.os.length) e1 (by rw [e2]; exact hi.gs.wf) (by rw [e2]; exact List.prefix_refl _) fun p _ => gifts_no (by
      cases e : gaveY p (x, c) with
      | false => rfl
      | true => exact absurd ⟨(gave_iff.1 e).2.1, (gave_iff.1 e).1⟩ hn)
  have hg : ∀ {r : Res}, (r.code ≠ 0) → HandT (tr ++ [(x, (giveH h x.p r).1.code)]) (giveH h x.p r).2 := fun {r} hc => by
    have e : giveH h x.p r = (⟨r.code, 0, v0⟩, h) := by unfold giveH; rw [if_neg hc]
    rw [e]; exact hz rfl rfl fun k => hc k.2
  have hy : ∀ {r : Res}, r.code = 0 → (giveH h x.p r).1.code = 0 := fun {r} hc => by unfold giveH; rw [if_pos hc]
  unfold stepH
  by_cases k1 : x.kind = 1
  · rw [if_pos k1]
    refine hz ?_ ?_ (by omega)
    · unfold loadH; repeat' split
      all_goals rfl
    · unfold loadH; repeat' split
      all_goals rfl
  rw [if_neg k1]
  by_cases k2 : x.kind = 2
  · rw [if_pos k2]
    split
    · rename_i hp
      by_cases hc : (cellOf h.s.ns h.s.os x.k x.r x.g).code = 0
      · obtain ⟨a1, a2, a3, a4⟩ := cell_root hi.gs.wf hi.gs.ln hc
        rw [hy hc]
        exact H.give hi.len (y := (x, 0)) hp (gave_iff.2 ⟨rfl, .inl k2, rfl⟩) a1.wf a1.pre a3 (by rw [a4]; simp [giftOf, k2]) hc
      · exact hg hc
    · exact hz rfl rfl fun k => by cases k.2
  rw [if_neg k2]
  by_cases k3 : x.kind = 3
  · rw [if_pos k3]
    split
    · rename_i hp
      by_cases hc : (funcOf h.s.ns h.s.os x.q x.k x.r x.g).code = 0
      · obtain ⟨a0, a1, a2, a3, a4⟩ := func_root hi.gs.wf hi.gs.ln hc
        rw [hy hc]
        exact H.give hi.len (y := (x, 0)) hp (gave_iff.2 ⟨rfl, .inr k3, rfl⟩) a1.wf a1.pre a3 (by rw [a4]; simp [giftOf, k3]) hc
      · exact hg hc
    · exact hz rfl rfl fun k => by cases k.2
  rw [if_neg k3]
  have hn : ∀ c : Int, ¬ ((x.kind = 2 ∨ x.kind = 3) ∧ c = 0) := fun c k => by rcases k.1 with k | k; exact k2 k; exact k3 k
  by_cases k4 : x.kind = 4
  · rw [if_pos k4]
    obtain ⟨c1, c2, c3⟩ := call_pre hi x
    exact H.more c1 c3 c2 fun p _ => gifts_no (by
      cases e : gaveY p (x, (callH h x).1.code) with
      | false => rfl
      | true => exact absurd ⟨(gave_iff.1 e).2.1, rfl⟩ (hn 0))
  rw [if_neg k4]
  by_cases k5 : x.kind = 5
  · rw [if_pos k5]; exact hz rfl rfl (hn _)
  rw [if_neg k5]
  by_cases k6 : x.kind = 6
  · rw [if_pos k6]; exact hz rfl rfl (hn _)
  rw [if_neg k6]
  exact hz rfl rfl (hn _)
def knowsG (g : Nat → List Nd) (p q : Nat) : Bool := (g p).any fun n => decide (0 ≤ n.plugin) && decide (n.plugin = (q : Int))
def touchG (g : Nat → List Nd) (p q : Nat) : Bool := knowsG g p q || knowsG g q p
structure Circ (g : Nat → List Nd) (p : Nat) (c : List Nat) (i j : Nat) : Prop where
  nd : c.Nodup
  lt : ∀ q ∈ c, q < 4
  self : p ∈ c
  only : ∀ S : Nat → Prop, S p → (∀ a b, a < 4 → b < 4 → S a → touchG g a b = true → S b) → ∀ q ∈ c, S q
  past : ∀ k (h : k < c.length), k < i → ∀ q, q < 4 → touchG g c[k] q = true → q ∈ c
  now : ∀ (h : i < c.length), ∀ q, q < j → touchG g c[i] q = true → q ∈ c
theorem nodup_few : ∀ (n : Nat) (c : List Nat), c.Nodup → (∀ q ∈ c, q < n) → c.length ≤ n := by
  intro n
  induction n with
  | zero =>
    intro c _ h
    cases c with
    | nil => simp
    | cons a c => exact absurd (h a (by simp)) (by omega)
  | succ n ih =>
    intro c hd h
    have h1 := ih (c.erase n) (hd.erase n) fun q hq => by
      have := (hd.mem_erase_iff).1 hq
      have := h q this.2
      omega
    have h2 : c.length ≤ (c.erase n).length + 1 := by
      rw [List.length_erase]; split <;> omega
    omega
theorem Circ.few {g : Nat → List Nd} {p : Nat} {c : List Nat} {i j : Nat} (h : Circ g p c i j) : c.length ≤ 4 := nodup_few 4 c h.nd h.lt
theorem circ0 (g : Nat → List Nd) {p : Nat} (hp : p < 4) : Circ g p [p] 0 0 :=
  ⟨by simp, fun q hq => by rw [List.mem_singleton.1 hq]; exact hp, by simp, fun S h0 _ q hq => by rw [List.mem_singleton.1 hq]; exact h0, fun k _ h => by omega, fun _ q h => by omega⟩
section
variable {g : Nat → List Nd} {p : Nat} {c : List Nat} {i j : Nat}
theorem Circ.skip (h : Circ g p c i j) (hi : i < c.length) (hn : j ∈ c ∨ touchG g c[i] j = false) : Circ g p c i (j + 1) :=
  ⟨h.nd, h.lt, h.self, h.only, h.past, fun hh q hq ht => by
    by_cases e : q = j
    · subst e
      rcases hn with hn | hn
      · exact hn
      · rw [hn] at ht; cases ht
    · exact h.now hh q (by omega) ht⟩
theorem Circ.add (h : Circ g p c i j) (hi : i < c.length) (hj : j < 4) (hn : j ∉ c) (ht : touchG g c[i] j = true) : Circ g p (c ++ [j]) i (j + 1) := by
  have sub : ∀ q, q ∈ c → q ∈ c ++ [j] := fun q hq => List.mem_append.2 (.inl hq)
  refine ⟨List.nodup_append.2 ⟨h.nd, by simp, fun a ha b hb e => ?_⟩, fun q hq => ?_, sub _ h.self, fun S h0 h1 q hq => ?_, fun k hk hki q hq ht2 => ?_, fun hh q hq ht2 => ?_⟩
  · rw [List.mem_singleton.1 hb] at e; rw [e] at ha; exact hn ha
  · rcases List.mem_append.1 hq with hq | hq
    · exact h.lt q hq
    · rw [List.mem_singleton.1 hq]; exact hj
  · rcases List.mem_append.1 hq with hq | hq
    · exact h.only S h0 h1 q hq
    · rw [List.mem_singleton.1 hq]
      exact h1 _ _ (h.lt _ (List.getElem_mem hi)) hj (h.only S h0 h1 _ (List.getElem_mem hi)) ht
  · rw [List.getElem_append_left (by omega)] at ht2
    exact sub _ (h.past k (by omega) hki q hq ht2)
  · rw [List.getElem_append_left hi] at ht2
    by_cases e : q = j
    · rw [e]; simp
    · exact sub _ (h.now hi q (by omega) ht2)
theorem Circ.next (h : Circ g p c i 4) (hi : i < c.length) : Circ g p c (i + 1) 0 :=
  ⟨h.nd, h.lt, h.self, h.only, fun k hk hki q hq ht => by
    by_cases e : k = i
    · subst e; exact h.now hi q hq ht
    · exact h.past k hk (by omega) q hq ht, fun _ q h => by omega⟩
end
def mayG (g : Nat → List Nd) (c : List Nat) (cell : Int) (bit : Nat) : Bool := c.any fun q => (g q).any fun n => !decide (0 ≤ n.plugin) && decide (n.cell = cell) && n.rights.toNat.testBit bit
theorem gift_plug {tr : List (Sp × Int)} (ht : TrOk tr) {y : Sp × Int} (hy : y ∈ tr) (hc : y.2 = 0) (hk : y.1.kind = 2 ∨ y.1.kind = 3) : (0 ≤ (giftOf y).plugin ↔ y.1.kind = 3) ∧ (y.1.kind = 3 → (giftOf y).plugin = y.1.q) := by
  unfold giftOf
  rcases hk with k | k
  · rw [if_pos k]; simp [k]
  · rw [if_neg (by omega)]
    have := (ht y hy (.inr k) hc).2 k
    have hpp : 0 ≤ y.1.q ∧ y.1.q < 4 := by simpa [plugB] using this
    simp [k, hpp.1]
theorem knows_iff {tr : List (Sp × Int)} (ht : TrOk tr) {a b : Nat} : knowsG (fun q => giftsOf tr q) a b = true ↔ ∃ y ∈ tr, y.2 = 0 ∧ y.1.kind = 3 ∧ y.1.p = (a : Int) ∧ y.1.q = (b : Int) := by
  unfold knowsG
  rw [List.any_eq_true]
  constructor
  · rintro ⟨n, hn, h⟩
    obtain ⟨y, h1, h2, h3, h4, rfl⟩ := gifts_mem.1 hn
    simp only [Bool.and_eq_true, decide_eq_true_eq] at h
    have k := (gift_plug ht h1 h2 h3).1.1 h.1
    exact ⟨y, h1, h2, k, h4, by rw [← (gift_plug ht h1 h2 h3).2 k]; exact h.2⟩
  · rintro ⟨y, h1, h2, k, h4, h5⟩
    refine ⟨giftOf y, gifts_mem.2 ⟨y, h1, h2, .inr k, h4, rfl⟩, ?_⟩
    have := gift_plug ht h1 h2 (.inr k)
    simp only [Bool.and_eq_true, decide_eq_true_eq]
    exact ⟨this.1.2 k, by rw [this.2 k, h5]⟩
theorem circ_lkd {tr : List (Sp × Int)} (ht : TrOk tr) {p : Nat} (hp : p < 4) {c : List Nat} (hc : Circ (fun q => giftsOf tr q) p c c.length 0) (q : Int) : Lkd tr p q ↔ plugB q = true ∧ q.toNat ∈ c := by
  constructor
  · intro h
    refine h (fun q => plugB q = true ∧ q.toNat ∈ c) ⟨by simp [plugB]; omega, by simpa using hc.self⟩ (fun y a b e ih => ?_) fun y a b e ih => ?_
    · obtain ⟨t1, t2⟩ := ht y a (.inr b) e
      have h1 : 0 ≤ y.1.p ∧ y.1.p < 4 := by simpa [plugB] using t1
      have h2 : 0 ≤ y.1.q ∧ y.1.q < 4 := by simpa [plugB] using t2 b
      refine ⟨t2 b, ?_⟩
      obtain ⟨k, hk, ek⟩ := List.getElem_of_mem ih.2
      refine hc.past k hk hk _ (by omega) ?_
      rw [ek]
      unfold touchG
      rw [(knows_iff ht).2 ⟨y, a, e, b, by omega, by omega⟩]; rfl
    · obtain ⟨t1, t2⟩ := ht y a (.inr b) e
      have h1 : 0 ≤ y.1.p ∧ y.1.p < 4 := by simpa [plugB] using t1
      have h2 : 0 ≤ y.1.q ∧ y.1.q < 4 := by simpa [plugB] using t2 b
      refine ⟨t1, ?_⟩
      obtain ⟨k, hk, ek⟩ := List.getElem_of_mem ih.2
      refine hc.past k hk hk _ (by omega) ?_
      rw [ek]
      unfold touchG
      rw [(knows_iff ht (a := y.1.p.toNat) (b := y.1.q.toNat)).2 ⟨y, a, e, b, by omega, by omega⟩]; simp
  · rintro ⟨h1, h2⟩
    have hq : 0 ≤ q ∧ q < 4 := by simpa [plugB] using h1
    have := hc.only (fun q => Lkd tr p q) .refl (fun a b ha hb ih t => ?_) _ h2
    · rw [Int.toNat_of_nonneg hq.1] at this; exact this
    · unfold touchG at t
      rw [Bool.or_eq_true] at t
      rcases t with t | t
      · obtain ⟨y, k1, k2, k3, k4, k5⟩ := (knows_iff ht).1 t
        rw [← k4] at ih
        have := Lkd.link k1 k3 k2 ih
        rw [k5] at this; exact this
      · obtain ⟨y, k1, k2, k3, k4, k5⟩ := (knows_iff ht).1 t
        rw [← k5] at ih
        have := Lkd.back k1 k3 k2 ih
        rw [k4] at this; exact this
theorem mayG_iff {tr : List (Sp × Int)} (ht : TrOk tr) {p : Nat} (hp : p < 4) {c : List Nat} (hc : Circ (fun q => giftsOf tr q) p c c.length 0) (cell : Int) (bit : Nat) : mayG (fun q => giftsOf tr q) c cell bit = true ↔ MayM tr p cell bit := by
  unfold mayG
  rw [List.any_eq_true]
  constructor
  · rintro ⟨q, hq, h⟩
    obtain ⟨n, hn, h⟩ := List.any_eq_true.1 h
    obtain ⟨y, h1, h2, h3, h4, rfl⟩ := gifts_mem.1 hn
    simp only [Bool.and_eq_true, Bool.not_eq_true', decide_eq_false_iff_not, decide_eq_true_eq] at h
    have k3 : ¬ y.1.kind = 3 := fun k => h.1.1 ((gift_plug ht h1 h2 h3).1.2 k)
    have k2 : y.1.kind = 2 := by rcases h3 with k | k; exact k; exact absurd k k3
    unfold giftOf at h
    rw [if_pos k2] at h
    refine ⟨y, h1, h2, k2, h.1.2, h.2, ?_⟩
    rw [h4]
    exact (circ_lkd ht hp hc q).2 ⟨by have := hc.lt q hq; simp [plugB]; omega, by simpa using hq⟩
  · rintro ⟨y, h1, h2, k2, h4, h5, h6⟩
    obtain ⟨hpl, hm⟩ := (circ_lkd ht hp hc _).1 h6
    have hpp : 0 ≤ y.1.p ∧ y.1.p < 4 := by simpa [plugB] using hpl
    refine ⟨_, hm, List.any_eq_true.2 ⟨giftOf y, gifts_mem.2 ⟨y, h1, h2, .inl k2, by omega, rfl⟩, ?_⟩⟩
    unfold giftOf
    rw [if_pos k2]
    simp [h4, h5]
theorem all_lkd {tr : List (Sp × Int)} (ht : TrOk tr) {p : Int} (hp : plugB p = true) : ∀ q : Int, plugB q = true → onB (lkAll tr p) q = true → Lkd tr p q := by
  have hpp : 0 ≤ p ∧ p < 4 := by simpa [plugB] using hp
  have h1 : ∀ S : List Bool, (∀ q : Int, plugB q = true → onB S q = true → Lkd tr p q) → ∀ y ∈ tr, ∀ q : Int, plugB q = true → onB (lkStep S y) q = true → Lkd tr p q := fun S hS y hy q hq h => by
    unfold lkStep at h
    split at h
    · rename_i hc
      obtain ⟨c1, c2, c3⟩ := hc
      obtain ⟨t1, t2⟩ := ht y hy (.inr c1) c2
      have hqq : 0 ≤ q ∧ q < 4 := by simpa [plugB] using hq
      have k1 : 0 ≤ y.1.p ∧ y.1.p < 4 := by simpa [plugB] using t1
      have k2 : 0 ≤ y.1.q ∧ y.1.q < 4 := by simpa [plugB] using t2 c1
      have both : Lkd tr p y.1.p ∧ Lkd tr p y.1.q := by
        rw [Bool.or_eq_true] at c3
        rcases c3 with c3 | c3
        · have := hS _ t1 c3; exact ⟨this, .link hy c1 c2 this⟩
        · have := hS _ (t2 c1) c3; exact ⟨.back hy c1 c2 this, this⟩
      unfold onB at h
      rw [List.getD_eq_getElem?_getD, List.getElem?_set] at h
      by_cases e1 : y.1.q.toNat = q.toNat
      · have : q = y.1.q := by omega
        rw [this]; exact both.2
      rw [if_neg e1, List.getElem?_set] at h
      by_cases e2 : y.1.p.toNat = q.toNat
      · have : q = y.1.p := by omega
        rw [this]; exact both.1
      rw [if_neg e2, ← List.getD_eq_getElem?_getD] at h
      exact hS q hq h
    · exact hS q hq h
  have h2 : ∀ (l : List (Sp × Int)), (∀ y ∈ l, y ∈ tr) → ∀ S : List Bool, (∀ q : Int, plugB q = true → onB S q = true → Lkd tr p q) → ∀ q : Int, plugB q = true → onB (lkPass l S) q = true → Lkd tr p q := by
    intro l
    induction l with
    | nil => intro _ S hS; exact hS
    | cons y l ih => intro hl S hS; exact ih (fun z hz => hl z (by simp [hz])) (lkStep S y) (h1 S hS y (hl y (by simp)))
  have h3 : ∀ n, ∀ q : Int, plugB q = true → onB (lkMany tr n (lkFrom p)) q = true → Lkd tr p q := by
    intro n
    induction n with
    | zero =>
      intro q hq h
      have hqq : 0 ≤ q ∧ q < 4 := by simpa [plugB] using hq
      unfold lkMany lkFrom onB at h
      rw [List.getD_eq_getElem?_getD, List.getElem?_set] at h
      by_cases e : p.toNat = q.toNat
      · have : q = p := by omega
        rw [this]; exact .refl
      · rw [if_neg e] at h
        have : q = 0 ∨ q = 1 ∨ q = 2 ∨ q = 3 := by omega
        rcases this with rfl | rfl | rfl | rfl <;> exact absurd h (by decide)
    | succ n ih => exact h2 tr (fun _ h => h) _ ih
  exact h3 4
theorem mayB_iff {tr : List (Sp × Int)} (ht : TrOk tr) {p cell : Int} {bit : Nat} (hp : plugB p = true) : mayB tr p cell bit = true ↔ MayM tr p cell bit := by
  refine ⟨fun h => ?_, may_found ht hp⟩
  obtain ⟨y, h1, h2⟩ := List.any_eq_true.1 h
  simp only [Bool.and_eq_true, Bool.or_eq_true, decide_eq_true_eq] at h2
  obtain ⟨⟨⟨⟨k1, k2⟩, k3⟩, k4⟩, k5⟩ := h2
  refine ⟨y, h1, k2, k1, k3, k4, ?_⟩
  rcases k5 with k5 | k5
  · exact all_lkd ht hp _ (ht y h1 (.inl k1) k2).1 k5
  · rw [k5]; exact .refl
theorem mayG_mayB {tr : List (Sp × Int)} (ht : TrOk tr) {p : Nat} (hp : p < 4) {c : List Nat} (hc : Circ (fun q => giftsOf tr q) p c c.length 0) (cell : Int) (bit : Nat) : mayG (fun q => giftsOf tr q) c cell bit = mayB tr p cell bit := by
  have h := (mayG_iff ht hp hc cell bit).trans (mayB_iff ht (p := p) (cell := cell) (bit := bit) (by simp [plugB]; omega)).symm
  cases e : mayB tr p cell bit with
  | true => exact h.2 e
  | false =>
    cases e2 : mayG (fun q => giftsOf tr q) c cell bit with
    | false => rfl
    | true => rw [h.1 e2] at e; cases e
theorem mayB_more {tr : List (Sp × Int)} {y : Sp × Int} (ht : TrOk tr) (ht2 : TrOk (tr ++ [y])) {p cell : Int} {bit : Nat} (hp : plugB p = true) (h : mayB tr p cell bit = true) : mayB (tr ++ [y]) p cell bit = true := by
  have hs : ∀ z ∈ tr, z ∈ tr ++ [y] := fun z hz => List.mem_append.2 (.inl hz)
  obtain ⟨z, h1, h2, h3, h4, h5, h6⟩ := (mayB_iff ht hp).1 h
  exact (mayB_iff ht2 hp).2 ⟨z, hs z h1, h2, h3, h4, h5, h6.mono hs⟩
end Go.Proofs.YtkpckmcaeljocaaGreat
