/- Parts. -/
import Derived.Test.YtkpckmcaeljocaaGreatUK0
namespace Go.Proofs.YtkpckmcaeljocaaGreat
open Gr (Nd Res nd0 thereB deriveOf addOf gateOf cutOf rightsN wayOf gatesOf gatesW targetOf Wf NdOk passB meetW)
structure KeepsG (K : List Nd → Int → Int → Prop) (W : Int → Prop) : Prop where
  more : ∀ {ns ns' : List Nd} {g : Nat} {p c : Int}, Wf ns' g → ns <+: ns' → thereB ns.length c = true → K ns p c → K ns' p c
  kid : ∀ {ns : List Nd} {g : Nat} {p x y : Int} {n : Nd}, Wf ns g → thereB ns.length x = true → wayOf ns y = n :: wayOf ns x → K ns p x → K ns p y
  ask : ∀ {ns : List Nd} {g : Nat} {p a x y : Int}, Wf ns g → thereB ns.length a = true → K ns p a → 0 ≤ (targetOf ns a).plugin → Came ns (gatesOf ns a) x y → K ns p x → K ns (targetOf ns a).plugin y
  back : ∀ {ns : List Nd} {g : Nat} {p a x y : Int}, Wf ns g → thereB ns.length a = true → K ns p a → 0 ≤ (targetOf ns a).plugin → Came ns (gatesOf ns a) x y → K ns (targetOf ns a).plugin x → K ns p y
  who : ∀ {ns : List Nd} {p a : Int}, thereB ns.length a = true → K ns p a → W p → 0 ≤ (targetOf ns a).plugin → W (targetOf ns a).plugin
def Hd (K : List Nd → Int → Int → Prop) (ns : List Nd) (p : Int) (v : V) : Prop := ∀ c ∈ v.caps, thereB ns.length c = true ∧ K ns p c
theorem caps_mem {l : List V} {x : V} (hx : x ∈ l) {c : Int} (hc : c ∈ x.caps) : c ∈ capsIn (pres l) := by
  induction l with
  | nil => simp at hx
  | cons y l ih =>
    rw [pres_cons, capsIn_append, List.mem_append]
    rcases List.mem_cons.1 hx with rfl | hx
    · exact .inl hc
    · exact .inr (ih hx)
theorem caps_of_mem {l : List V} {c : Int} (hc : c ∈ capsIn (pres l)) : ∃ x ∈ l, c ∈ x.caps := by
  induction l with
  | nil => rw [pres_nil] at hc; simp [capsIn] at hc
  | cons y l ih =>
    rw [pres_cons, capsIn_append, List.mem_append] at hc
    rcases hc with hc | hc
    · exact ⟨y, by simp, hc⟩
    · obtain ⟨x, hx, h⟩ := ih hc
      exact ⟨x, by simp [hx], h⟩
section
variable {K : List Nd → Int → Int → Prop} {W : Int → Prop} {ns ns' : List Nd} {g : Nat} {p : Int} {v x : V}
theorem Hd.kid (h : Hd K ns p v) (hx : x ∈ v.l) : Hd K ns p x := fun c hc => h c (by rw [caps_eq, List.mem_append]; exact .inr (caps_mem hx hc))
theorem Hd.of {k n : Int} {l : List V} (hk : k ≠ 4) (h : ∀ x ∈ l, Hd K ns p x) : Hd K ns p ⟨k, n, l⟩ := fun c hc => by
  rw [caps_eq, if_neg hk, List.nil_append] at hc
  obtain ⟨x, hx, h2⟩ := caps_of_mem hc
  exact h x hx c h2
theorem Hd.leaf {k n : Int} (hk : k ≠ 4) : Hd K ns p ⟨k, n, []⟩ := Hd.of hk (by simp)
theorem Hd.v0 : Hd K ns p v0 := Hd.leaf (by decide)
theorem Hd.cap {n : Int} (h1 : thereB ns.length n = true) (h2 : K ns p n) : Hd K ns p (capV n) := fun c hc => by
  rw [caps_eq] at hc
  simp [capV, pres_nil, capsIn] at hc
  rw [hc]; exact ⟨h1, h2⟩
theorem Hd.is (h : Hd K ns p v) (hk : v.kind = 4) : thereB ns.length v.n = true ∧ K ns p v.n := h v.n (by rw [caps_eq, if_pos hk]; simp)
theorem target_stays (hw : Wf ns' g) (hp : ns <+: ns') {c : Int} (hc : thereB ns.length c = true) : targetOf ns' c = targetOf ns c := by unfold targetOf; rw [way_stays hw hp hc]
theorem gates_stays (hw : Wf ns' g) (hp : ns <+: ns') {c : Int} (hc : thereB ns.length c = true) : gatesOf ns' c = gatesOf ns c := by unfold gatesOf; rw [way_stays hw hp hc]
theorem Hd.more (hK : KeepsG K W) (h : Hd K ns p v) (hw : Wf ns' g) (hp : ns <+: ns') : Hd K ns' p v := fun c hc => by
  obtain ⟨h1, h2⟩ := h c hc
  exact ⟨there_pre hp h1, hK.more hw hp h1 h2⟩
theorem Hd.getD (h : Hd K ns p v) (i : Nat) : Hd K ns p (v.l.getD i Go.Proofs.YtkpckmcaeljocaaGreat.v0) := by
  rcases Nat.lt_or_ge i v.l.length with hi | hi
  · rw [List.getD_eq_getElem?_getD, List.getElem?_eq_getElem hi]; exact h.kid (List.getElem_mem hi)
  · rw [List.getD_eq_getElem?_getD, List.getElem?_eq_none hi]; exact Hd.v0
end
def EntG (K : List Nd → Int → Int → Prop) (W : Int → Prop) (ns : List Nd) (e : Wo.Ent) : Prop := W e.plugin ∧ ∃ bit : Nat, (e.right = 1 ∧ bit = 0 ∨ e.right = 2 ∧ bit = 1) ∧ thereB ns.length e.node = true ∧ (targetOf ns e.node).plugin < 0 ∧ (targetOf ns e.node).cell = e.cell ∧ K ns e.plugin e.node ∧ ∀ n ∈ wayOf ns e.node, n.rights.toNat.testBit bit = true
theorem EntG.more {K : List Nd → Int → Int → Prop} {W : Int → Prop} (hK : KeepsG K W) {ns ns' : List Nd} {g : Nat} {e : Wo.Ent} (h : EntG K W ns e) (hw : Wf ns' g) (hp : ns <+: ns') : EntG K W ns' e := by
  obtain ⟨h0, bit, h1, h2, h3, h4, h5, h6⟩ := h
  refine ⟨h0, bit, h1, there_pre hp h2, ?_, ?_, ?_, ?_⟩
  · rw [target_stays hw hp h2]; exact h3
  · rw [target_stays hw hp h2]; exact h4
  · exact hK.more hw hp h2 h5
  · rw [way_stays hw hp h2]; exact h6
structure Gs (K : List Nd → Int → Int → Prop) (s : Sg) : Prop where
  wf : Wf s.ns s.os.length
  ln : s.ns.length ≤ 80
  ks : s.ks.length = 4
  kept : ∀ q : Nat, q < 4 → Hd K s.ns q (s.ks.getD q v0)
structure Gf (K : List Nd → Int → Int → Prop) (W : Int → Prop) (s : Sg) (p : Int) (o : Out) : Prop where
  st : Gs K o.s
  pre : s.ns <+: o.s.ns
  val : ∀ v, o.got = .ok v → Hd K o.s.ns p v
  log : ∃ new, o.s.es = s.es ++ new ∧ ∀ e ∈ new, EntG K W o.s.ns e
section
variable {K : List Nd → Int → Int → Prop} {W : Int → Prop} {s : Sg} {p : Int} {n : Nat}
theorem gf_bad {s' : Sg} (c : Int) (h : Gs K s') (hp : s.ns <+: s'.ns) (he : s'.es = s.es) : Gf K W s p (bad c n s') := ⟨h, hp, fun v e => by simp [bad] at e, [], by simp [bad, he], by simp⟩
theorem gf_ok {s' : Sg} {v : V} (h : Gs K s') (hp : s.ns <+: s'.ns) (hv : Hd K s'.ns p v) (he : s'.es = s.es) : Gf K W s p (okV v n s') := ⟨h, hp, fun u e => by simp only [okV, Except.ok.injEq] at e; rw [← e]; exact hv, [], by simp [okV, he], by simp⟩
theorem gf_ent {s' : Sg} {v : V} {e : Wo.Ent} (h : Gs K s') (hp : s.ns <+: s'.ns) (hv : Hd K s'.ns p v) (he : s'.es = s.es ++ [e]) (hG : EntG K W s'.ns e) : Gf K W s p (okV v n s') := ⟨h, hp, fun u e => by simp only [okV, Except.ok.injEq] at e; rw [← e]; exact hv, [e], he, fun x hx => by rw [List.mem_singleton.1 hx]; exact hG⟩
theorem Gf.then (hK : KeepsG K W) {p' : Int} {o : Out} {f : V → Nat → Sg → Out} (h : Gf K W s p' o) (hf : ∀ v m s', Gs K s' → s.ns <+: s'.ns → Hd K s'.ns p' v → Gf K W s' p (f v m s')) (hb : ∀ c, o.got = .error c → Gf K W s p o) : Gf K W s p (o.then f) := by
  unfold Out.then
  cases e : o.got with
  | error c => exact hb c e
  | ok v =>
    have k := hf v o.left o.s h.st h.pre (h.val v e)
    obtain ⟨n1, l1, g1⟩ := h.log
    obtain ⟨n2, l2, g2⟩ := k.log
    simp only
    refine ⟨k.st, h.pre.trans k.pre, k.val, n1 ++ n2, by rw [l2, l1, List.append_assoc], fun e he => ?_⟩
    rcases List.mem_append.1 he with he | he
    · exact (g1 e he).more hK k.st.wf k.pre
    · exact g2 e he
theorem Gf.bad' {p' : Int} {o : Out} {c : Int} (h : Gf K W s p' o) (e : o.got = .error c) : Gf K W s p o := ⟨h.st, h.pre, fun v e2 => (by rw [e] at e2; cases e2), h.log⟩
theorem Gf.andThen (hK : KeepsG K W) {p' : Int} {o : Out} {f : V → Nat → Sg → Out} (h : Gf K W s p' o) (hf : ∀ v m s', Gs K s' → s.ns <+: s'.ns → Hd K s'.ns p' v → Gf K W s' p (f v m s')) : Gf K W s p (o.then f) := h.then hK hf fun _ e => h.bad' e
end
theorem gone_mem {ns : List Nd} {gs : List Int} {v y : V} (h : Gone ns gs v y) {c : Int} (hc : c ∈ y.caps) : ∃ c' ∈ v.caps, Came ns gs c' c := by
  obtain ⟨i, hi, rfl⟩ := List.getElem_of_mem hc
  have hi2 : i < v.caps.length := by have := h.caps; omega
  exact ⟨v.caps[i], List.getElem_mem hi2, h.came i hi2⟩
theorem meet_bit {b : Nat} : ∀ (ws : List Nd) (r : Nat), (meetW r ws).testBit b = true → r.testBit b = true ∧ ∀ n ∈ ws, n.rights.toNat.testBit b = true := by
  intro ws
  induction ws with
  | nil => intro r h; exact ⟨h, by simp⟩
  | cons n ws ih =>
    intro r h
    obtain ⟨h1, h2⟩ := ih (r &&& n.rights.toNat) h
    rw [Nat.testBit_and, Bool.and_eq_true] at h1
    refine ⟨h1.1, fun m hm => ?_⟩
    rcases List.mem_cons.1 hm with rfl | hm
    · exact h1.2
    · exact h2 m hm
theorem rights_bit {ns : List Nd} {os : List Bool} {c : Int} {b : Nat} (h : (rightsN ns os c).testBit b = true) : ∀ n ∈ wayOf ns c, n.rights.toNat.testBit b = true := by
  unfold rightsN at h
  split at h
  · exact (meet_bit _ _ h).2
  · simp at h
theorem cellG_ok {s : Sg} {v : V} {bit : Nat} {c : Int} (h : cellR s v bit = .ok c) : v.kind = 4 ∧ (rightsN s.ns s.os v.n).testBit bit = true ∧ (targetOf s.ns v.n).plugin < 0 ∧ (targetOf s.ns v.n).cell = c := by
  unfold cellR at h
  by_cases h1 : v.kind = 4
  · rw [if_pos h1] at h
    by_cases h2 : (rightsN s.ns s.os v.n).testBit bit = true
    · rw [if_pos h2] at h
      by_cases h3 : 0 ≤ (targetOf s.ns v.n).plugin
      · rw [if_pos h3] at h; cases h
      · rw [if_neg h3] at h
        exact ⟨h1, h2, by omega, by injection h⟩
    · rw [if_neg h2] at h; cases h
  · rw [if_neg h1] at h; cases h
theorem derive_way {ns : List Nd} {os : List Bool} {x r g : Int} (hw : Wf ns os.length) (hl : ns.length ≤ 80) (h : (deriveOf ns os x r g).code = 0) : thereB ns.length x = true ∧ thereB (deriveOf ns os x r g).ns.length (deriveOf ns os x r g).num = true ∧ ∃ n, wayOf (deriveOf ns os x r g).ns (deriveOf ns os x r g).num = n :: wayOf (deriveOf ns os x r g).ns x := by
  have hw2 := (derive_nx hw hl x r g).1
  unfold deriveOf at h hw2 ⊢
  by_cases hx : thereB ns.length x = true
  · rw [if_pos hx] at h hw2 ⊢
    unfold addOf at h hw2 ⊢
    by_cases h1 : ¬ (0 ≤ r ∧ r ≤ 15)
    · rw [if_pos h1] at h; cases h
    rw [if_neg h1] at h hw2 ⊢
    by_cases h2 : g ≠ -1 ∧ thereB os.length g = false
    · rw [if_pos h2] at h; cases h
    rw [if_neg h2] at h hw2 ⊢
    by_cases h3 : ns.length = 80
    · rw [if_pos h3] at h; cases h
    rw [if_neg h3] at hw2 ⊢
    simp only at hw2 ⊢
    refine ⟨hx, by simp [thereB]; omega, ?_⟩
    obtain ⟨j, rfl, hj⟩ := Gr.there_yes hx
    have hlen : ns.length < (ns ++ [(⟨(j : Int), g, r, 0, -1, 0⟩ : Nd)]).length := by simp
    have e1 := Gr.way_yes hw2.wf hlen
    have e2 : (ns ++ [(⟨(j : Int), g, r, 0, -1, 0⟩ : Nd)])[ns.length] = ⟨(j : Int), g, r, 0, -1, 0⟩ := by simp
    rw [e2] at e1
    simp only at e1
    exact ⟨_, e1⟩
  · rw [if_neg hx] at h; cases h
section
variable {K : List Nd → Int → Int → Prop} {W : Int → Prop}
theorem gf_cross {s : Sg} {p q : Int} (hK : KeepsG K W) (h : Gs K s) {v : V} (hv : Hd K s.ns p v) (gs : List Int) (hg : ∀ {ns : List Nd} {x y : Int}, Wf ns s.os.length → s.ns <+: ns → Came ns gs x y → K ns p x → K ns q y) (n : Nat) : Gf K W s q (crossR v gs n s) := by
  obtain ⟨k1, _⟩ := passed_ok (gs := gs) (v := v) h.wf h.ln
  have hs : Gs K { s with ns := (passedOf s.ns s.os gs v).2.2 } := ⟨k1.wf, k1.len, h.ks, fun q hq => (h.kept q hq).more hK k1.wf k1.pre⟩
  unfold crossR
  by_cases e : (passedOf s.ns s.os gs v).2.1 = 0
  · rw [if_pos e]
    refine gf_ok hs k1.pre ?_ rfl
    have hm : mayOf s.ns s.os v = 0 := by
      by_cases hm : mayOf s.ns s.os v = 0
      · exact hm
      · unfold passedOf at e; rw [if_neg hm] at e; exact absurd e hm
    have hc : v.check = 0 := by
      unfold mayOf at hm
      by_cases h1 : v.check = 0
      · exact h1
      · rw [if_neg h1] at hm; exact absurd hm h1
    have ep : passedOf s.ns s.os gs v = v.handed s.os gs s.ns := by unfold passedOf; rw [if_pos hm]
    rw [ep] at e k1 ⊢
    obtain ⟨w1, p1, g1⟩ := handed_gone (os := s.os) (gs := gs) v s.ns (v.handed s.os gs s.ns).2.2 (v.handed s.os gs s.ns).1 (by rw [← e]) (check_fault hc) h.wf fun c hc => (hv c hc).1
    intro c hc
    obtain ⟨c', hc', hcm⟩ := gone_mem g1 hc
    exact ⟨hcm.ty, hg w1 p1 hcm (hK.more w1 p1 (hv c' hc').1 (hv c' hc').2)⟩
  · rw [if_neg e]; exact gf_bad _ hs k1.pre rfl
def CallG (K : List Nd → Int → Int → Prop) (W : Int → Prop) (call : Caller) : Prop := ∀ fr p f v n s, 0 ≤ p → W p → Hd K s.ns p v → Gs K s → Gf K W s p (call fr p f v n s)
def EvG (K : List Nd → Int → Int → Prop) (W : Int → Prop) (ev : Evl) : Prop := ∀ fr p x arg names n s, 0 ≤ p → W p → Hd K s.ns p arg → (∀ v ∈ names, Hd K s.ns p v) → Gs K s → Gf K W s p (ev fr p x arg names n s)
theorem gf_ask (hK : KeepsG K W) {call : Caller} (hc : CallG K W call) {s : Sg} {p : Int} (hW : W p) (h : Gs K s) (ms : Mods) (fr : Nat) {a b : V} (ha : Hd K s.ns p a) (hb : Hd K s.ns p b) (n : Nat) : Gf K W s p (askR call ms fr a b n s) := by
  have hz : ∀ c, Gf K W s p (bad c n s) := fun c => gf_bad c h (List.prefix_refl _) rfl
  unfold askR
  by_cases h1 : a.kind = 4
  · rw [if_pos h1]
    obtain ⟨a1, a2⟩ := ha.is h1
    split
    · split
      · exact hz _
      · rename_i h3
        have hq : 0 ≤ (targetOf s.ns a.n).plugin := by omega
        split
        · exact hz _
        · split
          · exact hz _
          · refine Gf.andThen hK (p' := (targetOf s.ns a.n).plugin) (gf_cross hK h hb _ (fun {ns x y} w pr cm hx => ?_) _) fun x m s' hs' pr' hx => (hc _ _ _ _ _ _ hq (hK.who a1 a2 hW hq) hx hs').andThen hK fun y m2 s2 hs2 pr2 hy => gf_cross hK hs2 hy _ (fun {ns x y} w pr cm hx => ?_) _
            · rw [← gates_stays w pr a1] at cm
              rw [← target_stays w pr a1] at hq ⊢
              exact hK.ask w (there_pre pr a1) (hK.more w pr a1 a2) hq cm hx
            · have pr0 := (pr'.trans pr2).trans pr
              rw [← gates_stays w pr0 a1] at cm
              rw [← target_stays w pr0 a1] at hq hx
              exact hK.back w (there_pre pr0 a1) (hK.more w pr0 a1 a2) hq cm hx
    · exact hz _
  · rw [if_neg h1]; exact hz _
theorem gf_two (hK : KeepsG K W) {call : Caller} (hc : CallG K W call) {s : Sg} {p : Int} (hW : W p) (h : Gs K s) (ms : Mods) (fr : Nat) (op k : Int) {a b : V} (ha : Hd K s.ns p a) (hb : Hd K s.ns p b) (n : Nat) : Gf K W s p (twoR call ms fr p op k a b n s) := by
  have hz : ∀ c, Gf K W s p (bad c n s) := fun c => gf_bad c h (List.prefix_refl _) rfl
  unfold twoR
  by_cases h6 : op = 6
  · rw [if_pos h6]
    split
    · exact gf_ok h (List.prefix_refl _) (Hd.leaf (by decide)) rfl
    · exact hz _
  rw [if_neg h6]
  by_cases h8 : op = 8
  · rw [if_pos h8]
    split
    · refine gf_ok h (List.prefix_refl _) (Hd.of (by decide) ?_) rfl
      intro x hx
      simp at hx
      rcases hx with rfl | rfl
      · exact ha
      · exact hb
    · exact hz _
  rw [if_neg h8]
  by_cases h14 : op = 14
  · rw [if_pos h14]
    split
    · cases e : cellR s a 1 with
      | error c => exact hz _
      | ok c =>
        obtain ⟨e1, e2, e3, e4⟩ := cellG_ok e
        obtain ⟨a1, a2⟩ := ha.is e1
        exact gf_ent (s := s) (s' := { s with cs := s.cs.set c.toNat b.n, es := s.es ++ [⟨p, c, 2, a.n⟩] }) ⟨h.wf, h.ln, h.ks, h.kept⟩ (List.prefix_refl _) hb rfl ⟨hW, 1, .inr ⟨rfl, rfl⟩, a1, e3, e4, a2, rights_bit e2⟩
    · exact hz _
  rw [if_neg h14]
  exact gf_ask hK hc hW h _ _ ha hb _
theorem kept_hd {s : Sg} (h : Gs K s) {p : Int} (hp : 0 ≤ p) : Hd K s.ns p (s.ks.getD p.toNat v0) := by
  rcases Nat.lt_or_ge p.toNat 4 with hi | hi
  · have := h.kept p.toNat hi
    rwa [Int.toNat_of_nonneg hp] at this
  · rw [List.getD_eq_getElem?_getD, List.getElem?_eq_none (by rw [h.ks]; exact hi)]; exact Hd.v0
theorem gf_made (hK : KeepsG K W) {s : Sg} {p : Int} {os' : List Bool} (h : Gs K s) (ho : s.os.length ≤ os'.length) {x : Int} (hx : K s.ns p x) (r g : Int) (n : Nat) : Gf K W s p (madeR (deriveOf s.ns os' x r g) n { s with os := os' }) := by
  have hw := h.wf.more ho
  obtain ⟨k1, _, _⟩ := derive_nx (os := os') hw h.ln x r g
  have e : (deriveOf s.ns os' x r g).os = os' := derive_os' _ _ _ _ _
  have hi : Gs K { s with ns := (deriveOf s.ns os' x r g).ns, os := (deriveOf s.ns os' x r g).os } := ⟨by rw [e]; exact k1.wf, k1.len, h.ks, fun q hq => (h.kept q hq).more hK k1.wf k1.pre⟩
  unfold madeR
  by_cases e : (deriveOf s.ns os' x r g).code = 0
  · rw [if_pos e]
    obtain ⟨t1, t2, nd, t3⟩ := derive_way hw h.ln e
    exact gf_ok (s := s) hi k1.pre (Hd.cap t2 (hK.kid k1.wf (there_pre k1.pre t1) t3 (hK.more k1.wf k1.pre t1 hx))) rfl
  · rw [if_neg e]; exact gf_bad (s := s) _ hi k1.pre rfl
theorem gf_one (hK : KeepsG K W) {call : Caller} (hc : CallG K W call) {s : Sg} {p : Int} (hp : 0 ≤ p) (hW : W p) (h : Gs K s) (fr : Nat) (op k : Int) {a : V} (ha : Hd K s.ns p a) (n : Nat) : Gf K W s p (oneR call fr p op k a n s) := by
  have hb : ∀ c, Gf K W s p (bad c n s) := fun c => gf_bad c h (List.prefix_refl _) rfl
  have hr : s.ns <+: s.ns := List.prefix_refl _
  unfold oneR
  by_cases h9 : op = 9
  · rw [if_pos h9]
    split
    · exact gf_ok h hr (ha.getD 0) rfl
    · exact hb _
  rw [if_neg h9]
  by_cases h10 : op = 10
  · rw [if_pos h10]
    split
    · exact gf_ok h hr (ha.getD 1) rfl
    · exact hb _
  rw [if_neg h10]
  by_cases h11 : op = 11
  · rw [if_pos h11]
    split
    · exact gf_ok h hr (Hd.of (by decide) fun x hx => by rw [List.mem_singleton.1 hx]; exact ha) rfl
    · exact hb _
  rw [if_neg h11]
  by_cases h12 : op = 12
  · rw [if_pos h12]
    split
    · split
      · exact gf_ok h hr (ha.getD 0) rfl
      · exact hb _
    · exact hb _
  rw [if_neg h12]
  by_cases h13 : op = 13
  · rw [if_pos h13]
    cases e : cellR s a 0 with
    | error c => exact hb _
    | ok c =>
      obtain ⟨e1, e2, e3, e4⟩ := cellG_ok e
      obtain ⟨a1, a2⟩ := ha.is e1
      exact gf_ent (s := s) (s' := { s with es := s.es ++ [⟨p, c, 1, a.n⟩] }) ⟨h.wf, h.ln, h.ks, h.kept⟩ hr (Hd.leaf (by decide)) rfl ⟨hW, 0, .inl ⟨rfl, rfl⟩, a1, e3, e4, a2, rights_bit e2⟩
  rw [if_neg h13]
  by_cases h15 : op = 15
  · rw [if_pos h15]
    split
    · rename_i h4
      exact gf_made hK (os' := s.os) h (Nat.le_refl _) (ha.is h4).2 _ _ _
    · exact hb _
  rw [if_neg h15]
  by_cases h16 : op = 16
  · rw [if_pos h16]
    split
    · rename_i h4
      split
      · have ho : s.os.length ≤ (gateOf s.ns s.os).os.length := by unfold gateOf; split <;> simp
        refine (gf_made hK h ho (ha.is h4).2 _ _ _).andThen hK fun v m s' hs' _ hv => ?_
        refine gf_ok hs' (List.prefix_refl _) (Hd.of (by decide) fun x hx => ?_) rfl
        simp at hx
        rcases hx with rfl | rfl
        · exact hv
        · exact Hd.leaf (by decide)
      · exact hb _
    · exact hb _
  rw [if_neg h16]
  by_cases h17 : op = 17
  · rw [if_pos h17]
    split
    · have e : (cutOf s.ns s.os a.n).os.length = s.os.length := by unfold cutOf; split <;> simp
      have hi : Gs K { s with os := (cutOf s.ns s.os a.n).os } := ⟨by rw [e]; exact h.wf, h.ln, h.ks, h.kept⟩
      exact gf_ok (s := s) hi hr Hd.v0 rfl
    · exact hb _
  rw [if_neg h17]
  by_cases h18 : op = 18
  · rw [if_pos h18]; exact hc _ _ _ _ _ _ hp hW ha h
  rw [if_neg h18]
  have hi : Gs K { s with ks := s.ks.set p.toNat a } := ⟨h.wf, h.ln, by simp [h.ks], fun q hq => by
    simp only
    rw [List.getD_eq_getElem?_getD, List.getElem?_set]
    by_cases e : p.toNat = q
    · have e2 : q < s.ks.length := by rw [h.ks]; exact hq
      rw [if_pos e, if_pos (by omega)]
      have e3 : (q : Int) = p := by omega
      rw [e3]; exact ha
    · rw [if_neg e, ← List.getD_eq_getElem?_getD]; exact h.kept q hq⟩
  exact gf_ok (s := s) hi hr (kept_hd h hp) rfl
theorem gf_none {s : Sg} {p : Int} (hp : 0 ≤ p) (h : Gs K s) (op k n : Int) {arg : V} (ha : Hd K s.ns p arg) {names : List V} (hn : ∀ v ∈ names, Hd K s.ns p v) (m : Nat) : Gf K W s p (noneR p op k n arg names m s) := by
  have hk : Hd K s.ns p (names.getD (names.length - 1 - k.toNat) v0) := by
    rcases Nat.lt_or_ge (names.length - 1 - k.toNat) names.length with hi | hi
    · rw [List.getD_eq_getElem?_getD, List.getElem?_eq_getElem hi]; exact hn _ (List.getElem_mem hi)
    · rw [List.getD_eq_getElem?_getD, List.getElem?_eq_none hi]; exact Hd.v0
  have hr : s.ns <+: s.ns := List.prefix_refl _
  unfold noneR
  repeat' split
  · exact gf_ok h hr Hd.v0 rfl
  · exact gf_ok h hr (Hd.leaf (by decide)) rfl
  · exact gf_ok h hr ha rfl
  · exact gf_ok h hr hk rfl
  · exact gf_ok h hr (kept_hd h hp) rfl
theorem gf_call {ev : Evl} (h : EvG K W ev) (ms : Mods) : CallG K W (callR ev ms) := by
  intro fr p f v n s hp hW hv hs
  unfold callR
  split
  · exact gf_bad _ hs (List.prefix_refl _) rfl
  · split
    · exact gf_bad _ hs (List.prefix_refl _) rfl
    · exact h _ _ _ _ _ _ _ hp hW hv (by simp) hs
theorem gf_step (hK : KeepsG K W) {ev : Evl} (h : EvG K W ev) {call : Caller} (hc : CallG K W call) (ms : Mods) : EvG K W (stepR ev call ms) := by
  intro fr p x arg names n s hp hW ha hns hs
  unfold stepR
  by_cases h0 : n = 0
  · rw [if_pos h0]; exact gf_bad _ hs (List.prefix_refl _) rfl
  rw [if_neg h0]
  split
  · exact gf_none hp hs _ _ _ ha hns _
  · exact (h _ _ _ _ _ _ _ hp hW ha hns hs).andThen hK fun v m s' hs' _ hv => gf_one hK hc hp hW hs' _ _ _ hv _
  · split
    · exact (h _ _ _ _ _ _ _ hp hW ha hns hs).andThen hK fun v m s' hs' hpr hv => h _ _ _ _ _ _ _ hp hW (ha.more hK hs'.wf hpr) (fun u hu => by
        rcases List.mem_append.1 hu with hu | hu
        · exact (hns u hu).more hK hs'.wf hpr
        · simp at hu; rw [hu]; exact hv) hs'
    · exact (h _ _ _ _ _ _ _ hp hW ha hns hs).andThen hK fun v m s' hs' hpr hv => (h _ _ _ _ _ _ _ hp hW (ha.more hK hs'.wf hpr) (fun u hu => (hns u hu).more hK hs'.wf hpr) hs').andThen hK fun u m2 s2 hs2 hpr2 hu => gf_two hK hc hW hs2 _ _ _ _ (hv.more hK hs2.wf hpr2) hu _
  · refine (h _ _ _ _ _ _ _ hp hW ha hns hs).andThen hK fun v m s' hs' hpr hv => ?_
    split
    · split
      · exact h _ _ _ _ _ _ _ hp hW (ha.more hK hs'.wf hpr) (fun u hu => (hns u hu).more hK hs'.wf hpr) hs'
      · exact h _ _ _ _ _ _ _ hp hW (ha.more hK hs'.wf hpr) (fun u hu => (hns u hu).more hK hs'.wf hpr) hs'
    · exact gf_bad _ hs' (List.prefix_refl _) rfl
theorem ev_given (hK : KeepsG K W) (ms : Mods) : ∀ d, EvG K W (evR ms d) := by
  intro d
  induction d with
  | zero => intro fr p x arg names n s _ _ _ _ hs; exact gf_bad _ hs (List.prefix_refl _) rfl
  | succ d ih => exact gf_step hK ih (gf_call ih ms) ms
theorem run_given (hK : KeepsG K W) (ms : Mods) {s : Sg} (h : Gs K s) (p f : Int) (hW : W p) {arg : V} (ha : Hd K s.ns p arg) (fuel : Int) : Gs K (runR ms p f arg fuel s).2.2 ∧ s.ns <+: (runR ms p f arg fuel s).2.2.ns ∧ (∀ v, (runR ms p f arg fuel s).1 = .ok v → Hd K (runR ms p f arg fuel s).2.2.ns p v) ∧ ∃ new, (runR ms p f arg fuel s).2.2.es = s.es ++ new ∧ ∀ e ∈ new, EntG K W (runR ms p f arg fuel s).2.2.ns e := by
  have hz : ∀ c : Int, Gs K s ∧ s.ns <+: s.ns ∧ (∀ v, (Except.error c : Except Int V) = .ok v → Hd K s.ns p v) ∧ ∃ new, s.es = s.es ++ new ∧ ∀ e ∈ new, EntG K W s.ns e := fun c => ⟨h, List.prefix_refl _, fun v e => (by cases e), [], by simp, by simp⟩
  unfold runR
  by_cases h1 : fuel < 0 ∨ 2000 < fuel ∨ p < 0 ∨ 4 ≤ p
  · rw [if_pos h1]; exact hz _
  rw [if_neg h1]
  split
  · exact hz _
  · split
    · exact hz _
    · have k := gf_call (ev_given hK ms 2000) ms 0 p f arg fuel.toNat s (by omega) hW ha h
      exact ⟨k.st, k.pre, k.val, k.log⟩
end
def Cls (G : Int → Nd → Prop) : Prop := ∀ p r, G p r → 0 ≤ r.plugin → ∀ r', G p r' ↔ G r.plugin r'
def Giv (G : Int → Nd → Prop) (ns : List Nd) (p c : Int) : Prop := G p (targetOf ns c)
theorem keeps_given {G : Int → Nd → Prop} (hC : Cls G) : KeepsG (Giv G) (fun _ => True) where
  more hw hp hc h := by unfold Giv; rw [target_stays hw hp hc]; exact h
  kid hw hx e h := by
    obtain ⟨j, rfl, hj⟩ := Gr.there_yes hx
    unfold Giv targetOf at h ⊢
    rw [e]
    rw [Gr.way_yes hw hj] at h ⊢
    rw [List.getLastD_eq_getLast?, List.getLast?_cons] at h
    rw [List.getLastD_eq_getLast?, List.getLast?_cons, List.getLast?_cons]
    simpa using h
  ask hw ha ka hq cm h := by unfold Giv; rw [cm.target hw]; exact (hC _ _ ka hq _).1 h
  back hw ha ka hq cm h := by unfold Giv; rw [cm.target hw]; exact (hC _ _ ka hq _).2 h
  who _ _ _ _ := trivial
end Go.Proofs.YtkpckmcaeljocaaGreat
namespace Go.Proofs.YtkpckmcaeljocaaGreat
open Gr (Nd Res nd0 thereB openB deriveOf addOf gateOf cutOf rightsN wayOf gatesOf gatesW targetOf Wf NdOk passB meetW)
def Beh (p0 : Int) (ns : List Nd) (p c : Int) : Prop := (p = p0 → (0 : Int) ∈ gatesOf ns c) ∧ (targetOf ns c).plugin ≠ p0
theorem target_kid {ns : List Nd} {g : Nat} {x y : Int} {n : Nd} (hw : Wf ns g) (hx : thereB ns.length x = true) (e : wayOf ns y = n :: wayOf ns x) : targetOf ns y = targetOf ns x := by
  obtain ⟨j, rfl, hj⟩ := Gr.there_yes hx
  unfold targetOf
  rw [e, Gr.way_yes hw hj, List.getLastD_eq_getLast?, List.getLastD_eq_getLast?, List.getLast?_cons, List.getLast?_cons]
  simp
theorem gates_kid {ns : List Nd} {x y g : Int} {n : Nd} (e : wayOf ns y = n :: wayOf ns x) (h : g ∈ gatesOf ns x) : g ∈ gatesOf ns y := by
  unfold gatesOf gatesW at h ⊢
  rw [e, List.map_cons]
  exact List.mem_filter.2 ⟨List.mem_cons_of_mem _ (List.mem_filter.1 h).1, (List.mem_filter.1 h).2⟩
theorem keeps_behind (p0 : Int) (W : Int → Prop) (hW : ∀ q, q ≠ p0 → W q) : KeepsG (Beh p0) W where
  more hw hp hc h := ⟨fun e => by rw [gates_stays hw hp hc]; exact h.1 e, by rw [target_stays hw hp hc]; exact h.2⟩
  kid hw hx e h := ⟨fun e2 => gates_kid e (h.1 e2), by rw [target_kid hw hx e]; exact h.2⟩
  ask hw ha ka hq cm h := ⟨fun e => absurd e ka.2, by rw [cm.target hw]; exact h.2⟩
  back hw ha ka hq cm h := ⟨fun e => by
    rw [cm.gates]
    refine List.mem_append.2 (.inl (List.mem_filter.2 ⟨List.mem_reverse.2 (ka.1 e), by decide⟩)), by rw [cm.target hw]; exact h.2⟩
  who _ ka _ _ := hW _ ka.2
def Shut (os : List Bool) : Prop := os[0]? = some false
theorem Shut.shut {os : List Bool} (h : Shut os) : openB os 0 = false := by
  unfold Shut at h
  unfold openB
  simp [List.getD_eq_getElem?_getD, h]
theorem Shut.gate {os : List Bool} (h : Shut os) (ns : List Nd) : Shut (gateOf ns os).os := by
  unfold gateOf
  split
  · exact h
  · unfold Shut at h ⊢
    have h0 : 0 < os.length := by
      rcases Nat.eq_zero_or_pos os.length with e | e
      · rw [List.length_eq_zero_iff.1 e] at h; cases h
      · exact e
    simp only
    rw [List.getElem?_append_left h0]; exact h
theorem Shut.cut {os : List Bool} (h : Shut os) (ns : List Nd) (k : Int) : Shut (cutOf ns os k).os := by
  unfold cutOf
  split
  · unfold Shut at h ⊢
    simp only
    rw [List.getElem?_set]
    split
    · split
      · rfl
      · rename_i e1 e2
        rw [← e1] at h
        rw [List.getElem?_eq_none (by omega)] at h; cases h
    · exact h
  · exact h
theorem Shut.rights {ns : List Nd} {os : List Bool} (h : Shut os) {c : Int} (hc : (0 : Int) ∈ gatesOf ns c) : rightsN ns os c = 0 := by
  have ho := h.shut
  unfold rightsN
  rw [if_neg]
  intro k
  simp only [Bool.and_eq_true, List.all_eq_true] at k
  simp only [gatesOf, gatesW, List.mem_filter, List.mem_map, bne_iff_ne, ne_eq] at hc
  obtain ⟨⟨x, hx, hx2⟩, hne⟩ := hc
  have := k.2 x hx
  simp [passB, hx2, ho] at this
def Qt (s : Sg) (o : Out) : Prop := Shut o.s.os ∧ o.s.es = s.es
section
variable {p : Int}
theorem Qt.then {s : Sg} {W : Int → Prop} {o : Out} {f : V → Nat → Sg → Out} (g : Gf (Beh p) W s p o) (h : Qt s o) (hf : ∀ v m s', Gs (Beh p) s' → s.ns <+: s'.ns → Hd (Beh p) s'.ns p v → Shut s'.os → Qt s' (f v m s')) : Qt s (o.then f) := by
  unfold Out.then
  cases e : o.got with
  | error c => exact h
  | ok v =>
    obtain ⟨k1, k2⟩ := hf v o.left o.s g.st g.pre (g.val v e) h.1
    exact ⟨k1, k2.trans h.2⟩
theorem cell_shut {s : Sg} (hs : Shut s.os) {a : V} (ha : Hd (Beh p) s.ns p a) (bit : Nat) (c : Int) : cellR s a bit ≠ .ok c := fun e => by
  obtain ⟨e1, e2, _, _⟩ := cellG_ok e
  rw [hs.rights ((ha.is e1).2.1 rfl)] at e2
  simp at e2
theorem qt_same {s : Sg} (hs : Shut s.os) (v : V) (n : Nat) : Qt s (okV v n s) := ⟨hs, rfl⟩
theorem qt_bad {s : Sg} (hs : Shut s.os) (c : Int) (n : Nat) : Qt s (bad c n s) := ⟨hs, rfl⟩
theorem qt_ask {call : Caller} {s : Sg} (hs : Shut s.os) (ms : Mods) (fr : Nat) {a : V} (ha : Hd (Beh p) s.ns p a) (b : V) (n : Nat) : Qt s (askR call ms fr a b n s) := by
  unfold askR
  split
  · rename_i h4
    rw [hs.rights ((ha.is h4).2.1 rfl)]
    simp only [Nat.zero_testBit, Bool.false_eq_true, if_false]
    exact qt_bad hs _ _
  · exact qt_bad hs _ _
theorem qt_two {call : Caller} {s : Sg} (hs : Shut s.os) (ms : Mods) (fr : Nat) (op k : Int) {a : V} (ha : Hd (Beh p) s.ns p a) (b : V) (n : Nat) : Qt s (twoR call ms fr p op k a b n s) := by
  unfold twoR
  split
  · split
    · exact qt_same hs _ _
    · exact qt_bad hs _ _
  · split
    · split
      · exact qt_same hs _ _
      · exact qt_bad hs _ _
    · split
      · split
        · cases e : cellR s a 1 with
          | error c => exact qt_bad hs _ _
          | ok c => exact absurd e (cell_shut hs ha 1 c)
        · exact qt_bad hs _ _
      · exact qt_ask hs ms fr ha b n
def CallQ (p : Int) (call : Caller) : Prop := ∀ fr f v n s, Hd (Beh p) s.ns p v → Gs (Beh p) s → Shut s.os → Qt s (call fr p f v n s)
def EvQ (p : Int) (ev : Evl) : Prop := ∀ fr x arg names n s, Hd (Beh p) s.ns p arg → (∀ v ∈ names, Hd (Beh p) s.ns p v) → Gs (Beh p) s → Shut s.os → Qt s (ev fr p x arg names n s)
theorem qt_made {s : Sg} {os' : List Bool} (hs : Shut os') (x r g : Int) (n : Nat) : Qt s (madeR (deriveOf s.ns os' x r g) n { s with os := os' }) := by
  have e : (deriveOf s.ns os' x r g).os = os' := derive_os' _ _ _ _ _
  unfold madeR
  split
  · exact ⟨by simp only [okV]; rw [e]; exact hs, rfl⟩
  · exact ⟨by simp only [bad]; rw [e]; exact hs, rfl⟩
theorem qt_one {call : Caller} (hc : CallQ p call) {s : Sg} (h : Gs (Beh p) s) (hs : Shut s.os) (fr : Nat) (op k : Int) {a : V} (ha : Hd (Beh p) s.ns p a) (n : Nat) : Qt s (oneR call fr p op k a n s) := by
  have hb : ∀ c, Qt s (bad c n s) := fun c => qt_bad hs c n
  have hk : ∀ v, Qt s (okV v n s) := fun v => qt_same hs v n
  unfold oneR
  by_cases h9 : op = 9
  · rw [if_pos h9]
    split
    · exact hk _
    · exact hb _
  rw [if_neg h9]
  by_cases h10 : op = 10
  · rw [if_pos h10]
    split
    · exact hk _
    · exact hb _
  rw [if_neg h10]
  by_cases h11 : op = 11
  · rw [if_pos h11]
    split
    · exact hk _
    · exact hb _
  rw [if_neg h11]
  by_cases h12 : op = 12
  · rw [if_pos h12]
    split
    · split
      · exact hk _
      · exact hb _
    · exact hb _
  rw [if_neg h12]
  by_cases h13 : op = 13
  · rw [if_pos h13]
    cases e : cellR s a 0 with
    | error c => exact hb _
    | ok c => exact absurd e (cell_shut hs ha 0 c)
  rw [if_neg h13]
  by_cases h15 : op = 15
  · rw [if_pos h15]
    split
    · exact qt_made (os' := s.os) hs _ _ _ _
    · exact hb _
  rw [if_neg h15]
  by_cases h16 : op = 16
  · rw [if_pos h16]
    split
    · split
      · have k := qt_made (s := s) (hs.gate s.ns) a.n 15 (gateOf s.ns s.os).num n
        unfold Out.then
        split
        · exact k
        · exact k
      · exact hb _
    · exact hb _
  rw [if_neg h16]
  by_cases h17 : op = 17
  · rw [if_pos h17]
    split
    · exact ⟨hs.cut s.ns a.n, rfl⟩
    · exact hb _
  rw [if_neg h17]
  by_cases h18 : op = 18
  · rw [if_pos h18]; exact hc _ _ _ _ _ ha h hs
  rw [if_neg h18]
  exact ⟨hs, rfl⟩
theorem qt_call {ev : Evl} (h : EvQ p ev) (ms : Mods) : CallQ p (callR ev ms) := by
  intro fr f v n s hv hg hs
  unfold callR
  split
  · exact qt_bad hs _ _
  · split
    · exact qt_bad hs _ _
    · exact h _ _ _ _ _ _ hv (by simp) hg hs
theorem qt_step (hp : 0 ≤ p) {ev : Evl} (hg : EvG (Beh p) (fun _ => True) ev) (h : EvQ p ev) {call : Caller} (hc : CallQ p call) (ms : Mods) : EvQ p (stepR ev call ms) := by
  have hK := keeps_behind p (fun _ => True) fun _ _ => trivial
  intro fr x arg names n s ha hns hG hs
  unfold stepR
  by_cases h0 : n = 0
  · rw [if_pos h0]; exact qt_bad hs _ _
  rw [if_neg h0]
  split
  · unfold noneR
    repeat' split
    all_goals exact qt_same hs _ _
  · exact Qt.then (hg _ _ _ _ _ _ _ hp trivial ha hns hG) (h _ _ _ _ _ _ ha hns hG hs) fun v m s' hG' _ hv hs' => qt_one hc hG' hs' _ _ _ hv _
  · split
    · exact Qt.then (hg _ _ _ _ _ _ _ hp trivial ha hns hG) (h _ _ _ _ _ _ ha hns hG hs) fun v m s' hG' pr hv hs' => h _ _ _ _ _ _ (ha.more hK hG'.wf pr) (fun u hu => by
        rcases List.mem_append.1 hu with hu | hu
        · exact (hns u hu).more hK hG'.wf pr
        · simp at hu; rw [hu]; exact hv) hG' hs'
    · exact Qt.then (hg _ _ _ _ _ _ _ hp trivial ha hns hG) (h _ _ _ _ _ _ ha hns hG hs) fun v m s' hG' pr hv hs' => Qt.then (hg _ _ _ _ _ _ _ hp trivial (ha.more hK hG'.wf pr) (fun u hu => (hns u hu).more hK hG'.wf pr) hG') (h _ _ _ _ _ _ (ha.more hK hG'.wf pr) (fun u hu => (hns u hu).more hK hG'.wf pr) hG' hs') fun u m2 s2 hG2 pr2 hu hs2 => qt_two hs2 _ _ _ _ (hv.more hK hG2.wf pr2) _ _
  · refine Qt.then (hg _ _ _ _ _ _ _ hp trivial ha hns hG) (h _ _ _ _ _ _ ha hns hG hs) fun v m s' hG' pr hv hs' => ?_
    split
    · split
      · exact h _ _ _ _ _ _ (ha.more hK hG'.wf pr) (fun u hu => (hns u hu).more hK hG'.wf pr) hG' hs'
      · exact h _ _ _ _ _ _ (ha.more hK hG'.wf pr) (fun u hu => (hns u hu).more hK hG'.wf pr) hG' hs'
    · exact qt_bad hs' _ _
theorem ev_shut (hp : 0 ≤ p) (ms : Mods) : ∀ d, EvQ p (evR ms d) := by
  have hK := keeps_behind p (fun _ => True) fun _ _ => trivial
  intro d
  induction d with
  | zero => intro fr x arg names n s _ _ _ hs; exact qt_bad hs _ _
  | succ d ih => exact qt_step hp (ev_given hK ms d) ih (qt_call ih ms) ms
theorem run_shut (ms : Mods) {s : Sg} (h : Gs (Beh p) s) (hs : Shut s.os) (f : Int) {arg : V} (ha : Hd (Beh p) s.ns p arg) (fuel : Int) : Shut (runR ms p f arg fuel s).2.2.os ∧ (runR ms p f arg fuel s).2.2.es = s.es := by
  unfold runR
  split
  · exact ⟨hs, rfl⟩
  · rename_i h1
    split
    · exact ⟨hs, rfl⟩
    · split
      · exact ⟨hs, rfl⟩
      · exact qt_call (ev_shut (by omega) ms 2000) ms 0 f arg fuel.toNat s ha h hs
end
structure Gat (P : List Bool → Prop) : Prop where
  gate : ∀ {ns : List Nd} {os : List Bool}, P os → P (gateOf ns os).os
  cut : ∀ {ns : List Nd} {os : List Bool} {k : Int}, P os → P (cutOf ns os k).os
theorem gat_shut : Gat Shut := ⟨fun h => h.gate _, fun h => h.cut _ _⟩
theorem gat_some : Gat (fun os => 0 < os.length) := ⟨fun h => by unfold gateOf; split <;> simp; exact h, fun h => by unfold cutOf; split <;> simp <;> exact h⟩
section
variable {P : List Bool → Prop}
def St (P : List Bool → Prop) (o : Out) : Prop := P o.s.os
theorem st_made {s : Sg} {os' : List Bool} (hs : P os') (x r g : Int) (n : Nat) : St P (madeR (deriveOf s.ns os' x r g) n { s with os := os' }) := by
  have e : (deriveOf s.ns os' x r g).os = os' := derive_os' _ _ _ _ _
  unfold madeR
  split
  · unfold St; simp only [okV]; rw [e]; exact hs
  · unfold St; simp only [bad]; rw [e]; exact hs
theorem St.then {o : Out} {f : V → Nat → Sg → Out} (h : St P o) (hf : ∀ v m s', P s'.os → St P (f v m s')) : St P (o.then f) := by
  unfold Out.then
  cases e : o.got with
  | error c => exact h
  | ok v => exact hf v o.left o.s h
theorem st_cross {s : Sg} (hs : P s.os) (v : V) (gs : List Int) (n : Nat) : St P (crossR v gs n s) := by
  unfold crossR
  split
  · exact hs
  · exact hs
def CallS (P : List Bool → Prop) (call : Caller) : Prop := ∀ fr p f v n s, P s.os → St P (call fr p f v n s)
def EvS (P : List Bool → Prop) (ev : Evl) : Prop := ∀ fr p x arg names n s, P s.os → St P (ev fr p x arg names n s)
theorem st_two {call : Caller} (hc : CallS P call) {s : Sg} (hs : P s.os) (ms : Mods) (fr : Nat) (p op k : Int) (a b : V) (n : Nat) : St P (twoR call ms fr p op k a b n s) := by
  unfold twoR
  split
  · split <;> exact hs
  · split
    · split <;> exact hs
    · split
      · split
        · cases cellR s a 1 with
          | error c => exact hs
          | ok c => exact hs
        · exact hs
      · unfold askR
        repeat' split
        all_goals first
          | exact hs
          | exact (st_cross hs _ _ _).then fun x m s' hs' => (hc _ _ _ _ _ _ hs').then fun y m2 s2 hs2 => st_cross hs2 _ _ _
theorem st_one (hP : Gat P) {call : Caller} (hc : CallS P call) {s : Sg} (hs : P s.os) (fr : Nat) (p op k : Int) (a : V) (n : Nat) : St P (oneR call fr p op k a n s) := by
  unfold oneR
  by_cases h9 : op = 9
  · rw [if_pos h9]; split <;> exact hs
  rw [if_neg h9]
  by_cases h10 : op = 10
  · rw [if_pos h10]; split <;> exact hs
  rw [if_neg h10]
  by_cases h11 : op = 11
  · rw [if_pos h11]; split <;> exact hs
  rw [if_neg h11]
  by_cases h12 : op = 12
  · rw [if_pos h12]
    split
    · split <;> exact hs
    · exact hs
  rw [if_neg h12]
  by_cases h13 : op = 13
  · rw [if_pos h13]
    cases cellR s a 0 with
    | error c => exact hs
    | ok c => exact hs
  rw [if_neg h13]
  by_cases h15 : op = 15
  · rw [if_pos h15]
    split
    · exact st_made (s := s) (os' := s.os) hs _ _ _ _
    · exact hs
  rw [if_neg h15]
  by_cases h16 : op = 16
  · rw [if_pos h16]
    split
    · split
      · exact St.then (st_made (s := s) (hP.gate hs) a.n 15 (gateOf s.ns s.os).num n) fun v m s' hs' => hs'
      · exact hs
    · exact hs
  rw [if_neg h16]
  by_cases h17 : op = 17
  · rw [if_pos h17]
    split
    · exact hP.cut hs
    · exact hs
  rw [if_neg h17]
  by_cases h18 : op = 18
  · rw [if_pos h18]; exact hc _ _ _ _ _ _ hs
  rw [if_neg h18]
  exact hs
theorem st_call {ev : Evl} (h : EvS P ev) (ms : Mods) : CallS P (callR ev ms) := by
  intro fr p f v n s hs
  unfold callR
  split
  · exact hs
  · split
    · exact hs
    · exact h _ _ _ _ _ _ _ hs
theorem ev_stays (hP : Gat P) (ms : Mods) : ∀ d, EvS P (evR ms d) := by
  intro d
  induction d with
  | zero => intro fr p x arg names n s hs; exact hs
  | succ d h =>
    have hc := st_call h ms
    intro fr p x arg names n s hs
    show St P (stepR (evR ms d) (callR (evR ms d) ms) ms fr p x arg names n s)
    unfold stepR
    by_cases h0 : n = 0
    · rw [if_pos h0]; exact hs
    rw [if_neg h0]
    split
    · unfold noneR
      repeat' split
      all_goals exact hs
    · exact (h _ _ _ _ _ _ _ hs).then fun v m s' hs' => st_one hP hc hs' _ _ _ _ _ _
    · split
      · exact (h _ _ _ _ _ _ _ hs).then fun v m s' hs' => h _ _ _ _ _ _ _ hs'
      · exact (h _ _ _ _ _ _ _ hs).then fun v m s' hs' => (h _ _ _ _ _ _ _ hs').then fun u m2 s2 hs2 => st_two hc hs2 _ _ _ _ _ _ _ _
    · refine (h _ _ _ _ _ _ _ hs).then fun v m s' hs' => ?_
      split
      · split
        · exact h _ _ _ _ _ _ _ hs'
        · exact h _ _ _ _ _ _ _ hs'
      · exact hs'
theorem run_stays (hP : Gat P) (ms : Mods) {s : Sg} (hs : P s.os) (p f : Int) (arg : V) (fuel : Int) : P (runR ms p f arg fuel s).2.2.os := by
  unfold runR
  repeat' split
  all_goals first
    | exact hs
    | exact st_call (ev_stays hP ms 2000) ms _ _ _ _ _ _ hs
end
end Go.Proofs.YtkpckmcaeljocaaGreat
namespace Go.Proofs.YtkpckmcaeljocaaGreat
open Gr (Nd Res nd0 thereB openB deriveOf addOf gateOf cutOf cellB cellOf funcB funcOf rightsN wayOf gatesOf gatesW targetOf Wf NdOk passB meetW)
structure Sp where
  kind : Int
  p : Int
  q : Int
  k : Int
  h : Int
  r : Int
  g : Int
  n : Int
  code : Int
  fs : List Ex.V
structure Evt where
  code : Int
  fuel : Int
  v : V
structure Hs where
  s : Sg
  ms : Mods
  hs : List (List V)
def plugB (p : Int) : Bool := decide (0 ≤ p ∧ p < 4)
def giveH (h : Hs) (p : Int) (r : Res) : Evt × Hs :=
  if r.code = 0 then (⟨0, 0, capV r.num⟩, { h with s := { h.s with ns := r.ns, os := r.os }, hs := h.hs.set p.toNat (h.hs.getD p.toNat [] ++ [capV r.num]) }) else (⟨r.code, 0, v0⟩, h)
def evtR (o : Except Int V × Int × Sg) : Evt := match o.1 with
  | .ok v => ⟨0, o.2.1, v⟩
  | .error c => ⟨c, o.2.1, v0⟩
def runH (h : Hs) (p k : Int) (v : V) : Evt × Hs := (evtR (runR h.ms p k v 2000 h.s), { h with s := (runR h.ms p k v 2000 h.s).2.2 })
def loadH (h : Hs) (x : Sp) : Evt × Hs :=
  if plugB x.p then (if x.code = 0 then (⟨0, 0, v0⟩, { h with ms := h.ms.set x.p.toNat (some x.fs), s := { h.s with ks := h.s.ks.set x.p.toNat v0 } }) else (⟨x.code, 0, v0⟩, h)) else (⟨1, 0, v0⟩, h)
def callH (h : Hs) (x : Sp) : Evt × Hs :=
  if 0 ≤ x.h then (if plugB x.p then (match (h.hs.getD x.p.toNat [])[x.h.toNat]? with
    | some v => runH h x.p x.k v
    | none => (⟨8, 0, v0⟩, h)) else (⟨8, 0, v0⟩, h)) else runH h x.p x.k (intV x.n)
def stepH (h : Hs) (x : Sp) : Evt × Hs :=
  if x.kind = 1 then loadH h x
  else if x.kind = 2 then (if plugB x.p then giveH h x.p (cellOf h.s.ns h.s.os x.k x.r x.g) else (⟨1, 0, v0⟩, h))
  else if x.kind = 3 then (if plugB x.p then giveH h x.p (funcOf h.s.ns h.s.os x.q x.k x.r x.g) else (⟨1, 0, v0⟩, h))
  else if x.kind = 4 then callH h x
  else if x.kind = 5 then (⟨(cutOf h.s.ns h.s.os x.g).code, 0, v0⟩, { h with s := { h.s with os := (cutOf h.s.ns h.s.os x.g).os } })
  else if x.kind = 6 then (⟨(gateOf h.s.ns h.s.os).code, 0, if (gateOf h.s.ns h.s.os).code = 0 then intV (gateOf h.s.ns h.s.os).num else v0⟩, { h with s := { h.s with os := (gateOf h.s.ns h.s.os).os } })
  else (⟨2, 0, v0⟩, h)
def h00 : Hs := ⟨⟨[], [], List.replicate 12 0, [], List.replicate 4 v0⟩, List.replicate 4 none, List.replicate 4 []⟩
structure HInv (K : List Nd → Int → Int → Prop) (h : Hs) : Prop where
  gs : Gs K h.s
  len : h.hs.length = 4
  hand : ∀ q : Nat, q < 4 → ∀ v ∈ h.hs.getD q [], Hd K h.s.ns q v
theorem Hd.mono {K K' : List Nd → Int → Int → Prop} (hm : ∀ ns p c, K ns p c → K' ns p c) {ns : List Nd} {p : Int} {v : V} (h : Hd K ns p v) : Hd K' ns p v := fun c hc => ⟨(h c hc).1, hm _ _ _ (h c hc).2⟩
theorem HInv.mono {K K' : List Nd → Int → Int → Prop} (hm : ∀ ns p c, K ns p c → K' ns p c) {h : Hs} (hi : HInv K h) : HInv K' h := ⟨⟨hi.gs.wf, hi.gs.ln, hi.gs.ks, fun q hq => (hi.gs.kept q hq).mono hm⟩, hi.len, fun q hq v hv => (hi.hand q hq v hv).mono hm⟩
theorem add_root {ns : List Nd} {os : List Bool} {n : Nd} (hw : Wf ns os.length) (hl : ns.length ≤ 80) (hp : n.parent = -1) (hc : 0 ≤ n.cell ∧ n.cell < 12) (hq : -1 ≤ n.plugin ∧ n.plugin < 4) (hf : 0 ≤ n.func ∧ n.func < 6) (h : (addOf ns os n).code = 0) : Nx os ns (addOf ns os n).ns ∧ (addOf ns os n).os = os ∧ thereB (addOf ns os n).ns.length (addOf ns os n).num = true ∧ wayOf (addOf ns os n).ns (addOf ns os n).num = [n] := by
  unfold addOf at h ⊢
  by_cases h1 : ¬ (0 ≤ n.rights ∧ n.rights ≤ 15)
  · rw [if_pos h1] at h; cases h
  rw [if_neg h1] at h ⊢
  by_cases h2 : n.gate ≠ -1 ∧ thereB os.length n.gate = false
  · rw [if_pos h2] at h; cases h
  rw [if_neg h2] at h ⊢
  by_cases h3 : ns.length = 80
  · rw [if_pos h3] at h; cases h
  rw [if_neg h3]
  simp only
  have hg : n.gate = -1 ∨ thereB os.length n.gate = true := by
    by_cases e : n.gate = -1
    · exact .inl e
    · right
      cases ht : thereB os.length n.gate
      · exact absurd ⟨e, ht⟩ h2
      · rfl
  have hw2 : Wf (ns ++ [n]) os.length := hw.snoc ⟨by omega, by omega, hg, by omega, by omega, hc.1, hc.2, hq.1, hq.2, hf.1, hf.2⟩
  refine ⟨⟨hw2, ⟨_, rfl⟩, by simp; omega⟩, trivial, by simp [thereB]; omega, ?_⟩
  have hlen : ns.length < (ns ++ [n]).length := by simp
  have e1 := Gr.way_yes hw2 hlen
  have e2 : (ns ++ [n])[ns.length] = n := by simp
  rw [e2, hp, Gr.way_no (n := -1) (by simp [thereB])] at e1
  exact e1
theorem HInv.give {K : List Nd → Int → Int → Prop} {W : Int → Prop} (hK : KeepsG K W) {h : Hs} (hi : HInv K h) {p : Int} (hp : plugB p = true) {r : Res} (hx : Nx h.s.os h.s.ns r.ns) (ho : r.os = h.s.os) (ht : thereB r.ns.length r.num = true) (hk : K r.ns p r.num) (hc : r.code = 0) : HInv K (giveH h p r).2 := by
  unfold giveH
  rw [if_pos hc]
  have hpp : 0 ≤ p ∧ p < 4 := by simpa [plugB] using hp
  refine ⟨⟨by simp only; rw [ho]; exact hx.wf, hx.len, hi.gs.ks, fun q hq => (hi.gs.kept q hq).more hK hx.wf hx.pre⟩, by simp [hi.len], fun q hq v hv => ?_⟩
  simp only at hv ⊢
  rw [List.getD_eq_getElem?_getD, List.getElem?_set] at hv
  by_cases e : p.toNat = q
  · have e2 : q < h.hs.length := by rw [hi.len]; exact hq
    rw [if_pos e, if_pos (by omega)] at hv
    simp only [Option.getD_some] at hv
    rcases List.mem_append.1 hv with hv | hv
    · rw [e] at hv
      exact (hi.hand q hq v hv).more hK hx.wf hx.pre
    · rw [List.mem_singleton.1 hv]
      have e3 : (q : Int) = p := by omega
      rw [e3]
      exact Hd.cap ht hk
  · rw [if_neg e, ← List.getD_eq_getElem?_getD] at hv
    exact (hi.hand q hq v hv).more hK hx.wf hx.pre
theorem HInv.load {K : List Nd → Int → Int → Prop} {h : Hs} (hi : HInv K h) (x : Sp) : HInv K (loadH h x).2 := by
  unfold loadH
  split
  · split
    · refine ⟨⟨hi.gs.wf, hi.gs.ln, by simp [hi.gs.ks], fun q hq => ?_⟩, hi.len, hi.hand⟩
      simp only
      rw [List.getD_eq_getElem?_getD, List.getElem?_set]
      by_cases e : x.p.toNat = q
      · have e2 : q < h.s.ks.length := by rw [hi.gs.ks]; exact hq
        rw [if_pos e, if_pos (by omega)]
        exact Hd.v0
      · rw [if_neg e, ← List.getD_eq_getElem?_getD]; exact hi.gs.kept q hq
    · exact hi
  · exact hi
theorem HInv.run {K : List Nd → Int → Int → Prop} {W : Int → Prop} (hK : KeepsG K W) {h : Hs} (hi : HInv K h) {p : Int} (hW : W p) (k : Int) {v : V} (hv : Hd K h.s.ns p v) : HInv K (runH h p k v).2 ∧ ∃ new, (runH h p k v).2.s.es = h.s.es ++ new ∧ ∀ e ∈ new, EntG K W (runH h p k v).2.s.ns e := by
  obtain ⟨k1, k2, _, k4⟩ := run_given hK h.ms hi.gs p k hW hv 2000
  exact ⟨⟨k1, hi.len, fun q hq v hv => (hi.hand q hq v hv).more hK k1.wf k2⟩, k4⟩
theorem HInv.call {K : List Nd → Int → Int → Prop} {W : Int → Prop} (hK : KeepsG K W) {h : Hs} (hi : HInv K h) (x : Sp) (hW : W x.p) : HInv K (callH h x).2 ∧ ∃ new, (callH h x).2.s.es = h.s.es ++ new ∧ ∀ e ∈ new, EntG K W (callH h x).2.s.ns e := by
  have hz : HInv K h ∧ ∃ new, h.s.es = h.s.es ++ new ∧ ∀ e ∈ new, EntG K W h.s.ns e := ⟨hi, [], by simp, by simp⟩
  unfold callH
  split
  · split
    · rename_i hp
      have hpp : 0 ≤ x.p ∧ x.p < 4 := by simpa [plugB] using hp
      split
      · rename_i v e
        have := hi.hand x.p.toNat (by omega) v (List.mem_of_getElem? e)
        rw [Int.toNat_of_nonneg hpp.1] at this
        exact hi.run hK hW _ this
      · exact hz
    · exact hz
  · exact hi.run hK hW _ (Hd.leaf (by decide))
def Lkd (tr : List (Sp × Int)) (p q : Int) : Prop := ∀ S : Int → Prop, S p → (∀ y ∈ tr, y.1.kind = 3 → y.2 = 0 → S y.1.p → S y.1.q) → (∀ y ∈ tr, y.1.kind = 3 → y.2 = 0 → S y.1.q → S y.1.p) → S q
theorem Lkd.refl {tr : List (Sp × Int)} {p : Int} : Lkd tr p p := fun _ h _ _ => h
theorem Lkd.link {tr : List (Sp × Int)} {p : Int} {y : Sp × Int} (a : y ∈ tr) (b : y.1.kind = 3) (c : y.2 = 0) (h : Lkd tr p y.1.p) : Lkd tr p y.1.q := fun S h0 h1 h2 => h1 y a b c (h S h0 h1 h2)
theorem Lkd.back {tr : List (Sp × Int)} {p : Int} {y : Sp × Int} (a : y ∈ tr) (b : y.1.kind = 3) (c : y.2 = 0) (h : Lkd tr p y.1.q) : Lkd tr p y.1.p := fun S h0 h1 h2 => h2 y a b c (h S h0 h1 h2)
theorem Lkd.trans {tr : List (Sp × Int)} {p q r : Int} (h : Lkd tr p q) (k : Lkd tr q r) : Lkd tr p r := k (fun x => Lkd tr p x) h (fun _ a b c ih => .link a b c ih) fun _ a b c ih => .back a b c ih
theorem Lkd.symm {tr : List (Sp × Int)} {p q : Int} (h : Lkd tr p q) : Lkd tr q p := h (fun x => Lkd tr x p) .refl (fun _ a b c ih => (Lkd.back a b c .refl).trans ih) fun _ a b c ih => (Lkd.link a b c .refl).trans ih
theorem Lkd.mono {tr tr' : List (Sp × Int)} (hs : ∀ y ∈ tr, y ∈ tr') {p q : Int} (h : Lkd tr p q) : Lkd tr' p q := h (fun x => Lkd tr' p x) .refl (fun y a b c ih => .link (hs y a) b c ih) fun y a b c ih => .back (hs y a) b c ih
def Gvn (tr : List (Sp × Int)) (p : Int) (r : Nd) : Prop := ∃ y ∈ tr, y.2 = 0 ∧ Lkd tr p y.1.p ∧ (y.1.kind = 2 ∧ r = ⟨-1, y.1.g, y.1.r, y.1.k, -1, 0⟩ ∨ y.1.kind = 3 ∧ 0 ≤ y.1.q ∧ r = ⟨-1, y.1.g, y.1.r, 0, y.1.q, y.1.k⟩)
theorem Gvn.mono {tr tr' : List (Sp × Int)} (hs : ∀ y ∈ tr, y ∈ tr') {p : Int} {r : Nd} (h : Gvn tr p r) : Gvn tr' p r := by
  obtain ⟨y, h1, h2, h3, h4⟩ := h
  exact ⟨y, hs y h1, h2, h3.mono hs, h4⟩
theorem gvn_cls (tr : List (Sp × Int)) : Cls (Gvn tr) := by
  intro p r h hr r'
  obtain ⟨y, h1, h2, h3, h4⟩ := h
  rcases h4 with ⟨_, rfl⟩ | ⟨h4, _, rfl⟩
  · simp at hr
  · have hl : Lkd tr p y.1.q := .link h1 h4 h2 h3
    constructor
    · rintro ⟨z, k1, k2, k3, k4⟩; exact ⟨z, k1, k2, hl.symm.trans k3, k4⟩
    · rintro ⟨z, k1, k2, k3, k4⟩; exact ⟨z, k1, k2, hl.trans k3, k4⟩
def MayM (tr : List (Sp × Int)) (p cell : Int) (bit : Nat) : Prop := ∃ y ∈ tr, y.2 = 0 ∧ y.1.kind = 2 ∧ y.1.k = cell ∧ y.1.r.toNat.testBit bit = true ∧ Lkd tr p y.1.p
theorem ent_may {tr : List (Sp × Int)} {ns : List Nd} {g : Nat} {W : Int → Prop} (hw : Wf ns g) {e : Wo.Ent} (h : EntG (Giv (Gvn tr)) W ns e) : ∃ bit : Nat, (e.right = 1 ∧ bit = 0 ∨ e.right = 2 ∧ bit = 1) ∧ MayM tr e.plugin e.cell bit ∧ thereB ns.length e.node = true ∧ (targetOf ns e.node).plugin < 0 ∧ (targetOf ns e.node).cell = e.cell ∧ ∀ n ∈ wayOf ns e.node, n.rights.toNat.testBit bit = true := by
  obtain ⟨_, bit, h1, h2, h3, h4, h5, h6⟩ := h
  refine ⟨bit, h1, ?_, h2, h3, h4, h6⟩
  have hmem : targetOf ns e.node ∈ wayOf ns e.node := by
    obtain ⟨j, e1, hj⟩ := Gr.there_yes h2
    unfold targetOf
    rw [e1, Gr.way_yes hw hj, List.getLastD_eq_getLast?, List.getLast?_eq_some_getLast (by simp)]
    exact List.getLast_mem _
  have hb := h6 _ hmem
  obtain ⟨y, k1, k2, k3, k4⟩ := h5
  rcases k4 with ⟨k4, k5⟩ | ⟨_, k4, k5⟩
  · rw [k5] at hb h4
    exact ⟨y, k1, k2, k4, h4, hb, k3⟩
  · rw [k5] at h3
    simp at h3
    omega
theorem cell_root {ns : List Nd} {os : List Bool} {c r g : Int} (hw : Wf ns os.length) (hl : ns.length ≤ 80) (h : (cellOf ns os c r g).code = 0) : Nx os ns (cellOf ns os c r g).ns ∧ (cellOf ns os c r g).os = os ∧ thereB (cellOf ns os c r g).ns.length (cellOf ns os c r g).num = true ∧ wayOf (cellOf ns os c r g).ns (cellOf ns os c r g).num = [⟨-1, g, r, c, -1, 0⟩] := by
  unfold cellOf at h ⊢
  by_cases h1 : cellB c = true
  · rw [if_pos h1] at h ⊢
    exact add_root hw hl rfl (by simpa [cellB] using h1) (by simp) (by simp) h
  · rw [if_neg h1] at h; cases h
theorem func_root {ns : List Nd} {os : List Bool} {p f r g : Int} (hw : Wf ns os.length) (hl : ns.length ≤ 80) (h : (funcOf ns os p f r g).code = 0) : (0 ≤ p ∧ p < 4) ∧ Nx os ns (funcOf ns os p f r g).ns ∧ (funcOf ns os p f r g).os = os ∧ thereB (funcOf ns os p f r g).ns.length (funcOf ns os p f r g).num = true ∧ wayOf (funcOf ns os p f r g).ns (funcOf ns os p f r g).num = [⟨-1, g, r, 0, p, f⟩] := by
  unfold funcOf at h ⊢
  by_cases h1 : funcB p f = true
  · rw [if_pos h1] at h ⊢
    have h2 : 0 ≤ p ∧ p < 4 ∧ 0 ≤ f ∧ f < 6 := by simpa [funcB] using h1
    exact ⟨⟨h2.1, h2.2.1⟩, add_root hw hl rfl (by simp) ⟨by simp only; omega, h2.2.1⟩ h2.2.2 h⟩
  · rw [if_neg h1] at h; cases h
theorem give_code {h : Hs} {p : Int} {r : Res} (hc : (giveH h p r).1.code = 0) : r.code = 0 := by
  unfold giveH at hc
  split at hc
  · assumption
  · exact hc
theorem give_bad {h : Hs} {p : Int} {r : Res} (hc : r.code ≠ 0) : (giveH h p r).2 = h := by unfold giveH; rw [if_neg hc]
theorem give_es (h : Hs) (p : Int) (r : Res) : (giveH h p r).2.s.es = h.s.es := by unfold giveH; split <;> rfl
theorem HInv.os {K : List Nd → Int → Int → Prop} {h : Hs} (hi : HInv K h) {os : List Bool} (ho : h.s.os.length ≤ os.length) : HInv K { h with s := { h.s with os := os } } := ⟨⟨hi.gs.wf.more ho, hi.gs.ln, hi.gs.ks, hi.gs.kept⟩, hi.len, hi.hand⟩
theorem HInv.step {K : List Nd → Int → Int → Prop} {W : Int → Prop} (hK : KeepsG K W) {h : Hs} (hi : HInv K h) (x : Sp) (hW : x.kind = 4 → W x.p)
    (h2 : x.kind = 2 → ∀ ns c, thereB ns.length c = true → wayOf ns c = [⟨-1, x.g, x.r, x.k, -1, 0⟩] → K ns x.p c)
    (h3 : x.kind = 3 → 0 ≤ x.q → ∀ ns c, thereB ns.length c = true → wayOf ns c = [⟨-1, x.g, x.r, 0, x.q, x.k⟩] → K ns x.p c) :
    HInv K (stepH h x).2 ∧ ∃ new, (stepH h x).2.s.es = h.s.es ++ new ∧ ∀ e ∈ new, EntG K W (stepH h x).2.s.ns e := by
  have hz : ∀ {h' : Hs}, HInv K h' → h'.s.es = h.s.es → HInv K h' ∧ ∃ new, h'.s.es = h.s.es ++ new ∧ ∀ e ∈ new, EntG K W h'.s.ns e := fun a b => ⟨a, [], by simp [b], by simp⟩
  unfold stepH
  by_cases k1 : x.kind = 1
  · rw [if_pos k1]
    refine hz (hi.load x) ?_
    unfold loadH
    repeat' split
    all_goals rfl
  rw [if_neg k1]
  by_cases k2 : x.kind = 2
  · rw [if_pos k2]
    split
    · rename_i hp
      by_cases hc : (cellOf h.s.ns h.s.os x.k x.r x.g).code = 0
      · obtain ⟨a1, a2, a3, a4⟩ := cell_root hi.gs.wf hi.gs.ln hc
        exact hz (hi.give hK hp a1 a2 a3 (h2 k2 _ _ a3 a4) hc) (give_es _ _ _)
      · rw [give_bad hc]; exact hz hi rfl
    · exact hz hi rfl
  rw [if_neg k2]
  by_cases k3 : x.kind = 3
  · rw [if_pos k3]
    split
    · rename_i hp
      by_cases hc : (funcOf h.s.ns h.s.os x.q x.k x.r x.g).code = 0
      · obtain ⟨a0, a1, a2, a3, a4⟩ := func_root hi.gs.wf hi.gs.ln hc
        exact hz (hi.give hK hp a1 a2 a3 (h3 k3 a0.1 _ _ a3 a4) hc) (give_es _ _ _)
      · rw [give_bad hc]; exact hz hi rfl
    · exact hz hi rfl
  rw [if_neg k3]
  by_cases k4 : x.kind = 4
  · rw [if_pos k4]; exact hi.call hK x (hW k4)
  rw [if_neg k4]
  by_cases k5 : x.kind = 5
  · rw [if_pos k5]
    exact hz (hi.os (by unfold cutOf; split <;> simp)) rfl
  rw [if_neg k5]
  by_cases k6 : x.kind = 6
  · rw [if_pos k6]
    exact hz (hi.os (by unfold gateOf; split <;> simp)) rfl
  rw [if_neg k6]
  exact hz hi rfl
theorem tgt_one {ns : List Nd} {c : Int} {n : Nd} (h : wayOf ns c = [n]) : targetOf ns c = n := by unfold targetOf; rw [h]; rfl
theorem step_given {tr : List (Sp × Int)} {h : Hs} (hi : HInv (Giv (Gvn tr)) h) (x : Sp) : HInv (Giv (Gvn (tr ++ [(x, (stepH h x).1.code)]))) (stepH h x).2 ∧ ∃ new, (stepH h x).2.s.es = h.s.es ++ new ∧ ∀ e ∈ new, EntG (Giv (Gvn tr)) (fun _ => True) (stepH h x).2.s.ns e := by
  have hsub : ∀ y ∈ tr, y ∈ tr ++ [(x, (stepH h x).1.code)] := fun y hy => List.mem_append.2 (.inl hy)
  have hm : ∀ ns p c, Giv (Gvn tr) ns p c → Giv (Gvn (tr ++ [(x, (stepH h x).1.code)])) ns p c := fun ns p c k => Gvn.mono hsub k
  by_cases hk : (x.kind = 2 ∨ x.kind = 3) ∧ (stepH h x).1.code = 0
  · obtain ⟨hk, hc⟩ := hk
    have hmem : (x, (stepH h x).1.code) ∈ tr ++ [(x, (stepH h x).1.code)] := by simp
    obtain ⟨a, new, b, _⟩ := (hi.mono hm).step (keeps_given (gvn_cls _)) x (fun _ => trivial) (fun k ns c _ e => ⟨_, hmem, hc, .refl, .inl ⟨k, tgt_one e⟩⟩) (fun k q ns c _ e => ⟨_, hmem, hc, .refl, .inr ⟨k, q, tgt_one e⟩⟩)
    have hes : (stepH h x).2.s.es = h.s.es := by
      unfold stepH
      rcases hk with k | k
      · rw [if_neg (by omega), if_pos k]; split
        · exact give_es _ _ _
        · rfl
      · rw [if_neg (by omega), if_neg (by omega), if_pos k]; split
        · exact give_es _ _ _
        · rfl
    exact ⟨a, [], by rw [hes]; simp, by simp⟩
  · by_cases k : x.kind = 2 ∨ x.kind = 3
    · have hsame : (stepH h x).2 = h := by
        have hc : (stepH h x).1.code ≠ 0 := fun e => hk ⟨k, e⟩
        have gb : ∀ r : Res, (giveH h x.p r).1.code ≠ 0 → (giveH h x.p r).2 = h := fun r hr => by
          unfold giveH at hr ⊢
          split at hr
          · exact absurd rfl hr
          · rename_i e; rw [if_neg e]
        unfold stepH at hc ⊢
        rcases k with k | k
        · rw [if_neg (by omega), if_pos k] at hc ⊢
          split at hc
          · rename_i e; rw [if_pos e]; exact gb _ hc
          · rename_i e; rw [if_neg e]
        · rw [if_neg (by omega), if_neg (by omega), if_pos k] at hc ⊢
          split at hc
          · rename_i e; rw [if_pos e]; exact gb _ hc
          · rename_i e; rw [if_neg e]
      rw [hsame]
      exact ⟨hi.mono hm, [], by simp, by simp⟩
    · obtain ⟨a, b⟩ := hi.step (keeps_given (gvn_cls _)) x (fun _ => trivial) (fun e => absurd (.inl e) k) (fun e => absurd (.inr e) k)
      exact ⟨a.mono hm, b⟩
theorem step_os {P : List Bool → Prop} (hP : Gat P) {h : Hs} {K : List Nd → Int → Int → Prop} (hi : HInv K h) (hs : P h.s.os) (x : Sp) : P (stepH h x).2.s.os := by
  have hg : ∀ r : Res, (r.code = 0 → r.os = h.s.os) → P (giveH h x.p r).2.s.os := fun r hr => by
    unfold giveH
    split
    · rename_i e; simp only; rw [hr e]; exact hs
    · exact hs
  have hr : ∀ p k v, P (runH h p k v).2.s.os := fun p k v => run_stays hP h.ms hs p k v 2000
  unfold stepH
  by_cases k1 : x.kind = 1
  · rw [if_pos k1]; unfold loadH
    repeat' split
    all_goals exact hs
  rw [if_neg k1]
  by_cases k2 : x.kind = 2
  · rw [if_pos k2]; split
    · exact hg _ fun e => (cell_root hi.gs.wf hi.gs.ln e).2.1
    · exact hs
  rw [if_neg k2]
  by_cases k3 : x.kind = 3
  · rw [if_pos k3]; split
    · exact hg _ fun e => (func_root hi.gs.wf hi.gs.ln e).2.2.1
    · exact hs
  rw [if_neg k3]
  by_cases k4 : x.kind = 4
  · rw [if_pos k4]; unfold callH
    repeat' split
    all_goals first
      | exact hs
      | exact hr _ _ _
  rw [if_neg k4]
  by_cases k5 : x.kind = 5
  · rw [if_pos k5]; exact hP.cut hs
  rw [if_neg k5]
  by_cases k6 : x.kind = 6
  · rw [if_pos k6]; exact hP.gate hs
  rw [if_neg k6]
  exact hs
theorem cut_shut {ns : List Nd} {os : List Bool} (h : 0 < os.length) : Shut (cutOf ns os 0).os := by
  unfold cutOf
  rw [if_pos (by simp [thereB]; omega)]
  unfold Shut
  simp only
  rw [List.getElem?_set]
  simp [h]
structure Behind (p0 : Int) (x : Sp) : Prop where
  give : x.p = p0 → x.kind = 2 ∨ x.kind = 3 → x.g = 0
  link : x.kind = 3 → x.q ≠ p0
theorem gates_one {ns : List Nd} {c : Int} {n : Nd} (h : wayOf ns c = [n]) (hg : n.gate = 0) : (0 : Int) ∈ gatesOf ns c := by unfold gatesOf gatesW; rw [h]; simp [hg]
theorem step_behind {p0 : Int} (hp : 0 ≤ p0) {W : Int → Prop} (hW : ∀ q, q ≠ p0 → W q) {h : Hs} (hi : HInv (Beh p0) h) {x : Sp} (hx : Behind p0 x) (hx4 : x.kind = 4 → W x.p) : HInv (Beh p0) (stepH h x).2 ∧ ∃ new, (stepH h x).2.s.es = h.s.es ++ new ∧ ∀ e ∈ new, EntG (Beh p0) W (stepH h x).2.s.ns e :=
  hi.step (keeps_behind p0 W hW) x hx4 (fun k ns c _ e => ⟨fun e2 => gates_one e (hx.give e2 (.inl k)), by rw [tgt_one e]; simp only; omega⟩) (fun k _ ns c _ e => ⟨fun e2 => gates_one e (hx.give e2 (.inr k)), by rw [tgt_one e]; exact hx.link k⟩)
theorem step_shut {p0 : Int} (hp : 0 ≤ p0) {h : Hs} (hi : HInv (Beh p0) h) (hs : Shut h.s.os) {x : Sp} (hx : Behind p0 x) : HInv (Beh p0) (stepH h x).2 ∧ Shut (stepH h x).2.s.os ∧ ∃ new, (stepH h x).2.s.es = h.s.es ++ new ∧ (∀ e ∈ new, e.plugin ≠ p0) ∧ (x.kind = 4 → x.p = p0 → new = []) := by
  have h1 := (step_behind hp (W := fun _ => True) (fun _ _ => trivial) hi hx fun _ => trivial).1
  refine ⟨h1, step_os gat_shut hi hs x, ?_⟩
  by_cases k : x.kind = 4 ∧ x.p = p0
  · obtain ⟨k4, kp⟩ := k
    refine ⟨[], ?_, by simp, fun _ _ => rfl⟩
    have hr : ∀ v, Hd (Beh p0) h.s.ns p0 v → (runH h x.p x.k v).2.s.es = h.s.es := fun v hv => by
      rw [kp]
      exact (run_shut h.ms hi.gs hs x.k hv 2000).2
    unfold stepH
    rw [if_neg (by omega), if_neg (by omega), if_neg (by omega), if_pos k4]
    unfold callH
    split
    · split
      · rename_i hpb
        have hpp : 0 ≤ x.p ∧ x.p < 4 := by simpa [plugB] using hpb
        split
        · rename_i v e
          have := hi.hand x.p.toNat (by omega) v (List.mem_of_getElem? e)
          rw [Int.toNat_of_nonneg hpp.1, kp] at this
          rw [hr v this]; simp
        · simp
      · simp
    · rw [hr (intV x.n) (Hd.leaf (by decide))]; simp
  · obtain ⟨_, new, e, g⟩ := step_behind hp (W := fun q => q ≠ p0) (fun _ h => h) hi hx fun k4 e => k ⟨k4, e⟩
    exact ⟨new, e, fun y hy => (g y hy).1, fun a b => absurd ⟨a, b⟩ k⟩
theorem step_less {ev : Evl} (h : EvOk ev) {call : Caller} (hc : CallOk call) (ms : Mods) {fr : Nat} {p : Int} {x : Ex.V} {arg : V} {names : List V} {n : Nat} {s : Sg} (ha : arg.check = 0) (hns : ∀ v ∈ names, v.check = 0) (hs : Inv s) (h0 : n ≠ 0) : (stepR ev call ms fr p x arg names n s).left ≤ n - 1 := by
  have key : Fine1 s (n - 1) (stepR ev call ms fr p x arg names n s) := by
    unfold stepR
    rw [if_neg h0]
    split
    · exact (fine_none hs _ _ _ _ _ ha _ hns _).one
    · exact (h _ _ _ _ _ _ _ ha hns hs).then1 fun v hv m s' hs' => fine_one hc hs' _ _ _ _ _ hv _
    · split
      · exact ((h _ _ _ _ _ _ _ ha hns hs).then fun v hv m s' hs' => h _ _ _ _ _ _ _ ha (fun u hu => by
          rcases List.mem_append.1 hu with hu | hu
          · exact hns u hu
          · simp at hu; rw [hu]; exact hv) hs').one
      · exact (h _ _ _ _ _ _ _ ha hns hs).then1 fun v _ m s' hs' => (h _ _ _ _ _ _ _ ha hns hs').then1 fun u hu m2 s2 hs2 => fine_two hc hs2 _ _ _ _ _ _ _ hu _
    · refine ((h _ _ _ _ _ _ _ ha hns hs).then fun v _ m s' hs' => ?_).one
      split
      · split
        · exact h _ _ _ _ _ _ _ ha hns hs'
        · exact h _ _ _ _ _ _ _ ha hns hs'
      · exact fine_bad _ hs' (Nat.le_refl _) (Nat.le_refl _)
  exact key.left
theorem run_ok (ms : Mods) {s : Sg} (hs : Inv s) (p f : Int) (arg : V) (fuel : Int) (hf : 0 < fuel) : Inv (runR ms p f arg fuel s).2.2 ∧ (∀ v, (runR ms p f arg fuel s).1 = .ok v → v.check = 0) ∧ 0 ≤ (runR ms p f arg fuel s).2.1 ∧ ((runR ms p f arg fuel s).2.1 = 0 → (runR ms p f arg fuel s).2.2 = s ∧ ∃ c, c ≠ 0 ∧ (runR ms p f arg fuel s).1 = .error c) := by
  have hz : ∀ c : Int, c ≠ 0 → Inv s ∧ (∀ v, (Except.error c : Except Int V) = .ok v → v.check = 0) ∧ (0 : Int) ≤ 0 ∧ ((0 : Int) = 0 → s = s ∧ ∃ d, d ≠ 0 ∧ (Except.error c : Except Int V) = .error d) := fun c hc => ⟨hs, fun v e => (by cases e), Int.le_refl _, fun _ => ⟨rfl, c, hc, rfl⟩⟩
  unfold runR
  by_cases h1 : fuel < 0 ∨ 2000 < fuel ∨ p < 0 ∨ 4 ≤ p
  · rw [if_pos h1]; exact hz _ (by decide)
  rw [if_neg h1]
  by_cases h2 : (funOf ms p f).isNone = true
  · rw [if_pos h2]; exact hz _ (by decide)
  rw [if_neg h2]
  by_cases h3 : arg.check ≠ 0
  · rw [if_pos h3]; exact hz _ h3
  rw [if_neg h3]
  have h3' : arg.check = 0 := by
    by_cases e : arg.check = 0
    · exact e
    · exact absurd e h3
  have k := call_ok (ev_ok ms 2000) ms 0 p f arg fuel.toNat s h3' hs
  have hl : (callR (evR ms 2000) ms 0 p f arg fuel.toNat s).left ≤ fuel.toNat - 1 := by
    unfold callR
    rw [if_neg (by decide)]
    cases e : funOf ms p f with
    | none => rw [e] at h2; simp at h2
    | some x => exact step_less (ev_ok ms 1999) (call_ok (ev_ok ms 1999) ms) ms h3' (by simp) hs (by omega)
  refine ⟨k.inv, k.val, ?_, fun e => ?_⟩
  · simp only; omega
  · simp only at e; omega
structure HOk (h : Hs) : Prop where
  inv : Inv h.s
  ms : h.ms.length = 4
  len : h.hs.length = 4
  hand : ∀ q : Nat, q < 4 → ∀ v ∈ h.hs.getD q [], v.check = 0
theorem HOk.give {h : Hs} (hi : HOk h) (p : Int) {r : Res} (hr : r.code = 0 → Nx h.s.os h.s.ns r.ns ∧ r.os = h.s.os ∧ 0 ≤ r.num) : HOk (giveH h p r).2 := by
  unfold giveH
  split
  · rename_i hc
    obtain ⟨hx, ho, hn⟩ := hr hc
    refine ⟨⟨by simp only; rw [ho]; exact hx.wf, hx.len, by simp only; rw [ho]; exact hi.inv.lg, hi.inv.cs, hi.inv.ks, hi.inv.good⟩, hi.ms, by simp [hi.len], fun q hq v hv => ?_⟩
    simp only at hv
    rw [List.getD_eq_getElem?_getD, List.getElem?_set] at hv
    by_cases e : p.toNat = q
    · have e2 : q < h.hs.length := by rw [hi.len]; exact hq
      rw [if_pos e, if_pos (by omega)] at hv
      simp only [Option.getD_some] at hv
      rcases List.mem_append.1 hv with hv | hv
      · rw [e] at hv; exact hi.hand q hq v hv
      · rw [List.mem_singleton.1 hv]; exact cap_check hn
    · rw [if_neg e, ← List.getD_eq_getElem?_getD] at hv
      exact hi.hand q hq v hv
  · exact hi
theorem there_pos {n : Nat} {c : Int} (h : thereB n c = true) : 0 ≤ c := by simp [thereB] at h; omega
theorem HOk.run {h : Hs} (hi : HOk h) (p k : Int) (v : V) : HOk (runH h p k v).2 := ⟨(run_ok h.ms hi.inv p k v 2000 (by decide)).1, hi.ms, hi.len, hi.hand⟩
theorem HOk.step {h : Hs} (hi : HOk h) (x : Sp) : HOk (stepH h x).2 := by
  unfold stepH
  by_cases k1 : x.kind = 1
  · rw [if_pos k1]; unfold loadH
    split
    · split
      · refine ⟨⟨hi.inv.wf, hi.inv.ln, hi.inv.lg, hi.inv.cs, by simp [hi.inv.ks], fun v hv => ?_⟩, by simp [hi.ms], hi.len, hi.hand⟩
        rcases List.mem_or_eq_of_mem_set hv with hv | hv
        · exact hi.inv.good v hv
        · rw [hv]; exact v0_check
      · exact hi
    · exact hi
  rw [if_neg k1]
  by_cases k2 : x.kind = 2
  · rw [if_pos k2]; split
    · exact hi.give _ fun e => by
        obtain ⟨a1, a2, a3, _⟩ := cell_root hi.inv.wf hi.inv.ln e
        exact ⟨a1, a2, there_pos a3⟩
    · exact hi
  rw [if_neg k2]
  by_cases k3 : x.kind = 3
  · rw [if_pos k3]; split
    · exact hi.give _ fun e => by
        obtain ⟨_, a1, a2, a3, _⟩ := func_root hi.inv.wf hi.inv.ln e
        exact ⟨a1, a2, there_pos a3⟩
    · exact hi
  rw [if_neg k3]
  by_cases k4 : x.kind = 4
  · rw [if_pos k4]; unfold callH
    repeat' split
    all_goals first
      | exact hi
      | exact hi.run _ _ _
  rw [if_neg k4]
  by_cases k5 : x.kind = 5
  · rw [if_pos k5]
    have e : (cutOf h.s.ns h.s.os x.g).os.length = h.s.os.length := by unfold cutOf; split <;> simp
    exact ⟨⟨by simp only; rw [e]; exact hi.inv.wf, hi.inv.ln, by simp only; rw [e]; exact hi.inv.lg, hi.inv.cs, hi.inv.ks, hi.inv.good⟩, hi.ms, hi.len, hi.hand⟩
  rw [if_neg k5]
  by_cases k6 : x.kind = 6
  · rw [if_pos k6]
    have hl := hi.inv.lg
    have e : h.s.os.length ≤ (gateOf h.s.ns h.s.os).os.length ∧ (gateOf h.s.ns h.s.os).os.length ≤ 20 := by
      unfold gateOf
      split
      · exact ⟨Nat.le_refl _, hl⟩
      · simp; omega
    exact ⟨⟨hi.inv.wf.more e.1, hi.inv.ln, e.2, hi.inv.cs, hi.inv.ks, hi.inv.good⟩, hi.ms, hi.len, hi.hand⟩
  rw [if_neg k6]
  exact hi
theorem hok0 : HOk h00 := by
  refine ⟨⟨Gr.Wf.nil _, by simp [h00], by simp [h00], by simp [h00], by simp [h00], fun v hv => ?_⟩, by simp [h00], by simp [h00], fun q hq v hv => ?_⟩
  · rw [List.eq_of_mem_replicate hv]; exact v0_check
  · have : (h00.hs.getD q []) = [] := by
      have : q = 0 ∨ q = 1 ∨ q = 2 ∨ q = 3 := by omega
      rcases this with rfl | rfl | rfl | rfl <;> rfl
    rw [this] at hv; simp at hv
end Go.Proofs.YtkpckmcaeljocaaGreat
namespace Go.Proofs.YtkpckmcaeljocaaGreat
open Go.ChangeShapes Go.WideShapes Go.ChangeAt Go.RowKit
set_option maxRecDepth 8000 in
set_option maxHeartbeats 2000000 in
theorem more_any (l : List V) (ao : Option Addr) (cap than : Nat) (w : World) (hF : Fo w l ao) (hS : sizes l ≤ 20000) (hth : than ≤ 67108864) :
    Calls Tryz.prog 125 #[.slice ao l.length cap, .int .i64 than, .func (.func 126) #[] #[]] w fun e w' => e = .returned (.bool (decide (than < sizes l))) ∧ Quiet w w' := by
  obtain ⟨i0, hi, hz0, hz1, hz2⟩ := info_parts Tryz.infoL
  have hroot := hid hF
  have hll := sizes_len l
  have hlen5 : l.length ≤ 20000 := by omega
  have hrow := hid (row_one w 36 (slv (l, ao, cap)))
  clear hF
  go_enter Tryz.func125, Tryz.ntmps125
  go_wp2
  go_loopg [7, 8] (1 + sizes l) (fun gk p sv wr => ∃ (P : Nat) (ts : List Pl), p = .int .i64 P ∧ wr.ownsRow w.heap.size 36 1 sv ts.length (ts.map slv) ∧ Lie w ts ∧ tsz ts = gk ∧ gk ≤ 1 + sizes l ∧ P + trs ts = sizes l ∧ Below w.heap.size w wr)
  case atStart =>
    refine ⟨l.length, [(l, ao, cap)], rfl, hrow.out, ?_, tsz_one _, Nat.le_refl _, by rw [trs_one]; simp only; omega, (Below.refl _ _).alloc (Nat.le_refl _) _⟩
    intro x hx; simp at hx; subst hx; exact hroot.out
  case round =>
    obtain ⟨P, ts, rfl, hr, hL, hsz, hle, hP, hB⟩ := hrel
    have hsB := hB.size
    by_cases hbig : than < P
    · have hE := hid (show decide (than < sizes l) = true by simp; omega)
      have hd : decide ((P : Int) ≤ (than : Int)) = false := by simp; omega
      have hd2 : ¬ (P : Int) ≤ (than : Int) := by omega
      have hP5 : P ≤ 20000 := by omega
      clear hsz hP
      go_wp2
      go_ret
      exact ⟨by rw [hE.out]; simp, quiet_of hB⟩
    · have hd2 : (P : Int) ≤ (than : Int) := by omega
      rcases List.eq_nil_or_concat ts with rfl | ⟨ts, ⟨u, ua, uc⟩, rfl⟩
      · obtain ⟨av, cv, rfl⟩ := owns_shape hr
        have hE := hid (show decide (than < sizes l) = false by simp [trs_nil] at hP; simp; omega)
        have hP5 : P ≤ 20000 := by omega
        clear hsz hP
        go_wp2
        go_ret
        exact ⟨by rw [hE.out]; simp, quiet_of hB⟩
      · rw [List.concat_eq_append] at hr hL hsz hP
        rw [List.map_append, List.map_cons, List.map_nil, List.length_append, List.length_cons, List.length_nil, Nat.zero_add] at hr
        obtain ⟨g, cp, hv⟩ := lies_shape hr (by omega)
        subst hv
        obtain ⟨hr', hc'⟩ := owns_pop hr rfl
        have hc := hc' 0 (by decide)
        simp only [Nat.mul_one, Nat.add_zero, List.getElem?_cons_zero, slv] at hc
        have hu := hL (u, ua, uc) (by simp)
        simp only at hu
        have hL' : Lie w ts := fun x hx => hL x (by simp [hx])
        rw [tsz_app, tsz_one] at hsz
        rw [trs_app, trs_one] at hP
        simp only at hsz hP
        have htl := tsz_len ts
        have hul := sizes_len u
        have hcp := owns_cap hr
        have hul5 : u.length ≤ 20000 := by omega
        have htl5 : ts.length ≤ 20000 := by omega
        have hP5 : P ≤ 20000 := by omega
        have HL := hid hL'
        have HU := hid hu
        have HX := hid (And.intro hsz hP)
        clear hc' hr hL hL' hu hsz hP
        go_wp2
        go_loopw [7, 8, 38] (fun p sv i w2 => ∃ (j Q : Nat) (ks : List Pl), j ≤ u.length ∧ i = .int .i64 j ∧ p = .int .i64 (P + Q : Nat) ∧ w2.ownsRow w.heap.size 36 1 sv (ts ++ ks).length ((ts ++ ks).map slv) ∧ Lie w ks ∧ (Q + trs ks + j = sizes (u.take j) ∧ tsz ks ≤ sizes (u.take j) ∧ ks.length ≤ j) ∧ Below w.heap.size w w2) (fun _ _ i _ => u.length - (intOf i).toNat)
        case atStart => exact ⟨0, 0, [], Nat.zero_le _, rfl, rfl, by simpa using hr', fun x hx => by simp at hx, ⟨by simp [trs_nil, sizes_nil], by simp [tsz_nil], Nat.le_refl _⟩, hB⟩
        case round =>
          obtain ⟨j, Q, ks, hj, rfl, rfl, hrk, hLk, hks, hBk⟩ := hrel
          have htt := sizes_take_le u j
          have hlen6 : (ts ++ ks).length ≤ 40000 := by have := HX.out; simp only [List.length_append]; omega
          have hQ5 : Q ≤ 20000 := by have := HX.out; omega
          obtain ⟨nk, hnk⟩ : ∃ nk, nk = (ts ++ ks).length := ⟨_, rfl⟩
          rw [← hnk] at hrk hlen6
          have HNK := hid hnk
          clear hnk
          obtain ⟨av, cv, hsv⟩ := owns_shape hrk
          by_cases hlt : j < u.length
          · obtain ⟨bb, oo, rfl, dh, ca, cc, ds, hci⟩ := HU.out.get j hlt
            have hbb := World.block_lt_of_cell? w _ ds
            obtain ⟨d0, d1⟩ := head_kept (low_kept hBk) dh
            have dsk := low_cell hBk ds hbb
            have hnx := sizes_take u j hlt
            generalize hcu : u[j] = c at *
            have HC := hid hci.fo
            have HN := hid (And.intro hnx (size_eq c))
            have HK := hid hks
            have hcl5 : c.l.length ≤ 20000 := by have := sizes_len c.l; have := size_eq c; have := sizes_take_le u (j + 1); have := HX.out; omega
            clear hcu hnx hks dh ds hci
            by_cases hcl : c.l.length = 0
            · subst hsv
              have hcl' : ¬ (0 : Int) < (c.l.length : Int) := by omega
              have HCL := hid hcl
              clear hcl
              go_wp2_with (go_at_call 126; refine (inside_any c ca cc _).mono ?_; rintro e w3 ⟨rfl, q3⟩)
              refine ⟨⟨j + 1, Q, ks, by omega, by go_num, by go_num, HNK.out ▸ (q3.row (hrk.alloc _) fun _ _ e => e), hLk, ?_, low_of (hBk.alloc hBk.size _) q3 (by have := hBk.size; simp; omega)⟩, by simp [intOf]; omega⟩
              have h0 : c.l = [] := List.eq_nil_of_length_eq_zero HCL.out
              have h1 := HN.out; have h2 := HK.out
              rw [h0, sizes_nil] at h1; exact ⟨by omega, by omega, by omega⟩
            · have hcl' : (0 : Int) < (c.l.length : Int) := by omega
              have HR := hid hrk
              subst hsv
              have hsk := hBk.size
              go_wp2_with (first
                | (at_builtin; refine wpList_append_lies _ rfl (.tmp 52) (.tmp 54) 212 rfl w.heap.size 36 i0 _ 1 24 Tryz.undL hi hz0 hz1 hz2 rfl (by decide) _ nk ((ts ++ ks).map slv) rfl (hr3.alloc _) ⟨w3.heap.size, 0, none⟩ 1 1 [slv (c.l, ca, cc)] rfl rfl (news_at w3 _ 36) (by simp [Value.oneCell', slv]) (by decide) (by unfold maxLen; omega) (by omega) (by simp; omega) _ rfl ?_; intro g2 cap2 w1 hr1 hg1 hat hlt1; have hS := hid (push_row (x := (c.l, ca, cc)) hB3 (by omega) hr3 HNK.out hr1 hg1); clear hr1 hg1 hat hlt1)
                | (go_at_call 126; refine (inside_any c ca cc _).mono ?_; rintro e w3 ⟨rfl, q3⟩; have hr3 := q3.row (HR.out.alloc _) (fun _ _ e => e); have hB3 := low_of (hBk.alloc hBk.size _) q3 (by simp; omega); have hs3 := hB3.size))
              refine ⟨⟨j + 1, Q + c.l.length, ks ++ [(c.l, ca, cc)], by omega, by go_num, by go_num, ?_, hLk.app ?_, ?_, hS.out.2⟩, by simp [intOf]; omega⟩
              · rw [← List.append_assoc]; exact hS.out.1
              · intro x hx; simp at hx; subst hx; exact HC.out
              · have h1 := HN.out; have h2 := HK.out; have h3 := sizes_len c.l
                rw [trs_app, trs_one, tsz_app, tsz_one, List.length_append]; simp only [List.length_cons, List.length_nil]; exact ⟨by omega, by omega, by omega⟩
          · have hjl : j = u.length := by omega
            subst hjl
            have HK := hid hks
            clear hks
            subst hsv
            go_wp2
            go_roundg (tsz (ts ++ ks))
            case measure =>
              have h2 := HK.out; have h3 := HX.out
              rw [List.take_length] at h2; rw [tsz_app]; omega
            case rel =>
              refine ⟨P + Q, ts ++ ks, by go_num, HNK.out ▸ hrk, HL.out.app hLk, rfl, ?_, ?_, hBk⟩
              · have h2 := HK.out; have h3 := HX.out
                rw [List.take_length] at h2; rw [tsz_app]; omega
              · have h2 := HK.out; have h3 := HX.out
                rw [List.take_length] at h2; rw [trs_app]; omega
end Go.Proofs.YtkpckmcaeljocaaGreat
