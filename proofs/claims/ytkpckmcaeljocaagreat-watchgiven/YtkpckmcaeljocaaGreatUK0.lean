/- Parts. -/
import Derived.Test.YtkpckmcaeljocaaGreatUP0
import Derived.Test.YtkpckmcaeljocaaGreatUE0
import Derived.Test.YtkpckmcaeljocaaGreatUW0
namespace Go.Proofs.YtkpckmcaeljocaaGreat
open Go.ChangeShapes Go.WideShapes Go.ChangeAt Go.RowKit
open Gr (Nd Res nd0 thereB deriveOf addOf gateOf cutOf rightsN wayOf gatesOf gatesW targetOf Wf NdOk)
structure Sg where
  ns : List Nd
  os : List Bool
  cs : List Int
  es : List Wo.Ent
  ks : List V
structure Out where
  got : Except Int V
  left : Nat
  s : Sg
def bad (c : Int) (left : Nat) (s : Sg) : Out := ⟨.error c, left, s⟩
def okV (v : V) (left : Nat) (s : Sg) : Out := ⟨.ok v, left, s⟩
def intV (n : Int) : V := ⟨1, n, []⟩
def capV (n : Int) : V := ⟨4, n, []⟩
def arith (k a b : Int) : Int :=
  if k = 1 then wrap64 (a + b) else if k = 2 then wrap64 (a - b) else if k = 3 then wrap64 (a * b)
  else if k = 4 then (if a < b then 1 else 0) else if k = 5 then (if a = b then 1 else 0) else 0
abbrev Mods := List (Option (List Ex.V))
def funOf (ms : Mods) (p f : Int) : Option Ex.V := if 0 ≤ p ∧ 0 ≤ f then ((ms.getD p.toNat none).bind fun l => l[f.toNat]?) else none
def cellR (s : Sg) (v : V) (bit : Nat) : Except Int Int :=
  if v.kind = 4 then (if (rightsN s.ns s.os v.n).testBit bit then (if 0 ≤ (targetOf s.ns v.n).plugin then .error 2 else .ok (targetOf s.ns v.n).cell) else .error 9) else .error 2
def madeR (r : Res) (left : Nat) (s : Sg) : Out := if r.code = 0 then okV (capV r.num) left { s with ns := r.ns, os := r.os } else bad r.code left { s with ns := r.ns, os := r.os }
abbrev Caller := Nat → Int → Int → V → Nat → Sg → Out
def crossR (v : V) (gs : List Int) (left : Nat) (s : Sg) : Out :=
  if (passedOf s.ns s.os gs v).2.1 = 0 then okV (passedOf s.ns s.os gs v).1 left { s with ns := (passedOf s.ns s.os gs v).2.2 } else bad (passedOf s.ns s.os gs v).2.1 left { s with ns := (passedOf s.ns s.os gs v).2.2 }
def Out.then (o : Out) (f : V → Nat → Sg → Out) : Out := match o.got with
  | .ok v => f v o.left o.s
  | .error _ => o
def askR (call : Caller) (ms : Mods) (fr : Nat) (a b : V) (left : Nat) (s : Sg) : Out :=
  if a.kind = 4 then
    (if (rightsN s.ns s.os a.n).testBit 3 then
      (if (targetOf s.ns a.n).plugin < 0 then bad 2 left s
       else if (funOf ms (targetOf s.ns a.n).plugin (targetOf s.ns a.n).func).isNone then bad 8 left s
       else if fr = 20 then bad 4 left s
       else (crossR b (gatesOf s.ns a.n) left s).then fun x left' s' => (call fr (targetOf s.ns a.n).plugin (targetOf s.ns a.n).func x left' s').then fun y left2 s2 => crossR y (gatesOf s.ns a.n) left2 s2)
     else bad 9 left s)
  else bad 2 left s
def twoR (call : Caller) (ms : Mods) (fr : Nat) (p op k : Int) (a b : V) (left : Nat) (s : Sg) : Out :=
  if op = 6 then (if a.kind = 1 ∧ b.kind = 1 then okV (intV (arith k a.n b.n)) left s else bad 2 left s)
  else if op = 8 then (if (⟨2, 0, [a, b]⟩ : V).check = 0 then okV ⟨2, 0, [a, b]⟩ left s else bad 3 left s)
  else if op = 14 then
    (if a.kind = 4 ∧ b.kind = 1 then (match cellR s a 1 with
      | .error c => bad c left s
      | .ok c => okV b left { s with cs := s.cs.set c.toNat b.n, es := s.es ++ [⟨p, c, 2, a.n⟩] })
     else bad 2 left s)
  else askR call ms fr a b left s
def oneR (call : Caller) (fr : Nat) (p op k : Int) (a : V) (left : Nat) (s : Sg) : Out :=
  if op = 9 then (if a.kind = 2 then okV (a.l.getD 0 v0) left s else bad 2 left s)
  else if op = 10 then (if a.kind = 2 then okV (a.l.getD 1 v0) left s else bad 2 left s)
  else if op = 11 then (if (⟨3, p, [a]⟩ : V).check = 0 then okV ⟨3, p, [a]⟩ left s else bad 3 left s)
  else if op = 12 then (if a.kind = 3 then (if a.n = p then okV (a.l.getD 0 v0) left s else bad 10 left s) else bad 2 left s)
  else if op = 13 then (match cellR s a 0 with
    | .error c => bad c left s
    | .ok c => okV (intV (s.cs.getD c.toNat 0)) left { s with es := s.es ++ [⟨p, c, 1, a.n⟩] })
  else if op = 15 then (if a.kind = 4 then madeR (deriveOf s.ns s.os a.n k (-1)) left s else bad 2 left s)
  else if op = 16 then
    (if a.kind = 4 then
      (if (gateOf s.ns s.os).code = 0 then (madeR (deriveOf s.ns (gateOf s.ns s.os).os a.n 15 (gateOf s.ns s.os).num) left { s with os := (gateOf s.ns s.os).os }).then fun v left' s' => okV ⟨2, 0, [v, ⟨5, (gateOf s.ns s.os).num, []⟩]⟩ left' s'
       else bad (gateOf s.ns s.os).code left s)
     else bad 2 left s)
  else if op = 17 then (if a.kind = 5 then okV v0 left { s with os := (cutOf s.ns s.os a.n).os } else bad 2 left s)
  else if op = 18 then call fr p k a left s
  else okV (s.ks.getD p.toNat v0) left { s with ks := s.ks.set p.toNat a }
def noneR (p op k n : Int) (arg : V) (names : List V) (left : Nat) (s : Sg) : Out :=
  if op = 1 then okV v0 left s
  else if op = 2 then okV (intV n) left s
  else if op = 3 then okV arg left s
  else if op = 4 then okV (names.getD (names.length - 1 - k.toNat) v0) left s
  else okV (s.ks.getD p.toNat v0) left s
abbrev Evl := Nat → Int → Ex.V → V → List V → Nat → Sg → Out
def stepR (ev : Evl) (call : Caller) (ms : Mods) : Evl := fun fr p x arg names left s =>
  if left = 0 then bad 12 0 s
  else match x.l with
    | [] => noneR p x.kind x.k x.n arg names (left - 1) s
    | [a] => (ev fr p a arg names (left - 1) s).then fun v left' s' => oneR call fr p x.kind x.k v left' s'
    | [a, b] =>
      if x.kind = 5 then (ev fr p a arg names (left - 1) s).then fun v left' s' => ev fr p b arg (names ++ [v]) left' s'
      else (ev fr p a arg names (left - 1) s).then fun v left' s' => (ev fr p b arg names left' s').then fun u left2 s2 => twoR call ms fr p x.kind x.k v u left2 s2
    | a :: b :: c :: _ => (ev fr p a arg names (left - 1) s).then fun v left' s' => if v.kind = 1 then (if v.n ≠ 0 then ev fr p b arg names left' s' else ev fr p c arg names left' s') else bad 2 left' s'
def callR (ev : Evl) (ms : Mods) : Caller := fun fr p f arg left s =>
  if fr = 20 then bad 4 left s else match funOf ms p f with
    | none => bad 8 left s
    | some x => ev (fr + 1) p x arg [] left s
def evR (ms : Mods) : Nat → Evl
  | 0 => fun _ _ _ _ _ _ s => bad 12 0 s
  | d + 1 => stepR (evR ms d) (callR (evR ms d) ms) ms
def runR (ms : Mods) (p f : Int) (arg : V) (fuel : Int) (s : Sg) : Except Int V × Int × Sg :=
  if fuel < 0 ∨ 2000 < fuel ∨ p < 0 ∨ 4 ≤ p then (.error 1, 0, s)
  else if (funOf ms p f).isNone then (.error 8, 0, s)
  else if arg.check ≠ 0 then (.error arg.check, 0, s)
  else ((callR (evR ms 2000) ms 0 p f arg fuel.toNat s).got, fuel - (callR (evR ms 2000) ms 0 p f arg fuel.toNat s).left, (callR (evR ms 2000) ms 0 p f arg fuel.toNat s).s)
end Go.Proofs.YtkpckmcaeljocaaGreat
namespace Go.Proofs.YtkpckmcaeljocaaGreat
open Gr (Nd Res nd0 thereB deriveOf addOf gateOf cutOf rightsN wayOf gatesOf gatesW targetOf Wf NdOk)
structure Nx (os : List Bool) (ns ns' : List Nd) : Prop where
  wf : Wf ns' os.length
  pre : ns <+: ns'
  len : ns'.length ≤ 80
theorem Nx.refl {os : List Bool} {ns : List Nd} (h : Wf ns os.length) (hl : ns.length ≤ 80) : Nx os ns ns := ⟨h, List.prefix_refl _, hl⟩
theorem Nx.trans {os : List Bool} {a b c : List Nd} (h : Nx os a b) (k : Nx os b c) : Nx os a c := ⟨k.wf, h.pre.trans k.pre, k.len⟩
theorem derive_nx {os : List Bool} {ns : List Nd} (h : Wf ns os.length) (hl : ns.length ≤ 80) (p r g : Int) : Nx os ns (deriveOf ns os p r g).ns ∧ ((deriveOf ns os p r g).code = 0 → 0 ≤ (deriveOf ns os p r g).num) ∧ 0 ≤ (deriveOf ns os p r g).code := by
  unfold deriveOf
  by_cases h1 : thereB ns.length p
  · rw [if_pos h1]
    unfold addOf
    by_cases h2 : ¬ (0 ≤ r ∧ r ≤ 15)
    · rw [if_pos h2]; exact ⟨Nx.refl h hl, fun e => by simp at e, by simp⟩
    · rw [if_neg h2]
      by_cases h3 : g ≠ -1 ∧ thereB os.length g = false
      · rw [if_pos h3]; exact ⟨Nx.refl h hl, fun e => by simp at e, by simp⟩
      · rw [if_neg h3]
        by_cases h4 : ns.length = 80
        · rw [if_pos h4]; exact ⟨Nx.refl h hl, fun e => by simp at e, by simp⟩
        · rw [if_neg h4]
          obtain ⟨j, rfl, hj⟩ := Gr.there_yes h1
          refine ⟨⟨Wf.snoc h ?_, ⟨_, rfl⟩, by simp; omega⟩, fun _ => by simp, by simp⟩
          constructor
          · simp only; omega
          · simp only; omega
          · simp only
            by_cases e : g = -1
            · exact .inl e
            · right
              cases e2 : thereB os.length g with
              | true => rfl
              | false => exact absurd ⟨e, e2⟩ h3
          all_goals first | (simp only; omega) | simp
  · rw [if_neg h1]; exact ⟨Nx.refl h hl, fun e => by simp at e, by simp⟩
theorem through_nx {os : List Bool} (gs : List Int) : ∀ {ns : List Nd} (_ : Wf ns os.length) (_ : ns.length ≤ 80) (x : Int), Nx os ns (through os ns x gs).2.2 ∧ (0 ≤ x → (through os ns x gs).2.1 = 0 → 0 ≤ (through os ns x gs).1) := by
  induction gs with
  | nil => intro ns h hl x; exact ⟨Nx.refl h hl, fun h _ => h⟩
  | cons g gs ih =>
    intro ns h hl x
    obtain ⟨h1, h2, _⟩ := derive_nx h hl x 15 g
    rw [through]
    by_cases e : (deriveOf ns os x 15 g).code = 0
    · rw [if_pos e]
      obtain ⟨k1, k2⟩ := ih h1.wf h1.len (deriveOf ns os x 15 g).num
      exact ⟨h1.trans k1, fun _ => k2 (h2 e)⟩
    · rw [if_neg e]
      exact ⟨h1, fun _ e2 => absurd e2 e⟩
def HandOk (os : List Bool) (gs : List Int) (v : V) : Prop := ∀ ns : List Nd, Wf ns os.length → ns.length ≤ 80 → v.fault = 0 → Nx os ns (v.handed os gs ns).2.2 ∧ ((v.handed os gs ns).2.1 = 0 → (v.handed os gs ns).1.fault = 0 ∧ (v.handed os gs ns).1.size = v.size)
theorem handeds_ok {os : List Bool} {gs : List Int} (l : List V) : (∀ x ∈ l, HandOk os gs x) → ∀ ns : List Nd, Wf ns os.length → ns.length ≤ 80 → (∀ x ∈ l, x.fault = 0) → Nx os ns (handeds os gs l ns).2.2 ∧ ((handeds os gs l ns).2.1 = 0 → (handeds os gs l ns).1.length = l.length ∧ first (pres (handeds os gs l ns).1) = 0 ∧ sizes (handeds os gs l ns).1 = sizes l) := by
  induction l with
  | nil => intro _ ns h hl _; rw [handeds_nil]; exact ⟨Nx.refl h hl, fun _ => ⟨rfl, by rw [pres_nil]; rfl, rfl⟩⟩
  | cons x l ih =>
    intro hx ns h hl hf
    obtain ⟨h1, h2⟩ := hx x (by simp) ns h hl (hf x (by simp))
    rw [handeds_cons]
    by_cases e : (x.handed os gs ns).2.1 = 0
    · rw [if_pos e]
      obtain ⟨k1, k2⟩ := ih (fun y hy => hx y (by simp [hy])) _ h1.wf h1.len (fun y hy => hf y (by simp [hy]))
      obtain ⟨h3, h4⟩ := h2 e
      by_cases e2 : (handeds os gs l (x.handed os gs ns).2.2).2.1 = 0
      · rw [if_pos e2]
        obtain ⟨k3, k4, k5⟩ := k2 e2
        refine ⟨h1.trans k1, fun _ => ⟨by simp [k3], ?_, by rw [sizes_cons, sizes_cons, h4, k5]⟩⟩
        rw [pres_cons, first_append]
        have : first (x.handed os gs ns).1.pre = 0 := h3
        rw [if_pos this]; exact k4
      · rw [if_neg e2]; exact ⟨h1.trans k1, fun h => absurd h e2⟩
    · rw [if_neg e]; exact ⟨h1, fun h => absurd h e⟩
theorem fault_one_of {v : V} (h : v.fault = 0) : v.fault1 = 0 ∧ first (pres v.l) = 0 := by
  have h1 := fault_one h
  rw [fault_eq, if_pos h1] at h
  exact ⟨h1, h⟩
theorem fault_kids {v : V} (h : v.fault = 0) : ∀ x ∈ v.l, x.fault = 0 := fun x hx => by
  obtain ⟨i, hi, rfl⟩ := List.getElem_of_mem hx
  exact fault_get h i hi
theorem fault_again {k n n' : Int} {l l' : List V} (h : (⟨k, n, l⟩ : V).fault1 = 0) (hl : l'.length = l.length) (hn : n' = n ∨ (k = 4 ∧ 0 ≤ n')) : (⟨k, n', l'⟩ : V).fault1 = 0 := by
  unfold V.fault1 at h ⊢
  simp only at h ⊢
  rw [hl]
  cases hp : partsB k with
  | none => rw [hp] at h; simp at h
  | some m =>
    rw [hp] at h
    simp only at h ⊢
    rcases hn with rfl | ⟨rfl, hn⟩
    · exact h
    · by_cases h1 : l.length ≠ m
      · rw [if_pos h1] at h; cases h
      · rw [if_neg h1]
        rw [if_neg (by omega), if_neg (by omega)]
theorem cap_num {n : Int} {l : List V} (h : (⟨4, n, l⟩ : V).fault1 = 0) : 0 ≤ n := by
  unfold V.fault1 at h
  rw [show partsB (⟨4, n, l⟩ : V).kind = some 0 from rfl] at h
  simp only at h
  by_cases h1 : l.length ≠ 0
  · rw [if_pos h1] at h; cases h
  · rw [if_neg h1, if_neg (by omega)] at h
    by_cases h2 : n < 0
    · rw [if_pos ⟨by simp, h2⟩] at h; cases h
    · omega
theorem handOk (os : List Bool) (gs : List Int) (v : V) : HandOk os gs v := by
  induction v using V.ind' with
  | h v ih =>
    intro ns h hl hf
    obtain ⟨hf1, hf2⟩ := fault_one_of hf
    have hk := fault_kids hf
    rw [handed_eq]
    obtain ⟨kind, n, l⟩ := v
    simp only at ih hk hf2 ⊢
    have hn : Nx os ns (numOf os gs ⟨kind, n, l⟩ ns).2.2 ∧ ((numOf os gs ⟨kind, n, l⟩ ns).2.1 = 0 → (numOf os gs ⟨kind, n, l⟩ ns).1 = n ∨ (kind = 4 ∧ 0 ≤ (numOf os gs ⟨kind, n, l⟩ ns).1)) := by
      unfold numOf
      by_cases h4 : kind = 4
      · subst h4
        rw [if_pos rfl]
        obtain ⟨t1, t2⟩ := through_nx gs h hl n
        exact ⟨t1, fun e => .inr ⟨rfl, t2 (cap_num hf1) e⟩⟩
      · rw [if_neg h4]; exact ⟨Nx.refl h hl, fun _ => .inl rfl⟩
    obtain ⟨n1, n2⟩ := hn
    generalize numOf os gs ⟨kind, n, l⟩ ns = D at n1 n2 ⊢
    by_cases e : D.2.1 = 0
    · rw [if_pos e]
      obtain ⟨k1, k2⟩ := handeds_ok l ih D.2.2 n1.wf n1.len hk
      by_cases e2 : (handeds os gs l D.2.2).2.1 = 0
      · rw [if_pos e2]
        obtain ⟨k3, k4, k5⟩ := k2 e2
        refine ⟨n1.trans k1, fun _ => ⟨?_, by rw [size_eq, size_eq]; simp only; rw [k5]⟩⟩
        rw [fault_eq, if_pos (fault_again hf1 k3 (n2 e))]
        exact k4
      · rw [if_neg e2]; exact ⟨n1.trans k1, fun h => absurd h e2⟩
    · rw [if_neg e]; exact ⟨n1, fun h => absurd h e⟩
theorem check_of {v : V} (h : v.fault = 0) (hs : v.size ≤ 40) : v.check = 0 := by unfold V.check; rw [if_neg (by omega)]; exact h
theorem passed_ok {os : List Bool} {gs : List Int} {ns : List Nd} {v : V} (h : Wf ns os.length) (hl : ns.length ≤ 80) : Nx os ns (passedOf ns os gs v).2.2 ∧ ((passedOf ns os gs v).2.1 = 0 → (passedOf ns os gs v).1.check = 0) := by
  unfold passedOf
  by_cases hm : mayOf ns os v = 0
  · rw [if_pos hm]
    have hc : v.check = 0 := by
      unfold mayOf at hm
      by_cases h1 : v.check = 0
      · exact h1
      · rw [if_neg h1] at hm; exact absurd hm h1
    obtain ⟨k1, k2⟩ := handOk os gs v ns h hl (check_fault hc)
    exact ⟨k1, fun e => check_of (k2 e).1 (by rw [(k2 e).2]; exact check_size hc)⟩
  · rw [if_neg hm]; exact ⟨Nx.refl h hl, fun e => absurd e hm⟩
theorem derive_os' (ns : List Nd) (os : List Bool) (p r g : Int) : (deriveOf ns os p r g).os = os := by
  unfold deriveOf addOf
  repeat' split
  all_goals rfl
structure Inv (s : Sg) : Prop where
  wf : Wf s.ns s.os.length
  ln : s.ns.length ≤ 80
  lg : s.os.length ≤ 20
  cs : s.cs.length = 12
  ks : s.ks.length = 4
  good : ∀ v ∈ s.ks, v.check = 0
structure Fine (s : Sg) (n : Nat) (o : Out) : Prop where
  inv : Inv o.s
  val : ∀ v, o.got = .ok v → v.check = 0
  left : o.left ≤ n
  log : o.s.es.length + o.left ≤ s.es.length + n
structure Fine1 (s : Sg) (n : Nat) (o : Out) : Prop where
  inv : Inv o.s
  val : ∀ v, o.got = .ok v → v.check = 0
  left : o.left ≤ n
  log : o.s.es.length + o.left ≤ s.es.length + n + 1
theorem Fine.one {s : Sg} {n : Nat} {o : Out} (h : Fine s n o) : Fine1 s n o := ⟨h.inv, h.val, h.left, by have := h.log; omega⟩
theorem fine_bad {s s' : Sg} {n m : Nat} (c : Int) (h : Inv s') (hm : m ≤ n) (hl : s'.es.length + m ≤ s.es.length + n) : Fine s n (bad c m s') := ⟨h, fun v e => by simp [bad] at e, hm, hl⟩
theorem fine_ok {s s' : Sg} {n m : Nat} {v : V} (hv : v.check = 0) (h : Inv s') (hm : m ≤ n) (hl : s'.es.length + m ≤ s.es.length + n) : Fine s n (okV v m s') := ⟨h, fun u e => by simp only [okV, Except.ok.injEq] at e; rw [← e]; exact hv, hm, hl⟩
theorem fine1_ok {s s' : Sg} {n m : Nat} {v : V} (hv : v.check = 0) (h : Inv s') (hm : m ≤ n) (hl : s'.es.length + m ≤ s.es.length + n + 1) : Fine1 s n (okV v m s') := ⟨h, fun u e => by simp only [okV, Except.ok.injEq] at e; rw [← e]; exact hv, hm, hl⟩
theorem Fine.then {s : Sg} {n : Nat} {o : Out} {f : V → Nat → Sg → Out} (h : Fine s n o) (hf : ∀ v, v.check = 0 → ∀ m s', Inv s' → Fine s' m (f v m s')) : Fine s n (o.then f) := by
  unfold Out.then
  cases e : o.got with
  | error c => exact h
  | ok v =>
    have k := hf v (h.val v e) o.left o.s h.inv
    simp only
    exact ⟨k.inv, k.val, Nat.le_trans k.left h.left, by have := k.log; have := h.log; omega⟩
theorem Fine.then1 {s : Sg} {n : Nat} {o : Out} {f : V → Nat → Sg → Out} (h : Fine s n o) (hf : ∀ v, v.check = 0 → ∀ m s', Inv s' → Fine1 s' m (f v m s')) : Fine1 s n (o.then f) := by
  unfold Out.then
  cases e : o.got with
  | error c => exact h.one
  | ok v =>
    have k := hf v (h.val v e) o.left o.s h.inv
    simp only
    exact ⟨k.inv, k.val, Nat.le_trans k.left h.left, by have := k.log; have := h.log; omega⟩
theorem fine_cross {s : Sg} (h : Inv s) (v : V) (gs : List Int) (n : Nat) : Fine s n (crossR v gs n s) := by
  obtain ⟨k1, k2⟩ := passed_ok (gs := gs) (v := v) h.wf h.ln
  have hi : Inv { s with ns := (passedOf s.ns s.os gs v).2.2 } := ⟨k1.wf, k1.len, h.lg, h.cs, h.ks, h.good⟩
  unfold crossR
  by_cases e : (passedOf s.ns s.os gs v).2.1 = 0
  · rw [if_pos e]; exact fine_ok (k2 e) hi (Nat.le_refl _) (Nat.le_refl _)
  · rw [if_neg e]; exact fine_bad _ hi (Nat.le_refl _) (Nat.le_refl _)
theorem v0_check : v0.check = 0 := by decide
theorem int_check (n : Int) : (intV n).check = 0 := check_of (by rw [fault_eq]; simp [intV, V.fault1, partsB, pres_nil, first]) (by simp [intV, size_mk, sizes_nil])
theorem cap_check {n : Int} (h : 0 ≤ n) : (capV n).check = 0 := check_of (by rw [fault_eq]; simp [capV, V.fault1, partsB, pres_nil, first]; omega) (by simp [capV, size_mk, sizes_nil])
theorem kid_check {v : V} (h : v.check = 0) (x : V) (hx : x ∈ v.l) : x.check = 0 := check_of (fault_kids (check_fault h) x hx) (by have := check_size h; have := sizes_mem hx; have := size_eq v; omega)
theorem getD_check {v : V} (h : v.check = 0) (i : Nat) : (v.l.getD i v0).check = 0 := by
  rcases Nat.lt_or_ge i v.l.length with hi | hi
  · rw [List.getD_eq_getElem?_getD, List.getElem?_eq_getElem hi]; exact kid_check h _ (List.getElem_mem hi)
  · rw [List.getD_eq_getElem?_getD, List.getElem?_eq_none hi]; exact v0_check
theorem kept_check {s : Sg} (h : Inv s) (i : Nat) : (s.ks.getD i v0).check = 0 := by
  rcases Nat.lt_or_ge i s.ks.length with hi | hi
  · rw [List.getD_eq_getElem?_getD, List.getElem?_eq_getElem hi]; exact h.good _ (List.getElem_mem hi)
  · rw [List.getD_eq_getElem?_getD, List.getElem?_eq_none hi]; exact v0_check
def CallOk (call : Caller) : Prop := ∀ fr p f v n s, v.check = 0 → Inv s → Fine s n (call fr p f v n s)
theorem fine_made {s : Sg} {os' : List Bool} (h : Inv s) (ho : s.os.length ≤ os'.length) (hl : os'.length ≤ 20) (p r g : Int) (n : Nat) : Fine s n (madeR (deriveOf s.ns os' p r g) n { s with os := os' }) := by
  obtain ⟨k1, k2, _⟩ := derive_nx (os := os') (h.wf.more ho) h.ln p r g
  have e : (deriveOf s.ns os' p r g).os = os' := derive_os' _ _ _ _ _
  have hi : Inv { s with ns := (deriveOf s.ns os' p r g).ns, os := (deriveOf s.ns os' p r g).os } := ⟨by rw [e]; exact k1.wf, k1.len, by rw [e]; exact hl, h.cs, h.ks, h.good⟩
  unfold madeR
  by_cases e : (deriveOf s.ns os' p r g).code = 0
  · rw [if_pos e]; exact fine_ok (cap_check (k2 e)) hi (Nat.le_refl _) (Nat.le_refl _)
  · rw [if_neg e]; exact fine_bad _ hi (Nat.le_refl _) (Nat.le_refl _)
theorem wrap_check {c g : Int} (hc : 0 ≤ c) (hg : 0 ≤ g) : (⟨2, 0, [⟨4, c, []⟩, ⟨5, g, []⟩]⟩ : V).check = 0 := by
  have h4 : (⟨4, c, []⟩ : V).fault1 = 0 := by unfold V.fault1; simp [partsB]; omega
  have h5 : (⟨5, g, []⟩ : V).fault1 = 0 := by unfold V.fault1; simp [partsB]; omega
  refine check_of ?_ (by simp [size_mk, sizes_cons, sizes_nil])
  rw [fault_eq, if_pos (by unfold V.fault1; simp [partsB]), pres_cons, pres_cons, pres_nil, pre_eq, pre_eq]
  simp [pres_nil, first, h4, h5]
theorem fine_ask {call : Caller} (hc : CallOk call) {s : Sg} (h : Inv s) (ms : Mods) (fr : Nat) (a b : V) (n : Nat) : Fine s n (askR call ms fr a b n s) := by
  unfold askR
  repeat' split
  all_goals first
    | exact fine_bad _ h (Nat.le_refl _) (Nat.le_refl _)
    | exact (fine_cross h _ _ _).then fun x hx m s' hs' => (hc _ _ _ _ _ _ hx hs').then fun y _ m2 s2 hs2 => fine_cross hs2 _ _ _
theorem fine_two {call : Caller} (hc : CallOk call) {s : Sg} (h : Inv s) (ms : Mods) (fr : Nat) (p op k : Int) (a b : V) (hb : b.check = 0) (n : Nat) : Fine1 s n (twoR call ms fr p op k a b n s) := by
  unfold twoR
  by_cases h6 : op = 6
  · rw [if_pos h6]
    split
    · exact (fine_ok (int_check _) h (Nat.le_refl _) (Nat.le_refl _)).one
    · exact (fine_bad _ h (Nat.le_refl _) (Nat.le_refl _)).one
  rw [if_neg h6]
  by_cases h8 : op = 8
  · rw [if_pos h8]
    split
    · rename_i hk; exact (fine_ok hk h (Nat.le_refl _) (Nat.le_refl _)).one
    · exact (fine_bad _ h (Nat.le_refl _) (Nat.le_refl _)).one
  rw [if_neg h8]
  by_cases h14 : op = 14
  · rw [if_pos h14]
    split
    · cases cellR s a 1 with
      | error c => exact (fine_bad _ h (Nat.le_refl _) (Nat.le_refl _)).one
      | ok c =>
        have hi : Inv { s with cs := s.cs.set c.toNat b.n, es := s.es ++ [⟨p, c, 2, a.n⟩] } := ⟨h.wf, h.ln, h.lg, by simp [h.cs], h.ks, h.good⟩
        exact fine1_ok hb hi (Nat.le_refl _) (by simp; omega)
    · exact (fine_bad _ h (Nat.le_refl _) (Nat.le_refl _)).one
  rw [if_neg h14]
  exact (fine_ask hc h _ _ _ _ _).one
theorem fine_one {call : Caller} (hc : CallOk call) {s : Sg} (h : Inv s) (fr : Nat) (p op k : Int) (a : V) (ha : a.check = 0) (n : Nat) : Fine1 s n (oneR call fr p op k a n s) := by
  have hb : ∀ c, Fine1 s n (bad c n s) := fun c => (fine_bad c h (Nat.le_refl _) (Nat.le_refl _)).one
  unfold oneR
  by_cases h9 : op = 9
  · rw [if_pos h9]
    split
    · exact (fine_ok (getD_check ha 0) h (Nat.le_refl _) (Nat.le_refl _)).one
    · exact hb _
  rw [if_neg h9]
  by_cases h10 : op = 10
  · rw [if_pos h10]
    split
    · exact (fine_ok (getD_check ha 1) h (Nat.le_refl _) (Nat.le_refl _)).one
    · exact hb _
  rw [if_neg h10]
  by_cases h11 : op = 11
  · rw [if_pos h11]
    split
    · rename_i hk; exact (fine_ok hk h (Nat.le_refl _) (Nat.le_refl _)).one
    · exact hb _
  rw [if_neg h11]
  by_cases h12 : op = 12
  · rw [if_pos h12]
    split
    · split
      · exact (fine_ok (getD_check ha 0) h (Nat.le_refl _) (Nat.le_refl _)).one
      · exact hb _
    · exact hb _
  rw [if_neg h12]
  by_cases h13 : op = 13
  · rw [if_pos h13]
    cases cellR s a 0 with
    | error c => exact hb _
    | ok c =>
      have hi : Inv { s with es := s.es ++ [⟨p, c, 1, a.n⟩] } := ⟨h.wf, h.ln, h.lg, h.cs, h.ks, h.good⟩
      exact fine1_ok (int_check _) hi (Nat.le_refl _) (by simp; omega)
  rw [if_neg h13]
  by_cases h15 : op = 15
  · rw [if_pos h15]
    split
    · exact (fine_made (os' := s.os) h (Nat.le_refl _) h.lg _ _ _ _).one
    · exact hb _
  rw [if_neg h15]
  by_cases h16 : op = 16
  · rw [if_pos h16]
    split
    · unfold gateOf
      by_cases h20 : s.os.length = 20
      · simp only [h20, if_true]
        exact hb _
      · simp only [h20, if_false, if_true]
        obtain ⟨k1, k2, _⟩ := derive_nx (os := s.os ++ [true]) (h.wf.more (by simp)) h.ln a.n 15 (s.os.length : Int)
        have e : (deriveOf s.ns (s.os ++ [true]) a.n 15 (s.os.length : Int)).os = s.os ++ [true] := derive_os' _ _ _ _ _
        have hlg := h.lg
        have hi : Inv { s with ns := (deriveOf s.ns (s.os ++ [true]) a.n 15 (s.os.length : Int)).ns, os := (deriveOf s.ns (s.os ++ [true]) a.n 15 (s.os.length : Int)).os } := ⟨by rw [e]; exact k1.wf, k1.len, by rw [e]; simp; omega, h.cs, h.ks, h.good⟩
        unfold madeR
        by_cases e2 : (deriveOf s.ns (s.os ++ [true]) a.n 15 (s.os.length : Int)).code = 0
        · rw [if_pos e2]
          exact (fine_ok (s := s) (n := n) (m := n) (wrap_check (k2 e2) (Int.natCast_nonneg s.os.length)) hi (Nat.le_refl _) (Nat.le_refl _)).one
        · rw [if_neg e2]
          exact (fine_bad (s := s) (n := n) (m := n) (deriveOf s.ns (s.os ++ [true]) a.n 15 (s.os.length : Int)).code hi (Nat.le_refl _) (Nat.le_refl _)).one
    · exact hb _
  rw [if_neg h16]
  by_cases h17 : op = 17
  · rw [if_pos h17]
    split
    · have e : (cutOf s.ns s.os a.n).os.length = s.os.length := by unfold cutOf; split <;> simp
      have hi : Inv { s with os := (cutOf s.ns s.os a.n).os } := ⟨by rw [e]; exact h.wf, h.ln, by rw [e]; exact h.lg, h.cs, h.ks, h.good⟩
      exact (fine_ok (s := s) (n := n) (m := n) v0_check hi (Nat.le_refl _) (Nat.le_refl _)).one
    · exact hb _
  rw [if_neg h17]
  by_cases h18 : op = 18
  · rw [if_pos h18]; exact (hc _ _ _ _ _ _ ha h).one
  rw [if_neg h18]
  have hi : Inv { s with ks := s.ks.set p.toNat a } := ⟨h.wf, h.ln, h.lg, h.cs, by simp [h.ks], fun v hv => by
    rcases List.mem_or_eq_of_mem_set hv with hv | hv
    · exact h.good v hv
    · rw [hv]; exact ha⟩
  exact (fine_ok (s := s) (n := n) (m := n) (kept_check h _) hi (Nat.le_refl _) (Nat.le_refl _)).one
theorem fine_none {s : Sg} (h : Inv s) (p op k n : Int) (arg : V) (ha : arg.check = 0) (names : List V) (hn : ∀ v ∈ names, v.check = 0) (m : Nat) : Fine s m (noneR p op k n arg names m s) := by
  have hk : (names.getD (names.length - 1 - k.toNat) v0).check = 0 := by
    rcases Nat.lt_or_ge (names.length - 1 - k.toNat) names.length with hi | hi
    · rw [List.getD_eq_getElem?_getD, List.getElem?_eq_getElem hi]; exact hn _ (List.getElem_mem hi)
    · rw [List.getD_eq_getElem?_getD, List.getElem?_eq_none hi]; exact v0_check
  unfold noneR
  repeat' split
  · exact fine_ok v0_check h (Nat.le_refl _) (Nat.le_refl _)
  · exact fine_ok (int_check _) h (Nat.le_refl _) (Nat.le_refl _)
  · exact fine_ok ha h (Nat.le_refl _) (Nat.le_refl _)
  · exact fine_ok hk h (Nat.le_refl _) (Nat.le_refl _)
  · exact fine_ok (kept_check h _) h (Nat.le_refl _) (Nat.le_refl _)
def EvOk (ev : Evl) : Prop := ∀ fr p x arg names n s, arg.check = 0 → (∀ v ∈ names, v.check = 0) → Inv s → Fine s n (ev fr p x arg names n s)
theorem call_ok {ev : Evl} (h : EvOk ev) (ms : Mods) : CallOk (callR ev ms) := by
  intro fr p f v n s hv hs
  unfold callR
  split
  · exact fine_bad _ hs (Nat.le_refl _) (Nat.le_refl _)
  · split
    · exact fine_bad _ hs (Nat.le_refl _) (Nat.le_refl _)
    · exact h _ _ _ _ _ _ _ hv (by simp) hs
theorem Fine1.step {s : Sg} {n : Nat} {o : Out} (hn : n ≠ 0) (h : Fine1 s (n - 1) o) : Fine s n o := ⟨h.inv, h.val, by have := h.left; omega, by have := h.log; omega⟩
theorem step_ok {ev : Evl} (h : EvOk ev) {call : Caller} (hc : CallOk call) (ms : Mods) : EvOk (stepR ev call ms) := by
  intro fr p x arg names n s ha hns hs
  unfold stepR
  by_cases h0 : n = 0
  · rw [if_pos h0]; exact fine_bad _ hs (by omega) (by omega)
  rw [if_neg h0]
  refine Fine1.step h0 ?_
  split
  · exact (fine_none hs _ _ _ _ _ ha _ hns _).one
  · exact (h _ _ _ _ _ _ _ ha hns hs).then1 fun v hv m s' hs' => fine_one hc hs' _ _ _ _ _ hv _
  · split
    · exact ((h _ _ _ _ _ _ _ ha hns hs).then fun v hv m s' hs' => h _ _ _ _ _ _ _ ha (fun u hu => by
        rcases List.mem_append.1 hu with hu | hu
        · exact hns u hu
        · simp at hu; rw [hu]; exact hv) hs').one
    · exact (h _ _ _ _ _ _ _ ha hns hs).then1 fun v _ m s' hs' => (h _ _ _ _ _ _ _ ha hns hs').then1 fun u hu m2 s2 hs2 => fine_two hc hs2 _ _ _ _ _ _ _ hu _
  · refine ((h _ _ _ _ _ _ _ ha hns hs).then fun v _ m s' hs' => ?_).one
    split
    · split
      · exact h _ _ _ _ _ _ _ ha hns hs'
      · exact h _ _ _ _ _ _ _ ha hns hs'
    · exact fine_bad _ hs' (Nat.le_refl _) (Nat.le_refl _)
theorem ev_ok (ms : Mods) : ∀ d, EvOk (evR ms d) := by
  intro d
  induction d with
  | zero => intro fr p x arg names n s _ _ hs; exact fine_bad _ hs (Nat.zero_le _) (by omega)
  | succ d ih => exact step_ok ih (call_ok ih ms) ms
def LeftE (ev : Evl) : Prop := ∀ fr p x arg names n s, (ev fr p x arg names n s).left ≤ n
def LeftC (call : Caller) : Prop := ∀ fr p f v n s, (call fr p f v n s).left ≤ n
theorem then_left {o : Out} {f : V → Nat → Sg → Out} {n : Nat} (h : o.left ≤ n) (hf : ∀ v m s, (f v m s).left ≤ m) : (o.then f).left ≤ n := by
  unfold Out.then
  cases o.got with
  | error c => exact h
  | ok v => exact Nat.le_trans (hf _ _ _) h
theorem cross_left (v : V) (gs : List Int) (n : Nat) (s : Sg) : (crossR v gs n s).left ≤ n := by unfold crossR; split <;> exact Nat.le_refl _
theorem made_left (r : Res) (n : Nat) (s : Sg) : (madeR r n s).left ≤ n := by unfold madeR; split <;> exact Nat.le_refl _
theorem ask_left {call : Caller} (hc : LeftC call) (ms : Mods) (fr : Nat) (a b : V) (n : Nat) (s : Sg) : (askR call ms fr a b n s).left ≤ n := by
  unfold askR
  repeat' split
  all_goals first
    | exact Nat.le_refl _
    | exact then_left (cross_left _ _ _ _) fun x m s' => then_left (hc _ _ _ _ _ _) fun y m2 s2 => cross_left _ _ _ _
theorem two_left {call : Caller} (hc : LeftC call) (ms : Mods) (fr : Nat) (p op k : Int) (a b : V) (n : Nat) (s : Sg) : (twoR call ms fr p op k a b n s).left ≤ n := by
  unfold twoR
  repeat' split
  all_goals first
    | exact Nat.le_refl _
    | exact ask_left hc _ _ _ _ _ _
theorem one_left {call : Caller} (hc : LeftC call) (fr : Nat) (p op k : Int) (a : V) (n : Nat) (s : Sg) : (oneR call fr p op k a n s).left ≤ n := by
  unfold oneR
  repeat' split
  all_goals first
    | exact Nat.le_refl _
    | exact made_left _ _ _
    | exact hc _ _ _ _ _ _
    | exact then_left (made_left _ _ _) fun _ _ _ => Nat.le_refl _
theorem none_left (p op k n : Int) (arg : V) (names : List V) (m : Nat) (s : Sg) : (noneR p op k n arg names m s).left ≤ m := by
  unfold noneR
  repeat' split
  all_goals exact Nat.le_refl _
theorem step_left {ev : Evl} (h : LeftE ev) {call : Caller} (hc : LeftC call) (ms : Mods) : ∀ fr p x arg names n s, (stepR ev call ms fr p x arg names n s).left ≤ n ∧ (n ≠ 0 → (stepR ev call ms fr p x arg names n s).left ≤ n - 1) := by
  intro fr p x arg names n s
  unfold stepR
  by_cases h0 : n = 0
  · rw [if_pos h0]; exact ⟨Nat.zero_le _, fun e => absurd h0 e⟩
  rw [if_neg h0]
  have key : ∀ o : Out, o.left ≤ n - 1 → o.left ≤ n ∧ (n ≠ 0 → o.left ≤ n - 1) := fun o ho => ⟨by omega, fun _ => ho⟩
  apply key
  split
  · exact none_left _ _ _ _ _ _ _ _
  · exact then_left (h _ _ _ _ _ _ _) fun v m s' => one_left hc _ _ _ _ _ _ _
  · split
    · exact then_left (h _ _ _ _ _ _ _) fun v m s' => h _ _ _ _ _ _ _
    · exact then_left (h _ _ _ _ _ _ _) fun v m s' => then_left (h _ _ _ _ _ _ _) fun u m2 s2 => two_left hc _ _ _ _ _ _ _ _ _
  · refine then_left (h _ _ _ _ _ _ _) fun v m s' => ?_
    repeat' split
    all_goals first
      | exact h _ _ _ _ _ _ _
      | exact Nat.le_refl _
theorem call_left {ev : Evl} (h : LeftE ev) (ms : Mods) : LeftC (callR ev ms) := by
  intro fr p f v n s
  unfold callR
  repeat' split
  all_goals first
    | exact Nat.le_refl _
    | exact h _ _ _ _ _ _ _
theorem ev_left (ms : Mods) : ∀ d, LeftE (evR ms d) := by
  intro d
  induction d with
  | zero => intro fr p x arg names n s; exact Nat.zero_le _
  | succ d ih => intro fr p x arg names n s; exact (step_left ih (call_left ih ms) ms _ _ _ _ _ _ _).1
def SameE (d : Nat) (e e' : Evl) : Prop := ∀ fr p x arg names n s, n ≤ d → e fr p x arg names n s = e' fr p x arg names n s
def SameC (d : Nat) (e e' : Caller) : Prop := ∀ fr p f v n s, n ≤ d → e fr p f v n s = e' fr p f v n s
theorem then_same {o : Out} {f f' : V → Nat → Sg → Out} {d : Nat} (h : o.left ≤ d) (hf : ∀ v m s, m ≤ d → f v m s = f' v m s) : o.then f = o.then f' := by
  unfold Out.then
  cases o.got with
  | error c => rfl
  | ok v => exact hf _ _ _ h
theorem ask_same {c c' : Caller} {d : Nat} (h : SameC d c c') (ms : Mods) (fr : Nat) (a b : V) (n : Nat) (s : Sg) (hn : n ≤ d) : askR c ms fr a b n s = askR c' ms fr a b n s := by
  unfold askR
  repeat' split
  all_goals first
    | rfl
    | exact then_same (d := d) (Nat.le_trans (cross_left _ _ _ _) hn) fun x m s' hm => by rw [h _ _ _ _ _ _ hm]
theorem two_same {c c' : Caller} {d : Nat} (h : SameC d c c') (ms : Mods) (fr : Nat) (p op k : Int) (a b : V) (n : Nat) (s : Sg) (hn : n ≤ d) : twoR c ms fr p op k a b n s = twoR c' ms fr p op k a b n s := by
  unfold twoR
  rw [ask_same h ms fr a b n s hn]
theorem one_same {c c' : Caller} {d : Nat} (h : SameC d c c') (fr : Nat) (p op k : Int) (a : V) (n : Nat) (s : Sg) (hn : n ≤ d) : oneR c fr p op k a n s = oneR c' fr p op k a n s := by
  unfold oneR
  rw [h _ _ _ _ _ _ hn]
theorem call_same {e e' : Evl} {d : Nat} (h : SameE d e e') (ms : Mods) : SameC d (callR e ms) (callR e' ms) := by
  intro fr p f v n s hn
  unfold callR
  repeat' split
  all_goals first
    | rfl
    | exact h _ _ _ _ _ _ _ hn
theorem step_same {e e' : Evl} {d : Nat} (h : SameE d e e') (hl : LeftE e) {c c' : Caller} (hc : SameC d c c') (ms : Mods) : SameE (d + 1) (stepR e c ms) (stepR e' c' ms) := by
  intro fr p x arg names n s hn
  unfold stepR
  by_cases h0 : n = 0
  · rw [if_pos h0, if_pos h0]
  rw [if_neg h0, if_neg h0]
  have hn1 : n - 1 ≤ d := by omega
  split
  · rfl
  · rw [← h _ _ _ _ _ _ _ hn1]
    exact then_same (d := d) (Nat.le_trans (hl _ _ _ _ _ _ _) hn1) fun v m s' hm => one_same hc _ _ _ _ _ _ _ hm
  · split
    · rw [← h _ _ _ _ _ _ _ hn1]
      exact then_same (d := d) (Nat.le_trans (hl _ _ _ _ _ _ _) hn1) fun v m s' hm => h _ _ _ _ _ _ _ hm
    · rw [← h _ _ _ _ _ _ _ hn1]
      refine then_same (d := d) (Nat.le_trans (hl _ _ _ _ _ _ _) hn1) fun v m s' hm => ?_
      rw [← h _ _ _ _ _ _ _ hm]
      exact then_same (d := d) (Nat.le_trans (hl _ _ _ _ _ _ _) hm) fun u m2 s2 hm2 => two_same hc _ _ _ _ _ _ _ _ _ hm2
  · rw [← h _ _ _ _ _ _ _ hn1]
    refine then_same (d := d) (Nat.le_trans (hl _ _ _ _ _ _ _) hn1) fun v m s' hm => ?_
    rw [h _ _ _ _ _ _ _ hm, h _ _ _ _ _ _ _ hm]
theorem ev_next (ms : Mods) : ∀ d, SameE d (evR ms d) (evR ms (d + 1)) := by
  intro d
  induction d with
  | zero =>
    intro fr p x arg names n s hn
    obtain rfl : n = 0 := by omega
    simp [evR, stepR]
  | succ d ih => exact step_same ih (ev_left ms d) (call_same ih ms) ms
def EvF (ms : Mods) : Evl := evR ms 2000
def CallF (ms : Mods) : Caller := callR (EvF ms) ms
theorem ev_step (ms : Mods) (fr : Nat) (p : Int) (x : Ex.V) (arg : V) (names : List V) (n : Nat) (s : Sg) (hn : n ≤ 2000) : EvF ms fr p x arg names n s = stepR (EvF ms) (CallF ms) ms fr p x arg names n s := ev_next ms 2000 fr p x arg names n s hn
theorem evF_left (ms : Mods) : LeftE (EvF ms) := ev_left ms 2000
def Out.pot (o : Out) : Nat := o.s.es.length + o.left
def PotE (ev : Evl) : Prop := ∀ fr p x arg names n s, (ev fr p x arg names n s).pot ≤ s.es.length + n
def PotC (call : Caller) : Prop := ∀ fr p f v n s, (call fr p f v n s).pot ≤ s.es.length + n
theorem then_pot {o : Out} {f : V → Nat → Sg → Out} {n k : Nat} (h : o.pot ≤ n) (hf : ∀ v m s, (f v m s).pot ≤ s.es.length + m + k) : (o.then f).pot ≤ n + k := by
  unfold Out.then
  cases o.got with
  | error c => exact Nat.le_trans h (Nat.le_add_right _ _)
  | ok v => have := hf v o.left o.s; unfold Out.pot at h; show (f v o.left o.s).pot ≤ _; omega
theorem cross_pot (v : V) (gs : List Int) (n : Nat) (s : Sg) : (crossR v gs n s).pot ≤ s.es.length + n := by unfold crossR; split <;> exact Nat.le_refl _
theorem made_pot (r : Res) (n : Nat) (s : Sg) : (madeR r n s).pot ≤ s.es.length + n := by unfold madeR; split <;> exact Nat.le_refl _
theorem ask_pot {call : Caller} (hc : PotC call) (ms : Mods) (fr : Nat) (a b : V) (n : Nat) (s : Sg) : (askR call ms fr a b n s).pot ≤ s.es.length + n := by
  unfold askR
  repeat' split
  all_goals first
    | exact Nat.le_refl _
    | exact then_pot (k := 0) (cross_pot _ _ _ _) fun x m s' => then_pot (k := 0) (hc _ _ _ _ _ _) fun y m2 s2 => cross_pot _ _ _ _
theorem two_pot {call : Caller} (hc : PotC call) (ms : Mods) (fr : Nat) (p op k : Int) (a b : V) (n : Nat) (s : Sg) : (twoR call ms fr p op k a b n s).pot ≤ s.es.length + n + 1 := by
  unfold twoR
  repeat' split
  all_goals first
    | exact Nat.le_succ _
    | exact Nat.le_trans (ask_pot hc _ _ _ _ _ _) (Nat.le_succ _)
    | (simp only [Out.pot, okV, List.length_append, List.length_singleton]; omega)
theorem one_pot {call : Caller} (hc : PotC call) (fr : Nat) (p op k : Int) (a : V) (n : Nat) (s : Sg) : (oneR call fr p op k a n s).pot ≤ s.es.length + n + 1 := by
  unfold oneR
  repeat' split
  all_goals first
    | exact Nat.le_succ _
    | exact Nat.le_trans (made_pot _ _ _) (Nat.le_succ _)
    | exact Nat.le_trans (hc _ _ _ _ _ _) (Nat.le_succ _)
    | exact Nat.le_trans (then_pot (k := 0) (made_pot _ _ _) fun _ _ _ => Nat.le_refl _) (Nat.le_succ _)
    | (simp only [Out.pot, okV, List.length_append, List.length_singleton]; omega)
theorem none_pot (p op k n : Int) (arg : V) (names : List V) (m : Nat) (s : Sg) : (noneR p op k n arg names m s).pot ≤ s.es.length + m := by
  unfold noneR
  repeat' split
  all_goals exact Nat.le_refl _
theorem step_pot {ev : Evl} (h : PotE ev) {call : Caller} (hc : PotC call) (ms : Mods) : PotE (stepR ev call ms) := by
  intro fr p x arg names n s
  unfold stepR
  by_cases h0 : n = 0
  · rw [if_pos h0, h0]; exact Nat.le_refl _
  rw [if_neg h0]
  have e : s.es.length + n = s.es.length + (n - 1) + 1 := by omega
  rw [e]
  split
  · exact Nat.le_trans (none_pot _ _ _ _ _ _ _ _) (Nat.le_succ _)
  · exact then_pot (h _ _ _ _ _ _ _) fun v m s' => one_pot hc _ _ _ _ _ _ _
  · split
    · exact Nat.le_trans (then_pot (k := 0) (h _ _ _ _ _ _ _) fun v m s' => h _ _ _ _ _ _ _) (Nat.le_succ _)
    · exact then_pot (h _ _ _ _ _ _ _) fun v m s' => then_pot (h _ _ _ _ _ _ _) fun u m2 s2 => two_pot hc _ _ _ _ _ _ _ _ _
  · refine Nat.le_trans (then_pot (k := 0) (h _ _ _ _ _ _ _) fun v m s' => ?_) (Nat.le_succ _)
    repeat' split
    all_goals first
      | exact h _ _ _ _ _ _ _
      | exact Nat.le_refl _
theorem call_pot {ev : Evl} (h : PotE ev) (ms : Mods) : PotC (callR ev ms) := by
  intro fr p f v n s
  unfold callR
  repeat' split
  all_goals first
    | exact Nat.le_refl _
    | exact h _ _ _ _ _ _ _
theorem ev_pot (ms : Mods) : ∀ d, PotE (evR ms d) := by
  intro d
  induction d with
  | zero => intro fr p x arg names n s; simp only [evR, bad, Out.pot]; omega
  | succ d ih => exact step_pot ih (call_pot ih ms) ms
theorem ev_less (ms : Mods) (d : Nat) (fr : Nat) (p : Int) (x : Ex.V) (arg : V) (names : List V) (n : Nat) (s : Sg) (v : V) (h : (evR ms d fr p x arg names n s).got = .ok v) : (evR ms d fr p x arg names n s).left + 1 ≤ n := by
  cases d with
  | zero => simp [evR, bad] at h
  | succ d =>
    have hs := step_left (ev_left ms d) (call_left (ev_left ms d) ms) ms fr p x arg names n s
    by_cases h0 : n = 0
    · exfalso
      simp [evR, stepR, h0, bad] at h
    · have := hs.2 h0
      show (stepR (evR ms d) (callR (evR ms d) ms) ms fr p x arg names n s).left + 1 ≤ n
      omega
theorem evF_pot (ms : Mods) (fr : Nat) (p : Int) (x : Ex.V) (arg : V) (names : List V) (n : Nat) (s : Sg) : (EvF ms fr p x arg names n s).left ≤ n ∧ (EvF ms fr p x arg names n s).s.es.length + (EvF ms fr p x arg names n s).left ≤ s.es.length + n ∧ ∀ v, (EvF ms fr p x arg names n s).got = .ok v → (EvF ms fr p x arg names n s).left + 1 ≤ n :=
  ⟨ev_left ms 2000 _ _ _ _ _ _ _, ev_pot ms 2000 _ _ _ _ _ _ _, ev_less ms 2000 _ _ _ _ _ _ _⟩
structure Fm where
  pc : Nat
  st : List V
  nm : List V
  left : Nat
  s : Sg
abbrev End := Int × Nat × Sg
def putO (pc : Nat) (st nm : List V) (o : Out) : Except End Fm := match o.got with
  | .ok v => .ok ⟨pc + 1, st ++ [v], nm, o.left, o.s⟩
  | .error c => .error (c, o.left, o.s)
def stepI (call : Caller) (ms : Mods) (fr : Nat) (p : Int) (arg : V) (i : Ex.Ik) (x : Fm) : Except End Fm :=
  if i.op = 100 then (if x.left = 0 then .error (12, 0, x.s) else .ok { x with pc := x.pc + 1, left := x.left - 1 })
  else if i.op = 101 then .ok { x with pc := x.pc + 1, st := x.st.dropLast, nm := x.nm ++ [x.st.getLastD v0] }
  else if i.op = 102 then .ok { x with pc := x.pc + 1, nm := x.nm.dropLast }
  else if i.op = 103 then (if (x.st.getLastD v0).kind = 1 then .ok { x with pc := if (x.st.getLastD v0).n = 0 then i.k.toNat else x.pc + 1, st := x.st.dropLast } else .error (2, x.left, x.s))
  else if i.op = 104 then .ok { x with pc := i.k.toNat }
  else if Ex.partsI i.op = 0 then putO x.pc x.st x.nm (noneR p i.op i.k i.n arg x.nm x.left x.s)
  else if Ex.partsI i.op = 1 then putO x.pc x.st.dropLast x.nm (oneR call fr p i.op i.k (x.st.getLastD v0) x.left x.s)
  else putO x.pc x.st.dropLast.dropLast x.nm (twoR call ms fr p i.op i.k (x.st.dropLast.getLastD v0) (x.st.getLastD v0) x.left x.s)
structure SafeI (F M K : Nat) (i : Ex.Ik) (x : Fm) : Prop where
  st : x.st.length + x.nm.length + x.left ≤ M
  log : x.s.es.length + x.left ≤ K
  one : i.op = 101 ∨ i.op = 103 → 1 ≤ x.st.length
  drop : i.op = 102 → 1 ≤ x.nm.length
  var : i.op = 4 → 0 ≤ i.k ∧ i.k < (x.nm.length : Int)
  parts : i.op ≤ 21 → Ex.partsI i.op ≤ (x.st.length : Int)
  call : i.op = 18 → 0 ≤ i.k ∧ i.k < (F : Int)
  kind : (1 ≤ i.op ∧ i.op ≤ 21 ∧ i.op ≠ 5 ∧ i.op ≠ 7) ∨ (100 ≤ i.op ∧ i.op ≤ 104)
section
variable (call : Caller) (ms : Mods) (fr : Nat) (p : Int) (arg : V) (c : List Ex.Ik)
def runI : Nat → Fm → Except End Fm
  | 0, x => .ok x
  | n + 1, x => match c[x.pc]? with
    | none => .error (0, x.left, x.s)
    | some i => match stepI call ms fr p arg i x with
      | .error e => .error e
      | .ok y => runI n y
def SafeN (F M K : Nat) : Nat → Fm → Prop
  | 0, _ => True
  | n + 1, x => ∃ i, c[x.pc]? = some i ∧ SafeI F M K i x ∧ ∀ y, stepI call ms fr p arg i x = .ok y → SafeN F M K n y
def Comes (F M K L : Nat) (x : Fm) (r : Except End Fm) : Prop := ∃ n, n ≤ L ∧ runI call ms fr p arg c n x = r ∧ SafeN call ms fr p arg c F M K n x
end
section
variable {call : Caller} {ms : Mods} {fr : Nat} {p : Int} {arg : V} {c : List Ex.Ik} {F M K : Nat}
theorem runI_add (n m : Nat) (x : Fm) : runI call ms fr p arg c (n + m) x = match runI call ms fr p arg c n x with | .error e => .error e | .ok y => runI call ms fr p arg c m y := by
  induction n generalizing x with
  | zero => rw [Nat.zero_add]; rfl
  | succ n ih =>
    rw [Nat.add_right_comm, runI, runI]
    cases c[x.pc]? with
    | none => rfl
    | some i =>
      simp only
      cases stepI call ms fr p arg i x with
      | error e => rfl
      | ok y => exact ih y
theorem safe_add (n m : Nat) (x y : Fm) (h : runI call ms fr p arg c n x = .ok y) (hx : SafeN call ms fr p arg c F M K n x) (hy : SafeN call ms fr p arg c F M K m y) : SafeN call ms fr p arg c F M K (n + m) x := by
  induction n generalizing x with
  | zero =>
    rw [runI] at h
    cases h
    rw [Nat.zero_add]; exact hy
  | succ n ih =>
    rw [Nat.add_right_comm]
    obtain ⟨i, hi, hs, hn⟩ := hx
    refine ⟨i, hi, hs, fun z hz => ih z ?_ (hn z hz)⟩
    rw [runI, hi] at h
    simp only [hz] at h
    exact h
theorem Comes.mono {x : Fm} {r : Except End Fm} {L L' : Nat} (h : Comes call ms fr p arg c F M K L x r) (hl : L ≤ L') : Comes call ms fr p arg c F M K L' x r := by
  obtain ⟨n, hn, hr⟩ := h
  exact ⟨n, Nat.le_trans hn hl, hr⟩
theorem Comes.trans {x y : Fm} {r : Except End Fm} {L1 L2 : Nat} (h : Comes call ms fr p arg c F M K L1 x (.ok y)) (k : Comes call ms fr p arg c F M K L2 y r) : Comes call ms fr p arg c F M K (L1 + L2) x r := by
  obtain ⟨n, ln, hn, sn⟩ := h
  obtain ⟨m, lm, hm, sm⟩ := k
  exact ⟨n + m, by omega, by rw [runI_add, hn]; exact hm, safe_add n m x y hn sn sm⟩
theorem Comes.after {x y : Fm} {r : Except End Fm} {L : Nat} (h : Comes call ms fr p arg c F M K 1 x (.ok y)) (hl : 1 ≤ L) (k : Comes call ms fr p arg c F M K (L - 1) y r) : Comes call ms fr p arg c F M K L x r := (h.trans k).mono (by omega)
theorem Comes.one {x : Fm} {r : Except End Fm} {i : Ex.Ik} (hi : c[x.pc]? = some i) (h : stepI call ms fr p arg i x = r) (hs : SafeI F M K i x) : Comes call ms fr p arg c F M K 1 x r := by
  refine ⟨1, Nat.le_refl _, ?_, i, hi, hs, fun _ _ => trivial⟩
  rw [runI, hi]
  simp only
  rw [h]
  cases r <;> rfl
end
def outF (pc : Nat) (st nm : List V) (o : Out) : Except End Fm := match o.got with
  | .ok v => .ok ⟨pc, st ++ [v], nm, o.left, o.s⟩
  | .error e => .error (e, o.left, o.s)
theorem put_out (pc : Nat) (st nm : List V) (o : Out) : putO pc st nm o = outF (pc + 1) st nm o := by unfold putO outF; cases o.got <;> rfl
theorem comes_then {call : Caller} {ms : Mods} {fr : Nat} {p : Int} {arg : V} {c : List Ex.Ik} {x : Fm} {F M K L1 L2 pc pc' : Nat} {st nm st1 nm1 : List V} {o : Out} {f : V → Nat → Sg → Out} (h : Comes call ms fr p arg c F M K L1 x (outF pc st1 nm1 o)) (hf : ∀ v, o.got = .ok v → Comes call ms fr p arg c F M K L2 ⟨pc, st1 ++ [v], nm1, o.left, o.s⟩ (outF pc' st nm (f v o.left o.s))) : Comes call ms fr p arg c F M K (L1 + L2) x (outF pc' st nm (o.then f)) := by
  unfold Out.then
  cases e : o.got with
  | error e' =>
    have : outF pc' st nm o = outF pc st1 nm1 o := by unfold outF; rw [e]
    simp only
    rw [this]; exact h.mono (by omega)
  | ok v =>
    have : outF pc st1 nm1 o = .ok ⟨pc, st1 ++ [v], nm1, o.left, o.s⟩ := by unfold outF; rw [e]
    rw [this] at h
    exact h.trans (hf v e)
theorem comes_on {call : Caller} {ms : Mods} {fr : Nat} {p : Int} {arg : V} {c : List Ex.Ik} {x : Fm} {F M K L1 L2 pc pc' : Nat} {st nm nm1 : List V} {o : Out} (h : Comes call ms fr p arg c F M K L1 x (outF pc st nm1 o)) (hf : ∀ v, o.got = .ok v → Comes call ms fr p arg c F M K L2 ⟨pc, st ++ [v], nm1, o.left, o.s⟩ (.ok ⟨pc', st ++ [v], nm, o.left, o.s⟩)) : Comes call ms fr p arg c F M K (L1 + L2) x (outF pc' st nm o) := by
  cases e : o.got with
  | error e' =>
    have : outF pc' st nm o = outF pc st nm1 o := by unfold outF; rw [e]
    rw [this]; exact h.mono (by omega)
  | ok v =>
    have h1 : outF pc st nm1 o = .ok ⟨pc, st ++ [v], nm1, o.left, o.s⟩ := by unfold outF; rw [e]
    have h2 : outF pc' st nm o = .ok ⟨pc', st ++ [v], nm, o.left, o.s⟩ := by unfold outF; rw [e]
    rw [h1] at h
    rw [h2]
    exact h.trans (hf v e)
def Does (ms : Mods) (F : Nat) (x : Ex.V) : Prop := ∀ (fr : Nat) (p : Int) (arg : V) (A B c : List Ex.Ik) (st nm : List V) (n : Nat) (s : Sg) (M K : Nat), n ≤ 2000 → c = A ++ (x.code A.length ++ B) → x.bad F nm.length = 0 → st.length + nm.length + n ≤ M → s.es.length + n ≤ K →
  Comes (CallF ms) ms fr p arg c F M K (x.code A.length).length ⟨A.length, st, nm, n, s⟩ (outF (A.length + (x.code A.length).length) st nm (EvF ms fr p x arg nm n s))
theorem kind_op {k : Int} (h : 1 ≤ k ∧ k ≤ 21) : k ≠ 100 ∧ k ≠ 101 ∧ k ≠ 102 ∧ k ≠ 103 ∧ k ≠ 104 := by omega
theorem step_none {call : Caller} {ms : Mods} {fr : Nat} {p : Int} {arg : V} {i : Ex.Ik} {x : Fm} (h : 1 ≤ i.op ∧ i.op ≤ 21) (hp : Ex.partsI i.op = 0) : stepI call ms fr p arg i x = outF (x.pc + 1) x.st x.nm (noneR p i.op i.k i.n arg x.nm x.left x.s) := by
  obtain ⟨h0, h1, h2, h3, h4⟩ := kind_op h
  unfold stepI
  rw [if_neg h0, if_neg h1, if_neg h2, if_neg h3, if_neg h4, if_pos hp, put_out]
theorem step_one {call : Caller} {ms : Mods} {fr : Nat} {p : Int} {arg : V} {i : Ex.Ik} {pc : Nat} {st nm : List V} {v : V} {n : Nat} {s : Sg} (h : 1 ≤ i.op ∧ i.op ≤ 21) (hp : Ex.partsI i.op = 1) : stepI call ms fr p arg i ⟨pc, st ++ [v], nm, n, s⟩ = outF (pc + 1) st nm (oneR call fr p i.op i.k v n s) := by
  obtain ⟨h0, h1, h2, h3, h4⟩ := kind_op h
  unfold stepI
  rw [if_neg h0, if_neg h1, if_neg h2, if_neg h3, if_neg h4, if_neg (by omega), if_pos hp, put_out]
  simp
theorem step_two {call : Caller} {ms : Mods} {fr : Nat} {p : Int} {arg : V} {i : Ex.Ik} {pc : Nat} {st nm : List V} {v u : V} {n : Nat} {s : Sg} (h : 1 ≤ i.op ∧ i.op ≤ 21) (hp : Ex.partsI i.op = 2) : stepI call ms fr p arg i ⟨pc, st ++ [v] ++ [u], nm, n, s⟩ = outF (pc + 1) st nm (twoR call ms fr p i.op i.k v u n s) := by
  obtain ⟨h0, h1, h2, h3, h4⟩ := kind_op h
  unfold stepI
  rw [if_neg h0, if_neg h1, if_neg h2, if_neg h3, if_neg h4, if_neg (by omega), if_neg (by omega), put_out]
  simp
theorem get_at {A B c : List Ex.Ik} {i : Ex.Ik} {k : Nat} (hc : c = A ++ (i :: B)) (hk : k = A.length) : c[k]? = some i := by rw [hc, hk]; simp
theorem fault_k {F : Int} {v : Ex.V} {o : Int} (h : Ex.fault1 F v o = 0) : (v.kind = 4 → 0 ≤ v.k ∧ v.k < o) ∧ (v.kind = 18 → 0 ≤ v.k ∧ v.k < F) := by
  unfold Ex.fault1 at h
  by_cases h1 : Ex.partsI v.kind < 0
  · rw [if_pos h1] at h; cases h
  rw [if_neg h1] at h
  by_cases h2 : (v.l.length : Int) ≠ Ex.partsI v.kind
  · rw [if_pos h2] at h; cases h
  rw [if_neg h2] at h
  by_cases h3 : v.n ≠ 0 ∧ v.kind ≠ 2
  · rw [if_pos h3] at h; cases h
  rw [if_neg h3] at h
  by_cases h4 : Ex.faultK F v.kind v.k o ≠ 0
  · rw [if_pos h4] at h; exact absurd h h4
  unfold Ex.faultK at h4
  refine ⟨fun e => ?_, fun e => ?_⟩
  · rw [if_pos e] at h4
    by_cases e2 : 0 ≤ v.k ∧ v.k < o
    · exact e2
    · rw [if_neg e2] at h4; exact absurd (by decide) h4
  · rw [e, if_neg (by decide), if_neg (by decide), if_neg (by decide), if_pos rfl] at h4
    by_cases e2 : 0 ≤ v.k ∧ v.k < F
    · exact e2
    · rw [if_neg e2] at h4; exact absurd (by decide) h4
theorem safe_ctl {F M K : Nat} {op k : Int} {x : Fm} (h : 100 ≤ op ∧ op ≤ 104) (hs : x.st.length + x.nm.length + x.left ≤ M) (hK : x.s.es.length + x.left ≤ K) (h1 : op = 101 ∨ op = 103 → 1 ≤ x.st.length) (h2 : op = 102 → 1 ≤ x.nm.length) : SafeI F M K ⟨op, k, 0⟩ x :=
  ⟨hs, hK, h1, h2, fun e => by simp only at e; omega, fun e => by simp only at e; omega, fun e => by simp only at e; omega, .inr h⟩
theorem safe_op {F M K : Nat} {v : Ex.V} {x : Fm} (hf : Ex.fault1 F v x.nm.length = 0) (h5 : v.kind ≠ 5) (h7 : v.kind ≠ 7) (hs : x.st.length + x.nm.length + x.left ≤ M) (hK : x.s.es.length + x.left ≤ K) (hp : Ex.partsI v.kind ≤ (x.st.length : Int)) : SafeI F M K ⟨v.kind, v.k, v.n⟩ x := by
  obtain ⟨hk, _, _, _⟩ := Ex.fault_facts hf
  obtain ⟨k1, k2⟩ := fault_k hf
  exact ⟨hs, hK, fun e => by simp only at e; omega, fun e => by simp only at e; omega, k1, fun _ => hp, k2, .inl ⟨hk.1, hk.2, h5, h7⟩⟩
theorem does_any (ms : Mods) (F : Nat) (x : Ex.V) : Does ms F x := by
  induction x using Ex.V.ind' with
  | h x hk =>
    intro fr p arg A B c st nm n s M K hn hc hbad hM hK
    have hx : Ex.Ok x := ⟨_, _, hbad⟩
    obtain ⟨hf1, hbs⟩ := Ex.bad_one hbad
    obtain ⟨hkind, hlen, _, _⟩ := Ex.fault_facts hf1
    have hsz := Ex.size_eq x
    rw [ev_step ms fr p x arg nm n s hn]
    have hhead : c = A ++ (⟨100, 0, 0⟩ :: ((x.code A.length).tail ++ B)) := by
      rw [hc, Ex.code_eq]; simp
    have hget := get_at hhead rfl
    have stick : SafeI F M K ⟨100, 0, 0⟩ ⟨A.length, st, nm, n, s⟩ := safe_ctl (by decide) hM hK (fun e => by omega) (fun e => by omega)
    unfold stepR
    by_cases h0 : n = 0
    · rw [if_pos h0]
      exact (Comes.one hget (by unfold stepI; simp [h0, outF, bad]) stick).mono (Ex.code_pos x _)
    rw [if_neg h0]
    have htick : Comes (CallF ms) ms fr p arg c F M K 1 ⟨A.length, st, nm, n, s⟩ (.ok ⟨A.length + 1, st, nm, n - 1, s⟩) := Comes.one hget (by unfold stepI; simp [h0]) stick
    refine htick.after (Ex.code_pos x _) ?_
    have hn1 : n - 1 ≤ 2000 := by omega
    have hl1 := evF_left ms
    by_cases h5 : x.kind = 5
    · obtain ⟨a, b, hab⟩ := hx.two h5
      have hcode := Ex.code_let h5 hab A.length
      unfold Ex.letC at hcode
      rw [hab] at hbs hsz ⊢
      rw [Ex.sizes_cons, Ex.sizes_cons, Ex.sizes_nil] at hsz
      obtain ⟨ba, hbs⟩ := Ex.bads_one hbs
      obtain ⟨bb, _⟩ := Ex.bads_one hbs
      rw [h5] at ba bb
      have ea : Ex.opens 5 (nm.length : Int) 0 = nm.length := rfl
      have eb : ∀ v : V, Ex.opens 5 (nm.length : Int) (0 + 1) = (nm ++ [v]).length := fun v => by simp [Ex.opens]
      rw [ea] at ba
      have pa := Ex.size_pos a
      have pb := Ex.size_pos b
      simp only
      rw [if_pos h5]
      have ha := hk a (by rw [hab]; simp) fr p arg (A ++ [⟨100, 0, 0⟩]) ([⟨101, 0, 0⟩] ++ (b.code (A.length + 1 + (a.code (A.length + 1)).length + 1) ++ ([⟨102, 0, 0⟩] ++ B))) c st nm (n - 1) s M K hn1 (by rw [hc, hcode]; simp) ba (by omega) (by omega)
      rw [List.length_append, List.length_singleton] at ha
      refine Comes.mono (comes_then (L2 := 1 + ((b.code (A.length + 1 + (a.code (A.length + 1)).length + 1)).length + 1)) ha fun v hgv => ?_) (by rw [hcode]; simp; omega)
      obtain ⟨hla, hlb, hlc⟩ := evF_pot ms fr p a arg nm (n - 1) s
      have hld := hlc v hgv
      clear hlc
      generalize EvF ms fr p a arg nm (n - 1) s = oa at hla hlb hld hgv ⊢
      refine Comes.trans (y := ⟨A.length + 1 + (a.code (A.length + 1)).length + 1, st, nm ++ [v], oa.left, oa.s⟩) (Comes.one (i := ⟨101, 0, 0⟩) (get_at (A := A ++ ([⟨100, 0, 0⟩] ++ a.code (A.length + 1))) (B := b.code (A.length + 1 + (a.code (A.length + 1)).length + 1) ++ ([⟨102, 0, 0⟩] ++ B)) (by rw [hc, hcode]; simp) (by simp; omega)) (by unfold stepI; simp) (safe_ctl (by decide) (by simp; omega) (by simp only; omega) (fun _ => by simp) (fun e => by omega))) ?_
      have hb := hk b (by rw [hab]; simp) fr p arg (A ++ ([⟨100, 0, 0⟩] ++ (a.code (A.length + 1) ++ [⟨101, 0, 0⟩]))) ([⟨102, 0, 0⟩] ++ B) c st (nm ++ [v]) oa.left oa.s M K (by omega) (by rw [hc, hcode]; simp [Nat.add_assoc, Nat.add_comm 1]) (by rw [← eb v]; exact bb) (by simp; omega) (by omega)
      simp only [List.length_append, List.length_singleton] at hb
      rw [show A.length + (1 + ((a.code (A.length + 1)).length + 1)) = A.length + 1 + (a.code (A.length + 1)).length + 1 by omega] at hb
      refine comes_on hb fun u hgu => ?_
      obtain ⟨_, hq1, hq2⟩ := evF_pot ms fr p b arg (nm ++ [v]) oa.left oa.s
      have hq3 := hq2 u hgu
      refine Comes.one (i := ⟨102, 0, 0⟩) (get_at (A := A ++ ([⟨100, 0, 0⟩] ++ (a.code (A.length + 1) ++ ([⟨101, 0, 0⟩] ++ b.code (A.length + 1 + (a.code (A.length + 1)).length + 1))))) (B := B) (by rw [hc, hcode]; simp) (by simp; omega)) ?_ (safe_ctl (by decide) (by simp; omega) (by simp only; omega) (fun e => by omega) (fun _ => by simp))
      unfold stepI
      rw [hcode]
      simp
      omega
    by_cases h7 : x.kind = 7
    · obtain ⟨a, b, d, habd⟩ := hx.three h7
      have hcode := Ex.code_if h7 habd A.length
      unfold Ex.ifC at hcode
      rw [habd] at hbs hsz
      rw [Ex.sizes_cons, Ex.sizes_cons, Ex.sizes_cons, Ex.sizes_nil] at hsz
      obtain ⟨ba, hbs⟩ := Ex.bads_one hbs
      obtain ⟨bb, hbs⟩ := Ex.bads_one hbs
      obtain ⟨bd, _⟩ := Ex.bads_one hbs
      rw [h7] at ba bb bd
      have pa := Ex.size_pos a
      have eo : ∀ i : Nat, Ex.opens 7 (nm.length : Int) i = nm.length := fun i => by simp [Ex.opens]
      rw [eo] at ba bb bd
      obtain ⟨q, hq⟩ : ∃ q, q = A.length + 1 := ⟨_, rfl⟩
      obtain ⟨la, hla⟩ : ∃ k, k = (a.code q).length := ⟨_, rfl⟩
      obtain ⟨lb, hlb⟩ : ∃ k, k = (b.code (q + la + 1)).length := ⟨_, rfl⟩
      obtain ⟨e, he⟩ : ∃ k, k = q + la + 1 + lb + 1 := ⟨_, rfl⟩
      have heq : Ex.elseAt a b q = e := by unfold Ex.elseAt; rw [← hla, ← hlb, he]
      rw [← hq, heq, ← hla] at hcode
      have hend : A.length + (x.code A.length).length = e + (d.code e).length := by rw [hcode]; simp only [List.length_append, List.length_singleton]; rw [← hla, ← hlb]; omega
      rw [hend, habd]
      simp only
      have ha := hk a (by rw [habd]; simp) fr p arg (A ++ [⟨100, 0, 0⟩]) ([⟨103, (e : Nat), 0⟩] ++ (b.code (q + la + 1) ++ ([⟨104, (e + (d.code e).length : Nat), 0⟩] ++ (d.code e ++ B)))) c st nm (n - 1) s M K hn1 (by rw [hc, hcode, hq]; simp) ba (by omega) (by omega)
      rw [List.length_append, List.length_singleton, ← hq, ← hla] at ha
      rw [← hq]
      refine Comes.mono (comes_then (L2 := 1 + (lb + 1 + (d.code e).length)) ha fun v hgv => ?_) (by rw [hcode]; simp only [List.length_append, List.length_singleton]; omega)
      obtain ⟨hlo, hlog, hlc⟩ := evF_pot ms fr p a arg nm (n - 1) s
      have hld := hlc v hgv
      clear hlc
      generalize EvF ms fr p a arg nm (n - 1) s = oa at hlo hlog hld hgv ⊢
      have hg := get_at (c := c) (k := q + la) (A := A ++ ([⟨100, 0, 0⟩] ++ a.code q)) (B := b.code (q + la + 1) ++ ([⟨104, (e + (d.code e).length : Nat), 0⟩] ++ (d.code e ++ B))) (i := ⟨103, (e : Nat), 0⟩) (by rw [hc, hcode]; simp) (by simp only [List.length_append, List.length_singleton]; omega)
      have s103 : SafeI F M K ⟨103, (e : Nat), 0⟩ ⟨q + la, st ++ [v], nm, oa.left, oa.s⟩ := safe_ctl (by decide) (by simp; omega) (by simp only; omega) (fun _ => by simp) (fun e => by omega)
      by_cases hv : v.kind = 1
      · rw [if_pos hv]
        by_cases hz : v.n ≠ 0
        · rw [if_pos hz]
          refine Comes.mono (Comes.trans (y := ⟨q + la + 1, st, nm, oa.left, oa.s⟩) (L2 := lb + 1) (Comes.one hg (by unfold stepI; simp [hv, hz]) s103) ?_) (by omega)
          have h1 : (A ++ ([(⟨100, 0, 0⟩ : Ex.Ik)] ++ (a.code q ++ [(⟨103, (e : Nat), 0⟩ : Ex.Ik)]))).length = q + la + 1 := by simp only [List.length_append, List.length_singleton]; omega
          have hb := hk b (by rw [habd]; simp) fr p arg (A ++ ([⟨100, 0, 0⟩] ++ (a.code q ++ [⟨103, (e : Nat), 0⟩]))) ([⟨104, (e + (d.code e).length : Nat), 0⟩] ++ (d.code e ++ B)) c st nm oa.left oa.s M K (by omega) (by rw [h1, hc, hcode]; simp) bb (by omega) (by omega)
          rw [h1, ← hlb] at hb
          refine comes_on hb fun u hgu => ?_
          obtain ⟨_, hq1, hq2⟩ := evF_pot ms fr p b arg nm oa.left oa.s
          have hq3 := hq2 u hgu
          refine Comes.one (i := ⟨104, (e + (d.code e).length : Nat), 0⟩) (get_at (A := A ++ ([⟨100, 0, 0⟩] ++ (a.code q ++ ([⟨103, (e : Nat), 0⟩] ++ b.code (q + la + 1))))) (B := d.code e ++ B) (by rw [hc, hcode]; simp) (by simp only [List.length_append, List.length_singleton]; omega)) ?_ (safe_ctl (by decide) (by simp; omega) (by simp only; omega) (fun e => by omega) (fun e => by omega))
          unfold stepI
          simp
          omega
        · rw [if_neg hz]
          have hz0 : v.n = 0 := Decidable.not_not.1 hz
          refine Comes.mono (Comes.trans (y := ⟨e, st, nm, oa.left, oa.s⟩) (L2 := (d.code e).length) (Comes.one hg (by unfold stepI; simp [hv, hz0]) s103) ?_) (by omega)
          have h1 : (A ++ ([(⟨100, 0, 0⟩ : Ex.Ik)] ++ (a.code q ++ ([(⟨103, (e : Nat), 0⟩ : Ex.Ik)] ++ (b.code (q + la + 1) ++ [(⟨104, (e + (d.code e).length : Nat), 0⟩ : Ex.Ik)]))))).length = e := by simp only [List.length_append, List.length_singleton]; omega
          have hd := hk d (by rw [habd]; simp) fr p arg (A ++ ([⟨100, 0, 0⟩] ++ (a.code q ++ ([⟨103, (e : Nat), 0⟩] ++ (b.code (q + la + 1) ++ [(⟨104, (e + (d.code e).length : Nat), 0⟩ : Ex.Ik)]))))) B c st nm oa.left oa.s M K (by omega) (by rw [h1, hc, hcode]; simp) bd (by omega) (by omega)
          rw [h1] at hd
          exact hd
      · rw [if_neg hv]
        exact (Comes.one hg (by unfold stepI; simp [hv, outF, bad]) s103).mono (by omega)
    have hcode := Ex.code_other h5 h7 A.length
    have eo : ∀ i : Nat, Ex.opens x.kind (nm.length : Int) i = nm.length := fun i => by simp [Ex.opens, h5]
    match hxl : x.l with
    | [] =>
      rw [hxl, Ex.codesP_nil] at hcode
      rw [hxl] at hlen
      simp only
      refine Comes.mono (L := 1) ?_ (by rw [hcode]; simp)
      refine Comes.one (i := ⟨x.kind, x.k, x.n⟩) (get_at (A := A ++ [⟨100, 0, 0⟩]) (B := B) (by rw [hc, hcode]; simp) (by simp)) ?_ (safe_op hf1 h5 h7 (by simp only; omega) (by simp only; omega) (by rw [← hlen]; simp))
      rw [step_none hkind (by rw [← hlen]; rfl), hcode]
      simp
    | [a] =>
      rw [hxl, Ex.codesP_cons, Ex.codesP_nil, List.append_nil] at hcode
      rw [hxl] at hlen hbs hsz
      rw [Ex.sizes_cons, Ex.sizes_nil] at hsz
      obtain ⟨ba, _⟩ := Ex.bads_one hbs
      rw [eo] at ba
      simp only
      have ha := hk a (by rw [hxl]; simp) fr p arg (A ++ [⟨100, 0, 0⟩]) ([⟨x.kind, x.k, x.n⟩] ++ B) c st nm (n - 1) s M K hn1 (by rw [hc, hcode]; simp) ba (by omega) (by omega)
      rw [List.length_append, List.length_singleton] at ha
      refine Comes.mono (comes_then (L2 := 1) ha fun v hgv => ?_) (by rw [hcode]; simp)
      obtain ⟨_, hq1, hq2⟩ := evF_pot ms fr p a arg nm (n - 1) s
      have hq3 := hq2 v hgv
      have pa := Ex.size_pos a
      refine Comes.one (i := ⟨x.kind, x.k, x.n⟩) (get_at (A := A ++ ([⟨100, 0, 0⟩] ++ a.code (A.length + 1))) (B := B) (by rw [hc, hcode]; simp) (by simp; omega)) ?_ (safe_op hf1 h5 h7 (by simp; omega) (by simp only; omega) (by rw [← hlen]; simp; omega))
      rw [step_one hkind (by rw [← hlen]; rfl), hcode]
      simp only [List.length_append, List.length_singleton]
      rw [show A.length + 1 + (a.code (A.length + 1)).length + 1 = A.length + (1 + ((a.code (A.length + 1)).length + 1)) by omega]
    | [a, b] =>
      rw [hxl, Ex.codesP_cons, Ex.codesP_cons, Ex.codesP_nil, List.append_nil] at hcode
      rw [hxl] at hlen hbs hsz
      rw [Ex.sizes_cons, Ex.sizes_cons, Ex.sizes_nil] at hsz
      obtain ⟨ba, hbs⟩ := Ex.bads_one hbs
      obtain ⟨bb, _⟩ := Ex.bads_one hbs
      rw [eo] at ba bb
      simp only
      rw [if_neg h5]
      have pa := Ex.size_pos a
      have pb := Ex.size_pos b
      have ha := hk a (by rw [hxl]; simp) fr p arg (A ++ [⟨100, 0, 0⟩]) (b.code (A.length + 1 + (a.code (A.length + 1)).length) ++ ([⟨x.kind, x.k, x.n⟩] ++ B)) c st nm (n - 1) s M K hn1 (by rw [hc, hcode]; simp) ba (by omega) (by omega)
      rw [List.length_append, List.length_singleton] at ha
      refine Comes.mono (comes_then (L2 := (b.code (A.length + 1 + (a.code (A.length + 1)).length)).length + 1) ha fun v hgv => ?_) (by rw [hcode]; simp)
      obtain ⟨hla, hlb, hlc⟩ := evF_pot ms fr p a arg nm (n - 1) s
      have hld := hlc v hgv
      clear hlc
      generalize EvF ms fr p a arg nm (n - 1) s = oa at hla hlb hld hgv ⊢
      have hb := hk b (by rw [hxl]; simp) fr p arg (A ++ ([⟨100, 0, 0⟩] ++ a.code (A.length + 1))) ([⟨x.kind, x.k, x.n⟩] ++ B) c (st ++ [v]) nm oa.left oa.s M K (by omega) (by rw [hc, hcode]; simp [Nat.add_assoc, Nat.add_comm 1]) bb (by simp; omega) (by omega)
      simp only [List.length_append, List.length_singleton] at hb
      rw [show A.length + (1 + (a.code (A.length + 1)).length) = A.length + 1 + (a.code (A.length + 1)).length by omega] at hb
      refine comes_then hb fun u hgu => ?_
      obtain ⟨_, hq1, hq2⟩ := evF_pot ms fr p b arg nm oa.left oa.s
      have hq3 := hq2 u hgu
      refine Comes.one (i := ⟨x.kind, x.k, x.n⟩) (get_at (A := A ++ ([⟨100, 0, 0⟩] ++ (a.code (A.length + 1) ++ b.code (A.length + 1 + (a.code (A.length + 1)).length)))) (B := B) (by rw [hc, hcode]; simp) (by simp; omega)) ?_ (safe_op hf1 h5 h7 (by simp; omega) (by simp only; omega) (by rw [← hlen]; simp; omega))
      rw [step_two hkind (by rw [← hlen]; rfl), hcode]
      simp only [List.length_append, List.length_singleton]
      congr 1
      omega
    | a :: b :: d :: l =>
      exfalso
      rw [hxl] at hlen
      have hp : Ex.partsI x.kind ≤ 2 := by
        unfold Ex.partsI
        rw [if_neg h7]
        repeat' split
        all_goals omega
      simp only [List.length_cons] at hlen
      omega
theorem fun_does (ms : Mods) (F : Nat) (x : Ex.V) (hx : x.bad F 0 = 0) (fr : Nat) (p : Int) (arg : V) (n : Nat) (s : Sg) (hn : n ≤ 2000) :
    Comes (CallF ms) ms fr p arg (Ex.funC x) F n (s.es.length + n) (x.code 0).length ⟨0, [], [], n, s⟩ (outF (x.code 0).length [] [] (EvF ms fr p x arg [] n s)) ∧ (Ex.funC x)[(x.code 0).length]? = some ⟨105, 0, 0⟩ := by
  refine ⟨?_, by unfold Ex.funC; simp⟩
  have h := does_any ms F x fr p arg [] [⟨105, 0, 0⟩] (Ex.funC x) [] [] n s n (s.es.length + n) hn (by unfold Ex.funC; simp) hx (by simp) (Nat.le_refl _)
  simpa using h
structure Fi (x : Fm) : Prop where
  inv : Inv x.s
  st : ∀ v ∈ x.st, v.check = 0
  nm : ∀ v ∈ x.nm, v.check = 0
theorem callF_ok (ms : Mods) : CallOk (CallF ms) := call_ok (ev_ok ms 2000) ms
theorem last_check {l : List V} (h : ∀ v ∈ l, v.check = 0) : (l.getLastD v0).check = 0 := by
  cases e : l.getLast? with
  | none => rw [List.getLastD_eq_getLast?, e]; exact v0_check
  | some v => rw [List.getLastD_eq_getLast?, e]; exact h v (List.mem_of_getLast? e)
theorem drop_check {l : List V} (h : ∀ v ∈ l, v.check = 0) : ∀ v ∈ l.dropLast, v.check = 0 := fun v hv => h v (List.dropLast_subset l hv)
def StepOk (x : Fm) : Except End Fm → Prop
  | .ok y => Fi y ∧ y.left ≤ x.left ∧ y.s.es.length + y.left ≤ x.s.es.length + x.left + 1
  | .error e => Inv e.2.2 ∧ e.2.1 ≤ x.left ∧ e.2.2.es.length + e.2.1 ≤ x.s.es.length + x.left + 1
theorem put_ok {x : Fm} {st : List V} {o : Out} (h : Fine1 x.s x.left o) (hst : ∀ v ∈ st, v.check = 0) (hnm : ∀ v ∈ x.nm, v.check = 0) : StepOk x (putO x.pc st x.nm o) := by
  unfold putO
  cases e : o.got with
  | ok v =>
    refine ⟨⟨h.inv, fun u hu => ?_, hnm⟩, h.left, h.log⟩
    rcases List.mem_append.1 hu with hu | hu
    · exact hst u hu
    · simp at hu; rw [hu]; exact h.val v e
  | error c => exact ⟨h.inv, h.left, h.log⟩
theorem step_fi {ms : Mods} {fr : Nat} {p : Int} {arg : V} {i : Ex.Ik} {x : Fm} (ha : arg.check = 0) (h : Fi x) : StepOk x (stepI (CallF ms) ms fr p arg i x) := by
  unfold stepI
  by_cases h0 : i.op = 100
  · rw [if_pos h0]
    split
    · exact ⟨h.inv, Nat.zero_le _, by simp only; omega⟩
    · exact ⟨⟨h.inv, h.st, h.nm⟩, by simp only; omega, by simp only; omega⟩
  rw [if_neg h0]
  by_cases h1 : i.op = 101
  · rw [if_pos h1]
    refine ⟨⟨h.inv, drop_check h.st, fun v hv => ?_⟩, Nat.le_refl _, Nat.le_succ _⟩
    rcases List.mem_append.1 hv with hv | hv
    · exact h.nm v hv
    · rw [List.mem_singleton.1 hv]; exact last_check h.st
  rw [if_neg h1]
  by_cases h2 : i.op = 102
  · rw [if_pos h2]; exact ⟨⟨h.inv, h.st, drop_check h.nm⟩, Nat.le_refl _, Nat.le_succ _⟩
  rw [if_neg h2]
  by_cases h3 : i.op = 103
  · rw [if_pos h3]
    split
    · exact ⟨⟨h.inv, drop_check h.st, h.nm⟩, Nat.le_refl _, Nat.le_succ _⟩
    · exact ⟨h.inv, Nat.le_refl _, Nat.le_succ _⟩
  rw [if_neg h3]
  by_cases h4 : i.op = 104
  · rw [if_pos h4]; exact ⟨⟨h.inv, h.st, h.nm⟩, Nat.le_refl _, Nat.le_succ _⟩
  rw [if_neg h4]
  split
  · exact put_ok (fine_none h.inv _ _ _ _ _ ha _ h.nm _).one h.st h.nm
  · split
    · exact put_ok (fine_one (callF_ok ms) h.inv _ _ _ _ _ (last_check h.st) _) (drop_check h.st) h.nm
    · exact put_ok (fine_two (callF_ok ms) h.inv _ _ _ _ _ _ _ (last_check h.st) _) (drop_check (drop_check h.st)) h.nm
end Go.Proofs.YtkpckmcaeljocaaGreat
