/- A thing in memory of its own: it hangs on new blocks alone, none of them marked; a row of things. -/
import Derived.Test.YtjcniiojcigefadKit
namespace Go.Proofs.Ytjcniiojcigefad
open Go.ChangeShapes Go.WideShapes Go.ChangeAt Go.RowKit
/-- It is there in whatever world has the blocks from lo on that are not marked (but one, perhaps) as they are here. -/
def Hold (lo : Nat) (row : Option Nat) (w : World) (v : V) (ao : Option Addr) : Prop :=
  ∀ w' : World, (∀ k c t, lo ≤ k → row ≠ some k → w.heap[k]? = some (.cells c t (0, 0)) → w'.heap[k]? = some (.cells c t (0, 0))) → Is w' v ao
theorem Hold.is {lo : Nat} {row : Option Nat} {w : World} {v : V} {ao : Option Addr} (h : Hold lo row w v ao) : Is w v ao := h w fun _ _ _ _ _ h => h
theorem Hold.step {lo : Nat} {row row' : Option Nat} {w w' : World} {v : V} {ao : Option Addr} (h : Hold lo row w v ao) (hk : ∀ k, lo ≤ k → k < w.heap.size → row ≠ some k → w'.heap[k]? = w.heap[k]?)
    (hr : row' = row ∨ ∃ g, row' = some g ∧ w.heap.size ≤ g) : Hold lo row' w' v ao := by
  intro w2 h2
  refine h w2 fun k c t h1 h4 hc => h2 k c t h1 ?_ ((hk k h1 (lt_of_block hc) h4).trans hc)
  rcases hr with rfl | ⟨g, rfl, hg⟩
  · exact h4
  · intro e; simp at e; have := lt_of_block hc; omega
theorem Hold.drew {lo : Nat} {row : Option Nat} {w : World} {v : V} {ao : Option Addr} (h : Hold lo row w v ao) : Hold lo row w.drew v ao := h
/-- A thing and where its list lies. -/
abbrev Kd := V × Option Addr × Nat
def tri (p : Kd) : List Value := [.int .i64 p.1.kind, .int .i64 p.1.k, .int .i64 p.1.n, .slice p.2.1 p.1.l.length p.2.2]
def tris (ps : List Kd) : List Value := ps.flatMap tri
theorem tris_len (ps : List Kd) : (tris ps).length = ps.length * 4 := by
  induction ps with
  | nil => rfl
  | cons p ps ih => simp only [tris, List.flatMap_cons, List.length_append] at ih ⊢; rw [ih]; simp [tri]; omega
theorem tris_app (a b : List Kd) : tris (a ++ b) = tris a ++ tris b := by simp [tris]
theorem tris_one (p : Kd) : tris [p] = tri p := by simp [tris]
theorem tris_at (ps : List Kd) (k j : Nat) (hk : k < ps.length) (hj : j < 4) : (tris ps)[k * 4 + j]? = (tri ps[k])[j]? := by
  induction ps generalizing k with
  | nil => simp at hk
  | cons e es ih =>
    cases k with
    | zero => simp only [tris, List.flatMap_cons]; rw [List.getElem?_append_left (by simp [tri]; omega)]; simp
    | succ k =>
      simp only [tris, List.flatMap_cons]
      rw [List.getElem?_append_right (by simp [tri]; omega)]
      have := ih k (by simpa using hk)
      simp only [tris] at this
      rw [show (k + 1) * 4 + j - (tri e).length = k * 4 + j by simp [tri]; omega, this]
      simp
theorem tri_one (p : Kd) : ∀ u ∈ tri p, u.oneCell' = true := by
  intro u hu
  simp only [tri, List.mem_cons, List.not_mem_nil, or_false] at hu
  rcases hu with rfl | rfl | rfl | rfl <;> rfl
theorem tris_onec (ps : List Kd) : ∀ u ∈ tris ps, u.oneCell' = true := by
  intro u hu
  simp only [tris, List.mem_flatMap] at hu
  obtain ⟨e, _, he⟩ := hu
  exact tri_one e u he
/-- A thing's cells in a row are the thing's. -/
theorem tri_at {w : World} {g off : Nat} {p : Kd} (c : ∀ j, j < 4 → w.cell? ⟨g, off + j, none⟩ = (tri p)[j]?) (hp : Is w p.1 p.2.1) : p.1.at w g off := by
  rw [at_iff]
  exact ⟨⟨c 0 (by decide), c 1 (by decide), c 2 (by decide)⟩, _, _, c 3 (by decide), hp⟩
/-- A row of things, each of which is there. -/
theorem fo_row {w : World} {B : Nat} {ao : Option Addr} {n cap : Nat} {ps : List Kd} (h : w.ownsRow B 38 4 (.slice ao n cap) n (tris ps)) (hn : n = ps.length) (hp : ∀ p ∈ ps, Is w p.1 p.2.1) : Fo w (ps.map (·.1)) ao := by
  subst hn
  intro i hi
  have hi' : i < ps.length := by simpa using hi
  obtain ⟨g, rfl, d⟩ := owns_at h (by omega)
  refine ⟨g, 0, rfl, ?_⟩
  have e : (ps.map (·.1))[i] = ps[i].1 := by simp
  rw [e, Nat.zero_add]
  exact tri_at (fun j hj => by rw [d _ (by omega), tris_at ps i j hi' hj]) (hp _ (List.getElem_mem hi'))
/-- Several in memory of their own. -/
def HoldL (lo : Nat) (w : World) (l : List V) (ao : Option Addr) : Prop :=
  ∀ w' : World, (∀ k c t, lo ≤ k → w.heap[k]? = some (.cells c t (0, 0)) → w'.heap[k]? = some (.cells c t (0, 0))) → Fo w' l ao
theorem HoldL.fo {lo : Nat} {w : World} {l : List V} {ao : Option Addr} (h : HoldL lo w l ao) : Fo w l ao := h w fun _ _ _ _ h => h
theorem hold_rows {lo B : Nat} {w : World} {ao : Option Addr} {m cap : Nat} {ps : List Kd} (h : w.ownsRow B 38 4 (.slice ao m cap) m (tris ps)) (hm : m = ps.length) (hB : lo ≤ B) (hp : ∀ p ∈ ps, Hold lo (Value.slice ao m cap).ownBlock w p.1 p.2.1) :
    HoldL lo w (ps.map (·.1)) ao := by
  intro w2 h2
  refine fo_row (w := w2) (B := B) (n := m) (cap := cap) ?_ hm fun p hp' => hp p hp' w2 fun k c t h1 _ hc => h2 k c t h1 hc
  refine ⟨h.1, ?_⟩
  rcases h.2 with hn | ⟨g, cap', cur, e, hb, hg, rest⟩
  · exact .inl hn
  · exact .inr ⟨g, cap', cur, e, hb, h2 g _ _ (by omega) hg, rest⟩
theorem hold_row {lo B : Nat} {w : World} {ao : Option Addr} {v : V} {m cap : Nat} {ps : List Kd} (hf : v.fits) (hv : ps.map (·.1) = v.l) (h : w.ownsRow B 38 4 (.slice ao m cap) m (tris ps)) (hm : m = ps.length) (hB : lo ≤ B) (hp : ∀ p ∈ ps, Hold lo (Value.slice ao m cap).ownBlock w p.1 p.2.1) :
    Hold lo none w v ao := by
  intro w2 h2
  exact ⟨hf, hv ▸ hold_rows h hm hB hp w2 fun k c t h1 hc => h2 k c t h1 (by simp) hc⟩
end Go.Proofs.Ytjcniiojcigefad
