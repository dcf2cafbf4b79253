/- The elder words for what lies in memory. -/
import Derived.Test.YtekkecnhnaejlabDoorTell4
import Derived.Test.YtekkecnhnaejlabDoorRefOwn
import Derived.Test.YtekkecnhnaejlabDoorRefSize
namespace Go.Proofs.YtekkecnhnaejlabDoor
open Go.ChangeShapes Go.WideShapes Go.ChangeAt Go.RowKit
theorem Is.get3 {w : World} {v : V} {ao : Option Addr} (h : Is w v ao) (i : Nat) (hi : i < v.l.length) :
    ∃ b off, ao = some ⟨b, off, none⟩ ∧ w.cell? ⟨b, off + i * 3, none⟩ = some (.int .i64 v.l[i].kind) ∧ w.cell? ⟨b, off + i * 3 + 1, none⟩ = some (.int .i64 v.l[i].n) ∧ ∃ ai cap, w.cell? ⟨b, off + i * 3 + 2, none⟩ = some (.slice ai v.l[i].l.length cap) ∧ Is w v.l[i] ai := by
  obtain ⟨b, off, e, hh, ai, ci, cs, hI⟩ := h.get i hi
  exact ⟨b, off, e, hh.1, hh.2, ai, ci, cs, hI⟩
theorem at_iff3 (w : World) (v : V) (b off : Nat) : v.at w b off ↔ w.cell? ⟨b, off, none⟩ = some (.int .i64 v.kind) ∧ w.cell? ⟨b, off + 1, none⟩ = some (.int .i64 v.n) ∧ ∃ ao cap, w.cell? ⟨b, off + 2, none⟩ = some (.slice ao v.l.length cap) ∧ Is w v ao := by
  rw [at_iff]
  exact ⟨fun h => ⟨h.1.1, h.1.2, h.2⟩, fun h => ⟨⟨h.1, h.2.1⟩, h.2.2⟩⟩
theorem Is.leaf3 (w : World) (k n : Int) (hk : In64 k) (hn : In64 n) (ao : Option Addr) : Is w ⟨k, n, []⟩ ao := Is.leaf w ⟨k, n, []⟩ ⟨hk, hn⟩ rfl ao
theorem ownR5 (v : V) (ao : Option Addr) (cap : Nat) (w : World) (hI : Is w v ao) (hS : v.size ≤ 500) :
    Calls Tryd.prog 8 #[.agg #[.int .i64 v.kind, .int .i64 v.n, .slice ao v.l.length cap]] w fun e w' => ∃ ao' cap', e = .returned (.agg #[.int .i64 v.kind, .int .i64 v.n, .slice ao' v.l.length cap']) ∧ Hold w.heap.size none w' v ao' ∧ Quiet w w' := ownR_any v ao cap w hI (by omega)
end Go.Proofs.YtekkecnhnaejlabDoor
