/- Parts. -/
import Derived.Test.YtkpckmcaeljocaaGreatUVmAsk2
import Derived.Test.YtkpckmcaeljocaaGreatUVmAsk3
import Derived.Test.YtkpckmcaeljocaaGreatUVmAsk4
namespace Go.Proofs.YtkpckmcaeljocaaGreat
open Go.ChangeShapes Go.WideShapes Go.ChangeAt Go.RowKit
open Gr (Nd Res nd0 thereB deriveOf addOf gateOf cutOf rightsN wayOf gatesOf gatesW targetOf Wf NdOk GS IntsAt)
theorem xask_any {M : Mx} {X : Nat → Prop} {q : Vs} {s : Sg} {left fr : Nat} {w : World} {v : V} {va : Option Addr} {vc : Nat} {n : Int} (H : MS M X q s left fr w) (hfr : fr ≤ 20) (hC : fr < 20 → CallC M fr) (hv : v.check = 0) (hes : s.es.length + left ≤ 902000) (hI : SafeF (fun k => M.own q k ∨ X k) (fun w => Is w v va) w) :
    Calls Tryz.prog 167 #[.pointer (some ⟨M.mb, 0, none⟩), .int .i64 n, .agg #[.int .i64 v.kind, .int .i64 v.n, .slice va v.l.length vc]] w fun e w' => MQ M X q fr (askR (CallF M.ms) M.ms fr (capV n) v left s) w e w' := by
  have hS : v.size ≤ 500 := by have := check_size hv; omega
  unfold askR
  rw [if_pos (show (capV n).kind = 4 from rfl), show (capV n).n = n from rfl]
  cases hr : (rightsN s.ns s.os n).testBit 3 with
  | false => rw [if_neg (by simp)]; exact xask_right H hr
  | true =>
    rw [if_pos rfl]
    by_cases hp : (targetOf s.ns n).plugin < 0
    · rw [if_pos hp]; exact xask_kind H hr hp
    · rw [if_neg hp]
      cases hf : (funOf M.ms (targetOf s.ns n).plugin (targetOf s.ns n).func).isSome with
      | false =>
        have hn : (funOf M.ms (targetOf s.ns n).plugin (targetOf s.ns n).func).isNone = true := by
          cases h : funOf M.ms (targetOf s.ns n).plugin (targetOf s.ns n).func with
          | none => rfl
          | some x => rw [h] at hf; cases hf
        rw [if_pos hn]; exact xask_none H hr hp hf
      | true =>
        have hn : ¬ (funOf M.ms (targetOf s.ns n).plugin (targetOf s.ns n).func).isNone = true := by
          cases h : funOf M.ms (targetOf s.ns n).plugin (targetOf s.ns n).func with
          | none => rw [h] at hf; cases hf
          | some x => simp
        rw [if_neg hn]
        by_cases h20 : fr = 20
        · rw [if_pos h20]; exact xask_deep H hr hp hf (by omega)
        · rw [if_neg h20]
          have hlt : (fr : Int) < 20 := by omega
          cases hg : (crossR v (gatesOf s.ns n) left s).got with
          | error c =>
            have e : ((crossR v (gatesOf s.ns n) left s).then fun x left' s' => (CallF M.ms fr (targetOf s.ns n).plugin (targetOf s.ns n).func x left' s').then fun y left2 s2 => crossR y (gatesOf s.ns n) left2 s2) = crossR v (gatesOf s.ns n) left s := by unfold Out.then; rw [hg]
            rw [e]
            exact xask_e1 H hr hp hf hlt hS hI hg
          | ok x =>
            cases hcg : (CallF M.ms fr (targetOf s.ns n).plugin (targetOf s.ns n).func x (crossR v (gatesOf s.ns n) left s).left (crossR v (gatesOf s.ns n) left s).s).got with
            | error c => exact xask_e2 H hr hp hf hlt hS hI (hC (by omega)) hes hg hcg
            | ok y => exact xask_e3 H hr hp hf hlt hS hI (hC (by omega)) hes hg hcg
end Go.Proofs.YtkpckmcaeljocaaGreat
