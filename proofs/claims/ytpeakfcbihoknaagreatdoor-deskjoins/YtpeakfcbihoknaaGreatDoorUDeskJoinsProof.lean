/- Proved: for every list l of lines and every number cut, letterlocklaw.DeskJoins returns true: what lines tell one behind the other they tell together; what was asked again is told again; two desks know nothing of each other.
  No condition beyond the row's own; the listed tables and errors are tied to the program's text by the given tie. -/
import Derived.Test.YtpeakfcbihoknaaGreatDoorUDFrame
namespace Go.Proofs.YtpeakfcbihoknaaGreatDoor.Dk
open Proofs.Tryz
open Go.ChangeShapes Go.WideShapes Go.ChangeAt Go.RowKit
theorem YF:(Rows.deskJoinsRow.inPlace==Tryz.pinned.checked.prog.inPlace 4)=true:=by kernel_rfl
theorem Yi:(Rows.deskJoinsRow.unfollowed==Tryz.pinned.checked.prog.unfollowed 4)=true:=by kernel_rfl
theorem YJ:(Rows.deskJoinsRow.recurses==Tryz.pinned.checked.prog.recurses 4)=true:=by kernel_rfl
theorem Yq:(Rows.deskJoinsRow.named==Tryz.pinned.checked.prog.varsNamed 4)=true:=by kernel_rfl
theorem V4:joinedFacts Tryz.pinned.checked.prog 4 Tryz.f4 (OpenSpec.ofChange Rows.deskJoinsSpec).bare Rows.deskJoinsRow=true:=by
 unfold joinedFacts;rw[YF,Yi,YJ,Yq]
 kernel_rfl
theorem Yt:Rows.DeskJoinsSaid:=
 OpenClaim.holds_of_cond 4 Tryz.f4 rfl rfl rfl rfl rfl rfl rfl ⟨rfl,rfl,rfl,rfl,rfl⟩ rfl rfl rfl rfl rfl (by kernel_rfl) func4 V4
  (of_decide_eq_true (by kernel_rfl)) (by unfold Func.isWrapper;first|(rw[ag (by decide+kernel)];kernel_rfl)|(rw[af (by decide+kernel)];exact⟨rfl,rfl⟩))
  (fun os started H enc _ F=>by rw[OpenClaim.pre_eq_preRow];exact WV os started H enc F)
theorem plain(f:FuncId)(fn:Func)(hf:Tryz.pinned.checked.prog.funcNamed "letterlock/letterlocklaw.DeskJoins" =some f)(hfn:Tryz.pinned.checked.prog.funcs[f]?=some fn):
 true=Tryz.pinned.checked.prog.looks []/\∀(j:Nat) t,fn.params[j]?=some t->Tryz.pinned.checked.prog.wantsStandIn t=false:=by
 obtain rfl:f=4:=eu ((show prog.funcNamed "letterlock/letterlocklaw.DeskJoins" =some 4 by kernel_rfl).symm.trans hf)|>.symm;obtain rfl:fn=Tryz.f4:=(eu (func4.symm.trans hfn)).symm;refine⟨by kernel_rfl,fun j t ht=> ?_⟩;rw[params4]at ht;have ht2:t=22\/t=3:=by simpa using Array.mem_of_getElem? ht
 rcases ht2 with rfl|rfl;exact(show prog.wantsStandIn 22=false by kernel_rfl);exact(show prog.wantsStandIn 3=false by kernel_rfl)
theorem card:Rows.DeskJoinsCardSaid:=
 Claim7.holds_tied_plain_at .later [] _ _ _ _ Yt (fun _ h=>by cases h) (by kernel_rfl) (fun _ h=>by cases h) deskJoins_row_tie rfl ⟨rfl,rfl⟩ (by kernel_rfl) rfl plain (by kernel_rfl)
#print axioms card
end Go.Proofs.YtpeakfcbihoknaaGreatDoor.Dk
namespace Go.Proofs.YtpeakfcbihoknaaGreatDoor
open Proofs.Tryz
theorem deskJoins_holds:Rows.DeskJoinsCardSaid:=Dk.card
end Go.Proofs.YtpeakfcbihoknaaGreatDoor
