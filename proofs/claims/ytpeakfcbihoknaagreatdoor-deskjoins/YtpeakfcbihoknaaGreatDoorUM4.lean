/- Parts. -/
import Derived.Test.YtpeakfcbihoknaaGreatDoorUVmAsk2
import Derived.Test.YtpeakfcbihoknaaGreatDoorUVmAsk3
import Derived.Test.YtpeakfcbihoknaaGreatDoorUVmAsk4
open Go.ChangeShapes Go.WideShapes Go.ChangeAt Go.RowKit
namespace Go.Proofs.YtpeakfcbihoknaaGreatDoor
open Proofs.Tryz
open Gr (Nd ZH nd0 YT aS dJ bJ dV bS Y0 bN eX YS Wf jg GS fJ)
theorem G8{M:Mx}{X:Nat->Prop}{q:Vs}{s:Sg}{left fr:Nat}{w:World}{v:V}{va:Option Addr}{vc:Nat}{n:Int}(H:MS M X q s left fr w)(hfr:fr<=20)(hC:fr<20->qy M fr)(hv:v.check=0)(hes:s.es.length+left<=902000)(hI:bu (fun k=>M.own q k\/X k) (fun w=>Is w v va) w):
 Calls prog 300 #[.pointer (some ⟨M.mb,0,none⟩),.int .i64 n,.agg #[.int .i64 v.kind,.int .i64 v.n,.slice va v.l.length vc]] w fun e w'=>MQ M X q fr (mU (cO M.ms) M.ms fr (iw n) v left s) w e w':=by
 have hS:v.size<=500:=by have:=fV hv;omega
 unfold mU;rw[ag (show(iw n).kind=4 from rfl),show(iw n).n=n from rfl];cases hr:(bS s.ns s.os n).testBit 3 with
 |false=>rw[af (by simp)];exact JM H hr
 |true=>
  rw[ag rfl];by_cases hp:(YS s.ns n).plugin<0;rw[ag hp];exact MR H hr hp
  ·rw[af hp];cases hf:(iD M.ms (YS s.ns n).plugin (YS s.ns n).func).isSome with
   |false=>
    have hn:(iD M.ms (YS s.ns n).plugin (YS s.ns n).func).isNone=true:=by
     cases h:iD M.ms (YS s.ns n).plugin (YS s.ns n).func with
     |none=>rfl
     |some x=>rw[h]at hf;cases hf
    rw[ag hn];exact OC H hr hp hf
   |true=>
    have hn:¬(iD M.ms (YS s.ns n).plugin (YS s.ns n).func).isNone=true:=by
     cases h:iD M.ms (YS s.ns n).plugin (YS s.ns n).func with
     |none=>rw[h]at hf;cases hf
     |some x=>simp
    rw[af hn];by_cases h20:fr=20;rw[ag h20];exact L8 H hr hp hf (by omega)
    ·rw[af h20];have hlt:(fr:Int)<20:=(by omega);cases hg:(fB v (bN s.ns n) left s).got with
     |error c=>
      have e:((fB v (bN s.ns n) left s).then fun x left' s'=>(cO M.ms fr (YS s.ns n).plugin (YS s.ns n).func x left' s').then fun y ZO s2=>fB y (bN s.ns n) ZO s2)=fB v (bN s.ns n) left s:=(by unfold Out.then;rw[hg]);rw[e];exact Uu H hr hp hf hlt hS hI hg
     |ok x=>
      cases hcg:(cO M.ms fr (YS s.ns n).plugin (YS s.ns n).func x (fB v (bN s.ns n) left s).left (fB v (bN s.ns n) left s).s).got with
      |error c=>exact Ut H hr hp hf hlt hS hI (hC (by omega)) hes hg hcg
      |ok y=>exact TM H hr hp hf hlt hS hI (hC (by omega)) hes hg hcg
