/- Parts. -/
import Derived.Test.YtpeakfcbihoknaaGreatDoorCards
import Derived.Test.YtpeakfcbihoknaaGreatDoorTie
import Derived.Test.YtpeakfcbihoknaaGreatDoorUV11
import Derived.ShutString
import Derived.LaidMore
import Derived.Deep.DeepHandedRow
import Derived.Stop.LaidErr
open Go.ChangeShapes Go.WideShapes Go.ChangeAt Go.RowKit
namespace Go.Proofs.YtpeakfcbihoknaaGreatDoor
open Proofs.Tryz
namespace Dk
theorem own:ownKnob prog.godebug=none:=by kernel_rfl
theorem KN:laidOutB prog=true:=by kernel_rfl
theorem Yu:prog.globalNamed "internal/strconv.uint64pow10" =some 1:=by kernel_rfl
theorem QS:(prog.globals[1]?).map (·.type)=some 216:=by kernel_rfl
theorem Tj:prog.cellsOf 216=20:=by kernel_rfl
theorem U7:prog.cellsOf 178=1:=by kernel_rfl
theorem Ym:prog.globalNamed "strconv.ErrSyntax" =some 2:=by kernel_rfl
theorem P7:(prog.globals[2]?).map (·.type)=some 119:=by kernel_rfl
theorem Yn:prog.globalNamed "strconv.ErrRange" =some 3:=by kernel_rfl
theorem Rx:(prog.globals[3]?).map (·.type)=some 119:=by kernel_rfl
theorem Q8:prog.cellsOf 261=1:=by kernel_rfl
theorem XN: "*" ++ "errors.errorString" = "*errors.errorString" :=by decide
theorem Xg(u:TypeId)(h:prog.typeName? 3 u=some "*errors.errorString"):u=259:=
 typeName_ptr_named (nm:= "errors.errorString") (by rw[XN];kernel_rfl) (by kernel_rfl) (by decide) u (by rw[XN];exact h)
theorem laid{W:World}(h:laidMetH prog Rows.deskJoinsRow.laid W):Ex.Laid W:=by
 rw[MakeChecks.laidMetH_plain _ _ _ (by kernel_rfl)]at h;have h3:=h.tail.tail.tail.tail;obtain⟨ar,_,hr,_⟩:=laid_sentinel h3 Yn Rx underlying119 Xg underlying259 underlying261 rfl rfl underlying9 Q8 jS;obtain⟨ay,_,hs,_⟩:=laid_sentinel h3.tail Ym P7 underlying119 Xg underlying259 underlying261 rfl rfl underlying9 Q8 jS;obtain⟨ps,⟨g,t,cs,fuel,p,q,hg,ht,hv,hd,_,_⟩,_⟩:=h.tail.tail;obtain rfl:=eu (Yu.symm.trans hg);obtain rfl:=eu (QS.symm.trans ht);refine⟨?_,⟨_,_,hs⟩,⟨_,_,hr⟩⟩;unfold Lib.TabIs;rw[hv,<-Lib.cells_of_tab (zs:=Lib.pow10Tab) underlying216 underlying178 U7 Tj hd]
theorem U0:(prog.globals[8]?).map (·.type)=some 352:=by kernel_rfl
theorem Ww:(prog.globals[9]?).map (·.type)=some 353:=by kernel_rfl
theorem U3:prog.cellsOf 352=22:=by kernel_rfl
theorem TK:prog.cellsOf 353=6:=by kernel_rfl
theorem OH:(Rows.laid_letterlock_parse_words:DataW Unit)= .agg (([]::Ex.Zf).map fun z=> .lit (.string z)):=by kernel_rfl
theorem Rv:(Rows.laid_letterlock_parse_bins:DataW Unit)= .agg (([]::Ex.Zo).map fun z=> .lit (.string z)):=by kernel_rfl
theorem wds{W:World}(h:laidMetH prog Rows.deskJoinsRow.laid W):Ex.Wds W:=by
 rw[MakeChecks.laidMetH_plain _ _ _ (by kernel_rfl)]at h;have h5:=h.tail.tail.tail.tail.tail.tail;constructor;obtain⟨ps,⟨g,t,cs,fuel,p,q,hg,ht,hv,hd,_,_⟩,_⟩:=h5;obtain rfl:=eu (Ex.vR.symm.trans hg);obtain rfl:=eu (U0.symm.trans ht);have hd2:DataW.trod _ prog _ _ _ _ _ _ _=some (Rows.laid_letterlock_parse_words,_):=hd;rw[OH]at hd2;rw[hv,<-Ex.aam (zs:=[]::Ex.Zf) underlying352 underlying9 jS U3 hd2];obtain⟨ps,⟨g,t,cs,fuel,p,q,hg,ht,hv,hd,_,_⟩,_⟩:=h5.tail;obtain rfl:=eu (Ex.vW.symm.trans hg);obtain rfl:=eu (Ww.symm.trans ht);have hd2:DataW.trod _ prog _ _ _ _ _ _ _=some (Rows.laid_letterlock_parse_bins,_):=hd;rw[Rv]at hd2;rw[hv,<-Ex.aam (zs:=[]::Ex.Zo) underlying353 underlying9 jS TK hd2]
theorem lz{W:World}(h:laidMetH prog Rows.deskJoinsRow.laid W):Lz W.heap.size W:=fun _ hb=>⟨(laid h).low hb,(wds h).low hb⟩
set_option maxRecDepth 100000 in
theorem Pq(H:Type)(enc:TypeId×Value->H)(W:World)(base:Nat)(args:Array Value)(ds gs:List (DataW H))(before:List MemPlace)
 (hval:∀(j:Nat) t v,Tryz.f4.params[j]?=some t->args[j]?=some v->Value.okWide prog W .any base t v)
 (hW:DataW.Whole enc prog Tryz.f4.params.toList Rows.deskJoinsSpec.vars false W args.toList ds gs before) (hz:(DataW.weightsEach prog (Tryz.f4.params.toList++Rows.deskJoinsSpec.plain.varTypes prog) (ds++gs)).all (· <=reachBytes)=true) (hL:laidMetH prog Rows.deskJoinsRow.laid W):
 Calls prog 4 args W fun e W'=>∃v,e= .returned v/\Rows.deskJoinsSpec.post enc prog Tryz.f4 false true false false W args v W':=by
 have hW':=hW;obtain⟨p,q,hA0,hV,rfl,hfz,hnd⟩:=hW;have hA:DataW.TrodAll enc prog W 0 (fun _=>true) true Tryz.f4.params.toList args.toList ds p:=hA0;rw[params4]at hA hval hz;obtain⟨v0,vs0,d0,ds0,p0,q0,hargs,rfl,rfl,h0,r0⟩:=trodAll_cons hA;obtain⟨v1,vs1,d1,ds1,p1,q1,rfl,rfl,rfl,h1,r1⟩:=trodAll_cons r0;obtain⟨rfl,rfl,rfl⟩:=trodAll_nil r1;obtain rfl:args= #[v0,v1]:=by cases args;simp_all
 obtain⟨rfl,rfl⟩:=trodVars_none hV;have h0k:=h0;have h1k:=h1;obtain⟨sa,sl,sc,rfl⟩:=okWide_slice jB (hval 0 22 v0 rfl rfl);obtain⟨hcap,hno,l,hl,hS,hlen⟩:=N9 h0 fun k hk=>by
  have:=List.all_eq_true.1 hz _ (DataW.weights_mem_each (j:=0) rfl rfl k hk);simpa using this
 subst hl;obtain⟨n1,rfl,_,_,_⟩:=open_int underlying3 (hval 1 3 v1 rfl rfl) h1;clear hA0;simp only[dC]at hW';have hlt:∀x∈p0++p1,x.block<W.heap.size:=fun x hx=>by simpa using hW'.lt x (by simpa using hx)
 refine(Sj W l sa sc n1 hS hcap hno hlen (lz hL)).mono fun e W' ⟨he,hq⟩=> ?_;subst he;have hg:Below W.heap.size W W':=hq.below (aj _) fun _ e=>e.elim;exact⟨_,rfl,_,_,_,[],p0++(p1++[]),[],hW',trodAll_cons_mk (shut_bool underlying4 _) trodAll_mk0,trodAll_cons_mk (Below.trod KN (by kernel_rfl) (of_decide_eq_true (by kernel_rfl)) h0k hg fun y hy=>hlt y (by simp[hy])) (trodAll_cons_mk (Below.trod KN (by kernel_rfl) (of_decide_eq_true (by kernel_rfl)) h1k hg fun y hy=>hlt y (by simp[hy])) trodAll_mk0),rfl,hg.frame _,fun h=>by cases h⟩
def YH(d:DataW Unit):Value:=match d with
 | .lit (.int k n)=> .int k n
 |_=>undef
def WA:Array Value:=(match(Go.Pinned.utf8First:DataW Unit)with
 | .agg l=>l.map YH
 |_=>[]).toArray
def VY(w:World):World:={w with heap:=w.heap.modify 4 fun
 | .cells _ t f=> .cells WA t f
 |o=>o}
theorem RV(os:Os):laidMet prog Rows.deskJoinsRow.laid ((VY (World.doorLaid prog 400 os)).forCall (fun _ _=>0) ⟨#[],#[.slice none 0 0,.int .i64 0],[]⟩).memory:=
 laidMet_of_run' 8 (by kernel_rfl) (by kernel_rfl)
theorem Xn(os:Os){H:Type}(enc:TypeId×Value->H):∃places,DataW.whole enc prog ((VY (World.doorLaid prog 400 os)).forCall (fun _ _=>0) ⟨#[],#[.slice none 0 0,.int .i64 0],[]⟩).memory Tryz.f4.params.toList Rows.deskJoinsSpec.vars false (#[.slice none 0 0,.int .i64 0]:Array Value).toList 8=some ([.nil,.lit (.int .i64 0)],[],places):=
 ⟨[],by kernel_rfl⟩
set_option maxRecDepth 100000 in
theorem WV(os:Os)(started:os.Started)(H:Type)(enc:TypeId×Value->H)(F:Stop.Interp):
 ReturnsInHanded {} Tryz.checked os 4 .any ((OpenSpec.ofChange Rows.deskJoinsSpec).preRow enc prog Tryz.f4 Rows.deskJoinsRow.domain false Rows.deskJoinsRow.laid) (((OpenSpec.ofChange Rows.deskJoinsSpec).at F).post enc prog Tryz.f4 false true false false):=by
 obtain⟨places,hx⟩:=Xn os enc;refine returnsInHanded_of_row (C:=Tryz.checked) (s:=OpenSpec.ofChange Rows.deskJoinsSpec) own started (by kernel_rfl) func4
  (witness_row_at (enc:=enc) (C:=Tryz.checked) false (VY (World.doorLaid prog 400 os)) #[.slice none 0 0,.int .i64 0] rfl (by kernel_rfl) (by kernel_rfl) (by kernel_rfl)
    (OpenSpec.preRow_of_cond 8 hx (by kernel_rfl) (fun k hk=>by cases hk) (by kernel_rfl) (RV os))) ?_
 intro W base args ds gs before hval hW _ _ hz hL _ _;exact Pq H enc W base args ds gs before hval hW hz hL
