/- Parts. -/
import Derived.Test.YtpeakfcbihoknaaGreatDoorUV4
import Derived.RegionDies
import Derived.Defers
import Derived.Recover
open Go.ChangeShapes Go.WideShapes Go.ChangeAt Go.RowKit
set_option maxRecDepth 8000
set_option maxHeartbeats 8000000
namespace Go.Proofs.YtpeakfcbihoknaaGreatDoor
open Proofs.Tryz
open Gr (Nd ZH nd0 YT aS dJ bS Y0 bN eX YS Wf jg GS Goes ZL Own fJ fO bJ)
theorem RU{w:World}{B n cap:Nat}{ao:Option Addr}{l:List Int}(h:w.ownsRow B 3 1 (.slice ao n cap) n (rX l))(hn:l.length=n)(k:Nat)(hk:k<n):∃g,ao=some ⟨g,0,none⟩/\w.cell? ⟨g,k,none⟩=some (.int .i64 (l.getD k 0)):=by
 obtain⟨g,e,d⟩:=Zc h (by omega);refine⟨g,e, ?_⟩;rw[d k (by omega)];simp[rX,show k<l.length by omega]
def yU(ns:List Nd)(os:List Bool)(l:List Int):Bool:=l.all fun c=>(bS ns os c).testBit 2
theorem Jg(ns:List Nd)(os:List Bool)(l:List Int)(k:Nat)(hk:k<l.length):yU ns os (l.take (k+1))=(yU ns os (l.take k)&&(bS ns os (l.getD k 0)).testBit 2):=by
 unfold yU;rw[iF l k hk,List.all_append];simp[hk]
theorem IM{ns:List Nd}{os:List Bool}{l:List Int}(k:Nat)(h:yU ns os (l.take k)=false):yU ns os l=false:=by
 unfold yU at h|-;rw[<-dS k l,List.all_append,h];rfl
def KU(t:TypeId)(B b:Nat)(vn vo:Value)(R:V×Int×List Nd)(ss:List Bool)(w:World)(e:Ending)(w':World):Prop:=
 ∃ao cap Y4 Y3,e= .returned (.tuple #[.agg #[.int .i64 R.1.kind,.int .i64 R.1.n,.slice ao R.1.l.length cap],.int .i64 R.2.1])/\bu (fun k=>Own b Y4 Y3 k\/k<w.heap.size) (fun w=>Is w R.1 ao) w'/\GS t B w' b Y4 Y3 R.2.2 ss/\Goes b vn vo w Y4 Y3 w'
theorem xy{t:TypeId}{B b:Nat}{vn vo Y4 Y3:Value}{x:V}{c:Int}{ns':List Nd}{R:V×Int×List Nd}{ss:List Bool}{w w':World}{e:Ending}(ao:Option Addr)(cap:Nat)(hR:R=(x,c,ns'))(he:e= .returned (.tuple #[.agg #[.int .i64 x.kind,.int .i64 x.n,.slice ao x.l.length cap],.int .i64 c]))
 (hs:bu (fun k=>Own b Y4 Y3 k\/k<w.heap.size) (fun w=>Is w x ao) w') (hg:GS t B w' b Y4 Y3 ns' ss) (go:Goes b vn vo w Y4 Y3 w'):KU t B b vn vo R ss w e w':=by
 subst hR;exact⟨ao,cap,Y4,Y3,he,hs,hg,go⟩
theorem dY{F:Nat->Prop}{w:World}(x:V)(hf:x.fits)(hl:x.l=[])(ao:Option Addr):bu F (fun w=>Is w x ao) w:=fun w' _=>Is.leaf w' x hf hl ao
theorem TI:dH 4:=⟨by decide,by decide⟩
theorem iR:v0.fits:=⟨⟨by decide,by decide⟩,⟨by decide,by decide⟩⟩
theorem dE(w:World)(x:Nat)(a b c:Value):Kp (fun k=>k=x) w (((w.setCell ⟨x,0,none⟩ a).setCell ⟨x,1,none⟩ b).setCell ⟨x,2,none⟩ c):=((bF w x 0 a).trans (bF _ x 1 b)).trans (bF _ x 2 c)
theorem bI{w:World}{x:Nat}{c:Array Value}{t:TypeId}(h:w.heap[x]?=some (.cells c t (0,0))):w.frozen? ⟨x,0,none⟩=false/\w.frozen? ⟨x,1,none⟩=false/\w.frozen? ⟨x,2,none⟩=false:=⟨aG w x 0 _ t h,aG w x 1 _ t h,aG w x 2 _ t h⟩
theorem jk(w:World)(o1 o2 o3:Obj):(((w.alloc o1).alloc o2).alloc o3).heap[w.heap.size]?=some o1/\(((w.alloc o1).alloc o2).alloc o3).heap[w.heap.size+1]?=some o2/\(((w.alloc o1).alloc o2).alloc o3).heap[w.heap.size+1+1]?=some o3:=by
 refine⟨?_, ?_, ?_⟩;rw[aB _ _ _ (by simp;omega),aB _ _ _ (by simp)];exact ah w o1;rw[aB _ _ _ (by simp)];exact Y2 w o1 o2;have:=Y2 (w.alloc o1) o2 o3;simpa using this
structure HS(t:TypeId)(B b:Nat)(ss:List Bool)(gs:List Int)(ns0:List Nd)(w:World)(vn vo:Value)(v:V)(ao:Option Addr)(cap j:Nat)(Y4 Y3:Value)(nsr:List Nd)(av:Option Addr)(n cv:Nat)(ps:List Kd)(wr:World):Prop where
 obj:GS t B wr b Y4 Y3 nsr ss
 goes:Goes b vn vo w Y4 Y3 wr
 b0:wr.heap[w.heap.size]?=some (.cells #[.int .i64 v.kind,.int .i64 v.n,.slice ao v.l.length cap] 71 (0,0))
 b1:wr.heap[w.heap.size+1]?=some (.cells #[.int .i64 0,.int .i64 0,.slice none 0 0] 71 (0,0))
 b2:wr.heap[w.heap.size+1+1]?=some (.cells #[.int .i64 v.kind,.int .i64 v.n,.slice av n cv] 71 (0,0))
 row:wr.ownsRow (w.heap.size+3) 71 3 (.slice av n cv) n (eB ps)
 len:n=ps.length
 all:∀p∈ps,bu (fun k=>Own b Y4 Y3 k\/k<w.heap.size+3\/(Value.slice av n cv).ownBlock=some k) (fun w=>Is w p.1 p.2.1) wr
 map:YY ss gs (v.l.take j) ns0=(ps.map (·.1),0,nsr)
theorem dZ{w:World}{a:Addr}{x:Value}(h:w.cell? a=some x)(o:Obj):(w.alloc o).cell? a=some x:=(Kp.alloc (F:=fun _=>False) w o).cell h fun e=>e
theorem wB{w:World}{B:Nat}{e:TypeId}{s n:Nat}{v:Value}{xs:List Value}(h:w.ownsRow B e s v n xs){k:Nat}(hk:v.ownBlock=some k):∃c,w.heap[k]?=some (.cells c e (0,0)):=by
 rcases h.2 with⟨rfl,_⟩|⟨g,cap,cur,rfl,_,hg,_⟩;simp[Value.ownBlock]at hk;simp[Value.ownBlock]at hk;subst hk;exact⟨cur,hg⟩
section
variable{B b:Nat}{ss:List Bool}{gs:List Int}{ns0:List Nd}{w:World}{vn vo:Value}{v:V}{ao:Option Addr}{cap j:Nat}{Y4 Y3:Value}{nsr:List Nd}{av:Option Addr}{n cv:Nat}{ps:List Kd}{wr:World}
end
theorem O0{ns:List Nd}{os:List Bool}{v:V}(h:lu ns os v=0):v.check=0:=by
 unfold lu at h;by_cases h1:v.check=0;exact h1;rw[af h1]at h;exact absurd h h1
theorem cu{F:Nat->Prop}{P:World->Prop}{w w':World}(h:bu F P w)(q:aA w w'):bu F P w':=h.step (q.mono fun _ _ e=>e.elim) fun _ _ e=>e
def Yy:Prop:=∀(B b:Nat)(os:List Bool)(v:V)(ao:Option Addr)(cap:Nat)(w:World)(vn vo:Value)(ns:List Nd),GS 184 B w b vn vo ns os->Wf ns os.length->Is w v ao->v.size<=500->
 Calls prog 316 #[.pointer (some ⟨b,0,none⟩),.agg #[.int .i64 v.kind,.int .i64 v.n,.slice ao v.l.length cap]] w fun e w'=>e= .returned (.int .i64 (lu ns os v))/\aA w w'
def Vl:Prop:=∀(B b:Nat)(os:List Bool)(gs:List Int)(v:V)(ao:Option Addr)(cap:Nat)(ga:Option Addr)(gc:Nat)(w:World)(vn vo:Value)(ns:List Nd),GS 184 B w b vn vo ns os->Wf ns os.length->v.size<=500->gs.length<=100->
 bu (Own b vn vo) (fun w=>Is w v ao) w->bu (Own b vn vo) (fun w=>fJ w ga gs) w->
 Calls prog 313 #[.pointer (some ⟨b,0,none⟩),.agg #[.int .i64 v.kind,.int .i64 v.n,.slice ao v.l.length cap],.slice ga gs.length gc] w fun e w'=>KU 184 B b vn vo (fK ns os gs v) os w e w'
theorem iP(z:Int)(h:0<=z/\z<=100):dH z:=⟨by omega,by omega⟩
def r9(c:Int):List PanicEntry:=[{v:= .iface 380 (.int .i64 c),recovered:=false}]
def KG(B b:Nat)(vn vo:Value)(R:Int×Int×List Nd)(os:List Bool)(w:World)(e:Ending)(w':World):Prop:=
 ∃Y4 Y3,e=(if R.2.1=0 then .returned (.int .i64 R.1)else .panicked (r9 R.2.1))/\GS 184 B w' b Y4 Y3 R.2.2 os/\Goes b vn vo w Y4 Y3 w'
theorem Vz{B b:Nat}{vn vo Y4 Y3:Value}{x:Int}{ns':List Nd}{R:Int×Int×List Nd}{os:List Bool}{w w':World}{e:Ending}(hR:R=(x,0,ns'))(he:e= .returned (.int .i64 x))(hg:GS 184 B w' b Y4 Y3 ns' os)(go:Goes b vn vo w Y4 Y3 w'):KG B b vn vo R os w e w':=by
 subst hR;exact⟨Y4,Y3,by simpa using he,hg,go⟩
theorem RJ{B b:Nat}{vn vo Y4 Y3:Value}{x c:Int}{ns':List Nd}{R:Int×Int×List Nd}{os:List Bool}{w w':World}{e:Ending}(hc:c≠0)(hR:R=(x,c,ns'))(he:e= .panicked (r9 c))(hg:GS 184 B w' b Y4 Y3 ns' os)(go:Goes b vn vo w Y4 Y3 w'):KG B b vn vo R os w e w':=by
 subst hR;exact⟨Y4,Y3,by simpa [hc]using he,hg,go⟩
theorem KP{w:World}{x:Nat}{a b:Value}{t:TypeId}(h:w.heap[x]?=some (.cells #[a,b] t (0,0))):w.cell? ⟨x,0,none⟩=some a/\w.cell? ⟨x,1,none⟩=some b:=by
 refine⟨?_, ?_⟩<;>simp[World.cell?,h]
theorem EH{B b:Nat}{os:List Bool}(n:Int)(gs:List Int)(ga:Option Addr)(gc:Nat)(w:World)(vn vo:Value)(ns:List Nd)(h:GS 184 B w b vn vo ns os)
 (hG:bu (Own b vn vo) (fun w=>fJ w ga gs) w) (hgl:gs.length<=100):
 Calls prog 324 #[.agg #[.pointer (some ⟨b,0,none⟩),.slice ga gs.length gc],.int .i64 n] w fun e w'=>KG B b vn vo (fD os ns n gs) os w e w':=by
 obtain⟨W,hW⟩:∃W,W=w.alloc (.cells #[.pointer (some ⟨b,0,none⟩),.slice ga gs.length gc] 378):=⟨_,rfl⟩;have qW:aA w W:=by rw[hW];exact Kp.alloc _ _
 have hB:W.heap[w.heap.size]?=some (.cells #[.pointer (some ⟨b,0,none⟩),.slice ga gs.length gc] 378 (0,0)):=by rw[hW];exact ah w _
 have HBX:=hid (fun(w':World) (Y4 Y3:Value) (g:Goes b vn vo W Y4 Y3 w')=>(g.block hB (h.aay _ (aj _))).1);have HG:=hid (fun(w':World) (Y4 Y3:Value) (g:Goes b vn vo W Y4 Y3 w')=>hG w' (g.after qW).kp);have HW:=gp hW qW (h.quiet qW);clear h hG hB qW hW;go_enter func324,ntmps324;go_wp2;go_loopw [1,12] (fun nd i wr=>∃(k:Nat) (x:Int) (nsr:List Nd) (Y4 Y3:Value),k<=gs.length/\nd= .int .i64 x/\i= .int .i64 k/\Hid (fD os ns n gs=fD os nsr x (gs.drop k))/\Hid (GS 184 B wr b Y4 Y3 nsr os)/\Hid (Goes b vn vo W Y4 Y3 wr)) (fun _ i _=>gs.length-(intOf i).toNat);case atStart=>
  refine⟨0,n,ns,vn,vo,aP _,rfl,rfl,rfl, ?_, ?_⟩;rw[<-HW.out.1];exact HW.out.2.2;rw[<-HW.out.1];exact Goes.refl _ _ _ _
 case round=>
  obtain⟨k,x,nsr,Y4,Y3,hk,rfl,rfl,ht,hg,hgo⟩:=hrel;obtain⟨y0,y1⟩:=KP (HBX.out _ _ _ hgo.out);by_cases hlt:k<gs.length
  ·obtain⟨gg,go,rfl,cg⟩:=(HG.out _ _ _ hgo.out) k hlt;have HT:=hid (Du os nsr x gs k hlt);have hos:=CE nsr os x 15 gs[k];have HC:=hid (Gr.aaV hg.out x 15 gs[k]);generalize gs[k]=gk at*;generalize aS nsr os x 15 gk=R at*;obtain⟨rn,rc,rns,ros⟩:=R;simp only at hos HT;subst hos;unfold ZL at HC;simp only at HC;by_cases hrc:rc=0
   ·subst hrc;go_wp2_with (go_at_call 306;refine HC.out.mono ?_;rintro e w5 ⟨rfl,vn2,vo2,hg5,go5⟩;have HG5:=hid hg5;have HO5:=hid (hgo.out.trans go5);clear hg5 go5);refine⟨⟨k+1,rn,rns,vn2,vo2,by omega,rfl,by go_num, ?_,HG5,HO5⟩,by simp[intOf];omega⟩;rw[Hid,ht.out,HT.out];simp
   ·have hrb:(rc !=0)=true:=(by simpa using hrc);have HRC:=hid hrc;clear hrc;go_wp2_with (go_at_call 306;refine HC.out.mono ?_;rintro e w5 ⟨rfl,vn2,vo2,hg5,go5⟩;have HG5:=hid hg5;have HO5:=hid (hgo.out.trans go5);clear hg5 go5);have hE:fD ros ns n gs=(0,rc,rns):=by
     have h1:=ht.out;rw[HT.out,af HRC.out]at h1;exact h1
    exact⟨rfl,RJ HRC.out hE rfl HG5.out (HO5.out.after HW.out.2.1)⟩
  ·have hkn:k=gs.length:=(by omega);subst hkn;have hfin:=ht.out;rw[List.drop_length,fD]at hfin;have HF:=hid hfin;clear hfin;go_wp2;go_ret;exact Vz HF.out rfl hg.out (hgo.out.after HW.out.2.1)
def BO(B b:Nat)(vn vo:Value)(R:V×Int×List Nd)(os:List Bool)(w:World)(e:Ending)(w':World):Prop:=
 if R.2.1=0 then∃ao cap Y4 Y3,e= .returned (.agg #[.int .i64 R.1.kind,.int .i64 R.1.n,.slice ao R.1.l.length cap])/\bu (fun k=>Own b Y4 Y3 k\/k<w.heap.size) (fun w=>Is w R.1 ao) w'/\GS 184 B w' b Y4 Y3 R.2.2 os/\Goes b vn vo w Y4 Y3 w'
 else∃Y4 Y3,e= .panicked (r9 R.2.1)/\GS 184 B w' b Y4 Y3 R.2.2 os/\Goes b vn vo w Y4 Y3 w'
theorem KZ{B b:Nat}{vn vo Y4 Y3:Value}{x:V}{ns':List Nd}{R:V×Int×List Nd}{os:List Bool}{w w':World}{e:Ending}(ao:Option Addr)(cap:Nat)(hR:R=(x,0,ns'))(he:e= .returned (.agg #[.int .i64 x.kind,.int .i64 x.n,.slice ao x.l.length cap]))
 (hs:bu (fun k=>Own b Y4 Y3 k\/k<w.heap.size) (fun w=>Is w x ao) w') (hg:GS 184 B w' b Y4 Y3 ns' os) (go:Goes b vn vo w Y4 Y3 w'):BO B b vn vo R os w e w':=by
 subst hR;unfold BO;rw[ag rfl];exact⟨ao,cap,Y4,Y3,he,hs,hg,go⟩
theorem Gp{B b:Nat}{vn vo Y4 Y3:Value}{x:V}{c:Int}{ns':List Nd}{R:V×Int×List Nd}{os:List Bool}{w w':World}{e:Ending}(hc:c≠0)(hR:R=(x,c,ns'))(he:e= .panicked (r9 c))
 (hg:GS 184 B w' b Y4 Y3 ns' os) (go:Goes b vn vo w Y4 Y3 w'):BO B b vn vo R os w e w':=by
 subst hR;unfold BO;rw[af hc];exact⟨Y4,Y3,he,hg,go⟩
def X4(B b:Nat)(os:List Bool)(gs:List Int)(v:V):Prop:=∀(ao:Option Addr)(cap:Nat)(ga:Option Addr)(gc:Nat)(w:World)(vn vo:Value)(ns:List Nd),GS 184 B w b vn vo ns os->v.fault=0->v.size<=500->
 bu (Own b vn vo) (fun w=>Is w v ao) w->bu (Own b vn vo) (fun w=>fJ w ga gs) w->
 Calls prog 321 #[.agg #[.pointer (some ⟨b,0,none⟩),.slice ga gs.length gc],.agg #[.int .i64 v.kind,.int .i64 v.n,.slice ao v.l.length cap]] w fun e w'=>BO B b vn vo (v.handed os gs ns) os w e w'
theorem IA{os:List Bool}(gs:List Int):∀(ns:List Nd)(n:Int),ns.length<=80->dH n->dH (fD os ns n gs).1:=by
 induction gs with
 |nil=>intro ns n _ hn;exact hn
 |cons g gs ih=>
  intro ns n hl hn;rw[fD];split
  ·refine ih _ _ ?_ (BA ns os n 15 g hl);unfold aS dJ;(repeat' split);all_goals(simp only[ak,aL,bf];omega)
  ·exact iP 0 (by decide)
theorem MC{B b:Nat}{os:List Bool}(n:Int)(ao:Option Addr)(cap:Nat)(gs:List Int)(ga:Option Addr)(gc:Nat)(w:World)(vn vo:Value)(ns:List Nd)(h:GS 184 B w b vn vo ns os)(hn:dH n)
 (hG:bu (Own b vn vo) (fun w=>fJ w ga gs) w) (hgl:gs.length<=100):
 Calls prog 321 #[.agg #[.pointer (some ⟨b,0,none⟩),.slice ga gs.length gc],.agg #[.int .i64 4,.int .i64 n,.slice ao 0 cap]] w fun e w'=>BO B b vn vo ((⟨4,n,[]⟩:V).handed os gs ns) os w e w':=by
 obtain⟨W,hW⟩:∃W,W=((w.alloc (.cells #[.pointer (some ⟨b,0,none⟩),.slice ga gs.length gc] 378)).alloc (.cells #[.int .i64 4,.int .i64 n,.slice ao 0 cap] 71)).alloc (.cells #[.int .i64 0,.int .i64 0,.slice none 0 0] 71):=⟨_,rfl⟩;have qW:aA w W:=by rw[hW];exact((Kp.alloc _ _).trans (Kp.alloc _ _)).trans (Kp.alloc _ _)
 have hB3:=jk w (.cells #[.pointer (some ⟨b,0,none⟩),.slice ga gs.length gc] 378) (.cells #[.int .i64 4,.int .i64 n,.slice ao 0 cap] 71) (.cells #[.int .i64 0,.int .i64 0,.slice none 0 0] 71);rw[<-hW]at hB3;have hfree:=fun k (hk:w.heap.size<=k)=>h.aay k hk;have HBX:=hid (fun(w':World) (Y4 Y3:Value) (g:Goes b vn vo W Y4 Y3 w')=>dX (g.block hB3.1 (hfree _ (aj _))) (dX (g.block hB3.2.1 (hfree _ (by omega))) (g.block hB3.2.2 (hfree _ (by omega)))));have HTH:=hid (EH n gs ga gc W vn vo ns (h.quiet qW) (cu hG qW) hgl);have HW:=gp hW qW (h.quiet qW);have HE:=hid (Bo os gs (v:=⟨4,n,[]⟩) ns rfl rfl);have hin:=IA (os:=os) gs ns n h.ln hn;have HSZ:=hid qW.size;simp only at HE;clear h hG hfree hB3 qW;rw[hW]at HTH;generalize fD os ns n gs=R at*;obtain⟨x,c,ns'⟩:=R;simp only at hin HE;unfold KG at HTH;simp only at HTH;by_cases hc:c=0
 ·subst hc;rw[ag rfl]at HTH HE;clear hW;go_enter func321,ntmps321;go_wp2_with (go_at_call 324;refine HTH.out.mono ?_;rintro e w5 ⟨Y4,Y3,rfl,hg5,go5⟩;rw[<-HW.out.1]at go5;have HG5:=bC hg5 go5;have HX:=hid (HBX.out _ _ _ go5);obtain⟨c0,c1,c2⟩:=aM HX.out.2.1.1;obtain⟨e0,e1,e2⟩:=bI HX.out.2.1.1;obtain⟨d0,d1,d2⟩:=aM HX.out.2.2.1;obtain⟨f0,f1,f2⟩:=bI HX.out.2.2.1;have hz5:=ae HX.out.2.2.1;clear hg5 go5);obtain⟨wx,hwx⟩:∃wx,wx=w5.setCell ⟨w.heap.size+1,1,none⟩ (.int .i64 x):=⟨_,rfl⟩;have kx:Kp (fun k=>k=w.heap.size+1) w5 wx:=by rw[hwx];exact bF _ _ _ _
  have X1:wx.heap[w.heap.size+1]?=some (.cells #[.int .i64 4,.int .i64 x,.slice ao 0 cap] 71 (0,0)):=by rw[hwx];simp[World.setCell,aR,HX.out.2.1.1]
  have X2:=(kx.block _ (ae HX.out.2.2.1) (by omega)).trans HX.out.2.2.1;have HK:=hid kx;rw[<-hwx];clear hwx kx c0 c1 c2 e0 e1 e2 d0 d1 d2 f0 f1 f2 hz5;go_loopw [5,19] (fun l i wy=>l= .slice none 0 0/\i= .int .i64 0/\wy=wx) (fun _ _ _=>0);case atStart=>exact⟨rfl,rfl,rfl⟩
  case round=>
   obtain⟨rfl,rfl,rfl⟩:=hrel;obtain⟨c0,c1,c2⟩:=aM X1;obtain⟨e0,e1,e2⟩:=bI X1;obtain⟨d0,d1,d2⟩:=aM X2;obtain⟨f0,f1,f2⟩:=bI X2;have hz1:=ae X1;have hz2:=ae X2;go_wp2;refine au (v:= .agg #[.int .i64 4,.int .i64 x,.slice none 0 0]) (by simp[results,results321,go_sem,d0,d1,d2]) rfl ?_;refine KZ (Y4:=Y4) (Y3:=Y3) (x:=⟨4,x,[]⟩) none 0 (ns':=ns') HE.out rfl (dY _ ⟨TI,hin⟩ rfl none) ?_ ?_;exact((HG5.out.1.kept HK.out fun k hk e=>HX.out.2.1.2 (e▸hk)).kept (bF _ (w.heap.size+1) 2 _) fun k hk e=>HX.out.2.1.2 (e▸hk)).kept (dE _ _ _ _ _) fun k hk e=>HX.out.2.2.2 (e▸hk);exact(HG5.out.2.after HW.out.2.1).fresh (((HK.out.mono fun k _ e=>by omega).trans ((bF _ (w.heap.size+1) 2 _).mono fun k _ e=>by omega)).trans ((dE _ _ _ _ _).mono fun k _ e=>by omega))
 ·rw[af hc]at HTH HE;have HC:=hid hc;clear hW hc;go_enter func321,ntmps321;go_wp2_with (go_at_call 324;refine HTH.out.mono ?_;rintro e w5 ⟨Y4,Y3,rfl,hg5,go5⟩;rw[<-HW.out.1]at go5);exact⟨rfl,Gp HC.out HE.out rfl hg5 (go5.after HW.out.2.1)⟩
structure MvS(B b:Nat)(os:List Bool)(gs:List Int)(ns0:List Nd)(w:World)(vn vo:Value)(v:V)(ao:Option Addr)(cap:Nat)(ga:Option Addr)(gc j:Nat)(Y4 Y3:Value)(nsr:List Nd)(av:Option Addr)(n cv:Nat)(ps:List Kd)(wr:World):Prop where
 obj:GS 184 B wr b Y4 Y3 nsr os
 goes:Goes b vn vo w Y4 Y3 wr
 bm:wr.heap[w.heap.size]?=some (.cells #[.pointer (some ⟨b,0,none⟩),.slice ga gs.length gc] 378 (0,0))
 b0:wr.heap[w.heap.size+1]?=some (.cells #[.int .i64 v.kind,.int .i64 v.n,.slice ao v.l.length cap] 71 (0,0))
 b1:wr.heap[w.heap.size+1+1]?=some (.cells #[.int .i64 0,.int .i64 0,.slice none 0 0] 71 (0,0))
 row:wr.ownsRow (w.heap.size+3) 71 3 (.slice av n cv) n (eB ps)
 len:n=ps.length
 all:∀p∈ps,bu (fun k=>Own b Y4 Y3 k\/k<w.heap.size+3\/(Value.slice av n cv).ownBlock=some k) (fun w=>Is w p.1 p.2.1) wr
 map:YY os gs (v.l.take j) ns0=(ps.map (·.1),0,nsr)
section
variable{B b:Nat}{os:List Bool}{gs:List Int}{ns0:List Nd}{w:World}{vn vo:Value}{v:V}{ao:Option Addr}{cap j:Nat}{ga:Option Addr}{gc:Nat}{Y4 Y3:Value}{nsr:List Nd}{av:Option Addr}{n cv:Nat}{ps:List Kd}{wr:World}
theorem MvS.lt(H:MvS B b os gs ns0 w vn vo v ao cap ga gc j Y4 Y3 nsr av n cv ps wr):w.heap.size+3<=wr.heap.size:=by have:=ae H.b1;omega
theorem MvS.step{w2 w3 w6:World}{vn2 vo2:Value}{ns2:List Nd}{y:V}{a:Option Addr}{c g cap2:Nat}{o1:Obj}{x:V}(H:MvS B b os gs ns0 w vn vo v ao cap ga gc j Y4 Y3 nsr av n cv ps wr)(hj:j<v.l.length)(hx:v.l[j]=x)(hR:x.handed os gs nsr=(y,0,ns2))(q2:aA wr w2)
 (hs:bu (fun k=>Own b vn2 vo2 k\/k<w2.heap.size) (fun w=>Is w y a) w3) (hg3:GS 184 B w3 b vn2 vo2 ns2 os) (go2:Goes b Y4 Y3 w2 vn2 vo2 w3)
 (hr:w6.ownsRow (w.heap.size+3) 71 3 (.slice (some ⟨g,0,none⟩) (n+1) cap2) (n+1) (eB ps++Zv (y,a,c))) (hg:(w3.alloc o1).grownBy w6 (Value.slice av n cv).ownBlock) (hat:(Value.slice av n cv).ownBlock=some g\/g=w3.heap.size+1):
 MvS B b os gs ns0 w vn vo v ao cap ga gc (j+1) vn2 vo2 ns2 (some ⟨g,0,none⟩) (n+1) cap2 (ps++[(y,a,c)]) w6:=by
 have hlt:=H.lt;have go3:=go2.after q2;have h12:=q2.size;have hrb:∀k,(Value.slice av n cv).ownBlock=some k->w.heap.size+3<=k/\k<wr.heap.size:=fun k e=>H.row.lt k e;have h13:wr.heap.size<=w3.heap.size:=go3.kp.size;have h23:w2.heap.size<=w3.heap.size:=go2.kp.size;have nb:∀k c,wr.heap[k]?=some (.cells c 71 (0,0))->¬Own b Y4 Y3 k:=fun k c hk=>H.obj.Zi hk (by decide) (by decide) (by decide);have BM:=go3.block H.bm (H.obj.Zi H.bm (by decide) (by decide) (by decide));have B0:=go3.block H.b0 (nb _ _ H.b0);have B1:=go3.block H.b1 (nb _ _ H.b1);have k36:Kp (fun k=>(Value.slice av n cv).ownBlock=some k) w3 w6:=(Kp.alloc w3 o1).trans (Kp.grown hg fun k _ e=>e.symm);have hgl:w.heap.size+3<=g:=by
  rcases hat with e|e;exact(hrb g e).1;omega
 have agc:∀k,Own b vn2 vo2 k->(Value.slice av n cv).ownBlock≠some k:=by
  intro k hk e;obtain⟨c,hc⟩:=wB H.row e;exact(go3.block hc (nb _ _ hc)).2 hk
 refine⟨?_, ?_, ?_, ?_, ?_, ?_, ?_, ?_, ?_⟩;exact hg3.kept k36 fun k hk e=>agc k hk e;exact(H.goes.trans go3).fresh (k36.mono fun k _ e=>by have:=hrb k e;omega);exact(k36.block _ (ae BM.1) (fun e=>by have:=hrb _ e;omega)).trans BM.1;exact(k36.block _ (ae B0.1) (fun e=>by have:=hrb _ e;omega)).trans B0.1;exact(k36.block _ (ae B1.1) (fun e=>by have:=hrb _ e;omega)).trans B1.1;rw[jV,jI];exact hr;rw[ak,H.len];rfl
 ·intro p hp;rcases aK.1 hp with hp|hp
  ·refine(H.all p hp).step ((go3.kp.mono fun k _ e=> .inl e).trans (k36.mono fun k _ e=> .inr (.inr e))) fun k hk e=> ?_;rcases e with e|e|e
   ·rcases go3.own k e with e|e;exact .inl e;omega
   ·exact .inr (.inl e)
   ·simp[Value.ownBlock]at e;subst e;rcases hat with e|e;exact .inr (.inr e);omega
  ·simp at hp;subst hp;refine hs.step (k36.mono fun k _ e=> ?_) fun k hk e=> ?_;right;have:=(hrb k e).2;omega;rcases e with e|e|e;exact .inl e;exact .inr (by omega);simp[Value.ownBlock]at e;subst e;rcases hat with e|e;have:=(hrb _ e).2;exact .inr (by omega);omega
 ·rw[wR os gs v.l ns0 j hj _ _ H.map,hx,hR];simp
theorem MvS.done{w8:World}(H:MvS B b os gs ns0 w vn vo v ao cap ga gc j Y4 Y3 nsr av n cv ps wr)(hf:v.fits)(k8:Kp (fun k=>k=w.heap.size+1\/k=w.heap.size+1+1) wr w8):
 bu (fun k=>Own b Y4 Y3 k\/k<w.heap.size) (fun w=>Is w ⟨v.kind,v.n,ps.map (·.1)⟩ av) w8/\GS 184 B w8 b Y4 Y3 nsr os/\Goes b vn vo w Y4 Y3 w8:=by
 have nb:∀k c,wr.heap[k]?=some (.cells c 71 (0,0))->¬Own b Y4 Y3 k:=fun k c hk=>H.obj.Zi hk (by decide) (by decide) (by decide);refine⟨fun w2 k2=>⟨hf, ?_⟩,H.obj.kept k8 fun k hk e=> ?_,H.goes.fresh (k8.mono fun k _ e=>by omega)⟩
 ·have hr8:=k8.row H.row fun k e e2=>by have:=(H.row.lt k e).1;omega
  have hr2:=k2.row hr8 fun k e e2=>by
   rcases e2 with e2|e2;obtain⟨c,hc⟩:=wB H.row e;exact nb _ _ hc e2;have:=(H.row.lt k e).1;omega
  refine zZ (B:=w.heap.size+3) hr2 H.len fun p hp=> ?_;exact((H.all p hp).step (F':=fun k=>Own b Y4 Y3 k\/k<w.heap.size) (k8.mono fun k _ e=> .inr (.inl (by omega))) fun k _ e=>by
   rcases e with e|e;exact .inl e
   ·exact .inr (.inl (by omega))) w2 k2
 ·rcases e with e|e;exact nb _ _ H.b0 (e▸hk);exact nb _ _ H.b1 (e▸hk)
end
theorem FP{B b:Nat}{os:List Bool}{gs:List Int}(v:V)(ih:∀x∈v.l,X4 B b os gs x)(hk4:v.kind≠4)(ao:Option Addr)(cap:Nat)(ga:Option Addr)(gc:Nat)(w:World)(vn vo:Value)(ns:List Nd)(h:GS 184 B w b vn vo ns os)(hf:v.fault=0)(hS:v.size<=500)
 (hI:bu (Own b vn vo) (fun w=>Is w v ao) w) (hG:bu (Own b vn vo) (fun w=>fJ w ga gs) w):
 Calls prog 321 #[.agg #[.pointer (some ⟨b,0,none⟩),.slice ga gs.length gc],.agg #[.int .i64 v.kind,.int .i64 v.n,.slice ao v.l.length cap]] w fun e w'=>BO B b vn vo (v.handed os gs ns) os w e w':=by
 obtain⟨i0,hi0,hz0,hz1,hz2⟩:=jw fM;have hfit:=hI.now.fit;have hlen:v.l.length<=500:=by have:=fG v.l;have:=size_eq v;omega
 have hsz:∀j (h:j<v.l.length),v.l[j].size<=500:=fun j h=>by have:=sO v.l j h;have:=size_eq v;omega
 obtain⟨W,hW⟩:∃W,W=((w.alloc (.cells #[.pointer (some ⟨b,0,none⟩),.slice ga gs.length gc] 378)).alloc (.cells #[.int .i64 v.kind,.int .i64 v.n,.slice ao v.l.length cap] 71)).alloc (.cells #[.int .i64 0,.int .i64 0,.slice none 0 0] 71):=⟨_,rfl⟩;have qW:aA w W:=by rw[hW];exact((Kp.alloc _ _).trans (Kp.alloc _ _)).trans (Kp.alloc _ _)
 have hB3:=jk w (.cells #[.pointer (some ⟨b,0,none⟩),.slice ga gs.length gc] 378) (.cells #[.int .i64 v.kind,.int .i64 v.n,.slice ao v.l.length cap] 71) (.cells #[.int .i64 0,.int .i64 0,.slice none 0 0] 71);rw[<-hW]at hB3;have H0:MvS B b os gs ns w vn vo v ao cap ga gc 0 vn vo ns none 0 0 [] W:=⟨h.quiet qW,Goes.quiet _ _ _ qW,hB3.1,hB3.2.1,hB3.2.2,bq _ _ _ _,rfl,fun p hp=>by simp at hp,by rw[List.take_zero,jv];rfl⟩;have HW:=bC hW H0;have HI:=yY hI hG ih hsz (fun j (h:j<v.l.length)=>ui hf j h);have HE:=hid (xC os gs ns hk4);have n4:(v.kind==4)=false:=by simpa using hk4
 have hk5:decide (v.kind=4)=false:=by simpa using hk4
 clear h hI hG ih hsz hf qW hB3 hW H0 hS;go_enter func321,ntmps321;go_wp2;go_loopw [5,19] (fun l i wr=>∃(j:Nat) (Y4 Y3:Value) (nsr:List Nd) (av:Option Addr) (cv:Nat) (ps:List Kd),j<=v.l.length/\l= .slice av j cv/\i= .int .i64 j/\Hid (MvS B b os gs ns w vn vo v ao cap ga gc j Y4 Y3 nsr av j cv ps wr)) (fun _ i _=>v.l.length-(intOf i).toNat);case atStart=>
  refine⟨0,vn,vo,ns,none,0,[],aP _,rfl,rfl, ?_⟩;rw[<-HW.out.1];exact HW.out.2
 case round=>
  obtain⟨j,Y4,Y3,nsr,av,cv,ps,hj,rfl,rfl,H⟩:=hrel;obtain⟨m0,m1⟩:=KP H.out.bm;have hlt3:=H.out.lt;by_cases hlt:j<v.l.length
  ·obtain⟨bb,oo,ca,cc,rfl,_,⟨⟨d0,d1⟩,ds⟩,hIx⟩:=(HI.out.1.goes H.out.goes).kid j hlt;have hIG:=HI.out.2.1.goes H.out.goes;have hX:∀w2:World,aA wr w2->∀(c:Nat),Calls prog 321 #[.agg #[.pointer (some ⟨b,0,none⟩),.slice ga gs.length gc],.agg #[.int .i64 v.l[j].kind,.int .i64 v.l[j].n,.slice ca v.l[j].l.length c]] w2 fun e w'=>BO B b Y4 Y3 (v.l[j].handed os gs nsr) os w2 e w':=
    fun w2 q2 c=>HI.out.2.2.1 v.l[j] (aI hlt) ca c ga gc w2 Y4 Y3 nsr (H.out.obj.quiet q2) (HI.out.2.2.2.2 j hlt) (HI.out.2.2.2.1 j hlt) (cu hIx q2) (cu hIG q2)
   have HC:=hid hX;have HT:=hid (wR os gs v.l ns j hlt _ _ H.out.map);obtain⟨x,hx⟩:∃x,v.l[j]=x:=⟨_,rfl⟩;rw[hx]at HC HT d0 d1 ds;have HX:=hid hx;obtain⟨y,c,ns2,hR⟩:∃y c ns2,x.handed os gs nsr=(y,c,ns2):=⟨_,_,_,rfl⟩;have HR:=hid hR;unfold BO at HC;rw[hR]at HC HT;simp only at HC HT;clear hx hR hIx hIG hX;by_cases hc:c=0
   ·subst hc;simp only[if_true]at HC;have p0:=dZ m0;have p1:=dZ m1;have hq0:=hid (show aA wr (wr.alloc (.cells #[.int .i64 x.kind,.int .i64 x.n,.slice ca x.l.length cc] 71))from Kp.alloc _ _);have hwz:=H.out.lt;go_wp2_with (first
     |(at_builtin;refine aX _ rfl (.tmp 23) (.tmp 27) 69 rfl (w.heap.size+3) 71 i0 _ 3 40 fE hi0 hz0 hz1 hz2 rfl (by decide) _ j (eB ps) rfl agd.out ⟨w3.heap.size,0,none⟩ 1 1 (Zv (y,a,cp)) rfl rfl (gT w3 _ 71) (jO _) (by decide) (by unfold maxLen;omega) (by omega) (by simp;omega) (w3.heap.size+1) (by simp) ?_;intro g6 cap6 w6 hr6 hg6 hat acg;have HD:=hid (H.out.step hlt HX.out HR.out hq0.out hs3.out hg3.out go3.out hr6 hg6 hat);clear hr6 hg6 hat acg)
     |(go_at_call 321;refine(HC.out _ hq0.out cc).mono ?_;rintro e w3 ⟨a,cp,vn2,vo2,rfl,hs3,hg3,go3⟩;have hz3:wr.heap.size+1<=w3.heap.size:=(by have:=go3.kp.size;simpa using this);have agd:=hid (show(w3.alloc (.cells #[.int .i64 y.kind,.int .i64 y.n,.slice a y.l.length cp] 71)).ownsRow (w.heap.size+3) 71 3 (.slice av j cv) j (eB ps)from(go3.kp.row (H.out.row.alloc _) (fun k e=>by obtain⟨c,hc⟩:=wB H.out.row e;exact H.out.obj.Zi hc (by decide) (by decide) (by decide))).alloc _);have hs3:=hid hs3;have hg3:=hid hg3;have go3:=hid go3))
    exact⟨⟨j+1,vn2,vo2,ns2,_,_,_,by omega,rfl,by go_num,HD⟩,by simp[intOf];omega⟩
   ·have HCN:=hid hc;simp only[hc,if_false]at HC;have p0:=dZ m0;have p1:=dZ m1;have hq0:=hid (show aA wr (wr.alloc (.cells #[.int .i64 x.kind,.int .i64 x.n,.slice ca x.l.length cc] 71))from Kp.alloc _ _);clear hc;go_wp2_with (go_at_call 321;refine(HC.out _ hq0.out cc).mono ?_;rintro e w3 ⟨vn2,vo2,rfl,hg3,go3⟩);have hE:v.handed os gs ns=(v0,c,ns2):=by
     have h1:=HT.out;rw[af HCN.out]at h1;rw[HE.out,Eb os gs v.l ns (j+1) c ns2 HCN.out h1,af HCN.out]
    exact⟨rfl,Gp HCN.out hE rfl hg3 (H.out.goes.trans (go3.after hq0.out))⟩
  ·have hjl:j=v.l.length:=(by omega);subst hjl;have hmap:=H.out.map;rw[aZ]at hmap;have HMP:=hid hmap;obtain⟨c0,c1,c2⟩:=aM H.out.b0;obtain⟨e0,e1,e2⟩:=bI H.out.b0;obtain⟨d0,d1,d2⟩:=aM H.out.b1;obtain⟨f0,f1,f2⟩:=bI H.out.b1;have hz1:=ae H.out.b1;have HL:=hid H.out.len;clear hmap;go_wp2;refine au (v:= .agg #[.int .i64 v.kind,.int .i64 v.n,.slice av v.l.length cv]) (by simp[results,results321,go_sem,d0,d1,d2]) rfl ?_;have hD:=H.out.done (w8:=_) hfit (((bF wr (w.heap.size+1) 2 (.slice av v.l.length cv)).mono fun k _ e=> .inl e).trans ((dE _ (w.heap.size+1+1) (.int .i64 v.kind) (.int .i64 v.n) (.slice av v.l.length cv)).mono fun k _ e=> .inr e));refine KZ (Y4:=Y4) (Y3:=Y3) (x:=⟨v.kind,v.n,ps.map (·.1)⟩) av cv (ns':=nsr) ?_ ?_ hD.1 hD.2.1 hD.2.2;rw[HE.out,HMP.out];simp;rw[bE,<-HL.out]
theorem xK{B b:Nat}{os:List Bool}{gs:List Int}(hgl:gs.length<=100)(v:V):X4 B b os gs v:=by
 induction v using V.aan with
 |h v ih=>
  intro ao cap ga gc w vn vo ns h hf hS hI hG;by_cases h4:v.kind=4;have hl:=Ga hf h4;have hfit:=hI.now.fit;obtain⟨k,n,l⟩:=v;simp only at h4 hl;subst h4;subst hl;exact MC n ao cap gs ga gc w vn vo ns h hfit.2 hG hgl;exact FP v ih h4 ao cap ga gc w vn vo ns h hf hS hI hG
theorem IP(q:Nat)(hq:q<=15):(bits .and .i64 (q:Int) 4==4)=q.testBit 2:=by
 have H:∀q:Fin 16,(bits .and .i64 (q.val:Int) 4==4)=q.val.testBit 2:=by decide+kernel
 exact H ⟨q,by omega⟩
theorem Qu(q:Nat)(hq:q<=15)(w:World):
 Calls prog 153 #[.int .i64 q,.int .i64 4] w fun e w'=>e= .returned (.bool (q.testBit 2))/\w'=w:=by
 have hE:=hid (IP q hq);go_enter func153,ntmps153;go_wp2;go_ret;exact⟨by rw[<-hE.out];rfl,rfl⟩
theorem X3:Yy:=by
 intro B b os v ao cap w vn vo ns h hw hI hS;have qW:aA w (w.alloc (.cells #[.int .i64 v.kind,.int .i64 v.n,.slice ao v.l.length cap] 71)):=Kp.alloc _ _;have b0:=ah w (.cells #[.int .i64 v.kind,.int .i64 v.n,.slice ao v.l.length cap] 71);have HBX:=hid (fun(w':World) (q:aA (w.alloc (.cells #[.int .i64 v.kind,.int .i64 v.n,.slice ao v.l.length cap] 71)) w')=>aM ((q.block _ (ae b0) fun e=>e).trans b0));have H1:=hid (fQ v ao cap _ (hI.quiet qW) hS);have HI:=hid (hI.quiet qW);have HG:=hid (h.quiet qW);clear b0 hI h;by_cases h1:v.check=0
 ·have HM:=hid (show lu ns os v=if v.gate then 9 else if yU ns os v.Zn then 0 else 9 by unfold lu;rw[ag h1];rfl);rw[h1]at H1;have HC:=hid h1;clear h1;cases hg:v.gate with
  |true=>
   rw[hg]at HM;go_enter func316,ntmps316;go_wp2_with (first
    |(go_at_call 318;refine(ZU v ao cap _ (HI.out.quiet q2) HC.out).mono ?_;rintro e w3 ⟨rfl,q3⟩;rw[hg])
    |(go_at_call 148;refine H1.out.mono ?_;rintro e w2 ⟨rfl,q2⟩;obtain⟨z0,z1,z2⟩:=HBX.out _ q2))
   go_ret;exact⟨by rw[HM.out];rfl,qW.trans (q2.trans q3)⟩
  |false=>
   rw[hg]at HM;go_enter func316,ntmps316;go_wp2_with (first
    |(go_at_call 319;refine(QI v ao cap _ (HI.out.quiet Q3.out) HC.out).mono ?_;rintro e w4 ⟨sv,rfl,hr4,q4,_⟩;obtain⟨ca,cc,rfl⟩:=YU hr4;have Q4:=hid (Q3.out.trans q4);have HR:=hid hr4;clear hr4 q4)
    |(go_at_call 318;refine(ZU v ao cap _ (HI.out.quiet q2) HC.out).mono ?_;rintro e w3 ⟨rfl,q3⟩;rw[hg];have Q3:=hid (q2.trans q3);obtain⟨y0,y1,y2⟩:=HBX.out _ Q3.out)
    |(go_at_call 148;refine H1.out.mono ?_;rintro e w2 ⟨rfl,q2⟩;obtain⟨z0,z1,z2⟩:=HBX.out _ q2))
   have hcl:=Gc v;generalize v.Zn=cs at*;obtain⟨n,hn⟩:∃n,cs.length=n:=⟨_,rfl⟩;rw[hn]at HR hcl|-;have HN:=hid hn;have hn5:n<=500:=(by omega);clear hn q2 q3 z0 z1 z2 y0 y1 y2 hcl;go_loopw [18] (fun i wr=>∃k:Nat,k<=n/\i= .int .i64 k/\Hid (yU ns os (cs.take k)=true)/\Hid (aA w4 wr)) (fun i _=>n-(intOf i).toNat);case atStart=>exact⟨0,aP _,rfl,rfl,Kp.refl _ _⟩
   case round=>
    obtain⟨k,hk,rfl,hp,hq⟩:=hrel;by_cases hlt:k<n
    ·have hr:=hq.out.row HR.out (fun _ _ e=>e);obtain⟨g,rfl,ck⟩:=RU hr HN.out k hlt;have HT:=hid (Jg ns os cs k (by rw[HN.out];exact hlt));have hrl:=Gr.aaI ns os (cs.getD k 0);have HC:=hid (Gr.aao (HG.out.quiet (Q4.out.trans hq.out)) hw (cs.getD k 0));generalize cs.getD k 0=c at*;generalize bS ns os c=r at*;have HB:=hid (fun w=>Qu r hrl w);clear hr;cases hb:r.testBit 2 with
     |true=>
      rw[hb]at HB HT;go_wp2_with (first
       |(go_at_call 153;refine(HB.out _).mono ?_;rintro e w6 ⟨rfl,h6⟩;replace h6:=h6.symm;subst h6)
       |(go_at_call 312;refine HC.out.mono ?_;rintro e w5 ⟨rfl,q5⟩))
      exact⟨⟨k+1,by omega,by go_num,by rw[Hid,HT.out,hp.out];rfl,hq.out.trans q5⟩,by simp[intOf];omega⟩
     |false=>
      rw[hb]at HB HT;go_wp2_with (first
       |(go_at_call 153;refine(HB.out _).mono ?_;rintro e w6 ⟨rfl,h6⟩;replace h6:=h6.symm;subst h6)
       |(go_at_call 312;refine HC.out.mono ?_;rintro e w5 ⟨rfl,q5⟩))
      go_ret;refine⟨?_,qW.trans (Q4.out.trans (hq.out.trans q5))⟩;have h9:=HM.out;rw[IM (k+1) (by rw[HT.out];simp)]at h9;rw[h9];rfl
    ·have hkn:k=n:=(by omega);subst hkn;go_wp2;go_ret;refine⟨?_,qW.trans (Q4.out.trans hq.out)⟩;have h9:=HM.out;have h8:=hp.out;rw[<-HN.out,aZ]at h8;rw[h8]at h9;rw[h9];rfl
 ·have HM:=hid (show lu ns os v=v.check by unfold lu;rw[af h1]);have hne:(v.check !=0)=true:=by simpa using h1
  go_enter func316,ntmps316;go_wp2_with (go_at_call 148;refine H1.out.mono ?_;rintro e w2 ⟨rfl,q2⟩;obtain⟨z0,z1,z2⟩:=HBX.out _ q2);go_ret;exact⟨by simp[HM.out],qW.trans q2⟩
theorem IX(w:World):(Instr.typeAssert .nilIface 20 380 true).run prog w= .ok (.tuple #[.int .i64 0,.bool false]) w:=by kernel_rfl
theorem IW(c:Int)(w:World):(Instr.typeAssert (.iface 380 (.int .i64 c)) 20 380 true).run prog w= .ok (.tuple #[.int .i64 c,.bool true]) w:=by kernel_rfl
theorem vK(p:Addr)(w:World):
 CallsD prog 320 #[.pointer (some p)] .returning w fun e u' w'=>e= .returned (.tuple #[])/\u'= .returning/\w'=w:=by
 refine callsD_of_wpS func320 rfl fun c₀ cs hu=> ?_;apply wpS_seq;apply wpS_region;simp[wpOpsS,go_sem,recoverD,hu,ntmps320,Exit.thenS,IX];apply wpS_seq;apply wpS_region;simp[wpOpsS,go_sem,Exit.thenS];refine wpS_cond (t:=false) (by simp[Act.eval,Array.replicate]) ?_;simp only[Bool.false_eq_true,if_false];refine wpS_of_wp (wp_skip ?_);cases c₀
 simp_all [bodyPostS,results,results320]
theorem uy{w:World}{x:Nat}{a:Value}{t:TypeId}(h:w.heap[x]?=some (.cells #[a] t (0,0))):w.cell? ⟨x,0,none⟩=some a/\w.frozen? ⟨x,0,none⟩=false:=⟨by simp[World.cell?,h],aG w x 0 _ t h⟩
theorem nJ(p:Nat)(x:Value)(c:Int)(t:TypeId)(older:List PanicEntry)(w:World)(hb:w.heap[p]?=some (.cells #[x] t (0,0))):
 CallsD prog 320 #[.pointer (some ⟨p,0,none⟩)] (.panicking ({v:= .iface 380 (.int .i64 c),recovered:=false}::older)) w fun e u' w'=>
  e= .returned (.tuple #[])/\u'= .panicking ({v:= .iface 380 (.int .i64 c),recovered:=true}::older)/\w'=w.setCell ⟨p,0,none⟩ (.int .i64 c):=by
 have hlt:=ae hb;obtain⟨c0,hf⟩:=uy hb;clear hb;refine callsD_of_wpS func320 rfl fun c₀ cs hu=> ?_;apply wpS_seq;apply wpS_region;simp[wpOpsS,go_sem,recoverD,hu,ntmps320,Exit.thenS,IW];apply wpS_seq;apply wpS_region;simp[wpOpsS,go_sem,Exit.thenS];refine wpS_cond (t:=true) (by simp[Act.eval,Array.replicate]) ?_;simp only[if_true];apply wpS_region;simp[wpOpsS,go_sem,c0,hf,bodyPostS,results,results320]
theorem Je(os:List Bool)(gs:List Int)(v:V)(ns:List Nd)(h:(v.handed os gs ns).2.1≠0):(v.handed os gs ns).1=v0:=by
 rw[qH]at h|-;split at h
 ·rename_i h1;rw[ag h1];split at h;exact absurd rfl h;rename_i h2;rw[af h2]
 ·rename_i h1;rw[af h1]
theorem wY(w:World)(o1 o2 o3 o4:Obj):((((w.alloc o1).alloc o2).alloc o3).alloc o4).heap[w.heap.size]?=some o1/\((((w.alloc o1).alloc o2).alloc o3).alloc o4).heap[w.heap.size+1]?=some o2/\((((w.alloc o1).alloc o2).alloc o3).alloc o4).heap[w.heap.size+1+1]?=some o3/\((((w.alloc o1).alloc o2).alloc o3).alloc o4).heap[w.heap.size+1+1+1]?=some o4:=by
 obtain⟨h1,h2,h3⟩:=jk w o1 o2 o3;refine⟨?_, ?_, ?_, ?_⟩;rw[aB _ _ _ (ae h1)];exact h1;rw[aB _ _ _ (ae h2)];exact h2;rw[aB _ _ _ (ae h3)];exact h3;have:=ah (((w.alloc o1).alloc o2).alloc o3) o4;simpa using this
theorem Qe{B b:Nat}{os:List Bool}{gs:List Int}(hgl:gs.length<=100)(v:V)(ao:Option Addr)(cap:Nat)(ga:Option Addr)(gc:Nat)(w:World)(vn vo:Value)(ns:List Nd)(h:GS 184 B w b vn vo ns os)(hf:v.fault=0)(hS:v.size<=500)
 (hI:bu (Own b vn vo) (fun w=>Is w v ao) w) (hG:bu (Own b vn vo) (fun w=>fJ w ga gs) w):
 Calls prog 317 #[.agg #[.pointer (some ⟨b,0,none⟩),.slice ga gs.length gc],.agg #[.int .i64 v.kind,.int .i64 v.n,.slice ao v.l.length cap]] w fun e w'=>KU 184 B b vn vo (v.handed os gs ns) os w e w':=by
 have hmf:∀(fn:Fn)(first cap:Array Value)(w:World),(Instr.makeFunc fn first cap).run prog w= .ok (.func fn first cap) w:=fun _ _ _ _=>rfl;obtain⟨W,hW⟩:∃W,W=(((w.alloc (.cells #[.pointer (some ⟨b,0,none⟩),.slice ga gs.length gc] 378)).alloc (.cells #[.int .i64 v.kind,.int .i64 v.n,.slice ao v.l.length cap] 71)).alloc (.cells #[.int .i64 0,.int .i64 0,.slice none 0 0] 71)).alloc (.cells #[.int .i64 0] 3):=⟨_,rfl⟩;have qW:aA w W:=by rw[hW];exact(((Kp.alloc _ _).trans (Kp.alloc _ _)).trans (Kp.alloc _ _)).trans (Kp.alloc _ _)
 have hB4:=wY w (.cells #[.pointer (some ⟨b,0,none⟩),.slice ga gs.length gc] 378) (.cells #[.int .i64 v.kind,.int .i64 v.n,.slice ao v.l.length cap] 71) (.cells #[.int .i64 0,.int .i64 0,.slice none 0 0] 71) (.cells #[.int .i64 0] 3);rw[<-hW]at hB4;have hfree:=fun k (hk:w.heap.size<=k)=>h.aay k hk;have HBX:=hid (fun(w':World) (Y4 Y3:Value) (g:Goes b vn vo W Y4 Y3 w')=>dX (g.block hB4.2.2.1 (hfree _ (by omega))) (g.block hB4.2.2.2 (hfree _ (by omega))));have HV:=hid (xK hgl v ao cap ga gc W vn vo ns (h.quiet qW) hf hS (cu hI qW) (cu hG qW));have HB:=hid (Je os gs v ns);have HW:=bC hW qW;have hsW:w.heap.size+4<=W.heap.size:=by rw[hW];simp
 unfold BO at HV;clear h hf hS hI hG qW hB4 hfree;generalize v.handed os gs ns=R at*;obtain⟨y,c,ns'⟩:=R;simp only at HV HB;by_cases hc:c=0
 ·subst hc;simp only[if_true]at HV;rw[hW]at HV;clear hW;go_enter_defers func317,ntmps317;go_wp2_with (go_at_call 321;refine HV.out.mono ?_;rintro e w5 ⟨a,cp,Y4,Y3,rfl,hs5,hg5,go5⟩;rw[<-HW.out.1]at hs5 go5;have HX:=hid (HBX.out _ _ _ go5);obtain⟨d0,d1,d2⟩:=aM HX.out.1.1;obtain⟨f0,f1,f2⟩:=bI HX.out.1.1;obtain⟨c0,f3⟩:=uy HX.out.2.1;have hz1:=ae HX.out.1.1;have hz2:=ae HX.out.2.1;have HS:=gp hs5 hg5 go5;clear hs5 hg5 go5);refine leaves_cons (f:=320) (args:= #[.pointer (some ⟨w.heap.size+1+1+1,0,none⟩)]) (by simp) (by simp[go_sem]) ?_;refine(vK _ _).mono ?_;rintro e' u' w'' ⟨rfl,rfl,rfl⟩;have hk:=((dE w5 (w.heap.size+1+1) (.int .i64 y.kind) (.int .i64 y.n) (.slice a y.l.length cp)).mono fun k _ e=>(Or.inl e:k=w.heap.size+1+1\/k=w.heap.size+1+1+1)).trans ((bF _ (w.heap.size+1+1+1) 0 (.int .i64 0)).mono fun k _ e=> .inr e);have HK:=hid hk;clear hk;simp[Leaves,settle,results,results317,go_sem,d0,d1,d2,c0];refine xy (Y4:=Y4) (Y3:=Y3) (x:=y) (c:=0) a cp (ns':=ns') rfl rfl ?_ ?_ ?_
  ·refine HS.out.1.step (HK.out.mono fun k _ e=> .inr (by omega)) fun k _ e=> ?_;rcases e with e|e
   ·exact .inl e
   ·exact .inr (by omega)
  ·refine HS.out.2.1.kept HK.out fun k hk e=> ?_;rcases e with e|e
   ·exact HX.out.1.2 (e▸hk)
   ·exact HX.out.2.2 (e▸hk)
  ·exact(HS.out.2.2.after HW.out.2).fresh (HK.out.mono fun k _ e=>by omega)
 ·simp only[hc,if_false]at HV;obtain rfl:=HB.out hc;rw[hW]at HV;clear hW;go_enter_defers func317,ntmps317;go_wp2_with (go_at_call 321;refine HV.out.mono ?_;rintro e w5 ⟨Y4,Y3,rfl,hg5,go5⟩;rw[<-HW.out.1]at go5);have HX:=HBX.out _ _ _ go5;refine leaves_cons (f:=320) (args:= #[.pointer (some ⟨w.heap.size+1+1+1,0,none⟩)]) (by simp) (by simp[go_sem]) ?_;refine(nJ (w.heap.size+1+1+1) _ c 3 [] _ HX.2.1).mono ?_;rintro e' u' w'' ⟨rfl,rfl,rfl⟩;obtain⟨d0,d1,d2⟩:=aM HX.1.1;obtain⟨c0,f3⟩:=uy HX.2.1;simp[Leaves,settle,results,results317,go_sem,d0,d1,d2,c0];refine xy (Y4:=Y4) (Y3:=Y3) (x:=v0) (c:=c) none 0 (ns':=ns') rfl rfl (dY v0 iR rfl none) ?_ ?_;exact hg5.kept (bF _ _ _ _) fun k hk e=>HX.2.2 (e▸hk);exact(go5.after HW.out.2).fresh ((bF _ (w.heap.size+1+1+1) 0 _).mono fun k _ e=>by omega)
theorem QM:Vl:=by
 intro B b os gs v ao cap ga gc w vn vo ns h hw hS hgl hI hG;obtain⟨W,hW⟩:∃W,W=(w.alloc (.cells #[.int .i64 v.kind,.int .i64 v.n,.slice ao v.l.length cap] 71)).alloc (.cells #[.int .i64 0,.int .i64 0,.slice none 0 0] 71):=⟨_,rfl⟩;have qW:aA w W:=by rw[hW];exact(Kp.alloc _ _).trans (Kp.alloc _ _)
 have b0:W.heap[w.heap.size]?=some (.cells #[.int .i64 v.kind,.int .i64 v.n,.slice ao v.l.length cap] 71 (0,0)):=by rw[hW,aB _ _ _ (by simp)];exact ah w _
 have b1:W.heap[w.heap.size+1]?=some (.cells #[.int .i64 0,.int .i64 0,.slice none 0 0] 71 (0,0)):=by rw[hW];exact Y2 w _ _
 have HM:=hid (X3 B b os v ao cap W vn vo ns (h.quiet qW) hw (hI.now.quiet qW) hS);have HH:=hid (fun(w':World) (q:aA W w') (hf:v.fault=0)=>Qe (B:=B) (b:=b) (os:=os) hgl v ao cap ga gc w' vn vo ns (h.quiet (qW.trans q)) hf hS (cu hI (qW.trans q)) (cu hG (qW.trans q)));have HF:=bC h (fun k (hk:w.heap.size<=k)=>h.aay k hk);have HW:=jR hW qW b0 b1;rw[hW]at HM;by_cases hm:lu ns os v=0
 ·have HP:=hid (show fK ns os gs v=v.handed os gs ns by unfold fK;rw[ag hm]);have hfa:=jX (O0 hm);rw[hm]at HM;clear h hI hG qW b0 b1 hW hm;go_enter func313,ntmps313;go_wp2_with (first
   |(go_at_call 317;refine(HH.out _ ((Q2.out.trans (Kp.alloc _ (.cells #[.pointer (some ⟨b,0,none⟩),.slice ga gs.length gc] 378)))) hfa).mono ?_)
   |(go_at_call 316;refine HM.out.mono ?_;rintro e w2 ⟨rfl,q2⟩;rw[<-HW.out.1]at q2;obtain⟨z0,z1,z2⟩:=aM ((q2.block _ (ae HW.out.2.2.1) fun e=>e).trans HW.out.2.2.1);have y0:=dZ z0;have y1:=dZ z1;have y2:=dZ z2;have Q2:=hid q2;clear q2))
  rintro e w3 ⟨a,c,Y4,Y3,he,hs,hg,hgo⟩;subst he;have qx:aA W (w2.alloc (.cells #[.pointer (some ⟨b,0,none⟩),.slice ga gs.length gc] 378)):=Q2.out.trans (Kp.alloc _ _);have hno:¬Own b vn vo (w.heap.size+1):=HF.out.2 _ (by omega);have hb2:=(qx.block _ (ae HW.out.2.2.2) fun e=>e).trans HW.out.2.2.2;have hX:=hgo.block hb2 hno;obtain⟨m0,m1,m2⟩:=aM hX.1;obtain⟨f0,f1,f2⟩:=bI hX.1;have hz:=ae hX.1;have hlx:=ae hb2;rw[<-HP.out]at hs hg|-;obtain⟨y,cd,nsr,hR⟩:∃y cd nsr,fK ns os gs v=(y,cd,nsr):=⟨_,_,_,rfl⟩;rw[hR]at hs hg|-;simp only at hs hg|-;have HR:=hid hR;clear hR;have HS:=Yd hs hg hgo hX.2 qx hlx qx.size;clear hs hg hgo hX hb2 qx hlx;go_wp2;refine au (v:= .tuple #[.agg #[.int .i64 y.kind,.int .i64 y.n,.slice a y.l.length c],.int .i64 cd]) (by simp[results,results313,go_sem,m0,m1,m2]) rfl ?_;have hsW:=HW.out.2.1.size;have hsX:=HS.out.2.2.2.2.2.2;have hsY:=HS.out.2.2.2.2.2.1;refine xy (Y4:=Y4) (Y3:=Y3) (x:=y) (c:=cd) a c (ns':=nsr) HR.out rfl ?_ ?_ ?_;refine(HS.out.1.step (dE _ _ _ _ _|>.mono fun k _ e=> ?_) fun k _ e=> ?_);right;rw[e];exact hsY;rcases e with e|e;exact .inl e;exact .inr (az e (aF hsW hsX));exact HS.out.2.1.kept (dE _ _ _ _ _) fun k hk e=>HS.out.2.2.2.1 (e▸hk);exact(HS.out.2.2.1.after (HW.out.2.1.trans HS.out.2.2.2.2.1)).fresh ((dE _ _ _ _ _).mono fun k _ e=>by omega)
 ·have HP:=hid (show fK ns os gs v=(v0,lu ns os v,ns)by unfold fK;rw[af hm]);have hmb:(lu ns os v !=0)=true:=by simpa using hm
  generalize lu ns os v=cd at*;clear h hI hG qW b0 b1 hW hm HH;go_enter func313,ntmps313;go_wp2_with (go_at_call 316;refine HM.out.mono ?_;rintro e w2 ⟨rfl,q2⟩;rw[<-HW.out.1]at q2;have hb2:=(q2.block _ (ae HW.out.2.2.2) fun e=>e).trans HW.out.2.2.2;obtain⟨m0,m1,m2⟩:=aM hb2;obtain⟨f0,f1,f2⟩:=bI hb2;have hz:=ae hb2;clear hb2);refine au (v:= .tuple #[.agg #[.int .i64 0,.int .i64 0,.slice none 0 0],.int .i64 cd]) (by simp[results,results313,go_sem,m0,m1,m2]) rfl ?_;have q:=HW.out.2.1.trans q2;refine xy (Y4:=vn) (Y3:=vo) (x:=v0) (c:=cd) none 0 (ns':=ns) HP.out rfl (dY v0 iR rfl none) ?_ ?_;exact(HF.out.1.quiet q).kept (dE _ _ _ _ _) fun k hk e=>HF.out.2 _ (by omega) (e▸hk);exact(Goes.quiet _ _ _ q).fresh ((dE _ _ _ _ _).mono fun k _ e=>by omega)
