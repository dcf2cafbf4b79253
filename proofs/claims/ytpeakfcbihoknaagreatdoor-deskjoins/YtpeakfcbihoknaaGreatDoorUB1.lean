/- Parts. -/
import Derived.Test.YtpeakfcbihoknaaGreatDoorUP1
open Go.ChangeShapes Go.WideShapes Go.ChangeAt Go.RowKit
namespace Go.Proofs.YtpeakfcbihoknaaGreatDoor
open Gr (Nd ZH nd0 YT aS dJ bJ dV bS Y0 bN eX YS Wf jg GS fJ)
abbrev blk(a:Option Addr)(n c:Nat):Option Nat:=(Value.slice a n c).ownBlock
structure Two(F:Nat->Prop)(lo:Nat)(w:World)(sa:Option Addr)(n sc:Nat)(ps:List Kd)(na:Option Addr)(m nc:Nat)(qs:List Kd):Prop where
 rs:w.ownsRow lo 71 3 (.slice sa n sc) n (eB ps)
 rn:w.ownsRow lo 71 3 (.slice na m nc) m (eB qs)
 ls:n=ps.length
 ln:m=qs.length
 ap:∀k,blk sa n sc=some k->blk na m nc≠some k
 all:∀p,p∈ps\/p∈qs->bu (fun k=>F k\/blk sa n sc=some k\/blk na m nc=some k) (fun w=>Is w p.1 p.2.1) w
section
variable{F F':Nat->Prop}{lo:Nat}{w w':World}{sa:Option Addr}{n sc:Nat}{ps:List Kd}{na:Option Addr}{m nc:Nat}{qs:List Kd}
theorem Two.nil(F:Nat->Prop)(lo:Nat)(w:World):Two F lo w none 0 0 [] none 0 0 []:=
 ⟨bq _ _ _ _,bq _ _ _ _,rfl,rfl,fun k e=>by simp[Value.ownBlock]at e,fun p hp=>by simp at hp⟩
theorem Two.goes(H:Two F lo w sa n sc ps na m nc qs)(q:Kp F w w')(hF:∀k,blk sa n sc=some k\/blk na m nc=some k->¬F k)(ho:∀k,F' k->F k\/w.heap.size<=k):Two F' lo w' sa n sc ps na m nc qs:=by
 refine⟨q.row H.rs fun k e=>hF k (.inl e),q.row H.rn fun k e=>hF k (.inr e),H.ls,H.ln,H.ap,fun p hp=>(H.all p hp).step (q.mono fun k _ e=> .inl e) fun k hk e=> ?_⟩;rcases e with e|e;rcases ho k e with e|e;exact .inl e;omega;exact .inr e
theorem Two.quiet(H:Two F lo w sa n sc ps na m nc qs)(q:aA w w'):Two F lo w' sa n sc ps na m nc qs:=by
 refine⟨q.row H.rs fun _ _ e=>e,q.row H.rn fun _ _ e=>e,H.ls,H.ln,H.ap,fun p hp=>(H.all p hp).step (q.mono fun _ _ e=>e.elim) fun k _ e=>e⟩
theorem Two.push{o:Obj}{g cap:Nat}{p:Kd}(H:Two F lo w sa n sc ps na m nc qs)(hv:bu (fun k=>F k\/blk sa n sc=some k\/blk na m nc=some k) (fun w=>Is w p.1 p.2.1) w)
 (hr:w'.ownsRow lo 71 3 (.slice (some ⟨g,0,none⟩) (n+1) cap) (n+1) (eB ps++Zv p)) (hg:(w.alloc o).grownBy w' (blk sa n sc)) (hat:blk sa n sc=some g\/g=w.heap.size+1):
 Two F lo w' (some ⟨g,0,none⟩) (n+1) cap (ps++[p]) na m nc qs/\Kp (fun k=>blk sa n sc=some k) w w':=by
 have k1:Kp (fun k=>blk sa n sc=some k) w w':=(Kp.alloc w o).trans (Kp.grown hg fun k _ e=>e.symm);refine⟨⟨by rw[jV,jI];exact hr,k1.row H.rn fun k e e2=>H.ap k e2 e,by rw[ak,<-H.ls];rfl,H.ln,fun k e e2=> ?_,fun x hx=> ?_⟩,k1⟩;simp[Value.ownBlock]at e;subst e;rcases hat with e|e;exact H.ap g e e2;have:=(H.rn.lt g e2).2;omega
 ·have hs:bu (fun k=>F k\/blk sa n sc=some k\/blk na m nc=some k) (fun w=>Is w x.1 x.2.1) w:=by
   rcases hx with hx|hx;rcases aK.1 hx with hx|hx;exact H.all x (.inl hx);simp at hx;subst hx;exact hv;exact H.all x (.inr hx)
  refine hs.step (k1.mono fun k _ e=> .inr (.inl e)) fun k hk e=> ?_;rcases e with e|e|e
  ·exact .inl e
  ·simp[Value.ownBlock]at e;subst e;rcases hat with e|e;exact .inr (.inl e);omega
  ·exact .inr (.inr e)
theorem Two.pop{g:Nat}{p:Kd}(H:Two F lo w (some ⟨g,0,none⟩) (n+1) sc (ps++[p]) na m nc qs):Two F lo w (some ⟨g,0,none⟩) n sc ps na m nc qs/\bu (fun k=>F k\/blk (some ⟨g,0,none⟩) n sc=some k\/blk na m nc=some k) (fun w=>Is w p.1 p.2.1) w/\∀j,j<3->w.cell? ⟨g,n*3+j,none⟩=(Zv p)[j]?:=by
 have hr:=H.rs;rw[jV,jI]at hr;obtain⟨h1,h2⟩:=lU hr rfl;have hb:∀k:Nat,blk (some ⟨g,0,none⟩) n sc=some k<->blk (some ⟨g,0,none⟩) (n+1) sc=some k:=fun k=>by simp[Value.ownBlock]
 have hl:=H.ls;rw[ak]at hl;refine⟨⟨h1,H.rn,by simpa using hl,H.ln,fun k e=>H.ap k ((hb k).1 e),fun x hx=>(H.all x (by rcases hx with hx|hx;exact .inl (by simp[hx]);exact .inr hx)).mono fun k _ e=> ?_⟩,(H.all p (.inl (by simp))).mono fun k _ e=> ?_,h2⟩;rcases e with e|e|e;exact .inl e;exact .inr (.inl ((hb k).1 e));exact .inr (.inr e);rcases e with e|e|e;exact .inl e;exact .inr (.inl ((hb k).1 e));exact .inr (.inr e)
theorem Two.swap(H:Two F lo w sa n sc ps na m nc qs):Two F lo w na m nc qs sa n sc ps:=
 ⟨H.rn,H.rs,H.ln,H.ls,fun k e e2=>H.ap k e2 e,fun p hp=>(H.all p hp.symm).mono fun k _ e=>by
  rcases e with e|e|e;exact .inl e;exact .inr (.inr e)
  ·exact .inr (.inl e)⟩
theorem Two.cells(H:Two F lo w sa n sc ps na m nc qs)(i:Nat)(hi:i<n):∃g,sa=some ⟨g,0,none⟩/\∀j,j<3->w.cell? ⟨g,i*3+j,none⟩=(Zv (ps[i]'(by rw[<-H.ls];exact hi)))[j]?:=by
 obtain⟨g,e,d⟩:=Zc H.rs (by omega);exact⟨g,e,fun j hj=>by rw[d (i*3+j) (by omega),ru ps i j (by rw[<-H.ls];exact hi) hj]⟩
end
section
variable{B:Nat}{w w' w2:World}{bb g wd:Nat}{vn vo vl Y4 Y3 Z4 vn2 vo2 vl2:Value}{ms:fA}{s:Sg}{a b c d:Pg}
theorem jm.put{s':Sg}{a' b' c' d':Pg}{ma mb mc md:Option (List Ex.V)}(H:jm B w bb g wd vn vo vl ms s a b c d)(hk:Kp (fun k=>k=bb) w w')(hb:w'.heap[bb]?=some (.cells (pI g wd a' b' c' d').toArray 145 (0,0)))(hs:s'={s with ks:=[a'.kept,b'.kept,c'.kept,d'.kept]})
 (ha:PgS w (gX bb g wd vn vo vl) ma a') (hb':PgS w (gX bb g wd vn vo vl) mb b') (hc:PgS w (gX bb g wd vn vo vl) mc c') (hd:PgS w (gX bb g wd vn vo vl) md d'):
 jm B w' bb g wd vn vo vl [ma,mb,mc,md] s' a' b' c' d'/\kF bb g wd vn vo vl w vn vo vl w':=by
 have G:kF bb g wd vn vo vl w vn vo vl w':=⟨hk.mono fun k _ e=> .inl e,fun k e=> .inl e⟩;subst hs;exact⟨⟨hb,H.gs.kept hk fun k hk e=>(H.apart.1 k hk).1 e,H.wf,H.ws.kept hk fun k hk e=>(H.apart.2 k hk).1 e,rfl,H.lo,ma,mb,mc,md,rfl,ha.goes H G,hb'.goes H G,hc.goes H G,hd.goes H G⟩,G⟩
end
theorem UA{w:World}{F:Nat->Prop}{l:List Ex.V}{ao:Option Addr}{cap:Nat}(hc:rC w (.slice ao l.length cap) l)(hl:∀v∈l,v.bad l.length 0=0):PgS w F (some l) ⟨true,.slice ao l.length cap,v0,none,0⟩:=
 ⟨rfl,fun l' e=>by cases e;exact⟨hc,hl⟩,⟨_,_,_,rfl⟩,dY v0 iR rfl none,show v0.check=0 by decide⟩
theorem Uv{w w':World}{l:List Ex.V}{ao:Option Addr}{cap:Nat}{ps:List Ex.Ls}(h:Ex.Md w.heap.size w' (.slice ao l.length cap) l.length ps)(hp:ps.map (·.1)=l.map Ex.Zj):rC w' (.slice ao l.length cap) l:=⟨ao,cap,ps,rfl,h.mono (aP _),hp⟩
