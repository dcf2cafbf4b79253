/- Parts. -/
import Derived.Test.YtpeakfcbihoknaaGreatDoorUE3
import Derived.Test.YtpeakfcbihoknaaGreatDoorUV1
open Go.ChangeShapes Go.WideShapes Go.ChangeAt Go.RowKit
namespace Go.Proofs.YtpeakfcbihoknaaGreatDoor
open Proofs.Tryz
open Gr (Nd ZH nd0 YT aS dJ bJ dV bS Y0 bN eX YS Wf jg GS fJ)
structure Pg where
 there:Bool
 code:Value
 kept:V
 ao:Option Addr
 cap:Nat
def Pg.cells(p:Pg):List Value:=[.bool p.there,p.code,.int .i64 p.kept.kind,.int .i64 p.kept.n,.slice p.ao p.kept.l.length p.cap]
def pI(g wd:Nat)(a b c d:Pg):List Value:=[.pointer (some ⟨g,0,none⟩),.pointer (some ⟨wd,0,none⟩)]++(a.cells++(b.cells++(c.cells++d.cells)))
def rC(w:World)(code:Value)(l:List Ex.V):Prop:=∃ao cap ps,code= .slice ao l.length cap/\Ex.Md 0 w code l.length ps/\ps.map (·.1)=l.map Ex.Zj
def gX(bb g wd:Nat)(vn vo vl:Value)(k:Nat):Prop:=k=bb\/Gr.Own g vn vo k\/Wo.Own wd vl k
structure PgS(w:World)(F:Nat->Prop)(m:Option (List Ex.V))(p:Pg):Prop where
 there:p.there=m.isSome
 code:∀l,m=some l->rC w p.code l/\∀v∈l,v.bad l.length 0=0
 shape:∃ao n cap,p.code= .slice ao n cap
 kept:bu F (fun w=>Is w p.kept p.ao) w
 good:p.kept.check=0
structure jm(B:Nat)(w:World)(bb g wd:Nat)(vn vo vl:Value)(ms:fA)(s:Sg)(a b c d:Pg):Prop where
 obj:w.heap[bb]?=some (.cells (pI g wd a b c d).toArray 145 (0,0))
 gs:GS 184 B w g vn vo s.ns s.os
 wf:Wf s.ns s.os.length
 ws:Wo.WS B w wd s.cs vl s.es
 ks:s.ks=[a.kept,b.kept,c.kept,d.kept]
 lo:B<=bb
 abn:∃ma mb mc md,ms=[ma,mb,mc,md]/\PgS w (gX bb g wd vn vo vl) ma a/\PgS w (gX bb g wd vn vo vl) mb b/\PgS w (gX bb g wd vn vo vl) mc c/\PgS w (gX bb g wd vn vo vl) md d
theorem Wo.WS.Zi{B:Nat}{w:World}{b:Nat}{cs:List Int}{v:Value}{es:List Wo.ZI}(h:Wo.WS B w b cs v es){k:Nat}{c:Array Value}{t':TypeId}(hk:w.heap[k]?=some (.cells c t' (0,0)))(h1:t'≠187)(h2:t'≠101):¬Wo.Own b v k:=by
 rintro(rfl|e);rw[h.obj.block]at hk;simp at hk;exact h1 hk.2.symm;rcases h.row.2 with⟨rfl,_⟩|⟨g,cap,cur,rfl,_,hg,_⟩;simp[Value.ownBlock]at e;simp[Value.ownBlock]at e;subst e;rw[hk]at hg;simp at hg;exact h2 hg.2
section
variable{B:Nat}{w w':World}{bb g wd:Nat}{vn vo vl:Value}{ms:fA}{s:Sg}{a b c d:Pg}
theorem jm.lt(h:jm B w bb g wd vn vo vl ms s a b c d):bb<w.heap.size:=ae h.obj
theorem jm.own(h:jm B w bb g wd vn vo vl ms s a b c d)(k:Nat)(hk:gX bb g wd vn vo vl k):B<=k/\k<w.heap.size:=by
 rcases hk with rfl|e|e;exact⟨h.lo,h.lt⟩;exact h.gs.own k e;exact h.ws.acL k e
theorem jm.free(h:jm B w bb g wd vn vo vl ms s a b c d){k:Nat}{cs:Array Value}{t:TypeId}(hk:w.heap[k]?=some (.cells cs t (0,0)))(h0:t≠145)(h1:t≠184)(h2:t≠207)(h3:t≠4)(h4:t≠187)(h5:t≠101):¬gX bb g wd vn vo vl k:=by
 rintro(rfl|e|e);rw[h.obj]at hk;simp at hk;exact h0 hk.2.symm;exact h.gs.Zi hk h1 h2 h3 e;exact h.ws.Zi hk h4 h5 e
theorem jm.new(h:jm B w bb g wd vn vo vl ms s a b c d)(k:Nat)(hk:w.heap.size<=k):¬gX bb g wd vn vo vl k:=fun e=>by have:=(h.own k e).2;omega
theorem rC.kept{F:Nat->Prop}{code:Value}{l:List Ex.V}(h:rC w code l)(q:Kp F w w')(hF:∀(k:Nat) (cs:Array Value) (t:TypeId),w.heap[k]?=some (.cells cs t (0,0))->t=334\/t=328->¬F k):rC w' code l:=by
 obtain⟨ao,cap,ps,e,m,hp⟩:=h;refine⟨ao,cap,ps,e,⟨q.row m.row fun k hk=> ?_,m.len,fun p hp=>q.row (m.all p hp) fun k hk=> ?_⟩,hp⟩;rcases m.row.2 with⟨e,_⟩|⟨g,cp,cur,e,_,hg,_⟩;rw[e]at hk;simp[Value.ownBlock]at hk;rw[e]at hk;simp[Value.ownBlock]at hk;subst hk;exact hF _ _ _ hg (.inr rfl);rcases(m.all p hp).2 with⟨e,_⟩|⟨g,cp,cur,e,_,hg,_⟩;rw[e]at hk;simp[Value.ownBlock]at hk;rw[e]at hk;simp[Value.ownBlock]at hk;subst hk;exact hF _ _ _ hg (.inl rfl)
end
structure kF(bb g wd:Nat)(vn vo vl:Value)(w:World)(Y4 Y3 Z4:Value)(w':World):Prop where
 kp:Kp (gX bb g wd vn vo vl) w w'
 own:∀k,gX bb g wd Y4 Y3 Z4 k->gX bb g wd vn vo vl k\/w.heap.size<=k
section
variable{B:Nat}{w w' w2:World}{bb g wd:Nat}{vn vo vl Y4 Y3 Z4 vn2 vo2 vl2:Value}{ms:fA}{s:Sg}{a b c d:Pg}
theorem kF.quiet(bb g wd:Nat)(vn vo vl:Value)(q:aA w w'):kF bb g wd vn vo vl w vn vo vl w':=⟨q.mono fun _ _ e=>e.elim,fun _ e=> .inl e⟩
theorem kF.safe{P:World->Prop}(h:kF bb g wd vn vo vl w Y4 Y3 Z4 w')(hs:bu (gX bb g wd vn vo vl) P w):bu (gX bb g wd Y4 Y3 Z4) P w':=
 hs.step h.kp fun k hk e=>by
  rcases h.own k e with e|e;exact e;omega
theorem kF.block(hg:kF bb g wd vn vo vl w Y4 Y3 Z4 w'){x:Nat}{o:Obj}(hx:w.heap[x]?=some o)(hn:¬gX bb g wd vn vo vl x):w'.heap[x]?=some o/\¬gX bb g wd Y4 Y3 Z4 x:=by
 have hl:x<w.heap.size:=(Array.getElem?_eq_some_iff.1 hx).1;refine⟨(hg.kp.block x hl hn).trans hx,fun e=> ?_⟩;rcases hg.own x e with e|e;exact hn e;omega
theorem PgS.goes{m:Option (List Ex.V)}{p:Pg}(H:jm B w bb g wd vn vo vl ms s a b c d)(h:PgS w (gX bb g wd vn vo vl) m p)(hg:kF bb g wd vn vo vl w Y4 Y3 Z4 w'):PgS w' (gX bb g wd Y4 Y3 Z4) m p:=
 ⟨h.there,fun l hl=>⟨(h.code l hl).1.kept hg.kp fun k cs t hk ht=>by
  rcases ht with rfl|rfl;exact H.free hk (by decide) (by decide) (by decide) (by decide) (by decide) (by decide)
  ·exact H.free hk (by decide) (by decide) (by decide) (by decide) (by decide) (by decide),(h.code l hl).2⟩,h.shape,hg.safe h.kept,h.good⟩
theorem jm.move{s':Sg}(H:jm B w bb g wd vn vo vl ms s a b c d)(hg:kF bb g wd vn vo vl w Y4 Y3 Z4 w')(hb:w'.heap[bb]?=w.heap[bb]?)(hgs:GS 184 B w' g Y4 Y3 s'.ns s'.os)(hwf:Wf s'.ns s'.os.length)(hws:Wo.WS B w' wd s'.cs Z4 s'.es)(hks:s'.ks=s.ks):jm B w' bb g wd Y4 Y3 Z4 ms s' a b c d:=by
 obtain⟨ma,mb,mc,md,e,ha,hb',hc,hd⟩:=H.abn;exact⟨hb.trans H.obj,hgs,hwf,hws,hks.trans H.ks,H.lo,ma,mb,mc,md,e,ha.goes H hg,hb'.goes H hg,hc.goes H hg,hd.goes H hg⟩
theorem jm.quiet(H:jm B w bb g wd vn vo vl ms s a b c d)(q:aA w w'):jm B w' bb g wd vn vo vl ms s a b c d:=
 H.move (kF.quiet _ _ _ _ _ _ q) (q.block _ H.lt fun e=>e) (H.gs.quiet q) H.wf (H.ws.kept q fun _ _ e=>e) rfl
theorem jm.kept{F:Nat->Prop}(H:jm B w bb g wd vn vo vl ms s a b c d)(q:Kp F w w')(hF:∀k,gX bb g wd vn vo vl k->¬F k)
 (hm:∀p,p=a\/p=b\/p=c\/p=d->∀m,PgS w (gX bb g wd vn vo vl) m p->PgS w' (gX bb g wd vn vo vl) m p):jm B w' bb g wd vn vo vl ms s a b c d:=by
 obtain⟨ma,mb,mc,md,e,ha,hb,hc,hd⟩:=H.abn;exact⟨(q.block _ H.lt (hF _ (.inl rfl))).trans H.obj,H.gs.kept q fun k e=>hF k (.inr (.inl e)),H.wf,H.ws.kept q fun k e=>hF k (.inr (.inr e)),H.ks,H.lo,ma,mb,mc,md,e,hm a (.inl rfl) _ ha,hm b (.inr (.inl rfl)) _ hb,hm c (.inr (.inr (.inl rfl))) _ hc,hm d (.inr (.inr (.inr rfl))) _ hd⟩
theorem jm.apart(H:jm B w bb g wd vn vo vl ms s a b c d):(∀k,Gr.Own g vn vo k->k≠bb/\¬Wo.Own wd vl k)/\∀k,Wo.Own wd vl k->k≠bb/\¬Gr.Own g vn vo k:=by
 have h1:¬Gr.Own g vn vo bb:=H.gs.Zi H.obj (by decide) (by decide) (by decide);have h2:¬Wo.Own wd vl bb:=H.ws.Zi H.obj (by decide) (by decide);have h3:∀k,Wo.Own wd vl k->¬Gr.Own g vn vo k:=by
  rintro k (rfl|e);exact H.gs.Zi H.ws.obj.block (by decide) (by decide) (by decide);rcases H.ws.row.2 with⟨rfl,_⟩|⟨g',cap,cur,rfl,_,hh,_⟩;simp[Value.ownBlock]at e;simp[Value.ownBlock]at e;subst e;exact H.gs.Zi hh (by decide) (by decide) (by decide)
 exact⟨fun k hk=>⟨fun e=>h1 (e▸hk),fun e=>h3 k e hk⟩,fun k hk=>⟨fun e=>h2 (e▸hk),h3 k hk⟩⟩
theorem jm.graph{ns':List Nd}{os':List Bool}(H:jm B w bb g wd vn vo vl ms s a b c d)(hg:Gr.Goes g vn vo w Y4 Y3 w')(hgs:GS 184 B w' g Y4 Y3 ns' os')(hwf:Wf ns' os'.length):
 jm B w' bb g wd Y4 Y3 vl ms {s with ns:=ns',os:=os'} a b c d/\kF bb g wd vn vo vl w Y4 Y3 vl w':=by
 have G:kF bb g wd vn vo vl w Y4 Y3 vl w':=⟨hg.kp.mono fun k _ e=> .inr (.inl e),fun k e=>by
  rcases e with e|e|e;exact .inl (.inl e);rcases hg.own k e with e|e;exact .inl (.inr (.inl e));exact .inr e
  ·exact .inl (.inr (.inr e))⟩
 exact⟨H.move G (hg.kp.block _ H.lt fun e=>(H.apart.1 _ e).1 rfl) hgs hwf (H.ws.kept hg.kp fun k e=>(H.apart.2 k e).2) rfl,G⟩
theorem jm.world{cs':List Int}{es':List Wo.ZI}(H:jm B w bb g wd vn vo vl ms s a b c d)(hg:Wo.Goes wd vl w Z4 w')(hws:Wo.WS B w' wd cs' Z4 es'):
 jm B w' bb g wd vn vo Z4 ms {s with cs:=cs',es:=es'} a b c d/\kF bb g wd vn vo vl w vn vo Z4 w':=by
 have G:kF bb g wd vn vo vl w vn vo Z4 w':=⟨hg.kp.mono fun k _ e=> .inr (.inr e),fun k e=>by
  rcases e with e|e|e;exact .inl (.inl e);exact .inl (.inr (.inl e))
  ·rcases hg.own k e with e|e;exact .inl (.inr (.inr e))
   ·exact .inr e⟩
 exact⟨H.move G (hg.kp.block _ H.lt fun e=>(H.apart.2 _ e).1 rfl) (H.gs.kept hg.kp fun k e=>(H.apart.1 k e).2) H.wf hws rfl,G⟩
end
def iT:Except Int V->V
 | .ok v=>v
 | .error _=>v0
def Ba:Except Int V->Int
 | .ok _=>0
 | .error c=>c
def yM(B:Nat)(w:World)(bb g wd:Nat)(vn vo vl:Value)(ms:fA)(s:Sg):Prop:=∃a b c d,jm B w bb g wd vn vo vl ms s a b c d
def s0:Sg:=⟨[],[],Wo.zeros,[],[v0,v0,v0,v0]⟩
def Yh:Prop:=∀(B:Nat)(w:World),B<=w.heap.size->Calls prog 38 #[] w fun e w'=>∃bb g wd vn vo vl,e= .returned (.pointer (some ⟨bb,0,none⟩))/\yM B w' bb g wd vn vo vl [none,none,none,none] s0/\w.heap.size<=bb/\aA w w'
def Wv:Prop:=∀(k a b:Int)(w:World),dH a->dH b->Calls prog 290 #[.int .i64 k,.int .i64 a,.int .i64 b] w fun e w'=>e= .returned (.int .i64 (nP k a b))/\aA w w'
def Db(ms:fA):Prop:=∀(j:Nat)(l:List Ex.V),ms.getD j none=some l->∀x∈l,∀i∈Ex.Zj x,dH i.n
def lX(X:Nat->Prop)(B:Nat)(w:World)(bb g wd:Nat)(vn vo vl:Value)(ms:fA)(s:Sg):Prop:=
 ∃a b c d,jm B w bb g wd vn vo vl ms s a b c d/\∀x,x=a\/x=b\/x=c\/x=d->bu (fun k=>gX bb g wd vn vo vl k\/X k) (fun w=>Is w x.kept x.ao) w
def yJ(X:Nat->Prop)(B bb g wd:Nat)(vn vo vl:Value)(ms:fA)(R:Except Int V×Int×Sg)(w:World)(e:Ending)(w':World):Prop:=
 ∃ao cap Y4 Y3 Z4,e= .returned (.tuple #[.agg #[.int .i64 (iT R.1).kind,.int .i64 (iT R.1).n,.slice ao (iT R.1).l.length cap],.int .i64 R.2.1,.int .i64 (Ba R.1)])/\bu (fun k=>gX bb g wd Y4 Y3 Z4 k\/X k) (fun w=>Is w (iT R.1) ao) w'/\lX X B w' bb g wd Y4 Y3 Z4 ms R.2.2/\kF bb g wd vn vo vl w Y4 Y3 Z4 w'/\∀c∈R.2.2.cs,dH c
section
variable{B bb g wd:Nat}{vn vo vl:Value}{ms:fA}{s:Sg}{a b c d:Pg}{w w':World}{v:V}{va:Option Addr}{vc:Nat}{p f fuel:Int}{X:Nat->Prop}
theorem lX.is(H:lX X B w bb g wd vn vo vl ms s):yM B w bb g wd vn vo vl ms s:=by
 obtain⟨a,b,c,d,h,_⟩:=H;exact⟨a,b,c,d,h⟩
theorem lX.quiet(H:lX X B w bb g wd vn vo vl ms s)(k:aA w w'):lX X B w' bb g wd vn vo vl ms s:=by
 obtain⟨a,b,c,d,h,hk⟩:=H;exact⟨a,b,c,d,h.quiet k,fun x hx=>(hk x hx).step (k.mono fun _ _ e=>e.elim) fun _ _ e=>e⟩
theorem lX.beside{F:Nat->Prop}(H:lX X B w bb g wd vn vo vl ms s)(q:Kp F w w')(hX:∀k,F k->X k)(ho:∀k,gX bb g wd vn vo vl k->¬F k)
 (hI:∀(k:Nat) (cs:Array Value) (t:TypeId),w.heap[k]?=some (.cells cs t (0,0))->t=334\/t=328->¬F k):lX X B w' bb g wd vn vo vl ms s:=by
 obtain⟨a,b,c,d,h,hk⟩:=H;have hs:∀x,x=a\/x=b\/x=c\/x=d->bu (fun k=>gX bb g wd vn vo vl k\/X k) (fun w=>Is w x.kept x.ao) w':=fun x hx=>(hk x hx).step (q.mono fun k _ e=> .inr (hX k e)) fun k _ e=>e;exact⟨a,b,c,d,h.kept q ho fun p hp m hm=>⟨hm.there,fun l hl=>⟨(hm.code l hl).1.kept q hI,(hm.code l hl).2⟩,hm.shape,(hs p hp).mono fun k _ e=> .inl e,hm.good⟩,hs⟩
theorem lX.step{X':Nat->Prop}(H:lX X B w bb g wd vn vo vl ms s)(k:aA w w')(hX:∀i,i<w.heap.size->X' i->X i):lX X' B w' bb g wd vn vo vl ms s:=by
 obtain⟨a,b,c,d,h,hk⟩:=H;refine⟨a,b,c,d,h.quiet k,fun x hx=>(hk x hx).step (k.mono fun _ _ e=>e.elim) fun i hi e=> ?_⟩;rcases e with e|e;exact .inl e;exact .inr (hX i hi e)
end
theorem Bl{w:World}{B:Nat}{e:TypeId}{sz n:Nat}{v:Value}{xs:List Value}(h:w.ownsRow B e sz v n xs){k:Nat}(hk:v.ownBlock=some k):∃cs,w.heap[k]?=some (.cells cs e (0,0)):=by
 rcases h.2 with⟨e1,_⟩|⟨g,cp,cur,e1,_,hg,_⟩;rw[e1]at hk;simp[Value.ownBlock]at hk;rw[e1]at hk;simp[Value.ownBlock]at hk;subst hk;exact⟨_,hg⟩
