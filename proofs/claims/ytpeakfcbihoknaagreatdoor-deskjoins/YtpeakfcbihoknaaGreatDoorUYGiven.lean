/- Parts. -/
import Derived.Test.YtpeakfcbihoknaaGreatDoorUV7
open Go.ChangeShapes Go.WideShapes Go.ChangeAt Go.RowKit
set_option maxRecDepth 8000
set_option maxHeartbeats 4000000
namespace Go.Proofs.YtpeakfcbihoknaaGreatDoor
open Proofs.Tryz
open Gr (Nd ZH nd0 YT mf aS dJ bJ dV mV fO Zx funcOf bS Y0 bN eX YS Wf jg GS fJ fI ku fP YU Zc)
def iq(t:Nat->List Nd)(p i:Nat)(q:Nat):List Nd:=if q<p then t q else if q=p then(t p).take i else[]
theorem OW(t:Nat->List Nd)(p:Nat):iq t p (t p).length=iq t (p+1) 0:=by
 funext q;unfold iq;by_cases h1:q<p;rw[ag h1,ag (by omega)]
 ·rw[af h1];by_cases h2:q=p;rw[ag h2,ag (by omega),h2,aZ]
  ·rw[af h2,af (by omega)];split;simp;rfl
theorem yA(t:Nat->List Nd)(p i:Nat):iq t p i p=(t p).take i:=by unfold iq;rw[af (by omega),ag rfl]
theorem Ct(t:Nat->List Nd)(p i:Nat)(hi:i<(t p).length)(q:Nat):iq t p (i+1) q=if q=p then iq t p i p++[(t p)[i]]else iq t p i q:=by
 by_cases h2:q=p;rw[ag h2,h2,yA,yA,List.take_succ_eq_append_getElem hi];rw[af h2];unfold iq;rw[af h2,af h2]
theorem tY(t:Nat->List Nd)(q:Nat)(hq:q<4):iq t 4 0 q=t q:=by unfold iq;rw[ag hq]
structure GvR(w:World)(a:Nat->Option Addr×Nat)(g:Nat->List Nd)(wr:World):Prop where
 q:aA w wr
 b0:wr.heap[w.heap.size]?=some (.cells #[.slice none 0 0,.slice none 0 0,.slice none 0 0,.slice none 0 0] 275 (0,0))
 b1:wr.heap[w.heap.size+1]?=some (.cells (gfC a g) 275 (0,0))
 row:∀p,p<4->wr.ownsRow (w.heap.size+2) 207 6 (ZK a g p) (g p).length (fI (g p))
 ap:∀p p',p<4->p'<4->p≠p'->∀k,(Value.slice (a p).1 0 0).ownBlock=some k->(Value.slice (a p').1 0 0).ownBlock≠some k
section
variable{w wr w' w6:World}{a:Nat->Option Addr×Nat}{g:Nat->List Nd}{t:Nat->List Nd}{p i:Nat}
theorem GvR.quiet(H:GvR w a g wr)(k:aA wr w'):GvR w a g w':=⟨H.q.trans k,(k.block _ (ae H.b0) fun e=>e).trans H.b0,(k.block _ (ae H.b1) fun e=>e).trans H.b1,fun p hp=>k.row (H.row p hp) fun _ _ e=>e,H.ap⟩
theorem Yr(w:World)(t:Nat->List Nd):GvR w (fun _=>(none,0)) (iq t 0 0) ((w.alloc (.cells #[.slice none 0 0,.slice none 0 0,.slice none 0 0,.slice none 0 0] 275)).alloc (.cells #[.slice none 0 0,.slice none 0 0,.slice none 0 0,.slice none 0 0] 275)):=by
 have hu:∀q,iq t 0 0 q=[]:=fun q=>by unfold iq;rw[af (by omega)];split<;>simp
 refine⟨(Kp.alloc _ _).trans (Kp.alloc _ _),by rw[aB _ _ _ (by simp)];exact ah w _, ?_,fun p hp=> ?_,fun p p' _ _ _ k e=>by simp[Value.ownBlock]at e⟩;have:=Gr.Y2 w (.cells #[.slice none 0 0,.slice none 0 0,.slice none 0 0,.slice none 0 0] 275) (.cells #[.slice none 0 0,.slice none 0 0,.slice none 0 0,.slice none 0 0] 275);simpa [gfC,ZK,hu]using this;have:=bq ((w.alloc (.cells #[.slice none 0 0,.slice none 0 0,.slice none 0 0,.slice none 0 0] 275)).alloc (.cells #[.slice none 0 0,.slice none 0 0,.slice none 0 0,.slice none 0 0] 275)) (w.heap.size+2) 207 6;simpa [ZK,hu,fI]using this
theorem VZ(a:Nat->Option Addr×Nat)(g g':Nat->List Nd)(p:Nat)(hp:p<4)(x:Option Addr)(c:Nat)(hg:∀q,q≠p->g' q=g q):((gfC a g).toList.set p (.slice x (g' p).length c)).toArray=gfC (upd a p (x,c)) g':=by
 obtain rfl|rfl|rfl|rfl:p=0\/p=1\/p=2\/p=3:=by omega
 ·simp[gfC,ZK,upd,hg 1 (by decide),hg 2 (by decide),hg 3 (by decide)]
 ·simp[gfC,ZK,upd,hg 0 (by decide),hg 2 (by decide),hg 3 (by decide)]
 ·simp[gfC,ZK,upd,hg 0 (by decide),hg 1 (by decide),hg 3 (by decide)]
 ·simp[gfC,ZK,upd,hg 0 (by decide),hg 1 (by decide),hg 2 (by decide)]
theorem GvR.push(H:GvR w a (iq t p i) wr)(hp:p<4)(hi:i<(t p).length){o:Obj}{gg cap:Nat}(hr:w6.ownsRow (w.heap.size+2) 207 6 (.slice (some ⟨gg,0,none⟩) ((iq t p i p).length+1) cap) ((iq t p i p).length+1) (fI (iq t p i p)++((t p)[i]).cells))(hg:(wr.alloc o).grownBy w6 (ZK a (iq t p i) p).ownBlock)(hat:(ZK a (iq t p i) p).ownBlock=some gg\/wr.heap.size+1<=gg):
 GvR w (upd a p (some ⟨gg,0,none⟩,cap)) (iq t p (i+1)) (w6.setCell ⟨w.heap.size+1,p,none⟩ (.slice (some ⟨gg,0,none⟩) ((iq t p i p).length+1) cap)):=by
 have hself:iq t p (i+1) p=iq t p i p++[(t p)[i]]:=by rw[Ct t p i hi,ag rfl]
 have hoth:∀q,q≠p->iq t p (i+1) q=iq t p i q:=fun q hq=>by rw[Ct t p i hi,af hq]
 have hlen:(iq t p (i+1) p).length=(iq t p i p).length+1:=by rw[hself];simp
 have hb0:=ae H.b0;have hb1:=ae H.b1;have hsz:=hg.size;simp at hsz;have ob:∀q,q<4->∀k,(ZK a (iq t p i) q).ownBlock=some k->w.heap.size+2<=k/\k<wr.heap.size:=fun q hq k e=>(H.row q hq).lt k e;have far:∀k,k<wr.heap.size->(ZK a (iq t p i) p).ownBlock≠some k->w6.heap[k]?=wr.heap[k]?:=fun k hk hn=>by
  rw[hg.block k (by simp;omega) (fun e=>hn e.symm),aB _ _ _ hk]
 have low:∀k,k<w.heap.size+2->k<wr.heap.size->w6.heap[k]?=wr.heap[k]?:=fun k hk hk2=>far k hk2 fun e=>by have:=(ob p hp k e).1;omega
 have k6:=bF w6 (w.heap.size+1) p (.slice (some ⟨gg,0,none⟩) ((iq t p i p).length+1) cap);have b1':w6.heap[w.heap.size+1]?=some (.cells ((gfC a (iq t p i)).toList).toArray 275 (0,0)):=by rw[low _ (by omega) hb1,H.b1]
 have hgg:w.heap.size+2<=gg:=by have:=(hr.lt gg rfl).1;exact this
 refine⟨⟨?_, ?_, ?_, ?_,fun k hk _=> ?_⟩, ?_, ?_,fun q hq=> ?_,fun q q' hq hq' hne k e=> ?_⟩;rw[k6.os,hg.os];exact H.q.os;rw[k6.tape,hg.tape];exact H.q.tape;rw[k6.output,hg.output];exact H.q.output;have h1:=H.q.size;have h2:=k6.size;omega;have h1:=H.q.size;rw[k6.block k (by omega) (by omega),low k (by omega) (by omega)];exact H.q.block k hk fun e=>e;rw[k6.block _ (by omega) (by omega),low _ (by omega) hb0];exact H.b0;have:=oG b1' p (.slice (some ⟨gg,0,none⟩) ((iq t p i p).length+1) cap);rw[<-hlen,VZ a _ (iq t p (i+1)) p hp _ _ hoth]at this;rw[<-hlen];exact this
 ·by_cases e:q=p;subst e;have e1:ZK (upd a q (some ⟨gg,0,none⟩,cap)) (iq t q (i+1)) q= .slice (some ⟨gg,0,none⟩) ((iq t q i q).length+1) cap:=(by simp[ZK,upd,hlen]);rw[e1,hlen,hself,Gr.Z9];exact k6.row hr fun k ek e2=>by simp[Value.ownBlock]at ek;omega
  ·have e1:ZK (upd a p (some ⟨gg,0,none⟩,cap)) (iq t p (i+1)) q=ZK a (iq t p i) q:=(by simp[ZK,upd,hoth q e,e]);rw[e1,hoth q e];have hrq:=H.row q hq;refine k6.row ?_ fun k ek e2=>by have:=(ob q hq k ek).1;omega
   refine⟨hrq.1, ?_⟩;rcases hrq.2 with hn|⟨g',cp,cur,ev,hb,ae1,rest⟩;exact .inl hn;refine .inr ⟨g',cp,cur,ev,hb, ?_,rest⟩;rw[far g' (ae ae1) (fun e2=> ?_)];exact ae1;have h1:(Value.slice (a q).1 0 0).ownBlock=some g':=(iQ _ _ _ _ _).trans (show(ZK a (iq t p i) q).ownBlock=some g' by rw[ev];rfl);exact H.ap q p hq hp e g' h1 ((iQ _ _ _ _ _).trans e2)
 ·unfold upd at e|-;by_cases e1:q=p;rw[ag e1]at e;rw[af (by omega)];simp[Value.ownBlock]at e;subst e;intro e3;rcases hat with e4|e4;exact H.ap q' p hq' hp (by omega) gg e3 ((iQ _ _ _ _ _).trans e4);have:=(ob q' hq' gg ((iQ _ _ _ _ _).trans e3)).2;omega;rw[af e1]at e;by_cases e2:q'=p;rw[ag e2];intro e3;simp[Value.ownBlock]at e3;subst e3;rcases hat with e4|e4;exact H.ap q p hq hp e1 gg e ((iQ _ _ _ _ _).trans e4);have:=(ob q hq gg ((iQ _ _ _ _ _).trans e)).2;omega;rw[af e2];exact H.ap q q' hq hq' hne k e
end
theorem zQ{w:World}{g:Nat}{a b c d:Value}{t:TypeId}(h:w.heap[g]?=some (.cells #[a,b,c,d] t (0,0))):(w.cell? ⟨g,0,none⟩=some a/\w.cell? ⟨g,1,none⟩=some b/\w.cell? ⟨g,2,none⟩=some c/\w.cell? ⟨g,3,none⟩=some d)/\w.frozen? ⟨g,0,none⟩=false/\w.frozen? ⟨g,1,none⟩=false/\w.frozen? ⟨g,2,none⟩=false/\w.frozen? ⟨g,3,none⟩=false:=by
 refine⟨⟨?_, ?_, ?_, ?_⟩,aG w g 0 _ t h,aG w g 1 _ t h,aG w g 2 _ t h,aG w g 3 _ t h⟩<;>simp[World.cell?,h]
theorem RP{w:World}{g:Nat}{x0 x1 x2 x3:Value}{t:TypeId}(h:w.heap[g]?=some (.cells #[x0,x1,x2,x3] t (0,0)))(t0 t1 t2 t3:Value):((((w.setCell ⟨g,0,none⟩ t0).setCell ⟨g,1,none⟩ t1).setCell ⟨g,2,none⟩ t2).setCell ⟨g,3,none⟩ t3).heap[g]?=some (.cells #[t0,t1,t2,t3] t (0,0)):=by
 simp[World.setCell,aR,h]
theorem QR(w:World)(x:Nat)(a b c d:Value):Kp (fun k=>k=x) w ((((w.setCell ⟨x,0,none⟩ a).setCell ⟨x,1,none⟩ b).setCell ⟨x,2,none⟩ c).setCell ⟨x,3,none⟩ d):=(((bF w x 0 a).trans (bF _ x 1 b)).trans (bF _ x 2 c)).trans (bF _ x 3 d)
theorem Er{h:Hs}{p:Nat}(hp:p<4):fC h p=h.hs.getD p []:=by unfold fC;rw[ag (by omega),Int.toNat_natCast]
structure GvI(w wq w2:World)(a:Nat->Option Addr×Nat)(t:Nat->List Nd)(p k:Nat)(wr:World):Prop where
 s:GvR w a (iq t p k) wr
 z:∀q,p<q->a q=(none,0)
 kp:Kp (fun i=>w.heap.size<=i/\i<wq.heap.size) w2 wr
 own:∀i,(Value.slice (a p).1 0 0).ownBlock=some i->w2.heap.size<=i
section
variable{w wq w2 wr w' w6:World}{a:Nat->Option Addr×Nat}{t:Nat->List Nd}{p k:Nat}
theorem GvI.quiet(H:GvI w wq w2 a t p k wr)(q:aA wr w'):GvI w wq w2 a t p k w':=⟨H.s.quiet q,H.z,H.kp.trans (q.mono fun _ _ e=>e.elim),H.own⟩
theorem GvI.push(H:GvI w wq w2 a t p k wr)(hq:w.heap.size+2<=wq.heap.size)(hp:p<4)(hi:k<(t p).length){nd:Nd}(hnd:(t p)[k]=nd){o:Obj}{gg cap:Nat}(hr:w6.ownsRow (w.heap.size+2) 207 6 (.slice (some ⟨gg,0,none⟩) ((iq t p k p).length+1) cap) ((iq t p k p).length+1) (fI (iq t p k p)++nd.cells))(hg:(wr.alloc o).grownBy w6 (ZK a (iq t p k) p).ownBlock)(hat:(ZK a (iq t p k) p).ownBlock=some gg\/wr.heap.size+1<=gg):
 GvI w wq w2 (upd a p (some ⟨gg,0,none⟩,cap)) t p (k+1) (w6.setCell ⟨w.heap.size+1,p,none⟩ (.slice (some ⟨gg,0,none⟩) ((iq t p k p).length+1) cap)):=by
 have k6:=bF w6 (w.heap.size+1) p (.slice (some ⟨gg,0,none⟩) ((iq t p k p).length+1) cap);have ob:∀i,(ZK a (iq t p k) p).ownBlock=some i->w2.heap.size<=i:=fun i e=>H.own i ((iQ _ _ _ _ _).trans e);have hsz:=hg.size;simp at hsz;have hkz:=H.kp.size;subst hnd;refine⟨H.s.push hp hi hr hg hat,fun q e=> ?_,⟨?_, ?_, ?_, ?_,fun i h1 hn=> ?_⟩,fun i e=> ?_⟩;unfold upd;rw[af (by omega)];exact H.z q e;rw[k6.os,hg.os];exact H.kp.os;rw[k6.tape,hg.tape];exact H.kp.tape;rw[k6.output,hg.output];exact H.kp.output;have:=k6.size;omega;rw[k6.block i (by omega) (by omega),hg.block i (by simp;omega) (fun e=>by have:=ob i e.symm;omega),aB _ _ _ (by omega)];exact H.kp.block i h1 hn;unfold upd at e;rw[ag rfl]at e;simp[Value.ownBlock]at e;subst e;rcases hat with e|e;exact ob _ e;omega
end
theorem ML{w wq w2 wr w6:World}{a:Nat->Option Addr×Nat}{t:Nat->List Nd}{p k:Nat}(H:GvI w wq w2 a t p k wr)(hp:p<4){o:Obj}(hg:(wr.alloc o).grownBy w6 (ZK a (iq t p k) p).ownBlock):w6.cell? ⟨w.heap.size+1,p,none⟩=some (ZK a (iq t p k) p)/\w6.frozen? ⟨w.heap.size+1,p,none⟩=false:=by
 have hb1:=ae H.s.b1;have e:w6.heap[w.heap.size+1]?=some (.cells (gfC a (iq t p k)) 275 (0,0)):=by
  rw[hg.block _ (by simp;omega) (fun e=>by have:=((H.s.row p hp).lt _ e.symm).1;omega),aB _ _ _ hb1];exact H.s.b1
 exact⟨pU e p hp,aG w6 _ p _ 275 e⟩
theorem JE{X:Nat->Prop}{P:Yx}{q:Hq}{h:Hs}{tr:List (Sp×Int)}{n:Nat}{w:World}(H:YN X P q h tr n w)(hl:tr.length<=1000):Calls prog 196 #[.pointer (some ⟨P.wb,0,none⟩)] w fun e w'=>∃a,e= .returned (.agg (gfC a (fun p=>cZ tr p)))/\GfS (w.heap.size+2) a (fun p=>cZ tr p) w'/\aA w w':=by
 obtain⟨i0,hi,hz0,hz1,hz2⟩:=bM Gr.gW;have HS:=hid H;have H0:=hid (Yr w (fun p=>cZ tr p));have HF:=hid (H.few (by omega));have HL:=hid (fun p:Nat=>(show(cZ tr p).length<=1000 from by unfold cZ;rw[bE];have:=List.length_filter_le (sS p) tr;omega));clear H;go_enter func196,ntmps196;go_wp2_with fail;go_loopw [9] (fun i wr=>∃p:Nat,i= .int .i64 p/\p<=4/\Hid (∃a,GvR w a (iq (fun p=>cZ tr p) p 0) wr/\∀q,p<=q->a q=(none,0))) (fun i _=>4-(intOf i).toNat);case atStart=>exact⟨0,rfl,by decide,hid ⟨_,H0.out,fun _ _=>rfl⟩⟩
 case round=>
  clear H0;rename World=>wq;obtain⟨p,rfl,hp,D⟩:=hrel;by_cases hlt:p<4
  ·have hp4:(p:Int)<4:=(by omega);obtain⟨a,hG⟩:=D.out;have HG:=hid hG;have hlg:(fC h p).length=(cZ tr p).length:=(by rw[Er hlt,<-HS.out.hand.abg p hlt];simp);have HSX:=HS.out.s.step (X':=fun k=>(k=P.wb\/X k)\/(w.heap.size<=k/\k<wq.heap.size)) hG.1.q (fun i hi e=>by
    rcases e with e|e;exact e
    ·omega) (fun i e=>by
    rcases e with e|e;exact az (HS.out.s.xo i e).1 hG.1.q.size
    ·exact e.2)
   have HH:=hid (DF _ P.h q h wq p HSX HF.out (VP _ (by omega)));have y0:=(HS.out.quiet hG.1.q).cell;have HQZ:=hid (show w.heap.size+2<=wq.heap.size from by have:=ae hG.1.b1;omega);rw[hlg]at HH;have HLG:=hid hlg;have hll:=HL.out p;clear D hG HSX hlg;go_wp2_with (go_at_call 114;refine HH.out.mono ?_;rintro e w2 ⟨ao,cap,rfl,hf2,q2⟩;have H2:=gp hf2 q2.size (show GvI w wq w2 a (fun p=>cZ tr p) p 0 w2 from⟨HG.out.1.quiet q2,fun q e=>HG.out.2 q (by omega),Kp.refl _ _,fun i e=>by rw[HG.out.2 p (aj _)]at e;simp[Value.ownBlock]at e⟩);clear hf2 q2);go_loopw [19] (fun i wr=>∃k:Nat,i= .int .i64 k/\k<=(cZ tr p).length/\Hid (∃a,GvI w wq w2 a (fun p=>cZ tr p) p k wr)) (fun i _=>(cZ tr p).length-(intOf i).toNat);case atStart=>exact⟨0,rfl,aP _,hid ⟨_,H2.out.2.2⟩⟩
   case round=>
    clear HG HH;rename World=>wr;obtain⟨k,rfl,hk,D⟩:=hrel;by_cases hlk:k<(cZ tr p).length
    ·have ais:(k:Int)<((cZ tr p).length:Int):=(by omega);obtain⟨a,hG⟩:=D.out;have hfo:Fo wr (fC h p) ao:=H2.out.1 wr (hG.kp.mono fun i _ e=> .inr (.inr e));have hkh:k<(fC h p).length:=(by rw[HLG.out];exact hlk);obtain⟨b,off,rfl,⟨c0,c1⟩,ai,ci,c2,_⟩:=hfo.get k hkh;have hv:YS h.s.ns (fC h p)[k].n=(cZ tr p)[k]:=by
      have e1:=HS.out.hand.abg p hlt;rw[<-Er hlt]at e1;have e2:((fC h p).map (fun v=>YS h.s.ns v.n))[k]'(by simpa using hkh)=(cZ tr p)[k]:=(by simp only[e1]);rw[<-e2,List.getElem_map]
     have HVT:YT h.s.ns.length (fC h p)[k].n=true:=HS.out.hand.there p hlt _ (by rw[<-Er hlt];exact aI hkh);generalize(fC h p)[k]=v at*;obtain⟨wm,hwm⟩:∃wm,wm=wr.alloc (.cells #[.int .i64 v.kind,.int .i64 v.n,.slice ai v.l.length ci] 71):=⟨_,rfl⟩;have qm:aA wr wm:=(by rw[hwm];exact Kp.alloc _ _);have bm:wm.heap[wr.heap.size]?=some (.cells #[.int .i64 v.kind,.int .i64 v.n,.slice ai v.l.length ci] 71 (0,0)):=(by rw[hwm];exact ah wr _);have SM:=HS.out.quiet (hG.s.q.trans qm);have HTG:=hid (fun(w':World) (z:aA wm w')=>Gr.aaW ((SM.quiet z).s).gs SM.s.ok.inv.wf v.n);have hth:YT h.s.ns.length v.n=true:=HVT;rw[hth,hv]at HTG;have ZW:=hid (fun(w':World) (z:aA wm w')=>show w'.cell? ⟨P.wb,0,none⟩=some (.pointer (some ⟨P.h.hb,0,none⟩))/\w'.cell? ⟨P.h.hb,0,none⟩=some (.pointer (some ⟨P.h.bb,0,none⟩))/\w'.cell? ⟨P.h.bb,0,none⟩=some (.pointer (some ⟨P.h.g,0,none⟩))/\w'.cell? ⟨wr.heap.size,1,none⟩=some (.int .i64 v.n)from by
      obtain⟨a1,a2,a3⟩:=(SM.quiet z).s.cells;exact⟨(SM.quiet z).cell,a1,a2,z.cell (aM bm).2.1 fun e=>e⟩)
     have HG:=hid (hG.quiet qm);have HGK:=hid hlk;generalize hnd:(cZ tr p)[k]=nd at*;obtain⟨tp,tg,tt,tc,tl,tf⟩:=nd;rw[show∀n:Nd,n.agg= .agg #[.int .i64 n.parent,.int .i64 n.gate,.int .i64 n.Y1,.int .i64 n.cell,.int .i64 n.plugin,.int .i64 n.func]from fun _=>rfl]at HTG;simp only at HTG;have HND:=hid hnd;clear D hG hfo hkh hv SM HVT hth hlk hnd;go_upto_region 8 with fail;rw[<-hwm];clear hwm;obtain⟨s1,s2,s3,s4⟩:=ZW.out wm (Kp.refl _ _);go_cut [7,8]from 23 to 38 (fun pt okv wx=>∃tb,pt= .pointer (some ⟨tb,0,none⟩)/\okv= .bool true/\Hid (aA wm wx/\wx.heap[tb]?=some (.cells #[.int .i64 tp,.int .i64 tg,.int .i64 tt,.int .i64 tc,.int .i64 tl,.int .i64 tf] 207 (0,0))));case first=>
      have z0:aA wm wm.drew:=Kp.drew _;obtain⟨s1a,s2a,s3a,s4a⟩:=ZW.out (wm.alloc (.cells #[.int .i64 0,.int .i64 0,.int .i64 0,.int .i64 0,.int .i64 0,.int .i64 0] 207)) (Kp.alloc _ _);go_region_law ((go_simp;go_at_call 227;refine(HTG.out _ (by first|with_reducible exact Kp.drew _|with_reducible exact(Kp.alloc _ _).trans (Kp.drew _))).mono ?_;rintro e wt ⟨rfl,qt⟩;first
       |(have bt:=(qt.block wm.heap.size (by simp) (fun e=>e)).trans (ah wm (.cells #[.int .i64 0,.int .i64 0,.int .i64 0,.int .i64 0,.int .i64 0,.int .i64 0] 207));have zt:=((Kp.alloc (F:=fun _=>False) wm (.cells #[.int .i64 0,.int .i64 0,.int .i64 0,.int .i64 0,.int .i64 0,.int .i64 0] 207)).trans (Kp.drew _)).trans qt;obtain⟨⟨o0,o1,o2,o3,o4,o5⟩,f0,f1,f2,f3,f4,f5⟩:=uL bt;have hzt:=ae bt;have ZB:=bC (zt.fresh ((Vn wt wm.heap.size (.int .i64 tp) (.int .i64 tg) (.int .i64 tt) (.int .i64 tc) (.int .i64 tl) (.int .i64 tf)).mono fun i _ e=>by omega)) (Re bt (.int .i64 tp) (.int .i64 tg) (.int .i64 tt) (.int .i64 tc) (.int .i64 tl) (.int .i64 tf));clear z0 qt bt)
       |(have zt:=z0.trans qt;have ZT:=bC zt (ah wt (.cells #[.int .i64 tp,.int .i64 tg,.int .i64 tt,.int .i64 tc,.int .i64 tl,.int .i64 tf] 207));clear z0 qt)))
      all_goals
       go_wp2_with fail;go_meet;first
        |exact⟨_,rfl,rfl,hid ⟨ZT.out.1.trans (Kp.alloc _ _),ZT.out.2⟩⟩
        |exact⟨_,rfl,rfl,hid ⟨ZB.out.1,ZB.out.2⟩⟩
     case rest=>
      obtain⟨tb,rfl,rfl,K1⟩:=hcut;have acU:(iq (fun p=>cZ tr p) p k p).length=k:=(by rw[yA,dK];have:=HGK.out;omega);have HGC:=HG.out.quiet K1.out.1;have hrow:=HGC.s.row p hlt;have hcell:=pU HGC.s.b1 p hlt;have hcell2:=(Kp.alloc (F:=fun _=>False) wc (.cells #[.int .i64 tp,.int .i64 tg,.int .i64 tt,.int .i64 tc,.int .i64 tl,.int .i64 tf] 207)).cell hcell fun e=>e;have hsz:=hid (ae HGC.s.b1);obtain⟨t0,t1,t2,t3,t4,t5⟩:=Gr.six K1.out.2;unfold ZK at hcell hcell2 hrow;rw[acU]at hcell hcell2 hrow;generalize hap:a p=ap at*;obtain⟨apo,apc⟩:=ap;have HC:=bC HGC hap;have HR:=hid hrow;have HU:=hid acU;clear HGC hrow acU hap;go_wp2_with fail;go_region_law ((refine dM _ (by rfl) _ _ _ (by rfl) (w.heap.size+2) 207 i0 _ 6 48 Gr.gB hi hz0 hz1 hz2 rfl (by omega) (.slice apo k apc) k (fI (iq (fun p=>cZ tr p) p k p)) (by rfl) ((HR.out.alloc _).drew) ⟨wc.heap.size,0,none⟩ 1 1 [.int .i64 tp,.int .i64 tg,.int .i64 tt,.int .i64 tc,.int .i64 tl,.int .i64 tf] (by rfl) (by rfl) (Gr.ZQ (t:=207) (ah wc _)) (Gr.abj ⟨tp,tg,tt,tc,tl,tf⟩) (by omega) (by unfold maxLen;omega) (by omega) (by have:=hsz.out;simp;omega) (wc.heap.size+1) (by simp) ?_;intro gg cap2 w1 hown1 hgrow hat hlt1;have hD0:=HC.out.1.push HQZ.out hlt HGK.out HND.out (o:= .cells #[.int .i64 tp,.int .i64 tg,.int .i64 tt,.int .i64 tc,.int .i64 tl,.int .i64 tf] 207) (gg:=gg) (cap:=cap2) (by rw[HU.out];exact hown1) (by unfold ZK;rw[HC.out.2,HU.out];exact rW hgrow) (by unfold ZK;rw[HC.out.2,HU.out];rcases hat with e|e;exact .inl e;exact .inr (Nat.le_of_eq e.symm));rw[HU.out]at hD0;obtain⟨cc,ff⟩:=ML HC.out.1 hlt (by unfold ZK;rw[HC.out.2,HU.out];exact rW hgrow);unfold ZK at cc;rw[HC.out.2,HU.out]at cc;have hD:=hid hD0;clear hown1 hgrow hat hlt1 hD0));all_goals
       go_wp2_with fail;refine⟨⟨k+1,by go_num,by have:=HGK.out;omega,hid ⟨_,hD.out⟩⟩,by have:=HGK.out;simp[intOf];omega⟩
    ·obtain rfl:k=(cZ tr p).length:=(by omega);have hnl:¬(((cZ tr p).length:Int)<((cZ tr p).length:Int)):=(by omega);obtain⟨a,hG⟩:=D.out;have HG:=hid hG;clear D hG;go_wp2_with fail;refine⟨⟨p+1,by go_num,by omega,hid ⟨a,by rw[<-OW];exact HG.out.s,fun q e=>HG.out.z q (by omega)⟩⟩,by simp[intOf];omega⟩
  ·obtain rfl:p=4:=(by omega);have hnl:¬((4:Int)<4):=(by omega);obtain⟨a,hG,_⟩:=D.out;have HG:=hid hG;obtain⟨m0,m1,m2,m3⟩:=xO hG.b1;obtain⟨⟨e0,e1,e2,e3⟩,f0,f1,f2,f3⟩:=zQ hG.b0;have hz:=ae hG.b0;have hu0:=tY (fun p=>cZ tr p) 0 (by decide);have hu1:=tY (fun p=>cZ tr p) 1 (by decide);have hu2:=tY (fun p=>cZ tr p) 2 (by decide);have hu3:=tY (fun p=>cZ tr p) 3 (by decide);unfold ZK at m0 m1 m2 m3;rw[hu0]at m0;rw[hu1]at m1;rw[hu2]at m2;rw[hu3]at m3;have HU:=jR hu0 hu1 hu2 hu3;clear D hG hu0 hu1 hu2 hu3;generalize hn0:(cZ tr (0:Nat)).length=n0 at*;generalize hn1:(cZ tr (1:Nat)).length=n1 at*;generalize hn2:(cZ tr (2:Nat)).length=n2 at*;generalize hn3:(cZ tr (3:Nat)).length=n3 at*;have HN:=jR hn0 hn1 hn2 hn3;clear hn0 hn1 hn2 hn3;go_wp2_with fail;have b4:=RP HG.out.b0 (.slice (a 0).1 n0 (a 0).2) (.slice (a 1).1 n1 (a 1).2) (.slice (a 2).1 n2 (a 2).2) (.slice (a 3).1 n3 (a 3).2);have k4:=QR wq w.heap.size (.slice (a 0).1 n0 (a 0).2) (.slice (a 1).1 n1 (a 1).2) (.slice (a 2).1 n2 (a 2).2) (.slice (a 3).1 n3 (a 3).2);generalize(((wq.setCell ⟨w.heap.size,0,none⟩ (.slice (a 0).1 n0 (a 0).2)).setCell ⟨w.heap.size,1,none⟩ (.slice (a 1).1 n1 (a 1).2)).setCell ⟨w.heap.size,2,none⟩ (.slice (a 2).1 n2 (a 2).2)).setCell ⟨w.heap.size,3,none⟩ (.slice (a 3).1 n3 (a 3).2)=W4 at*;obtain⟨⟨z0,z1,z2,z3⟩,_⟩:=zQ b4;refine au (v:= .agg #[.slice (a 0).1 n0 (a 0).2,.slice (a 1).1 n1 (a 1).2,.slice (a 2).1 n2 (a 2).2,.slice (a 3).1 n3 (a 3).2]) (by simp[results,results196,go_sem,z0,z1,z2,z3]) rfl ⟨a, ?_,⟨fun p hp=> ?_,fun p _=>aF (HL.out p) (by decide)⟩,HG.out.q.fresh (k4.mono fun i _ e=>Nat.le_of_eq e.symm)⟩;rw[<-HN.out.1,<-HN.out.2.1,<-HN.out.2.2.1,<-HN.out.2.2.2];rfl;have hr:=HG.out.row p hp;unfold ZK at hr|-;rw[tY _ p hp]at hr;exact k4.row hr fun i e e2=>by have:=(hr.lt i e).1;omega
