/- Parts. -/
import Derived.Test.YtpeakfcbihoknaaGreatDoorUV2
import Derived.WalkLawsBesides
open Go.ChangeShapes Go.WideShapes Go.ChangeAt Go.RowKit
set_option maxRecDepth 8000
set_option maxHeartbeats 400000
namespace Go.Proofs.YtpeakfcbihoknaaGreatDoor
open Proofs.Tryz
namespace Ex
theorem Bc{a b:Bool}(h:a=b):Ending.returned (.bool a)= .returned (.bool b):=by rw[h]
theorem Dm(z:Int)(w:World):Calls prog 184 #[.int .u8 z] w fun e w'=>e= .returned (.bool (AV z))/\w'=w:=by
 go_enter func184,ntmps184;go_wp2;all_goals
  go_ret;exact⟨Bc (by simp[AV, *]),rfl⟩
theorem kY(z:Int)(w:World):Calls prog 211 #[.int .u8 z] w fun e w'=>e= .returned (.bool (kS z))/\w'=w:=by
 by_cases h:97<=z;all_goals
  go_enter func211,ntmps211;go_wp2;go_ret;exact⟨Bc (by simp only[kS];simp;try omega),rfl⟩
theorem uW(z:Int)(w:World):Calls prog 212 #[.int .u8 z] w fun e w'=>e= .returned (.bool (tC z))/\w'=w:=by
 by_cases h:48<=z;all_goals
  go_enter func212,ntmps212;go_wp2;go_ret;exact⟨Bc (by simp only[tC];simp;try omega),rfl⟩
theorem CF(l:List UInt8)(i:Nat)(w:World)(hl:l.length<=9000)(hi:i<=l.length):
 Calls prog 183 #[.string ⟨l.toArray⟩,.int .i64 i,.func (.func 184) #[] #[]] w fun e w'=>e= .returned (.int .i64 (gF gI l i))/\w'=w:=by
 have hz:(ByteArray.mk l.toArray).size=l.length:=by simp[ByteArray.size]
 go_enter func183,ntmps183;go_wp2;go_loop [1] (fun n=>∃k:Nat,k<=l.length/\n= .int .i64 k/\Hid (gF gI l k=gF gI l i)) (fun n=>l.length-(intOf n).toNat);case atStart=>exact⟨i,hi,rfl,rfl⟩
 case round=>
  obtain⟨k,hk,rfl,hs⟩:=hrel;by_cases hlt:k<l.length
  ·cases hb:gI l[k]with
   |true=>
    have hb2:AV (((ByteArray.mk l.toArray)[k]'(by omega)).toNat:Int)=true:=hb;have HB:=hid hb;clear hb;go_wp2_with (go_at_call 184;refine(Dm _ _).mono ?_;rintro e w' ⟨rfl,rfl⟩);go_round;case rel=>exact⟨k+1,by omega,by go_num,(xx gI l k hlt HB.out).symm.trans hs.out⟩
    case measure=>simp[intOf];omega
   |false=>
    have hb2:AV (((ByteArray.mk l.toArray)[k]'(by omega)).toNat:Int)=false:=hb;have HB:=hid hb;clear hb;go_wp2_with (go_at_call 184;refine(Dm _ _).mono ?_;rintro e w' ⟨rfl,rfl⟩);go_ret;exact⟨by rw[<-hs.out,zy gI l k hlt HB.out];rfl,rfl⟩
  ·go_wp2;go_ret;exact⟨by rw[<-hs.out,wK gI l k (by omega)];rfl,rfl⟩
theorem Kh(l:List UInt8)(i:Nat)(w:World)(hl:l.length<=9000)(hi:i<=l.length):
 Calls prog 183 #[.string ⟨l.toArray⟩,.int .i64 i,.func (.func 211) #[] #[]] w fun e w'=>e= .returned (.int .i64 (gF gJ l i))/\w'=w:=by
 have hz:(ByteArray.mk l.toArray).size=l.length:=by simp[ByteArray.size]
 go_enter func183,ntmps183;go_wp2;go_loop [1] (fun n=>∃k:Nat,k<=l.length/\n= .int .i64 k/\Hid (gF gJ l k=gF gJ l i)) (fun n=>l.length-(intOf n).toNat);case atStart=>exact⟨i,hi,rfl,rfl⟩
 case round=>
  obtain⟨k,hk,rfl,hs⟩:=hrel;by_cases hlt:k<l.length
  ·cases hb:gJ l[k]with
   |true=>
    have hb2:kS (((ByteArray.mk l.toArray)[k]'(by omega)).toNat:Int)=true:=hb;have HB:=hid hb;clear hb;go_wp2_with (go_at_call 211;refine(kY _ _).mono ?_;rintro e w' ⟨rfl,rfl⟩);go_round;case rel=>exact⟨k+1,by omega,by go_num,(xx gJ l k hlt HB.out).symm.trans hs.out⟩
    case measure=>simp[intOf];omega
   |false=>
    have hb2:kS (((ByteArray.mk l.toArray)[k]'(by omega)).toNat:Int)=false:=hb;have HB:=hid hb;clear hb;go_wp2_with (go_at_call 211;refine(kY _ _).mono ?_;rintro e w' ⟨rfl,rfl⟩);go_ret;exact⟨by rw[<-hs.out,zy gJ l k hlt HB.out];rfl,rfl⟩
  ·go_wp2;go_ret;exact⟨by rw[<-hs.out,wK gJ l k (by omega)];rfl,rfl⟩
theorem Cm(l:List UInt8)(i:Nat)(w:World)(hl:l.length<=9000)(hi:i<=l.length):
 Calls prog 183 #[.string ⟨l.toArray⟩,.int .i64 i,.func (.func 212) #[] #[]] w fun e w'=>e= .returned (.int .i64 (gF jG l i))/\w'=w:=by
 have hz:(ByteArray.mk l.toArray).size=l.length:=by simp[ByteArray.size]
 go_enter func183,ntmps183;go_wp2;go_loop [1] (fun n=>∃k:Nat,k<=l.length/\n= .int .i64 k/\Hid (gF jG l k=gF jG l i)) (fun n=>l.length-(intOf n).toNat);case atStart=>exact⟨i,hi,rfl,rfl⟩
 case round=>
  obtain⟨k,hk,rfl,hs⟩:=hrel;by_cases hlt:k<l.length
  ·cases hb:jG l[k]with
   |true=>
    have hb2:tC (((ByteArray.mk l.toArray)[k]'(by omega)).toNat:Int)=true:=hb;have HB:=hid hb;clear hb;go_wp2_with (go_at_call 212;refine(uW _ _).mono ?_;rintro e w' ⟨rfl,rfl⟩);go_round;case rel=>exact⟨k+1,by omega,by go_num,(xx jG l k hlt HB.out).symm.trans hs.out⟩
    case measure=>simp[intOf];omega
   |false=>
    have hb2:tC (((ByteArray.mk l.toArray)[k]'(by omega)).toNat:Int)=false:=hb;have HB:=hid hb;clear hb;go_wp2_with (go_at_call 212;refine(uW _ _).mono ?_;rintro e w' ⟨rfl,rfl⟩);go_ret;exact⟨by rw[<-hs.out,zy jG l k hlt HB.out];rfl,rfl⟩
  ·go_wp2;go_ret;exact⟨by rw[<-hs.out,wK jG l k (by omega)];rfl,rfl⟩
structure Laid(w:World):Prop where
 tab:Lib.TabIs prog w "internal/strconv.uint64pow10" .u64 Lib.pow10Tab
 syn:∃tp p,w.var? prog "strconv.ErrSyntax" =some #[.iface tp p]
 ran:∃tp p,w.var? prog "strconv.ErrRange" =some #[.iface tp p]
theorem DX{w w':World}{n:String}{cs:Array Value}(h:w.var? prog n=some cs)(hb:Below w.heap.size w w'):w'.var? prog n=some cs:=by
 unfold World.var? at*;cases hg:prog.globalNamed n with
 |none=>simp[hg]at h
 |some g=>
  simp only[hg,Option.bind_some]at h|-;have hlt:g<w.heap.size:=by
   rcases dO g w.heap.size with h'|h';exact h';rw[Array.getElem?_eq_none h']at h;simp at h
  rw[hb.block g hlt];exact h
theorem Laid.low{w w':World}(h:Laid w)(hb:Below w.heap.size w w'):Laid w':=by
 refine⟨DX h.tab hb, ?_, ?_⟩;obtain⟨tp,p,e⟩:=h.syn;exact⟨tp,p,DX e hb⟩;obtain⟨tp,p,e⟩:=h.ran;exact⟨tp,p,DX e hb⟩
theorem Laid.quiet{w w':World}(h:Laid w)(q:aA w w'):Laid w':=h.low q.low
theorem aad(w:World)(k:Nat)(os:Array Obj):aA w (Go.Sort.grow (w.drewN k) os):=
 ⟨rfl,rfl,rfl,by simp,fun i hi _=>Go.Sort.heap_grow_old (w.drewN k) os hi⟩
theorem Zz(n:Int)(hn:dH n)(w:World)(ht:Laid w):Calls prog 37 #[.int .i64 n,.int .i64 10] w fun e w'=>e= .returned (.string ⟨(Lib.itoa n).toArray⟩)/\aA w w':=by
 refine(Av n hn.1 hn.2 w ht.tab).mono ?_;rintro e w' ⟨rfl,k,os,rfl⟩;exact⟨rfl,aad w k os⟩
theorem Y8(l:List UInt8):(ByteArray.mk l.toArray).size=l.length:=by simp[ByteArray.size]
theorem aaP(t:List UInt8)(ht:t.length<=20000)(n:Int)(h:Lib.parseIntB 64 t= .ok n)(w:World):
 Calls prog 46 #[.string ⟨t.toArray⟩,.int .i64 10,.int .i64 64] w fun e w'=>e= .returned (.tuple #[.int .i64 n,.nilIface])/\aA w w':=by
 refine(Any.strconv_ParseInt_10_at64_ok Tx ⟨t.toArray⟩ (by rw[Y8];omega) n h w).mono ?_;rintro e w' ⟨rfl,rfl|⟨s,rfl⟩⟩;exact⟨rfl,Kp.refl _ _⟩;exact⟨rfl,⟨rfl,rfl,rfl,by rw[Lib.bytesWorld_size];omega,fun k hk _=>Lib.bytesWorld_at_old w 5 s k hk⟩⟩
theorem aa1(t:List UInt8)(ht:t.length<=20000)(h:∀n,Lib.parseIntB 64 t≠ .ok n)(w:World)(hw:Laid w):
 Calls prog 46 #[.string ⟨t.toArray⟩,.int .i64 10,.int .i64 64] w fun e w'=>∃z tp p,e= .returned (.tuple #[.int .i64 z,.iface tp p])/\aA w w':=by
 cases hp:Lib.parseIntB 64 t with
 |ok n=>exact absurd hp (h n)
 |range=>
  obtain⟨tp,p,e⟩:=hw.ran;refine(Any.strconv_ParseInt_10_at64_range_var Tx ⟨t.toArray⟩ (by rw[Y8];omega) hp tp p w e).mono ?_;rintro e w' ⟨N,rfl,_,_,hb⟩;exact⟨_,_,_,rfl,gV hb⟩
 |_=>
  obtain⟨tp,p,e⟩:=hw.syn;refine(Any.strconv_ParseInt_10_at64_syntax_var Tx ⟨t.toArray⟩ (by rw[Y8];omega) hp tp p w e).mono ?_;rintro e w' ⟨N,rfl,_,_,hb⟩;exact⟨_,_,_,rfl,gV hb⟩
theorem Gy(t:List UInt8)(ht:t.length<=9000)(n:Int)(h:Lib.parseIntB 64 t= .ok n)(w:World):
 Calls prog 46 #[.string ⟨t.toArray⟩,.int .i64 10,.int .i64 64] w fun e w'=>e= .returned (.tuple #[.int .i64 n,.nilIface])/\aA w w':=aaP t (by omega) n h w
theorem MG(t:List UInt8)(ht:t.length<=9000)(h:∀n,Lib.parseIntB 64 t≠ .ok n)(w:World)(hw:Laid w):
 Calls prog 46 #[.string ⟨t.toArray⟩,.int .i64 10,.int .i64 64] w fun e w'=>∃z tp p,e= .returned (.tuple #[.int .i64 z,.iface tp p])/\aA w w':=aa1 t (by omega) h w hw
theorem Z7{t:List UInt8}{n:Int}(h:Lib.parseIntB 64 t= .ok n):dH n:=by
 unfold Lib.parseIntB at h;split at h;cases h
 ·simp only at h;split at h;cases h;cases h
  ·split at h;cases h
   ·split at h;cases h
    ·rename_i h1 h2;injection h with h;subst h;unfold dH;split;rename_i hn;simp only[hn,true_and,Nat.not_lt]at h2;omega;rename_i hn;simp only[hn,not_false_eq_true,true_and,Nat.not_le]at h1;omega
theorem xP(t:List UInt8)(ht:t.length<=9000)(w:World):Calls prog 241 #[.string ⟨t.toArray⟩] w fun e w'=>e= .returned (.string ⟨t.toArray⟩)/\aA w w':=by
 go_enter func241,ntmps241;go_wp2_with (go_at_call 159;refine(JV ⟨t.toArray⟩ _ (by rw[Y8];omega)).mono ?_;rintro e w' ⟨rfl,hb⟩);go_ret;exact⟨rfl,gV hb⟩
theorem MJ(l:List UInt8)(a b:Nat):(ByteArray.mk l.toArray).extract a b=⟨(cut l a b).toArray⟩:=by
 ext1
 simp only[cut,ByteArray.data_extract,List.extract_toArray,List.extract_eq_take_drop,List.drop_take]
theorem uE(l:List UInt8)(a b:Nat)(hab:a<=b)(hb:b<=l.length)(hl:l.length<=9000)(w:World):
 Calls prog 210 #[.string ⟨l.toArray⟩,.int .i64 a,.int .i64 b] w fun e w'=>e= .returned (.string ⟨(cut l a b).toArray⟩)/\aA w w':=by
 have hz:=Y8 l;go_enter func210,ntmps210;go_wp2_with fail;rw[MJ];refine(xP _ (by rw[uI _ _ _ hb];omega) _).mono ?_;rintro e w' ⟨rfl,q⟩;go_wp2;go_ret;exact⟨rfl,q⟩
theorem aak{t:List UInt8}{n:Int}(h:Za t=some n):Lib.parseIntB 64 t= .ok n/\Lib.itoa n=t:=by
 unfold Za at h;split at h
 ·split at h;cases h;exact⟨by assumption,by assumption⟩;cases h
 ·cases h
theorem aa2{t:List UInt8}(h:Za t=none):(∀n,Lib.parseIntB 64 t≠ .ok n)\/∃n,Lib.parseIntB 64 t= .ok n/\Lib.itoa n≠t:=by
 cases hp:Lib.parseIntB 64 t with
 |ok n=>
  refine .inr ⟨n,rfl,fun e=> ?_⟩;simp[Za,hp,e]at h
 |range=>exact .inl fun n e=>by cases e
 |_=>exact .inl fun n e=>by cases e
def lY(lo:Nat)(row:Option Nat)(w:World)(v:V)(ao:Option Addr):Prop:=
 ∀w':World,(∀k c t,lo<=k->row≠some k->w.heap[k]?=some (.cells c t (0,0))->w'.heap[k]?=some (.cells c t (0,0)))->Is w' v ao
theorem lY.step{lo:Nat}{row row':Option Nat}{w w':World}{v:V}{ao:Option Addr}(h:lY lo row w v ao)(hk:∀k,lo<=k->k<w.heap.size->row≠some k->w'.heap[k]?=w.heap[k]?)
 (hr:row'=row\/∃g,row'=some g/\w.heap.size<=g):lY lo row' w' v ao:=by
 intro w2 h2;refine h w2 fun k c t h1 h4 hc=>h2 k c t h1 ?_ ((hk k h1 (ae hc) h4).trans hc);rcases hr with rfl|⟨g,rfl,hg⟩
 ·exact h4
 ·intro e;simp at e;have:=ae hc;omega
abbrev Kd:=V×Option Addr×Nat
def Zv(p:Kd):List Value:=[.int .i64 p.1.kind,.int .i64 p.1.k,.int .i64 p.1.n,.slice p.2.1 p.1.l.length p.2.2]
def eB(ps:List Kd):List Value:=ps.flatMap Zv
theorem mZ(ps:List Kd):(eB ps).length=ps.length*4:=by
 induction ps with
 |nil=>rfl
 |cons p ps ih=>simp only[eB,cB,ak]at ih|-;rw[ih];simp[Zv];omega
theorem jV(a b:List Kd):eB (a++b)=eB a++eB b:=by simp[eB]
theorem jI(p:Kd):eB [p]=Zv p:=by simp[eB]
theorem ru(ps:List Kd)(k j:Nat)(hk:k<ps.length)(hj:j<4):(eB ps)[k*4+j]?=(Zv ps[k])[j]?:=by
 induction ps generalizing k with
 |nil=>simp at hk
 |cons e es ih=>
  cases k with
  |zero=>simp only[eB,cB];rw[dP (by simp[Zv];omega)];simp
  |succ k=>
   simp only[eB,cB];rw[bX (by simp[Zv];omega)];have:=ih k (by simpa using hk);simp only[eB]at this;rw[show(k+1)*4+j-(Zv e).length=k*4+j by simp[Zv];omega,this];simp
theorem jO(p:Kd):∀u∈Zv p,u.oneCell'=true:=by
 intro u hu;simp only[Zv,aU,dN,or_false]at hu;rcases hu with rfl|rfl|rfl|rfl<;>rfl
theorem uB(ps:List Kd):∀u∈eB ps,u.oneCell'=true:=by
 intro u hu;simp only[eB,List.mem_flatMap]at hu;obtain⟨e,_,he⟩:=hu;exact jO e u he
theorem Dw{w:World}{g off:Nat}{p:Kd}(c:∀j,j<4->w.cell? ⟨g,off+j,none⟩=(Zv p)[j]?)(hp:Is w p.1 p.2.1):p.1.at w g off:=by
 rw[Zt];exact⟨⟨c 0 (by decide),c 1 (by decide),c 2 (by decide)⟩,_,_,c 3 (by decide),hp⟩
theorem zZ{w:World}{B:Nat}{ao:Option Addr}{n cap:Nat}{ps:List Kd}(h:w.ownsRow B 129 4 (.slice ao n cap) n (eB ps))(hn:n=ps.length)(hp:∀p∈ps,Is w p.1 p.2.1):Fo w (ps.map (·.1)) ao:=by
 subst hn;intro i hi;have hi':i<ps.length:=by simpa using hi
 obtain⟨g,rfl,d⟩:=Zc h (by omega);refine⟨g,0,rfl, ?_⟩;have e:(ps.map (·.1))[i]=ps[i].1:=by simp
 rw[e,bP];exact Dw (fun j hj=>by rw[d _ (by omega),ru ps i j hi' hj]) (hp _ (aI hi'))
def nR(lo:Nat)(w:World)(l:List V)(ao:Option Addr):Prop:=
 ∀w':World,(∀k c t,lo<=k->w.heap[k]?=some (.cells c t (0,0))->w'.heap[k]?=some (.cells c t (0,0)))->Fo w' l ao
theorem uP{lo B:Nat}{w:World}{ao:Option Addr}{m cap:Nat}{ps:List Kd}(h:w.ownsRow B 129 4 (.slice ao m cap) m (eB ps))(hm:m=ps.length)(hB:lo<=B)(hp:∀p∈ps,lY lo (Value.slice ao m cap).ownBlock w p.1 p.2.1):
 nR lo w (ps.map (·.1)) ao:=by
 intro w2 h2;refine zZ (w:=w2) (B:=B) (n:=m) (cap:=cap) ?_ hm fun p hp'=>hp p hp' w2 fun k c t h1 _ hc=>h2 k c t h1 hc;refine⟨h.1, ?_⟩;rcases h.2 with hn|⟨g,cap',cur,e,hb,hg,rest⟩
 ·exact .inl hn
 ·exact .inr ⟨g,cap',cur,e,hb,h2 g _ _ (by omega) hg,rest⟩
theorem Gt{lo B:Nat}{w:World}{ao:Option Addr}{v:V}{m cap:Nat}{ps:List Kd}(hf:v.fits)(hv:ps.map (·.1)=v.l)(h:w.ownsRow B 129 4 (.slice ao m cap) m (eB ps))(hm:m=ps.length)(hB:lo<=B)(hp:∀p∈ps,lY lo (Value.slice ao m cap).ownBlock w p.1 p.2.1):
 lY lo none w v ao:=by
 intro w2 h2;exact⟨hf,hv▸uP h hm hB hp w2 fun k c t h1 hc=>h2 k c t h1 (by simp) hc⟩
def vV(w:World)(rb:Nat)(ts:List Tk)(ao:Option Addr):Prop:=
 ∀i t,ts[i]?=some t->∃g off,ao=some ⟨g,off,none⟩/\g<rb/\w.cell? ⟨g,off+i*4,none⟩=some (.int .i64 t.pos)/\w.cell? ⟨g,off+i*4+1,none⟩=some (.string ⟨t.text.toArray⟩)/\w.cell? ⟨g,off+i*4+2,none⟩=some (.bool t.num)/\w.cell? ⟨g,off+i*4+3,none⟩=some (.int .i64 t.n)
theorem vV.kept{w w':World}{rb:Nat}{ts:List Tk}{ao:Option Addr}(h:vV w rb ts ao)(q:Kp (fun k=>rb<=k) w w'):vV w' rb ts ao:=by
 intro i t ht;obtain⟨g,off,e,hg,h0,h1,h2,h3⟩:=h i t ht;have hn:¬rb<=g:=by omega
 exact⟨g,off,e,hg,q.cell h0 hn,q.cell h1 hn,q.cell h2 hn,q.cell h3 hn⟩
theorem vV.tail{w:World}{rb:Nat}{t:Tk}{ts:List Tk}{g off:Nat}(h:vV w rb (t::ts) (some ⟨g,off,none⟩)):vV w rb ts (some ⟨g,off+4,none⟩):=by
 intro i u hu;obtain⟨g',off',e,hg,h0,h1,h2,h3⟩:=h (i+1) u (by simpa using hu);cases e;refine⟨g,off+4,rfl,hg, ?_, ?_, ?_, ?_⟩;rw[show off+4+i*4=off+(i+1)*4 by omega];exact h0;rw[show off+4+i*4+1=off+(i+1)*4+1 by omega];exact h1;rw[show off+4+i*4+2=off+(i+1)*4+2 by omega];exact h2;rw[show off+4+i*4+3=off+(i+1)*4+3 by omega];exact h3
theorem vV.first{w:World}{rb:Nat}{t:Tk}{ts:List Tk}{ao:Option Addr}(h:vV w rb (t::ts) ao):∃g off,ao=some ⟨g,off,none⟩/\g<rb/\w.cell? ⟨g,off,none⟩=some (.int .i64 t.pos)/\w.cell? ⟨g,off+1,none⟩=some (.string ⟨t.text.toArray⟩)/\w.cell? ⟨g,off+2,none⟩=some (.bool t.num)/\w.cell? ⟨g,off+3,none⟩=some (.int .i64 t.n):=by
 obtain⟨g,off,e,hg,h0,h1,h2,h3⟩:=h 0 t rfl;exact⟨g,off,e,hg,by simpa using h0,by simpa using h1,by simpa using h2,by simpa using h3⟩
theorem vV.nil(w:World)(rb:Nat)(ao:Option Addr):vV w rb [] ao:=fun i t h=>by simp at h
def RS(w:World)(rb:Nat)(e:Int)(ts:List Tk):Prop:=
 ∃ao cap,w.heap[rb]?=some (.cells #[.slice ao ts.length cap,.int .i64 e] 250 (0,0))/\vV w rb ts ao/\ts.length<=cap
theorem RS.above{w w':World}{rb:Nat}{e:Int}{ts:List Tk}(h:RS w rb e ts)(q:Kp (fun k=>rb<k) w w'):RS w' rb e ts:=by
 obtain⟨ao,cap,h0,h1,h2⟩:=h;exact⟨ao,cap,(q.block rb (ae h0) (by omega)).trans h0,h1.kept (q.mono fun _ _ e=>by omega),h2⟩
theorem RS.quiet{w w':World}{rb:Nat}{e:Int}{ts:List Tk}(h:RS w rb e ts)(q:aA w w'):RS w' rb e ts:=by
 obtain⟨ao,cap,h0,h1,h2⟩:=h;exact⟨ao,cap,(q.block rb (ae h0) fun e=>e).trans h0,h1.kept (q.mono fun _ _ e=>e.elim),h2⟩
theorem RS.lt{w:World}{rb:Nat}{e:Int}{ts:List Tk}(h:RS w rb e ts):rb<w.heap.size:=by
 obtain⟨ao,cap,h0,_⟩:=h;exact ae h0
def r9(x:Int×Int):List PanicEntry:=[{v:= .iface 270 (.agg #[.int .i64 x.1,.int .i64 x.2]),recovered:=false}]
abbrev Kr(rb:Nat)(w w':World):Prop:=Kp (fun k=>k=rb) w w'
theorem aA.kr{rb:Nat}{w w':World}(q:aA w w'):Kr rb w w':=q.mono fun _ _ e=>e.elim
theorem lY.kr{lo rb:Nat}{row:Option Nat}{w w':World}{v:V}{ao:Option Addr}(h:lY lo row w v ao)(q:Kr rb w w')(hr:rb<lo):lY lo row w' v ao:=
 h.step (fun k h1 h2 _=>q.block k h2 (by omega)) (.inl rfl)
theorem oV(c a:Int)(w:World):Calls prog 243 #[.int .i64 c,.int .i64 a] w fun e w'=>e= .panicked (r9 (c,a))/\w'=w:=by
 go_enter func243,ntmps243;go_wp2;exact⟨rfl,rfl,rfl⟩
theorem WM(e:Int)(rb:Nat)(ts:List Tk)(w:World)(h:RS w rb e ts):Calls prog 244 #[.pointer (some ⟨rb,0,none⟩)] w fun e' w'=>e'= .returned (.int .i64 (atT e ts))/\w'=w:=by
 obtain⟨ao,cap,hb,ht,hc⟩:=h;obtain⟨b0,b1⟩:=Z6 hb;cases ts with
 |nil=>
  simp only[bf]at b0;go_enter func244,ntmps244;go_wp2;go_ret;exact⟨rfl,rfl⟩
 |cons t ts=>
  obtain⟨g,off,rfl,hg,h0,h1,h2,h3⟩:=ht.first
  simp only[aL]at b0;go_enter func244,ntmps244;go_wp2;go_ret;exact⟨rfl,rfl⟩
theorem uD(e:Int)(rb:Nat)(w:World)(h:RS w rb e []):Calls prog 242 #[.pointer (some ⟨rb,0,none⟩)] w fun e' w'=>e'= .panicked (r9 (6,e))/\aA w w':=by
 obtain⟨ao,cap,hb,ht,hc⟩:=h;obtain⟨b0,b1⟩:=Z6 hb;have hlt:=ae hb;simp only[bf]at b0;go_enter func242,ntmps242;go_wp2_with (go_at_call 243;refine(oV 6 e _).mono ?_;rintro e' w1 ⟨rfl,rfl⟩);exact⟨rfl,rfl,Kp.alloc _ _⟩
theorem U8{w:World}{rb:Nat}{e:Int}{ts:List Tk}{ao ao':Option Addr}{n cap cap':Nat}(hb:w.heap[rb]?=some (.cells #[.slice ao n cap,.int .i64 e] 250 (0,0)))(ht:vV w rb ts ao')(hc:ts.length<=cap')(o1 o2:Obj):
 RS (((w.setCell ⟨rb,0,none⟩ (.slice ao' ts.length cap')).alloc o1).alloc o2) rb e ts/\Kr rb w (((w.setCell ⟨rb,0,none⟩ (.slice ao' ts.length cap')).alloc o1).alloc o2):=by
 have hk:Kr rb w (((w.setCell ⟨rb,0,none⟩ (.slice ao' ts.length cap')).alloc o1).alloc o2):=((Kp.setCell (F:=fun k=>k=rb) w ⟨rb,0,none⟩ _ rfl).trans (Kp.alloc _ o1)).trans (Kp.alloc _ o2);have hlt:=ae hb;refine⟨⟨ao',cap', ?_,ht.kept (hk.mono fun k _ e=>by omega),hc⟩,hk⟩;rw[aB _ _ _ (by simp[World.setCell];omega),aB _ _ _ (by simpa [World.setCell]using hlt)];simp[World.setCell,aR,hb]
theorem lq(e:Int)(rb:Nat)(t:Tk)(ts:List Tk)(w:World)(h:RS w rb e (t::ts)):Calls prog 242 #[.pointer (some ⟨rb,0,none⟩)] w fun e' w'=>e'= .returned (.agg #[.int .i64 t.pos,.string ⟨t.text.toArray⟩,.bool t.num,.int .i64 t.n])/\RS w' rb e ts/\Kr rb w w':=by
 obtain⟨ao,cap,hb,ht,hc⟩:=h;obtain⟨b0,b1⟩:=Z6 hb;have hlt:=ae hb;have hf:=YZ hb;obtain⟨g,off,rfl,hg,h0,h1,h2,h3⟩:=ht.first
 simp only[aL]at b0 hc;have hgl:g<w.heap.size:=aW w _ h0;go_enter func242,ntmps242;have HS:=hid (fun(ao:Option Addr) (cap':Nat) (h:vV w rb ts ao) (hc':ts.length<=cap') (o1 o2:Obj)=>U8 (ao':=ao) (cap':=cap') hb h hc' o1 o2);have HT:=hid ht.tail;clear hb ht;go_wp2
 ·refine au (v:= .agg #[.int .i64 t.pos,.string ⟨t.text.toArray⟩,.bool t.num,.int .i64 t.n]) (by simp[results,results242,go_sem]) rfl ?_;have hl0:ts.length<=0:=by omega
  have hT0:vV w rb ts (some ⟨g,off,none⟩):=by
   rw[bB (Nat.le_zero.1 hl0)];exact vV.nil _ _ _
  exact⟨rfl,HS.out _ _ hT0 hl0 _ _⟩
 ·refine au (v:= .agg #[.int .i64 t.pos,.string ⟨t.text.toArray⟩,.bool t.num,.int .i64 t.n]) (by simp[results,results242,go_sem]) rfl ?_;exact⟨rfl,HS.out _ _ HT.out (by omega) _ _⟩
def bare(t:Tk):List UInt8×Bool×Int:=(t.text,t.num,t.n)
def Fx(a b:List Tk):Prop:=a.map bare=b.map bare
theorem Fx.cons{t:Tk}{a b:List Tk}(h:Fx (t::a) b):∃u c,b=u::c/\u.text=t.text/\u.num=t.num/\u.n=t.n/\Fx a c:=by
 cases b with
 |nil=>simp[Fx]at h
 |cons u c=>
  simp only[Fx,dz,List.cons.injEq,bare,df]at h;exact⟨u,c,rfl,h.1.1.symm,h.1.2.1.symm,h.1.2.2.symm,h.2⟩
theorem SN(e:Int):∀(f:Nat)(acc:List V)(ts:List Tk)(l:List V)(r:List Tk),ts.length<f->vF e f acc ts= .ok (l,r)->r=[]:=by
 intro f;induction f with
 |zero=>intro acc ts l r hf;omega
 |succ f ih=>
  intro acc ts l r hf h;cases ts with
  |nil=>cases h;rfl
  |cons t r0=>
   rw[vF]at h;obtain⟨u,r1,h1,h2⟩:=iL h;obtain⟨v,r2,h3,h4⟩:=iL h2;obtain⟨t1,h5,_⟩:=nV h1;cases h5;obtain⟨p,rfl,hp⟩:=uZ e _ _ _ _ h3;simp only[aL,ak]at hf;exact ih _ _ _ _ (by omega) h4
theorem Nf{e:Int}{ts:List Tk}{acc l:List V}{r:List Tk}(h:gU e acc ts= .ok (l,r)):r=[]:=SN e _ _ _ _ _ (Nat.lt_succ_self _) h
theorem Pj{e:Int}{ts:List Tk}(h:(o6 e ts).2.1=0)(hc:∀x,gU e [] ts= .error x->x.1≠0):gU e [] ts= .ok ((o6 e ts).1,[])/\(Y6 (o6 e ts).1).1=0/\(o6 e ts).2.2=0:=by
 unfold o6 at h|-;cases hm:gU e [] ts with
 |error x=>rw[hm]at h;exact absurd h (hc x hm)
 |ok x=>
  obtain⟨l,r⟩:=x;obtain rfl:=Nf hm;rw[hm]at h;simp only at h|-;split at h;rename_i h0;rw[ag h0];exact⟨rfl,h0,rfl⟩;rename_i h0;exact absurd h h0
def u7{α:Type}(g:ZX α):Prop:=∀x,g= .error x->x.1=1\/x.1=4\/x.1=5\/x.1=6
theorem u7.then{α β:Type}{g:ZX α}{f:α->List Tk->ZX β}(hg:u7 g)(hf:∀a r,u7 (f a r)):u7 (andThen g f):=by
 intro x h;cases hgx:g with
 |error y=>rw[hgx]at h;cases h;exact hg _ hgx
 |ok y=>rw[hgx]at h;exact hf _ _ x h
theorem j5{α:Type}(a:α×List Tk):u7 (.ok a:ZX α):=fun x h=>by cases h
theorem xJ(e:Int)(ts:List Tk):u7 (pg e ts):=by
 intro x h;cases ts with
 |nil=>cases h;simp
 |cons a b=>cases h
theorem xX(e:Int)(s:List UInt8)(ts:List Tk):u7 (kG e s ts):=by
 refine(xJ e ts).then fun t r=> ?_
 split;exact j5 _;intro x h;cases h;simp
theorem Gv(L:List (List UInt8))(e:Int)(ts:List Tk):u7 (rV L e ts):=by
 refine(xJ e ts).then fun t r=> ?_
 split;intro x h;cases h;simp;exact j5 _
theorem Ez(e:Int)(ts:List Tk):u7 (pJ e ts):=by
 refine(xJ e ts).then fun t r=> ?_
 split;exact j5 _;intro x h;cases h;simp
theorem Ih(e:Int)(ts:List Tk):u7 (oH e ts):=by
 refine(Ez e ts).then fun t r=> ?_
 split;intro x h;cases h;simp;exact j5 _
theorem MH(e kd:Int)(ts:List Tk):u7 (kM e kd ts):=by
 unfold kM;split;exact(Ez e ts).then fun _ _=>j5 _
 ·split;exact(Ih e ts).then fun _ _=>j5 _
  ·split;exact(Gv Zo e ts).then fun _ _=>j5 _
   ·exact j5 _
theorem Ov(e:Int)(ts:List Tk):u7 (sF e ts):=(Gv Zf e ts).then fun _ _=>(MH _ _ _).then fun _ _=>j5 _
theorem Mf{g:List Tk->ZX V}(hg:∀ts,u7 (g ts)):∀(n:Nat)(acc:List V)(ts:List Tk),u7 (qb g n acc ts):=by
 intro n;induction n with
 |zero=>intro acc ts;exact j5 _
 |succ n ih=>intro acc ts;exact(hg ts).then fun v r=>ih _ _
theorem MB(e:Int):∀(f:Nat)(ts:List Tk),u7 (jT e f ts):=by
 intro f;induction f with
 |zero=>intro ts x h;cases h;simp
 |succ f ih=>intro ts;exact(xX _ _ _).then fun _ _=>(Ov _ _).then fun _ _=>(Mf ih _ _ _).then fun _ _=>(xX _ _ _).then fun _ _=>j5 _
theorem Sr(e:Int):∀(f:Nat)(acc:List V)(ts:List Tk),u7 (vF e f acc ts):=by
 intro f;induction f with
 |zero=>intro acc ts;exact j5 _
 |succ f ih=>
  intro acc ts;cases ts with
  |nil=>exact j5 _
  |cons t r=>rw[vF];exact(xX _ _ _).then fun _ _=>(MB _ _ _).then fun _ _=>ih _ _
theorem Cg{e:Int}{ts:List Tk}(x:Int×Int)(h:gU e [] ts= .error x):x.1≠0:=by
 have:=Sr e _ _ _ x h;omega
theorem abf{l:List UInt8}(h:(Zd l).2.1=0):(scan l).2.1=0/\gU (l.length:Int) [] (scan l).1= .ok ((Zd l).1,[])/\(Y6 (Zd l).1).1=0/\(Zd l).2.2=0:=by
 unfold Zd at h|-;split at h;rename_i h0;rw[ag h0];exact⟨h0,Pj h Cg⟩;rename_i h0;exact absurd h h0
theorem IV(e:Int)(s:List UInt8)(ts:List Tk):(ts=[]/\kG e s ts= .error (6,e))\/(∃t r,ts=t::r/\t.text=s/\kG e s ts= .ok ((),r))\/(∃t r,ts=t::r/\t.text≠s/\kG e s ts= .error (5,(t.pos:Int))):=by
 cases ts with
 |nil=>exact .inl ⟨rfl,rfl⟩
 |cons t r=>
  by_cases h:t.text=s;exact .inr (.inl ⟨t,r,rfl,h,by simp[kG,pg,andThen,h]⟩);exact .inr (.inr ⟨t,r,rfl,h,by simp[kG,pg,andThen,h]⟩)
theorem Dv(e:Int)(rb:Nat)(s:List UInt8)(ts r:List Tk)(u:Unit)(w:World)(h:RS w rb e ts)(hm:kG e s ts= .ok (u,r)):Calls prog 214 #[.pointer (some ⟨rb,0,none⟩),.string ⟨s.toArray⟩] w fun e' w'=>e'= .returned (.tuple #[])/\RS w' rb e r/\Kr rb w w':=by
 obtain⟨t,rfl,hs⟩:=nV hm;subst hs;have HN:=hid (lq e rb t r w h);clear h hm;go_enter func214,ntmps214;go_wp2_with (go_at_call 242;refine HN.out.mono ?_;rintro e' w1 ⟨rfl,h1,q1⟩);go_end0;exact⟨rfl,h1.quiet (Kp.alloc _ _),q1.trans (Kp.alloc _ _)⟩
theorem zP(e:Int)(rb:Nat)(s:List UInt8)(ts:List Tk)(x:Int×Int)(w:World)(h:RS w rb e ts)(hm:kG e s ts= .error x):Calls prog 214 #[.pointer (some ⟨rb,0,none⟩),.string ⟨s.toArray⟩] w fun e' w'=>e'= .panicked (r9 x)/\Kr rb w w':=by
 rcases IV e s ts with⟨rfl,h1⟩|⟨t,r,rfl,h1,h2⟩|⟨t,r,rfl,h1,h2⟩
 ·rw[h1]at hm;cases hm;have HN:=hid (uD e rb w h);clear h h1;go_enter func214,ntmps214;go_wp2_with (go_at_call 242;refine HN.out.mono ?_;rintro e' w1 ⟨rfl,q1⟩);exact⟨rfl,rfl,aA.kr q1⟩
 ·rw[h2]at hm;cases hm
 ·rw[h2]at hm;cases hm;have HN:=hid (lq e rb t r w h);have hne2:(t.text==s)=false:=by simpa using h1
  clear h h2;go_enter func214,ntmps214;go_wp2_with (first
   |(go_at_call 243;refine(oV 5 (t.pos:Int) _).mono ?_;rintro e' w2 ⟨rfl,rfl⟩)
   |(go_at_call 242;refine HN.out.mono ?_;rintro e' w1 ⟨rfl,h1',q1⟩))
  exact⟨rfl,rfl,q1.trans (Kp.alloc _ _)⟩
theorem LM(e:Int)(ts:List Tk):(ts=[]/\pJ e ts= .error (6,e))\/(∃t r,ts=t::r/\t.num=true/\pJ e ts= .ok (t,r))\/(∃t r,ts=t::r/\t.num=false/\pJ e ts= .error (5,(t.pos:Int))):=by
 cases ts with
 |nil=>exact .inl ⟨rfl,rfl⟩
 |cons t r=>
  cases h:t.num with
  |true=>exact .inr (.inl ⟨t,r,rfl,h,by simp[pJ,pg,andThen,h]⟩)
  |false=>exact .inr (.inr ⟨t,r,rfl,h,by simp[pJ,pg,andThen,h]⟩)
theorem rT{w w':World}{o:Obj}{rb:Nat}(h:rb<w.heap.size)(q:Kr rb (w.alloc o) w'):w'.heap[w.heap.size]?=some o:=by
 rw[q.block w.heap.size (by simp) (by omega)];exact ah w o
theorem Xi{w w':World}{o:Obj}{rb:Nat}(q:Kr rb (w.alloc o) w')(a b c d:Value):Kr rb w ((((w'.setCell ⟨w.heap.size,0,none⟩ a).setCell ⟨w.heap.size,1,none⟩ b).setCell ⟨w.heap.size,2,none⟩ c).setCell ⟨w.heap.size,3,none⟩ d):=
 ((Kp.alloc w o).trans q).fresh (((((Cc _ _ 0 a).trans (Cc _ _ 1 b)).trans (Cc _ _ 2 c)).trans (Cc _ _ 3 d)))
theorem Bu{w w':World}{rb x o:Nat}{y:Value}{e:Int}{ts:List Tk}(h:RS w rb e ts)(hx:rb<x)(e':w'=w.setCell ⟨x,o,none⟩ y):RS w' rb e ts:=by
 subst e';exact h.above (Kp.setCell w ⟨x,o,none⟩ y hx)
theorem Lx{w w':World}{o:Obj}{rb:Nat}{e:Int}{ts:List Tk}(hr:rb<w.heap.size)(q:Kr rb (w.alloc o) w')(h:RS w' rb e ts)(a b c d:Value):
 RS ((((w'.setCell ⟨w.heap.size,0,none⟩ a).setCell ⟨w.heap.size,1,none⟩ b).setCell ⟨w.heap.size,2,none⟩ c).setCell ⟨w.heap.size,3,none⟩ d) rb e ts/\Kr rb w ((((w'.setCell ⟨w.heap.size,0,none⟩ a).setCell ⟨w.heap.size,1,none⟩ b).setCell ⟨w.heap.size,2,none⟩ c).setCell ⟨w.heap.size,3,none⟩ d):=
 ⟨Bu (Bu (Bu (Bu h hr rfl) hr rfl) hr rfl) hr rfl,Xi q a b c d⟩
theorem yB(e:Int)(rb:Nat)(t:Tk)(ts r:List Tk)(w:World)(h:RS w rb e ts)(hm:pJ e ts= .ok (t,r)):Calls prog 265 #[.pointer (some ⟨rb,0,none⟩)] w fun e' w'=>e'= .returned (.agg #[.int .i64 t.pos,.string ⟨t.text.toArray⟩,.bool t.num,.int .i64 t.n])/\RS w' rb e r/\Kr rb w w':=by
 obtain⟨rfl,hn⟩:=Aw hm;have hlt:=h.lt;have HN:=hid (fun o=>lq e rb t r (w.alloc o) (h.quiet (Kp.alloc _ _)));obtain⟨pos,text,num,n⟩:=t;simp only at hn HN;subst hn;clear h hm;go_enter func265,ntmps265;go_wp2_with (go_at_call 242;refine(HN.out _).mono ?_;rintro e' w1 ⟨rfl,h1,q1⟩;have hb:=fun o=>rT hlt (q1.trans (Kp.alloc _ o));have hb4:=fun o=>nH (hb o);have hf:=fun o=>YZ (hb o));refine au (v:= .agg #[.int .i64 pos,.string ⟨text.toArray⟩,.bool true,.int .i64 n]) (by simp[results,results265,go_sem,hb4]) rfl ?_;exact⟨rfl,Lx hlt (q1.trans (Kp.alloc _ _)) (h1.quiet (Kp.alloc _ _)) _ _ _ _⟩
theorem Bv(e:Int)(rb:Nat)(ts:List Tk)(x:Int×Int)(w:World)(h:RS w rb e ts)(hm:pJ e ts= .error x):Calls prog 265 #[.pointer (some ⟨rb,0,none⟩)] w fun e' w'=>e'= .panicked (r9 x)/\Kr rb w w':=by
 rcases LM e ts with⟨rfl,h1⟩|⟨t,r,rfl,h1,h2⟩|⟨t,r,rfl,h1,h2⟩
 ·rw[h1]at hm;cases hm;have HN:=hid (fun o=>uD e rb (w.alloc o) (h.quiet (Kp.alloc _ _)));clear h h1;go_enter func265,ntmps265;go_wp2_with (go_at_call 242;refine(HN.out _).mono ?_;rintro e' w1 ⟨rfl,q1⟩);exact⟨rfl,rfl,aA.kr ((Kp.alloc _ _).trans q1)⟩
 ·rw[h2]at hm;cases hm
 ·rw[h2]at hm;cases hm;have HN:=hid (fun o=>lq e rb t r (w.alloc o) (h.quiet (Kp.alloc _ _)));obtain⟨pos,text,num,n⟩:=t;simp only at h1 HN;subst h1;clear h h2;go_enter func265,ntmps265;go_wp2_with (first
   |(go_at_call 243;refine(oV 5 (pos:Int) _).mono ?_;rintro e' w2 ⟨rfl,rfl⟩)
   |(go_at_call 242;refine(HN.out _).mono ?_;rintro e' w1 ⟨rfl,h1',q1⟩))
  exact⟨rfl,rfl,(Kp.alloc _ _).trans (q1.trans (Kp.alloc _ _))⟩
theorem LJ(e:Int)(rb:Nat)(k:Int)(ts r:List Tk)(w:World)(h:RS w rb e ts)(hm:oH e ts= .ok (k,r)):Calls prog 266 #[.pointer (some ⟨rb,0,none⟩)] w fun e' w'=>e'= .returned (.int .i64 k)/\RS w' rb e r/\Kr rb w w':=by
 obtain⟨t,rfl,hn,rfl,h0,h9⟩:=Au hm;have HN:=hid (yB e rb t (t::r) r w h (by simp[pJ,pg,andThen,hn]));have h0':¬t.n<0:=by omega
 have h9':¬999<t.n:=by omega
 clear h hm hn h0 h9;go_enter func266,ntmps266;go_wp2_with (go_at_call 265;refine HN.out.mono ?_;rintro e' w1 ⟨rfl,h1,q1⟩);go_ret;exact⟨rfl,h1.quiet (Kp.alloc _ _),q1.trans (Kp.alloc _ _)⟩
theorem Fb{e:Int}{ts:List Tk}{x:Int×Int}(hm:oH e ts= .error x):pJ e ts= .error x\/∃t r,ts=t::r/\pJ e ts= .ok (t,r)/\(t.n<0\/(¬t.n<0/\999<t.n))/\x=(1,(t.pos:Int)):=by
 unfold oH at hm;cases hn:pJ e ts with
 |error y=>rw[hn]at hm;cases hm;exact .inl rfl
 |ok y=>
  obtain⟨t,r⟩:=y;rw[hn]at hm;obtain⟨rfl,h2⟩:=Aw hn;simp only[andThen]at hm;split at hm;cases hm;exact .inr ⟨t,r,rfl,rfl,by omega,rfl⟩;cases hm
theorem MN(e:Int)(rb:Nat)(ts:List Tk)(x:Int×Int)(w:World)(h:RS w rb e ts)(hm:oH e ts= .error x):Calls prog 266 #[.pointer (some ⟨rb,0,none⟩)] w fun e' w'=>e'= .panicked (r9 x)/\Kr rb w w':=by
 rcases Fb hm with h1|⟨t,r,rfl,h1,h2,rfl⟩
 ·have HN:=hid (Bv e rb ts x w h h1);clear h h1 hm;go_enter func266,ntmps266;go_wp2_with (go_at_call 265;refine HN.out.mono ?_;rintro e' w1 ⟨rfl,q1⟩);exact⟨rfl,rfl,q1⟩
 ·have HN:=hid (yB e rb t (t::r) r w h h1);clear h h1 hm;rcases h2 with h2|⟨h2,h3⟩;all_goals
   go_enter func266,ntmps266;go_wp2_with (first
    |(go_at_call 243;refine(oV 1 (t.pos:Int) _).mono ?_;rintro e' w2 ⟨rfl,rfl⟩)
    |(go_at_call 265;refine HN.out.mono ?_;rintro e' w1 ⟨rfl,h1',q1⟩))
   exact⟨rfl,rfl,q1.trans (Kp.alloc _ _)⟩
def ER(L:List (List UInt8)):List Value:=L.map fun s=> .string ⟨s.toArray⟩
structure Wds(w:World):Prop where
 words:w.var? prog "letterlock/parse.words" =some (ER ([]::Zf)).toArray
 bins:w.var? prog "letterlock/parse.bins" =some (ER ([]::Zo)).toArray
theorem Gm{w:World}{n:String}{g:Nat}{cs:List Value}(h:w.var? prog n=some cs.toArray)(hg:prog.globalNamed n=some g)(i:Nat)(v:Value)(hi:cs[i]?=some v):w.cell? ⟨g,i,none⟩=some v:=by
 unfold World.var? at h;rw[hg]at h;simp only[Option.bind_some]at h;split at h;rename_i c t z hc;cases h;simp[World.cell?,hc,hi];cases h
theorem C9{w w':World}{n:String}{cs:Array Value}(h:w.var? prog n=some cs)(hb:Below w.heap.size w w'):w'.var? prog n=some cs:=by
 unfold World.var? at*;cases hg:prog.globalNamed n with
 |none=>simp[hg]at h
 |some g=>
  simp only[hg,Option.bind_some]at h|-;have hlt:g<w.heap.size:=by
   rcases dO g w.heap.size with h'|h';exact h';rw[Array.getElem?_eq_none h']at h;simp at h
  rw[hb.block g hlt];exact h
theorem Wds.low{w w':World}(h:Wds w)(hb:Below w.heap.size w w'):Wds w':=⟨C9 h.words hb,C9 h.bins hb⟩
theorem Wds.quiet{w w':World}(h:Wds w)(q:aA w w'):Wds w':=h.low q.low
theorem vR:prog.globalNamed "letterlock/parse.words" =some 8:=by kernel_rfl
theorem vW:prog.globalNamed "letterlock/parse.bins" =some 9:=by kernel_rfl
theorem Gw(L:List (List UInt8))(k:Nat)(h:k<=L.length):(ER ([]::L))[k]?=some (.string ⟨(eY L (k:Int)).toArray⟩):=by
 cases k with
 |zero=>simp[ER,mE]
 |succ k=>
  rw[Eh L (k+1) (by omega) h];simp only[ER,dz,List.getElem?_cons_succ,fe];rw[aQ (by omega)];rfl
theorem oN(k:Int)(w:World)(hw:Wds w):Calls prog 264 #[.int .i64 k] w fun e w'=>e= .returned (.string ⟨(eY Zf k).toArray⟩)/\w'=w:=by
 by_cases h0:k<0
 ·have hE:=hid (mE Zf k (.inl (by omega)));go_enter func264,ntmps264;go_wp2;go_ret;exact⟨by rw[hE.out];rfl,rfl⟩
 ·obtain⟨n,rfl⟩:∃n:Nat,k=(n:Int):=⟨k.toNat,by omega⟩;by_cases h1:22<=n
  ·have hE:=hid (mE Zf (n:Int) (.inr (by rw[iM];omega)));have h1':(22:Int)<=(n:Int):=(by omega);clear h1;go_enter func264,ntmps264;go_wp2;go_ret;exact⟨by rw[hE.out];rfl,rfl⟩
  ·have hc:=Gm hw.words vR n _ (Gw Zf n (by rw[iM];omega));have h1':¬(22:Int)<=(n:Int):=(by omega);have h2:n<22:=(by omega);clear hw h1;go_enter func264,ntmps264;go_wp2;go_ret;exact⟨rfl,rfl⟩
theorem rF(k:Int)(w:World)(hw:Wds w):Calls prog 267 #[.int .i64 k] w fun e w'=>e= .returned (.string ⟨(eY Zo k).toArray⟩)/\w'=w:=by
 by_cases h0:k<0
 ·have hE:=hid (mE Zo k (.inl (by omega)));go_enter func267,ntmps267;go_wp2;go_ret;exact⟨by rw[hE.out];rfl,rfl⟩
 ·obtain⟨n,rfl⟩:∃n:Nat,k=(n:Int):=⟨k.toNat,by omega⟩;by_cases h1:6<=n
  ·have hE:=hid (mE Zo (n:Int) (.inr (by rw[jJ];omega)));have h1':(6:Int)<=(n:Int):=(by omega);clear h1;go_enter func267,ntmps267;go_wp2;go_ret;exact⟨by rw[hE.out];rfl,rfl⟩
  ·have hc:=Gm hw.bins vW n _ (Gw Zo n (by rw[jJ];omega));have h1':¬(6:Int)<=(n:Int):=(by omega);have h2:n<6:=(by omega);clear hw h1;go_enter func267,ntmps267;go_wp2;go_ret;exact⟨rfl,rfl⟩
