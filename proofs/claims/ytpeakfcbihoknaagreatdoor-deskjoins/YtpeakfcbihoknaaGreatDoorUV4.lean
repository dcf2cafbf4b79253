/- Parts. -/
import Derived.Test.YtpeakfcbihoknaaGreatDoorUV3
open Go.ChangeShapes Go.WideShapes Go.ChangeAt Go.RowKit
namespace Go.Proofs.YtpeakfcbihoknaaGreatDoor
theorem Is.adg{w:World}{v:V}{ao:Option Addr}(h:Is w v ao)(i:Nat)(hi:i<v.l.length):
 ∃b off,ao=some ⟨b,off,none⟩/\w.cell? ⟨b,off+i*3,none⟩=some (.int .i64 v.l[i].kind)/\w.cell? ⟨b,off+i*3+1,none⟩=some (.int .i64 v.l[i].n)/\∃ai cap,w.cell? ⟨b,off+i*3+2,none⟩=some (.slice ai v.l[i].l.length cap)/\Is w v.l[i] ai:=by
 obtain⟨b,off,e,hh,ai,ci,cs,hI⟩:=h.get i hi;exact⟨b,off,e,hh.1,hh.2,ai,ci,cs,hI⟩
