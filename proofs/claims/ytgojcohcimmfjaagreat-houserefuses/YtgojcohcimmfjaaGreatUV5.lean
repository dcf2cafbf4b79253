/- The document's own answers: capabilities and gates in a value, its text; the same numbers? -/
import Derived.Test.YtgojcohcimmfjaaGreatUV4
import Derived.Test.YtgojcohcimmfjaaGreatUV3
import Derived.BigQuiet
import Derived.Deep.LoopGhost
namespace Go.Proofs.YtgojcohcimmfjaaGreat
open Go.ChangeShapes Go.WideShapes Go.ChangeAt Go.RowKit
end Go.Proofs.YtgojcohcimmfjaaGreat
