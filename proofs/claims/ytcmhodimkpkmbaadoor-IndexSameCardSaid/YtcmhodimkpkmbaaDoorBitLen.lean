/-
  Len (over a program of 65 words).
-/
import Derived.Test.YtcmhodimkpkmbaaDoorBitSets
import Derived.Test.YtcmhodimkpkmbaaDoorBitLib
import Derived.LoopTactic
namespace Go.Proofs.YtcmhodimkpkmbaaDoor
open Go.ChangeShapes Go.WideShapes Go.ChangeAt Go.RowKit
set_option maxRecDepth 100000

end Go.Proofs.YtcmhodimkpkmbaaDoor
