/-
  The document's number: bytes as a number, the highest first.
-/
import Derived.Test.YtidjajdgphkbbaaRRFrameMath
import Derived.Test.YtidjajdgphkbbaaRRBytes
import Derived.Test.YtidjajdgphkbbaaRRChecked
import Derived.LoopTactic
import Derived.IntWalk
import Derived.Tactics
import Derived.Lib.Hide
import Derived.ChangeArms
namespace Go.Proofs.YtidjajdgphkbbaaRR
open Go.RowKit
set_option maxRecDepth 100000

end Go.Proofs.YtidjajdgphkbbaaRR
