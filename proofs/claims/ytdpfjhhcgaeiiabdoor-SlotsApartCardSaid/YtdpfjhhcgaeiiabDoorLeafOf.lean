/-
  CONTRACT of the reference's LeafOf.
  CONDITIONS: each theorem's own hypotheses.
-/
import Derived.Test.YtdpfjhhcgaeiiabDoorLeaf
import Derived.Test.YtdpfjhhcgaeiiabDoorDigB
namespace Go.Proofs.YtdpfjhhcgaeiiabDoor
open Go.RowKit CodeMath Go.Proofs.YtdpfjhhcgaeiiabDoor.FrameMath
set_option linter.unusedVariables false
set_option maxRecDepth 100000

end Go.Proofs.YtdpfjhhcgaeiiabDoor
