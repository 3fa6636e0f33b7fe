/-
  CONTRACT of the reference's DigestOf.
  CONDITIONS: each theorem's own hypotheses.
-/
import Derived.Test.YtdpfjhhcgaeiiabDoorDigA
import Derived.Test.YtdpfjhhcgaeiiabDoorFrameT
import Derived.Deep.Cut
namespace Go.Proofs.YtdpfjhhcgaeiiabDoor
open Go.RowKit CodeMath Go.Proofs.YtdpfjhhcgaeiiabDoor.FrameMath
set_option linter.unusedVariables false
set_option maxRecDepth 100000

end Go.Proofs.YtdpfjhhcgaeiiabDoor
