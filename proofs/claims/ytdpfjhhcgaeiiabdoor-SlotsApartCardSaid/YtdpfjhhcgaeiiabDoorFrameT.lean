/-
  CONTRACT of the reference's FrameOf, with the block of what is new.
  CONDITIONS: each theorem's own hypotheses.
-/
import Derived.Test.YtdpfjhhcgaeiiabDoorFrameS
import Derived.Test.YtdpfjhhcgaeiiabDoorByMaxT
namespace Go.Proofs.YtdpfjhhcgaeiiabDoor
open Go.RowKit CodeMath Go.Proofs.YtdpfjhhcgaeiiabDoor.FrameMath
set_option linter.unusedVariables false
set_option maxRecDepth 100000

end Go.Proofs.YtdpfjhhcgaeiiabDoor
