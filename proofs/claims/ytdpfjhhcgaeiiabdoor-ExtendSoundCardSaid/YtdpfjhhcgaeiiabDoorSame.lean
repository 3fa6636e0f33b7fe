/-
  CONTRACT of the law's sameBytes, both ways (for seats without LawN: never both in one seat).
  CONDITIONS: each theorem's own hypotheses.
-/
import Derived.Test.YtdpfjhhcgaeiiabDoorGBase
namespace Go.Proofs.YtdpfjhhcgaeiiabDoor
open Go.RowKit CodeMath
set_option linter.unusedVariables false

end Go.Proofs.YtdpfjhhcgaeiiabDoor
