/-
  CONTRACTS of package value's Equal and Less and of the reference's Held.
  CONDITIONS: each theorem's own hypotheses.
-/
import Derived.Test.YtdbdlheilckcoaaDoorValH
namespace Go.Proofs.YtdbdlheilckcoaaDoor
open Go.RowKit
set_option linter.unusedVariables false

end Go.Proofs.YtdbdlheilckcoaaDoor
