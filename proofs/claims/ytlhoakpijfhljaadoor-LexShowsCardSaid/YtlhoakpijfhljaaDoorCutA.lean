/-
  CONTRACTS of package lex's gap and of the reference's skip.
  CONDITIONS: each theorem's own hypotheses.
-/
import Derived.Test.YtlhoakpijfhljaaDoorCutM
import Derived.Test.YtlhoakpijfhljaaDoorLexB
namespace Go.Proofs.YtlhoakpijfhljaaDoor
open Go.RowKit
set_option linter.unusedVariables false
set_option maxRecDepth 100000

end Go.Proofs.YtlhoakpijfhljaaDoor
