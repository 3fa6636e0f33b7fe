/-
  CONTRACTS of package lex's read and first.
  CONDITIONS: each theorem's own hypotheses; package lex's signs, unicode/utf8's tables, strconv's ErrRange and bytealg's MaxLen hold what they hold ('SW', 'Tabs', 'ER', 'MaxL').
-/
import Derived.Test.YtlhoakpijfhljaaDoorCutD
import Derived.Test.YtlhoakpijfhljaaDoorCutE
import Derived.Test.YtlhoakpijfhljaaDoorLexC
import Derived.Test.YtlhoakpijfhljaaDoorShelfC
import Derived.Shelf.Strconv.Clone
namespace Go.Proofs.YtlhoakpijfhljaaDoor
open Go.RowKit
set_option linter.unusedVariables false
set_option maxRecDepth 100000

def readR : List UInt8 → TR
  | [] => .err 3
  | c :: r => if isSm c = true then .ok ⟨1, (c :: r).takeWhile stays, 0, 0⟩ ((c :: r).takeWhile stays).length else if isGr c = true then .ok ⟨2, (c :: r).takeWhile isGr, 0, 0⟩ ((c :: r).takeWhile isGr).length
    else if isDi c = true then numR ((c :: r).takeWhile isDi) else if c = 39 then quoteP (c :: r) else if c = 35 then realP (c :: r) else .ok ⟨6, signR (c :: r), 0, 0⟩ (signR (c :: r)).length
end Go.Proofs.YtlhoakpijfhljaaDoor
