/-
  CONTRACT of bytes.Equal; checkR: what CheckPath answers.
  CONDITIONS: each theorem's own hypotheses.
-/
import Derived.Test.YtcnemacakjemjaaDoorClimb
import Derived.Test.YtcnemacakjemjaaDoorGLev
import Derived.Test.YtcnemacakjemjaaDoorGPath
namespace Go.Proofs.YtcnemacakjemjaaDoor
open Go.RowKit CodeMath Go.Proofs.YtcnemacakjemjaaDoor.FrameMath
set_option linter.unusedVariables false
set_option maxRecDepth 100000

def checkR (m : Int) (root : List UInt8) (n i : Int) (f : Bool) (s d : List UInt8) (rows : List (List UInt8)) (h : Nat) : Int :=
  if isMode m = false then 2 else if isPow n = false then 1 else if ¬ (0 ≤ i ∧ i < n) then 6 else
  match leafR m f s d with
  | .err c => c
  | .ok b => if rows.length ≠ h then 10 else match climbR m i.toNat 0 b rows with
    | .err _ => 10
    | .ok x => if x = root then 0 else 10
end Go.Proofs.YtcnemacakjemjaaDoor
