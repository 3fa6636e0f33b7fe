/-
  CONTRACT of bytes.Equal; checkR: what CheckPath answers.
  CONDITIONS: each theorem's own hypotheses.
-/
import Derived.Test.YtdpfjhhcgaeiiaaDoorClimb
import Derived.Test.YtdpfjhhcgaeiiaaDoorGLev
import Derived.Test.YtdpfjhhcgaeiiaaDoorGPath
namespace Go.Proofs.YtdpfjhhcgaeiiaaDoor
open Go.RowKit CodeMath Go.Proofs.YtdpfjhhcgaeiiaaDoor.FrameMath
set_option linter.unusedVariables false
set_option maxRecDepth 100000

theorem equal_any (l m : List UInt8) (b : Bool) (hb : decide (l = m) = b) (ao ao' : Option Addr) (cap cap' : Nat) (w : World) (h : Bytes w ao l) (h' : Bytes w ao' m) :
    Calls Tryd.prog 52 #[.slice ao l.length cap, .slice ao' m.length cap'] w fun e w' => e = .returned (.bool b) ∧ w = w' := by
  have c1 := bytes_string (cap := cap) h
  have c2 := bytes_string (cap := cap') h'
  have hs : (l == m) = b := by rw [← hb]; by_cases h : l = m <;> simp [h]
  clear h h' hb
  go_enter Tryd.func52, Tryd.ntmps52
  go_wp2
  go_ret
  rw [← hs]
  exact ⟨rfl, rfl⟩
def checkR (m : Int) (root : List UInt8) (n i : Int) (f : Bool) (s d : List UInt8) (rows : List (List UInt8)) (h : Nat) : Int :=
  if isMode m = false then 2 else if isPow n = false then 1 else if ¬ (0 ≤ i ∧ i < n) then 6 else
  match leafR m f s d with
  | .err c => c
  | .ok b => if rows.length ≠ h then 10 else match climbR m i.toNat 0 b rows with
    | .err _ => 10
    | .ok x => if x = root then 0 else 10
end Go.Proofs.YtdpfjhhcgaeiiaaDoor
