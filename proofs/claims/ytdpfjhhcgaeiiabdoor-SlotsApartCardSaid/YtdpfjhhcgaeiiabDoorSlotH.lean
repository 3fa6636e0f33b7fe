/-
  CONTRACTS of the reference's whole and slotsFault.
  CONDITIONS: each theorem's own hypotheses.
-/
import Derived.Test.YtdpfjhhcgaeiiabDoorSlotG
import Derived.Test.YtdpfjhhcgaeiiabDoorLeafOf
namespace Go.Proofs.YtdpfjhhcgaeiiabDoor
open Go.RowKit CodeMath Go.Proofs.YtdpfjhhcgaeiiabDoor.FrameMath
set_option linter.unusedVariables false
set_option maxRecDepth 100000

def pwI : Nat → Int
  | 0 => 1
  | 1 => 2
  | 2 => 4
  | 3 => 8
  | 4 => 16
  | 5 => 32
  | 6 => 64
  | _ => 0
theorem isPow_at (i : Nat) (hi : i < 7) : isPow (pwI i) = true := by
  match i, hi with
  | 0, _ => rfl
  | 1, _ => rfl
  | 2, _ => rfl
  | 3, _ => rfl
  | 4, _ => rfl
  | 5, _ => rfl
  | 6, _ => rfl
theorem isPow_none (n : Int) (h : ∀ j, j < 7 → n ≠ pwI j) : isPow n = false := by
  have h0 := h 0 (by decide)
  have h1 := h 1 (by decide)
  have h2 := h 2 (by decide)
  have h3 := h 3 (by decide)
  have h4 := h 4 (by decide)
  have h5 := h 5 (by decide)
  have h6 := h 6 (by decide)
  simp only [pwI] at h0 h1 h2 h3 h4 h5 h6
  unfold isPow
  simp only [decide_eq_false_iff_not]
  omega
theorem pw_range (i : Nat) : 0 ≤ pwI i ∧ pwI i ≤ 64 := by
  unfold pwI
  split <;> omega
def faultOf : LR → Int
  | .err e => e
  | .ok _ => 0
end Go.Proofs.YtdpfjhhcgaeiiabDoor
