/-
  CONTRACTS of the reference's FrameOf.
  CONDITIONS: each theorem's own hypotheses.
-/
import Derived.Test.YtdpfjhhcgaeiiabDoorFrameR
import Derived.Test.YtdpfjhhcgaeiiabDoorGBase
namespace Go.Proofs.YtdpfjhhcgaeiiabDoor
open Go.RowKit CodeMath Go.Proofs.YtdpfjhhcgaeiiabDoor.FrameMath
set_option linter.unusedVariables false

/-- The room that is left behind the first rows. -/
def roomAt (rows : List (List UInt8)) (n : Nat) (i : Nat) : Int := 16777214 - 4 * n - ((total (rows.take i) : Int) - 4 * i)
theorem roomAt_next (rows : List (List UInt8)) (n i : Nat) (l : List UInt8) (h : rows[i]? = some l) : roomAt rows n (i + 1) = roomAt rows n i - l.length := by
  unfold roomAt
  rw [take_next rows i l h, total_append]
  simp only [total]
  omega
theorem roomAt_zero (rows : List (List UInt8)) (n : Nat) : roomAt rows n 0 = 16777214 - 4 * n := by simp [roomAt, total]
theorem total_four : ∀ rows : List (List UInt8), 4 * rows.length ≤ total rows
  | [] => Nat.le_refl _
  | p :: ps => by have := total_four ps; simp only [total, List.length_cons]; omega
theorem roomAt_end (rows : List (List UInt8)) : roomAt rows rows.length rows.length = 16777214 - total rows := by
  unfold roomAt; rw [List.take_length]; omega
theorem roomAt_ok (rows : List (List UInt8)) (i : Nat) (hi : i ≤ rows.length) (hW : 2 + total rows ≤ 16777216) : 0 ≤ roomAt rows rows.length i := by
  unfold roomAt
  have h1 : total rows = total (rows.take i) + total (rows.drop i) := by rw [← total_append, List.take_append_drop]
  have h2 := total_four (rows.drop i)
  rw [List.length_drop] at h2
  omega
theorem roomAt_le (rows : List (List UInt8)) (n i : Nat) (hi : i ≤ rows.length) : roomAt rows n i ≤ 16777214 := by
  unfold roomAt
  have h2 := total_four (rows.take i)
  rw [List.length_take, Nat.min_eq_left hi] at h2
  omega
end Go.Proofs.YtdpfjhhcgaeiiabDoor
