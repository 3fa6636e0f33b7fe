/-
  PLAIN: each node's numbers are of 64 bits.
  CONDITIONS: none.
-/
import Derived.Test.YtfedlchncngafaaGreatDoorExprT
namespace Go.Proofs.YtfedlchncngafaaGreatDoor
open Go.RowKit
set_option linter.unusedVariables false

-- each node's numbers are of 64 bits
mutual
def FitT : T → Prop
  | .mk d l => ((-9223372036854775808 ≤ d.i ∧ d.i ≤ 9223372036854775807) ∧ (0 ≤ d.b ∧ d.b ≤ 18446744073709551615)) ∧ FitL l
def FitL : List T → Prop
  | [] => True
  | t :: l => FitT t ∧ FitL l
end
theorem FitL.mem : ∀ {l : List T}, FitL l → ∀ t ∈ l, FitT t
  | u :: l, h, t, ht => by
    simp only [FitL] at h
    rcases List.mem_cons.1 ht with rfl | hm
    · exact h.1
    · exact FitL.mem h.2 t hm
theorem fitL_of : ∀ (l : List T), (∀ t ∈ l, FitT t) → FitL l
  | [], _ => by simp [FitL]
  | t :: l, h => by simp only [FitL]; exact ⟨h t (by simp), fitL_of l (fun u hu => h u (by simp [hu]))⟩
end Go.Proofs.YtfedlchncngafaaGreatDoor
