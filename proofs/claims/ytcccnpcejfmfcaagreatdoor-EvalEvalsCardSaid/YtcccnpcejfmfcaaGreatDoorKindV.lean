/-
  CONTRACTS of package kinds' fits, mayBeNull, gives and ofColumn.
  CONDITIONS: each theorem's own hypotheses.
-/
import Derived.Test.YtcccnpcejfmfcaaGreatDoorGKindC
import Derived.Test.YtcccnpcejfmfcaaGreatDoorKindU
namespace Go.Proofs.YtcccnpcejfmfcaaGreatDoor
open Go.RowKit
set_option linter.unusedVariables false
set_option maxRecDepth 100000

theorem below_dqK {B : Nat} {a w : World} (h : Below B a w) : ∀ q, Below B a (w.drewN q)
  | 0 => h
  | q + 1 => (below_dqK h q).drew
theorem placeN_at (n : List UInt8) : ∀ (l : List Cl) (q : Nat), placeN n l q = -1 ∨ ∃ (j : Nat) (c : Cl), l[j]? = some c ∧ placeN n l q = ((q + j : Nat) : Int)
  | [], q => .inl rfl
  | c :: l, q => by
    have e : placeN n (c :: l) q = if (c.n == n) = true then (q : Int) else placeN n l (q + 1) := rfl
    by_cases h : (c.n == n) = true
    · rw [if_pos h] at e
      exact .inr ⟨0, c, rfl, by rw [e]; rfl⟩
    · rw [if_neg h] at e
      rcases placeN_at n l (q + 1) with h1 | ⟨j, x, hj, h1⟩
      · exact .inl (by rw [e, h1])
      · exact .inr ⟨j + 1, x, by simpa using hj, by rw [e, h1]; congr 1; omega⟩
end Go.Proofs.YtcccnpcejfmfcaaGreatDoor
