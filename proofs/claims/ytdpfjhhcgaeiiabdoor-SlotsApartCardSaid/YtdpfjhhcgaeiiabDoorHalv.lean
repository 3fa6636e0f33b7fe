/-
  CONTRACTS of bits.Len (up to 64), package slots' halvings.
  CONDITIONS: each theorem's own hypotheses.
-/
import Derived.Test.YtdpfjhhcgaeiiabDoorIsNum
namespace Go.Proofs.YtdpfjhhcgaeiiabDoor
open Go.RowKit CodeMath
set_option linter.unusedVariables false
set_option maxRecDepth 100000

set_option maxHeartbeats 1000000 in
theorem len64_any (n : Nat) (h : n < 7) (w : World) :
    Calls Tryd.prog 76 #[.int .u64 ((2 ^ n : Nat) : Int)] w fun e w' => e = .returned (.int .i64 ((n + 1 : Nat) : Int)) ∧ w = w' := by
  have h7 : n = 0 ∨ n = 1 ∨ n = 2 ∨ n = 3 ∨ n = 4 ∨ n = 5 ∨ n = 6 := by omega
  rcases h7 with rfl | rfl | rfl | rfl | rfl | rfl | rfl
  all_goals
    go_enter Tryd.func76, Tryd.ntmps76
    go_wp2_with fail
    go_ret
    (refine ⟨?_, rfl⟩; kernel_rfl)
theorem len_any (k h : Nat) (hk : k < 65) (c : ∀ W, Calls Tryd.prog 76 #[.int .u64 (k : Int)] W fun e w' => e = .returned (.int .i64 ((h + 1 : Nat) : Int)) ∧ W = w') (w : World) :
    Calls Tryd.prog 70 #[.int .u64 (k : Int)] w fun e w' => e = .returned (.int .i64 ((h + 1 : Nat) : Int)) ∧ w = w' := by
  have nI : (k : Int) < 65 := by omega
  generalize ((h + 1 : Nat) : Int) = r at *
  go_enter Tryd.func70, Tryd.ntmps70
  go_wp2_with fail
  refine (c _).mono ?_
  rintro e w1 ⟨rfl, rfl⟩
  clear c
  go_wp2_with fail
  go_ret
  exact ⟨rfl, rfl⟩
theorem pow_small : ∀ h : Nat, h ≤ 6 → 2 ^ h < 65 := by
  have key : ∀ h : Fin 7, 2 ^ h.1 < 65 := by decide +kernel
  intro h hh
  exact key ⟨h, by omega⟩
end Go.Proofs.YtdpfjhhcgaeiiabDoor
