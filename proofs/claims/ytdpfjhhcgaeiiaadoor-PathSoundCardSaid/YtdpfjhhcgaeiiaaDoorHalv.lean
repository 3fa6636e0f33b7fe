/-
  CONTRACTS of bits.Len (up to 64), package slots' halvings.
  CONDITIONS: each theorem's own hypotheses.
-/
import Derived.Test.YtdpfjhhcgaeiiaaDoorIsNum
namespace Go.Proofs.YtdpfjhhcgaeiiaaDoor
open Go.RowKit CodeMath
set_option linter.unusedVariables false
set_option maxRecDepth 100000

set_option maxHeartbeats 1000000 in
theorem len64_any (n : Nat) (h : n < 7) (w : World) :
    Calls Tryd.prog 107 #[.int .u64 ((2 ^ n : Nat) : Int)] w fun e w' => e = .returned (.int .i64 ((n + 1 : Nat) : Int)) ∧ w = w' := by
  have h7 : n = 0 ∨ n = 1 ∨ n = 2 ∨ n = 3 ∨ n = 4 ∨ n = 5 ∨ n = 6 := by omega
  rcases h7 with rfl | rfl | rfl | rfl | rfl | rfl | rfl
  all_goals
    go_enter Tryd.func107, Tryd.ntmps107
    go_wp2_with fail
    go_ret
    (refine ⟨?_, rfl⟩; kernel_rfl)
theorem len_any (k h : Nat) (hk : k < 65) (c : ∀ W, Calls Tryd.prog 107 #[.int .u64 (k : Int)] W fun e w' => e = .returned (.int .i64 ((h + 1 : Nat) : Int)) ∧ W = w') (w : World) :
    Calls Tryd.prog 92 #[.int .u64 (k : Int)] w fun e w' => e = .returned (.int .i64 ((h + 1 : Nat) : Int)) ∧ w = w' := by
  have nI : (k : Int) < 65 := by omega
  generalize ((h + 1 : Nat) : Int) = r at *
  go_enter Tryd.func92, Tryd.ntmps92
  go_wp2_with fail
  refine (c _).mono ?_
  rintro e w1 ⟨rfl, rfl⟩
  clear c
  go_wp2_with fail
  go_ret
  exact ⟨rfl, rfl⟩
theorem pow_small : ∀ h : Nat, h ≤ 6 → 2 ^ h < 65 := by
  have key : ∀ h : Fin 7, 2 ^ h.1 < 65 := by decide +kernel
  intro h hh
  exact key ⟨h, by omega⟩
theorem halvings_any (h : Nat) (h6 : h ≤ 6) (n : Int) (hn : n = (2 ^ h : Nat)) (w : World) :
    Calls Tryd.prog 50 #[.int .i64 n] w fun e w' => e = .returned (.int .i64 (h : Int)) ∧ w = w' := by
  have e2 := pow_small h h6
  have c := fun W => len_any (2 ^ h) h e2 (fun W => len64_any h (by omega) W) W
  generalize 2 ^ h = k at *
  subst hn
  have kI : (k : Int) < 65 := by omega
  have hI : (h : Int) ≤ 6 := by omega
  have wk : IntKind.u64.wrap (k : Int) = (k : Int) := by
    rw [IntKind.wrap_u64]; omega
  have hI1 : ((h + 1 : Nat) : Int) - 1 = h := by omega
  have hI2 : ((h + 1 : Nat) : Int) ≤ 7 := by omega
  have hI3 : (1 : Int) ≤ ((h + 1 : Nat) : Int) := by omega
  generalize ((h + 1 : Nat) : Int) = r at *
  go_enter Tryd.func50, Tryd.ntmps50
  go_wp2_with fail
  refine (c _).mono ?_
  rintro e w1 ⟨rfl, rfl⟩
  clear c
  go_wp2_with fail
  go_ret
  first | exact ⟨rfl, rfl⟩ | (refine ⟨?_, rfl⟩; congr 2; omega) | (refine ⟨?_, rfl⟩; simp)
end Go.Proofs.YtdpfjhhcgaeiiaaDoor
