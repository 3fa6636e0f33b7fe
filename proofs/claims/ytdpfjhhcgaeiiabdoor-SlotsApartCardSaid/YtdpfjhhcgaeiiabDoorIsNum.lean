/-
  CONTRACTS of bits.OnesCount (up to 64), package slots' isNumber, the reference's whole.
  CONDITIONS: each theorem's own hypotheses.
-/
import Derived.Test.YtdpfjhhcgaeiiabDoorGBase
namespace Go.Proofs.YtdpfjhhcgaeiiabDoor
open Go.RowKit CodeMath
set_option linter.unusedVariables false
set_option maxRecDepth 100000

def isPow (n : Int) : Bool := decide (n = 1 ∨ n = 2 ∨ n = 4 ∨ n = 8 ∨ n = 16 ∨ n = 32 ∨ n = 64)
theorem bounded {Q : Nat → Prop} (h : ∀ n : Fin 65, Q n.1) : ∀ n, n < 65 → Q n := fun n hn => h ⟨n, hn⟩
set_option maxHeartbeats 1000000 in
theorem ones64_any (n : Nat) (hn : n < 65) (w : World) :
    Calls Tryd.prog 66 #[.int .u64 (n : Int)] w fun e w' => ∃ r, e = .returned (.int .i64 r) ∧ decide (r = 1) = isPow n ∧ w = w' := by
  have nI : (n : Int) < 65 := by omega
  go_enter Tryd.func66, Tryd.ntmps66
  go_wp2_with fail
  go_ret
  refine ⟨_, rfl, ?_, rfl⟩
  clear nI
  revert n
  refine bounded ?_
  decide +kernel
theorem onesCount_any (n : Nat) (hn : n < 65) (w : World) :
    Calls Tryd.prog 57 #[.int .u64 (n : Int)] w fun e w' => ∃ r, e = .returned (.int .i64 r) ∧ decide (r = 1) = isPow n ∧ w = w' := by
  have nI : (n : Int) < 65 := by omega
  have c := fun W => ones64_any n hn W
  go_enter Tryd.func57, Tryd.ntmps57
  go_wp2_with fail
  refine (c _).mono ?_
  rintro e w1 ⟨r, rfl, hr, rfl⟩
  clear c
  go_wp2_with fail
  go_ret
  exact ⟨r, rfl, hr, rfl⟩
set_option maxHeartbeats 1000000 in
theorem isNumber_any (n : Int) (n0 : -9223372036854775808 ≤ n) (n1 : n ≤ 9223372036854775807) (w : World) :
    Calls Tryd.prog 35 #[.int .i64 n] w fun e w' => e = .returned (.bool (isPow n)) ∧ w = w' := by
  obtain ⟨b, hb⟩ : ∃ b, isPow n = b := ⟨_, rfl⟩
  rw [hb]
  by_cases h1 : 1 ≤ n
  · by_cases h64 : n ≤ 64
    · obtain ⟨k, rfl⟩ : ∃ k : Nat, n = k := ⟨n.toNat, by omega⟩
      have c := fun W => onesCount_any k (by omega) W
      rw [hb] at c
      have wk : IntKind.u64.wrap (k : Int) = (k : Int) := by
        rw [IntKind.wrap_u64]; omega
      clear hb
      go_enter Tryd.func35, Tryd.ntmps35
      go_wp2_with fail
      refine (c _).mono ?_
      rintro e w1 ⟨r, rfl, hr, rfl⟩
      clear c
      go_wp2_with fail
      go_ret
      exact ⟨by first | rfl | (rw [← hr]; rfl) | (show Ending.returned (.bool (r == 1)) = _; rw [← hr]; congr 2), rfl⟩
    · have hbf : b = false := by rw [← hb]; unfold isPow; simp; omega
      subst hbf
      clear hb
      go_enter Tryd.func35, Tryd.ntmps35
      go_wp2_with fail
      go_ret
      exact ⟨rfl, rfl⟩
  · have hbf : b = false := by rw [← hb]; unfold isPow; simp; omega
    subst hbf
    clear hb
    go_enter Tryd.func35, Tryd.ntmps35
    go_wp2_with fail
    go_ret
    exact ⟨rfl, rfl⟩
end Go.Proofs.YtdpfjhhcgaeiiabDoor
