/-
  CONTRACT of package roll's firstPart.
  CONDITIONS: each theorem's own hypotheses.
-/
import Derived.Test.YtcplnfaopigoiaaDoorRollP
import Derived.Test.YtcplnfaopigoiaaDoorGLev
namespace Go.Proofs.YtcplnfaopigoiaaDoor
open Go.RowKit CodeMath Go.Proofs.YtcplnfaopigoiaaDoor.FrameMath
set_option linter.unusedVariables false
set_option maxRecDepth 100000

theorem hf_small : ∀ n : Fin 65, 2 ≤ n.1 → 1 ≤ Nat.log2 (n.1 - 1) + 1 ∧ Nat.log2 (n.1 - 1) ≤ 5 := by decide +kernel
set_option maxHeartbeats 2000000 in
theorem lenAll_any (n : Nat) (h0 : 1 ≤ n) (h : n < 64) (w : World) :
    Calls Tryd.prog 94 #[.int .u64 (n : Int)] w fun e w' => e = .returned (.int .i64 ((Nat.log2 n + 1 : Nat) : Int)) ∧ w = w' := by
  have hall : n = 1 ∨ n = 2 ∨ n = 3 ∨ n = 4 ∨ n = 5 ∨ n = 6 ∨ n = 7 ∨ n = 8 ∨ n = 9 ∨ n = 10 ∨ n = 11 ∨ n = 12 ∨ n = 13 ∨ n = 14 ∨ n = 15 ∨ n = 16 ∨ n = 17 ∨ n = 18 ∨ n = 19 ∨ n = 20 ∨ n = 21 ∨ n = 22 ∨ n = 23 ∨ n = 24 ∨ n = 25 ∨ n = 26 ∨ n = 27 ∨ n = 28 ∨ n = 29 ∨ n = 30 ∨ n = 31 ∨ n = 32 ∨ n = 33 ∨ n = 34 ∨ n = 35 ∨ n = 36 ∨ n = 37 ∨ n = 38 ∨ n = 39 ∨ n = 40 ∨ n = 41 ∨ n = 42 ∨ n = 43 ∨ n = 44 ∨ n = 45 ∨ n = 46 ∨ n = 47 ∨ n = 48 ∨ n = 49 ∨ n = 50 ∨ n = 51 ∨ n = 52 ∨ n = 53 ∨ n = 54 ∨ n = 55 ∨ n = 56 ∨ n = 57 ∨ n = 58 ∨ n = 59 ∨ n = 60 ∨ n = 61 ∨ n = 62 ∨ n = 63 := by omega
  rcases hall with rfl | rfl | rfl | rfl | rfl | rfl | rfl | rfl | rfl | rfl | rfl | rfl | rfl | rfl | rfl | rfl | rfl | rfl | rfl | rfl | rfl | rfl | rfl | rfl | rfl | rfl | rfl | rfl | rfl | rfl | rfl | rfl | rfl | rfl | rfl | rfl | rfl | rfl | rfl | rfl | rfl | rfl | rfl | rfl | rfl | rfl | rfl | rfl | rfl | rfl | rfl | rfl | rfl | rfl | rfl | rfl | rfl | rfl | rfl | rfl | rfl | rfl | rfl
  all_goals
    go_enter Tryd.func94, Tryd.ntmps94
    go_wp2_with fail
    go_ret
    (refine ⟨?_, rfl⟩; kernel_rfl)
theorem firstPart_any (n : Nat) (h2 : 2 ≤ n) (h64 : n ≤ 64) (w : World) :
    Calls Tryd.prog 74 #[.int .i64 (n : Int)] w fun e w' => e = .returned (.int .i64 (hf n : Int)) ∧ w = w' := by
  obtain ⟨b1, b2⟩ := hf_small ⟨n, by omega⟩ h2
  simp only at b1 b2
  have c := fun W => len_any (n - 1) (Nat.log2 (n - 1)) (by omega) (fun W => lenAll_any (n - 1) (by omega) (by omega) W) W
  unfold hf
  generalize Nat.log2 (n - 1) = h at *
  have hn1 : ((n - 1 : Nat) : Int) = (n : Int) - 1 := by omega
  rw [hn1] at c
  have nI : (n : Int) ≤ 64 := by omega
  have nI2 : 2 ≤ (n : Int) := by omega
  have wk : IntKind.u64.wrap ((n : Int) - 1) = (n : Int) - 1 := by
    rw [IntKind.wrap_u64]; omega
  have hI1 : ((h + 1 : Nat) : Int) - 1 = h := by omega
  have hI2 : ((h + 1 : Nat) : Int) ≤ 7 := by omega
  have hI3 : (1 : Int) ≤ ((h + 1 : Nat) : Int) := by omega
  have hI4 : (h : Int) ≤ 5 := by omega
  have hres : ∀ h : Nat, h < 6 → wrap64 (2 ^ h) = ((2 ^ h : Nat) : Int) := by
    have key : ∀ h : Fin 6, wrap64 (2 ^ h.1) = ((2 ^ h.1 : Nat) : Int) := by decide +kernel
    exact fun h hh => key ⟨h, hh⟩
  have hr := hres h (by omega)
  clear hres b1 b2 hn1
  generalize ((h + 1 : Nat) : Int) = r at *
  go_enter Tryd.func74, Tryd.ntmps74
  go_wp2_with fail
  refine (c _).mono ?_
  rintro e w1 ⟨rfl, rfl⟩
  clear c
  go_wp2_with fail
  go_ret
  exact ⟨by rw [← hr]; rfl, rfl⟩
end Go.Proofs.YtcplnfaopigoiaaDoor
