/-
  PLAIN WORDS of a real's digits, and CONTRACTS of what internal/strconv's formatBits calls at base 16.
  CONDITIONS: each theorem's own hypotheses; math/bits's deBruijn64tab holds 4 at 15 ('DB').
-/
import Derived.Test.YtlhoakpijfhljaaDoorCutD
import Derived.Test.YtlhoakpijfhljaaDoorBlk
namespace Go.Proofs.YtlhoakpijfhljaaDoor
open Go.RowKit
set_option linter.unusedVariables false
set_option maxRecDepth 100000

def hexD (v : Nat) : UInt8 := hexL16.getD v 0
/-- As many digits as there are, at most f + 1, ahead of t. -/
def hexTo : Nat → Nat → List UInt8 → List UInt8
  | 0, u, t => hexD u :: t
  | f + 1, u, t => if u < 16 then hexD u :: t else hexTo f (u / 16) (hexD (u % 16) :: t)
/-- Just f + 1 digits ahead of t. -/
def hexAll : Nat → Nat → List UInt8 → List UInt8
  | 0, u, t => hexD (u % 16) :: t
  | f + 1, u, t => hexAll f (u / 16) (hexD (u % 16) :: t)
theorem hexAll_zero : ∀ (f : Nat) (t : List UInt8), hexAll f 0 t = List.replicate (f + 1) 48 ++ t
  | 0, t => by simp [hexAll, hexD, hexL16]
  | f + 1, t => by
    have e : hexD (0 % 16) = 48 := by decide
    simp only [hexAll, Nat.zero_div]
    rw [e, hexAll_zero f, List.replicate_succ' (n := f + 1), List.append_assoc]
    rfl
theorem hexTo_len : ∀ (f u : Nat) (t : List UInt8), t.length + 1 ≤ (hexTo f u t).length ∧ (hexTo f u t).length ≤ t.length + f + 1
  | 0, u, t => by simp [hexTo]
  | f + 1, u, t => by
    simp only [hexTo]
    split
    · simp
    · have := hexTo_len f (u / 16) (hexD (u % 16) :: t)
      simp only [List.length_cons] at this
      omega
theorem hexAll_pad : ∀ (f u : Nat) (t : List UInt8), u < 16 ^ (f + 1) → hexAll f u t = List.replicate (t.length + f + 1 - (hexTo f u t).length) 48 ++ hexTo f u t
  | 0, u, t, h => by
    have : u % 16 = u := Nat.mod_eq_of_lt (by simpa using h)
    simp [hexAll, hexTo, this]
  | f + 1, u, t, h => by
    simp only [hexAll, hexTo]
    by_cases h16 : u < 16
    · rw [if_pos h16, Nat.div_eq_of_lt h16, hexAll_zero, Nat.mod_eq_of_lt h16]
      simp
    · rw [if_neg h16, hexAll_pad f (u / 16) _ (by rw [Nat.pow_succ] at h; exact Nat.div_lt_of_lt_mul (by omega))]
      simp only [List.length_cons]
      congr 2; omega
/-- A real's sixteen digits. -/
def hex16 (b : Nat) : List UInt8 := hexAll 15 b []
def DB (w : World) : Prop := w.cell? ⟨7, 15, none⟩ = some (.int .u8 4)
theorem isPow_16 (w : World) : Calls Tryd.prog 66 #[.int .i64 16] w fun e w' => e = .returned (.bool true) ∧ w = w' := by
  have hA : bits .and .i64 16 15 = 0 := by decide +kernel
  go_enter Tryd.func66, Tryd.ntmps66
  go_wp2_with fail
  go_ret
  exact ⟨by first | rfl | simp [hA], by first | rfl | trivial⟩
theorem tz64_16 (w : World) (hD : DB w) : Calls Tryd.prog 70 #[.int .u64 16] w fun e w' => e = .returned (.int .i64 4) ∧ w = w' := by
  have hA : bits .and .u64 16 18446744073709551600 = 16 := by decide +kernel
  have hN : IntKind.u64.wrap (-16) = 18446744073709551600 := by decide +kernel
  have hM : IntKind.u64.wrap 4573923408821661840 = 4573923408821661840 := by decide +kernel
  unfold DB at hD
  go_enter Tryd.func70, Tryd.ntmps70
  go_wp2_with fail
  go_ret
  exact ⟨by first | rfl | trivial, by first | rfl | trivial⟩
theorem tz_16 (w : World) (hD : DB w) : Calls Tryd.prog 67 #[.int .u64 16] w fun e w' => e = .returned (.int .i64 4) ∧ w = w' := by
  have c := tz64_16 w hD
  go_enter Tryd.func67, Tryd.ntmps67
  go_wp2_with fail
  refine c.mono ?_
  rintro e w1 ⟨rfl, rfl⟩
  go_wp2_with fail
  go_ret
  exact ⟨by first | rfl | trivial, by first | rfl | trivial⟩
end Go.Proofs.YtlhoakpijfhljaaDoor
