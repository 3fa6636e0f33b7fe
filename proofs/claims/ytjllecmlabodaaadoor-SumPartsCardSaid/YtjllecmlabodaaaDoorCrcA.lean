/-
  CONTRACT of the reference's Checked (CRC-32C).
  CONDITIONS: the theorem's own hypotheses.
-/
import Derived.Test.YtjllecmlabodaaaDoorStrA
import Derived.Test.YtjllecmlabodaaaDoorCrcMath
namespace Go.Proofs.YtjllecmlabodaaaDoor
open Go.RowKit CodeMath
set_option linter.unusedVariables false

theorem ri {k : IntKind} {a b : Int} (h : a = b) : Ending.returned (.int k a) = .returned (.int k b) := by rw [h]
theorem crc_bits (M c t : Nat) (hM : M < 4294967296) (hc : c < 256) :
    bits .xor .u32 ((M : Int) / 2) (bits .and .u32 (bits .xor .u32 (M : Int) ((c : Int) / 2 ^ t)) 1 * 2197175160 % 4294967296) = (((M >>> 1) ^^^ ((M ^^^ (c >>> t)) % 2 * CrcMath.poly) : Nat) : Int) := by
  have e1 : ((c : Int) / 2 ^ t) = ((c >>> t : Nat) : Int) := by rw [Nat.shiftRight_eq_div_pow]; simp
  have hct : c >>> t < 4294967296 := by rw [Nat.shiftRight_eq_div_pow]; exact Nat.lt_of_le_of_lt (Nat.div_le_self _ _) (by omega)
  have hx : M ^^^ (c >>> t) < 4294967296 := Nat.xor_lt_two_pow (n := 32) hM hct
  have e2 : (M : Int) / (2 : Int) = ((M >>> 1 : Nat) : Int) := by rw [Nat.shiftRight_eq_div_pow]; simp
  have hM1 : M >>> 1 < 4294967296 := by rw [Nat.shiftRight_eq_div_pow]; omega
  have h2 := Nat.mod_two_eq_zero_or_one (M ^^^ (c >>> t))
  have e3 : (((M ^^^ (c >>> t)) % 2 : Nat) : Int) * 2197175160 % 4294967296 = (((M ^^^ (c >>> t)) % 2 * CrcMath.poly : Nat) : Int) := by
    rcases h2 with h | h <;> rw [h] <;> decide
  have hp : (M ^^^ (c >>> t)) % 2 * CrcMath.poly < 4294967296 := by
    rcases h2 with h | h <;> rw [h] <;> decide
  rw [e2, e1, u32_xor_nat _ _ hM hct, show (1 : Int) = ((1 : Nat) : Int) from rfl, u32_and_nat _ _ hx (by decide), Nat.and_one_is_mod, e3, u32_xor_nat _ _ hM1 hp]
theorem crc_next (M c t : Nat) : ((M >>> 1) ^^^ ((M ^^^ (c >>> t)) % 2 * CrcMath.poly)) ^^^ (c >>> (t + 1)) = CrcMath.Z (M ^^^ (c >>> t)) := by
  unfold CrcMath.Z
  rw [Nat.shiftRight_xor_distrib, ← Nat.shiftRight_add, Nat.xor_assoc, Nat.xor_comm _ (c >>> (t + 1)), ← Nat.xor_assoc]
end Go.Proofs.YtjllecmlabodaaaDoor
