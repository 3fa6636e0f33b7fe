/-
  CONTRACT of package lex's readReal.
  CONDITIONS: each theorem's own hypotheses.
-/
import Derived.Test.YtlhoakpijfhljaaDoorCutC
namespace Go.Proofs.YtlhoakpijfhljaaDoor
open Go.RowKit
set_option linter.unusedVariables false
set_option maxRecDepth 100000

theorem hexI_range (c : UInt8) : -1 ≤ Lib.indexByte hexL16 c ∧ Lib.indexByte hexL16 c < 16 := by
  have := all_bytes (P := fun c => decide (-1 ≤ Lib.indexByte hexL16 c ∧ Lib.indexByte hexL16 c < 16)) (by decide +kernel) c
  simpa using this
theorem or_hex (B d : Nat) (hd : d < 16) (hB : B < 1152921504606846976) : bits .or .u64 ((B : Int) * 16) (d : Int) = ((B * 16 + d : Nat) : Int) := by
  rw [u64_or _ _ (by omega) (by omega) (by omega) (by omega)]
  have e1 : ((B : Int) * 16).toNat = B * 2 ^ 4 := by omega
  have e2 : (d : Int).toNat = d := by omega
  rw [e1, e2, Nat.mul_comm, ← Nat.two_pow_add_eq_or_of_lt (i := 4) (by omega)]
def realP (l : List UInt8) : TR := match hexF 16 (l.drop 1) 0 with
  | .err e => .err e
  | .ok b => .ok ⟨5, [], 0, b⟩ 17
end Go.Proofs.YtlhoakpijfhljaaDoor
