/-
  PIECES OF SLICES of bytes (for seats without UpTo: the same names: never both in one seat).
  CONDITIONS: each theorem's own hypotheses.
-/
import Derived.Test.YtmldhnghfdhjmaaOwnB
namespace Go.Proofs.Ytmldhnghfdhjmaa
open Go.RowKit CodeMath
set_option linter.unusedVariables false

def pieceA (ao : Option Addr) (lo cap : Nat) : Option Addr := if cap = lo then ao else ao.map (·.add (lo * 1))
theorem piece_bytes (ao : Option Addr) (L : List UInt8) (cap lo n : Nat) (h : L.length ≤ cap) (W : World) (hb : Bytes W ao L) : Bytes W (pieceA ao lo cap) ((L.drop lo).take n) := by
  unfold pieceA
  split
  · left
    rw [List.drop_of_length_le (by omega), List.take_nil]
  · rcases hb with h | ⟨a, o, h1, h2, h3⟩
    · left; rw [h]; simp
    · subst h1
      refine .inr ⟨a, o + lo, ?_, h2, fun j x hx => ?_⟩
      · by_cases hl : lo = 0
        · subst hl; rfl
        · simp [Addr.add, hl]
      · rw [List.getElem?_take] at hx
        split at hx
        · rw [List.getElem?_drop] at hx
          rw [Nat.add_assoc]
          exact h3 _ x hx
        · cases hx
theorem slice_first (ao : Option Addr) (n cap m : Nat) (hm : m ≤ cap) (W : World) : (Instr.slice 23 (.slice ao n cap) none (some (.int .i64 (m : Int))) none).run Try.prog W = .ok (.slice ao m cap) W := by
  have hs : (sizeOf (Try.prog.elem 23)).run Try.prog W = .ok 1 W := by kernel_rfl
  have h := run_slice_h (P := Try.prog) W 23 ao n cap (by kernel_rfl) .i64 (m : Int) (by omega) (by omega)
  rw [h, hs, Int.toNat_natCast]
  simp only [Result.andThen, sliced, Nat.sub_zero]
  cases ao with
  | none => simp
  | some a => simp [Addr.add]
theorem slice_mid (ao : Option Addr) (n cap lo hi : Nat) (h1 : lo ≤ hi) (h2 : hi ≤ cap) (W : World) : (Instr.slice 23 (.slice ao n cap) (some (.int .i64 (lo : Int))) (some (.int .i64 (hi : Int))) none).run Try.prog W = .ok (.slice (pieceA ao lo cap) (hi - lo) (cap - lo)) W := by
  have hs : (sizeOf (Try.prog.elem 23)).run Try.prog W = .ok 1 W := by kernel_rfl
  have h := run_slice_lh (P := Try.prog) W 23 ao n cap (by kernel_rfl) .i64 .i64 (lo : Int) (hi : Int) (by omega) (by omega) (by omega)
  rw [h, hs, Int.toNat_natCast, Int.toNat_natCast]
  rfl
theorem slice_last (ao : Option Addr) (n cap lo : Nat) (h1 : lo ≤ n) (W : World) : (Instr.slice 23 (.slice ao n cap) (some (.int .i64 (lo : Int))) none none).run Try.prog W = .ok (.slice (pieceA ao lo cap) (n - lo) (cap - lo)) W := by
  have hs : (sizeOf (Try.prog.elem 23)).run Try.prog W = .ok 1 W := by kernel_rfl
  have h := run_slice_l (P := Try.prog) W 23 ao n cap (by kernel_rfl) .i64 (lo : Int) (by omega) (by omega)
  rw [h, hs, Int.toNat_natCast]
  rfl
end Go.Proofs.Ytmldhnghfdhjmaa
