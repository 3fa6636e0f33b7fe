/-
  CONTRACTS of the reference's bytesOrder and Order, over values that may be.
  CONDITIONS: each theorem's own hypotheses.
-/
import Derived.Test.YtoleaahnpcbkkaaDoorValD
import Derived.LoopTactic
import Derived.Deep.LoopGhost
namespace Go.Proofs.YtoleaahnpcbkkaaDoor
open Go.RowKit
set_option linter.unusedVariables false

theorem below_dn {B : Nat} {a w : World} (h : Below B a w) : ∀ q, Below B a (w.drewN q)
  | 0 => h
  | q + 1 => (below_dn h q).drew

theorem cmpB_step (a b : List UInt8) (n : Nat) (h1 : n < a.length) (h2 : n < b.length) :
    Lib.compareBytes (a.drop n) (b.drop n) = if a[n] < b[n] then -1 else if b[n] < a[n] then 1 else Lib.compareBytes (a.drop (n + 1)) (b.drop (n + 1)) := by
  rw [List.drop_eq_getElem_cons h1, List.drop_eq_getElem_cons h2]
  rfl
theorem cmpB_end (a b : List UInt8) (n : Nat) (h1 : n ≤ a.length) (h2 : n ≤ b.length) (h : n = a.length ∨ n = b.length) :
    Lib.compareBytes (a.drop n) (b.drop n) = cmp3 ((a.length : Int) - (b.length : Int)) 0 := by
  unfold cmp3
  by_cases e1 : n = a.length
  · rw [List.drop_of_length_le (by omega)]
    by_cases e2 : n = b.length
    · rw [List.drop_of_length_le (by omega), if_neg (by omega), if_neg (by omega)]; rfl
    · rw [List.drop_eq_getElem_cons (show n < b.length by omega), if_pos (by omega)]; rfl
  · have e2 : n = b.length := by omega
    rw [List.drop_of_length_le (l := b) (by omega), List.drop_eq_getElem_cons (show n < a.length by omega), if_neg (by omega), if_pos (by omega)]; rfl

theorem cmp3_congr {x y x' y' : Int} (h1 : x < y ↔ x' < y') (h2 : y < x ↔ y' < x') : cmp3 x y = cmp3 x' y' := by unfold cmp3; simp only [h1, h2]
/-- The words of values that may be. -/
def fit (k i b : Int) (s : ByteArray) : Prop := 0 ≤ k ∧ k ≤ 4 ∧ s.size ≤ 40 ∧ (k = 0 → i = 0) ∧ (k = 3 → FloatOrd.fine b.toNat ∧ b ≠ 9223372036854775808)

theorem risen_key (b b' : Int) (h0 : 0 ≤ b) (h1 : b ≤ 18446744073709551615) (h0' : 0 ≤ b') (h1' : b' ≤ 18446744073709551615) (hb : b ≠ 9223372036854775808) (hb' : b' ≠ 9223372036854775808) :
    cmp3 (risen b) (risen b') = cmp3 (FloatOrd.key b.toNat) (FloatOrd.key b'.toNat) := by
  have k1 : FloatOrd.key b.toNat = if b < 9223372036854775808 then b else 9223372036854775808 - b := by
    unfold FloatOrd.key; split <;> split <;> omega
  have k2 : FloatOrd.key b'.toNat = if b' < 9223372036854775808 then b' else 9223372036854775808 - b' := by
    unfold FloatOrd.key; split <;> split <;> omega
  rw [k1, k2]
  unfold risen
  by_cases c1 : b < 9223372036854775808 <;> by_cases c2 : b' < 9223372036854775808
  · rw [if_pos c1, if_pos c2, if_pos c1, if_pos c2]; exact cmp3_congr (by omega) (by omega)
  · rw [if_pos c1, if_neg c2, if_pos c1, if_neg c2]; exact cmp3_congr (by omega) (by omega)
  · rw [if_neg c1, if_pos c2, if_neg c1, if_pos c2]; exact cmp3_congr (by omega) (by omega)
  · rw [if_neg c1, if_neg c2, if_neg c1, if_neg c2]; exact cmp3_congr (by omega) (by omega)

end Go.Proofs.YtoleaahnpcbkkaaDoor
