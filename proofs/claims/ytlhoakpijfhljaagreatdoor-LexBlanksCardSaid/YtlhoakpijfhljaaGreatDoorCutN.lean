/-
  CONTRACT of the reference's digitsOf.
  CONDITIONS: each theorem's own hypotheses.
-/
import Derived.Test.YtlhoakpijfhljaaGreatDoorCutC
import Derived.Test.YtlhoakpijfhljaaGreatDoorValB
namespace Go.Proofs.YtlhoakpijfhljaaGreatDoor
open Go.RowKit
set_option linter.unusedVariables false
set_option maxRecDepth 100000

def pow10 : Nat → Nat
  | 0 => 1
  | n + 1 => pow10 n * 10
theorem numV_split : ∀ (l : List UInt8) (a : Nat), numV l a = a * pow10 l.length + numV l 0
  | [], a => by simp [numV, pow10]
  | c :: l, a => by
    have h1 := numV_split l (a * 10 + (c.toNat - 48))
    have h2 := numV_split l (0 * 10 + (c.toNat - 48))
    simp only [numV, List.length_cons, pow10]
    rw [h1, h2, Nat.zero_mul, Nat.zero_add, Nat.add_mul, Nat.mul_assoc, Nat.mul_comm 10 (pow10 l.length)]
    omega
theorem dig_range {c : UInt8} (h : isDi c = true) : 48 ≤ c.toNat ∧ c.toNat ≤ 57 := by
  have := all_bytes (P := fun c => !isDi c || (decide (48 ≤ c.toNat) && decide (c.toNat ≤ 57))) (by decide +kernel) c
  simpa [h] using this
theorem numV_lt : ∀ (l : List UInt8), l.all isDi = true → numV l 0 < pow10 l.length
  | [], _ => by decide
  | c :: l, h => by
    simp only [List.all_cons, Bool.and_eq_true] at h
    have hc := dig_range h.1
    have h2 := numV_lt l h.2
    simp only [numV, List.length_cons, pow10]
    rw [numV_split]
    have h9 : (0 * 10 + (c.toNat - 48)) * pow10 l.length ≤ 9 * pow10 l.length := Nat.mul_le_mul_right _ (by omega)
    omega
theorem pow10_mono : ∀ {a b : Nat}, a ≤ b → pow10 a ≤ pow10 b
  | a, 0, h => by obtain rfl : a = 0 := by omega
                  exact Nat.le_refl _
  | a, b + 1, h => by
    by_cases he : a = b + 1
    · rw [he]; exact Nat.le_refl _
    · have := pow10_mono (a := a) (b := b) (by omega)
      simp only [pow10]; omega
/-- Of digits as many, the greater text is the greater number. -/
theorem digits_cmp : ∀ (x y : List UInt8), x.length = y.length → x.all isDi = true → y.all isDi = true → (Op.bytesLess x y = decide (numV x 0 < numV y 0)) ∧ ((x == y) = decide (numV x 0 = numV y 0))
  | [], [], _, _, _ => by decide
  | [], b :: y, h, _, _ => by simp at h
  | a :: x, [], h, _, _ => by simp at h
  | a :: x, b :: y, h, hx, hy => by
    simp only [List.length_cons, Nat.add_right_cancel_iff] at h
    simp only [List.all_cons, Bool.and_eq_true] at hx hy
    obtain ⟨i1, i2⟩ := digits_cmp x y h hx.2 hy.2
    have ha := dig_range hx.1
    have hb := dig_range hy.1
    have l1 := numV_lt x hx.2
    have l2 := numV_lt y hy.2
    have e1 : numV (a :: x) 0 = (a.toNat - 48) * pow10 x.length + numV x 0 := by simp only [numV]; rw [numV_split]; simp
    have e2 : numV (b :: y) 0 = (b.toNat - 48) * pow10 x.length + numV y 0 := by simp only [numV]; rw [numV_split, h]; simp
    rw [e1, e2]
    rw [← h] at l2
    have key : ∀ p q : Nat, p < q → p * pow10 x.length + pow10 x.length ≤ q * pow10 x.length := fun p q hpq => by
      have := Nat.mul_le_mul_right (pow10 x.length) (show p + 1 ≤ q by omega)
      rw [Nat.add_mul, Nat.one_mul] at this
      exact this
    rcases Nat.lt_trichotomy a.toNat b.toNat with hlt | heq | hgt
    · have hab : a < b := by rw [UInt8.lt_iff_toNat_lt]; exact hlt
      have hne : (a == b) = false := by simp only [beq_eq_false_iff_ne, ne_eq]; rintro rfl; omega
      have hk := key (a.toNat - 48) (b.toNat - 48) (by omega)
      refine ⟨?_, ?_⟩
      · simp only [Op.bytesLess, hab, decide_true, Bool.true_or]
        symm; rw [decide_eq_true_eq]; omega
      · show ((a :: x) == (b :: y)) = _
        rw [List.cons_beq_cons, hne, Bool.false_and]
        symm; rw [decide_eq_false_iff_not]; omega
    · obtain rfl := UInt8.toNat_inj.1 heq
      have hab : ¬ a < a := by rw [UInt8.lt_iff_toNat_lt]; omega
      refine ⟨?_, ?_⟩
      · simp only [Op.bytesLess, hab, decide_false, Bool.false_or, beq_self_eq_true, Bool.true_and]
        rw [i1, decide_eq_decide]; omega
      · show ((a :: x) == (a :: y)) = _
        rw [List.cons_beq_cons, beq_self_eq_true, Bool.true_and, i2, decide_eq_decide]; omega
    · have hab : ¬ a < b := by rw [UInt8.lt_iff_toNat_lt]; omega
      have hne : (a == b) = false := by simp only [beq_eq_false_iff_ne, ne_eq]; rintro rfl; omega
      have hk := key (b.toNat - 48) (a.toNat - 48) (by omega)
      refine ⟨?_, ?_⟩
      · simp only [Op.bytesLess, hab, decide_false, Bool.false_or, hne, Bool.false_and]
        symm; rw [decide_eq_false_iff_not]; omega
      · show ((a :: x) == (b :: y)) = _
        rw [List.cons_beq_cons, hne, Bool.false_and]
        symm; rw [decide_eq_false_iff_not]; omega
def mostL : List UInt8 := [57, 50, 50, 51, 51, 55, 50, 48, 51, 54, 56, 53, 52, 55, 55, 53, 56, 48, 55]
theorem most_facts : mostL.length = 19 ∧ mostL.all isDi = true ∧ numV mostL 0 = 9223372036854775807 := by decide
theorem numV_take : ∀ (l : List UInt8) (i a : Nat) (h : i < l.length), numV (l.take (i + 1)) a = numV (l.take i) a * 10 + (l[i].toNat - 48)
  | c :: l, 0, a, h => by simp [numV]
  | c :: l, i + 1, a, h => by
    simp only [List.take_succ_cons, numV, List.getElem_cons_succ]
    exact numV_take l i _ (by simpa using h)
theorem numV_take_le : ∀ (l : List UInt8) (i a : Nat), numV (l.take i) a ≤ numV l a
  | [], i, a => by simp
  | c :: l, 0, a => by
    simp only [List.take_zero]
    exact numV_ge (c :: l) a
  | c :: l, i + 1, a => by
    simp only [List.take_succ_cons, numV]
    exact numV_take_le l i _
def DgOk (R : TR) (k x : Int) : Prop := match R with
  | .err e => x = e ∧ e ≠ 0
  | .ok t _ => t = ⟨3, [], k, 0⟩ ∧ x = 0
end Go.Proofs.YtlhoakpijfhljaaGreatDoor
