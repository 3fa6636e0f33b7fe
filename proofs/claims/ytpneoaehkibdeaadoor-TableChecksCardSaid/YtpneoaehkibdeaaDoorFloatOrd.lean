/-
  PLAIN MATHEMATICS OF THE MODEL's float64 (no Go in sight): the bits of floats that are numbers (no NaN, no negative nought) stand as the floats do.
  CONDITIONS: each theorem's own.
-/
import Ieee.Arith
namespace Go.Proofs.YtpneoaehkibdeaaDoor.FloatOrd
open Ieee

/-- How far from nought the number of a rung stands, in units of the least place. -/
def val (r : Nat) : Nat := if r < 4503599627370496 then r else (4503599627370496 + r % 4503599627370496) * 2 ^ (r / 4503599627370496 - 1)

theorem val_step (r : Nat) : val r < val (r + 1) := by
  unfold val
  by_cases h1 : r + 1 < 4503599627370496
  · rw [if_pos h1, if_pos (by omega)]; omega
  · by_cases h2 : r < 4503599627370496
    · have : r + 1 = 4503599627370496 := by omega
      rw [if_pos h2, if_neg h1, this]
      simp; omega
    · rw [if_neg h2, if_neg h1]
      obtain ⟨q, hq⟩ : ∃ q, r / 4503599627370496 = q + 1 := ⟨r / 4503599627370496 - 1, by omega⟩
      by_cases hm : r % 4503599627370496 = 4503599627370495
      · have hd : (r + 1) / 4503599627370496 = q + 2 := by omega
        have hr : (r + 1) % 4503599627370496 = 0 := by omega
        rw [hq, hd, hr, hm]
        have e : 2 ^ (q + 2 - 1) = 2 * 2 ^ q := by rw [show q + 2 - 1 = q + 1 from by omega, Nat.pow_succ]; omega
        rw [e, show q + 1 - 1 = q from by omega]
        have := Nat.two_pow_pos q
        omega
      · have hd : (r + 1) / 4503599627370496 = q + 1 := by omega
        have hr : (r + 1) % 4503599627370496 = r % 4503599627370496 + 1 := by omega
        rw [hq, hd, hr, show q + 1 - 1 = q from by omega]
        have := Nat.two_pow_pos q
        rw [show 4503599627370496 + (r % 4503599627370496 + 1) = (4503599627370496 + r % 4503599627370496) + 1 from by omega, Nat.succ_mul]
        omega

theorem val_lt {a b : Nat} (h : a < b) : val a < val b := by
  induction b with
  | zero => omega
  | succ b ih =>
    have := val_step b
    by_cases e : a = b
    · subst e; exact this
    · have := ih (by omega); omega

theorem val_inj {a b : Nat} (h : val a = val b) : a = b := by
  rcases Nat.lt_trichotomy a b with l | e | g
  · have := val_lt l; omega
  · exact e
  · have := val_lt g; omega

theorem val_le {a b : Nat} (h : a ≤ b) : val a ≤ val b := by
  by_cases e : a = b
  · subst e; exact Nat.le_refl _
  · exact Nat.le_of_lt (val_lt (by omega))

theorem val_zero : val 0 = 0 := by simp [val]

/-- A number of the format: its sign, and how many units it has. -/
theorem read_number (b : Nat) (h : b % 9223372036854775808 < 9218868437227405312) :
    ∃ m : Nat, ∃ e : Nat, double.read b = .number (b / 9223372036854775808 % 2 == 1) m (double.leastPlace + (e : Int)) ∧ m * 2 ^ e = val (b % 9223372036854775808) := by
  have e1 : double.signWeight = 9223372036854775808 := by decide
  have e2 : double.binade = 4503599627370496 := by decide
  have e3 : double.infRung = 9218868437227405312 := by decide
  unfold Format.read val
  rw [e1, e2, e3]
  by_cases h1 : b % 9223372036854775808 < 4503599627370496
  · exact ⟨b % 9223372036854775808, 0, by simp [h1], by simp [h1]⟩
  · refine ⟨4503599627370496 + b % 9223372036854775808 % 4503599627370496, b % 9223372036854775808 / 4503599627370496 - 1, ?_, ?_⟩
    · simp only [h1, h, if_false, if_true]
    · simp only [h1, if_false]

theorem read_inf (b : Nat) (h : b % 9223372036854775808 = 9218868437227405312) : double.read b = .infinity (b / 9223372036854775808 % 2 == 1) := by
  have e1 : double.signWeight = 9223372036854775808 := by decide
  have e2 : double.binade = 4503599627370496 := by decide
  have e3 : double.infRung = 9218868437227405312 := by decide
  unfold Format.read
  rw [e1, e2, e3, h]
  simp

theorem read_nan (b : Nat) (h : 9218868437227405312 < b % 9223372036854775808) : ∃ f, double.read b = .nan (b / 9223372036854775808 % 2 == 1) f := by
  have e1 : double.signWeight = 9223372036854775808 := by decide
  have e2 : double.binade = 4503599627370496 := by decide
  have e3 : double.infRung = 9218868437227405312 := by decide
  unfold Format.read
  rw [e1, e2, e3]
  refine ⟨b % 9223372036854775808 - 9218868437227405312, ?_⟩
  simp only [show ¬ b % 9223372036854775808 < 4503599627370496 from by omega, show ¬ b % 9223372036854775808 < 9218868437227405312 from by omega, show ¬ b % 9223372036854775808 = 9218868437227405312 from by omega, if_false]

/-- Bits of no NaN. -/
def fine (b : Nat) : Prop := b < 18446744073709551616 ∧ b % 9223372036854775808 ≤ 9218868437227405312

theorem nan_order_left (b c : Nat) (h : 9218868437227405312 < b % 9223372036854775808) : double.order b c = none := by
  obtain ⟨f, hf⟩ := read_nan b h
  unfold Format.order
  rw [hf]
  rfl

/-- How signed numbers stand: by sign and rung. -/
def key (b : Nat) : Int := if b < 9223372036854775808 then (b : Int) else 9223372036854775808 - (b : Int)

theorem compare_of_lt {a b : Int} (h : a < b) : compare a b = .lt := by simp [compare, compareOfLessAndEq, h]
theorem compare_of_gt {a b : Int} (h : b < a) : compare a b = .gt := by
  simp [compare, compareOfLessAndEq, show ¬ a < b from by omega, show ¬ a = b from by omega]
theorem compare_of_eq {a b : Int} (h : a = b) : compare a b = .eq := by subst h; simp [compare, compareOfLessAndEq]

theorem compare_scale (a b : Int) (k : Nat) : compare (a * 2 ^ k) (b * 2 ^ k) = compare a b := by
  have hp : (0 : Int) < 2 ^ k := Int.pow_pos (by decide)
  rcases Int.lt_trichotomy a b with l | e | g
  · rw [compare_of_lt l, compare_of_lt (Int.mul_lt_mul_of_pos_right l hp)]
  · rw [compare_of_eq e, compare_of_eq (by rw [e])]
  · rw [compare_of_gt g, compare_of_gt (Int.mul_lt_mul_of_pos_right g hp)]

theorem signed_scale (s : Bool) (m up k : Nat) : signed s m up * 2 ^ k = (if s then -1 else 1) * ((m * 2 ^ (up + k) : Nat) : Int) := by
  unfold signed
  cases s <;> simp [Nat.shiftLeft_eq, Nat.pow_add, Int.mul_assoc, Int.neg_mul]

theorem number_order (s t : Bool) (m n i j : Nat) (p : Int) :
    Datum.order (.number s m (p + (i : Int))) (.number t n (p + (j : Int))) =
      some (compare ((if s then -1 else 1) * ((m * 2 ^ i : Nat) : Int)) ((if t then -1 else 1) * ((n * 2 ^ j : Nat) : Int))) := by
  have hmin : min (p + (i : Int)) (p + (j : Int)) = p + ((min i j : Nat) : Int) := by omega
  unfold Datum.order
  simp only [hmin]
  have hi : (p + (i : Int) - (p + ((min i j : Nat) : Int))).toNat = i - min i j := by omega
  have hj : (p + (j : Int) - (p + ((min i j : Nat) : Int))).toNat = j - min i j := by omega
  rw [hi, hj, ← compare_scale _ _ (min i j), signed_scale, signed_scale, show i - min i j + min i j = i from by omega, show j - min i j + min i j = j from by omega]

theorem signed_key (b c : Nat) (hb : b < 18446744073709551616) (hc : c < 18446744073709551616) :
    compare ((if (b / 9223372036854775808 % 2 == 1) = true then -1 else 1) * ((val (b % 9223372036854775808) : Nat) : Int)) ((if (c / 9223372036854775808 % 2 == 1) = true then -1 else 1) * ((val (c % 9223372036854775808) : Nat) : Int)) = compare (key b) (key c) := by
  have z := val_zero
  by_cases sb : b < 9223372036854775808 <;> by_cases sc : c < 9223372036854775808
  · have e1 : b % 9223372036854775808 = b := by omega
    have e2 : c % 9223372036854775808 = c := by omega
    have f1 : (b / 9223372036854775808 % 2 == 1) = false := by rw [show b / 9223372036854775808 = 0 from by omega]; rfl
    have f2 : (c / 9223372036854775808 % 2 == 1) = false := by rw [show c / 9223372036854775808 = 0 from by omega]; rfl
    rw [e1, e2, f1, f2]
    unfold key
    rw [if_pos sb, if_pos sc]
    simp only [Bool.false_eq_true, if_false, Int.one_mul]
    rcases Nat.lt_trichotomy b c with l | e | g
    · have := val_lt l; rw [compare_of_lt (by omega), compare_of_lt (by omega)]
    · subst e; rw [compare_of_eq rfl, compare_of_eq rfl]
    · have := val_lt g; rw [compare_of_gt (by omega), compare_of_gt (by omega)]
  · have e1 : b % 9223372036854775808 = b := by omega
    have f1 : (b / 9223372036854775808 % 2 == 1) = false := by rw [show b / 9223372036854775808 = 0 from by omega]; rfl
    have f2 : (c / 9223372036854775808 % 2 == 1) = true := by rw [show c / 9223372036854775808 = 1 from by omega]; rfl
    rw [e1, f1, f2]
    unfold key
    rw [if_pos sb, if_neg sc]
    simp only [Bool.false_eq_true, if_false, if_true, Int.one_mul]
    have v1 := val_le (Nat.zero_le b)
    have v2 := val_le (Nat.zero_le (c % 9223372036854775808))
    by_cases hb0 : b = 0 <;> by_cases hc0 : c % 9223372036854775808 = 0
    · subst hb0; rw [hc0, z, compare_of_eq (by omega), compare_of_eq (by omega)]
    · have := val_lt (show 0 < c % 9223372036854775808 from by omega)
      rw [compare_of_gt (by omega), compare_of_gt (by omega)]
    · have := val_lt (show 0 < b from by omega)
      rw [compare_of_gt (by omega), compare_of_gt (by omega)]
    · have := val_lt (show 0 < b from by omega)
      rw [compare_of_gt (by omega), compare_of_gt (by omega)]
  · have e2 : c % 9223372036854775808 = c := by omega
    have f1 : (b / 9223372036854775808 % 2 == 1) = true := by rw [show b / 9223372036854775808 = 1 from by omega]; rfl
    have f2 : (c / 9223372036854775808 % 2 == 1) = false := by rw [show c / 9223372036854775808 = 0 from by omega]; rfl
    rw [e2, f1, f2]
    unfold key
    rw [if_neg sb, if_pos sc]
    simp only [Bool.false_eq_true, if_false, if_true, Int.one_mul]
    have v1 := val_le (Nat.zero_le c)
    have v2 := val_le (Nat.zero_le (b % 9223372036854775808))
    by_cases hc0 : c = 0 <;> by_cases hb0 : b % 9223372036854775808 = 0
    · subst hc0; rw [hb0, z, compare_of_eq (by omega), compare_of_eq (by omega)]
    · have := val_lt (show 0 < b % 9223372036854775808 from by omega)
      rw [compare_of_lt (by omega), compare_of_lt (by omega)]
    · have := val_lt (show 0 < c from by omega)
      rw [compare_of_lt (by omega), compare_of_lt (by omega)]
    · have := val_lt (show 0 < c from by omega)
      rw [compare_of_lt (by omega), compare_of_lt (by omega)]
  · have f1 : (b / 9223372036854775808 % 2 == 1) = true := by rw [show b / 9223372036854775808 = 1 from by omega]; rfl
    have f2 : (c / 9223372036854775808 % 2 == 1) = true := by rw [show c / 9223372036854775808 = 1 from by omega]; rfl
    rw [f1, f2]
    unfold key
    rw [if_neg sb, if_neg sc]
    simp only [if_true]
    rcases Nat.lt_trichotomy b c with l | e | g
    · have := val_lt (show b % 9223372036854775808 < c % 9223372036854775808 from by omega); rw [compare_of_gt (by omega), compare_of_gt (by omega)]
    · subst e; rw [compare_of_eq rfl, compare_of_eq rfl]
    · have := val_lt (show c % 9223372036854775808 < b % 9223372036854775808 from by omega); rw [compare_of_lt (by omega), compare_of_lt (by omega)]

/-- ████ Floats that are no NaN stand as their keys do. -/
theorem order_key (b c : Nat) (hb : fine b) (hc : fine c) : double.order b c = some (compare (key b) (key c)) := by
  obtain ⟨hb1, hb2⟩ := hb
  obtain ⟨hc1, hc2⟩ := hc
  unfold Format.order
  by_cases ib : b % 9223372036854775808 = 9218868437227405312 <;> by_cases ic : c % 9223372036854775808 = 9218868437227405312
  · rw [read_inf b ib, read_inf c ic]
    by_cases sb : b < 9223372036854775808 <;> by_cases sc : c < 9223372036854775808
    · obtain rfl : b = c := by omega
      rw [compare_of_eq rfl]
      simp [Datum.order, compare, compareOfLessAndEq]
    · have : key b = 9218868437227405312 := by unfold key; rw [if_pos sb]; omega
      have : key c = -9218868437227405312 := by unfold key; rw [if_neg sc]; omega
      rw [compare_of_gt (by omega)]
      rw [show b / 9223372036854775808 = 0 from by omega, show c / 9223372036854775808 = 1 from by omega]
      rfl
    · have : key b = -9218868437227405312 := by unfold key; rw [if_neg sb]; omega
      have : key c = 9218868437227405312 := by unfold key; rw [if_pos sc]; omega
      rw [compare_of_lt (by omega)]
      rw [show b / 9223372036854775808 = 1 from by omega, show c / 9223372036854775808 = 0 from by omega]
      rfl
    · obtain rfl : b = c := by omega
      rw [compare_of_eq rfl]
      simp [Datum.order, compare, compareOfLessAndEq]
  · obtain ⟨n, j, hn, hv⟩ := read_number c (by omega)
    rw [read_inf b ib, hn]
    by_cases sb : b < 9223372036854775808
    · have : key b = 9218868437227405312 := by unfold key; rw [if_pos sb]; omega
      have : key c < 9218868437227405312 := by unfold key; split <;> omega
      rw [compare_of_gt (by omega), show b / 9223372036854775808 = 0 from by omega]
      rfl
    · have : key b = -9218868437227405312 := by unfold key; rw [if_neg sb]; omega
      have : -9218868437227405312 < key c := by unfold key; split <;> omega
      rw [compare_of_lt (by omega), show b / 9223372036854775808 = 1 from by omega]
      rfl
  · obtain ⟨n, j, hn, hv⟩ := read_number b (by omega)
    rw [read_inf c ic, hn]
    by_cases sc : c < 9223372036854775808
    · have : key c = 9218868437227405312 := by unfold key; rw [if_pos sc]; omega
      have : key b < 9218868437227405312 := by unfold key; split <;> omega
      rw [compare_of_lt (by omega), show c / 9223372036854775808 = 0 from by omega]
      rfl
    · have : key c = -9218868437227405312 := by unfold key; rw [if_neg sc]; omega
      have : -9218868437227405312 < key b := by unfold key; split <;> omega
      rw [compare_of_gt (by omega), show c / 9223372036854775808 = 1 from by omega]
      rfl
  · obtain ⟨m, i, hm, hv⟩ := read_number b (by omega)
    obtain ⟨n, j, hn, hu⟩ := read_number c (by omega)
    rw [hm, hn, number_order, hv, hu, signed_key b c hb1 hc1]

/-- A NaN is not alike itself; all else is. -/
theorem self_eq (b : Nat) (hb : b < 18446744073709551616) : (double.order b b != some .eq) = decide (9218868437227405312 < b % 9223372036854775808) := by
  by_cases h : 9218868437227405312 < b % 9223372036854775808
  · rw [nan_order_left b b h, decide_eq_true h]; rfl
  · rw [order_key b b ⟨hb, by omega⟩ ⟨hb, by omega⟩, compare_of_eq rfl, decide_eq_false h]; rfl

end Go.Proofs.YtpneoaehkibdeaaDoor.FloatOrd
