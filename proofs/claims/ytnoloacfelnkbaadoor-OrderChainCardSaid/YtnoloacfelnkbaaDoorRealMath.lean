/-
  PLAIN MATHEMATICS: the bits of a whole number as a real: they stand as the whole numbers stand.
  CONDITIONS: each theorem's own hypotheses.
-/
import Derived.Test.YtnoloacfelnkbaaDoorFloatOrd
import Derived.Laws.BitsAllLaws
import Derived.Laws.BitsLemmas
namespace Go.Proofs.YtnoloacfelnkbaaDoor.RealMath

theorem wraps_u64 (n : Int) (h0 : 0 ≤ n) (h1 : n < 2 ^ 64) : IntKind.u64.wrap n = n := by rw [IntKind.wrap_u64]; omega

/-- A rung of an exponent field e and a fraction field f. -/
theorem val_rung (e f : Nat) (he : 1 ≤ e) (hf : f < 4503599627370496) : FloatOrd.val (e * 4503599627370496 + f) = (4503599627370496 + f) * 2 ^ (e - 1) := by
  unfold FloatOrd.val
  have h1 : ¬ e * 4503599627370496 + f < 4503599627370496 := by omega
  have h2 : (e * 4503599627370496 + f) % 4503599627370496 = f := by omega
  have h3 : (e * 4503599627370496 + f) / 4503599627370496 = e := by omega
  rw [if_neg h1, h2, h3]

/-- The rung of n = K / 2^j, K with 53 digits: its number is n times one and the same unit. -/
theorem val_whole (n K j : Nat) (hK : K = n * 2 ^ j) (h1 : 4503599627370496 ≤ K) (h2 : K < 9007199254740992) (hj : j ≤ 52) :
    FloatOrd.val ((1075 - j) * 4503599627370496 + (K - 4503599627370496)) = n * 2 ^ 1074 := by
  rw [val_rung _ _ (by omega) (by omega)]
  rw [show 4503599627370496 + (K - 4503599627370496) = K from by omega, hK, Nat.mul_assoc, ← Nat.pow_add, show j + (1075 - j - 1) = 1074 from by omega]

/-- The digits of K: the exponent's field and the fraction's, joined. -/
theorem join (s e K : Int) (hs : s = 0 ∨ s = 1) (he0 : 0 ≤ e) (he : e ≤ 2046) (h1 : 4503599627370496 ≤ K) (h2 : K < 9007199254740992) :
    bits .or .u64 (bits .or .u64 (IntKind.u64.wrap (s * 9223372036854775808)) (IntKind.u64.wrap (e * 4503599627370496))) (bits .and .u64 K 4503599627370495) = s * 9223372036854775808 + e * 4503599627370496 + (K - 4503599627370496) := by
  have p64 : (2 : Int) ^ 64 = 18446744073709551616 := by decide
  have p63 : (2 : Int) ^ 63 = 9223372036854775808 := by decide
  have p52 : (2 : Int) ^ 52 = 4503599627370496 := by decide
  have w1 : IntKind.u64.wrap (s * 9223372036854775808) = s * 9223372036854775808 := wraps_u64 _ (by omega) (by omega)
  have w2 : IntKind.u64.wrap (e * 4503599627370496) = e * 4503599627370496 := wraps_u64 _ (by omega) (by omega)
  have o1 : bits .or .u64 (s * 9223372036854775808) (e * 4503599627370496) = s * 9223372036854775808 + e * 4503599627370496 :=
    bits_join .u64 64 (by decide) wraps_u64 63 _ _ (by omega) (by omega) (by omega) (by omega) (by omega) (by omega)
  have a1 : bits .and .u64 K 4503599627370495 = K % 2 ^ 52 := bits_mask .u64 64 (by decide) wraps_u64 52 (by decide) K (by omega) (by omega)
  have a2 : K % 2 ^ 52 = K - 4503599627370496 := by omega
  rw [w1, w2, o1, a1, a2]
  exact bits_join .u64 64 (by decide) wraps_u64 52 _ _ (by omega) (by omega) (by omega) (by omega) (by omega) (by omega)

/-- The bits b stand for the whole number n. -/
def Whole (n b : Int) : Prop := (n = 0 ∧ b = 0) ∨ (0 < n ∧ ∃ r : Nat, b = r ∧ 0 < r ∧ r < 9218868437227405312 ∧ FloatOrd.val r = n.toNat * 2 ^ 1074) ∨ (n < 0 ∧ ∃ r : Nat, b = 9223372036854775808 + r ∧ 0 < r ∧ r < 9218868437227405312 ∧ FloatOrd.val r = (-n).toNat * 2 ^ 1074)

theorem rung_lt (a b m n : Nat) (ha : FloatOrd.val a = m * 2 ^ 1074) (hb : FloatOrd.val b = n * 2 ^ 1074) : (a < b ↔ m < n) := by
  have hp := Nat.two_pow_pos 1074
  generalize 2 ^ 1074 = u at ha hb hp
  constructor
  · intro h
    have := FloatOrd.val_lt h
    rw [ha, hb] at this
    exact Nat.lt_of_mul_lt_mul_right this
  · intro h
    rcases Nat.lt_or_ge a b with h' | h'
    · exact h'
    · have := FloatOrd.val_le h'
      rw [ha, hb] at this
      have := Nat.mul_lt_mul_of_pos_right h hp
      omega

theorem whole_key (n b : Int) (h : Whole n b) : (n = 0 ∧ FloatOrd.key b.toNat = 0) ∨ (0 < n ∧ ∃ r : Nat, FloatOrd.key b.toNat = r ∧ 0 < r ∧ FloatOrd.val r = n.toNat * 2 ^ 1074) ∨ (n < 0 ∧ ∃ r : Nat, FloatOrd.key b.toNat = -(r : Int) ∧ 0 < r ∧ FloatOrd.val r = (-n).toNat * 2 ^ 1074) := by
  rcases h with ⟨rfl, rfl⟩ | ⟨hn, r, rfl, h0, h1, hv⟩ | ⟨hn, r, rfl, h0, h1, hv⟩
  · exact Or.inl ⟨rfl, rfl⟩
  · refine Or.inr (Or.inl ⟨hn, r, ?_, h0, hv⟩)
    unfold FloatOrd.key; rw [if_pos (by omega)]; omega
  · refine Or.inr (Or.inr ⟨hn, r, ?_, h0, hv⟩)
    unfold FloatOrd.key; rw [if_neg (by omega)]; omega

/-- ████ Keys of whole numbers stand as the numbers do. -/
theorem whole_lt (m n b c : Int) (hb : Whole m b) (hc : Whole n c) : (FloatOrd.key b.toNat < FloatOrd.key c.toNat ↔ m < n) := by
  rcases whole_key m b hb with ⟨h1, k1⟩ | ⟨h1, r, k1, r0, v1⟩ | ⟨h1, r, k1, r0, v1⟩ <;> rcases whole_key n c hc with ⟨h2, k2⟩ | ⟨h2, q, k2, q0, v2⟩ | ⟨h2, q, k2, q0, v2⟩ <;> rw [k1, k2]
  · omega
  · omega
  · omega
  · omega
  · have := rung_lt r q _ _ v1 v2; omega
  · omega
  · omega
  · omega
  · have := rung_lt q r _ _ v2 v1; omega

theorem whole_fine (n b : Int) (h : Whole n b) : 0 ≤ b ∧ b ≤ 18446744073709551615 ∧ ¬ 9218868437227405312 < b.toNat % 9223372036854775808 ∧ b ≠ 9223372036854775808 := by
  rcases h with ⟨rfl, rfl⟩ | ⟨hn, r, rfl, h0, h1, hv⟩ | ⟨hn, r, rfl, h0, h1, hv⟩ <;> omega

theorem pow_le_of (n j : Nat) (hn : 1 ≤ n) (h : n * 2 ^ j < 4503599627370496) : j ≤ 51 := by
  rcases Nat.lt_or_ge j 52 with h' | h'
  · omega
  · have h1 : (2 : Nat) ^ 52 ≤ 2 ^ j := Nat.pow_le_pow_right (by omega) h'
    have h2 : 2 ^ j ≤ n * 2 ^ j := Nat.le_mul_of_pos_left _ hn
    have e : (2 : Nat) ^ 52 = 4503599627370496 := by decide
    omega
end Go.Proofs.YtnoloacfelnkbaaDoor.RealMath
