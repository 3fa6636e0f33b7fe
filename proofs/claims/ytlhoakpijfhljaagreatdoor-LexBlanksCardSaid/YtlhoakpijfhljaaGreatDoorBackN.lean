/-
  PLAIN: a token that is shown is read again: numbers, reals; and what is shown is cut again.
  CONDITIONS: each theorem's own hypotheses.
-/
import Derived.Test.YtlhoakpijfhljaaGreatDoorBackT
import Derived.Test.YtlhoakpijfhljaaGreatDoorCutN
namespace Go.Proofs.YtlhoakpijfhljaaGreatDoor
open Go.RowKit
set_option linter.unusedVariables false
set_option maxRecDepth 100000

theorem numV_append : ∀ (a b : List UInt8) (x : Nat), numV (a ++ b) x = numV b (numV a x)
  | [], b, x => rfl
  | c :: a, b, x => by simp only [List.cons_append, numV]; exact numV_append a b _
theorem dec_one (v : Nat) (h : v < 10) : isDi (UInt8.ofNat (48 + v)) = true ∧ (UInt8.ofNat (48 + v)).toNat - 48 = v ∧ (UInt8.ofNat (48 + v) = 48 → v = 0) := by
  have : ∀ v : Fin 10, isDi (UInt8.ofNat (48 + v.val)) = true ∧ (UInt8.ofNat (48 + v.val)).toNat - 48 = v.val ∧ (UInt8.ofNat (48 + v.val) = 48 → v.val = 0) := by decide
  exact this ⟨v, h⟩
theorem dec_all (u : Nat) : (Lib.decDigits u).all isDi = true ∧ numV (Lib.decDigits u) 0 = u ∧ ((Lib.decDigits u).head? = some 48 → u = 0) ∧ Lib.decDigits u ≠ [] := by
  induction u using Nat.strongRecOn with
  | _ u ih =>
    by_cases h : u < 10
    · obtain ⟨e1, e2, e3⟩ := dec_one u h
      rw [Lib.decDigits, dif_pos h]
      generalize UInt8.ofNat (48 + u) = c at *
      refine ⟨by simp [e1], by simp [numV, e2], fun hh => e3 (by simpa using hh), by simp⟩
    · obtain ⟨i1, i2, i3, i4⟩ := ih (u / 10) (by omega)
      obtain ⟨e1, e2, e3⟩ := dec_one (u % 10) (by omega)
      rw [Lib.decDigits, dif_neg h]
      generalize UInt8.ofNat (48 + u % 10) = c at *
      generalize Lib.decDigits (u / 10) = D at *
      refine ⟨by rw [List.all_append, i1]; simp [e1], ?_, fun hh => ?_, by simp⟩
      · rw [numV_append, i2]; simp only [numV]; rw [e2]; omega
      · cases D with
        | nil => exact absurd rfl i4
        | cons x D =>
          have := i3 (by simpa using hh)
          omega
theorem back_num {s : List UInt8} {i b : Int} (h : tokC 3 s i b = 0) (hm : i ≤ 9223372036854775807) (r : List UInt8) (hr : Behind r) : firstR (Lib.itoa i ++ r) = .ok ⟨3, s, i, b⟩ (Lib.itoa i).length := by
  obtain ⟨_, _, ho, hg⟩ := tok_word h
  obtain ⟨_, hb, hs⟩ := own_ib ho
  have hi : 0 ≤ i := by simpa [goodT] using hg
  rw [hb (by decide), hs (.inl rfl)]
  obtain ⟨u, rfl⟩ : ∃ u : Nat, i = (u : Int) := ⟨i.toNat, by omega⟩
  have e : Lib.itoa (u : Int) = Lib.decDigits u := by unfold Lib.itoa; rw [if_neg (by omega)]; simp
  obtain ⟨d1, d2, d3, d4⟩ := dec_all u
  have d5 : u = 0 → (Lib.decDigits u).length = 1 := by rintro rfl; rw [Lib.decDigits, dif_pos (by decide)]; rfl
  rw [e]
  generalize Lib.decDigits u = D at *
  cases D with
  | nil => exact absurd rfl d4
  | cons c d =>
    have hc : isDi c = true := by simp only [List.all_cons, Bool.and_eq_true] at d1; exact d1.1
    have hsm : isSm c = false := by unfold isDi at hc; unfold isSm; simp at hc ⊢; omega
    have hgr : isGr c = false := by unfold isDi at hc; unfold isGr; simp at hc ⊢; omega
    have ht := behind_stop isDi (bl_no _ (by decide +kernel)) (c :: d) r d1 hr
    rw [List.cons_append] at ht ⊢
    simp only [firstR]
    rw [if_neg (by rw [hsm]; decide), if_neg (by rw [hgr]; decide), if_pos hc, ht]
    unfold numR
    rw [if_neg (fun hh => by have := d5 (d3 hh.1); omega), d2, if_neg (by omega)]
theorem hexD_idx (v : Nat) (h : v < 16) : Lib.indexByte hexL16 (hexD v) = (v : Int) := by
  have : ∀ v : Fin 16, Lib.indexByte hexL16 (hexD v.val) = (v.val : Int) := by decide
  exact this ⟨v, h⟩
theorem hexF_one (k v : Nat) (h : v < 16) (l : List UInt8) (a : Nat) : hexF (k + 1) (hexD v :: l) a = hexF k l (a * 16 + v) := by
  simp only [hexF]
  rw [hexD_idx v h, if_neg (by omega)]
  simp
theorem hexF_all : ∀ (f u k a : Nat) (t r : List UInt8), hexF (f + 1 + k) (hexAll f u t ++ r) a = hexF k (t ++ r) (a * 16 ^ (f + 1) + u % 16 ^ (f + 1))
  | 0, u, k, a, t, r => by
    simp only [hexAll, List.cons_append]
    rw [show 0 + 1 + k = k + 1 by omega, hexF_one _ _ (by omega)]
  | f + 1, u, k, a, t, r => by
    simp only [hexAll]
    rw [show f + 1 + 1 + k = f + 1 + (k + 1) by omega, hexF_all f (u / 16) (k + 1) a _ r, List.cons_append, hexF_one _ _ (by omega)]
    congr 1
    have e := Nat.mod_mul (x := u) (a := 16) (b := 16 ^ (f + 1))
    have e2 : 16 ^ (f + 1 + 1) = 16 * 16 ^ (f + 1) := by rw [Nat.pow_succ, Nat.mul_comm]
    rw [e2, e, Nat.add_mul, Nat.mul_assoc, Nat.mul_comm (16 ^ (f + 1)) 16]
    omega
theorem back_hex {s : List UInt8} {i b : Int} (h : tokC 5 s i b = 0) (h0 : 0 ≤ b) (h1 : b ≤ 18446744073709551615) (r : List UInt8) : firstR ((35 :: hex16 b.toNat) ++ r) = .ok ⟨5, s, i, b⟩ (35 :: hex16 b.toNat).length := by
  obtain ⟨_, _, ho, hg⟩ := tok_word h
  obtain ⟨hi, _, hs⟩ := own_ib ho
  have hn : (!nan b && !(b == 9223372036854775808)) = true := hg
  rw [hi (by decide), hs (.inr rfl)]
  obtain ⟨u, rfl⟩ : ∃ u : Nat, b = (u : Int) := ⟨b.toNat, by omega⟩
  rw [Int.toNat_natCast]
  have hf : firstR ((35 :: hex16 u) ++ r) = realR (35 :: (hex16 u ++ r)) := rfl
  have hx := hexF_all 15 u 0 0 [] r
  rw [hf]
  unfold realR
  rw [List.drop_one, List.tail_cons]
  unfold hex16
  rw [show (15 + 1 + 0) = 16 from rfl] at hx
  rw [hx]
  have e16 : 16 ^ (15 + 1) = 18446744073709551616 := by decide
  have hm : 0 * 16 ^ (15 + 1) + u % 16 ^ (15 + 1) = u := by rw [e16]; omega
  rw [hm]
  simp only [hexF]
  have hnn : ¬ ((nan (u : Int) || (u : Int) == 9223372036854775808) = true) := by
    cases h1 : nan (u : Int) <;> cases h2 : ((u : Int) == 9223372036854775808) <;> simp_all
  rw [if_neg hnn]
  simp [hexAll_len]
theorem back_any (t : Tok) (hf : FitT t) (h : okT t = 0) (r : List UInt8) (hr : Behind r) : firstR (shT t ++ r) = .ok t (shT t).length := by
  obtain ⟨k, s, i, b⟩ := t
  have h' : tokC k s i b = 0 := h
  obtain ⟨f0, f1, f2, f3, f4⟩ := hf
  obtain ⟨k1, k6, _, _⟩ := tok_word h'
  simp only at f0 f1 f2 f3 f4
  unfold shT shownT
  simp only
  rcases (show k = 1 ∨ k = 2 ∨ k = 3 ∨ k = 4 ∨ k = 5 ∨ k = 6 by omega) with rfl | rfl | rfl | rfl | rfl | rfl
  · exact back_name h' r hr
  · exact back_word h' r hr
  · exact back_num h' f3 r hr
  · exact back_quote h' r hr
  · exact back_hex h' f0 f1 r
  · exact back_sign h' r hr
end Go.Proofs.YtlhoakpijfhljaaGreatDoor
