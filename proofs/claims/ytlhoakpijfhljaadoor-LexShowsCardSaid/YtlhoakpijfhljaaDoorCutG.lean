/-
  CONTRACT of package lex's first.
  CONDITIONS: each theorem's own hypotheses; package lex's signs, unicode/utf8's tables, strconv's ErrRange and bytealg's MaxLen hold what they hold ('SW', 'Tabs', 'ER', 'MaxL').
-/
import Derived.Test.YtlhoakpijfhljaaDoorCutF
namespace Go.Proofs.YtlhoakpijfhljaaDoor
open Go.RowKit
set_option linter.unusedVariables false
set_option maxRecDepth 100000

theorem unQ_len : ∀ (m : Nat) (l : List UInt8), l.length ≤ m → (unQ l).length ≤ l.length
  | 0, l, h => by
    obtain rfl : l = [] := List.eq_nil_of_length_eq_zero (by omega)
    rw [unQ_nil]; simp
  | m + 1, l, h => by
    cases l with
    | nil => rw [unQ_nil]; simp
    | cons c r =>
      simp only [List.length_cons] at h ⊢
      by_cases hh : c = 39 ∧ r.head? = some 39
      · obtain ⟨rfl, h2⟩ := hh
        have hr := head_split h2
        have e : unQ (39 :: r) = 39 :: unQ (r.drop 1) := by rw [hr, unQ_pair]; simp
        have := unQ_len m (r.drop 1) (by rw [List.length_drop]; omega)
        rw [e, List.length_cons]
        rw [List.length_drop] at this
        omega
      · rw [unQ_other c r hh]
        have := unQ_len m r (by omega)
        simp; omega
theorem hexF_lt : ∀ (k : Nat) (l : List UInt8) (a b : Nat), hexF k l a = .ok b → b < (a + 1) * 16 ^ k
  | 0, l, a, b, h => by
    simp only [hexF] at h
    cases h; simp
  | k + 1, [], a, b, h => by cases h
  | k + 1, c :: r, a, b, h => by
    simp only [hexF] at h
    split at h
    · cases h
    · have hr := hexI_range c
      have := hexF_lt k r _ b h
      have h2 : (a * 16 + (Lib.indexByte hexL16 c).toNat + 1) * 16 ^ k ≤ ((a + 1) * 16) * 16 ^ k := Nat.mul_le_mul_right _ (by omega)
      rw [Nat.pow_succ, Nat.mul_comm (16 ^ k) 16, ← Nat.mul_assoc]
      omega
theorem prefix_len {l s : List UInt8} (h : Lib.hasPrefix l s = true) : s.length ≤ l.length := by
  rw [← Lib.hasPrefix_of_take] at h
  simp only [Bool.and_eq_true, decide_eq_true_eq] at h
  exact h.1
theorem signR_len (l : List UInt8) : (signR l).length ≤ l.length := by
  by_cases h : signR l = []
  · rw [h]; simp
  · exact prefix_len (signR_mem l h)
/-- What a token that was read is like. -/
theorem read_fits (l : List UInt8) (t : Tok) (n : Nat) (h : readR l = .ok t n) : 0 ≤ t.b ∧ t.b ≤ 18446744073709551615 ∧ t.s.length ≤ l.length := by
  cases l with
  | nil => cases h
  | cons c r =>
    simp only [readR] at h
    split at h
    · cases h; exact ⟨by simp, by simp, takeWhile_le _ _⟩
    split at h
    · cases h; exact ⟨by simp, by simp, takeWhile_le _ _⟩
    split at h
    · unfold numR at h
      split at h
      · cases h
      · split at h
        · cases h
        · cases h; exact ⟨by simp, by simp, by simp⟩
    split at h
    · unfold quoteP at h
      cases he : endQ ((c :: r).drop 1) 1 with
      | none => rw [he] at h; cases h
      | some p =>
        rw [he] at h
        cases h
        have := unQ_len _ (((c :: r).drop 1).take (p - 1)) (Nat.le_refl _)
        simp only [List.length_take, List.length_drop] at this
        exact ⟨by simp, by simp, by simp only; omega⟩
    split at h
    · unfold realP at h
      cases he : hexF 16 ((c :: r).drop 1) 0 with
      | err e => rw [he] at h; cases h
      | ok b =>
        rw [he] at h
        cases h
        have := hexF_lt _ _ _ _ he
        have e5 : (0 + 1) * 16 ^ 16 = 18446744073709551616 := by decide
        exact ⟨by simp only; omega, by simp only; omega, by simp⟩
    · cases h; exact ⟨by simp, by simp, signR_len _⟩
theorem tokC_name (l : List UInt8) (h : nameB l = true) : tokC 1 l 0 0 = if 8 < l.length then 1 else 0 := by
  have h1 : tooL 1 l = decide (8 < l.length) := by unfold tooL; rw [if_pos (by decide)]
  have h2 : ownT 1 l 0 0 = true := by unfold ownT; rfl
  have h3 : goodT 1 l 0 0 = true := by unfold goodT; rw [if_pos rfl]; exact h
  unfold tokC
  rw [if_neg (by decide), h1, h2, h3]
  by_cases h8 : 8 < l.length <;> simp [h8]
theorem tokC_word (l : List UInt8) (h : wordB l = true) : tokC 2 l 0 0 = if 8 < l.length then 1 else 0 := by
  have h1 : tooL 2 l = decide (8 < l.length) := by unfold tooL; rw [if_pos (by decide)]
  have h2 : ownT 2 l 0 0 = true := by unfold ownT; rfl
  have h3 : goodT 2 l 0 0 = true := by unfold goodT; rw [if_neg (by decide), if_pos rfl]; exact h
  unfold tokC
  rw [if_neg (by decide), h1, h2, h3]
  by_cases h8 : 8 < l.length <;> simp [h8]
theorem tokC_num (v : Nat) : tokC 3 [] v 0 = 0 := by
  have h1 : tooL 3 [] = false := by decide
  have h2 : ownT 3 [] v 0 = true := by unfold ownT; rfl
  have h3 : goodT 3 [] v 0 = true := by unfold goodT; rw [if_neg (by decide), if_neg (by decide), if_pos rfl]; simp
  unfold tokC
  rw [if_neg (by decide), h1, h2, h3]; rfl
theorem tokC_quote (l : List UInt8) : tokC 4 l 0 0 = if 40 < l.length then 1 else if Lib.validD l = false then 3 else 0 := by
  have h1 : tooL 4 l = decide (40 < l.length) := by unfold tooL; rw [if_neg (by decide), if_pos rfl]
  have h2 : ownT 4 l 0 0 = true := by unfold ownT; rfl
  have h3 : goodT 4 l 0 0 = Lib.validD l := by unfold goodT; rw [if_neg (by decide), if_neg (by decide), if_neg (by decide), if_pos rfl]
  unfold tokC
  rw [if_neg (by decide), h1, h2, h3]
  by_cases h8 : 40 < l.length <;> cases Lib.validD l <;> simp [h8]
theorem tokC_real (b : Int) : tokC 5 [] 0 b = if (nan b || b == 9223372036854775808) = true then 3 else 0 := by
  have h1 : tooL 5 [] = false := by decide
  have h2 : ownT 5 [] 0 b = true := by unfold ownT; rfl
  have h3 : goodT 5 [] 0 b = (!nan b && !(b == 9223372036854775808)) := by unfold goodT; rw [if_neg (by decide), if_neg (by decide), if_neg (by decide), if_neg (by decide), if_pos rfl]
  unfold tokC
  rw [if_neg (by decide), h1, h2, h3]
  cases nan b <;> cases (b == 9223372036854775808) <;> rfl
theorem tokC_sign (l : List UInt8) : tokC 6 l 0 0 = if signB l = true then 0 else 3 := by
  have h1 : tooL 6 l = false := by unfold tooL; rw [if_neg (by decide), if_neg (by decide)]
  have h2 : ownT 6 l 0 0 = true := by unfold ownT; rfl
  have h3 : goodT 6 l 0 0 = signB l := by unfold goodT; rw [if_neg (by decide), if_neg (by decide), if_neg (by decide), if_neg (by decide), if_neg (by decide)]
  unfold tokC
  rw [if_neg (by decide), h1, h2, h3]
  cases signB l <;> rfl
/-- Reading and checking is what a token at the beginning is. -/
theorem first_eq (l : List UInt8) (hl : l ≠ []) : firstR l = match readR l with
    | .err e => .err e
    | .ok t n => if tokC t.k t.s t.i t.b = 0 then .ok t n else .err (tokC t.k t.s t.i t.b) := by
  cases l with
  | nil => exact absurd rfl hl
  | cons c r =>
    simp only [firstR, readR]
    by_cases h1 : isSm c = true
    · rw [if_pos h1, if_pos h1]
      have hn : nameB ((c :: r).takeWhile stays) = true := by
        have ha := takeWhile_allP stays (c :: r)
        rw [List.takeWhile_cons_of_pos (stays_sm h1)] at ha ⊢
        simp only [nameB, h1, Bool.true_and]; exact ha
      simp only [tokC_name _ hn, wholeR]
      by_cases h8 : 8 < ((c :: r).takeWhile stays).length <;> simp [h8]
    rw [if_neg h1, if_neg h1]
    by_cases h2 : isGr c = true
    · rw [if_pos h2, if_pos h2]
      have hn : wordB ((c :: r).takeWhile isGr) = true := by
        have ha := takeWhile_allP isGr (c :: r)
        rw [List.takeWhile_cons_of_pos h2] at ha ⊢
        unfold wordB; rw [ha]; rfl
      simp only [tokC_word _ hn, wholeR]
      by_cases h8 : 8 < ((c :: r).takeWhile isGr).length <;> simp [h8]
    rw [if_neg h2, if_neg h2]
    by_cases h3 : isDi c = true
    · rw [if_pos h3, if_pos h3]
      unfold numR
      split
      · rfl
      · split
        · rfl
        · simp only [tokC_num]; rfl
    rw [if_neg h3, if_neg h3]
    by_cases h4 : c = 39
    · rw [if_pos h4, if_pos h4]
      unfold quoteR quoteP
      rw [scan_end _ _ _ _ (Nat.le_refl _)]
      cases endQ ((c :: r).drop 1) 1 with
      | none => rfl
      | some p =>
        simp only [Option.map_some, List.nil_append, tokC_quote]
        generalize unQ (((c :: r).drop 1).take (p - 1)) = U
        by_cases h8 : 40 < U.length
        · simp [h8]
        · cases Lib.validD U <;> simp [h8]
    rw [if_neg h4, if_neg h4]
    by_cases h5 : c = 35
    · rw [if_pos h5, if_pos h5]
      unfold realR realP
      cases hexF 16 ((c :: r).drop 1) 0 with
      | err e => rfl
      | ok b =>
        simp only [tokC_real]
        by_cases h8 : (nan (b : Int) || (b : Int) == 9223372036854775808) = true
        · rw [if_pos h8, if_pos h8]; rfl
        · rw [if_neg h8, if_neg h8]; rfl
    rw [if_neg h5, if_neg h5]
    unfold signT
    by_cases h6 : signR (c :: r) = []
    · rw [if_pos h6, h6]; rfl
    · rw [if_neg h6]
      have hs : signB (signR (c :: r)) = true := by
        unfold signR at h6 ⊢
        cases hf : signsL.find? (fun s => Lib.hasPrefix (c :: r) s) with
        | none => rw [hf] at h6; exact absurd rfl h6
        | some s =>
          have := List.mem_of_find?_eq_some hf
          unfold signB
          exact List.contains_iff_mem.2 this
      simp only [tokC_sign, hs, if_true]
end Go.Proofs.YtlhoakpijfhljaaDoor
