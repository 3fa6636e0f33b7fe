/-
  PLAIN WORDS of package lex's Cut: gaps, tokens at the beginning of a text, all tokens of a text.
  CONDITIONS: none.
-/
import Derived.Test.YtlhoakpijfhljaaDoorLexM
import Derived.Lib.Bytealg
import Derived.Lib.AtoiAll
namespace Go.Proofs.YtlhoakpijfhljaaDoor
open Go.RowKit
set_option linter.unusedVariables false

/-! ### gaps -/
def notNl (c : UInt8) : Bool := !decide (c.toNat = 10)
def blanks (l : List UInt8) : Nat := (l.takeWhile isBl).length
def remL (l : List UInt8) : Nat := if Lib.hasPrefix l [45, 45] = true then (l.takeWhile notNl).length else 0
def stepG (l : List UInt8) : Nat := if 0 < blanks l then blanks l else remL l
def gapF : Nat → List UInt8 → Nat
  | 0, _ => 0
  | f + 1, l => if stepG l = 0 then 0 else stepG l + gapF f (l.drop (stepG l))
def gapR (l : List UInt8) : Nat := gapF l.length l
theorem takeWhile_le (p : UInt8 → Bool) (l : List UInt8) : (l.takeWhile p).length ≤ l.length := (List.takeWhile_prefix p).length_le
theorem blanks_le (l : List UInt8) : blanks l ≤ l.length := takeWhile_le _ _
theorem remL_le (l : List UInt8) : remL l ≤ l.length := by
  unfold remL; split
  · exact takeWhile_le _ _
  · exact Nat.zero_le _
theorem stepG_le (l : List UInt8) : stepG l ≤ l.length := by
  unfold stepG; split
  · exact blanks_le l
  · exact remL_le l
theorem stepG_nil : stepG [] = 0 := by decide
theorem gapF_enough : ∀ (n : Nat) (l : List UInt8) (f : Nat), l.length ≤ n → l.length ≤ f → gapF f l = gapF l.length l
  | 0, l, f, hn, hf => by
    obtain rfl : l = [] := List.eq_nil_of_length_eq_zero (by omega)
    cases f with
    | zero => rfl
    | succ f => simp [gapF, stepG_nil]
  | n + 1, l, f, hn, hf => by
    cases l with
    | nil =>
      cases f with
      | zero => rfl
      | succ f => simp [gapF, stepG_nil]
    | cons c l =>
      cases f with
      | zero => simp at hf
      | succ f =>
        show gapF (f + 1) (c :: l) = gapF (l.length + 1) (c :: l)
        simp only [gapF]
        by_cases h : stepG (c :: l) = 0
        · rw [if_pos h, if_pos h]
        · rw [if_neg h, if_neg h]
          have hl : ((c :: l).drop (stepG (c :: l))).length ≤ l.length := by rw [List.length_drop]; simp; omega
          simp only [List.length_cons] at hn hf
          rw [gapF_enough n _ f (by omega) (by omega), gapF_enough n _ l.length (by omega) hl]
theorem gapR_step (l : List UInt8) : gapR l = if stepG l = 0 then 0 else stepG l + gapR (l.drop (stepG l)) := by
  cases l with
  | nil => decide
  | cons c l =>
    show gapF (l.length + 1) (c :: l) = _
    simp only [gapF]
    by_cases h : stepG (c :: l) = 0
    · rw [if_pos h, if_pos h]
    · rw [if_neg h, if_neg h]
      have hl : ((c :: l).drop (stepG (c :: l))).length ≤ l.length := by rw [List.length_drop]; simp; omega
      unfold gapR
      rw [gapF_enough _ _ l.length (Nat.le_refl _) hl]
theorem gapR_le : ∀ (n : Nat) (l : List UInt8), l.length ≤ n → gapR l ≤ l.length
  | 0, l, h => by
    obtain rfl : l = [] := List.eq_nil_of_length_eq_zero (by omega)
    decide
  | n + 1, l, h => by
    rw [gapR_step]
    split
    · omega
    · rename_i hs
      have h1 := stepG_le l
      have := gapR_le n (l.drop (stepG l)) (by rw [List.length_drop]; omega)
      rw [List.length_drop] at this
      omega
theorem gap_le (l : List UInt8) : gapR l ≤ l.length := gapR_le l.length l (Nat.le_refl _)
theorem blanks_drop (l : List UInt8) : blanks (l.drop (blanks l)) = 0 := by
  unfold blanks
  induction l with
  | nil => rfl
  | cons c l ih =>
    cases h : isBl c with
    | true => rw [List.takeWhile_cons_of_pos h]; simpa using ih
    | false => rw [List.takeWhile_cons_of_neg (by simp [h])]; simp [List.takeWhile_cons_of_neg, h]
/-- One round of the program's: blanks, then a remark. -/
theorem gap_two (l : List UInt8) : gapR l = if blanks l + remL (l.drop (blanks l)) = 0 then 0 else blanks l + remL (l.drop (blanks l)) + gapR (l.drop (blanks l + remL (l.drop (blanks l)))) := by
  by_cases ha : blanks l = 0
  · rw [ha]
    simp only [Nat.zero_add, List.drop_zero]
    rw [gapR_step]
    have : stepG l = remL l := by unfold stepG; rw [if_neg (by omega)]
    rw [this]
  · have h1 : stepG l = blanks l := by unfold stepG; rw [if_pos (by omega)]
    have h2 : stepG (l.drop (blanks l)) = remL (l.drop (blanks l)) := by unfold stepG; rw [if_neg (by rw [blanks_drop]; omega)]
    rw [gapR_step, h1, if_neg ha, if_neg (by omega), gapR_step, h2]
    by_cases hb : remL (l.drop (blanks l)) = 0
    · rw [if_pos hb, hb, Nat.add_zero, gapR_step (l.drop (blanks l)), h2, if_pos hb]; omega
    · rw [if_neg hb, List.drop_drop]; omega

/-! ### tokens -/
structure Tok where
  k : Int
  s : List UInt8
  i : Int
  b : Int
inductive TR where
  | err (e : Int)
  | ok (t : Tok) (n : Nat)
def numV : List UInt8 → Nat → Nat
  | [], a => a
  | c :: l, a => numV l (a * 10 + (c.toNat - 48))
def numR (d : List UInt8) : TR := if d.head? = some 48 ∧ 1 < d.length then .err 3 else if 9223372036854775807 < numV d 0 then .err 6 else .ok ⟨3, [], numV d 0, 0⟩ d.length
/-- A quote behind its first mark: its text, and how many bytes there are, n ahead. -/
def scanQ : List UInt8 → List UInt8 → Nat → Option (List UInt8 × Nat)
  | [], _, _ => none
  | c :: r, acc, n => if c = 39 then (if r.head? = some 39 then scanQ (r.drop 1) (acc ++ [39]) (n + 2) else some (acc, n + 1)) else scanQ r (acc ++ [c]) (n + 1)
termination_by l => l.length
decreasing_by all_goals (simp_wf; try omega)
def quoteR (l : List UInt8) : TR := match scanQ (l.drop 1) [] 1 with
  | none => .err 4
  | some (t, n) => if 40 < t.length then .err 1 else if Lib.validD t = false then .err 3 else .ok ⟨4, t, 0, 0⟩ n
def hexL16 : List UInt8 := [48, 49, 50, 51, 52, 53, 54, 55, 56, 57, 97, 98, 99, 100, 101, 102]
inductive HR where
  | err (e : Int)
  | ok (b : Nat)
def hexF : Nat → List UInt8 → Nat → HR
  | 0, _, a => .ok a
  | _ + 1, [], _ => .err 4
  | k + 1, c :: r, a => if Lib.indexByte hexL16 c < 0 then .err 3 else hexF k r (a * 16 + (Lib.indexByte hexL16 c).toNat)
def realR (l : List UInt8) : TR := match hexF 16 (l.drop 1) 0 with
  | .err e => .err e
  | .ok b => if (nan b || (b : Int) == 9223372036854775808) = true then .err 3 else .ok ⟨5, [], 0, b⟩ 17
def signT (l : List UInt8) : TR := if signR l = [] then .err 3 else .ok ⟨6, signR l, 0, 0⟩ (signR l).length
def wholeR (k : Int) (s : List UInt8) : TR := if 8 < s.length then .err 1 else .ok ⟨k, s, 0, 0⟩ s.length
def firstR : List UInt8 → TR
  | [] => .err 3
  | c :: r => if isSm c = true then wholeR 1 ((c :: r).takeWhile stays) else if isGr c = true then wholeR 2 ((c :: r).takeWhile isGr) else if isDi c = true then numR ((c :: r).takeWhile isDi)
    else if c = 39 then quoteR (c :: r) else if c = 35 then realR (c :: r) else signT (c :: r)
inductive CR where
  | err (p : Nat) (e : Int)
  | ok (l : List Tok)
def cutF : Nat → List UInt8 → Nat → List Tok → CR
  | 0, _, _, acc => .ok acc
  | f + 1, l, p, acc => if p < l.length then (if 100 ≤ acc.length then .err p 1 else match firstR (l.drop p) with
      | .err e => .err p e
      | .ok t n => cutF f l (p + n + gapR (l.drop (p + n))) (acc ++ [t])) else .ok acc
def cutR (l : List UInt8) : CR := if 300 < l.length then .err 0 1 else cutF (l.length + 1) l (gapR l) []

theorem scanQ_pos : ∀ (m : Nat) (l acc : List UInt8) (n : Nat) (t : List UInt8) (k : Nat), l.length ≤ m → scanQ l acc n = some (t, k) → n < k ∧ k ≤ n + l.length
  | 0, l, acc, n, t, k, hm, h => by
    obtain rfl : l = [] := List.eq_nil_of_length_eq_zero (by omega)
    simp [scanQ] at h
  | m + 1, l, acc, n, t, k, hm, h => by
    cases l with
    | nil => simp [scanQ] at h
    | cons c r =>
      rw [scanQ] at h
      simp only [List.length_cons] at hm ⊢
      split at h
      · split at h
        · rename_i h2
          have hr : 1 ≤ r.length := by cases r with | nil => simp at h2 | cons d r => simp
          have := scanQ_pos m (r.drop 1) _ _ t k (by rw [List.length_drop]; omega) h
          rw [List.length_drop] at this
          omega
        · cases h; omega
      · have := scanQ_pos m r _ _ t k (by omega) h
        omega
theorem hexF_len : ∀ (k : Nat) (l : List UInt8) (a b : Nat), hexF k l a = .ok b → k ≤ l.length
  | 0, l, a, b, h => Nat.zero_le _
  | k + 1, [], a, b, h => by cases h
  | k + 1, c :: r, a, b, h => by
    simp only [hexF] at h
    split at h
    · cases h
    · have := hexF_len k r _ b h
      simp; omega
theorem signR_mem (l : List UInt8) (h : signR l ≠ []) : Lib.hasPrefix l (signR l) = true := by
  unfold signR at h ⊢
  cases hf : signsL.find? (fun s => Lib.hasPrefix l s) with
  | none => rw [hf] at h; exact absurd rfl h
  | some s => exact List.find?_some hf
theorem whole_pos {k : Int} {c : UInt8} {r : List UInt8} {p : UInt8 → Bool} {t : Tok} {n : Nat} (hp : p c = true) (h : wholeR k ((c :: r).takeWhile p) = .ok t n) : 1 ≤ n ∧ n ≤ (c :: r).length := by
  unfold wholeR at h
  split at h
  · cases h
  · cases h
    refine ⟨?_, takeWhile_le _ _⟩
    rw [List.takeWhile_cons_of_pos hp]; simp
theorem first_pos (l : List UInt8) (t : Tok) (n : Nat) (h : firstR l = .ok t n) : 1 ≤ n ∧ n ≤ l.length := by
  cases l with
  | nil => cases h
  | cons c r =>
    simp only [firstR] at h
    split at h
    · rename_i hc; exact whole_pos (stays_sm hc) h
    split at h
    · rename_i hc; exact whole_pos hc h
    split at h
    · rename_i hc
      unfold numR at h
      split at h
      · cases h
      · split at h
        · cases h
        · cases h
          refine ⟨?_, takeWhile_le _ _⟩
          rw [List.takeWhile_cons_of_pos hc]; simp
    split at h
    · unfold quoteR at h
      cases hs : scanQ ((c :: r).drop 1) [] 1 with
      | none => rw [hs] at h; cases h
      | some p =>
        obtain ⟨t', k⟩ := p
        rw [hs] at h
        simp only at h
        have := scanQ_pos _ _ _ _ _ _ (Nat.le_refl _) hs
        split at h
        · cases h
        · split at h
          · cases h
          · cases h
            simp at this ⊢
            omega
    split at h
    · unfold realR at h
      cases hs : hexF 16 ((c :: r).drop 1) 0 with
      | err e => rw [hs] at h; cases h
      | ok b =>
        rw [hs] at h
        simp only at h
        have := hexF_len _ _ _ _ hs
        split at h
        · cases h
        · cases h
          simp at this ⊢
          omega
    · unfold signT at h
      split at h
      · cases h
      · rename_i hn
        cases h
        have h1 := signR_mem _ hn
        rw [← Lib.hasPrefix_of_take] at h1
        simp only [Bool.and_eq_true, decide_eq_true_eq] at h1
        exact ⟨List.length_pos_iff.2 hn, h1.1⟩
end Go.Proofs.YtlhoakpijfhljaaDoor
