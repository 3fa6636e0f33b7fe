/-
  PLAIN: a token that is shown is read again: names, words, signs, quotes, reals.
  CONDITIONS: each theorem's own hypotheses.
-/
import Derived.Test.YtlhoakpijfhljaaGreatDoorShowT
namespace Go.Proofs.YtlhoakpijfhljaaGreatDoor
open Go.RowKit
set_option linter.unusedVariables false
set_option maxRecDepth 100000

/-- What lies behind a token. -/
def Behind (r : List UInt8) : Prop := r = [] ∨ ∃ c q, isBl c = true ∧ r = c :: q
theorem bl_no (p : UInt8 → Bool) (h : (List.range 256).all (fun n => !isBl (UInt8.ofNat n) || !p (UInt8.ofNat n)) = true) (c : UInt8) (hc : isBl c = true) : p c = false := by
  have := all_bytes (P := fun c => !isBl c || !p c) h c
  rw [hc] at this
  simpa using this
theorem bl_three (c : UInt8) (hc : isBl c = true) : c = 32 ∨ c = 9 ∨ c = 10 := by
  have := all_bytes (P := fun c => !isBl c || ((c == 32 || c == 9) || c == 10)) (by decide +kernel) c
  rw [hc] at this
  simp at this
  rcases this with (h | h) | h
  · exact .inl h
  · exact .inr (.inl h)
  · exact .inr (.inr h)
theorem behind_stop (p : UInt8 → Bool) (hp : ∀ c, isBl c = true → p c = false) (s r : List UInt8) (hs : s.all p = true) (hr : Behind r) : (s ++ r).takeWhile p = s := by
  induction s with
  | nil =>
    rcases hr with rfl | ⟨c, q, hc, rfl⟩
    · rfl
    · simp [List.takeWhile_cons_of_neg, hp c hc]
  | cons c s ih =>
    simp only [List.all_cons, Bool.and_eq_true] at hs
    rw [List.cons_append, List.takeWhile_cons_of_pos hs.1, ih hs.2]
theorem tok_word {k i b : Int} {s : List UInt8} (h : tokC k s i b = 0) : 1 ≤ k ∧ k ≤ 6 ∧ ownT k s i b = true ∧ goodT k s i b = true := by
  unfold tokC at h
  split at h
  · cases h
  · rename_i hk
    split at h
    · cases h
    · split at h
      · rename_i hg
        simp only [Bool.and_eq_true] at hg
        exact ⟨by omega, by omega, hg.1, hg.2⟩
      · cases h
theorem own_ib {k i b : Int} {s : List UInt8} (h : ownT k s i b = true) : (k ≠ 3 → i = 0) ∧ (k ≠ 5 → b = 0) ∧ (k = 3 ∨ k = 5 → s = []) := by
  unfold ownT at h
  simp only [Bool.and_eq_true, Bool.or_eq_true, beq_iff_eq, Bool.not_eq_true', beq_eq_false_iff_ne, List.isEmpty_iff] at h
  refine ⟨fun n => ?_, fun n => ?_, fun n => ?_⟩
  · rcases h.1.1 with h1 | h1
    · exact absurd h1 n
    · exact h1
  · rcases h.1.2 with h1 | h1
    · exact absurd h1 n
    · exact h1
  · rcases h.2 with h1 | h1
    · rcases n with n | n
      · exact absurd n h1.1
      · exact absurd n h1.2
    · exact h1
theorem back_name {s : List UInt8} {i b : Int} (h : tokC 1 s i b = 0) (r : List UInt8) (hr : Behind r) : firstR (s ++ r) = .ok ⟨1, s, i, b⟩ s.length := by
  obtain ⟨_, _, ho, hg⟩ := tok_word h
  obtain ⟨hi, hb, _⟩ := own_ib ho
  have h8 := (tok_ok h).2.1 (.inl rfl)
  have hn : nameB s = true := by simpa [goodT] using hg
  rw [hi (by decide), hb (by decide)]
  cases s with
  | nil => cases hn
  | cons c s =>
    simp only [nameB, Bool.and_eq_true] at hn
    have ht := behind_stop stays (bl_no _ (by decide +kernel)) (c :: s) r hn.2 hr
    rw [List.cons_append] at ht ⊢
    simp only [firstR]
    rw [if_pos hn.1, ht]
    unfold wholeR
    rw [if_neg (by omega)]
theorem back_word {s : List UInt8} {i b : Int} (h : tokC 2 s i b = 0) (r : List UInt8) (hr : Behind r) : firstR (s ++ r) = .ok ⟨2, s, i, b⟩ s.length := by
  obtain ⟨_, _, ho, hg⟩ := tok_word h
  obtain ⟨hi, hb, _⟩ := own_ib ho
  have h8 := (tok_ok h).2.1 (.inr rfl)
  have hn : wordB s = true := by simpa [goodT] using hg
  rw [hi (by decide), hb (by decide)]
  cases s with
  | nil => cases hn
  | cons c s =>
    have hall : (c :: s).all isGr = true := by simpa [wordB] using hn
    have hc : isGr c = true := by simp only [List.all_cons, Bool.and_eq_true] at hall; exact hall.1
    have hsm : isSm c = false := by
      unfold isGr at hc; unfold isSm
      simp at hc ⊢; omega
    have ht := behind_stop isGr (bl_no _ (by decide +kernel)) (c :: s) r hall hr
    rw [List.cons_append] at ht ⊢
    simp only [firstR]
    rw [if_neg (by rw [hsm]; decide), if_pos hc, ht]
    unfold wholeR
    rw [if_neg (by omega)]
theorem back_sign {s : List UInt8} {i b : Int} (h : tokC 6 s i b = 0) (r : List UInt8) (hr : Behind r) : firstR (s ++ r) = .ok ⟨6, s, i, b⟩ s.length := by
  obtain ⟨_, _, ho, hg⟩ := tok_word h
  obtain ⟨hi, hb, _⟩ := own_ib ho
  have hn : signB s = true := by simpa [goodT] using hg
  rw [hi (by decide), hb (by decide)]
  have hm : s ∈ signsL := List.contains_iff_mem.1 hn
  simp only [signsL, List.mem_cons, List.mem_nil_iff, or_false] at hm
  rcases hr with rfl | ⟨c, q, hc, rfl⟩
  · rcases hm with rfl | rfl | rfl | rfl | rfl | rfl | rfl | rfl | rfl | rfl | rfl | rfl | rfl | rfl | rfl | rfl <;> rfl
  · rcases bl_three c hc with rfl | rfl | rfl <;> rcases hm with rfl | rfl | rfl | rfl | rfl | rfl | rfl | rfl | rfl | rfl | rfl | rfl | rfl | rfl | rfl | rfl <;> rfl
theorem scan_body : ∀ (s acc r : List UInt8) (n : Nat), r.head? ≠ some 39 → scanQ (bodyQ s ++ 39 :: r) acc n = some (acc ++ s, n + (bodyQ s).length + 1)
  | [], acc, r, n, hr => by
    show scanQ (39 :: r) acc n = _
    rw [scanQ, if_pos rfl, if_neg hr]; simp [bodyQ]
  | c :: s, acc, r, n, hr => by
    have e : bodyQ (c :: s) = (if c = 39 then [39, 39] else [c]) ++ bodyQ s := rfl
    rw [e]
    by_cases hc : c = 39
    · subst hc
      rw [if_pos rfl]
      show scanQ (39 :: 39 :: (bodyQ s ++ 39 :: r)) acc n = _
      rw [scanQ, if_pos rfl, if_pos (show (39 :: (bodyQ s ++ 39 :: r)).head? = some 39 from rfl), List.drop_one, List.tail_cons, scan_body s _ r _ hr]
      simp; omega
    · rw [if_neg hc]
      show scanQ (c :: (bodyQ s ++ 39 :: r)) acc n = _
      rw [scanQ, if_neg hc, scan_body s _ r _ hr]
      simp; omega
theorem back_quote {s : List UInt8} {i b : Int} (h : tokC 4 s i b = 0) (r : List UInt8) (hr : Behind r) : firstR ((39 :: bodyQ s ++ [39]) ++ r) = .ok ⟨4, s, i, b⟩ (39 :: bodyQ s ++ [39]).length := by
  obtain ⟨_, _, ho, hg⟩ := tok_word h
  obtain ⟨hi, hb, _⟩ := own_ib ho
  obtain ⟨h40, hv⟩ := (tok_ok h).1 rfl
  rw [hi (by decide), hb (by decide)]
  have e : (39 :: bodyQ s ++ [39]) ++ r = 39 :: (bodyQ s ++ 39 :: r) := by simp
  rw [e]
  have hne : r.head? ≠ some 39 := by
    rcases hr with rfl | ⟨c, q, hc, rfl⟩
    · simp
    · rcases bl_three c hc with rfl | rfl | rfl <;> simp
  have hf : firstR (39 :: (bodyQ s ++ 39 :: r)) = quoteR (39 :: (bodyQ s ++ 39 :: r)) := rfl
  rw [hf]
  unfold quoteR
  rw [List.drop_one, List.tail_cons, scan_body s [] r 1 hne]
  simp only [List.nil_append]
  rw [if_neg (by omega), if_neg (by rw [hv]; decide)]
  simp; omega
end Go.Proofs.YtlhoakpijfhljaaGreatDoor
