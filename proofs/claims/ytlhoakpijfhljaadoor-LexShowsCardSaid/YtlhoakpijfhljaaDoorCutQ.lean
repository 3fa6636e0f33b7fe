/-
  PLAIN WORDS of quotes: where one ends, its marks made single, what a rune's bytes are.
  CONDITIONS: none.
-/
import Derived.Test.YtlhoakpijfhljaaDoorCutM
import Derived.Lib.Replace
import Derived.Lib.IndexLaws
import Derived.Lib.MapLaws
import Derived.Lib.TrimUEq
namespace Go.Proofs.YtlhoakpijfhljaaDoor
open Go.RowKit
set_option linter.unusedVariables false

def endQ : List UInt8 → Nat → Option Nat
  | [], _ => none
  | c :: r, p => if c = 39 then (if r.head? = some 39 then endQ (r.drop 1) (p + 2) else some p) else endQ r (p + 1)
termination_by l => l.length
decreasing_by all_goals (simp_wf; try omega)
def unQ : List UInt8 → List UInt8
  | [] => []
  | c :: r => if c = 39 ∧ r.head? = some 39 then 39 :: unQ (r.drop 1) else c :: unQ r
termination_by l => l.length
decreasing_by all_goals (simp_wf; try omega)
theorem endQ_nil (p : Nat) : endQ [] p = none := by rw [endQ]
theorem endQ_pair (r : List UInt8) (p : Nat) : endQ (39 :: 39 :: r) p = endQ r (p + 2) := by rw [endQ]; simp
theorem endQ_lone (r : List UInt8) (p : Nat) (h : r.head? ≠ some 39) : endQ (39 :: r) p = some p := by rw [endQ]; simp [h]
theorem endQ_other (c : UInt8) (r : List UInt8) (p : Nat) (h : c ≠ 39) : endQ (c :: r) p = endQ r (p + 1) := by rw [endQ, if_neg h]
theorem head_split {r : List UInt8} (h : r.head? = some 39) : r = 39 :: r.drop 1 := by
  cases r with
  | nil => cases h
  | cons d r => simp at h; subst h; rfl
theorem endQ_ge : ∀ (m : Nat) (l : List UInt8) (p q : Nat), l.length ≤ m → endQ l p = some q → p ≤ q ∧ q < p + l.length
  | 0, l, p, q, hm, h => by
    obtain rfl : l = [] := List.eq_nil_of_length_eq_zero (by omega)
    rw [endQ_nil] at h; cases h
  | m + 1, l, p, q, hm, h => by
    cases l with
    | nil => rw [endQ_nil] at h; cases h
    | cons c r =>
      simp only [List.length_cons] at hm ⊢
      by_cases hc : c = 39
      · subst hc
        by_cases hh : r.head? = some 39
        · have hr := head_split hh
          rw [hr, endQ_pair] at h
          have hl : r.length = (r.drop 1).length + 1 := by
            cases r with
            | nil => cases hh
            | cons d r => simp
          have := endQ_ge m _ _ q (by omega) h
          omega
        · rw [endQ_lone _ _ hh] at h
          cases h; omega
      · rw [endQ_other _ _ _ hc] at h
        have := endQ_ge m r _ q (by omega) h
        omega
theorem unQ_pair (r : List UInt8) : unQ (39 :: 39 :: r) = 39 :: unQ r := by rw [unQ]; simp
theorem unQ_other (c : UInt8) (r : List UInt8) (h : ¬ (c = 39 ∧ r.head? = some 39)) : unQ (c :: r) = c :: unQ r := by rw [unQ, if_neg h]
theorem unQ_nil : unQ [] = [] := by rw [unQ]
theorem scan_end : ∀ (m : Nat) (l acc : List UInt8) (n : Nat), l.length ≤ m → scanQ l acc n = (endQ l n).map fun p => (acc ++ unQ (l.take (p - n)), p + 1)
  | 0, l, acc, n, hm => by
    obtain rfl : l = [] := List.eq_nil_of_length_eq_zero (by omega)
    rw [endQ_nil, scanQ]; rfl
  | m + 1, l, acc, n, hm => by
    cases l with
    | nil => rw [endQ_nil, scanQ]; rfl
    | cons c r =>
      simp only [List.length_cons] at hm
      rw [scanQ]
      by_cases hc : c = 39
      · subst hc
        rw [if_pos rfl]
        by_cases hh : r.head? = some 39
        · have hr := head_split hh
          rw [if_pos hh, scan_end m (r.drop 1) _ _ (by rw [List.length_drop]; omega)]
          conv => rhs; rw [hr]
          rw [endQ_pair]
          cases he : endQ (r.drop 1) (n + 2) with
          | none => rfl
          | some p =>
            have hge := (endQ_ge _ _ _ p (Nat.le_refl _) he).1
            simp only [Option.map_some]
            obtain ⟨k, hk⟩ : ∃ k, p - n = k + 2 := ⟨p - n - 2, by omega⟩
            rw [hk, List.take_succ_cons, List.take_succ_cons, unQ_pair, show p - (n + 2) = k by omega]
            simp
        · rw [if_neg hh, endQ_lone _ _ hh]
          simp [unQ_nil]
      · rw [if_neg hc, endQ_other _ _ _ hc, scan_end m r _ _ (by omega)]
        cases he : endQ r (n + 1) with
        | none => rfl
        | some p =>
          have hge := (endQ_ge _ _ _ p (Nat.le_refl _) he).1
          simp only [Option.map_some]
          obtain ⟨k, hk⟩ : ∃ k, p - n = k + 1 := ⟨p - n - 1, by omega⟩
          rw [hk, List.take_succ_cons, unQ_other _ _ (fun h => hc h.1), show p - (n + 1) = k by omega]
          simp
/-! ### two marks made one -/
theorem pre_two (c : UInt8) (r : List UInt8) : ([39, 39] : List UInt8).isPrefixOf (c :: r) = decide (c = 39 ∧ r.head? = some 39) := by
  cases r with
  | nil => simp [List.isPrefixOf]
  | cons d r =>
    simp only [List.isPrefixOf, Bool.and_true, List.head?_cons, Option.some.injEq]
    rw [Bool.eq_iff_iff]
    simp only [Bool.and_eq_true, beq_iff_eq, decide_eq_true_eq]
    exact ⟨fun h => ⟨h.1.symm, h.2.symm⟩, fun h => ⟨h.1.symm, h.2.symm⟩⟩
theorem unQ_none : ∀ l : List UInt8, Lib.index l [39, 39] = -1 → unQ l = l
  | [], _ => unQ_nil
  | c :: r, h => by
    unfold Lib.index at h
    have hge := Lib.index_ge r [39, 39]
    rw [pre_two] at h
    by_cases hh : c = 39 ∧ r.head? = some 39
    · rw [decide_eq_true hh, if_pos rfl] at h; cases h
    · rw [decide_eq_false hh] at h
      simp only [Bool.false_eq_true, if_false] at h
      rw [unQ_other c r hh]
      by_cases hi : Lib.index r [39, 39] = -1
      · rw [unQ_none r hi]
      · rw [if_neg (by simpa using hi)] at h; omega
theorem unQ_hit : ∀ (l : List UInt8) (i : Nat), Lib.index l [39, 39] = i → unQ l = l.take i ++ [39] ++ unQ (l.drop (i + 2))
  | [], i, h => by simp [Lib.index] at h
  | c :: r, i, h => by
    unfold Lib.index at h
    have hge := Lib.index_ge r [39, 39]
    rw [pre_two] at h
    by_cases hh : c = 39 ∧ r.head? = some 39
    · rw [decide_eq_true hh, if_pos rfl] at h
      obtain rfl : i = 0 := by omega
      obtain ⟨rfl, h2⟩ := hh
      rw [head_split h2, unQ_pair]
      simp
    · rw [decide_eq_false hh] at h
      simp only [Bool.false_eq_true, if_false] at h
      by_cases hi : Lib.index r [39, 39] = -1
      · rw [if_pos (by simpa using hi)] at h; omega
      · rw [if_neg (by simpa using hi)] at h
        obtain ⟨j, hj⟩ : ∃ j : Nat, Lib.index r [39, 39] = j := ⟨(Lib.index r [39, 39]).toNat, by omega⟩
        obtain rfl : i = j + 1 := by omega
        rw [unQ_other c r hh, unQ_hit r j hj]
        simp [show j + 1 + 2 = j + 2 + 1 by omega]
theorem replaceK_unQ : ∀ (k : Nat) (l : List UInt8), Lib.count l [39, 39] ≤ k → Lib.replaceK [39, 39] [39] k l = unQ l
  | 0, l, h => by
    show l = unQ l
    refine (unQ_none l ?_).symm
    have hge := Lib.index_ge l [39, 39]
    by_cases hi : Lib.index l [39, 39] = -1
    · exact hi
    · obtain ⟨j, hj⟩ : ∃ j : Nat, Lib.index l [39, 39] = j := ⟨(Lib.index l [39, 39]).toNat, by omega⟩
      have := Lib.count_hit (s := l) (sub := [39, 39]) (i := j) (by simp) hj
      omega
  | k + 1, l, h => by
    have hge := Lib.index_ge l [39, 39]
    by_cases hi : Lib.index l [39, 39] = -1
    · rw [Lib.replaceK, if_pos (by simpa using hi)]
      exact (unQ_none l hi).symm
    · obtain ⟨j, hj⟩ : ∃ j : Nat, Lib.index l [39, 39] = j := ⟨(Lib.index l [39, 39]).toNat, by omega⟩
      have hc := Lib.count_hit (s := l) (sub := [39, 39]) (i := j) (by simp) hj
      rw [Lib.replaceK_hit _ _ k l j hj, unQ_hit l j hj]
      congr 1
      exact replaceK_unQ k _ (by simp only [List.length_cons, List.length_nil] at hc ⊢; omega)
theorem replaceAll_unQ (l : List UInt8) : Lib.replaceAll l [39, 39] [39] = unQ l := by
  unfold Lib.replaceAll Lib.replace
  rw [if_neg (by decide)]
  refine replaceK_unQ _ l ?_
  unfold Lib.replaceNum
  rw [if_pos (by omega)]
  exact Nat.le_refl _

/-! ### a rune's bytes -/
theorem getD_ne {l : List UInt8} {i : Nat} (h : 128 ≤ (l.getD i 0).toNat) : ∀ x, l[i]? = some x → x ≠ 39 := by
  intro x hx e
  subst e
  rw [List.getD_eq_getElem?_getD, hx] at h
  revert h; decide
set_option maxHeartbeats 4000000 in
theorem dec_facts (c : UInt8) (t : List UInt8) : (c = 39 → Lib.decodeL (c :: t) = (39, 1)) ∧ (c ≠ 39 → (Lib.decodeL (c :: t)).1 ≠ 39 ∧ ∀ j x, j < (Lib.decodeL (c :: t)).2 → (c :: t)[j]? = some x → x ≠ 39) := by
  constructor
  · rintro rfl; exact Lib.decodeL_ascii 39 t (by decide)
  · intro hc
    have hcn : c.toNat ≠ 39 := fun e => hc (UInt8.toNat_inj.1 (by simpa using e))
    rw [Lib.decodeL_N]
    have h0 : ((c :: t).getD 0 0).toNat = c.toNat := rfl
    rw [h0]
    have g1 := fun h => getD_ne (l := c :: t) (i := 1) h
    have g2 := fun h => getD_ne (l := c :: t) (i := 2) h
    have g3 := fun h => getD_ne (l := c :: t) (i := 3) h
    have hzero : ∀ x, (c :: t)[0]? = some x → x ≠ 39 := fun x hx => by simp at hx; subst hx; exact hc
    generalize ((c :: t).getD 1 0).toNat = b1 at *
    generalize ((c :: t).getD 2 0).toNat = b2 at *
    generalize ((c :: t).getD 3 0).toNat = b3 at *
    generalize (c :: t).length = n at *
    generalize c.toNat = b0 at *
    have one : ∀ j x, j < 1 → (c :: t)[j]? = some x → x ≠ 39 := fun j x hj hx => by
      obtain rfl : j = 0 := by omega
      exact hzero x hx
    unfold Lib.decodeN
    repeat' split
    · exact ⟨hcn, one⟩
    · rename_i _ h1 h2
      refine ⟨by simp only; omega, fun j x hj hx => ?_⟩
      rcases (show j = 0 ∨ j = 1 by simp only at hj; omega) with rfl | rfl
      · exact hzero x hx
      · exact g1 (by omega) x hx
    · exact ⟨by decide, one⟩
    · rename_i _ _ h1 h2
      refine ⟨by simp only; omega, fun j x hj hx => ?_⟩
      rcases (show j = 0 ∨ j = 1 ∨ j = 2 by simp only at hj; omega) with rfl | rfl | rfl
      · exact hzero x hx
      · exact g1 (by omega) x hx
      · exact g2 (by omega) x hx
    · exact ⟨by decide, one⟩
    · rename_i _ _ _ h1 h2
      refine ⟨by simp only; omega, fun j x hj hx => ?_⟩
      rcases (show j = 0 ∨ j = 1 ∨ j = 2 ∨ j = 3 by simp only at hj; omega) with rfl | rfl | rfl | rfl
      · exact hzero x hx
      · exact g1 (by omega) x hx
      · exact g2 (by omega) x hx
      · exact g3 (by omega) x hx
    · exact ⟨by decide, one⟩
    · exact ⟨by decide, one⟩
theorem endQ_skip : ∀ (d : Nat) (l : List UInt8) (p : Nat), d ≤ l.length → (∀ j x, j < d → l[j]? = some x → x ≠ 39) → endQ l p = endQ (l.drop d) (p + d)
  | 0, l, p, _, _ => rfl
  | d + 1, [], p, h, _ => by simp at h
  | d + 1, c :: l, p, h, hx => by
    rw [endQ_other c l p (hx 0 c (by omega) rfl), endQ_skip d l (p + 1) (by simpa using h) (fun j x hj he => hx (j + 1) x (by omega) (by simpa using he))]
    simp [show p + 1 + d = p + (d + 1) by omega]
end Go.Proofs.YtlhoakpijfhljaaDoor
