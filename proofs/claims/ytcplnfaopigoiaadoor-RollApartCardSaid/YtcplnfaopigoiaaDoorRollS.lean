/-
  PROOFS of rolls, plain: which sides stand in a path; what a path leads to.
  CONDITIONS: each theorem's own hypotheses.
-/
import Derived.Test.YtcplnfaopigoiaaDoorRollP
namespace Go.Proofs.YtcplnfaopigoiaaDoor
open Go.RowKit CodeMath Go.Proofs.YtcplnfaopigoiaaDoor.FrameMath
set_option linter.unusedVariables false
set_option maxRecDepth 100000

def rootL (m : Int) (l : List (List UInt8)) : List UInt8 := match rollR m l with
  | .ok x => x
  | .err _ => []
theorem rootL_ok {m : Int} {l : List (List UInt8)} {x : List UInt8} (h : rollR m l = .ok x) : rootL m l = x := by unfold rootL; rw [h]
/-- The sides of a path, from the bottom up: true where the other one stands on the left. -/
def sidesF : Nat → Nat → Nat → List Bool
  | 0, _, _ => []
  | h + 1, n, i => if n ≤ 1 then [] else if i < hf n then sidesF h (hf n) i ++ [false] else sidesF h (n - hf n) (i - hf n) ++ [true]
def incP (m : Int) : Nat → List (List UInt8) → Nat → List (List UInt8)
  | 0, _, _ => []
  | h + 1, l, i => if l.length ≤ 1 then [] else if i < hf l.length then incP m h (l.take (hf l.length)) i ++ [rootL m (l.drop (hf l.length))] else incP m h (l.drop (hf l.length)) (i - hf l.length) ++ [rootL m (l.take (hf l.length))]
def stepP (m : Int) (s : Bool) (p : List UInt8) (R : DR) : DR := match R with
  | .err c => .err c
  | .ok x => digR m 6 (cond s [p, x] [x, p])
/-- What a path leads to; one of another length leads nowhere. -/
def foldS (m : Int) : List Bool → List (List UInt8) → DR → DR
  | [], [], R => R
  | s :: ss, p :: ps, R => foldS m ss ps (stepP m s p R)
  | _, _, _ => .err 10
theorem foldS_snoc (m : Int) : ∀ (ss : List Bool) (ps : List (List UInt8)) (R : DR) (s : Bool) (p : List UInt8), foldS m (ss ++ [s]) (ps ++ [p]) R = stepP m s p (foldS m ss ps R)
  | [], [], R, s, p => rfl
  | [], q :: ps, R, s, p => by
    have : ∀ R, foldS m [] (ps ++ [p]) R = .err 10 := fun R => by cases ps <;> rfl
    show foldS m [] (ps ++ [p]) (stepP m s q R) = _
    rw [this]; rfl
  | t :: ss, [], R, s, p => by
    have : ∀ R, foldS m (ss ++ [s]) [] R = .err 10 := fun R => by cases ss <;> rfl
    show foldS m (ss ++ [s]) [] (stepP m t p R) = _
    rw [this]; rfl
  | t :: ss, q :: ps, R, s, p => foldS_snoc m ss ps (stepP m t q R) s p
theorem foldS_len (m : Int) : ∀ (ss : List Bool) (ps : List (List UInt8)) (R : DR) (x : List UInt8), foldS m ss ps R = .ok x → ss.length = ps.length
  | [], [], R, x, h => rfl
  | s :: ss, p :: ps, R, x, h => by simpa using foldS_len m ss ps _ x h
  | [], q :: ps, R, x, h => by cases h
  | t :: ss, [], R, x, h => by cases h
theorem foldS_short (m : Int) (ss : List Bool) (s : Bool) (R : DR) : foldS m (ss ++ [s]) [] R = .err 10 := by cases ss <;> rfl
theorem foldS_long (m : Int) (ps : List (List UInt8)) (p : List UInt8) (R : DR) : foldS m [] (ps ++ [p]) R = .err 10 := by cases ps <;> rfl
theorem inc_right (m : Int) : ∀ (h : Nat) (l : List (List UInt8)) (i : Nat) (x z : List UInt8), l.length ≤ 2 ^ h → l[i]? = some x → rollR m l = .ok z → foldS m (sidesF h l.length i) (incP m h l i) (digR m 5 [x]) = .ok z
  | 0, l, i, x, z, hl, hi, hz => by
    have h1 : l.length = 1 := by have := (List.getElem?_eq_some_iff.1 hi).1; simp at hl; omega
    match l, h1 with
    | [a], _ =>
      obtain rfl : i = 0 := by have := (List.getElem?_eq_some_iff.1 hi).1; simpa using this
      simp at hi; subst hi
      rw [rollR_one] at hz
      exact hz
  | h + 1, l, i, x, z, hl, hi, hz => by
    have hlt := (List.getElem?_eq_some_iff.1 hi).1
    by_cases h1 : l.length ≤ 1
    · match l, h1, hlt with
      | [a], _, hlt =>
        obtain rfl : i = 0 := by simpa using hlt
        simp at hi; subst hi
        rw [rollR_one] at hz
        exact hz
    · obtain ⟨b, hb, h3, h4⟩ := hf_of (n := l.length) (by omega)
      have hk : hf l.length ≤ 2 ^ h := by
        rw [hb]
        refine Nat.pow_le_pow_right (by decide) ?_
        rcases Nat.lt_or_ge h b with h5 | h5
        · exfalso
          have : 2 ^ (h + 1) ≤ 2 ^ b := Nat.pow_le_pow_right (by decide) h5
          omega
        · exact h5
      obtain ⟨k0, k1, k2⟩ := hf_lt (n := l.length) (by omega)
      rw [rollR_two m l (by omega)] at hz
      obtain ⟨a, c, ha, hc, hd⟩ := pairR_ok hz
      simp only [sidesF, incP, if_neg h1]
      have l1 : (l.take (hf l.length)).length = hf l.length := by rw [List.length_take]; omega
      have l2 : (l.drop (hf l.length)).length = l.length - hf l.length := by rw [List.length_drop]
      by_cases hik : i < hf l.length
      · rw [if_pos hik, if_pos hik, foldS_snoc]
        have ih := inc_right m h (l.take (hf l.length)) i x a (by omega) (by rw [List.getElem?_take_of_lt hik]; exact hi) ha
        rw [l1] at ih
        rw [ih, rootL_ok hc]
        exact hd
      · rw [if_neg hik, if_neg hik, foldS_snoc]
        have ih := inc_right m h (l.drop (hf l.length)) (i - hf l.length) x c (by omega) (by rw [List.getElem?_drop, show hf l.length + (i - hf l.length) = i by omega]; exact hi) hc
        rw [l2] at ih
        rw [ih, rootL_ok ha]
        exact hd
theorem stepP_ok {m : Int} {s : Bool} {p z : List UInt8} {R : DR} (h : stepP m s p R = .ok z) : ∃ x, R = .ok x ∧ digR m 6 (cond s [p, x] [x, p]) = .ok z := by
  cases R with
  | err c => cases h
  | ok x => exact ⟨x, rfl, h⟩
/-- The loop that runs from the bottom up: at which place of how many. -/
def upto (c : Nat) : Nat → Nat → Nat × Nat
  | at_, last => match c with
    | 0 => (at_, last)
    | c + 1 => if at_ % 2 = 0 ∧ 0 < at_ then upto c (at_ / 2) (last / 2) else (at_, last)
def sidesL : Nat → Nat → Nat → List Bool
  | 0, _, _ => []
  | c + 1, at_, last => if last = 0 then [] else
    if at_ % 2 = 1 ∨ at_ = last then true :: sidesL c ((upto 7 at_ last).1 / 2) ((upto 7 at_ last).2 / 2)
    else false :: sidesL c (at_ / 2) (last / 2)
theorem sides_all : ∀ (n : Fin 65) (i : Fin 64), i.1 < n.1 → sidesF 6 n.1 i.1 = sidesL 7 i.1 (n.1 - 1) := by decide +kernel
end Go.Proofs.YtcplnfaopigoiaaDoor
