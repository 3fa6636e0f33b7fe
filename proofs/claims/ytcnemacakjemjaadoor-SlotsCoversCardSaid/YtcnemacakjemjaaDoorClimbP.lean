/-
  THE CLIMB read from its end; plain.
  CONDITIONS: each theorem's own hypotheses.
-/
import Derived.Test.YtcnemacakjemjaaDoorClimb
namespace Go.Proofs.YtcnemacakjemjaaDoor
open Go.RowKit CodeMath Go.Proofs.YtcnemacakjemjaaDoor.FrameMath
set_option linter.unusedVariables false
set_option maxRecDepth 100000

def stepR (m : Int) (o : Bool) (R : DR) (b : List UInt8) : DR := match R with
  | .err c => .err c
  | .ok x => digR m 2 (cond o [b, x] [x, b])
theorem climbR_end (m : Int) (p : Nat) : ∀ (r : List (List UInt8)) (t : Nat) (top b : List UInt8), climbR m p t top (r ++ [b]) = stepR m (decide ((p / 2 ^ (t + r.length)) % 2 = 1)) (climbR m p t top r) b
  | [], t, top, b => by
    simp only [List.nil_append, climbR, stepR, List.length_nil, Nat.add_zero]
    by_cases hp : (p / 2 ^ t) % 2 = 1
    · rw [decide_eq_true hp]
      simp only [if_pos hp, cond_true]
      cases digR m 2 [b, top] <;> rfl
    · rw [decide_eq_false hp]
      simp only [if_neg hp, cond_false]
      cases digR m 2 [top, b] <;> rfl
  | a :: r, t, top, b => by
    rw [List.cons_append]
    have e : t + (a :: r).length = t + 1 + r.length := by simp; omega
    rw [e]
    simp only [climbR]
    cases digR m 2 (if (p / 2 ^ t) % 2 = 1 then [a, top] else [top, a]) with
    | err c => rfl
    | ok x => exact climbR_end m p r (t + 1) x b
theorem bit_mod (p k t : Nat) (h : t < k) : ((p % 2 ^ k) / 2 ^ t) % 2 = (p / 2 ^ t) % 2 := by
  have h1 := Nat.testBit_mod_two_pow p k t
  rw [Nat.testBit_eq_decide_div_mod_eq, Nat.testBit_eq_decide_div_mod_eq, decide_eq_true h, Bool.true_and] at h1
  have h2 := Nat.mod_two_eq_zero_or_one ((p % 2 ^ k) / 2 ^ t)
  have h3 := Nat.mod_two_eq_zero_or_one (p / 2 ^ t)
  rcases h2 with h2 | h2 <;> rcases h3 with h3 | h3 <;> simp_all
theorem climbR_mod (m : Int) (p k : Nat) : ∀ (r : List (List UInt8)) (t : Nat) (top : List UInt8), t + r.length ≤ k → climbR m (p % 2 ^ k) t top r = climbR m p t top r
  | [], t, top, h => rfl
  | a :: r, t, top, h => by
    simp only [List.length_cons] at h
    simp only [climbR]
    rw [bit_mod p k t (by omega)]
    cases digR m 2 (if (p / 2 ^ t) % 2 = 1 then [a, top] else [top, a]) with
    | err c => rfl
    | ok x => exact climbR_mod m p k r (t + 1) x (by omega)
theorem top_bit (p h : Nat) (hp : p < 2 ^ h + 2 ^ h) : (p / 2 ^ h) % 2 = 1 ↔ 2 ^ h ≤ p := by
  have h0 : 0 < 2 ^ h := Nat.pow_pos (by decide)
  generalize 2 ^ h = k at *
  rcases Nat.lt_or_ge p k with h1 | h1
  · rw [Nat.div_eq_of_lt h1]; omega
  · have : p / k = 1 := by
      apply Nat.div_eq_of_lt_le <;> omega
    rw [this]; omega
/-- The reference's climb: a path of another length leads nowhere. -/
def clR (m : Int) (p h : Nat) (d : List UInt8) (rows : List (List UInt8)) : DR := if rows.length = h then climbR m p 0 d rows else .err 10
theorem clR_end (m : Int) (p h : Nat) (d b : List UInt8) (r : List (List UInt8)) (hp : p < 2 ^ h + 2 ^ h) : clR m p (h + 1) d (r ++ [b]) = stepR m (decide (2 ^ h ≤ p)) (clR m (p % 2 ^ h) h d r) b := by
  unfold clR
  rw [List.length_append, List.length_singleton]
  by_cases hr : r.length = h
  · rw [if_pos (by omega), if_pos hr, climbR_end, climbR_mod m p h r 0 d (by omega), hr, Nat.zero_add]
    congr 1
    exact decide_eq_decide.2 (top_bit p h hp)
  · rw [if_neg (by omega), if_neg hr]; rfl
theorem climbR_len {m : Int} {p : Nat} : ∀ {r : List (List UInt8)} {t : Nat} {top x : List UInt8}, top.length ≤ 140737488351232 → climbR m p t top r = .ok x → x.length ≤ 140737488351232
  | [], t, top, x, h, e => by cases e; exact h
  | a :: r, t, top, x, h, e => by
    simp only [climbR] at e
    cases hd : digR m 2 (if (p / 2 ^ t) % 2 = 1 then [a, top] else [top, a]) with
    | err c => rw [hd] at e; cases e
    | ok y =>
      rw [hd] at e
      have := digR_len hd
      exact climbR_len (by omega) e
theorem clR_len {m : Int} {p h : Nat} {r : List (List UInt8)} {top x : List UInt8} (hl : top.length ≤ 140737488351232) (e : clR m p h top r = .ok x) : x.length ≤ 140737488351232 := by
  unfold clR at e
  split at e
  · exact climbR_len hl e
  · cases e
/-- What the reference's climb answers: a value, and whether it is one. -/
def bR (R : DR) : Bool := match R with
  | .err _ => false
  | .ok _ => true
def ClU (R : DR) (u : Value) (w : World) : Prop := ∀ x, R = .ok x → RowT w u x
theorem ClU.keep {R : DR} {u : Value} {w w' : World} (h : ClU R u w) (hb : Below w.heap.size w w') : ClU R u w' := fun x hx => (h x hx).keep hb
def ClPost (R : DR) (w : World) (e : Ending) (w' : World) : Prop := ∃ u, e = .returned (.tuple #[u, .bool (bR R)]) ∧ ClU R u w' ∧ Below w.heap.size w w'
end Go.Proofs.YtcnemacakjemjaaDoor
