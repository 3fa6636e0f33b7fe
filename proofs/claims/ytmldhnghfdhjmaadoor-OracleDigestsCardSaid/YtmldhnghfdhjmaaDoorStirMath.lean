/-
  PLAIN MATHEMATICS of the rounds: step by step; the code's choice and majority by xor are the ones by or.
  CONDITIONS: each theorem's own hypotheses.
-/
import Derived.Test.YtmldhnghfdhjmaaDoorSpreadMath
import Derived.Test.YtmldhnghfdhjmaaDoorShaT
namespace Go.Proofs.YtmldhnghfdhjmaaDoor
open Go ShaMath
set_option linter.unusedVariables false

structure Ok8 (h : St) : Prop where
  p : h.p < 4294967296
  q : h.q < 4294967296
  r : h.r < 4294967296
  s : h.s < 4294967296
  t : h.t < 4294967296
  u : h.u < 4294967296
  v : h.v < 4294967296
  x : h.x < 4294967296
def lst (h : St) : List Nat := [h.p, h.q, h.r, h.s, h.t, h.u, h.v, h.x]
theorem lst_length (h : St) : (lst h).length = 8 := rfl
theorem rounds_snoc : ∀ (n : Nat) (k w : List Nat) (h : St), roundsN (n + 1) k w h = round (roundsN n k w h) (k.getD n 0) (w.getD n 0)
  | 0, k, w, h => rfl
  | n + 1, k, w, h => by
    show roundsN (n + 1) (k.drop 1) (w.drop 1) (round h (k.getD 0 0) (w.getD 0 0)) = _
    rw [rounds_snoc n]
    simp only [List.getD_eq_getElem?_getD, List.getElem?_drop]
    rw [show 1 + n = n + 1 by omega]
    rfl
theorem round_ok (h : St) (k w : Nat) (o : Ok8 h) : Ok8 (round h k w) :=
  ⟨Nat.mod_lt _ (by decide), o.p, o.q, o.r, Nat.mod_lt _ (by decide), o.t, o.u, o.v⟩
theorem rounds_ok : ∀ (n : Nat) (k w : List Nat) (h : St), Ok8 h → Ok8 (roundsN n k w h)
  | 0, _, _, _, o => o
  | n + 1, k, w, h, o => rounds_ok n _ _ _ (round_ok h _ _ o)
theorem plus_ok (a b : St) : Ok8 (plus a b) :=
  ⟨Nat.mod_lt _ (by decide), Nat.mod_lt _ (by decide), Nat.mod_lt _ (by decide), Nat.mod_lt _ (by decide), Nat.mod_lt _ (by decide), Nat.mod_lt _ (by decide), Nat.mod_lt _ (by decide), Nat.mod_lt _ (by decide)⟩

theorem not_nat (t : Nat) (h : t < 4294967296) : 4294967295 ^^^ t = 4294967295 - t := by
  apply Nat.eq_of_testBit_eq
  intro i
  have h1 := Nat.testBit_two_pow_sub_succ (n := 32) (x := t) h i
  have h2 := Nat.testBit_two_pow_sub_succ (n := 32) (x := 0) (by decide) i
  have e1 : 2 ^ 32 - (t + 1) = 4294967295 - t := by omega
  have e2 : (2 ^ 32 - (0 + 1) : Nat) = 4294967295 := by decide
  rw [e1] at h1
  rw [e2] at h2
  rw [Nat.testBit_xor, h1, h2]
  by_cases hi : i < 32
  · simp [hi]
  · have : t.testBit i = false := Nat.testBit_lt_two_pow (Nat.lt_of_lt_of_le h (show 2 ^ 32 ≤ 2 ^ i from Nat.pow_le_pow_right (by decide) (by omega)))
    simp [hi, this]
def choice (h : St) : Nat := (h.t &&& h.u) ||| ((w32 - 1 - h.t) &&& h.v)
def most (h : St) : Nat := ((h.p &&& h.q) ||| (h.p &&& h.r)) ||| (h.q &&& h.r)
theorem choice_nat (t u v : Nat) (ht : t < 4294967296) : (t &&& u) ^^^ ((4294967295 - t) &&& v) = (t &&& u) ||| ((4294967295 - t) &&& v) := by
  apply Nat.eq_of_testBit_eq
  intro i
  have h1 := Nat.testBit_two_pow_sub_succ (n := 32) (x := t) ht i
  have e1 : 2 ^ 32 - (t + 1) = 4294967295 - t := by omega
  rw [e1] at h1
  rw [Nat.testBit_xor, Nat.testBit_or, Nat.testBit_and, Nat.testBit_and, h1]
  cases t.testBit i <;> cases u.testBit i <;> cases v.testBit i <;> simp
theorem most_nat (p q r : Nat) : ((p &&& q) ^^^ (p &&& r)) ^^^ (q &&& r) = ((p &&& q) ||| (p &&& r)) ||| (q &&& r) := by
  apply Nat.eq_of_testBit_eq
  intro i
  rw [Nat.testBit_xor, Nat.testBit_xor, Nat.testBit_or, Nat.testBit_or, Nat.testBit_and, Nat.testBit_and, Nat.testBit_and]
  cases p.testBit i <;> cases q.testBit i <;> cases r.testBit i <;> rfl
theorem and_lt (a b : Nat) (h : a < 4294967296) : a &&& b < 4294967296 := Nat.lt_of_le_of_lt Nat.and_le_left h
theorem choice_bits (h : St) (o : Ok8 h) : bits .xor .u32 (bits .and .u32 (h.t : Int) (h.u : Int)) (bits .and .u32 (bits .xor .u32 IntKind.u32.max (h.t : Int)) (h.v : Int)) = ((choice h : Nat) : Int) := by
  rw [show IntKind.u32.max = ((4294967295 : Nat) : Int) from rfl, u32_xor_nat _ _ (by decide) o.t, not_nat _ o.t, u32_and_nat _ _ o.t o.u, u32_and_nat _ _ (by omega) o.v, u32_xor_nat _ _ (and_lt _ _ o.t) (and_lt _ _ (by omega)), choice_nat _ _ _ o.t]
  rfl
theorem choice_bits2 (h : St) (o : Ok8 h) : bits .xor .u32 (bits .and .u32 (h.t : Int) (h.u : Int)) (bits .and .u32 (bits .xor .u32 (if IntKind.u32.signed = true then -1 else IntKind.u32.max) (h.t : Int)) (h.v : Int)) = ((choice h : Nat) : Int) := by
  rw [show (if IntKind.u32.signed = true then (-1 : Int) else IntKind.u32.max) = IntKind.u32.max from rfl]
  exact choice_bits h o
theorem most_bits (h : St) (o : Ok8 h) : bits .xor .u32 (bits .xor .u32 (bits .and .u32 (h.p : Int) (h.q : Int)) (bits .and .u32 (h.p : Int) (h.r : Int))) (bits .and .u32 (h.q : Int) (h.r : Int)) = ((most h : Nat) : Int) := by
  rw [u32_and_nat _ _ o.p o.q, u32_and_nat _ _ o.p o.r, u32_and_nat _ _ o.q o.r, u32_xor_nat _ _ (and_lt _ _ o.p) (and_lt _ _ o.p), u32_xor_nat _ _ (Nat.xor_lt_two_pow (n := 32) (and_lt _ _ o.p) (and_lt _ _ o.p)) (and_lt _ _ o.q), most_nat]
  rfl
theorem one_sum (h : St) (k w : Nat) : (((h.x : Int) + (big1 h.t : Nat) + (choice h : Nat) + (k : Nat) + (w : Nat)) % 4294967296 : Int) = ((one h k w : Nat) : Int) := by
  unfold one choice w32
  omega
theorem two_sum (h : St) : (((big0 h.p : Nat) : Int) + (most h : Nat)) % 4294967296 = ((two h : Nat) : Int) := by
  unfold two most w32
  omega

theorem cast_add_mod (a b : Nat) : ((a : Int) + b) % 4294967296 = (((a + b) % 4294967296 : Nat) : Int) := by omega
/-! ### adding what was before -/
def addL (G H : List Nat) (i : Nat) : List Nat := (List.range 8).map fun j => if j < i then (G.getD j 0 + H.getD j 0) % 4294967296 else G.getD j 0
theorem addL_length (G H : List Nat) (i : Nat) : (addL G H i).length = 8 := by simp [addL]
theorem addL_get (G H : List Nat) (i j : Nat) (hj : j < 8) : (addL G H i)[j]? = some (if j < i then (G.getD j 0 + H.getD j 0) % 4294967296 else G.getD j 0) := by simp [addL, hj]
theorem addL_here (G H : List Nat) (i : Nat) (hi : i < 8) : (addL G H i)[i]? = some (G.getD i 0) := by
  rw [addL_get G H i i hi, if_neg (by omega)]
theorem addL_set (G H : List Nat) (i : Nat) (hi : i < 8) : (addL G H i).set i ((G.getD i 0 + H.getD i 0) % 4294967296) = addL G H (i + 1) := by
  apply List.ext_getElem?
  intro j
  rw [List.getElem?_set, addL_length]
  by_cases hj : i = j
  · subst hj
    rw [if_pos rfl, if_pos hi, addL_get G H (i + 1) i hi, if_pos (by omega)]
  · rw [if_neg hj]
    by_cases h8 : j < 8
    · rw [addL_get _ _ _ _ h8, addL_get _ _ _ _ h8]
      by_cases h : j < i
      · rw [if_pos h, if_pos (by omega)]
      · rw [if_neg h, if_neg (by omega)]
    · rw [List.getElem?_eq_none (by rw [addL_length]; omega), List.getElem?_eq_none (by rw [addL_length]; omega)]
theorem addL_zero (g h : St) : addL (lst g) (lst h) 0 = lst g := by simp [addL, lst, List.range_succ]
theorem addL_end (g h : St) : addL (lst g) (lst h) 8 = lst (plus h g) := by
  simp [addL, lst, List.range_succ, plus, w32, Nat.add_comm]
theorem lst_get (h : St) (j : Nat) (hj : j < 8) : (lst h)[j]? = some ((lst h).getD j 0) := by
  rw [List.getD_eq_getElem?_getD, List.getElem?_eq_getElem (by rw [lst_length]; exact hj)]
  rfl
end Go.Proofs.YtmldhnghfdhjmaaDoor
