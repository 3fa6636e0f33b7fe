/-
  PLAIN WORDS of package kinds: columns, and what Columns answers of them.
  CONDITIONS: none.
-/
import Derived.Test.YtpneoaehkibdeaaDoorLexM
namespace Go.Proofs.YtpneoaehkibdeaaDoor
open Go.RowKit
set_option linter.unusedVariables false

structure Cl where
  n : List UInt8
  k : Int
  nl : Bool
/-- What is wrong with a column behind others. -/
def colF (c : Cl) (ahead : List Cl) : Int := if tokC 1 c.n 0 0 ≠ 0 then 3 else if c.k < 1 ∨ 4 < c.k then 2 else if ahead.any (fun x => x.n == c.n) = true then 8 else 0
def colsG : List Cl → List Cl → Int
  | _, [] => 0
  | a, c :: r => if colF c a = 0 then colsG (a ++ [c]) r else colF c a
def colsR (l : List Cl) : Int := if 5 < l.length then 1 else colsG [] l
theorem colsG_split : ∀ (r a : List Cl) (j : Nat), (∀ i c, r[i]? = some c → i < j → colF c (a ++ r.take i) = 0) → colsG a r = colsG (a ++ r.take j) (r.drop j)
  | [], a, j, h => by simp
  | c :: r, a, 0, h => by simp
  | c :: r, a, j + 1, h => by
    have h0 := h 0 c rfl (by omega)
    simp only [List.take_zero, List.append_nil] at h0
    simp only [colsG, List.take_succ_cons, List.drop_succ_cons]
    rw [if_pos h0, colsG_split r (a ++ [c]) j (fun i x hx hi => by have := h (i + 1) x (by simpa using hx) (by omega); simpa using this)]
    simp
theorem colsR_bad {l : List Cl} {j : Nat} {c : Cl} (h5 : ¬ 5 < l.length) (hc : l[j]? = some c) (hg : ∀ i x, l[i]? = some x → i < j → colF x (l.take i) = 0) (hb : colF c (l.take j) ≠ 0) : colsR l = colF c (l.take j) := by
  unfold colsR
  rw [if_neg h5, colsG_split l [] j (fun i x hx hi => by rw [List.nil_append]; exact hg i x hx hi), List.nil_append]
  obtain ⟨hj, he⟩ := List.getElem?_eq_some_iff.1 hc
  rw [List.drop_eq_getElem_cons hj, he]
  simp only [colsG]
  rw [if_neg hb]
theorem colsR_good {l : List Cl} (h5 : ¬ 5 < l.length) (hg : ∀ i x, l[i]? = some x → colF x (l.take i) = 0) : colsR l = 0 := by
  unfold colsR
  rw [if_neg h5, colsG_split l [] l.length (fun i x hx hi => by rw [List.nil_append]; exact hg i x hx)]
  simp [colsG]
/-- The place of the first column of a name. -/
def placeN (n : List UInt8) : List Cl → Nat → Int
  | [], _ => -1
  | c :: l, j => if c.n == n then (j : Int) else placeN n l (j + 1)
theorem placeN_any (n : List UInt8) : ∀ (l : List Cl) (j : Nat), 0 ≤ placeN n l j ↔ l.any (fun x => x.n == n) = true
  | [], j => by simp [placeN]
  | c :: l, j => by
    have ih := placeN_any n l (j + 1)
    have e : placeN n (c :: l) j = if (c.n == n) = true then (j : Int) else placeN n l (j + 1) := rfl
    rw [e, List.any_cons]
    by_cases h : (c.n == n) = true
    · rw [if_pos h, h]; simp
    · rw [if_neg h, ih]; simp [h]
/-- The place of the last column of a name. -/
def placeL (n : List UInt8) (l : List Cl) : Nat → Int
  | 0 => -1
  | j + 1 => if (l[j]?.map (fun x => x.n == n)) = some true then (j : Int) else placeL n l j
theorem placeL_any (n : List UInt8) (l : List Cl) : ∀ j, j ≤ l.length → (0 ≤ placeL n l j ↔ (l.take j).any (fun x => x.n == n) = true)
  | 0, _ => by simp [placeL]
  | j + 1, h => by
    have hj : j < l.length := h
    have ih := placeL_any n l j (by omega)
    have e : placeL n l (j + 1) = if (l[j]?.map (fun x => x.n == n)) = some true then (j : Int) else placeL n l j := rfl
    rw [e, List.take_succ_eq_append_getElem hj, List.any_append, List.getElem?_eq_getElem hj, Option.map_some]
    by_cases hq : (l[j].n == n) = true
    · rw [if_pos (by rw [hq])]; simp [hq]
    · rw [if_neg (by simp [hq]), ih]; simp [hq]
end Go.Proofs.YtpneoaehkibdeaaDoor
