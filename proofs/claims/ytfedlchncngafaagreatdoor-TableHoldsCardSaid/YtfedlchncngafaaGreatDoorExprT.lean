/-
  PLAIN: expressions as trees; how large and how deep they are, counted depth first and layer by layer.
  CONDITIONS: none.
-/
import Derived.Test.YtfedlchncngafaaGreatDoorLexM
import Derived.Test.YtfedlchncngafaaGreatDoorStr0
namespace Go.Proofs.YtfedlchncngafaaGreatDoor
open Go.RowKit
set_option linter.unusedVariables false

/-- What one node of an expression holds beside its parts. -/
structure Nd where
  op : Int
  k : Int
  i : Int
  b : Int
  t : List UInt8
  n : List UInt8
inductive T where
  | mk (d : Nd) (l : List T)
def T.nd : T → Nd | .mk d _ => d
def T.kids : T → List T | .mk _ l => l
def kidsL (l : List T) : List T := l.flatMap T.kids
mutual
def T.size : T → Nat
  | .mk _ l => 1 + sizeL l
def sizeL : List T → Nat
  | [] => 0
  | t :: l => t.size + sizeL l
end
mutual
def T.deep : T → Nat
  | .mk _ l => 1 + deepL l
def deepL : List T → Nat
  | [] => 0
  | t :: l => max t.deep (deepL l)
end
theorem sizeL_append : ∀ (a b : List T), sizeL (a ++ b) = sizeL a + sizeL b
  | [], b => by simp [sizeL]
  | t :: a, b => by simp only [List.cons_append, sizeL, sizeL_append a b]; omega
theorem deepL_append : ∀ (a b : List T), deepL (a ++ b) = max (deepL a) (deepL b)
  | [], b => by simp [deepL]
  | t :: a, b => by simp only [List.cons_append, deepL, deepL_append a b]; omega
theorem T.size_eq (t : T) : t.size = 1 + sizeL t.kids := by cases t; rfl
theorem T.deep_eq (t : T) : t.deep = 1 + deepL t.kids := by cases t; rfl
theorem sizeL_layer : ∀ l : List T, sizeL l = l.length + sizeL (kidsL l)
  | [] => rfl
  | t :: l => by
    have := sizeL_layer l
    simp only [sizeL, kidsL, List.flatMap_cons, sizeL_append, List.length_cons, t.size_eq] at this ⊢
    omega
theorem deepL_layer : ∀ l : List T, l ≠ [] → deepL l = 1 + deepL (kidsL l)
  | [], h => absurd rfl h
  | [t], _ => by simp [deepL, kidsL, t.deep_eq]
  | t :: u :: l, _ => by
    have := deepL_layer (u :: l) (by simp)
    have e : kidsL (t :: u :: l) = t.kids ++ kidsL (u :: l) := by simp [kidsL]
    rw [e, deepL_append]
    have e2 : deepL (t :: u :: l) = max t.deep (deepL (u :: l)) := rfl
    rw [e2, this, t.deep_eq]
    omega
theorem kids_le_size (l : List T) : (kidsL l).length ≤ sizeL (kidsL l) := by have := sizeL_layer (kidsL l); omega
/-- Layer by layer. -/
def layF : Nat → List T → Nat → Bool
  | 0, row, _ => row.isEmpty
  | f + 1, row, all => row.isEmpty || (decide (all + row.length ≤ 40) && (decide ((kidsL row).length ≤ 40) && layF f (kidsL row) (all + row.length)))
theorem layF_iff : ∀ (f : Nat) (row : List T) (all : Nat), layF f row all = true ↔ deepL row ≤ f ∧ (row = [] ∨ all + sizeL row ≤ 40)
  | 0, row, all => by
    cases row with
    | nil => simp [layF, deepL]
    | cons t l =>
      have := T.deep_eq t
      simp only [layF, List.isEmpty_cons, deepL]
      constructor
      · intro h; cases h
      · intro h; omega
  | f + 1, row, all => by
    cases row with
    | nil => simp [layF, deepL]
    | cons t l =>
      have ih := layF_iff f (kidsL (t :: l)) (all + (t :: l).length)
      have h1 := sizeL_layer (t :: l)
      have h2 := deepL_layer (t :: l) (by simp)
      have h3 := kids_le_size (t :: l)
      simp only [layF, List.isEmpty_cons, Bool.false_or, Bool.and_eq_true, decide_eq_true_eq]
      rw [ih]
      constructor
      · rintro ⟨a1, a2, a3, a4⟩
        refine ⟨by omega, .inr ?_⟩
        rcases a4 with a4 | a4
        · rw [a4] at h1; simp [sizeL] at h1 ⊢; simp at a1; omega
        · omega
      · rintro ⟨a1, a2⟩
        rcases a2 with a2 | a2
        · cases a2
        · exact ⟨by omega, by omega, by omega, .inr (by omega)⟩
/-- Depth first. -/
def roomR (f : T → Int → Int) : List T → Int → Int
  | [], r => r
  | t :: l, r => if r < 0 then r else roomR f l (f t r)
def roomT : Nat → T → Int → Int
  | 0, _, _ => -1
  | n + 1, .mk _ l, r => roomR (roomT n) l (r - 1)
theorem roomR_neg (f : T → Int → Int) : ∀ (l : List T) (r : Int), r < 0 → roomR f l r < 0
  | [], r, h => h
  | t :: l, r, h => by simp only [roomR]; rw [if_pos h]; exact h
theorem room_iff : ∀ (n : Nat), (∀ (t : T) (r : Int), 0 ≤ r → (t.deep ≤ n ∧ (t.size : Int) ≤ r → roomT n t r = r - t.size) ∧ (¬ (t.deep ≤ n ∧ (t.size : Int) ≤ r) → roomT n t r < 0)) ∧
    ∀ (l : List T) (r : Int), 0 ≤ r → (deepL l ≤ n ∧ (sizeL l : Int) ≤ r → roomR (roomT n) l r = r - sizeL l) ∧ (¬ (deepL l ≤ n ∧ (sizeL l : Int) ≤ r) → roomR (roomT n) l r < 0) := by
  intro n
  have step : (∀ (t : T) (r : Int), 0 ≤ r → (t.deep ≤ n ∧ (t.size : Int) ≤ r → roomT n t r = r - t.size) ∧ (¬ (t.deep ≤ n ∧ (t.size : Int) ≤ r) → roomT n t r < 0)) →
      ∀ (l : List T) (r : Int), 0 ≤ r → (deepL l ≤ n ∧ (sizeL l : Int) ≤ r → roomR (roomT n) l r = r - sizeL l) ∧ (¬ (deepL l ≤ n ∧ (sizeL l : Int) ≤ r) → roomR (roomT n) l r < 0) := by
    intro ht l
    induction l with
    | nil => intro r hr; simp [roomR, sizeL, deepL, hr]
    | cons t l ih =>
      intro r hr
      simp only [roomR, deepL, sizeL]
      rw [if_neg (by omega)]
      obtain ⟨p1, p2⟩ := ht t r hr
      by_cases h : t.deep ≤ n ∧ (t.size : Int) ≤ r
      · rw [p1 h]
        obtain ⟨q1, q2⟩ := ih (r - t.size) (by omega)
        constructor
        · intro hh; rw [q1 ⟨by omega, by omega⟩]; omega
        · intro hh; exact q2 (fun hq => hh ⟨by omega, by omega⟩)
      · have := p2 h
        constructor
        · intro hh; exact absurd ⟨by omega, by omega⟩ h
        · intro _; exact roomR_neg _ _ _ this
  have main : ∀ (t : T) (r : Int), 0 ≤ r → (t.deep ≤ n ∧ (t.size : Int) ≤ r → roomT n t r = r - t.size) ∧ (¬ (t.deep ≤ n ∧ (t.size : Int) ≤ r) → roomT n t r < 0) := by
    cases n with
    | zero =>
      intro t r hr
      have := T.deep_eq t
      exact ⟨fun h => by omega, fun _ => by simp [roomT]⟩
    | succ n =>
      intro t r hr
      obtain ⟨_, h2⟩ := room_iff n
      obtain ⟨d, l⟩ := t
      simp only [roomT, T.deep, T.size]
      by_cases h1 : 0 ≤ r - 1
      · obtain ⟨q1, q2⟩ := h2 l (r - 1) h1
        constructor
        · intro hh; rw [q1 ⟨by omega, by omega⟩]; omega
        · intro hh; exact q2 (fun hq => hh ⟨by omega, by omega⟩)
      · have := roomR_neg (roomT n) l (r - 1) (by omega)
        exact ⟨fun hh => by omega, fun _ => this⟩
  exact ⟨main, step main⟩
/-- Small enough: both ways of counting say the same. -/
theorem room_lay (t : T) : (roomT 7 t 40 < 0) ↔ layF 7 [t] 0 = false := by
  obtain ⟨p1, p2⟩ := (room_iff 7).1 t 40 (by decide)
  have h := layF_iff 7 [t] 0
  have hb : (layF 7 [t] 0 = true) ↔ (t.deep ≤ 7 ∧ (t.size : Int) ≤ 40) := by
    rw [h]; simp only [deepL, sizeL]; simp; omega
  by_cases hh : t.deep ≤ 7 ∧ (t.size : Int) ≤ 40
  · rw [p1 hh, hb.2 hh]; simp; omega
  · have h3 : layF 7 [t] 0 = false := by
      cases hl : layF 7 [t] 0 with
      | false => rfl
      | true => exact absurd (hb.1 hl) hh
    rw [h3]; simp [p2 hh]
/-- What may stand in a node. -/
def partsN (op : Int) : Nat := if op = 1 ∨ op = 2 then 0 else if op = 3 ∨ op = 4 ∨ op = 17 ∨ op = 18 then 1 else 2
def nOk (d : Nd) : Bool := if d.op = 2 then tokC 1 d.n 0 0 == 0 else d.n.isEmpty
def vOk (d : Nd) : Bool := if d.op = 1 then (chk d.k d.i d.b (str d.t) == 0) && decide (0 ≤ d.i) else (((d.k == 0) && (d.i == 0)) && (d.b == 0)) && d.t.isEmpty
def nodeF (d : Nd) (n : Nat) : Int := if d.op < 1 ∨ 20 < d.op then 2 else if (decide (n = partsN d.op) && nOk d) && vOk d then 0 else 3
mutual
def formT : T → Int
  | .mk d l => if nodeF d l.length ≠ 0 then nodeF d l.length else formL l
def formL : List T → Int
  | [] => 0
  | t :: l => if formT t ≠ 0 then formT t else formL l
end
def exprR (t : T) : Int := if roomT 7 t 40 < 0 then 1 else formT t
theorem formL_bad : ∀ (l : List T) (j : Nat) (t : T), l[j]? = some t → (∀ (i : Nat) (u : T), l[i]? = some u → i < j → formT u = 0) → formT t ≠ 0 → formL l = formT t
  | [], j, t, h, _, _ => by simp at h
  | u :: l, 0, t, h, _, hb => by
    simp only [List.getElem?_cons_zero, Option.some.injEq] at h
    subst h
    simp only [formL]; rw [if_pos hb]
  | u :: l, j + 1, t, h, hg, hb => by
    have h0 := hg 0 u rfl (by omega)
    simp only [formL]
    rw [if_neg (by rw [h0]; decide)]
    exact formL_bad l j t (by simpa using h) (fun i x hx hi => hg (i + 1) x (by simpa using hx) (by omega)) hb
theorem formL_good : ∀ (l : List T), (∀ (i : Nat) (u : T), l[i]? = some u → formT u = 0) → formL l = 0
  | [], _ => rfl
  | u :: l, hg => by
    have h0 := hg 0 u rfl
    simp only [formL]
    rw [if_neg (by rw [h0]; decide)]
    exact formL_good l (fun i x hx => hg (i + 1) x (by simpa using hx))
end Go.Proofs.YtfedlchncngafaaGreatDoor
