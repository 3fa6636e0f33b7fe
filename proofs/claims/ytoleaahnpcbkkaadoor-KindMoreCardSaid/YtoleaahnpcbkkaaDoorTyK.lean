/-
  PLAIN: a column more says nothing; where columns are never null less is null.
  CONDITIONS: none.
-/
import Derived.Test.YtoleaahnpcbkkaaDoorTyZ
namespace Go.Proofs.YtoleaahnpcbkkaaDoor
open Go.RowKit
set_option linter.unusedVariables false

theorem placeN_in (n : List UInt8) : ∀ (l r : List Cl) (q : Nat), (∃ (j : Nat) (c : Cl), l[j]? = some c ∧ c.n = n) → placeN n (l ++ r) q = placeN n l q ∧ (q : Int) ≤ placeN n l q ∧ placeN n l q < q + l.length
  | [], _, _, ⟨j, c, h, _⟩ => by simp at h
  | x :: l, r, q, ⟨j, c, h, hn⟩ => by
    have e : ∀ m : List Cl, placeN n (x :: m) q = if (x.n == n) = true then (q : Int) else placeN n m (q + 1) := fun _ => rfl
    rw [List.cons_append, e, e]
    by_cases hx : (x.n == n) = true
    · rw [if_pos hx, if_pos hx]
      simp only [List.length_cons]
      exact ⟨by trivial, by omega, by omega⟩
    · rw [if_neg hx, if_neg hx]
      cases j with
      | zero =>
        simp only [List.getElem?_cons_zero, Option.some.injEq] at h
        subst h
        exact absurd (show (x.n == n) = true by simp [hn]) hx
      | succ j =>
        have := placeN_in n l r (q + 1) ⟨j, c, by simpa using h, hn⟩
        simp only [List.length_cons]
        refine ⟨this.1, by omega, by omega⟩
theorem colK_more (n : List UInt8) (l r : List Cl) (h : ∃ (j : Nat) (c : Cl), l[j]? = some c ∧ c.n = n) : colK n (l ++ r) = colK n l := by
  obtain ⟨h1, h2, h3⟩ := placeN_in n l r 0 h
  unfold colK
  rw [h1, List.getElem?_append_left (by omega)]
theorem ty_more {cs : List Cl} (hc : colsR cs = 0) (r : List Cl) : ∀ (n : Nat) (k : Int) (t : T), 1 ≤ k ∧ k ≤ 4 → Ty cs n k t → kT (cs ++ r) t = kT cs t
  | 0, _, _, _, h => h.elim
  | n + 1, k, t, hk, h => by
    rcases h with (⟨j, c, hj, _, rfl⟩ | ⟨k', i, b, s, _, hchk, h0, _, _, _, rfl⟩) | ⟨op, k', a, h1, h2, rfl⟩ | ⟨op, k', a, b, h1, h2, h3, rfl⟩
    · have e : ∀ l : List Cl, kT l (colT c.n) = colK c.n l := fun l => by
        simp only [colT, kT]; rw [if_neg (by decide), if_pos trivial]
      rw [e, e, colK_more c.n cs r ⟨j, c, hj, rfl⟩]
    · have e : ∀ l : List Cl, kT l (litT k' i b s) = ⟨k', k' == 0, 0⟩ := fun l => by
        simp only [litT, kT]; rw [if_pos trivial]
      rw [e, e]
    · obtain ⟨ho, hk'⟩ := mk1_rng h1
      have ha := ty_more hc r n k' a hk' h2
      have e : ∀ l, kT l (opN op [a]) = if kF l [a] ≠ 0 then ⟨0, false, kF l [a]⟩ else opK op (kP l [a]) := fun l => by
        simp only [opN, kT]; rw [if_neg (by omega), if_neg (by omega)]
      have hF : kF (cs ++ r) [a] = kF cs [a] := by simp only [kF, ha]
      have hP : kP (cs ++ r) [a] = kP cs [a] := by simp only [kP, ha]
      rw [e, e]
      by_cases h : kF cs [a] = 0
      · rw [if_neg (by rw [hF, h]; decide), if_neg (by rw [h]; decide), hP]
      · rw [if_pos (by rw [hF]; exact h), if_pos h, hF]
    · obtain ⟨ho, hk'⟩ := mk2_rng h1 hk
      have ha := ty_more hc r n k' a hk' h2
      have hb := ty_more hc r n k' b hk' h3
      have e : ∀ l, kT l (opN op [a, b]) = if kF l [a, b] ≠ 0 then ⟨0, false, kF l [a, b]⟩ else opK op (kP l [a, b]) := fun l => by
        simp only [opN, kT]; rw [if_neg (by omega), if_neg (by omega)]
      have hF : kF (cs ++ r) [a, b] = kF cs [a, b] := by simp only [kF, ha, hb]
      have hP : kP (cs ++ r) [a, b] = kP cs [a, b] := by simp only [kP, ha, hb]
      rw [e, e]
      by_cases h : kF cs [a, b] = 0
      · rw [if_neg (by rw [hF, h]; decide), if_neg (by rw [h]; decide), hP]
      · rw [if_pos (by rw [hF]; exact h), if_pos h, hF]
/-- The same kind, and no null more. -/
def Less (p q : R3) : Prop := q.f = p.f ∧ q.k = p.k ∧ (q.n = true → p.n = true)
def strictC (c : Cl) : Cl := ⟨c.n, c.k, false⟩
theorem placeN_strict (n : List UInt8) : ∀ (l : List Cl) (q : Nat), placeN n (l.map strictC) q = placeN n l q
  | [], _ => rfl
  | x :: l, q => by
    have e : ∀ (y : Cl) (m : List Cl), placeN n (y :: m) q = if (y.n == n) = true then (q : Int) else placeN n m (q + 1) := fun _ _ => rfl
    rw [List.map_cons, e, e, placeN_strict n l (q + 1)]
    rfl
theorem colK_strict (n : List UInt8) (l : List Cl) : Less (colK n l) (colK n (l.map strictC)) := by
  unfold colK
  rw [placeN_strict, List.getElem?_map]
  by_cases h : placeN n l 0 < 0
  · rw [if_pos h, if_pos h]; exact ⟨rfl, rfl, fun h => h⟩
  · rw [if_neg h, if_neg h]
    cases l[(placeN n l 0).toNat]? with
    | none => exact ⟨rfl, rfl, fun h => h⟩
    | some c => exact ⟨rfl, rfl, fun h => by cases h⟩
theorem mayK_less (op : Int) (a b : Nat) (h : a ≤ b) (hb : b ≤ 2) : mayK op a = true → mayK op b = true := by
  unfold mayK
  split
  · exact fun h => h
  · split
    · intro hh; rw [decide_eq_true_eq] at hh ⊢; omega
    · intro hh; rw [decide_eq_true_eq] at hh ⊢; omega
theorem nullsK_one (x : Int) (n : Bool) : nullsK [(x, n)] = if n = true then 1 else 0 := by cases n <;> rfl
theorem nullsK_two (x : Int) (n : Bool) (y : Int) (m : Bool) : nullsK [(x, n), (y, m)] = (if n = true then 1 else 0) + (if m = true then 1 else 0) := by cases n <;> cases m <;> rfl
theorem opK_less1 (op : Int) (x : Int) (n n' : Bool) (h : n' = true → n = true) : Less (opK op [(x, n)]) (opK op [(x, n')]) := by
  unfold opK
  have e0 : ∀ b : Bool, fstK [(x, b)] 0 = x := fun _ => rfl
  have e1 : ∀ b : Bool, fstK [(x, b)] 1 = 0 := fun _ => rfl
  rw [e0, e0, e1, e1]
  by_cases ha : asksK op x 0 = true
  · rw [if_pos ha, if_pos ha]
    refine ⟨rfl, rfl, ?_⟩
    show mayK op (nullsK [(x, n')]) = true → mayK op (nullsK [(x, n)]) = true
    rw [nullsK_one, nullsK_one]
    refine mayK_less op _ _ ?_ ?_
    · cases n <;> cases n' <;> simp_all
    · split <;> omega
  · rw [if_neg ha, if_neg ha]; exact ⟨rfl, rfl, fun h => h⟩
theorem opK_less2 (op : Int) (x y : Int) (n n' m m' : Bool) (h : n' = true → n = true) (h2 : m' = true → m = true) : Less (opK op [(x, n), (y, m)]) (opK op [(x, n'), (y, m')]) := by
  unfold opK
  have e0 : ∀ b c : Bool, fstK [(x, b), (y, c)] 0 = x := fun _ _ => rfl
  have e1 : ∀ b c : Bool, fstK [(x, b), (y, c)] 1 = y := fun _ _ => rfl
  rw [e0, e0, e1, e1]
  by_cases ha : asksK op x y = true
  · rw [if_pos ha, if_pos ha]
    refine ⟨rfl, rfl, ?_⟩
    show mayK op (nullsK [(x, n'), (y, m')]) = true → mayK op (nullsK [(x, n), (y, m)]) = true
    rw [nullsK_two, nullsK_two]
    refine mayK_less op _ _ ?_ ?_
    · cases n <;> cases n' <;> cases m <;> cases m' <;> simp_all
    · cases n <;> cases m <;> simp
  · rw [if_neg ha, if_neg ha]; exact ⟨rfl, rfl, fun h => h⟩
theorem ty_less {cs : List Cl} (hc : colsR cs = 0) : ∀ (n : Nat) (k : Int) (t : T), 1 ≤ k ∧ k ≤ 4 → Ty cs n k t → Less (kT cs t) (kT (cs.map strictC) t)
  | 0, _, _, _, h => h.elim
  | n + 1, k, t, hk, h => by
    rcases h with (⟨j, c, hj, _, rfl⟩ | ⟨k', i, b, s, _, hchk, h0, _, _, _, rfl⟩) | ⟨op, k', a, h1, h2, rfl⟩ | ⟨op, k', a, b, h1, h2, h3, rfl⟩
    · have e : ∀ l : List Cl, kT l (colT c.n) = colK c.n l := fun l => by
        simp only [colT, kT]; rw [if_neg (by decide), if_pos trivial]
      rw [e, e]; exact colK_strict c.n cs
    · have e : ∀ l : List Cl, kT l (litT k' i b s) = ⟨k', k' == 0, 0⟩ := fun l => by
        simp only [litT, kT]; rw [if_pos trivial]
      rw [e, e]; exact ⟨rfl, rfl, fun h => h⟩
    · obtain ⟨ho, hk'⟩ := mk1_rng h1
      obtain ⟨a1, a2, a3⟩ := ty_less hc n k' a hk' h2
      have hg := (ty_kind hc n k' a hk' h2).1
      have e : ∀ l : List Cl, (kT l a).f = 0 → kT l (opN op [a]) = opK op [((kT l a).k, (kT l a).n)] := fun l h0 => by
        have hF : kF l [a] = 0 := by simp [kF, h0]
        simp only [opN, kT]
        rw [if_neg (by omega), if_neg (by omega), if_neg (by rw [hF]; decide)]
        rfl
      rw [e cs hg, e _ (by rw [a1]; exact hg), a2]
      exact opK_less1 op _ _ _ a3
    · obtain ⟨ho, hk'⟩ := mk2_rng h1 hk
      obtain ⟨a1, a2, a3⟩ := ty_less hc n k' a hk' h2
      obtain ⟨b1, b2, b3⟩ := ty_less hc n k' b hk' h3
      have hg := (ty_kind hc n k' a hk' h2).1
      have hh := (ty_kind hc n k' b hk' h3).1
      have e : ∀ l : List Cl, (kT l a).f = 0 → (kT l b).f = 0 → kT l (opN op [a, b]) = opK op [((kT l a).k, (kT l a).n), ((kT l b).k, (kT l b).n)] := fun l h0 h1 => by
        have hF : kF l [a, b] = 0 := by simp [kF, h0, h1]
        simp only [opN, kT]
        rw [if_neg (by omega), if_neg (by omega), if_neg (by rw [hF]; decide)]
        rfl
      rw [e cs hg hh, e _ (by rw [a1]; exact hg) (by rw [b1]; exact hh), a2, b2]
      exact opK_less2 op _ _ _ _ _ _ a3 b3
end Go.Proofs.YtoleaahnpcbkkaaDoor
