/-
  PLAIN: over columns that may be, the first and the last column of a name are one.
  CONDITIONS: none.
-/
import Derived.Test.YtoleaahnpcbkkaaDoorKindV
namespace Go.Proofs.YtoleaahnpcbkkaaDoor
open Go.RowKit
set_option linter.unusedVariables false

theorem colF_apart (c : Cl) (a : List Cl) (h : colF c a = 0) : ∀ x ∈ a, x.n ≠ c.n := by
  intro x hx he
  have : a.any (fun x => x.n == c.n) = true := List.any_eq_true.2 ⟨x, hx, by simp [he]⟩
  unfold colF at h
  rw [if_pos this] at h
  repeat' split at h
  all_goals exact absurd h (by decide)
theorem colsG_apart : ∀ (r a : List Cl), colsG a r = 0 → (∀ c ∈ r, ∀ x ∈ a, x.n ≠ c.n) ∧ r.Pairwise (fun x y => x.n ≠ y.n)
  | [], a, _ => ⟨fun c hc => (by cases hc), .nil⟩
  | c :: r, a, h => by
    simp only [colsG] at h
    by_cases hx : colF c a = 0
    · rw [if_pos hx] at h
      obtain ⟨h1, h2⟩ := colsG_apart r (a ++ [c]) h
      refine ⟨?_, .cons (fun y hy => h1 y hy c (by simp)) h2⟩
      intro y hy x hxa
      rcases List.mem_cons.1 hy with rfl | hm
      · exact colF_apart _ a hx x hxa
      · exact h1 y hm x (by simp [hxa])
    · rw [if_neg hx] at h; exact absurd h hx
theorem colsR_apart (l : List Cl) (h : colsR l = 0) : l.Pairwise (fun x y => x.n ≠ y.n) := by
  unfold colsR at h
  split at h
  · exact absurd h (by decide)
  · exact (colsG_apart l [] h).2
theorem placeL_at (n : List UInt8) (l : List Cl) : ∀ j, j ≤ l.length → (placeL n l j = -1 ∧ ∀ (i : Nat) (c : Cl), i < j → l[i]? = some c → c.n ≠ n) ∨ ∃ (i : Nat) (c : Cl), i < j ∧ l[i]? = some c ∧ c.n = n ∧ placeL n l j = (i : Int)
  | 0, _ => .inl ⟨rfl, fun i c h => absurd h (Nat.not_lt_zero _)⟩
  | j + 1, h => by
    have hj : j < l.length := h
    have hg : l[j]? = some l[j] := List.getElem?_eq_getElem hj
    have e : placeL n l (j + 1) = if (l[j]?.map (fun x => x.n == n)) = some true then (j : Int) else placeL n l j := rfl
    by_cases hn : l[j].n = n
    · rw [hg, if_pos (by simp [hn])] at e
      exact .inr ⟨j, l[j], by omega, hg, hn, e⟩
    · rw [hg, if_neg (by simp [hn])] at e
      rcases placeL_at n l j (by omega) with ⟨h1, h2⟩ | ⟨i, c, h1, h2, h3, h4⟩
      · refine .inl ⟨by rw [e, h1], fun i c hi hc => ?_⟩
        rcases Nat.lt_or_ge i j with h3 | h3
        · exact h2 i c h3 hc
        · obtain rfl : i = j := by omega
          rw [hg] at hc; cases hc; exact hn
      · exact .inr ⟨i, c, by omega, h2, h3, by rw [e, h4]⟩
theorem place_same (l : List Cl) (n : List UInt8) (h : colsR l = 0) : placeL n l l.length = placeN n l 0 := by
  rcases placeL_at n l l.length (Nat.le_refl _) with ⟨h1, h2⟩ | ⟨i, c, h1, h2, h3, h4⟩
  · rw [h1, placeN_none n l 0 (fun i x hx => h2 i x (List.getElem?_eq_some_iff.1 hx).1 hx)]
  · rw [h4, placeN_hit n l 0 i c h2 h3 (fun i' x hx hi he => ?_), Nat.zero_add]
    obtain ⟨p1, p2⟩ := List.getElem?_eq_some_iff.1 hx
    obtain ⟨q1, q2⟩ := List.getElem?_eq_some_iff.1 h2
    have := List.pairwise_iff_getElem.1 (colsR_apart l h) i' i p1 q1 hi
    rw [p2, q2] at this
    exact this (by rw [he, h3])
end Go.Proofs.YtoleaahnpcbkkaaDoor
