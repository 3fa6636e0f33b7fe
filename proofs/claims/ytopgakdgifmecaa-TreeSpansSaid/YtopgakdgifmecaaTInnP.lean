/-
  PLAIN: how much the reference's reading gives.
  CONDITIONS: none.
-/
import Derived.Test.YtopgakdgifmecaaTReadP
namespace Go.Proofs.Ytopgakdgifmecaa
open Go.RowKit
set_option linter.unusedVariables false

theorem sum_add {α : Type} (f g : α → Nat) : ∀ l : List α, (l.map (fun x => f x + g x)).sum = (l.map f).sum + (l.map g).sum
  | [] => rfl
  | x :: l => by
    have := sum_add f g l
    simp only [List.map_cons, List.sum_cons]
    omega
theorem len_count (n : Nat) : ∀ l : List Nat, (∀ x ∈ l, x < n) → l.length = ((List.range n).map (fun j => l.count j)).sum
  | [], _ => by
    have := sum_one (fun _ => 0) 0 (fun _ _ => rfl) (List.range n)
    simp only [List.count_nil, List.length_nil]
    omega
  | x :: l, h => by
    have h1 := len_count n l (fun y hy => h y (List.mem_cons_of_mem _ hy))
    have hx := h x (List.mem_cons_self ..)
    have h2 := sum_one (fun j => if x = j then 1 else 0) x (fun y hy => if_neg (fun e => hy e.symm)) (List.range n)
    have h3 : (List.range n).count x = 1 := by rw [List.count_range]; simp [hx]
    have h4 : ((List.range n).map (fun j => (x :: l).count j)) = (List.range n).map (fun j => l.count j + (if x = j then 1 else 0)) := by
      refine List.map_congr_left (fun j _ => ?_)
      rw [List.count_cons]
      by_cases e : x = j <;> simp [e]
    rw [h4, sum_add, h2, h3, List.length_cons, if_pos rfl]
    omega
theorem sum_bound (g : Nat → Nat) (hg : ∀ j, g j ≤ 1) : ∀ l : List Nat, (l.map g).sum ≤ l.length
  | [] => by simp
  | x :: l => by
    have := sum_bound g hg l
    have := hg x
    simp only [List.map_cons, List.sum_cons, List.length_cons]
    omega
/-- Numbers below n, each at most once: at most n. -/
theorem pos_le (n : Nat) (P : List Nat) (h : ∀ x ∈ P, x < n) (hc : ∀ j, P.count j ≤ 1) : P.length ≤ n := by
  rw [len_count n P h]
  have := sum_bound (fun j => P.count j) hc (List.range n)
  rw [List.length_range] at this
  exact this
/-- What a reading gives is small. -/
theorem inner_small (ns : List Nq) (f k : Nat) (seen : List Nat) (r : IR) (hk : k < ns.length) (hf : ns.length - k ≤ f) (hs : seen.length = ns.length) (h1 : ∀ j, seen.getD j 0 ≤ 1) (h : innerR ns f k seen = some r) :
    r.l.length ≤ 3 * (posQ ns f k).length ∧ (∀ p ∈ posQ ns f k, p < ns.length) ∧ (∀ j, r.seen.getD j 0 = seen.getD j 0 + (posQ ns f k).count j) ∧ (∀ j, r.seen.getD j 0 ≤ 1) ∧ r.seen.length = ns.length ∧ r.d ≤ f + 1 := by
  obtain ⟨c1, c2, c3, c4, c5, c6, c7⟩ := inner_some ns f k seen r hk hf hs h
  refine ⟨by rw [c1]; exact flat_pos ns f k c4, fun p hp => (c4 p hp).lt, c6, c7 h1, c5, ?_⟩
  have h2 := deT_ht (branchQ ns f k)
  have h3 := branch_ht ns f k
  rw [c3]
  omega
end Go.Proofs.Ytopgakdgifmecaa
