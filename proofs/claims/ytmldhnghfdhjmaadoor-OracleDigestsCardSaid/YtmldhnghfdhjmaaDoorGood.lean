/-
  A STREAM THAT MAY BE is the canonical one of what it holds.
-/
import Derived.Test.YtmldhnghfdhjmaaDoorSum
namespace Go.Proofs.YtmldhnghfdhjmaaDoor
open Go.RowKit CodeMath
theorem all_nought (l : List UInt8) (h : l.all (· == 0) = true) : l = List.replicate l.length 0 := by
  induction l with
  | nil => rfl
  | cons x l ih =>
    rw [List.all_cons, Bool.and_eq_true] at h
    have e : x = 0 := by simpa using h.1
    rw [List.length_cons, List.replicate_succ, e, ← ih h.2]
theorem good_facts (s : Stm) (h : s.good = true) : 0 ≤ s.len ∧ s.len ≤ 1152921504606846976 ∧ s.n = s.len % 64 ∧ (s.held.drop s.n.toNat).all (· == 0) = true := by
  unfold Stm.good at h
  simp only [Bool.and_eq_true, decide_eq_true_eq] at h
  exact ⟨h.1.1.1, h.1.1.2, h.1.2, h.2⟩
theorem good_can (s : Stm) (h : s.good = true) (h64 : s.held.length = 64) : s = can s.h (s.held.take s.n.toNat) s.len ∧ (s.held.take s.n.toNat).length < 64 ∧ (s.held.take s.n.toNat).length = s.len.toNat % 64 := by
  obtain ⟨a, b, c, d⟩ := good_facts s h
  have hl : (s.held.take s.n.toNat).length = s.n.toNat := by rw [List.length_take]; omega
  have hz := all_nought _ d
  rw [List.length_drop, h64] at hz
  refine ⟨?_, by omega, by omega⟩
  unfold can
  rw [hl, ← hz, List.take_append_drop]
  have e : ((s.n.toNat : Nat) : Int) = s.n := by omega
  rw [e]
end Go.Proofs.YtmldhnghfdhjmaaDoor
