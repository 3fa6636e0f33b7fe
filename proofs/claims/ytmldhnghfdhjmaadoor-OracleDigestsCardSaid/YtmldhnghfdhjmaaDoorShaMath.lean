/-
  PLAIN MATHEMATICS of sums that come piece by piece, over any way of working a block in: it does not matter how the bytes are cut.
  CONDITIONS: each theorem's own hypotheses.
-/
import Derived.Below
import Derived.Lib.Hide
import Derived.Lib.Bytealg
namespace Go.Proofs.YtmldhnghfdhjmaaDoor.ShaMath
set_option linter.unusedVariables false

section
variable {α : Type} (blk : α → List UInt8 → α)
/-- So many blocks of 64 bytes worked in. -/
def runN : Nat → α → List UInt8 → α
  | 0, h, _ => h
  | n + 1, h, l => runN n (blk h (l.take 64)) (l.drop 64)
/-- All whole blocks worked in. -/
def run (h : α) (l : List UInt8) : α := runN blk (l.length / 64) h l
/-- What is behind the whole blocks. -/
def rest (l : List UInt8) : List UInt8 := l.drop (l.length / 64 * 64)
theorem rest_length (l : List UInt8) : (rest l).length = l.length % 64 := by
  unfold rest
  rw [List.length_drop]
  have := Nat.div_add_mod l.length 64
  omega
theorem rest_lt (l : List UInt8) : (rest l).length < 64 := by rw [rest_length]; exact Nat.mod_lt _ (by decide)
theorem run_short (h : α) (l : List UInt8) (hl : l.length < 64) : run blk h l = h := by
  unfold run
  rw [Nat.div_eq_of_lt hl]
  rfl
theorem rest_short (l : List UInt8) (hl : l.length < 64) : rest l = l := by
  unfold rest
  rw [Nat.div_eq_of_lt hl]
  rfl
theorem run_step (h : α) (l : List UInt8) (hl : 64 ≤ l.length) : run blk h l = run blk (blk h (l.take 64)) (l.drop 64) := by
  unfold run
  rw [List.length_drop]
  have e : l.length / 64 = (l.length - 64) / 64 + 1 := by omega
  rw [e]
  rfl
theorem rest_step (l : List UInt8) (hl : 64 ≤ l.length) : rest l = rest (l.drop 64) := by
  unfold rest
  rw [List.length_drop, List.drop_drop]
  congr 1
  omega
theorem run_append : ∀ (n : Nat) (a b : List UInt8) (h : α), a.length = n * 64 → run blk h (a ++ b) = run blk (run blk h a) b
  | 0, a, b, h, e => by
    have : a = [] := List.eq_nil_of_length_eq_zero (by omega)
    subst this
    rw [run_short blk h [] (by simp)]
    rfl
  | n + 1, a, b, h, e => by
    have h64 : 64 ≤ a.length := by omega
    rw [run_step blk h (a ++ b) (by simp; omega), run_step blk h a h64, List.take_append_of_le_length h64, List.drop_append_of_le_length h64]
    exact run_append n (a.drop 64) b _ (by rw [List.length_drop]; omega)
theorem cut_rest (l : List UInt8) : l.take (l.length / 64 * 64) ++ rest l = l := List.take_append_drop _ _
theorem run_rest (h : α) (l : List UInt8) : run blk h l = run blk h (l.take (l.length / 64 * 64)) := by
  have hl : (l.take (l.length / 64 * 64)).length = l.length / 64 * 64 := by rw [List.length_take]; omega
  have := run_append blk (l.length / 64) (l.take (l.length / 64 * 64)) (rest l) h hl
  rw [cut_rest, run_short blk _ (rest l) (rest_lt l)] at this
  exact this
/-- IT DOES NOT MATTER HOW BYTES ARE CUT: what was held goes on. -/
theorem run_cut (h : α) (l m : List UInt8) : run blk (run blk h l) (rest l ++ m) = run blk h (l ++ m) := by
  have hl : (l.take (l.length / 64 * 64)).length = l.length / 64 * 64 := by rw [List.length_take]; omega
  have := run_append blk (l.length / 64) (l.take (l.length / 64 * 64)) (rest l ++ m) h hl
  rw [← List.append_assoc, cut_rest, ← run_rest] at this
  exact this.symm
end
theorem rest_append : ∀ (n : Nat) (a b : List UInt8), a.length = n * 64 → rest (a ++ b) = rest b
  | 0, a, b, e => by
    have : a = [] := List.eq_nil_of_length_eq_zero (by omega)
    subst this
    rfl
  | n + 1, a, b, e => by
    have h64 : 64 ≤ a.length := by omega
    rw [rest_step (a ++ b) (by simp; omega), List.drop_append_of_le_length h64]
    exact rest_append n (a.drop 64) b (by rw [List.length_drop]; omega)
theorem rest_cut (l m : List UInt8) : rest (rest l ++ m) = rest (l ++ m) := by
  have hl : (l.take (l.length / 64 * 64)).length = l.length / 64 * 64 := by rw [List.length_take]; omega
  have := rest_append (l.length / 64) (l.take (l.length / 64 * 64)) (rest l ++ m) hl
  rw [← List.append_assoc, cut_rest] at this
  exact this.symm
end Go.Proofs.YtmldhnghfdhjmaaDoor.ShaMath
