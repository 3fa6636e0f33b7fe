/-
  PLAIN MATHEMATICS of a stream's cells: what each store makes of them; canonical streams.
  CONDITIONS: each theorem's own hypotheses.
-/
import Derived.Test.YtmldhnghfdhjmaaDoorStream
import Derived.Laws.CopyOwn
namespace Go.Proofs.YtmldhnghfdhjmaaDoor
open Go Go.RowKit CodeMath ShaMath
set_option linter.unusedVariables false
set_option maxRecDepth 100000

theorem lenH (h : St) : (u32s (lst h)).length = 8 := by rw [u32s_length, lst_length]
theorem Stm.set_n (s : Stm) (hf : s.held.length = 64) (x : Int) : s.cells.set 72 (.int .i64 x) = ({ s with n := x } : Stm).cells := by
  unfold Stm.cells
  rw [List.set_append_right _ _ (by rw [lenH]; omega), lenH, List.set_append_right _ _ (by rw [u8s_length]; omega), u8s_length, hf]
  rfl
theorem Stm.set_len (s : Stm) (hf : s.held.length = 64) (x : Int) : s.cells.set 73 (.int .i64 x) = ({ s with len := x } : Stm).cells := by
  unfold Stm.cells
  rw [List.set_append_right _ _ (by rw [lenH]; omega), lenH, List.set_append_right _ _ (by rw [u8s_length]; omega), u8s_length, hf]
  rfl
theorem Stm.put_h (s : Stm) (h : St) : s.cells.take 0 ++ (u32s (lst h) ++ s.cells.drop (0 + (u32s (lst h)).length)) = ({ s with h := h } : Stm).cells := by
  unfold Stm.cells
  rw [List.take_zero, List.nil_append, lenH, Nat.zero_add, List.drop_append_of_le_length (by rw [lenH]; exact Nat.le_refl _), List.drop_of_length_le (by rw [lenH]; exact Nat.le_refl _), List.nil_append]
theorem Stm.put_held (s : Stm) (hf : s.held.length = 64) (z : List UInt8) (hz : z.length = 64) : s.cells.take 8 ++ (u8s z ++ s.cells.drop (8 + (u8s z).length)) = ({ s with held := z } : Stm).cells := by
  unfold Stm.cells
  have e1 : (u32s (lst s.h) ++ (u8s s.held ++ [Value.int .i64 s.n, Value.int .i64 s.len])).take 8 = u32s (lst s.h) := by
    rw [List.take_append_of_le_length (by rw [lenH]; exact Nat.le_refl _), List.take_of_length_le (by rw [lenH]; exact Nat.le_refl _)]
  have e2 : (u32s (lst s.h) ++ (u8s s.held ++ [Value.int .i64 s.n, Value.int .i64 s.len])).drop (8 + (u8s z).length) = [Value.int .i64 s.n, Value.int .i64 s.len] := by
    rw [← List.append_assoc, List.drop_append_of_le_length (by rw [List.length_append, lenH, u8s_length, u8s_length, hf, hz]; exact Nat.le_refl _), List.drop_of_length_le (by rw [List.length_append, lenH, u8s_length, u8s_length, hf, hz]; exact Nat.le_refl _), List.nil_append]
  rw [e1, e2]
theorem Stm.get_h (s : Stm) : (s.cells.drop 0).take 8 = u32s (lst s.h) := by
  unfold Stm.cells
  rw [List.drop_zero, List.take_append_of_le_length (by rw [lenH]; exact Nat.le_refl _), List.take_of_length_le (by rw [lenH]; exact Nat.le_refl _)]
theorem Stm.get_all (s : Stm) (hf : s.held.length = 64) : (s.cells.drop 8).take 64 = u8s s.held := by
  unfold Stm.cells
  rw [List.drop_append_of_le_length (by rw [lenH]; exact Nat.le_refl _), List.drop_of_length_le (by rw [lenH]; exact Nat.le_refl _), List.nil_append, List.take_append_of_le_length (by rw [u8s_length, hf]; exact Nat.le_refl _), List.take_of_length_le (by rw [u8s_length, hf]; exact Nat.le_refl _)]
theorem u8s_append (l m : List UInt8) : u8s (l ++ m) = u8s l ++ u8s m := by simp [u8s]
theorem u8s_take (l : List UInt8) (n : Nat) : (u8s l).take n = u8s (l.take n) := by simp [u8s, List.map_take]
theorem u8s_drop (l : List UInt8) (n : Nat) : (u8s l).drop n = u8s (l.drop n) := by simp [u8s, List.map_drop]
theorem Stm.copy_held (s : Stm) (hf : s.held.length = 64) (k : Nat) (c : List UInt8) (hk : k + c.length ≤ 64) : splice s.cells (8 + k) (u8s c) = ({ s with held := splice s.held k c } : Stm).cells := by
  unfold Stm.cells splice
  simp only
  have e1 : (u32s (lst s.h) ++ (u8s s.held ++ [Value.int .i64 s.n, Value.int .i64 s.len])).take (8 + k) = u32s (lst s.h) ++ u8s (s.held.take k) := by
    rw [List.take_append, lenH, List.take_of_length_le (by rw [lenH]; omega), Nat.add_sub_cancel_left, List.take_append_of_le_length (by rw [u8s_length]; omega), u8s_take]
  have e2 : (u32s (lst s.h) ++ (u8s s.held ++ [Value.int .i64 s.n, Value.int .i64 s.len])).drop (8 + k + (u8s c).length) = u8s (s.held.drop (k + c.length)) ++ [Value.int .i64 s.n, Value.int .i64 s.len] := by
    rw [List.drop_append, lenH, List.drop_of_length_le (by rw [lenH]; omega), List.nil_append, u8s_length, show 8 + k + c.length - 8 = k + c.length by omega, List.drop_append_of_le_length (by rw [u8s_length]; omega), u8s_drop]
  rw [e1, e2, u8s_append, u8s_append]
  simp only [List.append_assoc]

/-- A stream that may be: what is held, noughts behind it. -/
def can (h : St) (m : List UInt8) (L : Int) : Stm := ⟨h, m ++ List.replicate (64 - m.length) 0, m.length, L⟩
theorem can_held (h : St) (m : List UInt8) (L : Int) (hm : m.length ≤ 64) : (can h m L).held.length = 64 := by
  unfold can
  simp only
  rw [List.length_append, List.length_replicate]; omega
theorem can_copy (h : St) (m c : List UInt8) (L : Int) (hm : m.length + c.length ≤ 64) : splice (can h m L).held m.length c = (can h (m ++ c) L).held := by
  unfold can splice
  simp only
  rw [List.take_append_of_le_length (Nat.le_refl _), List.take_of_length_le (Nat.le_refl _), List.drop_append, List.drop_of_length_le (by omega), List.nil_append, Nat.add_sub_cancel_left, List.drop_replicate, List.append_assoc, List.length_append]
  congr 3
  omega
theorem can_grown (h : St) (m c : List UInt8) (L : Int) (hm : m.length + c.length ≤ 64) : ({ ({ can h m L with held := splice (can h m L).held m.length c } : Stm) with n := ((m.length + c.length : Nat) : Int) } : Stm) = can h (m ++ c) L := by
  rw [can_copy h m c L hm]
  unfold can
  simp
theorem can_full (h : St) (M : List UInt8) (L : Int) (hM : M.length = 64) : (can h M L).held = M := by
  unfold can
  simp [hM]
theorem can_empty (h h' : St) (M : List UInt8) (L : Int) : ({ ({ ({ can h M L with h := h' } : Stm) with held := List.replicate 64 0 } : Stm) with n := 0 } : Stm) = can h' [] L := by
  unfold can
  simp
theorem run_block (h : St) (M R : List UInt8) (hM : M.length = 64) : run blk h (M ++ R) = run blk (blk h M) R := by
  rw [run_step blk h (M ++ R) (by rw [List.length_append]; omega), List.take_append_of_le_length (by omega), List.take_of_length_le (by omega), List.drop_append_of_le_length (by omega), List.drop_of_length_le (by omega), List.nil_append]
theorem rest_block (M R : List UInt8) (hM : M.length = 64) : rest (M ++ R) = rest R := by
  rw [rest_step (M ++ R) (by rw [List.length_append]; omega), List.drop_append_of_le_length (by omega), List.drop_of_length_le (by omega), List.nil_append]
theorem chunked (m b : List UInt8) (c q : Nat) : m ++ b.drop c = (m ++ (b.drop c).take q) ++ b.drop (c + q) := by
  rw [List.append_assoc, ← List.drop_drop, List.take_append_drop]
theorem blk_ok (h : St) (l : List UInt8) : Ok8 (blk h l) := plus_ok _ _
end Go.Proofs.YtmldhnghfdhjmaaDoor
