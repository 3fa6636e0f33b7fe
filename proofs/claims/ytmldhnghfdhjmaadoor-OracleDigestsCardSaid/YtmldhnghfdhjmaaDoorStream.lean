/-
  STREAMS as cells, and the contract of package sum's isStream.
  CONDITIONS: each theorem's own hypotheses.
-/
import Derived.Test.YtmldhnghfdhjmaaDoorBytesOf
namespace Go.Proofs.YtmldhnghfdhjmaaDoor
open Go.RowKit CodeMath
set_option linter.unusedVariables false
set_option maxRecDepth 100000

/-- A stream. -/
structure Stm where
  h : ShaMath.St
  held : List UInt8
  n : Int
  len : Int
structure Stm.Fit (s : Stm) : Prop where
  h : Ok8 s.h
  held : s.held.length = 64
  n0 : -9223372036854775808 ≤ s.n
  n1 : s.n ≤ 9223372036854775807
  l0 : -9223372036854775808 ≤ s.len
  l1 : s.len ≤ 9223372036854775807
def Stm.cells (s : Stm) : List Value := u32s (lst s.h) ++ (u8s s.held ++ [.int .i64 s.n, .int .i64 s.len])
theorem Stm.cells_length (s : Stm) (hf : s.held.length = 64) : s.cells.length = 74 := by
  unfold Stm.cells
  rw [List.length_append, List.length_append, u32s_length, lst_length, u8s_length, hf]
  rfl
theorem Stm.get_held (s : Stm) (j : Nat) (c : UInt8) (h : s.held[j]? = some c) : s.cells[8 + j]? = some (.int .u8 c.toNat) := by
  unfold Stm.cells
  have hj := (List.getElem?_eq_some_iff.1 h).1
  rw [List.getElem?_append_right (by rw [u32s_length, lst_length]; omega), u32s_length, lst_length, Nat.add_sub_cancel_left, List.getElem?_append_left (by rw [u8s_length]; exact hj)]
  exact u8s_get h
theorem Stm.get_n (s : Stm) (hf : s.held.length = 64) : s.cells[72]? = some (.int .i64 s.n) := by
  unfold Stm.cells
  rw [List.getElem?_append_right (by rw [u32s_length, lst_length]; omega), u32s_length, lst_length, List.getElem?_append_right (by rw [u8s_length]; omega), u8s_length, hf]
  rfl
theorem Stm.get_len (s : Stm) (hf : s.held.length = 64) : s.cells[73]? = some (.int .i64 s.len) := by
  unfold Stm.cells
  rw [List.getElem?_append_right (by rw [u32s_length, lst_length]; omega), u32s_length, lst_length, List.getElem?_append_right (by rw [u8s_length]; omega), u8s_length, hf]
  rfl
/-- Whether a stream may be, but for its words. -/
def Stm.good (s : Stm) : Bool := decide (0 ≤ s.len) && decide (s.len ≤ 1152921504606846976) && decide (s.n = s.len % 64) && (s.held.drop s.n.toNat).all (· == 0)
theorem Stm.bad_len (s : Stm) (h : ¬ (0 ≤ s.len ∧ s.len ≤ 1152921504606846976 ∧ s.n = s.len % 64)) : s.good = false := by
  unfold Stm.good
  have e : (decide (0 ≤ s.len) && decide (s.len ≤ 1152921504606846976) && decide (s.n = s.len % 64)) = false := by
    rw [Bool.eq_false_iff]
    intro e
    simp only [Bool.and_eq_true, decide_eq_true_eq] at e
    exact h ⟨e.1.1, e.1.2, e.2⟩
  rw [e]; rfl
theorem Stm.good_len (s : Stm) (h : 0 ≤ s.len ∧ s.len ≤ 1152921504606846976 ∧ s.n = s.len % 64) : s.good = (s.held.drop s.n.toNat).all (· == 0) := by
  unfold Stm.good
  have e : (decide (0 ≤ s.len) && decide (s.len ≤ 1152921504606846976) && decide (s.n = s.len % 64)) = true := by
    simp only [Bool.and_eq_true, decide_eq_true_eq]
    exact ⟨⟨h.1, h.2.1⟩, h.2.2⟩
  rw [e, Bool.true_and]
theorem all_take (l : List UInt8) (i : Nat) (c : UInt8) (h : l[i]? = some c) : (l.take (i + 1)).all (· == 0) = ((l.take i).all (· == 0) && (c == 0)) := by
  have hi := (List.getElem?_eq_some_iff.1 h).1
  have hc := (List.getElem?_eq_some_iff.1 h).2
  rw [List.take_succ_eq_append_getElem hi, hc, List.all_append]
  simp
theorem all_here (l : List UInt8) (i : Nat) (c : UInt8) (h : l[i]? = some c) (hc : (c == 0) = false) : l.all (· == 0) = false := by
  rw [List.all_eq_false]
  exact ⟨c, List.mem_of_getElem? h, by simp [hc]⟩

/-- x[k:], x an array of 64 bytes in a block. -/
theorem slice_from (b o k : Nat) (hk : k < 64) (W : World) : (Instr.sliceAt 76 (.pointer (some ⟨b, o, none⟩)) (some (.int .i64 (k : Int))) none none).run Tryd.prog W = .ok (.slice (some ⟨b, o + k, none⟩) (64 - k) (64 - k)) W := by
  have h := run_sliceAt_array_l (P := Tryd.prog) W 76 ⟨b, o, none⟩ (by kernel_rfl) .i64 (k : Int) (by omega) (by show (k : Int) ≤ ((64 : Nat) : Int); omega)
  rw [h]
  have hs : (sizeOf (Tryd.prog.elem 76)).run Tryd.prog W = .ok 1 W := by kernel_rfl
  have hl : Tryd.prog.arrayLen 76 = 64 := by kernel_rfl
  rw [hs, hl]
  have hne : ¬ (64 = k) := by omega
  simp [Result.andThen, slicedAt, hne, Addr.add]
end Go.Proofs.YtmldhnghfdhjmaaDoor
