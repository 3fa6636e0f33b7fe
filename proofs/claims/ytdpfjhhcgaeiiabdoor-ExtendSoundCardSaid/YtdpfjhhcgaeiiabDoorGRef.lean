/-
  MERGED: ShaC, Block, Blocks, RefStm, RefAdd, RefAdd2, RefEnd, RefSum.
  CONDITIONS: each theorem's own hypotheses.
-/
import Derived.Test.YtdpfjhhcgaeiiabDoorGSha
import Derived.Test.YtdpfjhhcgaeiiabDoorGReg
import Derived.Test.YtdpfjhhcgaeiiabDoorGSum
import Derived.Test.YtdpfjhhcgaeiiabDoorGBase

/-! CONTRACT of the reference's schedule: the words of a block. CONDITIONS: each theorem's own hypotheses. -/
namespace Go.Proofs.YtdpfjhhcgaeiiabDoor
open Go.RowKit CodeMath
set_option linter.unusedVariables false

def lenS (v : Value) : Nat := match v with
  | .slice _ n _ => n
  | _ => 0
theorem below_drewN {B : Nat} {a w : World} (h : Below B a w) (n : Nat) : Below B a (w.drewN n) := ⟨h.os, h.tape, h.output, h.size, h.block⟩
def SchedOk (l : List UInt8) (w : World) (e : Ending) (w' : World) : Prop := ∃ v', e = .returned v' ∧ OwnW w' w.heap.size v' (ShaMath.sched l) ∧ Below w.heap.size w w'
theorem ext16 (l : List UInt8) (m : Nat) (h16 : 16 ≤ m) : (ShaMath.extend (m - 16) (ShaMath.words 16 l)).length = m := by
  rw [extend_length, words_length]; omega
theorem OwnW.cell' {w : World} {base g cap m : Nat} {l : List Nat} (h : OwnW w base (.slice (some ⟨g, 0, none⟩) m cap) l) (hm : l.length = m) (j : Nat) (hj : j < m) : w.cell? ⟨g, j, none⟩ = some (.int .u32 (l.getD j 0 : Nat)) := by
  subst hm; exact h.cell j hj
theorem next_sum (l : List UInt8) (m a b c d s1 s0 N : Nat) (h16 : 16 ≤ m)
    (ha : (ShaMath.extend (m - 16) (ShaMath.words 16 l)).getD (m - 2) 0 = a) (hb : (ShaMath.extend (m - 16) (ShaMath.words 16 l)).getD (m - 7) 0 = b) (hc : (ShaMath.extend (m - 16) (ShaMath.words 16 l)).getD (m - 15) 0 = c) (hd : (ShaMath.extend (m - 16) (ShaMath.words 16 l)).getD (m - 16) 0 = d)
    (h1 : ShaMath.small1 a = s1) (h0 : ShaMath.small0 c = s0) (hN : ShaMath.nextW (ShaMath.extend (m - 16) (ShaMath.words 16 l)) = N) : ((d : Int) + b + s0 + s1) % 4294967296 = (N : Int) := by
  unfold ShaMath.nextW at hN
  rw [ext16 l m h16, ha, hb, hc, hd, h1, h0] at hN
  unfold ShaMath.w32 at hN
  omega
end Go.Proofs.YtdpfjhhcgaeiiabDoor

/-! CONTRACT of the reference's block: a block worked in. CONDITIONS: each theorem's own hypotheses. -/
namespace Go.Proofs.YtdpfjhhcgaeiiabDoor
open Go.RowKit CodeMath
set_option linter.unusedVariables false

theorem choice_or (h : ShaMath.St) (o : Ok8 h) : bits .or .u32 (bits .and .u32 (h.t : Int) (h.u : Int)) (bits .and .u32 (bits .xor .u32 (if IntKind.u32.signed = true then -1 else IntKind.u32.max) (h.t : Int)) (h.v : Int)) = ((choice h : Nat) : Int) := by
  rw [show (if IntKind.u32.signed = true then (-1 : Int) else IntKind.u32.max) = ((4294967295 : Nat) : Int) from rfl, u32_xor_nat _ _ (by decide) o.t, not_nat _ o.t, u32_and_nat _ _ o.t o.u, u32_and_nat _ _ (by omega) o.v, u32_or_nat _ _ (and_lt _ _ o.t) (and_lt _ _ (by omega))]
  rfl
theorem most_or (h : ShaMath.St) (o : Ok8 h) : bits .or .u32 (bits .or .u32 (bits .and .u32 (h.p : Int) (h.q : Int)) (bits .and .u32 (h.p : Int) (h.r : Int))) (bits .and .u32 (h.q : Int) (h.r : Int)) = ((most h : Nat) : Int) := by
  rw [u32_and_nat _ _ o.p o.q, u32_and_nat _ _ o.p o.r, u32_and_nat _ _ o.q o.r, u32_or_nat _ _ (and_lt _ _ o.p) (and_lt _ _ o.p), u32_or_nat _ _ (Nat.or_lt_two_pow (n := 32) (and_lt _ _ o.p) (and_lt _ _ o.p)) (and_lt _ _ o.q)]
  rfl
theorem one_wrap (h : ShaMath.St) (k w : Nat) : (((((h.x : Int) + (ShaMath.big1 h.t : Nat)) % 4294967296 + (choice h : Nat)) % 4294967296 + (k : Nat)) % 4294967296 + (w : Nat)) % 4294967296 = ((ShaMath.one h k w : Nat) : Int) := by
  rw [← one_sum]
  omega
end Go.Proofs.YtdpfjhhcgaeiiabDoor

/-! CONTRACT of the reference's blocks: all whole blocks worked in. CONDITIONS: each theorem's own hypotheses. -/
namespace Go.Proofs.YtdpfjhhcgaeiiabDoor
open Go.RowKit CodeMath
set_option linter.unusedVariables false

theorem cut_to (l : List UInt8) (j : Nat) (y : Int) (hy : y = j) (hj : j ≤ l.length) (w : World) :
    (Instr.slice 9 (.string (str l)) none (some (.int .i64 y)) none).run Tryd.prog w = .ok (.string (str (l.take j))) w := by
  subst hy
  rw [run_slice_string_to_if (h := Tryd.underlying9), if_pos ⟨by omega, by rw [str_size]; omega⟩, Int.toNat_natCast, str_extract l 0 j (Nat.zero_le _)]
  rfl
theorem cut_from (l : List UInt8) (i : Nat) (x : Int) (hx : x = i) (hi : i ≤ l.length) (w : World) :
    (Instr.slice 9 (.string (str l)) (some (.int .i64 x)) none none).run Tryd.prog w = .ok (.string (str (l.drop i))) w := by
  subst hx
  rw [run_slice_string_from_if (h := Tryd.underlying9), if_pos ⟨by omega, by rw [str_size]; omega⟩, Int.toNat_natCast, str_size, str_extract l i _ hi, List.take_of_length_le (by rw [List.length_drop]; exact Nat.le_refl _)]
def sizeS (v : Value) : Nat := match v with
  | .string s => s.size
  | _ => 0
theorem whole8 (g : ShaMath.St) (hz : (u32s (lst g)).length = 8) (x : Nat) (hx : x = 8) : (List.take 0 (u32s (List.replicate 8 0)) ++ (u32s (lst g) ++ List.drop (0 + x) (u32s (List.replicate 8 0)))) = u32s (lst g) := by
  subst hx; rfl
end Go.Proofs.YtdpfjhhcgaeiiabDoor

/-! CONTRACTS of the reference's Begun, badStream, heldOf, and big of any size. CONDITIONS: each theorem's own hypotheses. -/
namespace Go.Proofs.YtdpfjhhcgaeiiabDoor
open Go.RowKit CodeMath
set_option linter.unusedVariables false
set_option maxRecDepth 100000

def begC (i : Nat) : List Value := u32s ((lst ShaMath.h0).take i ++ List.replicate (8 - i) 0) ++ (u8s (List.replicate 64 0) ++ [.int .i64 0, .int .i64 0])
theorem begC_set (i : Nat) (hi : i < 8) : (begC i).set i (.int .u32 ((lst ShaMath.h0).getD i 0 : Nat)) = begC (i + 1) := by
  rcases (show i = 0 ∨ i = 1 ∨ i = 2 ∨ i = 3 ∨ i = 4 ∨ i = 5 ∨ i = 6 ∨ i = 7 by omega) with rfl | rfl | rfl | rfl | rfl | rfl | rfl | rfl <;> rfl
theorem begC_len (i : Nat) (hi : i ≤ 8) : (begC i).length = 74 := by
  unfold begC
  rw [List.length_append, u32s_length, List.length_append, List.length_take, lst_length, List.length_replicate, List.length_append, u8s_length, List.length_replicate]
  simp only [List.length_cons, List.length_nil]
  omega
theorem begC_end : begC 8 = (can ShaMath.h0 [] 0).cells := rfl
/-! ### badStream -/
theorem all_take_drop (l : List UInt8) (n i : Nat) (c : UInt8) (h : l[i]? = some c) (hz : n ≤ i → c = 0) (ha : ((l.take i).drop n).all (· == 0) = true) : ((l.take (i + 1)).drop n).all (· == 0) = true := by
  have hi := (List.getElem?_eq_some_iff.1 h).1
  have hc := (List.getElem?_eq_some_iff.1 h).2
  rw [List.take_succ_eq_append_getElem hi, hc, List.drop_append, List.all_append, ha, Bool.true_and]
  rw [List.length_take, Nat.min_eq_left (by omega)]
  by_cases hn : n ≤ i
  · rw [hz hn, show n - i = 0 by omega]; rfl
  · rw [List.drop_of_length_le (by simp; omega)]; rfl
end Go.Proofs.YtdpfjhhcgaeiiabDoor

/-! CONTRACTS of the reference's heldOf and Added. CONDITIONS: each theorem's own hypotheses. -/
namespace Go.Proofs.YtdpfjhhcgaeiiabDoor
open Go.RowKit CodeMath
set_option linter.unusedVariables false
set_option maxRecDepth 100000

/-- x[:], x an array of 64 bytes in a block. -/
theorem slice_all64 (b o : Nat) (W : World) : (Instr.sliceAt 117 (.pointer (some ⟨b, o, none⟩)) none none none).run Tryd.prog W = .ok (.slice (some ⟨b, o, none⟩) 64 64) W := by
  have hs : (sizeOf (Tryd.prog.elem 117)).run Tryd.prog W = .ok 1 W := by kernel_rfl
  have hl : Tryd.prog.arrayLen 117 = 64 := by kernel_rfl
  have h := run_sliceAt_array_all (P := Tryd.prog) W 117 ⟨b, o, none⟩ (by kernel_rfl)
  rw [h, hs, hl]
  simp [Result.andThen, slicedAt, Addr.add]
theorem bytes_of_blk {w : World} {g : Nat} {T : TypeId} {l : List UInt8} (h : Blk w g T (u8s l)) : Bytes w (some ⟨g, 0, none⟩) l :=
  .inr ⟨g, 0, rfl, h.lt, fun j x hx => by rw [Nat.zero_add]; exact h.cell (u8s_get hx)⟩
/-! ### Added -/
theorem detV_build {P : Program} {o : Oper} {a : Act} {w : World} (t : TypeId) (parts : Array (Nat × Operand)) (ho : o.op = .build t parts) {V : Array Value} (hV : P.built t (parts.map fun (i, x) => (i, a.eval x)).toList = some V) : DetV P (.agg V) w ((execOp a.eval o).run P w) := by
  have e : (execOp a.eval o).run P w = .ok (.value (.agg V)) w := by
    unfold execOp
    simp only [ho, Sem.run_bind, run_build w t _ V hV, Result.andThen_ok]
    rfl
  rw [e]
  exact ⟨rfl, Below.refl _ _⟩
theorem Stm.set_held_at (s : Stm) (hf : s.held.length = 64) (i : Nat) (hi : i < 64) (c : UInt8) : s.cells.set (8 + i) (.int .u8 (c.toNat : Nat)) = ({ s with held := s.held.set i c } : Stm).cells := by
  unfold Stm.cells
  rw [List.set_append_right _ _ (by rw [lenH]; omega), lenH, Nat.add_sub_cancel_left, List.set_append_left _ _ (by rw [u8s_length, hf]; exact hi), u8s_set]
/-- So many bytes, noughts behind them. -/
def fill64 (r : List UInt8) (i : Nat) : List UInt8 := r.take i ++ List.replicate (64 - i) 0
theorem fill64_length (r : List UInt8) (i : Nat) (h : i ≤ r.length) (h64 : i ≤ 64) : (fill64 r i).length = 64 := by
  unfold fill64; rw [List.length_append, List.length_take, List.length_replicate]; omega
theorem fill64_set (r : List UInt8) (i : Nat) (c : UInt8) (h : r[i]? = some c) (h64 : i < 64) : (fill64 r i).set i c = fill64 r (i + 1) := by
  have hi := (List.getElem?_eq_some_iff.1 h).1
  have hc := (List.getElem?_eq_some_iff.1 h).2
  unfold fill64
  rw [List.take_succ_eq_append_getElem hi, hc, List.set_append_right _ _ (by rw [List.length_take]; omega), List.length_take, Nat.min_eq_left (by omega), Nat.sub_self, show 64 - i = (64 - (i + 1)) + 1 by omega, List.replicate_succ, List.set_cons_zero]
  simp
theorem rest_from (l : List UInt8) : ShaMath.rest l = l.drop (l.length - l.length % 64) := by
  unfold ShaMath.rest
  congr 1
  omega
end Go.Proofs.YtdpfjhhcgaeiiabDoor

/-! CONTRACT of the reference's Added where a stream may be and has room. CONDITIONS: the theorem's own hypotheses. -/
namespace Go.Proofs.YtdpfjhhcgaeiiabDoor
open Go.RowKit CodeMath
set_option linter.unusedVariables false
set_option maxRecDepth 100000

end Go.Proofs.YtdpfjhhcgaeiiabDoor

/-! CONTRACTS of the reference's big of any size, ended, Ended, Summed. CONDITIONS: each theorem's own hypotheses. -/
namespace Go.Proofs.YtdpfjhhcgaeiiabDoor
open Go.RowKit CodeMath
set_option linter.unusedVariables false
set_option maxRecDepth 100000

/-- The bytes of the first words. -/
def bytesN (g : ShaMath.St) (i : Nat) : List UInt8 := ((lst g).take i).flatMap fun x => be (x : Nat) 4
theorem bytesN_succ (g : ShaMath.St) (i : Nat) (hi : i < 8) : bytesN g i ++ be ((lst g).getD i 0 : Nat) 4 = bytesN g (i + 1) := by
  rcases (show i = 0 ∨ i = 1 ∨ i = 2 ∨ i = 3 ∨ i = 4 ∨ i = 5 ∨ i = 6 ∨ i = 7 by omega) with rfl | rfl | rfl | rfl | rfl | rfl | rfl | rfl <;> simp [bytesN, lst]
theorem bytesN_end (g : ShaMath.St) : bytesN g 8 = g.bytes := by simp [bytesN, lst, ShaMath.St.bytes]
theorem bytesN_length (g : ShaMath.St) (i : Nat) : (bytesN g i).length ≤ 32 := by
  unfold bytesN
  rw [List.length_flatMap]
  simp only [be_length]
  rw [List.map_const', List.sum_replicate_nat, List.length_take, lst_length]
  omega
theorem lst_lt (g : ShaMath.St) (o : Ok8 g) (i : Nat) (hi : i < 8) : (lst g).getD i 0 < 4294967296 := by
  rcases (show i = 0 ∨ i = 1 ∨ i = 2 ∨ i = 3 ∨ i = 4 ∨ i = 5 ∨ i = 6 ∨ i = 7 by omega) with rfl | rfl | rfl | rfl | rfl | rfl | rfl | rfl
  · exact o.p
  · exact o.q
  · exact o.r
  · exact o.s
  · exact o.t
  · exact o.u
  · exact o.v
  · exact o.x
def padL (m : List UInt8) (j : Nat) : List UInt8 := m ++ 128 :: List.replicate j 0
theorem padL_length (m : List UInt8) (j : Nat) : (padL m j).length = m.length + 1 + j := by simp [padL]; omega
theorem padL_succ (m : List UInt8) (j : Nat) : padL m j ++ [0] = padL m (j + 1) := by
  unfold padL
  rw [List.append_assoc, List.cons_append, ← List.replicate_succ']
end Go.Proofs.YtdpfjhhcgaeiiabDoor

/-! CONTRACTS of the reference's Ended and Summed. CONDITIONS: each theorem's own hypotheses. -/
namespace Go.Proofs.YtdpfjhhcgaeiiabDoor
open Go.RowKit CodeMath
set_option linter.unusedVariables false
set_option maxRecDepth 100000

/-- A canonical stream may be. -/
theorem can_good (h : ShaMath.St) (m : List UInt8) (L : Int) (hm : m.length < 64) (h0 : 0 ≤ L) (h1 : L ≤ 1152921504606846976) (hL : (m.length : Int) = L % 64) : (can h m L).good = true := by
  rw [Stm.good_len _ ⟨h0, h1, hL⟩]
  unfold can
  simp only [Int.toNat_natCast]
  rw [List.drop_append_of_le_length (Nat.le_refl _), List.drop_of_length_le (Nat.le_refl _), List.nil_append, List.all_eq_true]
  intro x hx
  rw [(List.mem_replicate.1 hx).2]
  rfl
theorem can_fit (h : ShaMath.St) (o : Ok8 h) (m : List UInt8) (L : Int) (hm : m.length < 64) (h0 : 0 ≤ L) (h1 : L ≤ 1152921504606846976) : (can h m L).Fit :=
  ⟨o, can_held _ _ _ (by omega), by show _ ≤ (m.length : Int); omega, by show (m.length : Int) ≤ _; omega, by show _ ≤ L; omega, by show L ≤ _; omega⟩
end Go.Proofs.YtdpfjhhcgaeiiabDoor
