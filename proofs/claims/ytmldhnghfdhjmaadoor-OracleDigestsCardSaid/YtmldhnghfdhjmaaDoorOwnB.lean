/-
  SLICES OF BYTES of a call's own (for seats without stage 2's functions: the same names as in CodeA: never both in one seat).
  CONDITIONS: each theorem's own hypotheses.
-/
import Derived.Test.YtmldhnghfdhjmaaDoorStrA
import Derived.OwnWalk
import Derived.Laws.OwnMore
import Derived.Laws.AppendOwn
import Derived.Laws.AppendOwnNone
namespace Go.Proofs.YtmldhnghfdhjmaaDoor
open Go.RowKit CodeMath
set_option linter.unusedVariables false

/-- Bytes as cells. -/
def cellsB (l : List UInt8) : List Value := l.map fun x => .int .u8 x.toNat
theorem cellsB_length (l : List UInt8) : (cellsB l).length = l.length := by simp [cellsB]
theorem cellsB_append (l m : List UInt8) : cellsB (l ++ m) = cellsB l ++ cellsB m := by simp [cellsB]
/-- A slice of bytes of the call's own. -/
def OwnB (w : World) (base : Nat) (v : Value) (l : List UInt8) : Prop := w.ownsRow base 5 1 v l.length (cellsB l)
theorem infoB : (Tryd.prog.info? 5).map (fun i => (i.zero, i.size, i.bytes)) = some (some (.int .u8 0), 1, 1) := by kernel_rfl

theorem grown_trans {a b c : World} {row : Option Nat} (h : a.grownBy b row) (k : b.grownBy c row) : a.grownBy c row :=
  ⟨k.os.trans h.os, k.tape.trans h.tape, k.output.trans h.output, Nat.le_trans h.size k.size, fun i hi hn => (k.block i (Nat.lt_of_lt_of_le hi h.size) hn).trans (h.block i hi hn)⟩
theorem addr_zero (b : Nat) : (⟨b, 0, none⟩ : Addr).add 0 = ⟨b, 0, none⟩ := by simp [Addr.add]
/-- append(b, c), one byte. -/
theorem wpList_append_byte {ops : Array Oper} {rest : List Oper} {o : Oper} {a : Act} {Q : Exit → Act → World → Prop} {w : World} (hgd : o.guard = none) (s x : Operand)
    (ho : o.op = .call { callee := .builtin .append, args := #[s, x], argTypes := #[23, 23] }) (base : Nat) (v : Value) (l : List UInt8) (hs : a.eval s = v) (hown : OwnB w base v l)
    (c : Int) (b : UInt8) (m : Nat) (hx : a.eval x = .slice (some ⟨m, 0, none⟩) 1 1) (hm : m = w.heap.size) (hc : c = b.toNat) (hl : l.length ≤ 1000000) (hb : base ≤ w.heap.size)
    (h : ∀ v' w', OwnB w' base v' (l ++ [b]) → Below base w w' → w.grownBy w' v.ownBlock → wpList Tryd.prog ops Q rest (a.put o.dst v') w') : wpList Tryd.prog ops Q (o :: rest) a (w.alloc (.cells #[.int .u8 c] 5)) := by
  subst hm
  obtain ⟨i0, hi, hz0, hz1, hz2⟩ := info_parts infoB
  refine wpList_append_own _ hgd s x 23 ho base 5 i0 (.int .u8 0) 1 1 Tryd.underlying23 hi hz0 hz1 hz2 rfl (by decide) v l.length (cellsB l) hs (World.ownsRow.alloc hown _) ⟨w.heap.size, 0, none⟩ 1 1 [.int .u8 c] hx rfl ?_ ?_ (by unfold maxLen; omega) (by omega) (by simp; omega) ?_
  · intro j u hj
    match j, hj with
    | 0, hj =>
      simp at hj; subst hj
      rw [addr_zero, World.cell?_alloc_new]
      rfl
  · intro u hu
    simp at hu; subst hu; rfl
  · intro v' w' h1 h2 _
    refine h v' w' ?_ ?_ (grown_trans (World.grownBy_alloc w _ _) h2)
    · unfold OwnB
      rw [cellsB_append, List.length_append]
      show w'.ownsRow base 5 1 v' (l.length + 1) (cellsB l ++ [.int .u8 b.toNat])
      rw [← hc]; exact h1
    · exact ((Below.refl base w).alloc hb _).grown h2 (by simp; omega) (fun k hk => (hown.lt k hk).1)

/-- append(b, c, d), two bytes. -/
theorem wpList_append_two {ops : Array Oper} {rest : List Oper} {o : Oper} {a : Act} {Q : Exit → Act → World → Prop} {w : World} (hgd : o.guard = none) (s x : Operand)
    (ho : o.op = .call { callee := .builtin .append, args := #[s, x], argTypes := #[23, 23] }) (base : Nat) (v : Value) (l : List UInt8) (hs : a.eval s = v) (hown : OwnB w base v l)
    (c d : Int) (b e : UInt8) (m : Nat) (hx : a.eval x = .slice (some ⟨m, 0, none⟩) 2 2) (hm : m = w.heap.size) (hc : c = b.toNat) (hd : d = e.toNat) (hl : l.length ≤ 1000000) (hb : base ≤ w.heap.size)
    (h : ∀ v' w', OwnB w' base v' (l ++ [b, e]) → Below base w w' → w.grownBy w' v.ownBlock → wpList Tryd.prog ops Q rest (a.put o.dst v') w') : wpList Tryd.prog ops Q (o :: rest) a (w.alloc (.cells #[.int .u8 c, .int .u8 d] 5)) := by
  subst hm
  obtain ⟨i0, hi, hz0, hz1, hz2⟩ := info_parts infoB
  refine wpList_append_own _ hgd s x 23 ho base 5 i0 (.int .u8 0) 1 1 Tryd.underlying23 hi hz0 hz1 hz2 rfl (by decide) v l.length (cellsB l) hs (World.ownsRow.alloc hown _) ⟨w.heap.size, 0, none⟩ 2 2 [.int .u8 c, .int .u8 d] hx rfl ?_ ?_ (by unfold maxLen; omega) (by omega) (by simp; omega) ?_
  · intro j u hj
    match j, hj with
    | 0, hj =>
      simp at hj; subst hj
      rw [addr_zero, World.cell?_alloc_new]
      rfl
    | 1, hj =>
      simp at hj; subst hj
      rw [show (⟨w.heap.size, 0, none⟩ : Addr).add 1 = ⟨w.heap.size, 1, none⟩ by simp [Addr.add], World.cell?_alloc_new]
      rfl
  · intro u hu
    simp at hu; rcases hu with rfl | rfl <;> rfl
  · intro v' w' h1 h2 _
    refine h v' w' ?_ ?_ (grown_trans (World.grownBy_alloc w _ _) h2)
    · unfold OwnB
      rw [cellsB_append, List.length_append]
      show w'.ownsRow base 5 1 v' (l.length + 2) (cellsB l ++ [.int .u8 b.toNat, .int .u8 e.toNat])
      rw [← hc, ← hd]; exact h1
    · exact ((Below.refl base w).alloc hb _).grown h2 (by simp; omega) (fun k hk => (hown.lt k hk).1)


theorem below_step {B : Nat} {a b c : World} (h : Below B a b) (hB : B ≤ b.heap.size) (k : Below b.heap.size b c) : Below B a c := h.trans (k.mono hB)
theorem OwnB.keep {w w1 : World} {base : Nat} {v : Value} {l : List UInt8} (h : OwnB w base v l) (hb : Below w.heap.size w w1) : OwnB w1 base v l :=
  World.ownsRow.kept (row := none) h ⟨hb.os, hb.tape, hb.output, hb.size, fun k hk _ => hb.block k hk⟩ (by cases v.ownBlock <;> simp)
/-- What is owned are bytes. -/
theorem OwnB.bytes {w : World} {base g cap : Nat} {l : List UInt8} (h : OwnB w base (.slice (some ⟨g, 0, none⟩) l.length cap) l) : Bytes w (some ⟨g, 0, none⟩) l := by
  refine .inr ⟨g, 0, rfl, (h.lt g rfl).2, fun j x hx => ?_⟩
  have hj : j < l.length := (List.getElem?_eq_some_iff.1 hx).1
  have := World.ownsRow.cellAt h j (by omega)
  rw [Nat.zero_add, this]
  unfold cellsB
  rw [List.getElem?_map, hx]
  rfl
theorem bytes_lit (w : World) (x : Int) (c : UInt8) (hx : x = c.toNat) (T : TypeId) : Bytes (w.alloc (.cells #[.int .u8 x] T)) (some ⟨w.heap.size, 0, none⟩) [c] := by
  subst hx
  refine .inr ⟨w.heap.size, 0, rfl, by simp, fun j y hy => ?_⟩
  obtain rfl : j = 0 := by have := (List.getElem?_eq_some_iff.1 hy).1; simp at this; exact this
  simp at hy; subst hy
  rw [World.cell?_alloc_new]
  rfl
/-- append(s, x...), x bytes that came in. -/
theorem wpList_append_came {ops : Array Oper} {rest : List Oper} {o : Oper} {a : Act} {Q : Exit → Act → World → Prop} {w : World} (hgd : o.guard = none) (s x : Operand)
    (ho : o.op = .call { callee := .builtin .append, args := #[s, x], argTypes := #[23, 23] }) (base : Nat) (v : Value) (l : List UInt8) (hs : a.eval s = v) (hown : OwnB w base v l)
    (m : List UInt8) (ao : Option Addr) (cap : Nat) (hx : a.eval x = .slice ao m.length cap) (h2 : Bytes w ao m) (hn : ao = none → cap = 0) (hl : l.length + m.length ≤ 140737488351232) (hb : base ≤ w.heap.size)
    (h : ∀ v' w', OwnB w' base v' (l ++ m) → Below base w w' → wpList Tryd.prog ops Q rest (a.put o.dst v') w') : wpList Tryd.prog ops Q (o :: rest) a w := by
  obtain ⟨i0, hi, hz0, hz1, hz2⟩ := info_parts infoB
  cases ao with
  | none =>
    obtain rfl : cap = 0 := hn rfl
    have hm : m = [] := by
      rcases h2 with h | ⟨_, _, h, _⟩
      · exact h
      · cases h
    subst hm
    refine wpList_append_own_none hgd s x 23 ho base 5 i0 1 Tryd.underlying23 hi v l.length (cellsB l) hs hown hx (h v w ?_ (Below.refl _ _))
    rw [List.append_nil]; exact hown
  | some ad =>
    refine wpList_append_own _ hgd s x 23 ho base 5 i0 (.int .u8 0) 1 1 Tryd.underlying23 hi hz0 hz1 hz2 rfl (by decide) v l.length (cellsB l) hs hown ad m.length cap (cellsB m) hx (by rw [cellsB_length, Nat.mul_one]) ?_ ?_ (by unfold maxLen; omega) (by omega) hb ?_
    · intro j u hj
      rcases h2 with h | ⟨p, q, h, _, hc⟩
      · rw [h] at hj; simp [cellsB] at hj
      · simp only [Option.some.injEq] at h
        subst h
        unfold cellsB at hj
        rw [List.getElem?_map] at hj
        cases hv : m[j]? with
        | none => rw [hv] at hj; cases hj
        | some c =>
          rw [hv] at hj
          simp only [Option.map_some, Option.some.injEq] at hj
          rw [← hj, show (⟨p, q, none⟩ : Addr).add j = ⟨p, q + j, none⟩ by unfold Addr.add; split <;> simp_all]
          exact hc j c hv
    · intro u hu
      obtain ⟨x, _, rfl⟩ := List.mem_map.1 hu
      rfl
    · intro v' w' h1 hg _
      refine h v' w' ?_ ((Below.refl base w).grown hg hb (fun k hk => (hown.lt k hk).1))
      unfold OwnB
      rw [cellsB_append, List.length_append]
      exact h1
theorem ownB_fresh (w : World) (base : Nat) (hb : base ≤ w.heap.size) : OwnB (w.alloc (.cells #[] 5)) base (.slice (some ⟨w.heap.size, 0, none⟩) 0 0) [] :=
  World.ownsRow_lit w #[] 0 hb (by unfold maxLen; omega) rfl
end Go.Proofs.YtmldhnghfdhjmaaDoor
