/-
  ROWS OF LINES that a call makes itself: slices of slices of bytes of the call's own.
  CONDITIONS: each theorem's own hypotheses.
-/
import Derived.Test.YtcnemacakjemjaaDoorOpenL
namespace Go.Proofs.YtcnemacakjemjaaDoor
open Go.RowKit CodeMath
set_option linter.unusedVariables false

theorem RowV.keep {w w' : World} {u : Value} {l : List UInt8} (h : RowV w u l) (hb : Below w.heap.size w w') : RowV w' u l := by
  obtain ⟨ao, cap, h1, h2, h3, h4, h5⟩ := h
  exact ⟨ao, cap, h1, h2, h3, h4, h5.keep hb⟩
/-- What a block of bytes is of. -/
def ByteT (T : TypeId) : Prop := T = 5 ∨ T = 68
/-- A slice of bytes whose block is one of bytes. -/
def RowT (w : World) (u : Value) (l : List UInt8) : Prop := ∃ ao cap, u = .slice ao l.length cap ∧ l.length ≤ cap ∧ cap ≤ 9223372036854775807 ∧ (ao = none → cap = 0) ∧ (l = [] ∨ ∃ (g : Nat) (cur : Array Value) (T : TypeId) (fz : Nat × Nat), ao = some ⟨g, 0, none⟩ ∧ w.heap[g]? = some (.cells cur T fz) ∧ ByteT T ∧ ∀ (j : Nat) (x : UInt8), l[j]? = some x → cur[j]? = some (Value.int .u8 x.toNat))
theorem cell_of_block {w : World} {g : Nat} {cur : Array Value} {T : TypeId} {fz : Nat × Nat} (h : w.heap[g]? = some (.cells cur T fz)) (j : Nat) : w.cell? ⟨g, j, none⟩ = cur[j]? := by
  unfold World.cell?
  simp [h]
theorem RowT.row {w : World} {u : Value} {l : List UInt8} (h : RowT w u l) : RowV w u l := by
  obtain ⟨ao, cap, h1, h2, h3, h4, h5⟩ := h
  refine ⟨ao, cap, h1, h2, h3, h4, ?_⟩
  rcases h5 with h5 | ⟨g, cur, T, fz, rfl, hg, _, hc⟩
  · exact .inl h5
  · refine .inr ⟨g, 0, rfl, (Array.getElem?_eq_some_iff.1 hg).1, fun j x hx => ?_⟩
    rw [Nat.zero_add, cell_of_block hg]
    exact hc j x hx
theorem RowT.grownT {w w' : World} {u : Value} {l : List UInt8} (h : RowT w u l) {row : Option Nat} (hg : w.grownBy w' row) (hr : ∀ b, row = some b → ∃ cur T fz, w.heap[b]? = some (.cells cur T fz) ∧ ¬ ByteT T) : RowT w' u l := by
  obtain ⟨ao, cap, h1, h2, h3, h4, h5⟩ := h
  refine ⟨ao, cap, h1, h2, h3, h4, ?_⟩
  rcases h5 with h5 | ⟨g, cur, T0, fz, rfl, hgc, hT, hc⟩
  · exact .inl h5
  · refine .inr ⟨g, cur, T0, fz, rfl, ?_, hT, hc⟩
    rw [hg.block g (Array.getElem?_eq_some_iff.1 hgc).1 (fun hh => ?_)]
    · exact hgc
    · obtain ⟨c2, T, f2, h6, h7⟩ := hr g hh.symm
      rw [hgc] at h6
      cases h6
      exact h7 hT
theorem not_byteL : ¬ ByteT 37 := by unfold ByteT; decide
theorem not_byteT : ¬ ByteT 24 := by unfold ByteT; decide
theorem RowT.grown {w w' : World} {u : Value} {l : List UInt8} (h : RowT w u l) {row : Option Nat} (hg : w.grownBy w' row) (hr : ∀ b, row = some b → ∃ cur T fz, w.heap[b]? = some (.cells cur T fz) ∧ (T = 37 ∨ T = 24)) : RowT w' u l :=
  h.grownT hg fun b hb => by
    obtain ⟨cur, T, fz, h1, h2⟩ := hr b hb
    refine ⟨cur, T, fz, h1, ?_⟩
    rcases h2 with rfl | rfl
    · exact not_byteL
    · exact not_byteT
theorem RowT.keep {w w' : World} {u : Value} {l : List UInt8} (h : RowT w u l) (hb : Below w.heap.size w w') : RowT w' u l :=
  h.grown (row := none) ⟨hb.os, hb.tape, hb.output, hb.size, fun k hk _ => hb.block k hk⟩ (fun _ h => by cases h)
theorem OwnB.rowT {w : World} {base : Nat} {v : Value} {l : List UInt8} (h : OwnB w base v l) : RowT w v l := by
  rcases h.2 with ⟨rfl, h0⟩ | ⟨g, cap, cur, rfl, h1, h2, h3, h4, h5, h6⟩
  · exact ⟨none, 0, by rw [h0], by omega, by omega, fun _ => rfl, .inl (List.eq_nil_of_length_eq_zero h0)⟩
  · refine ⟨_, cap, rfl, h3, by unfold maxLen at h4; omega, (fun h => by cases h), .inr ⟨g, cur, _, _, rfl, h2, .inl rfl, fun j x hx => ?_⟩⟩
    have hj : j < l.length := (List.getElem?_eq_some_iff.1 hx).1
    have e : (cellsB l)[j]? = some (.int .u8 x.toNat) := by unfold cellsB; rw [List.getElem?_map, hx]; rfl
    rw [← h6, List.getElem?_take_of_lt (by omega)] at e
    simpa using e
/-- A slice of lines of the call's own. -/
def OwnL (w : World) (base : Nat) (v : Value) (rows : List (List UInt8)) : Prop := ∃ us : List Value, w.ownsRow base 37 1 v rows.length us ∧ ∀ (i : Nat) (l : List UInt8), rows[i]? = some l → ∃ u : Value, us[i]? = some u ∧ RowT w u l
theorem infoL : (Tryd.prog.info? 37).map (fun i => (i.zero, i.size, i.bytes)) = some (some (.slice none 0 0), 1, 24) := by kernel_rfl
theorem ownsRow_typed {w : World} {base : Nat} {e : TypeId} {size : Nat} {v : Value} {n : Nat} {xs : List Value} (h : w.ownsRow base e size v n xs) (b : Nat) (hb : v.ownBlock = some b) : ∃ cur fz, w.heap[b]? = some (.cells cur e fz) := by
  rcases h.2 with ⟨rfl, _⟩ | ⟨g, cap, cur, rfl, _, h2, _⟩
  · cases hb
  · cases hb; exact ⟨_, _, h2⟩
theorem OwnL.keep {w w1 : World} {base : Nat} {v : Value} {l : List (List UInt8)} (h : OwnL w base v l) (hb : Below w.heap.size w w1) : OwnL w1 base v l := by
  obtain ⟨us, h1, h2⟩ := h
  refine ⟨us, World.ownsRow.kept (row := none) h1 ⟨hb.os, hb.tape, hb.output, hb.size, fun k hk _ => hb.block k hk⟩ (by cases v.ownBlock <;> simp), fun i l hi => ?_⟩
  obtain ⟨u, k1, k2⟩ := h2 i l hi
  exact ⟨u, k1, k2.keep hb⟩
theorem OwnL.base {w : World} {b b' : Nat} {v : Value} {l : List (List UInt8)} (h : OwnL w b v l) (hb : b' ≤ b) : OwnL w b' v l := by
  obtain ⟨us, h1, h2⟩ := h
  refine ⟨us, ⟨h1.1, ?_⟩, h2⟩
  rcases h1.2 with h | ⟨g, cap, cur, e, k1, k⟩
  · exact .inl h
  · exact .inr ⟨g, cap, cur, e, Nat.le_trans hb k1, k⟩
theorem OwnL.nil (w : World) (base : Nat) : OwnL w base (.slice none 0 0) [] := ⟨[], World.ownsRow_nil _ _ _ _, fun i l h => by simp at h⟩
theorem OwnL.lines {w : World} {base : Nat} {v : Value} {rows : List (List UInt8)} (h : OwnL w base v rows) : ∃ ao cap, v = .slice ao rows.length cap ∧ rows.length ≤ cap ∧ cap ≤ 9223372036854775807 ∧ (ao = none → cap = 0) ∧ Lines w ao rows := by
  obtain ⟨us, h1, h2⟩ := h
  rcases h1.2 with ⟨rfl, h0⟩ | ⟨g, cap, cur, rfl, k1, k2, k3, k4, k5, k6⟩
  · exact ⟨none, 0, by rw [h0], by omega, by omega, fun _ => rfl, .inl (List.eq_nil_of_length_eq_zero h0)⟩
  · refine ⟨_, cap, rfl, k3, by unfold maxLen at k4; omega, (fun h => by cases h), LinesV.lines (.inr ⟨g, 0, rfl, (h1.lt g rfl).2, fun i l hi => ?_⟩)⟩
    obtain ⟨u, q1, q2⟩ := h2 i l hi
    refine ⟨u, ?_, q2.row⟩
    have hil : i < rows.length := (List.getElem?_eq_some_iff.1 hi).1
    rw [← k6, List.getElem?_take_of_lt (by omega)] at q1
    rw [Nat.zero_add, cell_of_block k2]
    simpa using q1
/-- append(rows, l), one line. -/
theorem wpList_append_line {ops : Array Oper} {rest : List Oper} {o : Oper} {a : Act} {Q : Exit → Act → World → Prop} {w : World} (hgd : o.guard = none) (s x : Operand)
    (ho : o.op = .call { callee := .builtin .append, args := #[s, x], argTypes := #[24, 24] }) (base : Nat) (v : Value) (rows : List (List UInt8)) (hs : a.eval s = v) (hown : OwnL w base v rows)
    (u : Value) (l : List UInt8) (m : Nat) (hx : a.eval x = .slice (some ⟨m, 0, none⟩) 1 1) (hm : m = w.heap.size) (hu : RowT w u l) (hl : rows.length ≤ 1000000) (hb : base ≤ w.heap.size)
    (h : ∀ v' w', OwnL w' base v' (rows ++ [l]) → Below base w w' → wpList Tryd.prog ops Q rest (a.put o.dst v') w') : wpList Tryd.prog ops Q (o :: rest) a (w.alloc (.cells #[u] 37)) := by
  subst hm
  obtain ⟨us, h1, h2⟩ := hown
  obtain ⟨i0, hi, hz0, hz1, hz2⟩ := info_parts infoL
  have huo : u.oneCell' = true := by obtain ⟨_, _, rfl, _⟩ := hu; rfl
  refine wpList_append_own _ hgd s x 24 ho base 37 i0 (.slice none 0 0) 1 24 Tryd.underlying24 hi hz0 hz1 hz2 rfl (by decide) v rows.length us hs (World.ownsRow.alloc h1 _) ⟨w.heap.size, 0, none⟩ 1 1 [u] hx rfl ?_ ?_ (by unfold maxLen; omega) (by omega) (by simp; omega) ?_
  · intro j u' hj
    match j, hj with
    | 0, hj =>
      simp at hj; subst hj
      rw [addr_zero, World.cell?_alloc_new]
      rfl
  · intro u' hu'
    simp at hu'; subst hu'; exact huo
  · intro v' w' k1 k2 _
    have hg0 : w.grownBy w' v.ownBlock := grown_trans (World.grownBy_alloc w _ _) k2
    have hty : ∀ b, v.ownBlock = some b → ∃ cur T fz, w.heap[b]? = some (.cells cur T fz) ∧ (T = 37 ∨ T = 24) := fun b hb => by
      obtain ⟨cur, fz, h⟩ := ownsRow_typed h1 b hb
      exact ⟨cur, _, fz, h, .inl rfl⟩
    refine h v' w' ⟨us ++ [u], by rw [List.length_append]; exact k1, fun i l' hi' => ?_⟩ ?_
    · have hul : us.length = rows.length := by have := h1.1; omega
      by_cases hil : i < rows.length
      · rw [List.getElem?_append_left hil] at hi'
        obtain ⟨u', q1, q2⟩ := h2 i l' hi'
        exact ⟨u', by rw [List.getElem?_append_left (by omega)]; exact q1, q2.grown hg0 hty⟩
      · rw [List.getElem?_append_right (by omega)] at hi'
        have hi0 : i - rows.length = 0 := by
          rcases Nat.eq_zero_or_pos (i - rows.length) with h0 | h0
          · exact h0
          · rw [List.getElem?_eq_none (by simp; omega)] at hi'; cases hi'
        rw [hi0] at hi'
        simp only [List.getElem?_cons_zero, Option.some.injEq] at hi'
        subst hi'
        exact ⟨u, by rw [List.getElem?_append_right (by omega), show i - us.length = 0 by omega]; rfl, hu.grown hg0 hty⟩
    · exact ((Below.refl base w).alloc hb _).grown k2 (by simp; omega) (fun k hk => (h1.lt k hk).1)
end Go.Proofs.YtcnemacakjemjaaDoor
