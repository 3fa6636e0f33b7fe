/-
  PEAKS that a call makes itself, in memory.
  CONDITIONS: each theorem's own hypotheses.
-/
import Derived.Test.YtdpfjhhcgaeiiaaDoorPeakP
import Derived.Test.YtdpfjhhcgaeiiaaDoorRowT
namespace Go.Proofs.YtdpfjhhcgaeiiaaDoor
open Go.RowKit CodeMath Go.Proofs.YtdpfjhhcgaeiiaaDoor.FrameMath
set_option linter.unusedVariables false
set_option maxRecDepth 100000

theorem ownsRow_shape {w : World} {base : Nat} {e : TypeId} {size : Nat} {v : Value} {n : Nat} {xs : List Value} (h : w.ownsRow base e size v n xs) (hn : 0 < n) : ∃ g cap, v = .slice (some ⟨g, 0, none⟩) n cap ∧ n ≤ cap ∧ cap ≤ 9223372036854775807 ∧ base ≤ g ∧ g < w.heap.size := by
  rcases h.2 with ⟨_, h0⟩ | ⟨g, cap, cur, hv, hb, hg, hc, hm, _⟩
  · omega
  · exact ⟨g, cap, hv, hc, by unfold maxLen at hm; omega, hb, (Array.getElem?_eq_some_iff.1 hg).1⟩
theorem infoPk : (Tryd.prog.info? 120).map (fun i => (i.zero, i.size, i.bytes)) = some (some (.agg #[.int .i64 0, .slice none 0 0]), 2, 32) := by kernel_rfl
theorem not_bytePk : ¬ ByteT 120 := by unfold ByteT; decide
/-- A slice of peaks of the call's own. -/
def OwnPk (w : World) (base : Nat) (v : Value) (ps : List Pk) : Prop := ∃ us : List Value, w.ownsRow base 120 2 v ps.length us ∧ ∀ (i : Nat) (p : Pk), ps[i]? = some p → ∃ u : Value, us[i * 2]? = some (.int .i64 ((2 ^ p.a : Nat) : Int)) ∧ us[i * 2 + 1]? = some u ∧ RowT w u p.r
theorem OwnPk.nil (w : World) (base : Nat) : OwnPk w base (.slice none 0 0) [] := ⟨[], World.ownsRow_nil _ _ _ _, fun i l h => by simp at h⟩
theorem OwnPk.keep {w w1 : World} {base : Nat} {v : Value} {l : List Pk} (h : OwnPk w base v l) (hb : Below w.heap.size w w1) : OwnPk w1 base v l := by
  obtain ⟨us, h1, h2⟩ := h
  refine ⟨us, World.ownsRow.kept (row := none) h1 ⟨hb.os, hb.tape, hb.output, hb.size, fun k hk _ => hb.block k hk⟩ (by cases v.ownBlock <;> simp), fun i x hi => ?_⟩
  obtain ⟨u, k1, k2, k3⟩ := h2 i x hi
  exact ⟨u, k1, k2, k3.keep hb⟩
theorem OwnPk.at {w : World} {base : Nat} {v : Value} {ps : List Pk} (h : OwnPk w base v ps) (i : Nat) (p : Pk) (hp : ps[i]? = some p) : ∃ g cap u, v = .slice (some ⟨g, 0, none⟩) ps.length cap ∧ ps.length ≤ cap ∧ cap ≤ 9223372036854775807 ∧ base ≤ g ∧ g < w.heap.size ∧ w.cell? ⟨g, i * 2, none⟩ = some (.int .i64 ((2 ^ p.a : Nat) : Int)) ∧ w.cell? ⟨g, i * 2 + 1, none⟩ = some u ∧ RowT w u p.r := by
  obtain ⟨us, h1, h2⟩ := h
  have hil := (List.getElem?_eq_some_iff.1 hp).1
  obtain ⟨g, cap, rfl, hc, hm, hb, hg⟩ := ownsRow_shape h1 (by omega)
  obtain ⟨u, k1, k2, k3⟩ := h2 i p hp
  exact ⟨g, cap, u, rfl, hc, hm, hb, hg, by rw [h1.cellAt _ (by omega)]; exact k1, by rw [h1.cellAt _ (by omega)]; exact k2, k3⟩
/-- All but the last one. -/
theorem OwnPk.pop {w : World} {base g n cap : Nat} {ps : List Pk} {p : Pk} (hn : ps.length = n) (h : OwnPk w base (.slice (some ⟨g, 0, none⟩) (n + 1) cap) (ps ++ [p])) : OwnPk w base (.slice (some ⟨g, 0, none⟩) n cap) ps := by
  obtain ⟨us, h1, h2⟩ := h
  have hl : (ps ++ [p]).length = n + 1 := by rw [List.length_append, hn]; rfl
  rw [hl] at h1
  rcases h1.2 with ⟨h0, _⟩ | ⟨g', cap', cur, e, k1, k2, k3, k4, k5, k6⟩
  · cases h0
  · obtain ⟨e1, _, e2⟩ := Value.slice.inj e
    simp only [Option.some.injEq, Addr.mk.injEq, and_true] at e1
    subst e1 e2
    refine ⟨us.take (n * 2), ⟨by rw [List.length_take, h1.1, hn]; omega, .inr ⟨g, cap, cur, by rw [hn], k1, k2, by omega, k4, k5, ?_⟩⟩, fun i q hq => ?_⟩
    · rw [← k6, List.take_take, hn]; congr 1; omega
    · have hil := (List.getElem?_eq_some_iff.1 hq).1
      obtain ⟨u, q1, q2, q3⟩ := h2 i q (by rw [List.getElem?_append_left hil]; exact hq)
      exact ⟨u, by rw [List.getElem?_take_of_lt (by omega)]; exact q1, by rw [List.getElem?_take_of_lt (by omega)]; exact q2, q3⟩
/-- append(peaks, p), one peak. -/
theorem wpList_append_peak {ops : Array Oper} {rest : List Oper} {o : Oper} {a : Act} {Q : Exit → Act → World → Prop} {w : World} (hgd : o.guard = none) (s x : Operand)
    (ho : o.op = .call { callee := .builtin .append, args := #[s, x], argTypes := #[118, 118] }) (base : Nat) (v : Value) (l : List Pk) (hs : a.eval s = v) (hown : OwnPk w base v l)
    (y : Pk) (c0 us : Value) (m : Nat) (hx : a.eval x = .slice (some ⟨m, 0, none⟩) 1 1) (hm : m = w.heap.size) (hc0 : c0 = .int .i64 ((2 ^ y.a : Nat) : Int)) (hus : RowT w us y.r) (hl : l.length ≤ 1000000) (hb : base ≤ w.heap.size)
    (h : ∀ v' w', OwnPk w' base v' (l ++ [y]) → Below base w w' → wpList Tryd.prog ops Q rest (a.put o.dst v') w') : wpList Tryd.prog ops Q (o :: rest) a (w.alloc (.cells #[c0, us] 120)) := by
  subst hm hc0
  obtain ⟨vs, h1, h2⟩ := hown
  obtain ⟨i0, hi, hz0, hz1, hz2⟩ := info_parts infoPk
  have o1 : us.oneCell' = true := by obtain ⟨_, _, rfl, _⟩ := hus; rfl
  refine wpList_append_own _ hgd s x 118 ho base 120 i0 _ 2 32 Tryd.underlying118 hi hz0 hz1 hz2 rfl (by decide) v l.length vs hs (World.ownsRow.alloc h1 _) ⟨w.heap.size, 0, none⟩ 1 1 [.int .i64 ((2 ^ y.a : Nat) : Int), us] hx rfl ?_ ?_ (by unfold maxLen; omega) (by omega) (by simp; omega) ?_
  · intro j u' hj
    have hj3 : j < 2 := by have := (List.getElem?_eq_some_iff.1 hj).1; simpa using this
    have haa : (⟨w.heap.size, 0, none⟩ : Addr).add j = ⟨w.heap.size, j, none⟩ := by unfold Addr.add; split <;> simp_all
    rw [haa, World.cell?_alloc_new]
    rcases (show j = 0 ∨ j = 1 by omega) with rfl | rfl <;> exact hj
  · intro u' hu'
    simp at hu'
    rcases hu' with rfl | rfl
    · rfl
    · exact o1
  · intro v' w' k1 k2 _
    have hg0 : w.grownBy w' v.ownBlock := grown_trans (World.grownBy_alloc w _ _) k2
    have hty : ∀ b, v.ownBlock = some b → ∃ cur T fz, w.heap[b]? = some (.cells cur T fz) ∧ ¬ ByteT T := fun b hb => by
      obtain ⟨cur, fz, h⟩ := ownsRow_typed h1 b hb
      exact ⟨cur, _, fz, h, not_bytePk⟩
    refine h v' w' ⟨vs ++ [.int .i64 ((2 ^ y.a : Nat) : Int), us], by rw [List.length_append]; exact k1, fun i z hi' => ?_⟩ ?_
    · have hul : vs.length = l.length * 2 := by have := h1.1; omega
      by_cases hil : i < l.length
      · rw [List.getElem?_append_left hil] at hi'
        obtain ⟨q, q1, q2, q3⟩ := h2 i z hi'
        exact ⟨q, by rw [List.getElem?_append_left (by omega)]; exact q1, by rw [List.getElem?_append_left (by omega)]; exact q2, q3.grownT hg0 hty⟩
      · rw [List.getElem?_append_right (by omega)] at hi'
        have hi0 : i - l.length = 0 := by
          rcases Nat.eq_zero_or_pos (i - l.length) with h0 | h0
          · exact h0
          · rw [List.getElem?_eq_none (by simp; omega)] at hi'; cases hi'
        rw [hi0] at hi'
        simp only [List.getElem?_cons_zero, Option.some.injEq] at hi'
        subst hi'
        refine ⟨us, ?_, ?_, hus.grownT hg0 hty⟩
        · rw [List.getElem?_append_right (by omega), show i * 2 - vs.length = 0 by omega]; rfl
        · rw [List.getElem?_append_right (by omega), show i * 2 + 1 - vs.length = 1 by omega]; rfl
    · exact ((Below.refl base w).alloc hb _).grown k2 (by simp; omega) (fun k hk => (h1.lt k hk).1)
end Go.Proofs.YtdpfjhhcgaeiiaaDoor
