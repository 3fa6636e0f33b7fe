/-
  append(rows, more...), at an operation, in whatever world.
  CONDITIONS: each theorem's own hypotheses.
-/
import Derived.Test.YtcnemacakjemjaaDoorRegG
import Derived.Test.YtcnemacakjemjaaDoorRowT
import Derived.Laws.OwnMore
import Derived.Maps.AppendAt
import Derived.RegionTactic
namespace Go.Proofs.YtcnemacakjemjaaDoor
open Go.RowKit CodeMath
set_option linter.unusedVariables false
set_option maxRecDepth 100000

/-- Lines whose rows lie in blocks of bytes. -/
def LinesT (w : World) (ap : Option Addr) (rows : List (List UInt8)) : Prop := rows = [] ∨ ∃ a o, ap = some ⟨a, o, none⟩ ∧ a < w.heap.size ∧ ∀ (i : Nat) (l : List UInt8), rows[i]? = some l → ∃ u : Value, w.cell? ⟨a, o + i, none⟩ = some u ∧ RowT w u l
theorem LinesT.keep {w w' : World} {ap : Option Addr} {rows : List (List UInt8)} (h : LinesT w ap rows) (hb : Below w.heap.size w w') : LinesT w' ap rows := by
  rcases h with h | ⟨a, o, h1, h2, h3⟩
  · exact .inl h
  · refine .inr ⟨a, o, h1, Nat.lt_of_lt_of_le h2 hb.size, fun i l hi => ?_⟩
    obtain ⟨u, k1, k2⟩ := h3 i l hi
    exact ⟨u, (hb.cell (p := ⟨a, o + i, none⟩) h2).trans k1, k2.keep hb⟩
theorem LinesT.take {w : World} {ap : Option Addr} {rows : List (List UInt8)} (h : LinesT w ap rows) (k : Nat) : LinesT w ap (rows.take k) := by
  rcases h with h | ⟨a, o, h1, h2, h3⟩
  · left; rw [h]; simp
  · exact .inr ⟨a, o, h1, h2, fun i l hi => h3 i l (by rw [List.getElem?_take] at hi; split at hi <;> simp_all)⟩
theorem OwnL.linesT {w : World} {base : Nat} {v : Value} {rows : List (List UInt8)} (h : OwnL w base v rows) : ∃ ap cap, v = .slice ap rows.length cap ∧ rows.length ≤ cap ∧ cap ≤ 9223372036854775807 ∧ (ap = none → cap = 0) ∧ LinesT w ap rows := by
  obtain ⟨us, h1, h2⟩ := h
  rcases h1.2 with ⟨rfl, h0⟩ | ⟨g, cap, cur, rfl, k1, k2, k3, k4, k5, k6⟩
  · exact ⟨none, 0, by rw [h0], by omega, by omega, fun _ => rfl, .inl (List.eq_nil_of_length_eq_zero h0)⟩
  · refine ⟨_, cap, rfl, k3, by unfold maxLen at k4; omega, (fun h => by cases h), .inr ⟨g, 0, rfl, (h1.lt g rfl).2, fun i l hi => ?_⟩⟩
    obtain ⟨u, q1, q2⟩ := h2 i l hi
    refine ⟨u, ?_, q2⟩
    have hil : i < rows.length := (List.getElem?_eq_some_iff.1 hi).1
    rw [← k6, List.getElem?_take_of_lt (by omega)] at q1
    rw [Nat.zero_add, cell_of_block k2]
    simpa using q1
theorem wp_append_rows {o : Oper} {a : Act} {K : Act → World → Prop} {Q : Exit → Act → World → Prop} {w : World} (s x : Operand)
    (ho : o.op = .call { callee := .builtin .append, args := #[s, x], argTypes := #[24, 24] }) (base : Nat) (v : Value) (rows : List (List UInt8)) (hs : a.eval s = v) (hown : OwnL w base v rows)
    (more : List (List UInt8)) (ap : Option Addr) (n cp : Nat) (hn : more.length = n) (hx : a.eval x = .slice ap n cp) (hnone : ap = none → cp = 0) (hnc : n ≤ cp) (hL : LinesT w ap more) (hl : rows.length + n ≤ 1000000) (hb : base ≤ w.heap.size)
    (h : ∀ v' w', OwnL w' base v' (rows ++ more) → w.grownBy w' v.ownBlock → K (a.put o.dst v') w') : o.wp Tryd.prog a w K Q := by
  subst hn
  obtain ⟨us, h1, h2⟩ := id hown
  obtain ⟨i0, hi, hz0, hz1, hz2⟩ := info_parts infoL
  cases ap with
  | none =>
    obtain rfl : cp = 0 := hnone rfl
    obtain rfl : more = [] := List.eq_nil_of_length_eq_zero (by omega)
    have hrun := run_append_owned_none (P := Tryd.prog) (w := w) base 24 o.type 37 i0 1 Tryd.underlying24 hi v rows.length us h1
    rw [show ([] : List (List UInt8)).length = 0 from rfl] at hx
    unfold Oper.wp execOp
    simp only [ho, resolve, invoke, builtin, Sem.run_bind, Sem.run_pure, Result.andThen_ok, List.map_toArray, List.map_cons, List.map_nil, hs, hx, hrun]
    refine h v w ?_ ⟨rfl, rfl, rfl, Nat.le_refl _, fun _ _ _ => rfl⟩
    rw [List.append_nil]; exact hown
  | some p =>
    have hex : ∃ news : List Value, news.length = more.length * 1 ∧ (∀ j u, news[j]? = some u → w.cell? (p.add j) = some u) ∧ (∀ (i : Nat) (l : List UInt8), more[i]? = some l → ∃ u : Value, news[i]? = some u ∧ RowT w u l) ∧ ∀ u ∈ news, u.oneCell' = true := by
      rcases hL with hL | ⟨ga, off, e, hga, hr⟩
      · subst hL
        exact ⟨[], rfl, by simp, by simp, by simp⟩
      · cases e
        have hrow : ∀ i, i < more.length → ∃ u : Value, w.cell? ⟨ga, off + i, none⟩ = some u ∧ ∃ l, more[i]? = some l ∧ RowT w u l := fun i hi => by
          obtain ⟨u, q1, q2⟩ := hr i more[i] (List.getElem?_eq_getElem hi)
          exact ⟨u, q1, _, List.getElem?_eq_getElem hi, q2⟩
        obtain ⟨news, n1, n2⟩ := row_list hrow
        refine ⟨news, by omega, fun j u hj => ?_, fun i l hi => ?_, fun u hu => ?_⟩
        · have := (n2 j u hj).1
          rw [show (⟨ga, off, none⟩ : Addr).add j = ⟨ga, off + j, none⟩ by unfold Addr.add; split <;> simp_all]
          exact this
        · have hil := (List.getElem?_eq_some_iff.1 hi).1
          obtain ⟨u, hu⟩ : ∃ u, news[i]? = some u := ⟨_, List.getElem?_eq_getElem (by omega)⟩
          obtain ⟨_, l', q1, q2⟩ := n2 i u hu
          rw [hi] at q1
          cases q1
          exact ⟨u, hu, q2⟩
        · obtain ⟨j, hj⟩ := List.mem_iff_getElem?.1 hu
          obtain ⟨_, l', _, q2⟩ := n2 j u hj
          obtain ⟨_, _, rfl, _⟩ := q2; rfl
    obtain ⟨news, n1, n2, n3, n4⟩ := hex
    obtain ⟨v', w', hr, k1, k2, _, _⟩ := run_append_own_at (P := Tryd.prog) w base 24 o.type 37 i0 (.slice none 0 0) 1 24 Tryd.underlying24 hi hz0 hz1 hz2 rfl (by decide) v rows.length us h1 p more.length cp news n1 n2 n4 (by unfold maxLen; omega) (by omega) hb
    unfold Oper.wp execOp
    simp only [ho, resolve, invoke, builtin, Sem.run_bind, Sem.run_pure, Result.andThen_ok, List.map_toArray, List.map_cons, List.map_nil, hs, hx, hr]
    have hty : ∀ b, v.ownBlock = some b → ∃ cur T fz, w.heap[b]? = some (.cells cur T fz) ∧ (T = 37 ∨ T = 24) := fun b hb => by
      obtain ⟨cur, fz, h⟩ := ownsRow_typed h1 b hb
      exact ⟨cur, _, fz, h, .inl rfl⟩
    refine h v' w' ⟨us ++ news, by rw [List.length_append]; exact k1, fun i l' hi' => ?_⟩ k2
    have hul : us.length = rows.length := by have := h1.1; omega
    by_cases hil : i < rows.length
    · rw [List.getElem?_append_left hil] at hi'
      obtain ⟨u', q1, q2⟩ := h2 i l' hi'
      exact ⟨u', by rw [List.getElem?_append_left (by omega)]; exact q1, q2.grown k2 hty⟩
    · rw [List.getElem?_append_right (by omega)] at hi'
      obtain ⟨u', q1, q2⟩ := n3 _ l' hi'
      exact ⟨u', by rw [List.getElem?_append_right (by omega), hul]; exact q1, q2.grown k2 hty⟩
end Go.Proofs.YtcnemacakjemjaaDoor
