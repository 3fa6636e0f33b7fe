/-
  ROWS WHOSE LINES LIE BELOW: append(rows, more...), at an operation and in the walk.
  CONDITIONS: each theorem's own hypotheses.
-/
import Derived.Test.YtcplnfaopigoiaaDoorAppL
namespace Go.Proofs.YtcplnfaopigoiaaDoor
open Go.RowKit CodeMath
set_option linter.unusedVariables false
set_option maxRecDepth 100000

def OwnV (w : World) (base : Nat) (w0 : World) (v : Value) (rows : List (List UInt8)) : Prop := ∃ us : List Value, w.ownsRow base 32 1 v rows.length us ∧ ∀ (i : Nat) (l : List UInt8), rows[i]? = some l → ∃ u : Value, us[i]? = some u ∧ RowV w0 u l
theorem OwnV.nil (w : World) (base : Nat) (w0 : World) : OwnV w base w0 (.slice none 0 0) [] := ⟨[], World.ownsRow_nil _ _ _ _, fun i l h => by simp at h⟩
theorem OwnV.keep {w w1 : World} {base : Nat} {w0 : World} {v : Value} {l : List (List UInt8)} (h : OwnV w base w0 v l) (hb : Below w.heap.size w w1) : OwnV w1 base w0 v l := by
  obtain ⟨us, h1, h2⟩ := h
  exact ⟨us, World.ownsRow.kept (row := none) h1 ⟨hb.os, hb.tape, hb.output, hb.size, fun k hk _ => hb.block k hk⟩ (by cases v.ownBlock <;> simp), h2⟩
theorem OwnV.one (w : World) (base : Nat) (w0 : World) (u : Value) (l : List UInt8) (hb : base ≤ w.heap.size) (h : RowV w0 u l) : OwnV (w.alloc (.cells #[u] 32)) base w0 (.slice (some ⟨w.heap.size, 0, none⟩) 1 1) [l] := by
  refine ⟨[u], World.ownsRow_lit w #[u] 1 hb (by unfold maxLen; omega) rfl, fun k r hk => ?_⟩
  match k, hk with
  | 0, hk => simp at hk; subst hk; exact ⟨u, rfl, h⟩
theorem OwnV.apart {w w' : World} {base : Nat} {w0 : World} {v : Value} {l : List (List UInt8)} (h : OwnV w base w0 v l) {row : Option Nat} (hg : w.grownBy w' row) (hne : v.ownBlock = none ∨ v.ownBlock ≠ row) : OwnV w' base w0 v l := by
  obtain ⟨us, h1, h2⟩ := h
  exact ⟨us, World.ownsRow.kept h1 hg hne, h2⟩
theorem OwnV.lt {w : World} {base : Nat} {w0 : World} {v : Value} {l : List (List UInt8)} (h : OwnV w base w0 v l) (b : Nat) (hb : v.ownBlock = some b) : base ≤ b ∧ b < w.heap.size := by
  obtain ⟨us, h1, h2⟩ := h
  exact h1.lt b hb
theorem OwnV.lines {w : World} {base : Nat} {w0 : World} {v : Value} {rows : List (List UInt8)} (h : OwnV w base w0 v rows) (hb : Below w0.heap.size w0 w) : ∃ ao cap, v = .slice ao rows.length cap ∧ rows.length ≤ cap ∧ cap ≤ 9223372036854775807 ∧ (ao = none → cap = 0) ∧ Lines w ao rows := by
  obtain ⟨us, h1, h2⟩ := h
  rcases h1.2 with ⟨rfl, h0⟩ | ⟨g, cap, cur, rfl, k1, k2, k3, k4, k5, k6⟩
  · exact ⟨none, 0, by rw [h0], by omega, by omega, fun _ => rfl, .inl (List.eq_nil_of_length_eq_zero h0)⟩
  · refine ⟨_, cap, rfl, k3, by unfold maxLen at k4; omega, (fun h => by cases h), .inr ⟨g, 0, rfl, (h1.lt g rfl).2, fun i l hi => ?_⟩⟩
    obtain ⟨u, q1, q2⟩ := h2 i l hi
    obtain ⟨ao, c, rfl, r1, r2, r3, r4⟩ := q2.keep hb
    refine ⟨ao, c, ?_, r1, r2, r3, r4⟩
    have hil : i < rows.length := (List.getElem?_eq_some_iff.1 hi).1
    rw [← k6, List.getElem?_take_of_lt (by omega)] at q1
    rw [Nat.zero_add, cell_of_block k2]
    simpa using q1
theorem wp_append_vals {o : Oper} {a : Act} {K : Act → World → Prop} {Q : Exit → Act → World → Prop} {w : World} (s x : Operand)
    (ho : o.op = .call { callee := .builtin .append, args := #[s, x], argTypes := #[24, 24] }) (base : Nat) (w0 : World) (v : Value) (rows : List (List UInt8)) (hs : a.eval s = v) (hown : OwnV w base w0 v rows)
    (base2 : Nat) (vx : Value) (more : List (List UInt8)) (hx : a.eval x = vx) (hown2 : OwnV w base2 w0 vx more) (hl : rows.length + more.length ≤ 1000000) (hb : base ≤ w.heap.size)
    (h : ∀ v' w', OwnV w' base w0 v' (rows ++ more) → w.grownBy w' v.ownBlock → (v'.ownBlock = v.ownBlock ∨ v'.ownBlock = some w.heap.size) → K (a.put o.dst v') w') : o.wp Tryd.prog a w K Q := by
  obtain ⟨us, h1, h2⟩ := id hown
  obtain ⟨xs, g1, g2⟩ := hown2
  obtain ⟨i0, hi, hz0, hz1, hz2⟩ := info_parts infoL
  rcases id g1.2 with ⟨hv0, h0⟩ | ⟨g, cap, cur, hv0, k1, k2, k3, k4, k5, k6⟩
  · obtain rfl : more = [] := List.eq_nil_of_length_eq_zero h0
    subst hv0
    have hrun := run_append_owned_none (P := Tryd.prog) (w := w) base 24 o.type 32 i0 1 Tryd.underlying24 hi v rows.length us h1
    unfold Oper.wp execOp
    simp only [ho, resolve, invoke, builtin, Sem.run_bind, Sem.run_pure, Result.andThen_ok, List.map_toArray, List.map_cons, List.map_nil, hs, hx, hrun]
    refine h v w ?_ ⟨rfl, rfl, rfl, Nat.le_refl _, fun _ _ _ => rfl⟩ (.inl rfl)
    rw [List.append_nil]; exact hown
  · subst hv0
    have hul : us.length = rows.length := by have := h1.1; omega
    have hxl : xs.length = more.length := by have := g1.1; omega
    have hone : ∀ u ∈ xs, u.oneCell' = true := fun u hu => by
      obtain ⟨j, hj⟩ := List.mem_iff_getElem?.1 hu
      have hjl := (List.getElem?_eq_some_iff.1 hj).1
      obtain ⟨u', q1, q2⟩ := g2 j more[j] (List.getElem?_eq_getElem (by omega))
      rw [hj] at q1
      cases q1
      obtain ⟨_, _, rfl, _⟩ := q2; rfl
    obtain ⟨v', w', hr, r1, r2, _, r5⟩ := run_append_own_at (P := Tryd.prog) w base 24 o.type 32 i0 (.slice none 0 0) 1 24 Tryd.underlying24 hi hz0 hz1 hz2 rfl (by decide) v rows.length us h1 ⟨g, 0, none⟩ more.length cap xs g1.1 (fun j u hj => g1.cells rfl j u hj) hone (by unfold maxLen; omega) (by omega) hb
    unfold Oper.wp execOp
    simp only [ho, resolve, invoke, builtin, Sem.run_bind, Sem.run_pure, Result.andThen_ok, List.map_toArray, List.map_cons, List.map_nil, hs, hx, hr]
    refine h v' w' ⟨us ++ xs, by rw [List.length_append]; exact r1, fun i l' hi' => ?_⟩ r2 r5
    by_cases hil : i < rows.length
    · rw [List.getElem?_append_left hil] at hi'
      obtain ⟨u', q1, q2⟩ := h2 i l' hi'
      exact ⟨u', by rw [List.getElem?_append_left (by omega)]; exact q1, q2⟩
    · rw [List.getElem?_append_right (by omega)] at hi'
      obtain ⟨u', q1, q2⟩ := g2 _ l' hi'
      exact ⟨u', by rw [List.getElem?_append_right (by omega), hul]; exact q1, q2⟩
theorem wpList_append_vals {ops : Array Oper} {rest : List Oper} {o : Oper} {a : Act} {Q : Exit → Act → World → Prop} {w : World} (hgd : o.guard = none) (s x : Operand)
    (ho : o.op = .call { callee := .builtin .append, args := #[s, x], argTypes := #[24, 24] }) (base : Nat) (w0 : World) (v : Value) (rows : List (List UInt8)) (hs : a.eval s = v) (hown : OwnV w base w0 v rows)
    (base2 : Nat) (vx : Value) (more : List (List UInt8)) (hx : a.eval x = vx) (hown2 : OwnV w base2 w0 vx more) (hl : rows.length + more.length ≤ 1000000) (hb : base ≤ w.heap.size)
    (h : ∀ v' w', OwnV w' base w0 v' (rows ++ more) → w.grownBy w' v.ownBlock → (v'.ownBlock = v.ownBlock ∨ v'.ownBlock = some w.heap.size) → wpList Tryd.prog ops Q rest (a.put o.dst v') w') : wpList Tryd.prog ops Q (o :: rest) a w := by
  refine wpList_plain hgd fun K hK => ?_
  exact wp_append_vals s x ho base w0 v rows hs hown base2 vx more hx hown2 hl hb fun v' w' h1 h2 h3 => hK _ _ (h v' w' h1 h2 h3)
end Go.Proofs.YtcplnfaopigoiaaDoor
