/-
  ROWS OF PAIRS of the call's own: append of one pair, of a whole row.
  CONDITIONS: each theorem's own hypotheses.
-/
import Derived.Test.YtopgakdgifmecaaTRows
import Derived.Laws.AppendOwnNone
namespace Go.Proofs.Ytopgakdgifmecaa
open Go.RowKit
set_option linter.unusedVariables false
set_option maxRecDepth 100000

theorem infoPr : (Try.prog.info? 57).map (fun i => (i.zero, i.size, i.bytes)) = some (some (.agg #[.string ⟨#[]⟩, .int .i64 0]), 2, 24) := by kernel_rfl
/-- A row of pairs of the call's own. -/
def OwnPr (w : World) (base : Nat) (v : Value) (l : List En) : Prop := w.ownsRow base 57 2 v l.length (cellsE l)
theorem OwnPr.nil (w : World) (base : Nat) : OwnPr w base (.slice none 0 0) [] := World.ownsRow_nil _ _ _ _
theorem OwnPr.keep {w w1 : World} {base : Nat} {v : Value} {l : List En} (h : OwnPr w base v l) (hb : Below w.heap.size w w1) : OwnPr w1 base v l := owns_same h (fun b e => hb.block b (h.lt b e).2)
theorem cellsE_one (l : List En) : ∀ u ∈ cellsE l, u.oneCell' = true := fun u hu => by
  unfold cellsE at hu
  obtain ⟨x, _, hx⟩ := List.mem_flatMap.1 hu
  simp [cellsE1] at hx
  rcases hx with rfl | rfl <;> rfl
theorem OwnPr.cell {w : World} {base : Nat} {ao : Option Addr} {n cap : Nat} {l : List En} (h : OwnPr w base (.slice ao n cap) l) {j : Nat} {e : En} (hj : l[j]? = some e) : ∃ b, ao = some ⟨b, 0, none⟩ ∧ b < w.heap.size ∧ base ≤ b ∧ w.cell? ⟨b, j * 2, none⟩ = some (.string (str e.1)) ∧ w.cell? ⟨b, j * 2 + 1, none⟩ = some (.int .i64 e.2) := by
  rcases h.2 with ⟨_, hz⟩ | ⟨g, cp, cur, hv, hB, hh, _⟩
  · rw [List.eq_nil_of_length_eq_zero hz] at hj; simp at hj
  · simp only [Value.slice.injEq] at hv
    obtain ⟨rfl, _, rfl⟩ := hv
    have c : ∀ q u, q < 2 → (cellsE1 e)[q]? = some u → w.cell? ⟨g, j * 2 + q, none⟩ = some u := fun q u hq hu => by
      have := World.ownsRow.cells h (g := g) rfl (j * 2 + q) u (by rw [cellsE_at l j q e hj hq]; exact hu)
      rw [addr_addT, Nat.zero_add] at this
      exact this
    exact ⟨g, rfl, (h.lt g rfl).2, hB, c 0 _ (by decide) rfl, c 1 _ (by decide) rfl⟩
/-- append of one pair. -/
theorem wp_append_pr {o : Oper} {a : Act} {K : Act → World → Prop} {Q : Exit → Act → World → Prop} {w : World} (s x : Operand)
    (ho : o.op = .call { callee := .builtin .append, args := #[s, x], argTypes := #[27, 27] }) (base : Nat) (v : Value) (l : List En) (hs : a.eval s = v) (hown : OwnPr w base v l)
    (y : En) (g : Nat) (hx : a.eval x = .slice (some ⟨g, 0, none⟩) 1 1) (h2 : Blk w g 57 (cellsE1 y)) (hl : l.length ≤ 1000) (hb : base ≤ w.heap.size)
    (h : ∀ v' w', OwnPr w' base v' (l ++ [y]) → w.grownBy w' v.ownBlock → (v'.ownBlock = v.ownBlock ∨ v'.ownBlock = some w.heap.size) → K (a.put o.dst v') w') : o.wp Try.prog a w K Q := by
  obtain ⟨i0, hi, hz0, hz1, hz2⟩ := info_parts infoPr
  obtain ⟨v', w', hr, r1, r2, _, r5⟩ := run_append_own_at (P := Try.prog) w base 27 o.type 57 i0 _ 2 24 Try.underlying27 hi hz0 hz1 hz2 rfl (by decide) v l.length (cellsE l) hown ⟨g, 0, none⟩ 1 1 (cellsE [y]) (by rw [cellsE_length]; rfl) (by
    intro j u hj
    rw [addr_addT, Nat.zero_add]
    refine h2.cell ?_
    simpa [cellsE] using hj) (cellsE_one _) (by unfold maxLen; omega) (by omega) hb
  unfold Oper.wp execOp
  simp only [ho, resolve, invoke, builtin, Sem.run_bind, Sem.run_pure, Result.andThen_ok, List.map_toArray, List.map_cons, List.map_nil, hs, hx, hr]
  refine h v' w' ?_ r2 r5
  unfold OwnPr
  rw [cellsE_append, List.length_append]
  exact r1
/-- append of a whole row. -/
theorem wpList_append_prs {ops : Array Oper} {rest : List Oper} {o : Oper} {a : Act} {Q : Exit → Act → World → Prop} {w : World} (hgd : o.guard = none) (s x : Operand)
    (ho : o.op = .call { callee := .builtin .append, args := #[s, x], argTypes := #[27, 27] }) (base : Nat) (v : Value) (l : List En) (hs : a.eval s = v) (hown : OwnPr w base v l)
    (base2 : Nat) (vx : Value) (m : List En) (hx : a.eval x = vx) (hown2 : OwnPr w base2 vx m) (hl : l.length + m.length ≤ 1000000) (hb : base ≤ w.heap.size)
    (h : ∀ v' w', OwnPr w' base v' (l ++ m) → w.grownBy w' v.ownBlock → (v'.ownBlock = v.ownBlock ∨ v'.ownBlock = some w.heap.size) → wpList Try.prog ops Q rest (a.put o.dst v') w') : wpList Try.prog ops Q (o :: rest) a w := by
  obtain ⟨i0, hi, hz0, hz1, hz2⟩ := info_parts infoPr
  rcases id hown2.2 with ⟨hv0, h0⟩ | ⟨g, cap, cur, hv0, k1, k2, k3, k4, k5, k6⟩
  · obtain rfl : m = [] := List.eq_nil_of_length_eq_zero h0
    subst hv0
    refine wpList_append_own_none hgd s x 27 ho base 57 i0 2 Try.underlying27 hi v l.length (cellsE l) hs hown hx (h v w ?_ ⟨rfl, rfl, rfl, Nat.le_refl _, fun _ _ _ => rfl⟩ (.inl rfl))
    rw [List.append_nil]; exact hown
  · subst hv0
    obtain ⟨v', w', hr, r1, r2, _, r5⟩ := run_append_own_at (P := Try.prog) w base 27 o.type 57 i0 _ 2 24 Try.underlying27 hi hz0 hz1 hz2 rfl (by decide) v l.length (cellsE l) hown ⟨g, 0, none⟩ m.length cap (cellsE m) (cellsE_length m) (fun j u hj => World.ownsRow.cells hown2 rfl j u hj) (cellsE_one _) (by unfold maxLen; omega) (by omega) hb
    refine wpList_plain hgd fun K hK => ?_
    unfold Oper.wp execOp
    simp only [ho, resolve, invoke, builtin, Sem.run_bind, Sem.run_pure, Result.andThen_ok, List.map_toArray, List.map_cons, List.map_nil, hs, hx, hr]
    refine hK _ _ (h v' w' ?_ r2 r5)
    unfold OwnPr
    rw [cellsE_append, List.length_append]
    exact r1
end Go.Proofs.Ytopgakdgifmecaa
