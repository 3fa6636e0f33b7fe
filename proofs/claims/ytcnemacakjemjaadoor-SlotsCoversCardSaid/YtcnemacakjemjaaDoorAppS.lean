/-
  append(slots, more...) of slots that are ours, at an operation, in whatever world.
  CONDITIONS: each theorem's own hypotheses.
-/
import Derived.Test.YtcnemacakjemjaaDoorCovN
import Derived.Test.YtcnemacakjemjaaDoorAppL
namespace Go.Proofs.YtcnemacakjemjaaDoor
open Go.RowKit CodeMath
set_option linter.unusedVariables false
set_option maxRecDepth 100000

theorem wp_append_slots2 {o : Oper} {a : Act} {K : Act → World → Prop} {Q : Exit → Act → World → Prop} {w : World} (s x : Operand)
    (ho : o.op = .call { callee := .builtin .append, args := #[s, x], argTypes := #[22, 22] }) (base : Nat) (v : Value) (l : List Sl) (hs : a.eval s = v) (hown : OwnSl w base v l)
    (base2 : Nat) (vx : Value) (more : List Sl) (hx : a.eval x = vx) (hown2 : OwnSl w base2 vx more) (hl : l.length + more.length ≤ 1000000) (hb : base ≤ w.heap.size)
    (h : ∀ v' w', OwnSl w' base v' (l ++ more) → w.grownBy w' v.ownBlock → (v'.ownBlock = v.ownBlock ∨ v'.ownBlock = some w.heap.size) → K (a.put o.dst v') w') : o.wp Tryd.prog a w K Q := by
  obtain ⟨us, h1, h2⟩ := id hown
  obtain ⟨xs, g1, g2⟩ := hown2
  obtain ⟨i0, hi, hz0, hz1, hz2⟩ := info_parts infoSl
  have hul : us.length = l.length * 3 := h1.1
  have hxl : xs.length = more.length * 3 := g1.1
  rcases id g1.2 with ⟨hv0, h0⟩ | ⟨g, cap, cur, hv0, k1, k2, k3, k4, k5, k6⟩
  · obtain rfl : more = [] := List.eq_nil_of_length_eq_zero h0
    subst hv0
    have hrun := run_append_owned_none (P := Tryd.prog) (w := w) base 22 o.type 39 i0 3 Tryd.underlying22 hi v l.length us h1
    unfold Oper.wp execOp
    simp only [ho, resolve, invoke, builtin, Sem.run_bind, Sem.run_pure, Result.andThen_ok, List.map_toArray, List.map_cons, List.map_nil, hs, hx, hrun]
    refine h v w ?_ ⟨rfl, rfl, rfl, Nat.le_refl _, fun _ _ _ => rfl⟩ (.inl rfl)
    rw [List.append_nil]; exact hown
  · subst hv0
    obtain ⟨v', w', hr, r1, r2, _, r5⟩ := run_append_own_at (P := Tryd.prog) w base 22 o.type 39 i0 _ 3 56 Tryd.underlying22 hi hz0 hz1 hz2 rfl (by decide) v l.length us h1 ⟨g, 0, none⟩ more.length cap xs hxl (fun j u hj => g1.cells rfl j u hj) (slotcells_one hxl g2) (by unfold maxLen; omega) (by omega) hb
    unfold Oper.wp execOp
    simp only [ho, resolve, invoke, builtin, Sem.run_bind, Sem.run_pure, Result.andThen_ok, List.map_toArray, List.map_cons, List.map_nil, hs, hx, hr]
    have hty : ∀ b, v.ownBlock = some b → ∃ cur T fz, w.heap[b]? = some (.cells cur T fz) ∧ T ≠ 5 := fun b hb => by
      obtain ⟨cur, fz, h⟩ := ownsRow_typed h1 b hb
      exact ⟨cur, _, fz, h, by decide⟩
    refine h v' w' ⟨us ++ xs, by rw [List.length_append]; exact r1, fun i z hi' => ?_⟩ r2 r5
    by_cases hil : i < l.length
    · rw [List.getElem?_append_left hil] at hi'
      obtain ⟨p, q, q1, q2, q3, q4, q5⟩ := h2 i z hi'
      exact ⟨p, q, by rw [List.getElem?_append_left (by omega)]; exact q1, by rw [List.getElem?_append_left (by omega)]; exact q2, by rw [List.getElem?_append_left (by omega)]; exact q3, q4.grown r2 hty, q5.grown r2 hty⟩
    · rw [List.getElem?_append_right (by omega)] at hi'
      obtain ⟨p, q, q1, q2, q3, q4, q5⟩ := g2 _ z hi'
      refine ⟨p, q, ?_, ?_, ?_, q4.grown r2 hty, q5.grown r2 hty⟩
      · rw [List.getElem?_append_right (by omega), show i * 3 - us.length = (i - l.length) * 3 by omega]; exact q1
      · rw [List.getElem?_append_right (by omega), show i * 3 + 1 - us.length = (i - l.length) * 3 + 1 by omega]; exact q2
      · rw [List.getElem?_append_right (by omega), show i * 3 + 2 - us.length = (i - l.length) * 3 + 2 by omega]; exact q3
end Go.Proofs.YtcnemacakjemjaaDoor
