/-
  COVERS: how much a hashed cover has; append(l, l...) of slots that are ours.
  CONDITIONS: each theorem's own hypotheses.
-/
import Derived.Test.YtcnemacakjemjaaDoorCovP
import Derived.Test.YtcnemacakjemjaaDoorSlotN
import Derived.Test.YtcnemacakjemjaaDoorGLev
namespace Go.Proofs.YtcnemacakjemjaaDoor
open Go.RowKit CodeMath Go.Proofs.YtcnemacakjemjaaDoor.FrameMath
set_option linter.unusedVariables false
set_option maxRecDepth 100000

theorem digB_hash (t : Nat) (ps : List (List UInt8)) : (digB 1 t ps).length = 32 := by
  unfold digB
  rw [if_neg (by decide), ShaMath.sha_length]
theorem leaf_hash {f : Bool} {s d b : List UInt8} (h : leafR 1 f s d = .ok b) : b.length = 32 := by
  unfold leafR at h
  split at h
  · cases h
  · split at h
    · cases h
    · split at h
      · cases h
      · cases h; exact digB_hash _ _
theorem leaves_hash : ∀ (l : List Sl) (rows : List (List UInt8)), leavesR 1 l = .ok rows → ∀ b ∈ rows, b.length = 32
  | [], rows, h => by cases h; simp
  | y :: l, rows, h => by
    cases hy : leafR 1 y.f y.s y.d with
    | err e => simp [leavesR, hy] at h
    | ok b0 =>
      simp only [leavesR, hy] at h
      cases hr : leavesR 1 l with
      | err e => rw [hr] at h; cases h
      | ok r0 =>
        rw [hr] at h; cases h
        intro b hb
        rcases List.mem_cons.1 hb with rfl | hb
        · exact leaf_hash hy
        · exact leaves_hash l r0 hr b hb
theorem root_hash : ∀ (h : Nat) (rows : List (List UInt8)), rows.length = 2 ^ h → (∀ b ∈ rows, b.length = 32) → (rootB 1 h rows).length = 32
  | 0, rows, hl, hb => by
    match rows, hl with
    | [a], _ => exact hb a (by simp)
  | h + 1, rows, hl, hb => digB_hash _ _
theorem cov_hash : ∀ (h : Nat) (rows : List (List UInt8)) (o : List Bool), rows.length = 2 ^ h → (∀ b ∈ rows, b.length = 32) → ∀ r ∈ covR 1 h rows o, r.length = 32
  | 0, rows, o, hl, hb, r, hr => by
    unfold covR at hr
    split at hr
    · cases hr
    · simp at hr; subst hr
      exact root_hash 0 rows hl hb
  | h + 1, rows, o, hl, hb, r, hr => by
    have e1 : 2 ^ (h + 1) = 2 * 2 ^ h := by rw [Nat.pow_succ, Nat.mul_comm]
    unfold covR at hr
    split at hr
    · rcases List.mem_append.1 hr with hr | hr
      · exact cov_hash h _ _ (by rw [List.length_take]; omega) (fun b hx => hb b (List.mem_of_mem_take hx)) r hr
      · exact cov_hash h _ _ (by rw [List.length_drop]; omega) (fun b hx => hb b (List.mem_of_mem_drop hx)) r hr
    · simp at hr; subst hr
      exact root_hash (h + 1) rows hl hb
theorem cover_some (h : Nat) (o : List Bool) : 0 < o.count true + resN h o := by
  cases hc : o.contains true with
  | true =>
    have := List.count_pos_iff.2 (List.contains_iff_mem.1 hc)
    omega
  | false => rw [resN_none h o hc]; omega
/-- append(l, l...). -/
theorem wpList_append_self {ops : Array Oper} {rest : List Oper} {o : Oper} {a : Act} {Q : Exit → Act → World → Prop} {w : World} (hgd : o.guard = none) (s x : Operand)
    (ho : o.op = .call { callee := .builtin .append, args := #[s, x], argTypes := #[22, 22] }) (base : Nat) (v : Value) (S : List Sl) (hs : a.eval s = v) (hx : a.eval x = v) (hown : OwnSl w base v S) (hS0 : 0 < S.length) (hl : S.length ≤ 1000000) (hb : base ≤ w.heap.size)
    (h : ∀ v' w', OwnSl w' base v' (S ++ S) → Below base w w' → wpList Tryd.prog ops Q rest (a.put o.dst v') w') : wpList Tryd.prog ops Q (o :: rest) a w := by
  obtain ⟨us, h1, h2⟩ := hown
  have hul : us.length = S.length * 3 := h1.1
  obtain ⟨g, cap, rfl, -, -⟩ := ownsRow_form h1 hS0
  obtain ⟨i0, hi, hz0, hz1, hz2⟩ := info_parts infoSl
  refine wpList_append_own _ hgd s x 22 ho base 39 i0 _ 3 56 Tryd.underlying22 hi hz0 hz1 hz2 rfl (by decide) _ S.length us hs h1 ⟨g, 0, none⟩ S.length cap us hx hul ?_ (slotcells_one hul h2) (by unfold maxLen; omega) (by omega) hb ?_
  · intro j u hj
    exact h1.cells rfl j u hj
  · intro v' w' k1 k2 _
    have hty : ∀ b, (Value.slice (some ⟨g, 0, none⟩) S.length cap).ownBlock = some b → ∃ cur T fz, w.heap[b]? = some (.cells cur T fz) ∧ T ≠ 5 := fun b hb => by
      obtain ⟨cur, fz, h⟩ := ownsRow_typed h1 b hb
      exact ⟨cur, _, fz, h, by decide⟩
    refine h v' w' ⟨us ++ us, by rw [List.length_append]; exact k1, fun i z hi' => ?_⟩ ?_
    · by_cases hil : i < S.length
      · rw [List.getElem?_append_left hil] at hi'
        obtain ⟨p, q, q1, q2, q3, q4, q5⟩ := h2 i z hi'
        exact ⟨p, q, by rw [List.getElem?_append_left (by omega)]; exact q1, by rw [List.getElem?_append_left (by omega)]; exact q2, by rw [List.getElem?_append_left (by omega)]; exact q3, q4.grown k2 hty, q5.grown k2 hty⟩
      · rw [List.getElem?_append_right (by omega)] at hi'
        obtain ⟨p, q, q1, q2, q3, q4, q5⟩ := h2 _ z hi'
        refine ⟨p, q, ?_, ?_, ?_, q4.grown k2 hty, q5.grown k2 hty⟩
        · rw [List.getElem?_append_right (by omega), show i * 3 - us.length = (i - S.length) * 3 by omega]; exact q1
        · rw [List.getElem?_append_right (by omega), show i * 3 + 1 - us.length = (i - S.length) * 3 + 1 by omega]; exact q2
        · rw [List.getElem?_append_right (by omega), show i * 3 + 2 - us.length = (i - S.length) * 3 + 2 by omega]; exact q3
    · exact (Below.refl base w).grown k2 hb (fun k hk => (h1.lt k hk).1)
/-- How many things a slice shows. -/
def lenV : Value → Nat
  | .slice _ n _ => n
  | _ => 0
end Go.Proofs.YtcnemacakjemjaaDoor
