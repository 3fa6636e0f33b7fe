/-
  SLOTS of the call's own: all of them appended to nothing; one of them stored.
  CONDITIONS: each theorem's own hypotheses.
-/
import Derived.Test.YtcnemacakjemjaaDoorSlotM
namespace Go.Proofs.YtcnemacakjemjaaDoor
open Go.RowKit CodeMath
set_option linter.unusedVariables false
set_option maxRecDepth 100000

theorem ownsRow_form {w : World} {base : Nat} {e : TypeId} {size : Nat} {v : Value} {n : Nat} {xs : List Value} (h : w.ownsRow base e size v n xs) (hn : 0 < n) : ∃ g cap, v = .slice (some ⟨g, 0, none⟩) n cap ∧ base ≤ g ∧ g < w.heap.size := by
  rcases h.2 with ⟨_, h0⟩ | ⟨g, cap, cur, hv, hb, hg, _⟩
  · omega
  · exact ⟨g, cap, hv, hb, (Array.getElem?_eq_some_iff.1 hg).1⟩
theorem slotcells_one {w : World} {us : List Value} {S : List Sl} (hl : us.length = S.length * 3) (h2 : ∀ (i : Nat) (x : Sl), S[i]? = some x → ∃ a b : Value, us[i * 3]? = some (.bool x.f) ∧ us[i * 3 + 1]? = some a ∧ us[i * 3 + 2]? = some b ∧ RowU w a x.s ∧ RowU w b x.d) : ∀ u ∈ us, u.oneCell' = true := by
  intro u hu
  obtain ⟨j, hj⟩ := List.mem_iff_getElem?.1 hu
  have hjl := (List.getElem?_eq_some_iff.1 hj).1
  have hi : j / 3 < S.length := by omega
  obtain ⟨x, hx⟩ : ∃ x, S[j / 3]? = some x := ⟨_, List.getElem?_eq_getElem hi⟩
  obtain ⟨a, b, k1, k2, k3, k4, k5⟩ := h2 _ x hx
  rcases (show j = j / 3 * 3 ∨ j = j / 3 * 3 + 1 ∨ j = j / 3 * 3 + 2 by omega) with h | h | h
  · rw [← h, hj] at k1; cases k1; rfl
  · rw [← h, hj] at k2; cases k2; obtain ⟨_, _, rfl, _⟩ := k4; rfl
  · rw [← h, hj] at k3; cases k3; obtain ⟨_, _, rfl, _⟩ := k5; rfl
/-- append(nothing, l...). -/
theorem wpList_append_slots {ops : Array Oper} {rest : List Oper} {o : Oper} {a : Act} {Q : Exit → Act → World → Prop} {w : World} (hgd : o.guard = none) (s x : Operand)
    (ho : o.op = .call { callee := .builtin .append, args := #[s, x], argTypes := #[22, 22] }) (base : Nat) (v : Value) (hs : a.eval s = v) (hown : OwnSl w base v []) (base2 : Nat) (vx : Value) (S : List Sl) (hx : a.eval x = vx) (hsrc : OwnSl w base2 vx S) (hS0 : 0 < S.length) (hl : S.length ≤ 1000000) (hb : base ≤ w.heap.size)
    (h : ∀ v' w', OwnSl w' base v' S → Below base w w' → wpList Tryd.prog ops Q rest (a.put o.dst v') w') : wpList Tryd.prog ops Q (o :: rest) a w := by
  obtain ⟨us, h1, h2⟩ := hsrc
  obtain ⟨vs, g1, -⟩ := hown
  have hul : us.length = S.length * 3 := h1.1
  obtain ⟨g, cap, rfl, -, -⟩ := ownsRow_form h1 hS0
  obtain ⟨i0, hi, hz0, hz1, hz2⟩ := info_parts infoSl
  have hvs : vs = [] := List.eq_nil_of_length_eq_zero (by have := g1.1; simpa using this)
  subst hvs
  refine wpList_append_own _ hgd s x 22 ho base 39 i0 _ 3 56 Tryd.underlying22 hi hz0 hz1 hz2 rfl (by decide) v 0 [] hs g1 ⟨g, 0, none⟩ S.length cap us hx hul ?_ (slotcells_one hul h2) (by unfold maxLen; omega) (by omega) hb ?_
  · intro j u hj
    exact h1.cells rfl j u hj
  · intro v' w' k1 k2 _
    have hty : ∀ b, v.ownBlock = some b → ∃ cur T fz, w.heap[b]? = some (.cells cur T fz) ∧ T ≠ 5 := fun b hb => by
      obtain ⟨cur, fz, h⟩ := ownsRow_typed g1 b hb
      exact ⟨cur, _, fz, h, by decide⟩
    rw [Nat.zero_add, List.nil_append] at k1
    refine h v' w' ⟨us, k1, fun i z hi' => ?_⟩ ?_
    · obtain ⟨p, q, q1, q2, q3, q4, q5⟩ := h2 i z hi'
      exact ⟨p, q, q1, q2, q3, q4.grown k2 hty, q5.grown k2 hty⟩
    · exact (Below.refl base w).grown k2 hb (fun k hk => (g1.lt k hk).1)
/-- l[p] = y. -/
theorem OwnSl.put {w : World} {base g cap n : Nat} {S : List Sl} (hn : S.length = n) (h : OwnSl w base (.slice (some ⟨g, 0, none⟩) n cap) S) (p : Nat) (hp : p < S.length) (y : Sl) (f : Bool) (hf : f = y.f) (us ud : Value) (hu : RowU w us y.s) (hd : RowU w ud y.d) :
    OwnSl (((w.setCell ⟨g, p * 3, none⟩ (.bool f)).setCell ⟨g, p * 3 + 1, none⟩ us).setCell ⟨g, p * 3 + 2, none⟩ ud) base (.slice (some ⟨g, 0, none⟩) n cap) (S.set p y) := by
  subst hf hn
  obtain ⟨vs, h1, h2⟩ := h
  have hty : ∀ (W : World) (xs : List Value), W.ownsRow base 39 3 (.slice (some ⟨g, 0, none⟩) S.length cap) S.length xs → ∀ (j : Nat) (v u : Value) (l : List UInt8), RowU W u l → RowU (W.setCell ⟨g, j, none⟩ v) u l := fun W xs hw j v u l hu => by
    refine hu.grown (hw.stored j v).2 (fun b hb => ?_)
    cases hb
    obtain ⟨cur, fz, h⟩ := ownsRow_typed hw g rfl
    exact ⟨cur, _, fz, h, by decide⟩
  have s1 := (h1.stored (p * 3) (.bool y.f)).1
  have s2 := (s1.stored (p * 3 + 1) us).1
  have s3 := (s2.stored (p * 3 + 2) ud).1
  have all : ∀ (u : Value) (l : List UInt8), RowU w u l → RowU (((w.setCell ⟨g, p * 3, none⟩ (.bool y.f)).setCell ⟨g, p * 3 + 1, none⟩ us).setCell ⟨g, p * 3 + 2, none⟩ ud) u l := fun u l hu => hty _ _ s2 _ _ _ _ (hty _ _ s1 _ _ _ _ (hty _ _ h1 _ _ _ _ hu))
  have hvl : vs.length = S.length * 3 := h1.1
  refine ⟨((vs.set (p * 3) (.bool y.f)).set (p * 3 + 1) us).set (p * 3 + 2) ud, by rw [List.length_set]; exact s3, fun i x hi => ?_⟩
  by_cases hip : p = i
  · subst hip
    rw [List.getElem?_set_self hp] at hi
    cases hi
    refine ⟨us, ud, ?_, ?_, ?_, all _ _ hu, all _ _ hd⟩
    · rw [List.getElem?_set_ne (by omega), List.getElem?_set_ne (by omega), List.getElem?_set_self (by omega)]
    · rw [List.getElem?_set_ne (by omega), List.getElem?_set_self (by simp; omega)]
    · rw [List.getElem?_set_self (by simp; omega)]
  · rw [List.getElem?_set_ne hip] at hi
    obtain ⟨a, b, k1, k2, k3, k4, k5⟩ := h2 i x hi
    refine ⟨a, b, ?_, ?_, ?_, all _ _ k4, all _ _ k5⟩
    · rw [List.getElem?_set_ne (by omega), List.getElem?_set_ne (by omega), List.getElem?_set_ne (by omega)]; exact k1
    · rw [List.getElem?_set_ne (by omega), List.getElem?_set_ne (by omega), List.getElem?_set_ne (by omega)]; exact k2
    · rw [List.getElem?_set_ne (by omega), List.getElem?_set_ne (by omega), List.getElem?_set_ne (by omega)]; exact k3
theorem OwnSl.base {w : World} {b b' : Nat} {v : Value} {l : List Sl} (h : OwnSl w b v l) (hb : b' ≤ b) : OwnSl w b' v l := by
  obtain ⟨us, h1, h2⟩ := h
  refine ⟨us, ⟨h1.1, ?_⟩, h2⟩
  rcases h1.2 with h | ⟨g, cap, cur, e, k1, k⟩
  · exact .inl h
  · exact .inr ⟨g, cap, cur, e, Nat.le_trans hb k1, k⟩
/-- The cells of an element. -/
theorem OwnSl.at {w : World} {base : Nat} {v : Value} {S : List Sl} (h : OwnSl w base v S) (p : Nat) (x : Sl) (hx : S[p]? = some x) : ∃ g cap a b, v = .slice (some ⟨g, 0, none⟩) S.length cap ∧ base ≤ g ∧ g < w.heap.size ∧ w.cell? ⟨g, p * 3, none⟩ = some (.bool x.f) ∧ w.cell? ⟨g, p * 3 + 1, none⟩ = some a ∧ w.cell? ⟨g, p * 3 + 2, none⟩ = some b ∧ RowU w a x.s ∧ RowU w b x.d ∧ (∀ j, w.frozen? ⟨g, j, none⟩ = false) := by
  obtain ⟨us, h1, h2⟩ := h
  have hp := (List.getElem?_eq_some_iff.1 hx).1
  obtain ⟨g, cap, rfl, hb, hg⟩ := ownsRow_form h1 (by omega)
  obtain ⟨a, b, k1, k2, k3, k4, k5⟩ := h2 p x hx
  exact ⟨g, cap, a, b, rfl, hb, hg, by rw [h1.cellAt _ (by omega)]; exact k1, by rw [h1.cellAt _ (by omega)]; exact k2, by rw [h1.cellAt _ (by omega)]; exact k3, k4, k5, fun j => h1.frozenAt j⟩
end Go.Proofs.YtcnemacakjemjaaDoor
