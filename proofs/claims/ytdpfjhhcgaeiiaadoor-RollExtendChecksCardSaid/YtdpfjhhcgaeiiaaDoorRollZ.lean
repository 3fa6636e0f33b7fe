/-
  CONTRACT of the reference's extended.
  CONDITIONS: each theorem's own hypotheses.
-/
import Derived.Test.YtdpfjhhcgaeiiaaDoorRollU
import Derived.Test.YtdpfjhhcgaeiiaaDoorRollY
namespace Go.Proofs.YtdpfjhhcgaeiiaaDoor
open Go.RowKit CodeMath Go.Proofs.YtdpfjhhcgaeiiaaDoor.FrameMath
set_option linter.unusedVariables false
set_option maxRecDepth 100000

theorem run_append_none0 (t ty e : TypeId) (i : TypeInfo) (size : Nat) (w : World) (ht : Tryd.prog.underlying t = some (.slice e)) (hi : Tryd.prog.info? e = some i) (base g n cap cp : Nat) (xs : List Value) (hown : w.ownsRow base e size (.slice (some ⟨g, 0, none⟩) n cap) n xs) :
    (Builtin.append_ #[t, t] ty #[.slice (some ⟨g, 0, none⟩) n cap, .slice none 0 cp]).run Tryd.prog w = .ok (.slice (some ⟨g, 0, none⟩) n cap) w := by
  rcases hown.2 with ⟨h0, _⟩ | ⟨g', cap', cur, e', _, _, hnc, _⟩
  · cases h0
  · obtain ⟨_, _, e2⟩ := Value.slice.inj e'
    subst e2
    simp [Builtin.append_, run_underlying ht, sizeOf, typeInfo, hi, Builtin.lenOf, Builtin.firstCells, hnc, storeCells]
/-- append([one], rest...). -/
theorem wpList_append_rest {ops : Array Oper} {rest : List Oper} {o : Oper} {a : Act} {Q : Exit → Act → World → Prop} {w : World} (hgd : o.guard = none) (s x : Operand)
    (ho : o.op = .call { callee := .builtin .append, args := #[s, x], argTypes := #[23, 23] }) (u : Value) (l : List UInt8) (hu : RowV w u l) (path : List (List UInt8)) (ap : Option Addr) (cp n : Nat) (hn : path.length = n) (hl : Lines w ap path) (hn9 : n ≤ 5864062014634) (m : Nat) (hs : a.eval s = .slice (some ⟨m, 0, none⟩) 1 1) (hm : m = w.heap.size) (hx : a.eval x = .slice ap n cp)
    (h : ∀ g c w', n + 1 ≤ c → c ≤ 9223372036854775807 → Lines w' (some ⟨g, 0, none⟩) (l :: path) → Below w.heap.size w w' → wpList Tryd.prog ops Q rest (a.put o.dst (.slice (some ⟨g, 0, none⟩) (n + 1) c)) w') : wpList Tryd.prog ops Q (o :: rest) a (w.alloc (.cells #[u] 29)) := by
  subst hm hn
  obtain ⟨i0, hi, hz0, hz1, hz2⟩ := info_parts infoL
  have hba : Below w.heap.size w (w.alloc (.cells #[u] 29)) := (Below.refl _ _).alloc (Nat.le_refl _) _
  have hown : (w.alloc (.cells #[u] 29)).ownsRow w.heap.size 29 1 (.slice (some ⟨w.heap.size, 0, none⟩) 1 1) 1 [u] := World.ownsRow_lit w #[u] 1 (Nat.le_refl _) (by unfold maxLen; omega) rfl
  have huo : u.oneCell' = true := by obtain ⟨_, _, rfl, _⟩ := hu; rfl
  cases ap with
  | none =>
    have hp : path = [] := by
      rcases hl with h | ⟨a, o, h1, _⟩
      · exact h
      · cases h1
    subst hp
    have hrun := run_append_none0 23 o.type 29 i0 1 (w.alloc (.cells #[u] 29)) Tryd.underlying23 hi w.heap.size w.heap.size 1 1 cp [u] hown
    rw [show ([] : List (List UInt8)).length = 0 from rfl] at hx h
    refine wpList_plain hgd fun K hK => ?_
    unfold Oper.wp
    simp [execOp, ho, resolve, invoke, builtin, hs, hx, hrun, Result.andThen]
    refine hK _ _ (h w.heap.size 1 _ (Nat.le_refl _) (by decide) (lines_one w u _ l hu) hba)
  | some ad =>
    obtain ⟨news, hnl, hnews, hn1, hcont⟩ : ∃ news : List Value, news.length = path.length ∧ (∀ j v, news[j]? = some v → (w.alloc (.cells #[u] 29)).cell? (ad.add j) = some v) ∧ (∀ v ∈ news, v.oneCell' = true) ∧ ∀ (j : Nat) (x : List UInt8), path[j]? = some x → ∃ v, news[j]? = some v ∧ RowV w v x := by
      rcases hl with h | ⟨a, o, h1, h2, h3⟩
      · subst h
        exact ⟨[], rfl, fun j v h => by simp at h, fun v h => by simp at h, fun j x h => by simp at h⟩
      · cases h1
        have key : ∀ (q : Nat), q ≤ path.length → ∃ news : List Value, news.length = q ∧ (∀ j v, news[j]? = some v → w.cell? ⟨a, o + j, none⟩ = some v) ∧ (∀ v ∈ news, v.oneCell' = true) ∧ ∀ (j : Nat) (x : List UInt8), j < q → path[j]? = some x → ∃ v, news[j]? = some v ∧ RowV w v x := by
          intro q
          induction q with
          | zero => exact fun _ => ⟨[], rfl, fun j v h => by simp at h, fun v h => by simp at h, fun j x h => by omega⟩
          | succ q ih =>
            intro hq
            obtain ⟨ns, i1, i2, i3, i4⟩ := ih (by omega)
            obtain ⟨x, hx⟩ : ∃ x, path[q]? = some x := ⟨_, List.getElem?_eq_getElem (by omega)⟩
            obtain ⟨A, c, q1, q2, q3, q4, q5⟩ := h3 q x hx
            refine ⟨ns ++ [.slice A x.length c], by rw [List.length_append, i1]; rfl, fun j v hj => ?_, fun v hv => ?_, fun j y hj hy => ?_⟩
            · by_cases hjq : j < q
              · rw [List.getElem?_append_left (by omega)] at hj; exact i2 j v hj
              · rw [List.getElem?_append_right (by omega), i1] at hj
                have : j - q = 0 := by
                  rcases Nat.eq_zero_or_pos (j - q) with h0 | h0
                  · exact h0
                  · rw [List.getElem?_eq_none (by simp; omega)] at hj; cases hj
                rw [this] at hj
                simp at hj
                subst hj
                rw [show j = q by omega]; exact q1
            · rcases List.mem_append.1 hv with hv | hv
              · exact i3 v hv
              · simp at hv; subst hv; rfl
            · by_cases hjq : j < q
              · obtain ⟨v, k1, k2⟩ := i4 j y hjq hy
                exact ⟨v, by rw [List.getElem?_append_left (by omega)]; exact k1, k2⟩
              · obtain rfl : j = q := by omega
                rw [hx] at hy
                cases hy
                exact ⟨_, by rw [List.getElem?_append_right (by omega), i1, Nat.sub_self]; rfl, ⟨A, c, rfl, q2, q3, q4, q5⟩⟩
        obtain ⟨ns, i1, i2, i3, i4⟩ := key path.length (Nat.le_refl _)
        refine ⟨ns, i1, fun j v hj => ?_, i3, fun j x hx => i4 j x (List.getElem?_eq_some_iff.1 hx).1 hx⟩
        have haa : (⟨a, o, none⟩ : Addr).add j = ⟨a, o + j, none⟩ := by unfold Addr.add; split <;> simp_all
        rw [haa]
        exact (hba.cell (p := ⟨a, o + j, none⟩) h2).trans (i2 j v hj)
    refine wpList_append_own _ hgd s x 23 ho w.heap.size 29 i0 (.slice none 0 0) 1 24 Tryd.underlying23 hi hz0 hz1 hz2 rfl (by decide) _ 1 [u] hs hown ad path.length cp news hx (by omega) hnews hn1 (by unfold maxLen; omega) (by omega) (by simp) ?_
    intro v' w' k1 k2 _
    have hb9 : Below w.heap.size w w' := hba.grown k2 (by simp) (fun k hk => by cases hk; exact Nat.le_refl _)
    obtain ⟨g, c, e1, e2, e3, e4, e5⟩ := ownsRow_shape k1 (by omega)
    subst e1
    rw [Nat.add_comm 1 path.length] at k1 e2 ⊢
    refine h g c w' e2 e3 (LinesV.lines (.inr ⟨g, 0, rfl, e5, fun i y hy => ?_⟩)) hb9
    cases i with
    | zero =>
      simp at hy; subst hy
      exact ⟨u, by rw [Nat.zero_add, k1.cellAt 0 (by omega)]; rfl, hu.keep hb9⟩
    | succ i =>
      rw [List.getElem?_cons_succ] at hy
      obtain ⟨v, q1, q2⟩ := hcont i y hy
      have hil := (List.getElem?_eq_some_iff.1 hy).1
      exact ⟨v, by rw [Nat.zero_add, k1.cellAt (i + 1) (by omega)]; exact q1, q2.keep hb9⟩
end Go.Proofs.YtdpfjhhcgaeiiaaDoor
