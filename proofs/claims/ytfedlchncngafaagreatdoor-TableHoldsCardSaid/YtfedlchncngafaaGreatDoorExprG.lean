/-
  Rows of expressions: what the reference's within keeps of a layer.
  CONDITIONS: each theorem's own hypotheses.
-/
import Derived.Test.YtfedlchncngafaaGreatDoorExprE
import Derived.OwnWalk
import Derived.Laws.OwnMore
import Derived.Laws.AppendOwnNone
namespace Go.Proofs.YtfedlchncngafaaGreatDoor
open Go.RowKit
set_option linter.unusedVariables false
set_option maxRecDepth 100000

/-- An expression by value, with where its parts lie. -/
structure XE where
  t : T
  ao : Option Addr
  cap : Nat
def cellsX1 (x : XE) : List Value := ndC x.t.nd ++ [Value.slice x.ao x.t.kids.length x.cap]
def cellsX (l : List XE) : List Value := l.flatMap cellsX1
theorem cellsX1_length (x : XE) : (cellsX1 x).length = 7 := rfl
theorem cellsX_length : ∀ l : List XE, (cellsX l).length = l.length * 7
  | [] => rfl
  | x :: l => by
    have := cellsX_length l
    simp only [cellsX, List.flatMap_cons, List.length_append, cellsX1_length, List.length_cons] at this ⊢
    omega
theorem cellsX_append (l m : List XE) : cellsX (l ++ m) = cellsX l ++ cellsX m := by simp [cellsX]
theorem cellsX_at : ∀ (l : List XE) (j q : Nat) (x : XE), l[j]? = some x → q < 7 → (cellsX l)[j * 7 + q]? = (cellsX1 x)[q]?
  | [], j, q, x, h, _ => by simp at h
  | y :: l, 0, q, x, h, hq => by
    simp only [List.getElem?_cons_zero, Option.some.injEq] at h
    subst h
    show (cellsX1 y ++ cellsX l)[0 * 7 + q]? = _
    rw [List.getElem?_append_left (by rw [cellsX1_length]; omega)]
    congr 1; omega
  | y :: l, j + 1, q, x, h, hq => by
    show (cellsX1 y ++ cellsX l)[(j + 1) * 7 + q]? = _
    rw [List.getElem?_append_right (by rw [cellsX1_length]; omega), cellsX1_length, show (j + 1) * 7 + q - 7 = j * 7 + q by omega]
    exact cellsX_at l j q x (by simpa using h) hq
def XRow (W : World) (ao : Option Addr) (l : List XE) : Prop := l = [] ∨ ∃ a o, ao = some ⟨a, o, none⟩ ∧ a < W.heap.size ∧ ∀ j x, l[j]? = some x → ∀ q v, (cellsX1 x)[q]? = some v → W.cell? ⟨a, o + j * 7 + q, none⟩ = some v
def XGood (W : World) (l : List XE) : Prop := ∀ x ∈ l, AtT W x.t x.ao ∧ x.t.kids.length ≤ x.cap ∧ x.cap ≤ 9223372036854775807 ∧ (x.ao = none → x.cap = 0)
theorem XRow.keep {w w1 : World} {ao : Option Addr} {l : List XE} (h : XRow w ao l) (hb : Below w.heap.size w w1) : XRow w1 ao l := by
  rcases h with h | ⟨a, o, e, ha, h3⟩
  · exact .inl h
  · exact .inr ⟨a, o, e, Nat.lt_of_lt_of_le ha hb.size, fun j x hx q v hv => (hb.cell (p := ⟨a, _, none⟩) ha).trans (h3 j x hx q v hv)⟩
theorem XGood.keep {w w1 : World} {l : List XE} (h : XGood w l) (hb : Below w.heap.size w w1) : XGood w1 l := fun x hx => ⟨(h x hx).1.keep hb, (h x hx).2⟩
/-- The parts of a node as such a row. -/
theorem kids_row {W : World} {ao : Option Addr} {l : List T} (h : AtL W ao 0 l) : ∃ ks : List XE, ks.map XE.t = l ∧ XRow W ao ks ∧ XGood W ks := by
  rcases Nat.eq_zero_or_pos l.length with h0 | h0
  · rw [List.eq_nil_of_length_eq_zero h0]
    exact ⟨[], rfl, .inl rfl, fun x hx => by simp at hx⟩
  · obtain ⟨a, o, e, ha, _⟩ := AtL.at h 0 l[0] (List.getElem?_eq_getElem h0)
    have hD : ∀ i, i < l.length → ∃ x : XE, l[i]? = some x.t ∧ (∀ q v, (cellsX1 x)[q]? = some v → W.cell? ⟨a, o + i * 7 + q, none⟩ = some v) ∧ AtT W x.t x.ao ∧ x.t.kids.length ≤ x.cap ∧ x.cap ≤ 9223372036854775807 ∧ (x.ao = none → x.cap = 0) := by
      intro i hi
      obtain ⟨a2, o2, e2, _, ao', cap, h2, h3, h4, h5, h6⟩ := AtL.at h i l[i] (List.getElem?_eq_getElem hi)
      obtain ⟨rfl, rfl⟩ : a2 = a ∧ o2 = o := by rw [e] at e2; simp at e2; exact ⟨e2.1.symm, e2.2.symm⟩
      rw [Nat.zero_add] at h2 h3
      refine ⟨⟨l[i], ao', cap⟩, List.getElem?_eq_getElem hi, fun q v hv => ?_, h6, h4, h5.1, h5.2⟩
      have hq : q < 7 := by have := (List.getElem?_eq_some_iff.1 hv).1; rw [cellsX1_length] at this; exact this
      by_cases h6' : q < 6
      · refine h2 q v ?_
        unfold cellsX1 at hv
        rw [List.getElem?_append_left (by show q < 6; exact h6')] at hv; exact hv
      · obtain rfl : q = 6 := by omega
        have hv2 : some (Value.slice ao' l[i].kids.length cap) = some v := hv
        rw [← hv2]; exact h3
    obtain ⟨ks, hk, hp⟩ := list_of hD
    refine ⟨ks, ?_, .inr ⟨a, o, e, ha, fun j x hx => (hp j x hx).2.1⟩, fun x hx => ?_⟩
    · apply List.ext_getElem?
      intro i
      rw [List.getElem?_map]
      cases hki : ks[i]? with
      | none =>
        have : ks.length ≤ i := List.getElem?_eq_none_iff.1 hki
        rw [List.getElem?_eq_none (by omega)]; rfl
      | some x => rw [(hp i x hki).1]; rfl
    · obtain ⟨j, hj⟩ := List.mem_iff_getElem?.1 hx
      exact (hp j x hj).2.2
def OwnX (w : World) (base : Nat) (v : Value) (l : List XE) : Prop := w.ownsRow base 27 7 v l.length (cellsX l)
theorem infoX : (Tryz.prog.info? 27).map (fun i => (i.zero, i.size, i.bytes)) = some (some (.agg #[.int .i64 0, .int .i64 0, .int .i64 0, .int .u64 0, .string ⟨#[]⟩, .string ⟨#[]⟩, .slice none 0 0]), 7, 88) := by kernel_rfl
theorem OwnX.nil (w : World) (base : Nat) : OwnX w base (.slice none 0 0) [] := World.ownsRow_nil _ _ _ _
theorem OwnX.keep {w w1 : World} {base : Nat} {v : Value} {l : List XE} (h : OwnX w base v l) (hb : Below w.heap.size w w1) : OwnX w1 base v l :=
  World.ownsRow.kept (row := none) h ⟨hb.os, hb.tape, hb.output, hb.size, fun k hk _ => hb.block k hk⟩ (by cases v.ownBlock <;> simp)
theorem OwnX.row {w : World} {base : Nat} {v : Value} {l : List XE} (h : OwnX w base v l) : ∃ ao cap, v = .slice ao l.length cap ∧ XRow w ao l := by
  rcases Nat.eq_zero_or_pos l.length with h0 | h0
  · rcases h.2 with ⟨rfl, _⟩ | ⟨g, cap, cur, rfl, _, _, h1, h2, _⟩
    · exact ⟨none, 0, by rw [h0], .inl (List.eq_nil_of_length_eq_zero h0)⟩
    · exact ⟨_, _, rfl, .inl (List.eq_nil_of_length_eq_zero h0)⟩
  · rcases h.2 with ⟨_, hl⟩ | ⟨g, cap, cur, rfl, _, _, h1, h2, _⟩
    · omega
    · refine ⟨_, _, rfl, .inr ⟨g, 0, rfl, (h.lt g rfl).2, fun j x hx q v hv => ?_⟩⟩
      have hj : j < l.length := (List.getElem?_eq_some_iff.1 hx).1
      have hq : q < 7 := by have := (List.getElem?_eq_some_iff.1 hv).1; rw [cellsX1_length] at this; exact this
      rw [Nat.zero_add, World.ownsRow.cellAt h (j * 7 + q) (by omega), cellsX_at l j q x hx hq]
      exact hv
theorem addr_addX (b o j : Nat) : (⟨b, o, none⟩ : Addr).add j = ⟨b, o + j, none⟩ := by unfold Addr.add; split <;> simp_all
/-- append(l, m...) of such rows. -/
theorem wpList_append_xs {ops : Array Oper} {rest : List Oper} {o : Oper} {a : Act} {Q : Exit → Act → World → Prop} {w : World} (hgd : o.guard = none) (s x : Operand)
    (ho : o.op = .call { callee := .builtin .append, args := #[s, x], argTypes := #[25, 25] }) (base : Nat) (v : Value) (l : List XE) (hs : a.eval s = v) (hown : OwnX w base v l)
    (m : List XE) (ao : Option Addr) (cap n : Nat) (hnm : n = m.length) (hx : a.eval x = .slice ao n cap) (h2 : XRow w ao m) (hn : ao = none → cap = 0) (hl : l.length + m.length ≤ 1000000) (hb : base ≤ w.heap.size)
    (h : ∀ v' w', OwnX w' base v' (l ++ m) → Below base w w' → wpList Tryz.prog ops Q rest (a.put o.dst v') w') : wpList Tryz.prog ops Q (o :: rest) a w := by
  subst hnm
  obtain ⟨i0, hi, hz0, hz1, hz2⟩ := info_parts infoX
  cases ao with
  | none =>
    obtain rfl : cap = 0 := hn rfl
    have hm : m = [] := by
      rcases h2 with h | ⟨_, _, h, _⟩
      · exact h
      · cases h
    subst hm
    refine wpList_append_own_none hgd s x 25 ho base 27 i0 7 Tryz.underlying25 hi v l.length (cellsX l) hs hown hx (h v w ?_ (Below.refl _ _))
    rw [List.append_nil]; exact hown
  | some ad =>
    refine wpList_append_own _ hgd s x 25 ho base 27 i0 _ 7 88 Tryz.underlying25 hi hz0 hz1 hz2 rfl (by decide) v l.length (cellsX l) hs hown ad m.length cap (cellsX m) hx (by rw [cellsX_length]) ?_ ?_ (by unfold maxLen; omega) (by omega) hb ?_
    · intro j u hj
      have hjl : j < m.length * 7 := by have := (List.getElem?_eq_some_iff.1 hj).1; rw [cellsX_length] at this; exact this
      rcases h2 with h | ⟨p, q, h, _, hc⟩
      · rw [h] at hjl; simp at hjl
      · simp only [Option.some.injEq] at h
        subst h
        have hdm : j / 7 < m.length := by omega
        have e : j / 7 * 7 + j % 7 = j := by omega
        have hat := cellsX_at m (j / 7) (j % 7) _ (List.getElem?_eq_getElem hdm) (by omega)
        rw [e] at hat
        rw [addr_addX, ← e, ← Nat.add_assoc]
        exact hc (j / 7) _ (List.getElem?_eq_getElem hdm) (j % 7) u (by rw [← hat]; exact hj)
    · intro u hu
      unfold cellsX at hu
      obtain ⟨x, _, hx⟩ := List.mem_flatMap.1 hu
      simp [cellsX1, ndC] at hx
      rcases hx with rfl | rfl | rfl | rfl | rfl | rfl | rfl <;> rfl
    · intro v' w' h1 hg _
      refine h v' w' ?_ ((Below.refl base w).grown hg hb (fun k hk => (hown.lt k hk).1))
      unfold OwnX
      rw [cellsX_append, List.length_append]
      exact h1
end Go.Proofs.YtfedlchncngafaaGreatDoor
