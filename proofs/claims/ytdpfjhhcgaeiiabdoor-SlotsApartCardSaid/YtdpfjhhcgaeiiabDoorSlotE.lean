/-
  CONTRACT of package slots' levels.
  CONDITIONS: package sum's roundWords hold what their initialiser lays ('KW').
-/
import Derived.Test.YtdpfjhhcgaeiiabDoorSlotD
import Derived.Test.YtdpfjhhcgaeiiabDoorIsNum
namespace Go.Proofs.YtdpfjhhcgaeiiabDoor
open Go.RowKit CodeMath Go.Proofs.YtdpfjhhcgaeiiabDoor.FrameMath
set_option linter.unusedVariables false
set_option maxRecDepth 100000

/-- The levels of a tree, from the bottom up. -/
def tower (m : Int) : Nat → List (List UInt8) → List (List (List UInt8))
  | 0, rows => [rows]
  | h + 1, rows => rows :: tower m h (up m rows)
theorem tower_length (m : Int) : ∀ h rows, (tower m h rows).length = h + 1
  | 0, rows => rfl
  | h + 1, rows => by show (tower m h (up m rows)).length + 1 = _; rw [tower_length m h]
theorem pow_of {n : Nat} (h : isPow n = true) : ∃ k, k ≤ 6 ∧ n = 2 ^ k := by
  unfold isPow at h
  have h1 := of_decide_eq_true h
  rcases h1 with h | h | h | h | h | h | h
  · exact ⟨0, by decide, by omega⟩
  · exact ⟨1, by decide, by omega⟩
  · exact ⟨2, by decide, by omega⟩
  · exact ⟨3, by decide, by omega⟩
  · exact ⟨4, by decide, by omega⟩
  · exact ⟨5, by decide, by omega⟩
  · exact ⟨6, by decide, by omega⟩
theorem up_mem (m : Int) : ∀ (rows : List (List UInt8)) (x : List UInt8), x ∈ up m rows → ∃ a ∈ rows, ∃ b ∈ rows, x = nodeB m a b
  | [], x, h => by simp [up] at h
  | [a], x, h => by simp [up] at h
  | a :: b :: r, x, h => by
    rcases List.mem_cons.1 (show x ∈ nodeB m a b :: up m r from h) with rfl | h
    · exact ⟨a, by simp, b, by simp, rfl⟩
    · obtain ⟨a', h1, b', h2, e⟩ := up_mem m r x h
      exact ⟨a', by simp [h1], b', by simp [h2], e⟩
/-- Digests that are not too long for their level. -/
def Fit (rows : List (List UInt8)) : Prop := ∀ b ∈ rows, rows.length * (b.length + 42) ≤ 41088
theorem Fit.max {rows : List (List UInt8)} (h : Fit rows) (b : List UInt8) (hb : b ∈ rows) : b.length ≤ 1000000 := by
  have h1 := h b hb
  have h2 : 1 ≤ rows.length := by cases rows with
    | nil => cases hb
    | cons a r => simp
  have h3 := Nat.mul_le_mul_right (b.length + 42) h2
  omega
theorem Fit.up {m : Int} {rows : List (List UInt8)} (h : Fit rows) (k : Nat) (hk : rows.length = 2 * k) : Fit (up m rows) := by
  intro x hx
  obtain ⟨a, ha, b, hb, rfl⟩ := up_mem m rows x hx
  have h1 := h a ha
  have h2 := h b hb
  have h3 := nodeB_length m a b
  have hl := up_length m rows
  rw [hk] at h1 h2 hl
  have hl' : (Go.Proofs.YtdpfjhhcgaeiiabDoor.up m rows).length = k := by omega
  rw [hl']
  have h4 : k * ((nodeB m a b).length + 42) ≤ k * ((a.length + 42) + (b.length + 42)) := Nat.mul_le_mul_left k h3
  have h5 := Nat.mul_add k (a.length + 42) (b.length + 42)
  rw [h5] at h4
  rw [Nat.mul_assoc] at h1 h2
  omega
theorem Fit.leaves {m : Int} {l : List Sl} {rows : List (List UInt8)} (h : leavesR m l = .ok rows) (hl : l.length ≤ 64) : Fit rows := by
  intro b hb
  have h1 := leavesR_each m l rows h b hb
  have h2 := leavesR_length m l rows h
  rw [h2]
  have h3 : l.length * (b.length + 42) ≤ 64 * 642 := Nat.mul_le_mul hl (by omega)
  omega
/-! ### in memory -/
theorem infoT : (Tryd.prog.info? 23).map (fun i => (i.zero, i.size, i.bytes)) = some (some (.slice none 0 0), 1, 24) := by kernel_rfl
theorem LevB.grown {w w' : World} {g : Nat} {rows : List (List UInt8)} (h : LevB w g rows) {row : Option Nat} (hg : w.grownBy w' row) (hr : ∀ b, row = some b → ∃ cur fz, w.heap[b]? = some (.cells cur 23 fz)) : LevB w' g rows := by
  obtain ⟨us, h1, h2, h3⟩ := h
  refine ⟨us, h1.same (hg.block g h1.lt (fun hh => ?_)), h2, fun i l hi => ?_⟩
  · obtain ⟨cur, fz, h6⟩ := hr g hh.symm
    unfold Blk at h1
    rw [h1] at h6
    cases h6
  · obtain ⟨u, k1, k2⟩ := h3 i l hi
    exact ⟨u, k1, k2.grown hg (fun b hb => by obtain ⟨cur, fz, h⟩ := hr b hb; exact ⟨cur, _, fz, h, .inr rfl⟩)⟩
/-- A slice of levels of the call's own. -/
def OwnT (w : World) (base : Nat) (v : Value) (lv : List (List (List UInt8))) : Prop := ∃ us : List Value, w.ownsRow base 23 1 v lv.length us ∧ ∀ (k : Nat) (rows : List (List UInt8)), lv[k]? = some rows → ∃ g : Nat, us[k]? = some (Value.slice (some ⟨g, 0, none⟩) rows.length rows.length) ∧ LevB w g rows
theorem OwnT.keep {w w1 : World} {base : Nat} {v : Value} {lv : List (List (List UInt8))} (h : OwnT w base v lv) (hb : Below w.heap.size w w1) : OwnT w1 base v lv := by
  obtain ⟨us, h1, h2⟩ := h
  refine ⟨us, World.ownsRow.kept (row := none) h1 ⟨hb.os, hb.tape, hb.output, hb.size, fun k hk _ => hb.block k hk⟩ (by cases v.ownBlock <;> simp), fun k rows hi => ?_⟩
  obtain ⟨g, k1, k2⟩ := h2 k rows hi
  exact ⟨g, k1, k2.keep hb⟩
theorem OwnT.one (w : World) (base g : Nat) (rows : List (List UInt8)) (n : Nat) (hn : rows.length = n) (h : LevB w g rows) (hb : base ≤ w.heap.size) : OwnT (w.alloc (.cells #[.slice (some ⟨g, 0, none⟩) n n] 23)) base (.slice (some ⟨w.heap.size, 0, none⟩) 1 1) [rows] := by
  subst hn
  refine ⟨[.slice (some ⟨g, 0, none⟩) rows.length rows.length], World.ownsRow_lit w #[.slice (some ⟨g, 0, none⟩) rows.length rows.length] 1 hb (by unfold maxLen; omega) rfl, fun k r hk => ?_⟩
  match k, hk with
  | 0, hk => simp at hk; subst hk; exact ⟨g, rfl, h.keep ((Below.refl _ _).alloc (Nat.le_refl _) _)⟩
/-- append(tree, level). -/
theorem wpList_append_level {ops : Array Oper} {rest : List Oper} {o : Oper} {a : Act} {Q : Exit → Act → World → Prop} {w : World} (hgd : o.guard = none) (s x : Operand)
    (ho : o.op = .call { callee := .builtin .append, args := #[s, x], argTypes := #[61, 61] }) (base : Nat) (v : Value) (lv : List (List (List UInt8))) (hs : a.eval s = v) (hown : OwnT w base v lv)
    (g : Nat) (rows : List (List UInt8)) (n m : Nat) (hn : rows.length = n) (hx : a.eval x = .slice (some ⟨m, 0, none⟩) 1 1) (hm : m = w.heap.size) (hu : LevB w g rows) (hl : lv.length ≤ 1000000) (hb : base ≤ w.heap.size)
    (h : ∀ v' w', OwnT w' base v' (lv ++ [rows]) → LevB w' g rows → Below base w w' → wpList Tryd.prog ops Q rest (a.put o.dst v') w') : wpList Tryd.prog ops Q (o :: rest) a (w.alloc (.cells #[.slice (some ⟨g, 0, none⟩) n n] 23)) := by
  subst hm hn
  obtain ⟨us, h1, h2⟩ := hown
  obtain ⟨i0, hi, hz0, hz1, hz2⟩ := info_parts infoT
  refine wpList_append_own _ hgd s x 61 ho base 23 i0 (.slice none 0 0) 1 24 Tryd.underlying61 hi hz0 hz1 hz2 rfl (by decide) v lv.length us hs (World.ownsRow.alloc h1 _) ⟨w.heap.size, 0, none⟩ 1 1 [.slice (some ⟨g, 0, none⟩) rows.length rows.length] hx rfl ?_ ?_ (by unfold maxLen; omega) (by omega) (by simp; omega) ?_
  · intro j u' hj
    match j, hj with
    | 0, hj =>
      simp at hj; subst hj
      rw [addr_zero, World.cell?_alloc_new]
      rfl
  · intro u' hu'
    simp at hu'; subst hu'; rfl
  · intro v' w' k1 k2 _
    have hg0 : w.grownBy w' v.ownBlock := grown_trans (World.grownBy_alloc w _ _) k2
    have hty : ∀ b, v.ownBlock = some b → ∃ cur fz, w.heap[b]? = some (.cells cur 23 fz) := fun b hb => ownsRow_typed h1 b hb
    refine h v' w' ⟨us ++ [.slice (some ⟨g, 0, none⟩) rows.length rows.length], by rw [List.length_append]; exact k1, fun k r hk => ?_⟩ (hu.grown hg0 hty) ?_
    · have hul : us.length = lv.length := by have := h1.1; omega
      by_cases hil : k < lv.length
      · rw [List.getElem?_append_left hil] at hk
        obtain ⟨g', q1, q2⟩ := h2 k r hk
        exact ⟨g', by rw [List.getElem?_append_left (by omega)]; exact q1, q2.grown hg0 hty⟩
      · rw [List.getElem?_append_right (by omega)] at hk
        have hi0 : k - lv.length = 0 := by
          rcases Nat.eq_zero_or_pos (k - lv.length) with h0 | h0
          · exact h0
          · rw [List.getElem?_eq_none (by simp; omega)] at hk; cases hk
        rw [hi0] at hk
        simp only [List.getElem?_cons_zero, Option.some.injEq] at hk
        subst hk
        exact ⟨g, by rw [List.getElem?_append_right (by omega), show k - us.length = 0 by omega]; rfl, hu.grown hg0 hty⟩
    · exact ((Below.refl base w).alloc hb _).grown k2 (by simp; omega) (fun k hk => (h1.lt k hk).1)
/-- What levels answers. -/
inductive TR where
  | err (e : Int)
  | ok (h : Nat) (rows : List (List UInt8))
def levelsR (m : Int) (l : List Sl) : LR := if isMode m = false then .err 2 else if isPow l.length = false then .err 1 else leavesR m l
def TreePost (m : Int) (h : Nat) (R : LR) (w : World) (e : Ending) (w' : World) : Prop := match R with
  | .err c => e = .returned (.tuple #[.slice none 0 0, .int .i64 c]) ∧ Below w.heap.size w w'
  | .ok rows => ∃ v, e = .returned (.tuple #[v, .int .i64 0]) ∧ OwnT w' w.heap.size v (tower m h rows) ∧ Below w.heap.size w w'
theorem leavesR_ne (m : Int) : ∀ (l : List Sl) (e : Int), leavesR m l = .err e → e ≠ 0
  | [], e, h => by cases h
  | y :: l, e, h => by
    cases hy : leafR m y.f y.s y.d with
    | err q => simp only [leavesR, hy] at h; cases h; exact leafR_ne _ _ _ _ _ hy
    | ok b0 =>
      simp only [leavesR, hy] at h
      cases hr : leavesR m l with
      | err q => rw [hr] at h; cases h; exact leavesR_ne m l e hr
      | ok r0 => rw [hr] at h; cases h
end Go.Proofs.YtdpfjhhcgaeiiabDoor
