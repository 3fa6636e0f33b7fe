/-
  LEVELS of a tree of digests: plain, and in memory.
  CONDITIONS: each theorem's own hypotheses.
-/
import Derived.Test.YtdpfjhhcgaeiiabDoorLeaf
import Derived.Test.YtdpfjhhcgaeiiabDoorOpenS
namespace Go.Proofs.YtdpfjhhcgaeiiabDoor
open Go.RowKit CodeMath Go.Proofs.YtdpfjhhcgaeiiabDoor.FrameMath
set_option linter.unusedVariables false
set_option maxRecDepth 100000

/-- What the leaves of slots are. -/
inductive LR where
  | err (e : Int)
  | ok (rows : List (List UInt8))
def consR (b : List UInt8) : LR → LR
  | .err e => .err e
  | .ok bs => .ok (b :: bs)
def leavesR (m : Int) : List Sl → LR
  | [] => .ok []
  | x :: l => match leafR m x.f x.s x.d with
    | .err e => .err e
    | .ok b => consR b (leavesR m l)
theorem leavesR_next (m : Int) : ∀ (l : List Sl) (i : Nat) (x : Sl) (rows : List (List UInt8)), leavesR m (l.take i) = .ok rows → l[i]? = some x →
    (∀ e, leafR m x.f x.s x.d = .err e → leavesR m l = .err e) ∧ ∀ b, leafR m x.f x.s x.d = .ok b → leavesR m (l.take (i + 1)) = .ok (rows ++ [b])
  | [], i, x, rows, h, hx => by simp at hx
  | y :: l, 0, x, rows, h, hx => by
    simp only [List.getElem?_cons_zero, Option.some.injEq] at hx
    subst hx
    rw [List.take_zero] at h
    cases h
    refine ⟨fun e he => by simp [leavesR, he], fun b hb => by simp [leavesR, hb, consR]⟩
  | y :: l, i + 1, x, rows, h, hx => by
    simp only [List.getElem?_cons_succ] at hx
    rw [List.take_succ_cons] at h ⊢
    cases hy : leafR m y.f y.s y.d with
    | err e => simp [leavesR, hy] at h
    | ok b0 =>
      simp only [leavesR, hy] at h ⊢
      cases hr : leavesR m (l.take i) with
      | err e => rw [hr] at h; cases h
      | ok r0 =>
        rw [hr] at h
        cases h
        obtain ⟨h1, h2⟩ := leavesR_next m l i x r0 hr hx
        exact ⟨fun e he => by rw [h1 e he]; rfl, fun b hb => by rw [h2 b hb]; rfl⟩
theorem leavesR_length (m : Int) : ∀ (l : List Sl) (rows : List (List UInt8)), leavesR m l = .ok rows → rows.length = l.length
  | [], rows, h => by cases h; rfl
  | y :: l, rows, h => by
    cases hy : leafR m y.f y.s y.d with
    | err e => simp [leavesR, hy] at h
    | ok b0 =>
      simp only [leavesR, hy] at h
      cases hr : leavesR m l with
      | err e => rw [hr] at h; cases h
      | ok r0 => rw [hr] at h; cases h; simp [leavesR_length m l r0 hr]
theorem leafR_ne (m : Int) (f : Bool) (s d : List UInt8) (e : Int) (h : leafR m f s d = .err e) : e ≠ 0 := by
  intro h0
  subst h0
  unfold leafR at h
  split at h
  · cases h
  · split at h
    · cases h
    · split at h <;> cases h
/-- Digests are not too long. -/
theorem digB_length (m : Int) (t : Nat) (ps : List (List UInt8)) : (digB m t ps).length ≤ 32 + (2 + total ps) := by
  unfold digB
  split
  · rw [frame_length]; omega
  · have := ShaMath.sha_length (frame t ps); omega
theorem leafR_length (m : Int) (f : Bool) (s d b : List UInt8) (h : leafR m f s d = .ok b) : b.length ≤ 600 := by
  unfold leafR at h
  split at h
  · cases h
  · split at h
    · cases h
    · rename_i h2
      split at h
      · cases h
      · rename_i h3
        cases h
        have h1 := digB_length m 1 [s, contB f d]
        have hc := contB_length f d
        simp only [total] at h1
        omega
theorem leavesR_each (m : Int) : ∀ (l : List Sl) (rows : List (List UInt8)), leavesR m l = .ok rows → ∀ b ∈ rows, b.length ≤ 600
  | [], rows, h => by cases h; simp
  | y :: l, rows, h => by
    cases hy : leafR m y.f y.s y.d with
    | err e => simp [leavesR, hy] at h
    | ok b0 =>
      simp only [leavesR, hy] at h
      cases hr : leavesR m l with
      | err e => rw [hr] at h; cases h
      | ok r0 =>
        rw [hr] at h; cases h
        intro b hb
        rcases List.mem_cons.1 hb with rfl | hb
        · exact leafR_length m _ _ _ _ hy
        · exact leavesR_each m l r0 hr b hb
/-! ### in memory -/
/-- A level: a whole block of lines. -/
def LevB (w : World) (g : Nat) (rows : List (List UInt8)) : Prop := ∃ us : List Value, Blk w g 28 us ∧ us.length = rows.length ∧ ∀ (i : Nat) (l : List UInt8), rows[i]? = some l → ∃ u : Value, us[i]? = some u ∧ RowT w u l
theorem grown_set (w : World) (a : Addr) (u : Value) : w.grownBy (w.setCell a u) (some a.block) :=
  ⟨rfl, rfl, rfl, by simp, fun k _ hk => heap_setCell_other w a k u (fun e => hk (by rw [e]))⟩
theorem LevB.keep {w w' : World} {g : Nat} {rows : List (List UInt8)} (h : LevB w g rows) (hb : Below w.heap.size w w') : LevB w' g rows := by
  obtain ⟨us, h1, h2, h3⟩ := h
  refine ⟨us, h1.call hb, h2, fun i l hi => ?_⟩
  obtain ⟨u, k1, k2⟩ := h3 i l hi
  exact ⟨u, k1, k2.keep hb⟩
theorem LevB.lt {w : World} {g : Nat} {rows : List (List UInt8)} (h : LevB w g rows) : g < w.heap.size := by
  obtain ⟨us, h1, _⟩ := h; exact h1.lt
theorem LevB.lines {w : World} {g : Nat} {rows : List (List UInt8)} (h : LevB w g rows) : Lines w (some ⟨g, 0, none⟩) rows := by
  obtain ⟨us, h1, h2, h3⟩ := h
  refine LinesV.lines (.inr ⟨g, 0, rfl, h1.lt, fun i l hi => ?_⟩)
  obtain ⟨u, k1, k2⟩ := h3 i l hi
  exact ⟨u, by rw [Nat.zero_add]; exact h1.cell k1, k2.row⟩
theorem LevB.set {w : World} {g : Nat} {rows : List (List UInt8)} (h : LevB w g rows) (i : Nat) (u : Value) (l : List UInt8) (hu : RowT w u l) : LevB (w.setCell ⟨g, i, none⟩ u) g (rows.set i l) := by
  obtain ⟨us, h1, h2, h3⟩ := h
  have hg : w.grownBy (w.setCell ⟨g, i, none⟩ u) (some g) := grown_set w ⟨g, i, none⟩ u
  have hty : ∀ b, some g = some b → ∃ cur T fz, w.heap[b]? = some (.cells cur T fz) ∧ (T = 28 ∨ T = 23) := fun b hb => by
    cases hb; exact ⟨_, _, _, h1, .inl rfl⟩
  refine ⟨us.set i u, h1.set i u, by simp [h2], fun j l' hj => ?_⟩
  by_cases hij : i = j
  · subst hij
    have hi : i < rows.length := by have := (List.getElem?_eq_some_iff.1 hj).1; simpa using this
    rw [List.getElem?_set_self hi] at hj
    cases hj
    exact ⟨u, List.getElem?_set_self (by omega), hu.grown hg hty⟩
  · rw [List.getElem?_set_ne hij] at hj
    obtain ⟨u', k1, k2⟩ := h3 j l' hj
    exact ⟨u', by rw [List.getElem?_set_ne hij]; exact k1, k2.grown hg hty⟩
theorem LevB.cell {w : World} {g : Nat} {rows : List (List UInt8)} (h : LevB w g rows) (i : Nat) (hi : i < rows.length) : (∃ u, w.cell? ⟨g, i, none⟩ = some u) ∧ w.frozen? ⟨g, i, none⟩ = false := by
  obtain ⟨us, h1, h2, h3⟩ := h
  exact ⟨⟨_, h1.cell (List.getElem?_eq_getElem (show i < us.length by omega))⟩, h1.free i⟩
theorem LevB.fresh {w : World} {base n g : Nat} (h : w.ownsRow base 28 1 (.slice (some ⟨g, 0, none⟩) n n) n (madeCells (Value.slice none 0 0).cells (n * 1)).toList) : LevB w g (List.replicate n []) := by
  rcases h.2 with ⟨h0, _⟩ | ⟨g', cap, cur, e, k1, k2, k3, k4, k5, k6⟩
  · cases h0
  · obtain ⟨e1, _, e2⟩ := Value.slice.inj e
    simp only [Option.some.injEq, Addr.mk.injEq, and_true] at e1
    subst e1 e2
    have hcur : cur.toList = (madeCells (Value.slice none 0 0).cells (n * 1)).toList := by
      rw [← k6, List.take_of_length_le (by simp; omega)]
    refine ⟨cur.toList, by unfold Blk; rw [Array.toArray_toList]; exact k2, by simp; omega, fun i l hi => ?_⟩
    have hin : i < n := by have := (List.getElem?_eq_some_iff.1 hi).1; simpa using this
    have hl : l = [] := by
      have := (List.getElem?_eq_some_iff.1 hi).2
      rw [← this]; simp
    subst hl
    refine ⟨.slice none 0 0, ?_, ⟨none, 0, rfl, Nat.le_refl _, by decide, fun _ => rfl, .inl rfl⟩⟩
    rw [hcur]
    simp [madeCells, hin, Value.cells, Nat.mod_one]
def LevPost (R : LR) (n : Nat) (w : World) (e : Ending) (w' : World) : Prop := match R with
  | .err c => e = .returned (.tuple #[.slice none 0 0, .int .i64 c]) ∧ Below w.heap.size w w'
  | .ok rows => ∃ g, e = .returned (.tuple #[.slice (some ⟨g, 0, none⟩) n n, .int .i64 0]) ∧ w.heap.size ≤ g ∧ LevB w' g rows ∧ Below w.heap.size w w'
end Go.Proofs.YtdpfjhhcgaeiiabDoor
