/-
  MERGED: SlotH, SlotI.
  CONDITIONS: each theorem's own hypotheses.
-/
import Derived.Test.YtdpfjhhcgaeiiabDoorGLev
import Derived.Test.YtdpfjhhcgaeiiabDoorGSlot

/-! CONTRACTS of the reference's whole and slotsFault. CONDITIONS: each theorem's own hypotheses. -/
namespace Go.Proofs.YtdpfjhhcgaeiiabDoor
open Go.RowKit CodeMath Go.Proofs.YtdpfjhhcgaeiiabDoor.FrameMath
set_option linter.unusedVariables false
set_option maxRecDepth 100000

def pwI : Nat → Int
  | 0 => 1
  | 1 => 2
  | 2 => 4
  | 3 => 8
  | 4 => 16
  | 5 => 32
  | 6 => 64
  | _ => 0
theorem isPow_at (i : Nat) (hi : i < 7) : isPow (pwI i) = true := by
  match i, hi with
  | 0, _ => rfl
  | 1, _ => rfl
  | 2, _ => rfl
  | 3, _ => rfl
  | 4, _ => rfl
  | 5, _ => rfl
  | 6, _ => rfl
theorem isPow_none (n : Int) (h : ∀ j, j < 7 → n ≠ pwI j) : isPow n = false := by
  have h0 := h 0 (by decide)
  have h1 := h 1 (by decide)
  have h2 := h 2 (by decide)
  have h3 := h 3 (by decide)
  have h4 := h 4 (by decide)
  have h5 := h 5 (by decide)
  have h6 := h 6 (by decide)
  simp only [pwI] at h0 h1 h2 h3 h4 h5 h6
  unfold isPow
  simp only [decide_eq_false_iff_not]
  omega
theorem pw_range (i : Nat) : 0 ≤ pwI i ∧ pwI i ≤ 64 := by
  unfold pwI
  split <;> omega
def faultOf : LR → Int
  | .err e => e
  | .ok _ => 0
end Go.Proofs.YtdpfjhhcgaeiiabDoor

/-! CONTRACTS of the reference's joined, rootOf. CONDITIONS: each theorem's own hypotheses. -/
namespace Go.Proofs.YtdpfjhhcgaeiiabDoor
open Go.RowKit CodeMath Go.Proofs.YtdpfjhhcgaeiiabDoor.FrameMath
set_option linter.unusedVariables false
set_option maxRecDepth 100000

theorem leavesR_take (m : Int) : ∀ (k : Nat) (l : List Sl) (rows : List (List UInt8)), leavesR m l = .ok rows → leavesR m (l.take k) = .ok (rows.take k) ∧ leavesR m (l.drop k) = .ok (rows.drop k)
  | 0, l, rows, h => ⟨by simp [leavesR], by simpa using h⟩
  | k + 1, [], rows, h => by cases h; exact ⟨by simp [leavesR], by simp [leavesR]⟩
  | k + 1, y :: l, rows, h => by
    cases hy : leafR m y.f y.s y.d with
    | err q => simp [leavesR, hy] at h
    | ok b0 =>
      simp only [leavesR, hy] at h
      cases hr : leavesR m l with
      | err q => rw [hr] at h; cases h
      | ok r0 =>
        rw [hr] at h
        cases h
        obtain ⟨h1, h2⟩ := leavesR_take m k l r0 hr
        refine ⟨?_, by simpa using h2⟩
        rw [List.take_succ_cons]
        simp only [leavesR, hy, h1]
        rfl
theorem rootB_length (m : Int) : ∀ (h : Nat) (rows : List (List UInt8)), rows.length = 2 ^ h → (∀ b ∈ rows, b.length ≤ 600) → (rootB m h rows).length + 42 ≤ 2 ^ h * 642
  | 0, rows, hl, hb => by
    match rows, hl with
    | [a], _ =>
      have := hb a (by simp)
      show a.length + 42 ≤ _
      omega
  | h + 1, rows, hl, hb => by
    have e1 : 2 ^ (h + 1) = 2 * 2 ^ h := by rw [Nat.pow_succ, Nat.mul_comm]
    have h1 := rootB_length m h (rows.take (2 ^ h)) (by rw [List.length_take]; omega) (fun b hx => hb b (List.mem_of_mem_take hx))
    have h2 := rootB_length m h (rows.drop (2 ^ h)) (by rw [List.length_drop]; omega) (fun b hx => hb b (List.mem_of_mem_drop hx))
    have h3 := nodeB_length m (rootB m h (rows.take (2 ^ h))) (rootB m h (rows.drop (2 ^ h)))
    show (nodeB m _ _).length + 42 ≤ _
    rw [e1, Nat.mul_assoc]
    omega
/-! ### pieces of slices of slots -/
def pieceS (ao : Option Addr) (lo cap : Nat) : Option Addr := if cap = lo then ao else ao.map (·.add (lo * 3))
theorem sliceS_first (ao : Option Addr) (n cap m : Nat) (hm : m ≤ cap) (W : World) : (Instr.slice 24 (.slice ao n cap) none (some (.int .i64 (m : Int))) none).run Tryd.prog W = .ok (.slice ao m cap) W := by
  have hs : (sizeOf (Tryd.prog.elem 24)).run Tryd.prog W = .ok 3 W := by kernel_rfl
  have h := run_slice_h (P := Tryd.prog) W 24 ao n cap (by kernel_rfl) .i64 (m : Int) (by omega) (by omega)
  rw [h, hs, Int.toNat_natCast]
  simp only [Result.andThen, sliced, Nat.sub_zero]
  cases ao with
  | none => simp
  | some a => simp [Addr.add]
theorem sliceS_last (ao : Option Addr) (n cap lo : Nat) (h1 : lo ≤ n) (W : World) : (Instr.slice 24 (.slice ao n cap) (some (.int .i64 (lo : Int))) none none).run Tryd.prog W = .ok (.slice (pieceS ao lo cap) (n - lo) (cap - lo)) W := by
  have hs : (sizeOf (Tryd.prog.elem 24)).run Tryd.prog W = .ok 3 W := by kernel_rfl
  have h := run_slice_l (P := Tryd.prog) W 24 ao n cap (by kernel_rfl) .i64 (lo : Int) (by omega) (by omega)
  rw [h, hs, Int.toNat_natCast]
  rfl
theorem Slots.take {W : World} {ao : Option Addr} {l : List Sl} (h : Slots W ao l) (k : Nat) : Slots W ao (l.take k) := by
  rcases h with h | ⟨a, o, h1, h2, h3⟩
  · left; rw [h]; simp
  · exact .inr ⟨a, o, h1, h2, fun i x hx => h3 i x (by rw [List.getElem?_take] at hx; split at hx <;> simp_all)⟩
theorem Slots.drop {W : World} {ao : Option Addr} {l : List Sl} (h : Slots W ao l) (k cap : Nat) (hc : l.length ≤ cap) : Slots W (pieceS ao k cap) (l.drop k) := by
  unfold pieceS
  split
  · left; exact List.drop_of_length_le (by omega)
  · rcases h with h | ⟨a, o, h1, h2, h3⟩
    · left; rw [h]; simp
    · subst h1
      refine .inr ⟨a, o + k * 3, ?_, h2, fun i x hx => ?_⟩
      · by_cases hk : k = 0
        · subst hk; rfl
        · have hk3 : ¬ k * 3 = 0 := by omega
          simp [Addr.add, hk3]
      · rw [List.getElem?_drop] at hx
        have := h3 _ x hx
        rw [show o + k * 3 + i * 3 = o + (k + i) * 3 by omega]
        exact this
def RootF (m : Int) (L : Value) (k n : Nat) (A1 A2 : Option Addr) (c1 c2 : Nat) (X Y D : List UInt8) : Nat → Value → World → Prop
  | 0, v, _ => v = .int .i64 m
  | 1, v, _ => v = .int .i64 m
  | 2, v, _ => v = L
  | 3, v, _ => v = .int .i64 (k : Int)
  | 4, v, _ => v = .slice A1 k c1
  | 5, v, w => ∃ a n k, v = .slice a n k ∧ RowT w (.slice a n k) X
  | 6, v, _ => v = .int .i64 m
  | 7, v, _ => v = L
  | 8, v, _ => v = .int .i64 (k : Int)
  | 9, v, _ => v = .slice A2 n c2
  | 10, v, w => ∃ a n k, v = .slice a n k ∧ RowT w (.slice a n k) Y
  | 11, v, w => RowT w v D
  | _, _, _ => True
theorem rootF_keep {m : Int} {L : Value} {k n : Nat} {A1 A2 : Option Addr} {c1 c2 : Nat} {X Y D : List UInt8} (i : Nat) (v : Value) (w w' : World) (h : RootF m L k n A1 A2 c1 c2 X Y D i v w) (he : Below w.heap.size w w') : RootF m L k n A1 A2 c1 c2 X Y D i v w' := by
  unfold RootF at *
  split at h <;> (try exact h) <;> (try exact trivial)
  · obtain ⟨a, n, k, h1, h2⟩ := h; exact ⟨a, n, k, h1, h2.keep he⟩
  · obtain ⟨a, n, k, h1, h2⟩ := h; exact ⟨a, n, k, h1, h2.keep he⟩
  · exact h.keep he
end Go.Proofs.YtdpfjhhcgaeiiabDoor
