/-
  CONTRACT of the reference's climbed.
  CONDITIONS: each theorem's own hypotheses.
-/
import Derived.Test.YtcnemacakjemjaaDoorClimbP
import Derived.Test.YtcnemacakjemjaaDoorGRefS
namespace Go.Proofs.YtcnemacakjemjaaDoor
open Go.RowKit CodeMath Go.Proofs.YtcnemacakjemjaaDoor.FrameMath
set_option linter.unusedVariables false
set_option maxRecDepth 100000

theorem sliceL_first (ao : Option Addr) (n cap m : Nat) (hm : m ≤ cap) (W : World) : (Instr.slice 24 (.slice ao n cap) none (some (.int .i64 (m : Int))) none).run Tryd.prog W = .ok (.slice ao m cap) W := by
  have hs : (sizeOf (Tryd.prog.elem 24)).run Tryd.prog W = .ok 1 W := by kernel_rfl
  have h := run_slice_h (P := Tryd.prog) W 24 ao n cap (by kernel_rfl) .i64 (m : Int) (by omega) (by omega)
  rw [h, hs, Int.toNat_natCast]
  simp only [Result.andThen, sliced, Nat.sub_zero]
  cases ao with
  | none => simp
  | some a => simp [Addr.add]
theorem Lines.front {w : World} {ao : Option Addr} {r s : List (List UInt8)} (h : Lines w ao (r ++ s)) : Lines w ao r := by
  rcases h with h | ⟨a, o, h1, h2, h3⟩
  · left; exact (List.append_eq_nil_iff.1 h).1
  · exact .inr ⟨a, o, h1, h2, fun i l hi => h3 i l (by rw [List.getElem?_append_left (List.getElem?_eq_some_iff.1 hi).1]; exact hi)⟩
def ClimbF (m N : Int) (k p pm : Nat) (DV L : Value) (ap : Option Addr) (ln lm cp : Nat) (R : DR) : Nat → Value → World → Prop
  | 0, v, _ => v = .int .i64 m
  | 1, v, _ => v = .int .i64 N
  | 2, v, _ => v = .int .i64 (k : Int)
  | 3, v, _ => v = .int .i64 (p : Int)
  | 4, v, _ => v = .int .i64 N
  | 5, v, _ => v = .int .i64 (k : Int)
  | 6, v, _ => v = .int .i64 (pm : Int)
  | 7, v, _ => v = DV
  | 8, v, _ => v = L
  | 9, v, _ => v = L
  | 10, v, _ => v = .int .i64 (ln : Int)
  | 11, v, _ => v = .int .i64 (lm : Int)
  | 12, v, _ => v = .slice ap lm cp
  | 13, v, w => ∃ u, v = .tuple #[u, .bool (bR R)] ∧ ClU R u w
  | 14, v, w => ∃ u, v = .tuple #[u, .bool (bR R)] ∧ ClU R u w
  | 15, v, w => ClU R v w
  | 16, v, _ => v = .bool (bR R)
  | 17, v, w => ClU R v w
  | _, _, _ => True
theorem climbF_keep {m N : Int} {k p pm : Nat} {DV L : Value} {ap : Option Addr} {ln lm cp : Nat} {R : DR} (i : Nat) (v : Value) (w w' : World) (h : ClimbF m N k p pm DV L ap ln lm cp R i v w) (he : Below w.heap.size w w') : ClimbF m N k p pm DV L ap ln lm cp R i v w' := by
  unfold ClimbF at *
  split at h <;> (try exact h) <;> (try exact trivial)
  · obtain ⟨u, h1, h2⟩ := h; exact ⟨u, h1, h2.keep he⟩
  · obtain ⟨u, h1, h2⟩ := h; exact ⟨u, h1, h2.keep he⟩
  · exact h.keep he
  · exact h.keep he
end Go.Proofs.YtcnemacakjemjaaDoor
