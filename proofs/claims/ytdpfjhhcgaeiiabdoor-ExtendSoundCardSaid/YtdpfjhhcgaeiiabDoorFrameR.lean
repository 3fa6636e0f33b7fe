/-
  CONTRACTS of the reference's framed and FrameOf.
  CONDITIONS: each theorem's own hypotheses.
-/
import Derived.Test.YtdpfjhhcgaeiiabDoorGBase
import Derived.Test.YtdpfjhhcgaeiiabDoorGReg
import Derived.Deep.Cut
namespace Go.Proofs.YtdpfjhhcgaeiiabDoor
open Go.RowKit CodeMath Go.Proofs.YtdpfjhhcgaeiiabDoor.FrameMath
set_option linter.unusedVariables false

theorem two_string (W : World) (g : Nat) (hg : g = W.heap.size) (x y : Int) (a b : UInt8) (hx : x = a.toNat) (hy : y = b.toNat) : (convert 28 9 (.slice (some ⟨g, 0, none⟩) 2 2)).run Tryd.prog (W.alloc (.cells #[.int .u8 x, .int .u8 y] 5)) = .ok (.string (str [a, b])) (W.alloc (.cells #[.int .u8 x, .int .u8 y] 5)) := by
  subst hg hx hy
  refine bytes_string (cap := 2) (l := [a, b]) (.inr ⟨W.heap.size, 0, rfl, by simp, fun j x hx => ?_⟩)
  rw [Nat.zero_add, World.cell?_alloc_new]
  match j, hx with
  | 0, hx => simp at hx; subst hx; rfl
  | 1, hx => simp at hx; subst hx; rfl
end Go.Proofs.YtdpfjhhcgaeiiabDoor
