/-
  THE WALK of the law 'chirographlaw.SlotsRoots'.
  CONDITIONS: package sum's roundWords hold what their initialiser lays ('KW').
-/
import Derived.Test.YtdpfjhhcgaeiiabDoorSlotI
import Derived.Test.YtdpfjhhcgaeiiabDoorSame
namespace Go.Proofs.YtdpfjhhcgaeiiabDoor
open Go.RowKit CodeMath Go.Proofs.YtdpfjhhcgaeiiabDoor.FrameMath
set_option linter.unusedVariables false
set_option maxRecDepth 100000

theorem some_height (l : List Sl) : ∃ h, h ≤ 6 ∧ (isPow l.length = true → l.length = 2 ^ h) := by
  cases hp : isPow l.length with
  | false => exact ⟨0, by decide, fun h => by cases h⟩
  | true =>
    obtain ⟨k, hk6, hk⟩ := pow_of hp
    exact ⟨k, hk6, fun _ => hk⟩
end Go.Proofs.YtdpfjhhcgaeiiabDoor
