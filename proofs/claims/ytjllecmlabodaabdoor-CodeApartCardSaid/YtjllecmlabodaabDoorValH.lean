/-
  CONTRACTS of package value's Equal and Less (through ask and its two function values) and of the reference's Held.
  CONDITIONS: each theorem's own hypotheses.
-/
import Derived.Test.YtjllecmlabodaabDoorValG
namespace Go.Proofs.YtjllecmlabodaabDoor
open Go.RowKit
set_option linter.unusedVariables false

theorem cmp3_range (x y : Int) : cmp3 x y = -1 ∨ cmp3 x y = 0 ∨ cmp3 x y = 1 := by unfold cmp3; split <;> (try split) <;> omega
theorem cmpB_range : ∀ a b : List UInt8, Lib.compareBytes a b = -1 ∨ Lib.compareBytes a b = 0 ∨ Lib.compareBytes a b = 1
  | [], [] => by simp [Lib.compareBytes]
  | [], _ :: _ => by simp [Lib.compareBytes]
  | _ :: _, [] => by simp [Lib.compareBytes]
  | a :: l, b :: m => by
    have := cmpB_range l m
    unfold Lib.compareBytes
    split
    · omega
    · split
      · omega
      · exact this
theorem ordV_range (v u : V) : ordV v u = -1 ∨ ordV v u = 0 ∨ ordV v u = 1 := by
  unfold ordV ord
  split
  · exact cmp3_range _ _
  · split
    · exact cmp3_range _ _
    · split
      · exact cmpB_range _ _
      · split
        · exact cmp3_range _ _
        · omega

/-- What is answered of the order of two values: its truth, and what is wrong. -/
def askT (v u : V) (p : Bool) : Int := if chk2 v u = 0 then (if v.k = 0 ∨ u.k = 0 then 1 else if v.k = u.k then (if p then 2 else 0) else 0) else 0
def askE (v u : V) : Int := if chk2 v u = 0 then (if v.k = 0 ∨ u.k = 0 then 0 else if v.k = u.k then 0 else 2) else chk2 v u

end Go.Proofs.YtjllecmlabodaabDoor
