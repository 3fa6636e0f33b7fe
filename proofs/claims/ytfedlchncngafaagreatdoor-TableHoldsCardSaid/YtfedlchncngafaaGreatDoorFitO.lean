/-
  PLAIN: an expression that lies in a world has numbers of 64 bits.
  CONDITIONS: none.
-/
import Derived.Test.YtfedlchncngafaaGreatDoorFitM
import Derived.Test.YtfedlchncngafaaGreatDoorExprO
import Derived.Test.YtfedlchncngafaaGreatDoorKindU
namespace Go.Proofs.YtfedlchncngafaaGreatDoor
open Go.RowKit
set_option linter.unusedVariables false
set_option maxRecDepth 100000

theorem atT_fit {W : World} : ∀ (n : Nat) (t : T) (ao : Option Addr), t.deep ≤ n → AtT W t ao → FitT t
  | 0, t, ao, h, _ => by have := T.deep_eq t; omega
  | n + 1, .mk d l, ao, h, hA => by
    simp only [AtT] at hA
    have hdl : deepL l ≤ n := by simp only [T.deep] at h; omega
    simp only [FitT]
    refine ⟨⟨⟨hA.1.i0, hA.1.i1⟩, hA.1.b0, hA.1.b1⟩, fitL_of l (fun t ht => ?_)⟩
    obtain ⟨j, hj⟩ := List.getElem?_of_mem ht
    obtain ⟨a, o, e, ha, ao', cap, _, _, _, _, h6⟩ := AtL.at hA.2 j t hj
    exact atT_fit n t ao' (Nat.le_trans (deepK_mem hj) hdl) h6
end Go.Proofs.YtfedlchncngafaaGreatDoor
