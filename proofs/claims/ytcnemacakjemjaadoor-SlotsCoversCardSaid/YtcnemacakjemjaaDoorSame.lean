/-
  CONTRACT of the law's sameBytes, both ways (for seats without LawN: never both in one seat).
  CONDITIONS: each theorem's own hypotheses.
-/
import Derived.Test.YtcnemacakjemjaaDoorGBase
namespace Go.Proofs.YtcnemacakjemjaaDoor
open Go.RowKit CodeMath
set_option linter.unusedVariables false

theorem lawSameBytes_any (l : List UInt8) (ao ao' : Option Addr) (cap cap' : Nat) (w : World) (h : Bytes w ao l) (h' : Bytes w ao' l) :
    Calls Tryd.prog 27 #[.slice ao l.length cap, .slice ao' l.length cap'] w fun e w' => e = .returned (.bool true) ∧ w = w' := by
  have c1 := bytes_string (cap := cap) h
  have c2 := bytes_string (cap := cap') h'
  generalize str l = S at c1 c2
  generalize l.length = n at c1 c2 ⊢
  have hs : (S.toList == S.toList) = true := by simp
  clear h h'
  go_enter Tryd.func27, Tryd.ntmps27
  go_wp2
  go_ret
  exact ⟨rfl, rfl⟩
end Go.Proofs.YtcnemacakjemjaaDoor
