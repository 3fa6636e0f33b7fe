/-
  CONTRACT of package slots' Rooted.
  CONDITIONS: package sum's roundWords hold what their initialiser lays ('KW').
-/
import Derived.Test.YtcnemacakjemjaaDoorCovD
import Derived.Laws.EntriesVeiled
namespace Go.Proofs.YtcnemacakjemjaaDoor
open Go.RowKit CodeMath Go.Proofs.YtcnemacakjemjaaDoor.FrameMath
set_option linter.unusedVariables false
set_option maxRecDepth 100000

def lastX : Option (List UInt8 × List Sl × List (List UInt8)) → DR
  | some (x, [], []) => .ok x
  | _ => .err 10
theorem rtdR_last (m : Int) (h : Nat) (o : List Bool) (S : List Sl) (R : List (List UInt8)) (hm : isMode m = true) (hp : isPow o.length = true) : rtdR m h o S R = lastX (rtR m h o S R) := by
  unfold rtdR
  rw [if_neg (by rw [hm]; decide), if_neg (by rw [hp]; decide)]
  cases rtR m h o S R with
  | none => rfl
  | some t =>
    obtain ⟨x, S', R'⟩ := t
    cases S' <;> cases R' <;> rfl
end Go.Proofs.YtcnemacakjemjaaDoor
