/-
  CONTRACT of package slots' CheckPath.
  CONDITIONS: package sum's roundWords hold what their initialiser lays ('KW').
-/
import Derived.Test.YtcplnfaopigoiaaDoorCheckA
namespace Go.Proofs.YtcplnfaopigoiaaDoor
open Go.RowKit CodeMath Go.Proofs.YtcplnfaopigoiaaDoor.FrameMath
set_option linter.unusedVariables false
set_option maxRecDepth 100000

theorem climbR_ne {m : Int} {p : Nat} : ∀ {r : List (List UInt8)} {t : Nat} {top : List UInt8} {c : Int}, climbR m p t top r = .err c → c ≠ 0
  | [], t, top, c, e => by cases e
  | a :: r, t, top, c, e => by
    simp only [climbR] at e
    cases hd : digR m 2 (if (p / 2 ^ t) % 2 = 1 then [a, top] else [top, a]) with
    | err q => rw [hd] at e; cases e; exact digR_ne hd
    | ok y => rw [hd] at e; exact climbR_ne e
end Go.Proofs.YtcplnfaopigoiaaDoor
