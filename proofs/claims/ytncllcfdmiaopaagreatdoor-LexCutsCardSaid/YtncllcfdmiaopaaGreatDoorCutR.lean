/-
  CONTRACT of the reference's first.
  CONDITIONS: each theorem's own hypotheses; unicode/utf8's two tables hold what their initialisers lay ('Tabs').
-/
import Derived.Test.YtncllcfdmiaopaaGreatDoorCutPa
import Derived.Test.YtncllcfdmiaopaaGreatDoorCutPb
import Derived.Test.YtncllcfdmiaopaaGreatDoorCutPc
import Derived.Test.YtncllcfdmiaopaaGreatDoorCutPd
import Derived.Test.YtncllcfdmiaopaaGreatDoorCutPe
namespace Go.Proofs.YtncllcfdmiaopaaGreatDoor
open Go.RowKit
set_option linter.unusedVariables false
set_option maxRecDepth 100000

theorem firstRef_any (c : UInt8) (r : List UInt8) (w : World) (hl : (c :: r).length ≤ 1000000) (hT : Tabs w) :
    Calls Tryz.prog 23 #[.string (str (c :: r))] w (ReadPost (firstR (c :: r)) w) := by
  simp only [firstR]
  cases h1 : isSm c with
  | true => rw [if_pos rfl]; exact fr_small c r w hl hT h1
  | false =>
    rw [if_neg (by decide)]
    cases h2 : isGr c with
    | true => rw [if_pos rfl]; exact fr_great c r w hl hT h1 h2
    | false =>
      rw [if_neg (by decide)]
      cases h3 : isDi c with
      | true => rw [if_pos rfl]; exact fr_digit c r w hl hT h1 h2 h3
      | false =>
        rw [if_neg (by decide)]
        by_cases h4 : c = 39
        · rw [if_pos h4]; exact fr_quote c r w hl hT h1 h2 h3 h4
        · rw [if_neg h4]
          by_cases h5 : c = 35
          · rw [if_pos h5]; exact fr_hash c r w hl hT h1 h2 h3 h4 h5
          · rw [if_neg h5]; exact fr_sign c r w hl hT h1 h2 h3 h4 h5
end Go.Proofs.YtncllcfdmiaopaaGreatDoor
