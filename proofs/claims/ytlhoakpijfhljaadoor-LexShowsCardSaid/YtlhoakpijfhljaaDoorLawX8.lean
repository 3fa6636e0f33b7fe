/-
  THE WALK of the law 'chirographlaw.LexShows'.
  CONDITIONS: what 'SEnv' says.
-/
import Derived.Test.YtlhoakpijfhljaaDoorRefW
import Derived.Test.YtlhoakpijfhljaaDoorOpenTk
namespace Go.Proofs.YtlhoakpijfhljaaDoor
open Go.RowKit
set_option linter.unusedVariables false
set_option maxRecDepth 100000

set_option maxHeartbeats 4000000 in
theorem lexShows_walk (l : List Tok) (ao : Option Addr) (cap : Nat) (w : World) (hSE : SEnv w) (hcap : l.length ≤ cap) (hc : cap ≤ 9223372036854775807) (hT : (∀ t ∈ l, FitT t) ∧ Toks w ao l) :
    Calls Tryd.prog 3 #[.slice ao l.length cap] w fun e w' => e = .returned (.bool true) ∧ Below w.heap.size w w' := by
  have c1 := show_any l ao cap w hSE hT.1 (by omega) hT.2
  have c2 := fun W (hW : Below w.heap.size w W) => textOf_any l ao cap W (tabs_below hSE.tabs hW) hT.1 (by omega) (hT.2.keep hW)
  generalize showR l = R at *
  generalize l.length = n at *
  unfold ShowPost at c1 c2
  clear hSE hT
  cases R with
  | err q =>
    go_enter Tryd.func3, Tryd.ntmps3
    go_wp2_with fail
    refine c1.mono ?_
    rintro e w1 ⟨s, c, rfl, hs, hb1⟩
    obtain ⟨rfl, rfl, hc0⟩ := hs.out
    have c3 := c2 w1 hb1
    clear c1 c2 hs hc0
    go_wp2_with fail
    refine c3.mono ?_
    rintro e w2 ⟨s, c, rfl, hs, hb2⟩
    obtain ⟨rfl, rfl, hc0⟩ := hs.out
    have hb := below_stepL hb1 hb1.size hb2
    clear c3 hs hc0 hb1 hb2
    go_wp2_with fail
    go_ret
    exact ⟨by first | rfl | trivial, hb⟩
  | ok t =>
    go_enter Tryd.func3, Tryd.ntmps3
    go_wp2_with fail
    refine c1.mono ?_
    rintro e w1 ⟨s, c, rfl, hs, hb1⟩
    obtain ⟨rfl, rfl⟩ := hs.out
    have c3 := c2 w1 hb1
    clear c1 c2 hs
    go_wp2_with fail
    refine c3.mono ?_
    rintro e w2 ⟨s, c, rfl, hs, hb2⟩
    obtain ⟨rfl, rfl⟩ := hs.out
    have hb := below_stepL hb1 hb1.size hb2
    clear c3 hs hb1 hb2
    generalize str t = X at *
    go_wp2_with fail
    go_ret
    exact ⟨by first | rfl | trivial, hb⟩
end Go.Proofs.YtlhoakpijfhljaaDoor
