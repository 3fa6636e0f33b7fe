/-
  THE WALK of the law 'chirographlaw.CrcSums': for every slice of bytes the law returns true.
  CONDITIONS: none but where the bytes lie.
-/
import Derived.Test.YtpnomfdcbmamoaaCrcB
namespace Go.Proofs.Ytpnomfdcbmamoaa
open Go.RowKit CodeMath
set_option linter.unusedVariables false
set_option maxRecDepth 100000 in
set_option maxHeartbeats 2000000 in
theorem crcSums_walk (l : List UInt8) (aol : Option Addr) (capl : Nat) (w : World) (hcl : l.length ≤ capl) (hml : capl ≤ 9223372036854775807) (hxl : Bytes w aol l) :
    Calls Try.prog 3 #[.slice aol l.length capl] w fun e w' => e = .returned (.bool true) ∧ Below w.heap.size w w' := by
  have c1 := crc_any l aol capl w (by omega) hxl
  have c2 := checked_any l aol capl w (by omega) hxl
  clear hxl
  go_enter Try.func3, Try.ntmps3
  go_wp2_with (first | (go_at_call 6; refine c1.mono ?_; rintro e w2 ⟨rfl, rfl⟩) | (go_at_call 7; refine c2.mono ?_; rintro e w3 ⟨rfl, rfl⟩))
  go_ret
  exact ⟨by simp, Below.refl _ _⟩
end Go.Proofs.Ytpnomfdcbmamoaa
