/-
  CONTRACT of package value's onlyOwnFields: it returns own of the value's four fields.
  CONDITIONS: none.
-/
import Derived.Test.YtmokcoghigimjaaDoorValA
namespace Go.Proofs.YtmokcoghigimjaaDoor
open Go.RowKit
set_option linter.unusedVariables false

set_option maxHeartbeats 4000000 in
theorem own_any (k i b : Int) (s : ByteArray) (w : World) :
    Calls Tryd.prog 39 #[.agg #[.int .i64 k, .int .i64 i, .int .u64 b, .string s]] w fun e w' => e = .returned (.bool (own k i b s)) ∧ Below w.heap.size w w' := by
  unfold own
  rcases kcase k with (rfl | rfl | rfl | rfl | rfl) | ⟨_, h1, h2, h3, h4⟩ <;> cases hi : (i == 0) <;> cases hb : (b == 0) <;> cases hs : s.toList.isEmpty <;>
   (go_enter Tryd.func39, Tryd.ntmps39
    go_wp2
    go_ret
    refine ⟨?_, (Below.refl _ _).alloc (Nat.le_refl _) _⟩
    first | rfl | simp [*])

end Go.Proofs.YtmokcoghigimjaaDoor
