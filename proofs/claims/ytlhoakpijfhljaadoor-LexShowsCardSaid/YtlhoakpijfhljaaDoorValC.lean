/-
  CONTRACT of the reference's ValueFault: it returns chk of the value's four fields, as package value's Check does.
  CONDITIONS: each theorem's own hypotheses; the two tables of package unicode/utf8 hold what their initialisers lay ('Tabs').
-/
import Derived.Test.YtlhoakpijfhljaaDoorValB
namespace Go.Proofs.YtlhoakpijfhljaaDoor
open Go.RowKit
set_option linter.unusedVariables false

theorem valid_nil : Lib.validD [] = true := by decide
theorem empty_iff (s : ByteArray) : s.toList.isEmpty = true ↔ s.toList = [] := by simp

theorem two_below {w w2 : World} {o1 o2 : Obj} (hb : Below ((w.alloc o1).alloc o2).heap.size ((w.alloc o1).alloc o2) w2) : Below w.heap.size w w2 :=
  (((Below.refl _ _).alloc (Nat.le_refl _) _).alloc (by simp) _).trans (hb.mono (by simp; omega))

end Go.Proofs.YtlhoakpijfhljaaDoor
