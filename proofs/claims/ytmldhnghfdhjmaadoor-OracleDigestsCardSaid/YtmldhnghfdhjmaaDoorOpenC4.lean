/-
  OPENING ARGUMENTS that are slices of bytes, with all that is known of them.
  CONDITIONS: each theorem's own hypotheses.
-/
import Derived.Test.YtmldhnghfdhjmaaDoorOpenC
namespace Go.Proofs.YtmldhnghfdhjmaaDoor
open Go.ChangeShapes Go.WideShapes Go.RowKit Go.Deep Go.Joins CodeMath
open Go.ChangeMaps (open_string shut_string)
set_option linter.unusedVariables false

set_option maxRecDepth 100000
section
variable {H : Type} {enc : TypeId × Value → H} {W : World} {base : Nat} {v : Value} {d : DataW H} {p : List MemPlace}
theorem open_byteslice4 (hval : Value.okWide Tryd.prog W .any base 23 v) (h : DataW.Trod enc Tryd.prog W 0 (fun _ => true) true 23 v d p) :
    ∃ (l : List UInt8) (ao : Option Addr) (cap : Nat), v = .slice ao l.length cap ∧ l.length ≤ cap ∧ cap ≤ 9223372036854775807 ∧ (l = [] ∨ ∃ el sp, d = .slice el sp ∧ el.length = l.length) ∧ (ao = none → cap = 0) ∧ Bytes W ao l := by
  obtain ⟨l, ao, cap, rfl, h1, h2, h3, h4⟩ := open_byteslice3 hval h
  obtain ⟨l', ao', cap', e, _, h5, _⟩ := open_byteslice hval h
  simp only [Value.slice.injEq] at e
  exact ⟨l, ao, cap, rfl, h1, by omega, h2, h3, h4⟩
end
end Go.Proofs.YtmldhnghfdhjmaaDoor
