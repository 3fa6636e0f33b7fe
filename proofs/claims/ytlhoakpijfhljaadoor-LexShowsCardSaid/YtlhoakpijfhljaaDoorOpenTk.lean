/-
  OPENING ARGUMENTS that are slices of tokens.
  CONDITIONS: each theorem's own hypotheses.
-/
import Derived.Test.YtlhoakpijfhljaaDoorRawL
import Derived.Test.YtlhoakpijfhljaaDoorShowT
namespace Go.Proofs.YtlhoakpijfhljaaDoor
open Go.ChangeShapes Go.WideShapes Go.RowKit Go.Deep Go.Joins
open Go.ChangeMaps (open_string shut_string)
set_option linter.unusedVariables false
set_option maxRecDepth 100000

section
variable {H : Type} {enc : TypeId × Value → H} {W : World} {base : Nat} {v : Value} {d : DataW H} {p : List MemPlace}
theorem open_toks (hval : Value.okWide Tryd.prog W .any base 22 v) (h : DataW.Trod enc Tryd.prog W 0 (fun _ => true) true 22 v d p) :
    ∃ (l : List Tok) (ao : Option Addr) (cap : Nat), v = .slice ao l.length cap ∧ l.length ≤ cap ∧ cap ≤ 9223372036854775807 ∧ ((∀ t ∈ l, FitT t) ∧ Toks W ao l) := by
  obtain ⟨ao, len, cap, rfl, h1, h2, h3⟩ := open4 Tryd.underlying22 Tryd.underlying33 (by kernel_rfl) (by kernel_rfl) hval h
  rcases h3 with rfl | ⟨a, o, rfl, ha, hel⟩
  · exact ⟨[], ao, cap, rfl, h1, h2, by simp, .inl rfl⟩
  · obtain ⟨l, hl, hp⟩ := list_of (n := len) (p := fun i (r : Tok) => FitT r ∧ W.cell? ⟨a, o + i * 4, none⟩ = some (.int .i64 r.k) ∧ W.cell? ⟨a, o + i * 4 + 1, none⟩ = some (.string (str r.s)) ∧ W.cell? ⟨a, o + i * 4 + 2, none⟩ = some (.int .i64 r.i) ∧ W.cell? ⟨a, o + i * 4 + 3, none⟩ = some (.int .u64 r.b)) (fun i hi => by
      obtain ⟨⟨q0, q1, q2, q3⟩, c0, c1, c2, c3, n, y0, y1, y2, y3, t0, t1, t2, t3⟩ := hel i hi
      obtain ⟨k, e0, _, w0⟩ := DataW.trod_int Tryd.underlying3 t0
      obtain ⟨s, e1, _, w1⟩ := DataW.trod_string Tryd.underlying9 t1
      obtain ⟨x, e2, _, w2⟩ := DataW.trod_int Tryd.underlying3 t2
      obtain ⟨y, e3, _, w3⟩ := DataW.trod_int Tryd.underlying31 t3
      simp at e0 e1 e2 e3
      subst e0 e1 e2 e3
      have b2 := bounds_i64 w2
      have b3 := bounds_u64 w3
      have z1 : s.size ≤ 9223372036854775807 := by have := w1; unfold maxLen at this; omega
      refine ⟨⟨k, s.data.toList, x, y⟩, ⟨b3.1, b3.2, b2.1, b2.2, by rw [← Lib.size_eq]; exact z1⟩, c0, ?_, c2, c3⟩
      show _ = some (Value.string (str s.data.toList))
      rw [← str_eq s]; exact c1)
    subst hl
    refine ⟨l, _, cap, rfl, h1, h2, fun r hr => ?_, .inr ⟨a, o, rfl, ha, fun j r hr => (hp j r hr).2⟩⟩
    obtain ⟨j, hj⟩ := List.mem_iff_getElem?.1 hr
    exact (hp j r hj).1
end
end Go.Proofs.YtlhoakpijfhljaaDoor
