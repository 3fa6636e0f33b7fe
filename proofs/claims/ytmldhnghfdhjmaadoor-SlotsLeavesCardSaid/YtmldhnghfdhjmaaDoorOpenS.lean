/-
  OPENING ARGUMENTS that are slots, by value.
  CONDITIONS: each theorem's own hypotheses.
-/
import Derived.Test.YtmldhnghfdhjmaaDoorRowT
import Derived.Deep.Strs
namespace Go.Proofs.YtmldhnghfdhjmaaDoor
open Go.ChangeShapes Go.WideShapes Go.RowKit Go.Deep Go.Joins CodeMath
open Go.ChangeMaps (open_string shut_string)
set_option linter.unusedVariables false
set_option maxRecDepth 100000
section
variable {H : Type} {enc : TypeId × Value → H} {W : World} {base : Nat} {v : Value} {d : DataW H} {p : List MemPlace}
theorem slot_fields : ∃ f0 f1 f2 : Field, Tryd.prog.underlying 40 = some (.struct #[f0, f1, f2]) ∧ f0.type = 4 ∧ f0.offset = 0 ∧ f1.type = 23 ∧ f1.offset = 1 ∧ f2.type = 23 ∧ f2.offset = 2 := ⟨_, _, _, rfl, rfl, rfl, rfl, rfl, rfl, rfl⟩
theorem open_slotcells {fuel : Nat} {cs : List Value} {x : DataW H × List MemPlace} (hcl : cs.length = 3) (h : DataW.trod enc Tryd.prog W 0 (fun _ => true) true fuel 40 cs = some x) :
    ∃ (f : Bool) (s dt : List UInt8) (us ud : Value), cs = [.bool f, us, ud] ∧ RowV W us s ∧ RowV W ud dt ∧ ((∀ n ∈ x.1.weights Tryd.prog 40, n ≤ reachBytes) → s.length ≤ 140737488351232 ∧ dt.length ≤ 140737488351232) := by
  obtain ⟨f0, f1, f2, hs, t0, o0, t1, o1, t2, o2⟩ := slot_fields
  obtain ⟨y0, y1, y2, n, rfl, _, h0, h1, h2⟩ := trod_struct3 hs h
  match cs, hcl with
  | [c0, c1, c2], _ =>
    have cb : Tryd.prog.cellsOf 4 = 1 := by kernel_rfl
    have cu : Tryd.prog.cellsOf 23 = 1 := by kernel_rfl
    rw [t0, o0, cb] at h0
    rw [t1, o1, cu] at h1
    rw [t2, o2, cu] at h2
    obtain ⟨f, e0, _⟩ := DataW.trod_bool Tryd.underlying4 h0
    obtain ⟨s, us, e1, r1, b1⟩ := open_row h1
    obtain ⟨dt, ud, e2, r2, b2⟩ := open_row h2
    simp at e0 e1 e2
    subst e0 e1 e2
    refine ⟨f, s, dt, _, _, rfl, r1, r2, fun hw => ⟨b1 fun n hn => hw n ?_, b2 fun n hn => hw n ?_⟩⟩
    · simp only [DataW.weights, hs, List.map_cons, List.map_nil, DataW.weightsEach, t0, t1, t2, List.mem_append]
      exact .inr (.inl hn)
    · simp only [DataW.weights, hs, List.map_cons, List.map_nil, DataW.weightsEach, t0, t1, t2, List.mem_append]
      exact .inr (.inr (.inl hn))
theorem open_slot (hval : Value.okWide Tryd.prog W .any base 40 v) (h : DataW.Trod enc Tryd.prog W 0 (fun _ => true) true 40 v d p) :
    ∃ (f : Bool) (s dt : List UInt8) (us ud : Value), v = .agg #[.bool f, us, ud] ∧ ((∀ n ∈ d.weights Tryd.prog 40, n ≤ reachBytes) → s.length ≤ 140737488351232 ∧ dt.length ≤ 140737488351232) ∧ RowV W us s ∧ RowV W ud dt := by
  obtain ⟨f0, f1, f2, hs, _⟩ := slot_fields
  obtain ⟨cs, rfl, hsz⟩ := okWide_struct hs hval
  rw [show Tryd.prog.cellsOf 40 = 3 by kernel_rfl] at hsz
  obtain ⟨fuel, hf⟩ := h
  rw [show (Value.agg cs).cells.toList = cs.toList from rfl] at hf
  obtain ⟨f, s, dt, us, ud, e, r1, r2, b⟩ := open_slotcells (by simpa using hsz) hf
  refine ⟨f, s, dt, us, ud, ?_, b, r1, r2⟩
  congr 1
  exact Array.toList_inj.1 (by rw [e])
end
end Go.Proofs.YtmldhnghfdhjmaaDoor
