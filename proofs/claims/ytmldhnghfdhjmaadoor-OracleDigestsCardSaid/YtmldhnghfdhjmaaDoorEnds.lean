/-
  CONTRACTS of package sum's End and Add.
-/
import Derived.Test.YtmldhnghfdhjmaaDoorGood
namespace Go.Proofs.YtmldhnghfdhjmaaDoor
open Go.RowKit CodeMath
set_option linter.unusedVariables false
set_option maxRecDepth 100000
theorem results_arr_tmp {fn : Func} {p u : Tmp} {T : TypeId} {d : TypeDesc} (h : fn.results = #[.cell p T, .tmp u]) (tmps : Array Value) (w : World) (g : Nat) (cs : List Value) (hp : tmps.getD p undef = .pointer (some ⟨g, 0, none⟩)) (hg : Blk w g T cs)
    (hu : Tryd.prog.underlying T = some d) (hd : d.isRow = true) (hi : (Tryd.prog.info? T).map (·.size) = some cs.length) :
    (results fn tmps).run Tryd.prog w = .ok (.tuple #[.agg cs.toArray, tmps.getD u undef]) w := by
  have hl := run_loadVar_row w g T T cs.toArray (0, 0) d hg hu (by cases d <;> simp_all) (by simpa using hi)
  rw [results_cell_tmp h, hp]
  simp [asAddr, hl, Result.andThen]
end Go.Proofs.YtmldhnghfdhjmaaDoor
