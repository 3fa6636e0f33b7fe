/-
  What the list says of strconv's ErrRange.
  CONDITIONS: the theorem's own hypotheses.
-/
import Derived.Test.YtlhoakpijfhljaaGreatDoorCutC
import Derived.LaidMore
import Derived.LaidLaws
import Derived.Lib.LaidU8T
import Derived.Lib.LaidIn
namespace Go.Proofs.YtlhoakpijfhljaaGreatDoor
open Go.RowKit Go.Lib
set_option linter.unusedVariables false
set_option maxRecDepth 100000

theorem er_of_reads {W : World} {nm : String} {d : DataW Unit} (h : VarReads Tryz.prog W "strconv.ErrRange" (.iface nm d)) : ER W := by
  obtain ⟨g, t, cs, fuel, p, hg, hty, hvar, hd⟩ := h
  obtain rfl := Option.some.inj ((show Tryz.prog.globalNamed "strconv.ErrRange" = some 7 by kernel_rfl).symm.trans hg)
  obtain rfl := Option.some.inj ((show (Tryz.prog.globals[7]?).map (·.type) = some 53 by kernel_rfl).symm.trans hty)
  obtain ⟨f1, u, v, hcs, hn, h1⟩ := iface_of_trod Tryz.underlying53 hd
  have := World.var?_cell hg hvar 0
  refine ⟨u, v, ?_⟩
  show W.cell? ⟨7, 0, none⟩ = _
  rw [this, ← Array.getElem?_toList, hcs]
  rfl
end Go.Proofs.YtlhoakpijfhljaaGreatDoor
