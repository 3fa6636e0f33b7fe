/-
  CONVERSIONS of strings to bytes: the block that is new, with its type.
  CONDITIONS: each theorem's own hypotheses.
-/
import Derived.Test.YtcnemacakjemjaaDoorRowT
import Derived.Test.YtcnemacakjemjaaDoorGBase
namespace Go.Proofs.YtcnemacakjemjaaDoor
open Go.RowKit CodeMath
set_option linter.unusedVariables false
set_option maxRecDepth 100000

theorem bytesOf_T (l : List UInt8) (w : World) (hl : l.length ≤ 9223372036854775807) : ∃ g cap W1, (convert 9 37 (.string (str l))).run Tryd.prog w = .ok (.slice (some g) l.length cap) W1 ∧ RowT W1 (.slice (some g) l.length cap) l ∧ Below w.heap.size w W1 := by
  have hcv := run_bytes_of_string (P := Tryd.prog) w 9 37 5 (str l) Tryd.underlying9 Tryd.underlying37 Tryd.underlying5
  have hsz := str_size l
  obtain ⟨cap, W1, h1, h2, h3, h4, h5⟩ := bytesOf_max l w hl
  rw [hcv] at h1
  injection h1 with e1 e2
  injection e1 with e3 e4 e5
  subst e2
  subst e5
  refine ⟨_, _, _, hcv.trans (congrArg (fun n => Result.ok (Value.slice (some ⟨w.heap.size, 0, none⟩) n _) _) e4), ⟨_, _, rfl, h4, h5, (fun h => by cases h), ?_⟩, h3⟩
  rcases h2 with h2 | ⟨a, o, ha, hlt, hc⟩
  · exact .inl h2
  · right
    cases ha
    have hg : (w.drew.alloc (.cells (bytesRow (str l) (grownCap w (str l).size 0 5)) 5 ((bytesRow (str l) (grownCap w (str l).size 0 5)).size, (bytesRow (str l) (grownCap w (str l).size 0 5)).size + 1))).heap[w.heap.size]? = some (.cells (bytesRow (str l) (grownCap w (str l).size 0 5)) 5 ((bytesRow (str l) (grownCap w (str l).size 0 5)).size, (bytesRow (str l) (grownCap w (str l).size 0 5)).size + 1)) := by
      show (w.heap.push _)[w.heap.size]? = _
      simp
    refine ⟨w.heap.size, _, _, _, rfl, hg, .inl rfl, fun j x hx => ?_⟩
    have := hc j x hx
    rw [Nat.zero_add, cell_of_block hg] at this
    exact this
end Go.Proofs.YtcnemacakjemjaaDoor
