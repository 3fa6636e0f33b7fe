/-
  CONTRACT of the laws' slotsOf: raw things as slots, a power of two of them.
  CONDITIONS: each theorem's own hypotheses.
-/
import Derived.Test.YtcnemacakjemjaaDoorSlotL
namespace Go.Proofs.YtcnemacakjemjaaDoor
open Go.RowKit CodeMath
set_option linter.unusedVariables false
set_option maxRecDepth 100000

structure Sl.Good (x : Sl) : Prop where
  s3 : x.s.length = 3
  d20 : x.d.length ≤ 20
  nf : x.f = false → x.d = []
theorem R.slot_good (r : R) : r.slot.Good := by
  refine ⟨rfl, ?_, fun h => ?_⟩
  · show (if 0 < r.k % 3 then r.cut 20 else []).length ≤ 20
    split
    · unfold R.cut; rw [List.length_take]; omega
    · simp
  · have : ¬ 0 < r.k % 3 := of_decide_eq_false h
    show (if 0 < r.k % 3 then r.cut 20 else []) = []
    rw [if_neg this]
theorem Blk.set4 {W : World} {g : Nat} {T : TypeId} {a b c d a' b' c' d' : Value} (h : Blk W g T [a', b', c', d']) : Blk ((((W.setCell ⟨g, 0, none⟩ a).setCell ⟨g, 1, none⟩ b).setCell ⟨g, 2, none⟩ c).setCell ⟨g, 3, none⟩ d) g T [a, b, c, d] := (((h.set 0 a).set 1 b).set 2 c).set 3 d
theorem below_set4 {B : Nat} {w W : World} {g : Nat} {a b c d : Value} (h : Below B w W) (hg : B ≤ g) : Below B w ((((W.setCell ⟨g, 0, none⟩ a).setCell ⟨g, 1, none⟩ b).setCell ⟨g, 2, none⟩ c).setCell ⟨g, 3, none⟩ d) := (((h.setCell (p := ⟨g, 0, none⟩) hg a).setCell (p := ⟨g, 1, none⟩) hg b).setCell (p := ⟨g, 2, none⟩) hg c).setCell (p := ⟨g, 3, none⟩) hg d
theorem pow_double : ∀ h : Nat, h ≤ 3 → 2 ^ h * 2 = 2 ^ (h + 1) ∧ 2 ^ h ≤ 8 := by
  have key : ∀ h : Fin 4, 2 ^ h.1 * 2 = 2 ^ (h.1 + 1) ∧ 2 ^ h.1 ≤ 8 := by decide
  intro h hh
  exact key ⟨h, by omega⟩
def SlotsOk (w : World) (e : Ending) (w' : World) : Prop := ∃ v S h, e = .returned v ∧ OwnSl w' w.heap.size v S ∧ S.length = 2 ^ h ∧ h ≤ 4 ∧ (∀ x ∈ S, x.Good) ∧ Below w.heap.size w w'
end Go.Proofs.YtcnemacakjemjaaDoor
