/-
  CONTRACTS of package value's order and of the reference's Order, over values that may be.
  CONDITIONS: each theorem's own hypotheses.
-/
import Derived.Test.YtoleaahnpcbkkaaDoorValA
import Derived.BigQuiet
import Derived.Deep.QuietTactic
import Derived.Deep.RegionWith
import Derived.Outline
namespace Go.Proofs.YtoleaahnpcbkkaaDoor
open Go.RowKit
set_option linter.unusedVariables false

theorem bcell {W w1 : World} (hb : Below W.heap.size W w1) : (∀ b o, b < W.heap.size → w1.cell? ⟨b, o, none⟩ = W.cell? ⟨b, o, none⟩) ∧ (∀ b o, b < W.heap.size → w1.frozen? ⟨b, o, none⟩ = W.frozen? ⟨b, o, none⟩) :=
  ⟨fun b o h => hb.cell (p := ⟨b, o, none⟩) h, fun b o h => hb.frozen (p := ⟨b, o, none⟩) h⟩

/-- How two values stand whose kinds are a and b. -/
def ord (k i b : Int) (s : ByteArray) (k' i' b' : Int) (s' : ByteArray) : Int :=
  if k ≠ k' then cmp3 k k' else if k = 3 then cmp3 (FloatOrd.key b.toNat) (FloatOrd.key b'.toNat) else if k = 4 then Lib.compareBytes s.data.toList s'.data.toList else if k = 1 ∨ k = 2 then cmp3 i i' else 0

theorem four_below {w w1 w2 : World} {o1 o2 : Obj} (hb : Below ((w.alloc o1).alloc o2).drew.heap.size ((w.alloc o1).alloc o2).drew w1) (hb2 : Below w1.heap.size w1 w2) : Below w.heap.size w w2 :=
  ((((Below.refl _ _).alloc (Nat.le_refl _) _).alloc (by simp) _).drew.trans (hb.mono (by simp; omega))).trans (hb2.mono (by have := hb.size; simp at this; omega))

end Go.Proofs.YtoleaahnpcbkkaaDoor
