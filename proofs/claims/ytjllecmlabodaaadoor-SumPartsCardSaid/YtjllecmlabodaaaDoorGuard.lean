/-
  GUARDED OPERATIONS: a whole array or struct loaded where the guard lets it.
  CONDITIONS: each theorem's own hypotheses.
-/
import Derived.Test.YtjllecmlabodaaaDoorArr
namespace Go.Proofs.YtjllecmlabodaaaDoor
open Go.RowKit CodeMath
set_option linter.unusedVariables false
theorem wpList_want {P : Program} {ops : Array Oper} {rest : List Oper} {o : Oper} {a : Act} {w : World} {Q : Exit → Act → World → Prop} (hw : Region.wanted o (yielded ops a.tmps) = true)
    (h : ∀ K : Act → World → Prop, (∀ a w, wpList P ops Q rest a w → K a w) → o.wp P a w K Q) : wpList P ops Q (o :: rest) a w :=
  wpList_step fun K hK => by rw [if_pos hw]; exact h K hK
theorem wpList_load_want {ops : Array Oper} {rest : List Oper} {o : Oper} {a : Act} {w : World} {Q : Exit → Act → World → Prop} (hw : Region.wanted o (yielded ops a.tmps) = true) (T : TypeId) (x : Operand) (ho : o.op = .load T x)
    (g off n : Nat) (hx : a.eval x = .pointer (some ⟨g, off, none⟩)) (T0 : TypeId) (cs : List Value) (hB : Blk w g T0 cs) (hn : off + n ≤ cs.length) (V : Array Value) (hV : ((cs.drop off).take n).toArray = V) (d : TypeDesc)
    (hu : Tryd.prog.underlying T = some d) (hd : d.isRow = true) (hi : (Tryd.prog.info? T).map (·.size) = some n)
    (h : wpList Tryd.prog ops Q rest (a.put o.dst (.agg V)) w) : wpList Tryd.prog ops Q (o :: rest) a w := by
  subst hV
  exact wpList_want hw fun _ hK => wp_load_mid T x ho g off hx ((cs.drop off).take n) d (hB.range off n) hu hd (by rw [hi, List.length_take, List.length_drop, Nat.min_eq_left (by omega)]) (hK _ _ h)
end Go.Proofs.YtjllecmlabodaaaDoor
