/-
  THE WALK of the law 'chirographlaw.RollIncludes'.
  CONDITIONS: package sum's roundWords hold what their initialiser lays ('KW').
-/
import Derived.Test.YtdpfjhhcgaeiiaaDoorRollV
namespace Go.Proofs.YtdpfjhhcgaeiiaaDoor
open Go.RowKit CodeMath Go.Proofs.YtdpfjhhcgaeiiaaDoor.FrameMath
set_option linter.unusedVariables false
set_option maxRecDepth 100000

def lrRows : LR → List (List UInt8)
  | .err _ => []
  | .ok rows => rows
def lrErr : LR → Int
  | .err c => c
  | .ok _ => 0
theorem linesPost_top {R : LR} {w : World} {e : Ending} {w' : World} (h : LinesPost R w e w') : ∃ a c, e = .returned (.tuple #[.slice a (lrRows R).length c, .int .i64 (lrErr R)]) ∧ Lines w' a (lrRows R) ∧ Below w.heap.size w w' := by
  cases R with
  | err c => exact ⟨none, 0, h.1, .inl rfl, h.2⟩
  | ok rows => obtain ⟨a, c, h1, h2, h3⟩ := h; exact ⟨a, c, h1, h2, h3⟩
theorem incTop_len (m : Int) (l : List (List UInt8)) (i : Int) : (lrRows (incTop m l i)).length ≤ 100 := by
  unfold incTop
  split
  · simp [lrRows]
  · split
    · simp [lrRows]
    · split
      · simp [lrRows]
      · have := incP_len m 6 l i.toNat
        simp only [lrRows]; omega
set_option maxHeartbeats 1000000 in
theorem rollIncludes_walk (m : Int) (l : List (List UInt8)) (ap : Option Addr) (cap : Nat) (i : Int) (w : World) (hT : KW w) (m0 : -9223372036854775808 ≤ m) (m1 : m ≤ 9223372036854775807) (hc : l.length ≤ cap) (hq : cap ≤ 9223372036854775807) (hr : l.length ≤ 140737488351232 ∧ ∀ x ∈ l, x.length ≤ 140737488351232) (hl : Lines w ap l) (i0 : -9223372036854775808 ≤ i) (i1 : i ≤ 9223372036854775807) :
    Calls Tryd.prog 8 #[.int .i64 m, .slice ap l.length cap, .int .i64 i] w fun e w' => e = .returned (.bool true) ∧ Below w.heap.size w w' := by
  have cA := Include_any m l ap cap i w m0 m1 hc hq i0 i1 hr.2 hl hT
  have cB := fun W hl => IncludeOf_any m l ap cap i W m0 m1 hc hq i0 i1 hr.2 hl
  have hsm : (lrRows (incTop m l i)).length ≤ 100 := incTop_len m l i
  have cS := fun ap ap' cp cp' W h h' => lawLists_any (lrRows (incTop m l i)) (lrRows (incTop m l i)) ap ap' cp cp' W h h' (by omega) (by omega)
  rw [decide_eq_true rfl] at cS
  generalize incTop m l i = X at *
  clear hr hc hq hT
  generalize l.length = n at *
  go_enter Tryd.func8, Tryd.ntmps8
  go_wp2_with fail
  refine cA.mono ?_
  intro e w1 hpost
  obtain ⟨a1, c1, rfl, hl1, hb1⟩ := linesPost_top hpost.post
  have c := cB w1 (hl.keep hb1)
  clear cA cB hpost
  go_wp2_with fail
  refine c.mono ?_
  intro e w2 hpost
  obtain ⟨a2, c2, rfl, hl2, hb2⟩ := linesPost_top hpost
  have hbb := below_step hb1 hb1.size hb2
  have c := cS a1 a2 c1 c2 w2 (hl1.keep hb2) hl2
  clear cS hl1 hl2 hl hb1 hb2 hpost hsm
  generalize (lrRows X).length = ll at *
  generalize lrErr X = le at *
  go_wp2_with fail
  refine c.mono ?_
  rintro e w3 ⟨rfl, hb3⟩
  have hb4 := below_step hbb hbb.size hb3
  go_wp2_with fail
  go_ret
  exact ⟨rfl, hb4⟩
end Go.Proofs.YtdpfjhhcgaeiiaaDoor
