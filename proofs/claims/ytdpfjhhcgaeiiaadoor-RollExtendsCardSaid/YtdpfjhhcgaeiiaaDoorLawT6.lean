/-
  THE WALK of the law 'chirographlaw.RollExtends'.
  CONDITIONS: package sum's roundWords hold what their initialiser lays ('KW').
-/
import Derived.Test.YtdpfjhhcgaeiiaaDoorRollW
import Derived.Test.YtdpfjhhcgaeiiaaDoorLawT5
namespace Go.Proofs.YtdpfjhhcgaeiiaaDoor
open Go.RowKit CodeMath Go.Proofs.YtdpfjhhcgaeiiaaDoor.FrameMath
set_option linter.unusedVariables false
set_option maxRecDepth 100000

theorem extTop_len (m : Int) (l : List (List UInt8)) (i : Int) : (lrRows (extTop m l i)).length ≤ 100 := by
  unfold extTop
  split
  · simp [lrRows]
  · split
    · simp [lrRows]
    · split
      · simp [lrRows]
      · have := extP_len m 6 l i.toNat true
        simp only [lrRows]
        split
        · simp
        · omega
set_option maxHeartbeats 1000000 in
theorem rollExtends_walk (m : Int) (l : List (List UInt8)) (ap : Option Addr) (cap : Nat) (i : Int) (w : World) (hT : KW w) (m0 : -9223372036854775808 ≤ m) (m1 : m ≤ 9223372036854775807) (hc : l.length ≤ cap) (hq : cap ≤ 9223372036854775807) (hr : l.length ≤ 140737488351232 ∧ ∀ x ∈ l, x.length ≤ 140737488351232) (hl : Lines w ap l) (i0 : -9223372036854775808 ≤ i) (i1 : i ≤ 9223372036854775807) :
    Calls Tryd.prog 10 #[.int .i64 m, .slice ap l.length cap, .int .i64 i] w fun e w' => e = .returned (.bool true) ∧ Below w.heap.size w w' := by
  have cA := Extend_any m l ap cap i w m0 m1 hc hq i0 i1 hr.2 hl hT
  have cB := fun W hl => ExtendOf_any m l ap cap i W m0 m1 hc hq i0 i1 hr.2 hl
  have hsm : (lrRows (extTop m l i)).length ≤ 100 := extTop_len m l i
  have cS := fun ap ap' cp cp' W h h' => lawLists_any (lrRows (extTop m l i)) (lrRows (extTop m l i)) ap ap' cp cp' W h h' (by omega) (by omega)
  rw [decide_eq_true rfl] at cS
  generalize extTop m l i = X at *
  clear hr hc hq hT
  generalize l.length = n at *
  go_enter Tryd.func10, Tryd.ntmps10
  go_wp2_with fail
  refine cA.mono ?_
  intro e w1 hpost
  obtain ⟨a1, c1, rfl, hl1, hb1⟩ := linesPost_top hpost.post
  have c := cB w1 (hl.keep hb1)
  clear cA cB hpost
  go_wp2_with fail
  refine c.mono ?_
  intro e w2 hpost
  obtain ⟨a2, c2, rfl, hl2, hb2⟩ := linesPost_top hpost
  have hbb := below_step hb1 hb1.size hb2
  have c := cS a1 a2 c1 c2 w2 (hl1.keep hb2) hl2
  clear cS hl1 hl2 hl hb1 hb2 hpost hsm
  generalize (lrRows X).length = ll at *
  generalize lrErr X = le at *
  go_wp2_with fail
  refine c.mono ?_
  rintro e w3 ⟨rfl, hb3⟩
  have hb4 := below_step hbb hbb.size hb3
  go_wp2_with fail
  go_ret
  exact ⟨rfl, hb4⟩
end Go.Proofs.YtdpfjhhcgaeiiaaDoor
