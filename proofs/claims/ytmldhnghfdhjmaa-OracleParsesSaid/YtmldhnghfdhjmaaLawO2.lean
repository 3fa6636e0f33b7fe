/-
  THE WALK of the law 'chirographlaw.OracleParses'.
  CONDITIONS: each theorem's own hypotheses.
-/
import Derived.Test.YtmldhnghfdhjmaaParseD
import Derived.Test.YtmldhnghfdhjmaaPartsR
import Derived.Test.YtmldhnghfdhjmaaListsL
namespace Go.Proofs.Ytmldhnghfdhjmaa
open Go.RowKit CodeMath Go.Proofs.Ytmldhnghfdhjmaa.FrameMath
set_option linter.unusedVariables false

theorem Lines.rows_max {w : World} {ap : Option Addr} {rows : List (List UInt8)} {n : Nat} (h : rows.length ≤ n) (hn : n ≤ 9223372036854775807) : rows.length ≤ 9223372036854775807 := Nat.le_trans h hn
set_option maxRecDepth 100000 in
set_option maxHeartbeats 2000000 in
theorem oracleParses_walk (l : List UInt8) (ao : Option Addr) (cap : Nat) (w : World) (hc : l.length ≤ cap) (hq : cap ≤ 9223372036854775807) (hr : l.length ≤ 140737488351232) (hn : ao = none → cap = 0) (hb : Bytes w ao l) :
    Calls Try.prog 4 #[.slice ao l.length cap] w fun e w' => e = .returned (.bool true) ∧ Below w.heap.size w w' := by
  have cA := Parse_any l ao cap w hc hq hn hr hb
  have cB := fun W h => PartsOf_any l ao cap W h hr
  generalize l.length = n at *
  cases hp : parse l with
  | err q =>
    rw [hp] at cA cB
    have cL := fun W => lawLists_any [] [] none none 0 0 W (.inl rfl) (.inl rfl) (by simp) (by simp)
    clear hc hq hr hn hp
    go_enter Try.func4, Try.ntmps4
    go_wp2_with fail
    refine cA.mono ?_
    rintro e w1 ⟨rfl, hB1⟩
    have c := cB w1 (hb.keep hB1)
    clear cA cB
    go_wp2_with fail
    refine c.mono ?_
    rintro e w2 ⟨rfl, hB2⟩
    have hBB := below_step hB1 hB1.size hB2
    clear c
    go_wp2_with fail
    refine (cL _).mono ?_
    rintro e w3 ⟨rfl, hB3⟩
    have hB4 := below_step hBB hBB.size hB3
    go_wp2_with fail
    go_ret
    exact ⟨rfl, hB4⟩
  | ok t ps =>
    rw [hp] at cA cB
    clear hc hq hr hn hp
    go_enter Try.func4, Try.ntmps4
    go_wp2_with fail
    refine cA.mono ?_
    rintro e w1 ⟨v1, rfl, ho1, hB1⟩
    have c := cB w1 (hb.keep hB1)
    clear cA cB
    go_wp2_with fail
    refine c.mono ?_
    rintro e w2 ⟨v2, rfl, ho2, hB2⟩
    have hBB := below_step hB1 hB1.size hB2
    obtain ⟨a1, k1, rfl, g1, g2, g3, g4⟩ := (ho1.keep hB2).lines
    obtain ⟨a2, k2, rfl, i1, i2, i3, i4⟩ := ho2.lines
    have cL := lawLists_any ps ps a1 a2 k1 k2 w2 g4 i4 (Nat.le_trans g1 g2) (Nat.le_trans g1 g2)
    rw [decide_eq_true rfl] at cL
    clear c ho1 ho2
    generalize ps.length = m at *
    go_wp2_with fail
    refine cL.mono ?_
    rintro e w3 ⟨rfl, hB3⟩
    have hB4 := below_step hBB hBB.size hB3
    go_wp2_with fail
    go_ret
    exact ⟨rfl, hB4⟩
end Go.Proofs.Ytmldhnghfdhjmaa
