/-
  THE WALK of the law 'chirographlaw.TableConditions'.
  CONDITIONS: each theorem's own hypotheses.
-/
import Derived.Test.YtfedlchncngafaaDoorCondA
namespace Go.Proofs.YtfedlchncngafaaDoor
open Go.RowKit
set_option linter.unusedVariables false
set_option maxRecDepth 100000

set_option maxHeartbeats 8000000 in
theorem tableConditions_walk (t : T) (ao : Option Addr) (cap : Nat) (cs : List Cl) (aoc : Option Addr) (capc : Nat) (w : World) (hX : XEnv w) (hl : t.kids.length ≤ cap) (hm : cap ≤ 9223372036854775807 ∧ (ao = none → cap = 0)) (hA : AtT w t ao) (hlc : cs.length ≤ capc) (hmc : capc ≤ 9223372036854775807) (hC : Cols w aoc cs) :
    Calls Tryd.prog 5 #[exprV t ao cap, .slice aoc cs.length capc] w fun e w' => e = .returned (.bool true) ∧ Below w.heap.size w w' := by
  have c1 := fun W (hW : Below w.heap.size w W) => condition_any t ao cap cs aoc capc W (hX.keep hW) hl hm (hA.keep hW) hlc hmc (hC.keep hW)
  have c2 := fun W (hW : Below w.heap.size w W) => conditionFault_any t ao cap cs aoc capc W (hX.keep hW) hl hm (hA.keep hW) hlc hmc (hC.keep hW)
  simp only [exprV_agg] at c1 c2 ⊢
  generalize condR cs t = Rf at *
  generalize t.kids.length = L at *
  generalize t.nd = nd at *
  generalize cs.length = m at *
  obtain ⟨op, k, i, b, s, nm⟩ := nd
  simp only at c1 c2 ⊢
  generalize str s = S at *
  generalize str nm = N at *
  have hz := Blk.new w #[.int .i64 op, .int .i64 k, .int .i64 i, .int .u64 b, .string S, .string N, .slice ao L cap] 42
  have hb0 : Below w.heap.size w (w.alloc (.cells #[.int .i64 op, .int .i64 k, .int .i64 i, .int .u64 b, .string S, .string N, .slice ao L cap] 42)) := (Below.refl _ _).alloc (Nat.le_refl _) _
  generalize hw1 : w.alloc (.cells #[.int .i64 op, .int .i64 k, .int .i64 i, .int .u64 b, .string S, .string N, .slice ao L cap] 42) = w1 at hz hb0
  have d1 := c1 w1 hb0
  obtain ⟨p0, p1, p2, p3, p4, p5, p6⟩ := hz.seven
  have e1 : (Rf == Rf) = true := by simp
  clear hA hX hl hm hlc hmc hC c1
  go_enter Tryd.func5, Tryd.ntmps5
  go_upto_region 1 with fail
  try rw [hw1]
  clear hw1
  go_wp2_with fail
  refine d1.mono ?_
  rintro e w2 ⟨rfl, hb2⟩
  have hb02 := below_two hb0 hb2
  have hz2 := hz.call hb2
  have d2 := c2 w2 hb02
  clear d1 hb2 hb0 p0 p1 p2 p3 p4 p5 p6 hz c2
  obtain ⟨q0, q1, q2, q3, q4, q5, q6⟩ := hz2.seven
  go_wp2_with fail
  refine d2.mono ?_
  rintro e w3 ⟨rfl, hb3⟩
  have hb03 := below_two hb02 hb3
  clear d2 hb3 q0 q1 q2 q3 q4 q5 q6
  go_wp2_with fail
  go_ret
  exact ⟨by first | rfl | simp, hb03⟩
end Go.Proofs.YtfedlchncngafaaDoor
