/-
  CONTRACTS of package kinds' Of and of the reference's KindOf; the walk of the law 'chirographlaw.KindsOf'.
  CONDITIONS: each theorem's own hypotheses; the tables hold what their initialisers lay (XEnv).
-/
import Derived.Test.YtfedlchncngafaaDoorGKindE
import Derived.Test.YtfedlchncngafaaDoorExprI
namespace Go.Proofs.YtfedlchncngafaaDoor
open Go.RowKit
set_option linter.unusedVariables false
set_option maxRecDepth 100000

set_option maxHeartbeats 8000000 in
theorem kindOfRef_any (t : T) (ao : Option Addr) (cap : Nat) (cs : List Cl) (aoc : Option Addr) (capc : Nat) (w : World) (hX : XEnv w) (hl : t.kids.length ≤ cap) (hm : cap ≤ 9223372036854775807 ∧ (ao = none → cap = 0)) (hA : AtT w t ao) (hlc : cs.length ≤ capc) (hmc : capc ≤ 9223372036854775807) (hC : Cols w aoc cs) :
    Calls Tryd.prog 44 #[exprV t ao cap, .slice aoc cs.length capc] w fun e w' => e = .returned (.tuple #[.int .i64 (kindsR cs t).k, .bool (kindsR cs t).n, .int .i64 (kindsR cs t).f]) ∧ Below w.heap.size w w' := by
  have c1 := fun W (hW : Below w.heap.size w W) => exprFault_any t ao cap W (hA.keep hW) hl hm.1 hm.2 (hX.keep hW).tabs
  have c2 := fun W (hW : Below w.heap.size w W) => columnsFault_any cs aoc capc W hlc hmc (hC.keep hW)
  have c3 := fun W (hW : Below w.heap.size w W) (h1 : exprR t = 0) (h2 : colsR cs = 0) => kof_any t.deep t ao cap cs aoc capc W (Nat.le_refl _) (exprR_form t h1) h2 (hA.keep hW) (by omega) (by omega) (hC.keep hW)
  have hR : kindsR cs t = if exprR t ≠ 0 then ⟨0, false, exprR t⟩ else if colsR cs ≠ 0 then ⟨0, false, colsR cs⟩ else kT cs t := rfl
  have HR := Lib.hid hR
  simp only [exprV_cells] at c1 c3 ⊢
  generalize kindsR cs t = R at *
  generalize kT cs t = KT at *
  generalize exprR t = F at *
  generalize colsR cs = G at *
  generalize t.kids.length = L at *
  generalize t.nd = nd at *
  generalize cs.length = m at *
  obtain ⟨op, k, i, b, s, nm⟩ := nd
  simp only at c1 c3 ⊢
  generalize str s = S at *
  generalize str nm = N at *
  have hz := Blk.new w #[.int .i64 op, .int .i64 k, .int .i64 i, .int .u64 b, .string S, .string N, .slice ao L cap] 42
  have hb0 : Below w.heap.size w (w.alloc (.cells #[.int .i64 op, .int .i64 k, .int .i64 i, .int .u64 b, .string S, .string N, .slice ao L cap] 42)) := (Below.refl _ _).alloc (Nat.le_refl _) _
  generalize hw1 : w.alloc (.cells #[.int .i64 op, .int .i64 k, .int .i64 i, .int .u64 b, .string S, .string N, .slice ao L cap] 42) = w1 at hz hb0
  have d1 := c1 w1 hb0
  obtain ⟨p0, p1, p2, p3, p4, p5, p6⟩ := hz.seven
  clear hA hX hl hm hlc hmc hC hR c1
  go_enter Tryd.func44, Tryd.ntmps44
  go_upto_region 1 with fail
  try rw [hw1]
  clear hw1
  go_wp2_with fail
  refine d1.mono ?_
  rintro e w2 ⟨rfl, hb2⟩
  have hb02 := below_two hb0 hb2
  have hz2 := hz.call hb2
  clear d1 hb2 hb0 p0 p1 p2 p3 p4 p5 p6 hz
  by_cases hF : F = 0
  · have z1 : (F != 0) = false := by rw [hF]; rfl
    have d2 := c2 w2 hb02
    have HR2 : Hid (R = if G ≠ 0 then ⟨0, false, G⟩ else KT) := by have := HR.out; rw [if_neg (by rw [hF]; decide)] at this; exact this
    have c4 := fun W hW h2 => c3 W hW hF h2
    clear c2 c3 HR
    go_wp2_with fail
    refine d2.mono ?_
    rintro e w3 ⟨rfl, hb3⟩
    have hb03 := below_two hb02 hb3
    have hz3 := hz2.call hb3
    clear d2 hb3 hb02 hz2
    by_cases hG : G = 0
    · have z2 : (G != 0) = false := by rw [hG]; rfl
      have d4 := c4 w3 hb03 hG
      have HR3 : Hid (R = KT) := by have := HR2.out; rw [if_neg (by rw [hG]; decide)] at this; exact this
      obtain ⟨q0, q1, q2, q3, q4, q5, q6⟩ := hz3.seven
      clear c4 HR2 hG hF
      go_wp2_with fail
      refine d4.mono ?_
      rintro e w4 ⟨rfl, hb4⟩
      have hb04 := below_two hb03 hb4
      clear d4 hb4 q0 q1 q2 q3 q4 q5 q6
      go_wp2_with fail
      go_ret3
      exact ⟨by rw [HR3.out]; rfl, hb04⟩
    · have z2 : (G != 0) = true := by simpa using hG
      have HR3 : Hid (R = ⟨0, false, G⟩) := by have := HR2.out; rw [if_pos hG] at this; exact this
      clear c4 HR2 hG hF
      go_wp2_with fail
      go_ret3
      exact ⟨by rw [HR3.out]; rfl, hb03⟩
  · have z1 : (F != 0) = true := by simpa using hF
    have HR3 : Hid (R = ⟨0, false, F⟩) := by have := HR.out; rw [if_pos hF] at this; exact this
    clear c2 c3 HR hF
    go_wp2_with fail
    go_ret3
    exact ⟨by rw [HR3.out]; rfl, hb02⟩
end Go.Proofs.YtfedlchncngafaaDoor
