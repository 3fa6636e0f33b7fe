/-
  THE WALK of the law 'chirographlaw.SpanRanges': for every expression and name the law returns true.
  CONDITIONS: the expression lies; the tables lie (XEnv).
-/
import Derived.Test.YtablacloabpjfabDoorSpanG
namespace Go.Proofs.YtablacloabpjfabDoor
open Go.RowKit
set_option linter.unusedVariables false
set_option maxRecDepth 100000

theorem str_selfS (t : ByteArray) : str t.data.toList = t := by cases t; simp [str]
theorem span_agree (n : List UInt8) (t : T) (hF : FitT t) : rangeE n t = spanR n t := by
  unfold rangeE spanR
  by_cases h : exprR t = 0
  · rw [if_neg (by rw [h]; decide), if_neg (by rw [h]; decide), range_same n t (formT_of t h) hF]
  · rw [if_pos h, if_pos h]
set_option maxHeartbeats 8000000 in
theorem spanRanges_walk (t : T) (ao : Option Addr) (cap : Nat) (s : ByteArray) (w : World) (hX : XEnv w) (hl : t.kids.length ≤ cap) (hm : cap ≤ 9223372036854775807 ∧ (ao = none → cap = 0)) (hA : AtT w t ao) (hs : s.size ≤ 9223372036854775807) :
    Calls Tryd.prog 3 #[exprV t ao cap, .string s] w fun e w' => e = .returned (.bool true) ∧ Below w.heap.size w w' := by
  have c1 := fun W (hW : Below w.heap.size w W) => span_of_any t ao cap s.data.toList W (hA.keep hW) (by omega) (hX.keep hW)
  have c2 := fun W (hW : Below w.heap.size w W) => rangeOf_any t ao cap s.data.toList W (hA.keep hW) hl hm.1 hm.2 (hX.keep hW).tabs
  rw [span_agree s.data.toList t (atT_fit t.deep t ao (Nat.le_refl _) hA)] at c2
  rw [str_selfS] at c1 c2
  generalize spanR s.data.toList t = R at *
  obtain ⟨⟨lo, hi⟩, f⟩ := R
  unfold rgV at c1 c2
  simp only [exprV_cells] at c1 c2 ⊢
  generalize t.kids.length = L at *
  generalize t.nd = nd at *
  obtain ⟨op, k, i, b, st, nm⟩ := nd
  simp only at c1 c2 ⊢
  generalize str st = S at *
  generalize str nm = N at *
  have hz : Blk _ _ _ [_, _, _, _, _, _, _] := Blk.new w #[.int .i64 op, .int .i64 k, .int .i64 i, .int .u64 b, .string S, .string N, .slice ao L cap] 27
  have hb := (Below.refl w.heap.size w).alloc (Nat.le_refl _) (.cells #[.int .i64 op, .int .i64 k, .int .i64 i, .int .u64 b, .string S, .string N, .slice ao L cap] 27)
  obtain ⟨w1, hw1⟩ : ∃ w1, w.alloc (.cells #[.int .i64 op, .int .i64 k, .int .i64 i, .int .u64 b, .string S, .string N, .slice ao L cap] 27) = w1 := ⟨_, rfl⟩
  rw [hw1] at hz hb
  clear hA hX hl hm hs
  obtain ⟨r0, r1, r2, r3, r4, r5, r6⟩ := hz.sevenG
  go_enter Tryd.func3, Tryd.ntmps3
  go_upto_region 1 with fail
  try rw [hw1]
  clear hw1
  go_wp2_with fail
  refine (c1 _ hb).mono ?_
  rintro e W2 ⟨rfl, hb2⟩
  have B2 := below_stepG hb hb.size hb2
  have Z2 := hz.call hb2
  have za := Blk.new W2 #[.int .i64 lo, .int .i64 hi] 29
  have hba := (Below.refl W2.heap.size W2).alloc (Nat.le_refl _) (.cells #[.int .i64 lo, .int .i64 hi] 29)
  have B3 := below_stepG B2 B2.size hba
  have Z3 := Z2.call hba
  clear hb2 hb hz r0 r1 r2 r3 r4 r5 r6 c1 B2 Z2
  go_upto_region 2 with fail
  generalize hw3 : W2.alloc (.cells #[.int .i64 lo, .int .i64 hi] 29) = W3 at *
  clear hw3 hba
  generalize W2.heap.size = ga at *
  obtain ⟨r0, r1, r2, r3, r4, r5, r6⟩ := Z3.sevenG
  go_wp2_with fail
  refine (c2 _ B3).mono ?_
  rintro e W4 ⟨rfl, hb4⟩
  have B4 := below_stepG B3 B3.size hb4
  have za4 := za.call hb4
  have zb := Blk.new W4 #[.int .i64 lo, .int .i64 hi] 29
  have hba := (Below.refl W4.heap.size W4).alloc (Nat.le_refl _) (.cells #[.int .i64 lo, .int .i64 hi] 29)
  have B5 := below_stepG B4 B4.size hba
  have za5 := za4.call hba
  clear r0 r1 r2 r3 r4 r5 r6 Z3 B3 za hb4 za4 B4 c2
  go_upto_region 3 with fail
  generalize hw5 : W4.alloc (.cells #[.int .i64 lo, .int .i64 hi] 29) = W5 at *
  clear hw5 hba
  generalize W4.heap.size = gb at *
  obtain ⟨⟨p0, p1⟩, _⟩ := za5.two
  obtain ⟨⟨q0, q1⟩, _⟩ := zb.two
  go_wp2_with fail
  go_ret
  exact ⟨by simp, B5⟩
end Go.Proofs.YtablacloabpjfabDoor
