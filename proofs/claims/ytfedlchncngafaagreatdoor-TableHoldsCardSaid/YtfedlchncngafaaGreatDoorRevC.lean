/-
  CONTRACTS of the reference's reckoned: products and quotients.
  CONDITIONS: each theorem's own hypotheses.
-/
import Derived.Test.YtfedlchncngafaaGreatDoorRevB
namespace Go.Proofs.YtfedlchncngafaaGreatDoor
open Go.RowKit
set_option linter.unusedVariables false
set_option maxRecDepth 100000

theorem natAbs_in (a b : Int) : ((a * b).natAbs = a.natAbs * b.natAbs) := Int.natAbs_mul a b
set_option maxHeartbeats 16000000 in
theorem reckMul_any (a b : Int) (ha : in64 a) (hb0 : in64 b) (w : World) : Calls Tryz.prog 113 #[.int .i64 7, .int .i64 a, .int .i64 b] w (RekOk (numE (a * b)) w) := by
  unfold RekOk
  have hz := Blk.new w #[.int .i64 0, .int .i64 0, .int .u64 0, .string ⟨#[]⟩] 24
  have hb := (Below.refl w.heap.size w).alloc (Nat.le_refl _) (.cells #[.int .i64 0, .int .i64 0, .int .u64 0, .string ⟨#[]⟩] 24)
  generalize hw1 : w.alloc (.cells #[.int .i64 0, .int .i64 0, .int .u64 0, .string ⟨#[]⟩] 24) = w1 at hz hb
  have cX := fun W => sizeOf_any a ha W
  have cY := fun W => sizeOf_any b hb0 W
  have hA : a.natAbs ≤ 9223372036854775808 := by unfold in64 at ha; omega
  have hB : b.natAbs ≤ 9223372036854775808 := by unfold in64 at hb0; omega
  have cM := fun W => Any.bits_Mul64 Tryz.laysMul a.natAbs b.natAbs (by omega) (by omega) W
  have hm := natAbs_neg_mul a b
  have hab := natAbs_in a b
  generalize a.natAbs = A at *
  generalize b.natAbs = B at *
  by_cases hlt : A * B < 18446744073709551616
  · have h0 : A * B / 18446744073709551616 = 0 := Nat.div_eq_of_lt hlt
    have hl : A * B % 18446744073709551616 = A * B := Nat.mod_eq_of_lt hlt
    simp only [h0, hl, Int.natCast_zero] at cM
    have cG := fun W => rsigned_any (decide (a < 0) != decide (b < 0)) (A * B) hlt (numE (a * b)) (by rw [hm]) W
    generalize numE (a * b) = R at *
    clear hm hab h0 hl hA hB ha hb0
    generalize A * B = P at *
    obtain ⟨⟨rk, ri, rb, rs⟩, rf⟩ := R
    unfold valV at cG ⊢
    simp only at cG ⊢
    generalize str rs = RS at *
    obtain ⟨dA, iA⟩ : ∃ d, decide (a < 0) = d := ⟨_, rfl⟩
    obtain ⟨dB, iB⟩ : ∃ d, decide (b < 0) = d := ⟨_, rfl⟩
    cases dA <;> cases dB
    · simp only [iA, iB, bne_self_eq_false] at cG
      go_enter Tryz.func113, Tryz.ntmps113
      go_upto_region 1 with fail
      try rw [hw1]
      clear hw1
      go_wp2_with fail
      refine (cX _).mono ?_
      rintro e w2 ⟨rfl, rfl⟩
      clear cX
      go_wp2_with fail
      refine (cY _).mono ?_
      rintro e w2 ⟨rfl, rfl⟩
      clear cY
      go_wp2_with fail
      refine (cM _).mono ?_
      rintro e w2 ⟨rfl, rfl⟩
      clear cM
      go_wp2_with fail
      refine (cG _).mono ?_
      rintro e w2 ⟨rfl, hb2⟩
      have y2 := hz.call hb2
      have hb02 := below_stepE hb hb.size hb2
      obtain ⟨⟨p0, p1, p2, p3⟩, f0, f1, f2, f3⟩ := y2.four
      clear cG hz hb hb2
      go_wp2_with fail
      exact bodyPost_ret (results_val rfl _ _ w.heap.size _ _ _ _ rfl y2.set4) rfl ⟨rfl, below_set4 hb02 (Nat.le_refl _)⟩
    · simp only [iA, iB, Bool.false_bne] at cG
      go_enter Tryz.func113, Tryz.ntmps113
      go_upto_region 1 with fail
      try rw [hw1]
      clear hw1
      go_wp2_with fail
      refine (cX _).mono ?_
      rintro e w2 ⟨rfl, rfl⟩
      clear cX
      go_wp2_with fail
      refine (cY _).mono ?_
      rintro e w2 ⟨rfl, rfl⟩
      clear cY
      go_wp2_with fail
      refine (cM _).mono ?_
      rintro e w2 ⟨rfl, rfl⟩
      clear cM
      go_wp2_with fail
      refine (cG _).mono ?_
      rintro e w2 ⟨rfl, hb2⟩
      have y2 := hz.call hb2
      have hb02 := below_stepE hb hb.size hb2
      obtain ⟨⟨p0, p1, p2, p3⟩, f0, f1, f2, f3⟩ := y2.four
      clear cG hz hb hb2
      go_wp2_with fail
      exact bodyPost_ret (results_val rfl _ _ w.heap.size _ _ _ _ rfl y2.set4) rfl ⟨rfl, below_set4 hb02 (Nat.le_refl _)⟩
    · simp only [iA, iB, Bool.true_bne, Bool.not_false] at cG
      go_enter Tryz.func113, Tryz.ntmps113
      go_upto_region 1 with fail
      try rw [hw1]
      clear hw1
      go_wp2_with fail
      refine (cX _).mono ?_
      rintro e w2 ⟨rfl, rfl⟩
      clear cX
      go_wp2_with fail
      refine (cY _).mono ?_
      rintro e w2 ⟨rfl, rfl⟩
      clear cY
      go_wp2_with fail
      refine (cM _).mono ?_
      rintro e w2 ⟨rfl, rfl⟩
      clear cM
      go_wp2_with fail
      refine (cG _).mono ?_
      rintro e w2 ⟨rfl, hb2⟩
      have y2 := hz.call hb2
      have hb02 := below_stepE hb hb.size hb2
      obtain ⟨⟨p0, p1, p2, p3⟩, f0, f1, f2, f3⟩ := y2.four
      clear cG hz hb hb2
      go_wp2_with fail
      exact bodyPost_ret (results_val rfl _ _ w.heap.size _ _ _ _ rfl y2.set4) rfl ⟨rfl, below_set4 hb02 (Nat.le_refl _)⟩
    · simp only [iA, iB, bne_self_eq_false] at cG
      go_enter Tryz.func113, Tryz.ntmps113
      go_upto_region 1 with fail
      try rw [hw1]
      clear hw1
      go_wp2_with fail
      refine (cX _).mono ?_
      rintro e w2 ⟨rfl, rfl⟩
      clear cX
      go_wp2_with fail
      refine (cY _).mono ?_
      rintro e w2 ⟨rfl, rfl⟩
      clear cY
      go_wp2_with fail
      refine (cM _).mono ?_
      rintro e w2 ⟨rfl, rfl⟩
      clear cM
      go_wp2_with fail
      refine (cG _).mono ?_
      rintro e w2 ⟨rfl, hb2⟩
      have y2 := hz.call hb2
      have hb02 := below_stepE hb hb.size hb2
      obtain ⟨⟨p0, p1, p2, p3⟩, f0, f1, f2, f3⟩ := y2.four
      clear cG hz hb hb2
      go_wp2_with fail
      exact bodyPost_ret (results_val rfl _ _ w.heap.size _ _ _ _ rfl y2.set4) rfl ⟨rfl, below_set4 hb02 (Nat.le_refl _)⟩
  · have h0 : ((A * B / 18446744073709551616 : Nat) : Int) ≠ 0 := by
      have : 1 ≤ A * B / 18446744073709551616 := (Nat.le_div_iff_mul_le (by decide)).2 (by omega)
      omega
    have hno : numE (a * b) = badE 6 := if_neg (by omega)
    rw [hno]
    generalize A * B / 18446744073709551616 = h at *
    generalize A * B % 18446744073709551616 = l at *
    have h1 : ((h : Int) != 0) = true := by simpa using h0
    clear hm hab hno hA hB ha hb0
    go_enter Tryz.func113, Tryz.ntmps113
    go_upto_region 1 with fail
    try rw [hw1]
    clear hw1
    go_wp2_with fail
    refine (cX _).mono ?_
    rintro e w2 ⟨rfl, rfl⟩
    clear cX
    go_wp2_with fail
    refine (cY _).mono ?_
    rintro e w2 ⟨rfl, rfl⟩
    clear cY
    go_wp2_with fail
    refine (cM _).mono ?_
    rintro e w2 ⟨rfl, rfl⟩
    clear cM
    obtain ⟨⟨p0, p1, p2, p3⟩, f0, f1, f2, f3⟩ := hz.four
    go_wp2_with fail
    exact bodyPost_ret (results_val rfl _ _ w.heap.size _ _ _ _ rfl hz.set4) rfl ⟨rfl, below_set4 hb (Nat.le_refl _)⟩
set_option maxHeartbeats 16000000 in
theorem reckDiv_any (a b : Int) (ha : in64 a) (hb0 : in64 b) (w : World) : Calls Tryz.prog 113 #[.int .i64 8, .int .i64 a, .int .i64 b] w (RekOk (if b = 0 then badE 7 else numE (a.tdiv b)) w) := by
  unfold RekOk
  have hz := Blk.new w #[.int .i64 0, .int .i64 0, .int .u64 0, .string ⟨#[]⟩] 24
  have hb := (Below.refl w.heap.size w).alloc (Nat.le_refl _) (.cells #[.int .i64 0, .int .i64 0, .int .u64 0, .string ⟨#[]⟩] 24)
  generalize hw1 : w.alloc (.cells #[.int .i64 0, .int .i64 0, .int .u64 0, .string ⟨#[]⟩] 24) = w1 at hz hb
  have cX := fun W => sizeOf_any a ha W
  have cY := fun W => sizeOf_any b hb0 W
  by_cases hb00 : b = 0
  · rw [if_pos hb00]
    have hb1 : (b == 0) = true := by simpa using hb00
    clear hb00 cX cY ha hb0
    go_enter Tryz.func113, Tryz.ntmps113
    go_upto_region 1 with fail
    try rw [hw1]
    clear hw1
    obtain ⟨⟨p0, p1, p2, p3⟩, f0, f1, f2, f3⟩ := hz.four
    go_wp2_with fail
    exact bodyPost_ret (results_val rfl _ _ w.heap.size _ _ _ _ rfl hz.set4) rfl ⟨rfl, below_set4 hb (Nat.le_refl _)⟩
  · rw [if_neg hb00]
    have hb1 : (b == 0) = false := by simpa using hb00
    have hA : a.natAbs ≤ 9223372036854775808 := by unfold in64 at ha; omega
    have hB : b.natAbs ≤ 9223372036854775808 := by unfold in64 at hb0; omega
    have hB0 : b.natAbs ≠ 0 := by omega
    have hm := natAbs_tdiv a b
    generalize a.natAbs = A at *
    generalize b.natAbs = B at *
    have hq : A / B ≤ A := Nat.div_le_self A B
    have cG := fun W => rsigned_any (decide (a < 0) != decide (b < 0)) (A / B) (by omega) (numE (a.tdiv b)) (by rw [hm]) W
    generalize numE (a.tdiv b) = R at *
    have e1 : ((A : Int).tdiv (B : Int)) = ((A / B : Nat) : Int) := by rw [Int.natCast_ediv, Int.tdiv_eq_ediv_of_nonneg (by omega)]
    have e2 : IntKind.u64.wrap ((A / B : Nat) : Int) = ((A / B : Nat) : Int) := by
      have h9 : A / B < 18446744073709551616 := by omega
      clear e1
      generalize A / B = q at h9 ⊢
      rw [IntKind.wrap_u64]; omega
    have e3 : (A : Int) / (B : Int) = ((A / B : Nat) : Int) := by rw [Int.natCast_ediv]
    have e4 : ((B : Int) == 0) = false := by simp; omega
    have e5 : ¬ ((B : Int) = 0) := by omega
    clear hm hb00 ha hb0 hq hA hB
    generalize A / B = P at *
    obtain ⟨⟨rk, ri, rb, rs⟩, rf⟩ := R
    unfold valV at cG ⊢
    simp only at cG ⊢
    generalize str rs = RS at *
    obtain ⟨dA, iA⟩ : ∃ d, decide (a < 0) = d := ⟨_, rfl⟩
    obtain ⟨dB, iB⟩ : ∃ d, decide (b < 0) = d := ⟨_, rfl⟩
    cases dA <;> cases dB
    · simp only [iA, iB, bne_self_eq_false] at cG
      go_enter Tryz.func113, Tryz.ntmps113
      go_upto_region 1 with fail
      try rw [hw1]
      clear hw1
      go_wp2_with fail
      refine (cX _).mono ?_
      rintro e w2 ⟨rfl, rfl⟩
      clear cX
      go_wp2_with fail
      refine (cY _).mono ?_
      rintro e w2 ⟨rfl, rfl⟩
      clear cY
      go_wp2_with fail
      refine (cG _).mono ?_
      rintro e w2 ⟨rfl, hb2⟩
      have y2 := hz.call hb2
      have hb02 := below_stepE hb hb.size hb2
      obtain ⟨⟨p0, p1, p2, p3⟩, f0, f1, f2, f3⟩ := y2.four
      clear cG hz hb hb2
      go_wp2_with fail
      exact bodyPost_ret (results_val rfl _ _ w.heap.size _ _ _ _ rfl y2.set4) rfl ⟨rfl, below_set4 hb02 (Nat.le_refl _)⟩
    · simp only [iA, iB, Bool.false_bne] at cG
      go_enter Tryz.func113, Tryz.ntmps113
      go_upto_region 1 with fail
      try rw [hw1]
      clear hw1
      go_wp2_with fail
      refine (cX _).mono ?_
      rintro e w2 ⟨rfl, rfl⟩
      clear cX
      go_wp2_with fail
      refine (cY _).mono ?_
      rintro e w2 ⟨rfl, rfl⟩
      clear cY
      go_wp2_with fail
      refine (cG _).mono ?_
      rintro e w2 ⟨rfl, hb2⟩
      have y2 := hz.call hb2
      have hb02 := below_stepE hb hb.size hb2
      obtain ⟨⟨p0, p1, p2, p3⟩, f0, f1, f2, f3⟩ := y2.four
      clear cG hz hb hb2
      go_wp2_with fail
      exact bodyPost_ret (results_val rfl _ _ w.heap.size _ _ _ _ rfl y2.set4) rfl ⟨rfl, below_set4 hb02 (Nat.le_refl _)⟩
    · simp only [iA, iB, Bool.true_bne, Bool.not_false] at cG
      go_enter Tryz.func113, Tryz.ntmps113
      go_upto_region 1 with fail
      try rw [hw1]
      clear hw1
      go_wp2_with fail
      refine (cX _).mono ?_
      rintro e w2 ⟨rfl, rfl⟩
      clear cX
      go_wp2_with fail
      refine (cY _).mono ?_
      rintro e w2 ⟨rfl, rfl⟩
      clear cY
      go_wp2_with fail
      refine (cG _).mono ?_
      rintro e w2 ⟨rfl, hb2⟩
      have y2 := hz.call hb2
      have hb02 := below_stepE hb hb.size hb2
      obtain ⟨⟨p0, p1, p2, p3⟩, f0, f1, f2, f3⟩ := y2.four
      clear cG hz hb hb2
      go_wp2_with fail
      exact bodyPost_ret (results_val rfl _ _ w.heap.size _ _ _ _ rfl y2.set4) rfl ⟨rfl, below_set4 hb02 (Nat.le_refl _)⟩
    · simp only [iA, iB, bne_self_eq_false] at cG
      go_enter Tryz.func113, Tryz.ntmps113
      go_upto_region 1 with fail
      try rw [hw1]
      clear hw1
      go_wp2_with fail
      refine (cX _).mono ?_
      rintro e w2 ⟨rfl, rfl⟩
      clear cX
      go_wp2_with fail
      refine (cY _).mono ?_
      rintro e w2 ⟨rfl, rfl⟩
      clear cY
      go_wp2_with fail
      refine (cG _).mono ?_
      rintro e w2 ⟨rfl, hb2⟩
      have y2 := hz.call hb2
      have hb02 := below_stepE hb hb.size hb2
      obtain ⟨⟨p0, p1, p2, p3⟩, f0, f1, f2, f3⟩ := y2.four
      clear cG hz hb hb2
      go_wp2_with fail
      exact bodyPost_ret (results_val rfl _ _ w.heap.size _ _ _ _ rfl y2.set4) rfl ⟨rfl, below_set4 hb02 (Nat.le_refl _)⟩
end Go.Proofs.YtfedlchncngafaaGreatDoor
