/-
  CONTRACTS of the reference's signed and reckoned.
  CONDITIONS: each theorem's own hypotheses.
-/
import Derived.Test.YtfedlchncngafaaGreatDoorRevA
namespace Go.Proofs.YtfedlchncngafaaGreatDoor
open Go.RowKit
set_option linter.unusedVariables false
set_option maxRecDepth 100000

set_option maxHeartbeats 8000000 in
theorem rsigned_any (minus : Bool) (n : Nat) (hn : n < 18446744073709551616) (R : RE) (hR : R = numE (if minus = true then -(n : Int) else n)) (w : World) : Calls Tryz.prog 150 #[.bool minus, .int .u64 n] w fun e w' => e = .returned (.tuple #[valV R.v, .int .i64 R.f]) ∧ Below w.heap.size w w' := by
  have hz := Blk.new w #[.int .i64 0, .int .i64 0, .int .u64 0, .string ⟨#[]⟩] 24
  have hb := (Below.refl w.heap.size w).alloc (Nat.le_refl _) (.cells #[.int .i64 0, .int .i64 0, .int .u64 0, .string ⟨#[]⟩] 24)
  generalize hw1 : w.alloc (.cells #[.int .i64 0, .int .i64 0, .int .u64 0, .string ⟨#[]⟩] 24) = w1 at hz hb
  have cI := fun m W => rintOf_any m W
  unfold valV intV at cI
  simp only [str_nil] at cI
  have hok : ∀ m : Int, in64 m → R = numE m → R = okE (intV m) := fun m hm h => by rw [h, numE_in hm]
  have hno : ∀ m : Int, ¬ in64 m → R = numE m → R = badE 6 := fun m hm h => by
    rw [h]; exact if_neg hm
  cases minus
  · have hR2 : R = numE (n : Int) := hR
    by_cases h : n < 9223372036854775808
    · have e := hok n (by unfold in64; omega) hR2
      have hI : ((n : Int) < 9223372036854775808) := by omega
      have e1 : IntKind.i64.wrap (n : Int) = n := by rw [IntKind.wrap_i64]; omega
      subst e
      clear hR hR2 hok hno
      go_enter Tryz.func150, Tryz.ntmps150
      go_upto_region 1 with fail
      try rw [hw1]
      clear hw1
      go_wp2_with fail
      refine (cI _ _).mono ?_
      rintro e w2 ⟨rfl, hb2⟩
      have y := hz.call hb2
      have hb02 := below_stepE hb hb.size hb2
      obtain ⟨⟨p0, p1, p2, p3⟩, f0, f1, f2, f3⟩ := y.four
      clear cI hz hb hb2
      go_wp2_with fail
      exact bodyPost_ret (results_val rfl _ _ w.heap.size _ _ _ _ rfl y.set4) rfl ⟨rfl, below_set4 hb02 (Nat.le_refl _)⟩
    · have e := hno n (by unfold in64; omega) hR2
      have hI : ¬ ((n : Int) < 9223372036854775808) := by omega
      subst e
      clear hR hR2 hok hno cI
      obtain ⟨⟨p0, p1, p2, p3⟩, f0, f1, f2, f3⟩ := hz.four
      go_enter Tryz.func150, Tryz.ntmps150
      go_upto_region 1 with fail
      try rw [hw1]
      clear hw1
      go_wp2_with fail
      exact bodyPost_ret (results_val rfl _ _ w.heap.size _ _ _ _ rfl hz.set4) rfl ⟨rfl, below_set4 hb (Nat.le_refl _)⟩
  · have hR2 : R = numE (-(n : Int)) := hR
    by_cases h : n ≤ 9223372036854775808
    · have e := hok (-(n : Int)) (by unfold in64; omega) hR2
      have hI : ((n : Int) ≤ 9223372036854775808) := by omega
      have e0 : IntKind.i64.wrap (IntKind.u64.wrap (-(n : Int))) = -(n : Int) := by rw [IntKind.wrap_i64, IntKind.wrap_u64]; omega
      obtain ⟨u, hu⟩ : ∃ u, IntKind.u64.wrap (-(n : Int)) = u := ⟨_, rfl⟩
      rw [hu] at e0
      subst e
      clear hR hR2 hok hno
      go_enter Tryz.func150, Tryz.ntmps150
      go_upto_region 1 with fail
      try rw [hw1]
      clear hw1
      go_wp2_with fail
      refine (cI _ _).mono ?_
      rintro e w2 ⟨rfl, hb2⟩
      have y := hz.call hb2
      have hb02 := below_stepE hb hb.size hb2
      obtain ⟨⟨p0, p1, p2, p3⟩, f0, f1, f2, f3⟩ := y.four
      clear cI hz hb hb2
      go_wp2_with fail
      exact bodyPost_ret (results_val rfl _ _ w.heap.size _ _ _ _ rfl y.set4) rfl ⟨rfl, below_set4 hb02 (Nat.le_refl _)⟩
    · have e := hno (-(n : Int)) (by unfold in64; omega) hR2
      have hI : ¬ ((n : Int) ≤ 9223372036854775808) := by omega
      subst e
      clear hR hR2 hok hno cI
      obtain ⟨⟨p0, p1, p2, p3⟩, f0, f1, f2, f3⟩ := hz.four
      go_enter Tryz.func150, Tryz.ntmps150
      go_upto_region 1 with fail
      try rw [hw1]
      clear hw1
      go_wp2_with fail
      exact bodyPost_ret (results_val rfl _ _ w.heap.size _ _ _ _ rfl hz.set4) rfl ⟨rfl, below_set4 hb (Nat.le_refl _)⟩
def RekOk (R : RE) (w : World) (e : Ending) (w' : World) : Prop := e = .returned (.tuple #[valV R.v, .int .i64 R.f]) ∧ Below w.heap.size w w'
theorem wrap_up (a : Int) (h : in64 a) : IntKind.u64.wrap (IntKind.u64.wrap a + 9223372036854775808) = ((a + 9223372036854775808).toNat : Int) := by
  unfold in64 at h
  rw [IntKind.wrap_u64, IntKind.wrap_u64]; omega
set_option maxHeartbeats 8000000 in
theorem reckAdd_any (a b : Int) (ha : in64 a) (hb0 : in64 b) (w : World) : Calls Tryz.prog 113 #[.int .i64 5, .int .i64 a, .int .i64 b] w (RekOk (numE (a + b)) w) := by
  unfold RekOk
  have hz := Blk.new w #[.int .i64 0, .int .i64 0, .int .u64 0, .string ⟨#[]⟩] 24
  have hb := (Below.refl w.heap.size w).alloc (Nat.le_refl _) (.cells #[.int .i64 0, .int .i64 0, .int .u64 0, .string ⟨#[]⟩] 24)
  generalize hw1 : w.alloc (.cells #[.int .i64 0, .int .i64 0, .int .u64 0, .string ⟨#[]⟩] 24) = w1 at hz hb
  have cI := fun m W => rintOf_any m W
  unfold valV intV at cI
  simp only [str_nil] at cI
  have ea := wrap_up a ha
  have eb := wrap_up b hb0
  unfold in64 at ha hb0
  obtain ⟨x, hx⟩ : ∃ x, (a + 9223372036854775808).toNat = x := ⟨_, rfl⟩
  obtain ⟨y, hy⟩ : ∃ y, (b + 9223372036854775808).toNat = y := ⟨_, rfl⟩
  rw [hx] at ea
  rw [hy] at eb
  have cA := fun W => ref_add64 x y (by omega) (by omega) W
  obtain ⟨s, hs⟩ : ∃ s, (x + y) % 18446744073709551616 = s := ⟨_, rfl⟩
  obtain ⟨c, hc⟩ : ∃ c, (x + y) / 18446744073709551616 = c := ⟨_, rfl⟩
  simp only [hs, hc] at cA
  obtain ⟨ua, hua⟩ : ∃ ua, IntKind.u64.wrap a = ua := ⟨_, rfl⟩
  obtain ⟨ub, hub⟩ : ∃ ub, IntKind.u64.wrap b = ub := ⟨_, rfl⟩
  rw [hua] at ea
  rw [hub] at eb
  have hc01 : c = 0 ∨ c = 1 := by omega
  by_cases hin : in64 (a + b)
  · have hsum : IntKind.i64.wrap (s : Int) = a + b := by rw [IntKind.wrap_i64]; unfold in64 at hin; omega
    rw [numE_in hin]
    unfold in64 at hin
    rcases hc01 with rfl | rfl
    · have i1 : ¬ ((s : Int) < 9223372036854775808) := by omega
      have i2 : 9223372036854775808 ≤ (s : Int) := by omega
      clear hin hs hc hx hy ha hb0
      go_enter Tryz.func113, Tryz.ntmps113
      go_upto_region 1 with fail
      try rw [hw1]
      clear hw1
      go_wp2_with fail
      refine (cI _ _).mono ?_
      rintro e w2 ⟨rfl, hb2⟩
      have y2 := hz.call hb2
      have hb02 := below_stepE hb hb.size hb2
      obtain ⟨⟨p0, p1, p2, p3⟩, f0, f1, f2, f3⟩ := y2.four
      clear cI hz hb hb2
      go_wp2_with fail
      exact bodyPost_ret (results_val rfl _ _ w.heap.size _ _ _ _ rfl y2.set4) rfl ⟨rfl, below_set4 hb02 (Nat.le_refl _)⟩
    · have i1 : (s : Int) < 9223372036854775808 := by omega
      have i2 : ¬ (9223372036854775808 ≤ (s : Int)) := by omega
      clear hin hs hc hx hy ha hb0
      go_enter Tryz.func113, Tryz.ntmps113
      go_upto_region 1 with fail
      try rw [hw1]
      clear hw1
      go_wp2_with fail
      refine (cI _ _).mono ?_
      rintro e w2 ⟨rfl, hb2⟩
      have y2 := hz.call hb2
      have hb02 := below_stepE hb hb.size hb2
      obtain ⟨⟨p0, p1, p2, p3⟩, f0, f1, f2, f3⟩ := y2.four
      clear cI hz hb hb2
      go_wp2_with fail
      exact bodyPost_ret (results_val rfl _ _ w.heap.size _ _ _ _ rfl y2.set4) rfl ⟨rfl, below_set4 hb02 (Nat.le_refl _)⟩
  · have hno : numE (a + b) = badE 6 := if_neg hin
    rw [hno]
    unfold in64 at hin
    clear hno
    rcases hc01 with rfl | rfl
    · have i1 : (s : Int) < 9223372036854775808 := by omega
      have i2 : ¬ (9223372036854775808 ≤ (s : Int)) := by omega
      clear hin hs hc hx hy ha hb0 cI
      go_enter Tryz.func113, Tryz.ntmps113
      go_upto_region 1 with fail
      try rw [hw1]
      clear hw1
      obtain ⟨⟨p0, p1, p2, p3⟩, f0, f1, f2, f3⟩ := hz.four
      go_wp2_with fail
      exact bodyPost_ret (results_val rfl _ _ w.heap.size _ _ _ _ rfl hz.set4) rfl ⟨rfl, below_set4 hb (Nat.le_refl _)⟩
    · have i1 : ¬ ((s : Int) < 9223372036854775808) := by omega
      have i2 : 9223372036854775808 ≤ (s : Int) := by omega
      clear hin hs hc hx hy ha hb0 cI
      go_enter Tryz.func113, Tryz.ntmps113
      go_upto_region 1 with fail
      try rw [hw1]
      clear hw1
      obtain ⟨⟨p0, p1, p2, p3⟩, f0, f1, f2, f3⟩ := hz.four
      go_wp2_with fail
      exact bodyPost_ret (results_val rfl _ _ w.heap.size _ _ _ _ rfl hz.set4) rfl ⟨rfl, below_set4 hb (Nat.le_refl _)⟩
set_option maxHeartbeats 8000000 in
theorem reckSub_any (a b : Int) (ha : in64 a) (hb0 : in64 b) (w : World) : Calls Tryz.prog 113 #[.int .i64 6, .int .i64 a, .int .i64 b] w (RekOk (numE (a - b)) w) := by
  unfold RekOk
  have hz := Blk.new w #[.int .i64 0, .int .i64 0, .int .u64 0, .string ⟨#[]⟩] 24
  have hb := (Below.refl w.heap.size w).alloc (Nat.le_refl _) (.cells #[.int .i64 0, .int .i64 0, .int .u64 0, .string ⟨#[]⟩] 24)
  generalize hw1 : w.alloc (.cells #[.int .i64 0, .int .i64 0, .int .u64 0, .string ⟨#[]⟩] 24) = w1 at hz hb
  have cI := fun m W => rintOf_any m W
  unfold valV intV at cI
  simp only [str_nil] at cI
  have ea := wrap_up a ha
  have eb := wrap_up b hb0
  unfold in64 at ha hb0
  obtain ⟨x, hx⟩ : ∃ x, (a + 9223372036854775808).toNat = x := ⟨_, rfl⟩
  obtain ⟨y, hy⟩ : ∃ y, (b + 9223372036854775808).toNat = y := ⟨_, rfl⟩
  rw [hx] at ea
  rw [hy] at eb
  have cA := fun W => ref_sub64 x y W
  obtain ⟨s, hs⟩ : ∃ s, (x + 18446744073709551616 - y) % 18446744073709551616 = s := ⟨_, rfl⟩
  obtain ⟨c, hc⟩ : ∃ c, (if x < y then 1 else 0) = c := ⟨_, rfl⟩
  simp only [hs, hc] at cA
  obtain ⟨ua, hua⟩ : ∃ ua, IntKind.u64.wrap a = ua := ⟨_, rfl⟩
  obtain ⟨ub, hub⟩ : ∃ ub, IntKind.u64.wrap b = ub := ⟨_, rfl⟩
  rw [hua] at ea
  rw [hub] at eb
  have hc01 : c = 0 ∨ c = 1 := by (rw [← hc]; split <;> omega)
  by_cases hin : in64 (a - b)
  · have hsum : IntKind.i64.wrap (s : Int) = a - b := by rw [IntKind.wrap_i64]; unfold in64 at hin; (first | omega | (split at hc <;> omega))
    rw [numE_in hin]
    unfold in64 at hin
    rcases hc01 with rfl | rfl
    · have i1 : (s : Int) < 9223372036854775808 := by (first | omega | (split at hc <;> omega))
      have i2 : ¬ (9223372036854775808 ≤ (s : Int)) := by (first | omega | (split at hc <;> omega))
      clear hin hs hc hx hy ha hb0
      go_enter Tryz.func113, Tryz.ntmps113
      go_upto_region 1 with fail
      try rw [hw1]
      clear hw1
      go_wp2_with fail
      refine (cI _ _).mono ?_
      rintro e w2 ⟨rfl, hb2⟩
      have y2 := hz.call hb2
      have hb02 := below_stepE hb hb.size hb2
      obtain ⟨⟨p0, p1, p2, p3⟩, f0, f1, f2, f3⟩ := y2.four
      clear cI hz hb hb2
      go_wp2_with fail
      exact bodyPost_ret (results_val rfl _ _ w.heap.size _ _ _ _ rfl y2.set4) rfl ⟨rfl, below_set4 hb02 (Nat.le_refl _)⟩
    · have i1 : ¬ ((s : Int) < 9223372036854775808) := by (first | omega | (split at hc <;> omega))
      have i2 : 9223372036854775808 ≤ (s : Int) := by (first | omega | (split at hc <;> omega))
      clear hin hs hc hx hy ha hb0
      go_enter Tryz.func113, Tryz.ntmps113
      go_upto_region 1 with fail
      try rw [hw1]
      clear hw1
      go_wp2_with fail
      refine (cI _ _).mono ?_
      rintro e w2 ⟨rfl, hb2⟩
      have y2 := hz.call hb2
      have hb02 := below_stepE hb hb.size hb2
      obtain ⟨⟨p0, p1, p2, p3⟩, f0, f1, f2, f3⟩ := y2.four
      clear cI hz hb hb2
      go_wp2_with fail
      exact bodyPost_ret (results_val rfl _ _ w.heap.size _ _ _ _ rfl y2.set4) rfl ⟨rfl, below_set4 hb02 (Nat.le_refl _)⟩
  · have hno : numE (a - b) = badE 6 := if_neg hin
    rw [hno]
    unfold in64 at hin
    clear hno
    rcases hc01 with rfl | rfl
    · have i1 : ¬ ((s : Int) < 9223372036854775808) := by (first | omega | (split at hc <;> omega))
      have i2 : 9223372036854775808 ≤ (s : Int) := by (first | omega | (split at hc <;> omega))
      clear hin hs hc hx hy ha hb0 cI
      go_enter Tryz.func113, Tryz.ntmps113
      go_upto_region 1 with fail
      try rw [hw1]
      clear hw1
      obtain ⟨⟨p0, p1, p2, p3⟩, f0, f1, f2, f3⟩ := hz.four
      go_wp2_with fail
      exact bodyPost_ret (results_val rfl _ _ w.heap.size _ _ _ _ rfl hz.set4) rfl ⟨rfl, below_set4 hb (Nat.le_refl _)⟩
    · have i1 : (s : Int) < 9223372036854775808 := by (first | omega | (split at hc <;> omega))
      have i2 : ¬ (9223372036854775808 ≤ (s : Int)) := by (first | omega | (split at hc <;> omega))
      clear hin hs hc hx hy ha hb0 cI
      go_enter Tryz.func113, Tryz.ntmps113
      go_upto_region 1 with fail
      try rw [hw1]
      clear hw1
      obtain ⟨⟨p0, p1, p2, p3⟩, f0, f1, f2, f3⟩ := hz.four
      go_wp2_with fail
      exact bodyPost_ret (results_val rfl _ _ w.heap.size _ _ _ _ rfl hz.set4) rfl ⟨rfl, below_set4 hb (Nat.le_refl _)⟩
theorem natAbs_neg_mul (a b : Int) : ((if (decide (a < 0) != decide (b < 0)) = true then -(((a.natAbs * b.natAbs : Nat)) : Int) else ((a.natAbs * b.natAbs : Nat) : Int))) = a * b := by
  rw [Int.natCast_mul]
  by_cases ha : a < 0 <;> by_cases hb : b < 0
  · rw [show ((a.natAbs : Nat) : Int) = -a by omega, show ((b.natAbs : Nat) : Int) = -b by omega]
    simp [ha, hb, Int.neg_mul, Int.mul_neg]
  · rw [show ((a.natAbs : Nat) : Int) = -a by omega, show ((b.natAbs : Nat) : Int) = b by omega]
    simp [ha, hb, Int.neg_mul]
  · rw [show ((a.natAbs : Nat) : Int) = a by omega, show ((b.natAbs : Nat) : Int) = -b by omega]
    simp [ha, hb, Int.mul_neg]
  · rw [show ((a.natAbs : Nat) : Int) = a by omega, show ((b.natAbs : Nat) : Int) = b by omega]
    simp [ha, hb]
theorem natAbs_tdiv (a b : Int) : ((if (decide (a < 0) != decide (b < 0)) = true then -(((a.natAbs / b.natAbs : Nat)) : Int) else ((a.natAbs / b.natAbs : Nat) : Int))) = a.tdiv b := by
  by_cases ha : a < 0 <;> by_cases hb : b < 0
  · obtain ⟨m, rfl⟩ : ∃ m : Nat, a = -(m : Int) := ⟨a.natAbs, by omega⟩
    obtain ⟨n, rfl⟩ : ∃ n : Nat, b = -(n : Int) := ⟨b.natAbs, by omega⟩
    simp only [ha, hb, Int.natAbs_neg, Int.natAbs_natCast, Int.neg_tdiv, Int.tdiv_neg]
    simp [Int.natCast_ediv]
  · obtain ⟨m, rfl⟩ : ∃ m : Nat, a = -(m : Int) := ⟨a.natAbs, by omega⟩
    obtain ⟨n, rfl⟩ : ∃ n : Nat, b = (n : Int) := ⟨b.natAbs, by omega⟩
    simp only [ha, hb, Int.natAbs_neg, Int.natAbs_natCast, Int.neg_tdiv]
    simp [Int.natCast_ediv]
  · obtain ⟨m, rfl⟩ : ∃ m : Nat, a = (m : Int) := ⟨a.natAbs, by omega⟩
    obtain ⟨n, rfl⟩ : ∃ n : Nat, b = -(n : Int) := ⟨b.natAbs, by omega⟩
    simp only [ha, hb, Int.natAbs_neg, Int.natAbs_natCast, Int.tdiv_neg]
    simp [Int.natCast_ediv]
  · obtain ⟨m, rfl⟩ : ∃ m : Nat, a = (m : Int) := ⟨a.natAbs, by omega⟩
    obtain ⟨n, rfl⟩ : ∃ n : Nat, b = (n : Int) := ⟨b.natAbs, by omega⟩
    simp only [ha, hb, Int.natAbs_natCast]
    simp [Int.natCast_ediv]
end Go.Proofs.YtfedlchncngafaaGreatDoor
