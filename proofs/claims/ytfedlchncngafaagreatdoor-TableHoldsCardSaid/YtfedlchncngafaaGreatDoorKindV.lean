/-
  CONTRACTS of package kinds' fits, mayBeNull, gives and ofColumn.
  CONDITIONS: each theorem's own hypotheses.
-/
import Derived.Test.YtfedlchncngafaaGreatDoorGKindC
import Derived.Test.YtfedlchncngafaaGreatDoorKindU
namespace Go.Proofs.YtfedlchncngafaaGreatDoor
open Go.RowKit
set_option linter.unusedVariables false
set_option maxRecDepth 100000

set_option maxHeartbeats 4000000 in
theorem fits_any (a b : Int) (w : World) :
    Calls Tryz.prog 183 #[.int .i64 a, .int .i64 b] w fun e w' => e = .returned (.bool (fitsK a b)) ∧ w' = w := by
  unfold fitsK
  go_enter Tryz.func183, Tryz.ntmps183
  cases h1 : (a == b)
  · cases h2 : (a == 0)
    · go_wp2_with fail
      go_ret
      exact ⟨by simp [*], rfl⟩
    · go_wp2_with fail
      go_ret
      exact ⟨by simp [*], rfl⟩
  · go_wp2_with fail
    go_ret
    exact ⟨by simp [*], rfl⟩
set_option maxHeartbeats 4000000 in
theorem mayBeNull_any (op : Int) (q : Nat) (w : World) :
    Calls Tryz.prog 171 #[.int .i64 op, .int .i64 q] w fun e w' => e = .returned (.bool (mayK op q)) ∧ w' = w := by
  obtain ⟨B, hB⟩ : ∃ B, mayK op q = B := ⟨_, rfl⟩
  rw [hB]
  unfold mayK at hB
  by_cases h1 : op = 17
  · have o1 : (op == 17) = true := by simp [h1]
    rw [if_pos h1] at hB
    subst hB
    clear h1
    go_enter Tryz.func171, Tryz.ntmps171
    go_wp2_with fail
    go_ret
    exact ⟨rfl, rfl⟩
  · have o1 : (op == 17) = false := by simpa using h1
    rw [if_neg h1] at hB
    clear h1
    by_cases h2 : op = 20
    · have o2 : (op == 20) = true := by simp [h2]
      have o3 : ((q : Int) == 2) = decide (q = 2) := by
        by_cases h : q = 2
        · subst h; rfl
        · rw [decide_eq_false h]; simpa using (fun e => h (by omega))
      rw [if_pos h2] at hB
      rw [hB] at o3
      clear h2 hB
      go_enter Tryz.func171, Tryz.ntmps171
      go_wp2_with fail
      go_ret
      exact ⟨by simp [*], rfl⟩
    · have o2 : (op == 20) = false := by simpa using h2
      have o3 : decide ((0 : Int) < (q : Int)) = decide (0 < q) := by
        by_cases h : 0 < q
        · rw [decide_eq_true h]; exact decide_eq_true (by omega)
        · rw [decide_eq_false h]; exact decide_eq_false (by omega)
      rw [if_neg h2] at hB
      rw [hB] at o3
      clear h2 hB
      go_enter Tryz.func171, Tryz.ntmps171
      go_wp2_with fail
      go_ret
      exact ⟨by rw [← o3]; simp, rfl⟩
theorem below_dqK {B : Nat} {a w : World} (h : Below B a w) : ∀ q, Below B a (w.drewN q)
  | 0 => h
  | q + 1 => (below_dqK h q).drew
theorem placeN_at (n : List UInt8) : ∀ (l : List Cl) (q : Nat), placeN n l q = -1 ∨ ∃ (j : Nat) (c : Cl), l[j]? = some c ∧ placeN n l q = ((q + j : Nat) : Int)
  | [], q => .inl rfl
  | c :: l, q => by
    have e : placeN n (c :: l) q = if (c.n == n) = true then (q : Int) else placeN n l (q + 1) := rfl
    by_cases h : (c.n == n) = true
    · rw [if_pos h] at e
      exact .inr ⟨0, c, rfl, by rw [e]; rfl⟩
    · rw [if_neg h] at e
      rcases placeN_at n l (q + 1) with h1 | ⟨j, x, hj, h1⟩
      · exact .inl (by rw [e, h1])
      · exact .inr ⟨j + 1, x, by simpa using hj, by rw [e, h1]; congr 1; omega⟩
set_option maxHeartbeats 4000000 in
theorem ofColumn_any (l : List Cl) (ao : Option Addr) (cap : Nat) (n : List UInt8) (w : World) (hl : l.length ≤ 9223372036854775807) (hC : Cols w ao l) :
    Calls Tryz.prog 133 #[.string (str n), .slice ao l.length cap] w fun e w' => e = .returned (.tuple #[.int .i64 (colK n l).k, .bool (colK n l).n, .int .i64 (colK n l).f]) ∧ Below w.heap.size w w' := by
  have c1 := placeOf_any l ao cap n w hl hC
  unfold colK
  rcases placeN_at n l 0 with h1 | ⟨j, c, hj, h1⟩
  · rw [h1] at c1 ⊢
    rw [if_pos (by decide)]
    generalize l.length = m at *
    generalize str n = N at *
    clear hC h1
    go_enter Tryz.func133, Tryz.ntmps133
    go_wp2_with fail
    refine c1.mono ?_
    rintro e w1 ⟨rfl, hb⟩
    clear c1
    go_wp2_with fail
    go_ret3
    exact ⟨rfl, hb⟩
  · rw [Nat.zero_add] at h1
    rw [h1] at c1 ⊢
    rw [if_neg (by omega), Int.toNat_natCast, hj]
    have hjl : j < l.length := (List.getElem?_eq_some_iff.1 hj).1
    rcases hC.2 with hn | ⟨a, o, rfl, ha, hlies⟩
    · rw [hn] at hjl; exact absurd hjl (Nat.not_lt_zero _)
    obtain ⟨x0, x1, x2⟩ := hlies j c hj
    generalize l.length = m at *
    generalize str n = N at *
    generalize str c.n = CN at *
    clear hC h1 hlies hj
    obtain ⟨cn, ck, cl⟩ := c
    simp only at x0 x1 x2 ⊢
    have hjI : (j : Int) < (m : Int) := by omega
    have hj0 : (0 : Int) ≤ (j : Int) := by omega
    have hng : decide ((j : Int) < 0) = false := decide_eq_false (by omega)
    go_enter Tryz.func133, Tryz.ntmps133
    go_wp2_with fail
    refine c1.mono ?_
    rintro e w1 ⟨rfl, hb⟩
    have d0 := (hb.cell (p := ⟨a, o + j * 3, none⟩) ha).trans x0
    have d1 := (hb.cell (p := ⟨a, o + j * 3 + 1, none⟩) ha).trans x1
    have d2 := (hb.cell (p := ⟨a, o + j * 3 + 2, none⟩) ha).trans x2
    clear c1 x0 x1 x2
    go_upto_region 4 with fail
    go_quiet (fail)
    have hbq := below_dqK hb nq
    go_wp2_with fail
    go_ret3
    exact ⟨rfl, hbq⟩
end Go.Proofs.YtfedlchncngafaaGreatDoor
