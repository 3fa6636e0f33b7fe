/-
  CONTRACTS of the reference's small functions on numbers and truths: sizeOf, intOf, boolOf, truthOf, Logic, Opposite, signed, reckoned.
  CONDITIONS: each theorem's own hypotheses.
-/
import Derived.Test.YtfedlchncngafaaGreatDoorGEve
import Derived.Test.YtfedlchncngafaaGreatDoorShelfM
import Derived.Shelf.Bits.Mul64
import Derived.Shelf.Spec.BitsCarry
namespace Go.Proofs.YtfedlchncngafaaGreatDoor
open Go.RowKit
set_option linter.unusedVariables false
set_option maxRecDepth 100000

theorem ref_add64 (x y : Nat) (hx : x < 18446744073709551616) (hy : y < 18446744073709551616) (w : World) :
    (callFunc 146 #[.int .u64 x, .int .u64 y, .int .u64 0]).run Tryz.prog w =
      .ok (.value (.tuple #[.int .u64 (((x + y) % 18446744073709551616 : Nat) : Int), .int .u64 (((x + y) / 18446744073709551616 : Nat) : Int)])) w := by
  have h := run_add64 (P := Tryz.prog) x y 0 (by omega) (by omega) (by omega) (by omega)
  rw [run_callFunc_extern Tryz.func146 (by kernel_rfl) (by kernel_rfl) (by kernel_rfl) (e := add64Entry) (by kernel_rfl)]
  rw [h]
  simp only [Result.andThen]
  congr 5 <;> omega
theorem ref_sub64 (x y : Nat) (w : World) :
    (callFunc 147 #[.int .u64 x, .int .u64 y, .int .u64 0]).run Tryz.prog w =
      .ok (.value (.tuple #[.int .u64 (((x + 18446744073709551616 - y) % 18446744073709551616 : Nat) : Int), .int .u64 ((if x < y then 1 else 0 : Nat) : Int)])) w := by
  have h := run_sub64 (P := Tryz.prog) x y 0 (by omega) w
  rw [run_callFunc_extern Tryz.func147 (by kernel_rfl) (by kernel_rfl) (by kernel_rfl) (e := sub64Entry) (by kernel_rfl)]
  rw [show (Value.int .u64 0) = Value.int .u64 ((0 : Nat) : Int) from rfl, h]
  rfl
set_option maxHeartbeats 4000000 in
theorem sizeOf_any (n : Int) (hn : in64 n) (w : World) : Calls Tryz.prog 149 #[.int .i64 n] w fun e w' => e = .returned (.int .u64 (n.natAbs : Int)) ∧ w' = w := by
  unfold in64 at hn
  by_cases h : n < 0
  · have e1 : IntKind.u64.wrap n = n + 18446744073709551616 := by rw [IntKind.wrap_u64]; omega
    have e2 : IntKind.u64.wrap (-(n + 18446744073709551616)) = (n.natAbs : Int) := by rw [IntKind.wrap_u64]; omega
    go_enter Tryz.func149, Tryz.ntmps149
    go_wp2_with fail
    go_ret
    exact ⟨rfl, rfl⟩
  · have e1 : IntKind.u64.wrap n = (n.natAbs : Int) := by rw [IntKind.wrap_u64]; omega
    go_enter Tryz.func149, Tryz.ntmps149
    go_wp2_with fail
    go_ret
    exact ⟨rfl, rfl⟩
set_option maxHeartbeats 4000000 in
theorem rintOf_any (n : Int) (w : World) : Calls Tryz.prog 114 #[.int .i64 n] w fun e w' => e = .returned (.tuple #[valV (intV n), .int .i64 0]) ∧ Below w.heap.size w w' := by
  have hz := Blk.new w #[.int .i64 0, .int .i64 0, .int .u64 0, .string ⟨#[]⟩] 24
  have hb := (Below.refl w.heap.size w).alloc (Nat.le_refl _) (.cells #[.int .i64 0, .int .i64 0, .int .u64 0, .string ⟨#[]⟩] 24)
  generalize hw1 : w.alloc (.cells #[.int .i64 0, .int .i64 0, .int .u64 0, .string ⟨#[]⟩] 24) = w1 at hz hb
  obtain ⟨⟨p0, p1, p2, p3⟩, f0, f1, f2, f3⟩ := hz.four
  go_enter Tryz.func114, Tryz.ntmps114
  go_upto_region 1 with fail
  try rw [hw1]
  clear hw1
  go_wp2_with fail
  exact bodyPost_ret (results_val rfl _ _ w.heap.size _ _ _ _ rfl hz.set4) rfl ⟨rfl, below_set4 hb (Nat.le_refl _)⟩
/-- A truth as a value. -/
def tolV (t : Int) : Vl := if t = 2 then booV true else if t = 0 then booV false else nulV
set_option maxHeartbeats 4000000 in
theorem rboolOf_any (t : Int) (ht : t = 0 ∨ t = 1 ∨ t = 2) (w : World) : Calls Tryz.prog 37 #[.int .i64 t] w fun e w' => e = .returned (valV (tolV t)) ∧ Below w.heap.size w w' := by
  have hz := Blk.new w #[.int .i64 0, .int .i64 0, .int .u64 0, .string ⟨#[]⟩] 24
  have hb := (Below.refl w.heap.size w).alloc (Nat.le_refl _) (.cells #[.int .i64 0, .int .i64 0, .int .u64 0, .string ⟨#[]⟩] 24)
  generalize hw1 : w.alloc (.cells #[.int .i64 0, .int .i64 0, .int .u64 0, .string ⟨#[]⟩] 24) = w1 at hz hb
  obtain ⟨⟨p0, p1, p2, p3⟩, f0, f1, f2, f3⟩ := hz.four
  rcases ht with rfl | rfl | rfl
  all_goals
    go_enter Tryz.func37, Tryz.ntmps37
    go_upto_region 1 with fail
    try rw [hw1]
    clear hw1
    go_wp2_with fail
    exact bodyPost_ret (results_val1 rfl _ _ w.heap.size _ _ _ _ rfl hz.set4) rfl ⟨rfl, below_set4 hb (Nat.le_refl _)⟩
/-- A value's truth, as the reference reads it. -/
def refT (v : Vl) : Int := if v.k = 0 then 1 else v.i * 2
set_option maxHeartbeats 4000000 in
theorem rtruthOf_any (v : Vl) (h : v.k ≠ 0 → 0 ≤ v.i ∧ v.i ≤ 1) (w : World) : Calls Tryz.prog 111 #[valV v] w fun e w' => e = .returned (.int .i64 (refT v)) ∧ Below w.heap.size w w' := by
  obtain ⟨k, i, b, s⟩ := v
  unfold valV refT
  simp only at h ⊢
  generalize str s = S
  by_cases hk : k = 0
  · have bk : (k == 0) = true := by simpa using hk
    rw [if_pos hk]
    clear hk h
    go_enter Tryz.func111, Tryz.ntmps111
    go_wp2_with fail
    go_ret
    exact ⟨rfl, (Below.refl _ _).alloc (Nat.le_refl _) _⟩
  · have bk : (k == 0) = false := by simpa using hk
    have hi := h hk
    rw [if_neg hk]
    have e : IntKind.i64.wrap (i * 2) = i * 2 := by rw [IntKind.wrap_i64]; omega
    clear hk h
    go_enter Tryz.func111, Tryz.ntmps111
    go_wp2_with fail
    go_ret
    exact ⟨rfl, (Below.refl _ _).alloc (Nat.le_refl _) _⟩
set_option maxHeartbeats 8000000 in
theorem rLogic_any (op a b : Int) (hop : op = 1 ∨ op = 2) (ha : a = 0 ∨ a = 1 ∨ a = 2) (hb : b = 0 ∨ b = 1 ∨ b = 2) (w : World) : Calls Tryz.prog 110 #[.int .i64 op, .int .i64 a, .int .i64 b] w fun e w' => e = .returned (.tuple #[.int .i64 (if op = 1 then andT a b else orT a b), .int .i64 0]) ∧ w' = w := by
  rcases hop with rfl | rfl <;> rcases ha with rfl | rfl | rfl <;> rcases hb with rfl | rfl | rfl
  all_goals
    go_enter Tryz.func110, Tryz.ntmps110
    go_wp2
    go_ret2
    exact ⟨rfl, rfl⟩
set_option maxHeartbeats 4000000 in
theorem rOpposite_any (a : Int) (ha : a = 0 ∨ a = 1 ∨ a = 2) (w : World) : Calls Tryz.prog 112 #[.int .i64 a] w fun e w' => e = .returned (.tuple #[.int .i64 (2 - a), .int .i64 0]) ∧ w' = w := by
  rcases ha with rfl | rfl | rfl
  all_goals
    go_enter Tryz.func112, Tryz.ntmps112
    go_wp2
    go_ret2
    exact ⟨rfl, rfl⟩
end Go.Proofs.YtfedlchncngafaaGreatDoor
