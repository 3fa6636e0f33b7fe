/-
  CONTRACTS of package sum's turn, and the words of a block (spread).
  CONDITIONS: each theorem's own hypotheses.
-/
import Derived.Test.YtmldhnghfdhjmaaDoorShaB
import Derived.Test.YtmldhnghfdhjmaaDoorArr
namespace Go.Proofs.YtmldhnghfdhjmaaDoor
open Go.RowKit CodeMath
set_option linter.unusedVariables false

theorem low5 : ∀ m : Fin 32, 1 ≤ m.val → bits .and .u64 (IntKind.u64.wrap (-((32 - m.val : Nat) : Int))) 31 = (m.val : Int) := by decide +kernel
theorem turned_bits (x m : Nat) (hx : x < 4294967296) (h1 : 1 ≤ m) (h2 : m ≤ 31) :
    bits .or .u32 ((x : Int) * 2 ^ m % 4294967296) ((x : Int) / 2 ^ (32 - m)) = ((ShaMath.rot x (32 - m) : Nat) : Int) := by
  have e1 : (x : Int) / 2 ^ (32 - m) = ((x >>> (32 - m) : Nat) : Int) := by rw [Nat.shiftRight_eq_div_pow]; simp
  have e2 : (x : Int) * 2 ^ m % 4294967296 = (((x <<< m) % 4294967296 : Nat) : Int) := by rw [Nat.shiftLeft_eq]; simp
  have l1 : x >>> (32 - m) < 4294967296 := by rw [Nat.shiftRight_eq_div_pow]; exact Nat.lt_of_le_of_lt (Nat.div_le_self _ _) hx
  rw [e1, e2, u32_or_nat _ _ (Nat.mod_lt _ (by decide)) l1, Nat.or_comm]
  unfold ShaMath.rot ShaMath.w32
  rw [show 32 - (32 - m) = m by omega]
theorem rotl_any (x m : Nat) (w : World) (hx : x < 4294967296) (h1 : 1 ≤ m) (h2 : m ≤ 31) :
    Calls Tryd.prog 83 #[.int .u32 x, .int .i64 (-((32 - m : Nat) : Int))] w fun e w' => e = .returned (.int .u32 (ShaMath.rot x (32 - m) : Nat)) ∧ w = w' := by
  have n0 : (1 : Int) ≤ m := by omega
  have n1 : (m : Int) ≤ 31 := by omega
  have hk := low5 ⟨m, by omega⟩ h1
  simp only at hk
  have hr := turned_bits x m hx h1 h2
  generalize -((32 - m : Nat) : Int) = N at hk
  go_enter Tryd.func83, Tryd.ntmps83
  go_wp2
  go_ret
  exact ⟨rfl, rfl⟩
theorem turn_any (x n : Nat) (w : World) (hx : x < 4294967296) (h1 : 1 ≤ n) (h2 : n ≤ 31) :
    Calls Tryd.prog 80 #[.int .u32 x, .int .i64 n] w fun e w' => e = .returned (.int .u32 (ShaMath.rot x n : Nat)) ∧ w = w' := by
  have c := rotl_any x (32 - n) w hx (by omega) (by omega)
  rw [show 32 - (32 - n) = n by omega] at c
  have n0 : (1 : Int) ≤ n := by omega
  have n1 : (n : Int) ≤ 31 := by omega
  go_enter Tryd.func80, Tryd.ntmps80
  go_wp2_with (go_at_call 83; refine c.mono ?_; rintro e w2 ⟨rfl, rfl⟩)
  go_ret
  exact ⟨rfl, rfl⟩
theorem turn_same (x n : Nat) (w : World) (hx : x < 4294967296) (h1 : 1 ≤ n) (h2 : n ≤ 31) :
    Calls Tryd.prog 80 #[.int .u32 x, .int .i64 n] w fun e w' => e = .returned (.int .u32 (ShaMath.rot x n : Nat)) ∧ w' = w := (turn_any x n w hx h1 h2).mono fun _ _ ⟨h, k⟩ => ⟨h, k.symm⟩
theorem shr_lt (a k : Nat) (h : a < 4294967296) : a >>> k < 4294967296 := by
  rw [Nat.shiftRight_eq_div_pow]; exact Nat.lt_of_le_of_lt (Nat.div_le_self _ _) h
theorem small1_bits (a : Nat) (h : a < 4294967296) : bits .xor .u32 (bits .xor .u32 ((ShaMath.rot a 17 : Nat) : Int) ((ShaMath.rot a 19 : Nat) : Int)) ((a : Int) / 1024) = ((ShaMath.small1 a : Nat) : Int) := by
  have e : (a : Int) / (1024 : Int) = ((a >>> 10 : Nat) : Int) := by rw [Nat.shiftRight_eq_div_pow]; simp
  rw [e, u32_xor_nat _ _ (rot_lt a 17 h) (rot_lt a 19 h), u32_xor_nat _ _ (Nat.xor_lt_two_pow (n := 32) (rot_lt a 17 h) (rot_lt a 19 h)) (shr_lt a 10 h)]
  rfl
theorem small0_bits (a : Nat) (h : a < 4294967296) : bits .xor .u32 (bits .xor .u32 ((ShaMath.rot a 7 : Nat) : Int) ((ShaMath.rot a 18 : Nat) : Int)) ((a : Int) / 8) = ((ShaMath.small0 a : Nat) : Int) := by
  have e : (a : Int) / (8 : Int) = ((a >>> 3 : Nat) : Int) := by rw [Nat.shiftRight_eq_div_pow]; simp
  rw [e, u32_xor_nat _ _ (rot_lt a 7 h) (rot_lt a 18 h), u32_xor_nat _ _ (Nat.xor_lt_two_pow (n := 32) (rot_lt a 7 h) (rot_lt a 18 h)) (shr_lt a 3 h)]
  rfl
theorem small1_lt (a : Nat) (h : a < 4294967296) : ShaMath.small1 a < 4294967296 := Nat.xor_lt_two_pow (n := 32) (Nat.xor_lt_two_pow (n := 32) (rot_lt a 17 h) (rot_lt a 19 h)) (shr_lt a 10 h)
theorem small0_lt (a : Nat) (h : a < 4294967296) : ShaMath.small0 a < 4294967296 := Nat.xor_lt_two_pow (n := 32) (Nat.xor_lt_two_pow (n := 32) (rot_lt a 7 h) (rot_lt a 18 h)) (shr_lt a 3 h)
theorem big1_bits (a : Nat) (h : a < 4294967296) : bits .xor .u32 (bits .xor .u32 ((ShaMath.rot a 6 : Nat) : Int) ((ShaMath.rot a 11 : Nat) : Int)) ((ShaMath.rot a 25 : Nat) : Int) = ((ShaMath.big1 a : Nat) : Int) := by
  rw [u32_xor_nat _ _ (rot_lt a 6 h) (rot_lt a 11 h), u32_xor_nat _ _ (Nat.xor_lt_two_pow (n := 32) (rot_lt a 6 h) (rot_lt a 11 h)) (rot_lt a 25 h)]
  rfl
theorem big0_bits (a : Nat) (h : a < 4294967296) : bits .xor .u32 (bits .xor .u32 ((ShaMath.rot a 2 : Nat) : Int) ((ShaMath.rot a 13 : Nat) : Int)) ((ShaMath.rot a 22 : Nat) : Int) = ((ShaMath.big0 a : Nat) : Int) := by
  rw [u32_xor_nat _ _ (rot_lt a 2 h) (rot_lt a 13 h), u32_xor_nat _ _ (Nat.xor_lt_two_pow (n := 32) (rot_lt a 2 h) (rot_lt a 13 h)) (rot_lt a 22 h)]
  rfl
theorem big1_lt (a : Nat) (h : a < 4294967296) : ShaMath.big1 a < 4294967296 := Nat.xor_lt_two_pow (n := 32) (Nat.xor_lt_two_pow (n := 32) (rot_lt a 6 h) (rot_lt a 11 h)) (rot_lt a 25 h)
theorem big0_lt (a : Nat) (h : a < 4294967296) : ShaMath.big0 a < 4294967296 := Nat.xor_lt_two_pow (n := 32) (Nat.xor_lt_two_pow (n := 32) (rot_lt a 2 h) (rot_lt a 13 h)) (rot_lt a 22 h)
end Go.Proofs.YtmldhnghfdhjmaaDoor
