/-
  CONTRACT of chirographkeep's tokenOf and tokensOf: tokens that may be, out of raw things.
  CONDITIONS: each theorem's own hypotheses.
-/
import Derived.Test.YtlhoakpijfhljaaGreatDoorRawL
import Derived.Test.YtlhoakpijfhljaaGreatDoorCleanT
import Derived.Test.YtlhoakpijfhljaaGreatDoorShowT
import Derived.Laws.BitsLemmas
namespace Go.Proofs.YtlhoakpijfhljaaGreatDoor
open Go.RowKit
set_option linter.unusedVariables false
set_option maxRecDepth 100000

theorem and_i63 (n : Int) : bits .and .i64 n 9223372036854775807 = n % 9223372036854775808 := by
  have h127 : (BitVec.ofInt 64 9223372036854775807).toNat = 2 ^ 63 - 1 := by decide
  have key : (BitVec.ofInt 64 n &&& BitVec.ofInt 64 9223372036854775807).toNat = (n % ((2 ^ 64 : Nat) : Int)).toNat % 2 ^ 63 := by
    rw [BitVec.toNat_and, BitVec.toNat_ofInt, h127, Nat.and_two_pow_sub_one_eq_mod]
  show IntKind.i64.wrap ((BitVec.ofInt 64 n &&& BitVec.ofInt 64 9223372036854775807).toNat : Nat) = n % 9223372036854775808
  rw [key, IntKind.wrap_i64]
  omega
/-- A token that may be, and is not long. -/
def GoodT (t : Tok) : Prop := FitT t ∧ okT t = 0 ∧ (shT t).length ≤ 42
def TokOk (w : World) (e : Ending) (w' : World) : Prop := ∃ t : Tok, e = .returned (.agg #[.int .i64 t.k, .string (str t.s), .int .i64 t.i, .int .u64 t.b]) ∧ Hid (GoodT t) ∧ Below w.heap.size w w'
def goodB (t : Tok) : Bool := decide (t.s.length ≤ 42) && (okT t == 0 && (decide (t.k ≠ 3) && (decide (t.k ≠ 4) && decide (t.k ≠ 5))))
theorem good_lit (k : Int) (s : List UInt8) (h : goodB ⟨k, s, 0, 0⟩ = true) : GoodT ⟨k, s, 0, 0⟩ := by
  unfold goodB at h
  simp only [Bool.and_eq_true, decide_eq_true_eq, beq_iff_eq] at h
  obtain ⟨h1, h2, h3, h4, h5⟩ := h
  refine ⟨⟨by simp, by simp, by simp, by simp, by show s.length ≤ _; omega⟩, h2, ?_⟩
  unfold shT shownT
  simp only
  rw [if_neg h3, if_neg h4, if_neg h5]; exact h1
set_option maxHeartbeats 4000000 in
theorem tokenOf_1 (k a b : Int) (s : ByteArray) (w : World) (k0 : -9223372036854775808 ≤ k) (k1 : k ≤ 9223372036854775807) (a0 : -9223372036854775808 ≤ a) (a1 : a ≤ 9223372036854775807) (hk : k % 6 = 0) :
    Calls Tryz.prog 12 #[.agg #[.int .i64 k, .int .i64 a, .int .i64 b, .string s]] w (TokOk w) := by
  unfold TokOk
  have c1 := fun w => picked_any k 6 w (by decide) (by decide) k0 k1
  rw [hk] at c1
  have c2 := fun w => picked_any a 6 w (by decide) (by decide) a0 a1
  clear hk
  have hq : a % 6 = 0 ∨ a % 6 = 1 ∨ a % 6 = 2 ∨ a % 6 = 3 ∨ a % 6 = 4 ∨ a % 6 = 5 := by omega
  generalize a % 6 = q at *
  rcases hq with rfl | rfl | rfl | rfl | rfl | rfl
  · go_enter Tryz.func12, Tryz.ntmps12
    go_wp2_with fail
    refine (c1 _).mono ?_
    rintro e w1 ⟨rfl, rfl⟩
    clear c1
    go_wp2_with fail
    refine (c2 _).mono ?_
    rintro e w1 ⟨rfl, rfl⟩
    clear c2
    go_wp2_with fail
    go_wp2
    refine bodyPost_ret (v := .agg #[.int .i64 1, .string (str [97]), .int .i64 0, .int .u64 0]) (by simp [results, Tryz.results12, go_sem]; rfl) rfl ?_
    exact ⟨⟨1, [97], 0, 0⟩, rfl, Lib.hid (good_lit _ _ (by decide)), by
      repeat first
        | exact Below.refl _ _
        | refine Below.setCell ?_ (by simp <;> omega) _
        | refine Below.alloc ?_ (by simp <;> omega) _
        | refine Below.drew ?_⟩
  · go_enter Tryz.func12, Tryz.ntmps12
    go_wp2_with fail
    refine (c1 _).mono ?_
    rintro e w1 ⟨rfl, rfl⟩
    clear c1
    go_wp2_with fail
    refine (c2 _).mono ?_
    rintro e w1 ⟨rfl, rfl⟩
    clear c2
    go_wp2_with fail
    go_wp2
    refine bodyPost_ret (v := .agg #[.int .i64 1, .string (str [107]), .int .i64 0, .int .u64 0]) (by simp [results, Tryz.results12, go_sem]; rfl) rfl ?_
    exact ⟨⟨1, [107], 0, 0⟩, rfl, Lib.hid (good_lit _ _ (by decide)), by
      repeat first
        | exact Below.refl _ _
        | refine Below.setCell ?_ (by simp <;> omega) _
        | refine Below.alloc ?_ (by simp <;> omega) _
        | refine Below.drew ?_⟩
  · go_enter Tryz.func12, Tryz.ntmps12
    go_wp2_with fail
    refine (c1 _).mono ?_
    rintro e w1 ⟨rfl, rfl⟩
    clear c1
    go_wp2_with fail
    refine (c2 _).mono ?_
    rintro e w1 ⟨rfl, rfl⟩
    clear c2
    go_wp2_with fail
    go_wp2
    refine bodyPost_ret (v := .agg #[.int .i64 1, .string (str [98, 95, 50]), .int .i64 0, .int .u64 0]) (by simp [results, Tryz.results12, go_sem]; rfl) rfl ?_
    exact ⟨⟨1, [98, 95, 50], 0, 0⟩, rfl, Lib.hid (good_lit _ _ (by decide)), by
      repeat first
        | exact Below.refl _ _
        | refine Below.setCell ?_ (by simp <;> omega) _
        | refine Below.alloc ?_ (by simp <;> omega) _
        | refine Below.drew ?_⟩
  · go_enter Tryz.func12, Tryz.ntmps12
    go_wp2_with fail
    refine (c1 _).mono ?_
    rintro e w1 ⟨rfl, rfl⟩
    clear c1
    go_wp2_with fail
    refine (c2 _).mono ?_
    rintro e w1 ⟨rfl, rfl⟩
    clear c2
    go_wp2_with fail
    go_wp2
    refine bodyPost_ret (v := .agg #[.int .i64 1, .string (str [122, 57]), .int .i64 0, .int .u64 0]) (by simp [results, Tryz.results12, go_sem]; rfl) rfl ?_
    exact ⟨⟨1, [122, 57], 0, 0⟩, rfl, Lib.hid (good_lit _ _ (by decide)), by
      repeat first
        | exact Below.refl _ _
        | refine Below.setCell ?_ (by simp <;> omega) _
        | refine Below.alloc ?_ (by simp <;> omega) _
        | refine Below.drew ?_⟩
  · go_enter Tryz.func12, Tryz.ntmps12
    go_wp2_with fail
    refine (c1 _).mono ?_
    rintro e w1 ⟨rfl, rfl⟩
    clear c1
    go_wp2_with fail
    refine (c2 _).mono ?_
    rintro e w1 ⟨rfl, rfl⟩
    clear c2
    go_wp2_with fail
    go_wp2
    refine bodyPost_ret (v := .agg #[.int .i64 1, .string (str [108, 111, 110, 103, 110, 97, 109, 101]), .int .i64 0, .int .u64 0]) (by simp [results, Tryz.results12, go_sem]; rfl) rfl ?_
    exact ⟨⟨1, [108, 111, 110, 103, 110, 97, 109, 101], 0, 0⟩, rfl, Lib.hid (good_lit _ _ (by decide)), by
      repeat first
        | exact Below.refl _ _
        | refine Below.setCell ?_ (by simp <;> omega) _
        | refine Below.alloc ?_ (by simp <;> omega) _
        | refine Below.drew ?_⟩
  · go_enter Tryz.func12, Tryz.ntmps12
    go_wp2_with fail
    refine (c1 _).mono ?_
    rintro e w1 ⟨rfl, rfl⟩
    clear c1
    go_wp2_with fail
    refine (c2 _).mono ?_
    rintro e w1 ⟨rfl, rfl⟩
    clear c2
    go_wp2_with fail
    go_wp2
    refine bodyPost_ret (v := .agg #[.int .i64 1, .string (str [115, 101, 108, 101, 99, 116]), .int .i64 0, .int .u64 0]) (by simp [results, Tryz.results12, go_sem]; rfl) rfl ?_
    exact ⟨⟨1, [115, 101, 108, 101, 99, 116], 0, 0⟩, rfl, Lib.hid (good_lit _ _ (by decide)), by
      repeat first
        | exact Below.refl _ _
        | refine Below.setCell ?_ (by simp <;> omega) _
        | refine Below.alloc ?_ (by simp <;> omega) _
        | refine Below.drew ?_⟩
set_option maxHeartbeats 4000000 in
theorem tokenOf_2 (k a b : Int) (s : ByteArray) (w : World) (k0 : -9223372036854775808 ≤ k) (k1 : k ≤ 9223372036854775807) (a0 : -9223372036854775808 ≤ a) (a1 : a ≤ 9223372036854775807) (hk : k % 6 = 1) :
    Calls Tryz.prog 12 #[.agg #[.int .i64 k, .int .i64 a, .int .i64 b, .string s]] w (TokOk w) := by
  unfold TokOk
  have c1 := fun w => picked_any k 6 w (by decide) (by decide) k0 k1
  rw [hk] at c1
  have c2 := fun w => picked_any a 5 w (by decide) (by decide) a0 a1
  clear hk
  have hq : a % 5 = 0 ∨ a % 5 = 1 ∨ a % 5 = 2 ∨ a % 5 = 3 ∨ a % 5 = 4 := by omega
  generalize a % 5 = q at *
  rcases hq with rfl | rfl | rfl | rfl | rfl
  · go_enter Tryz.func12, Tryz.ntmps12
    go_wp2_with fail
    refine (c1 _).mono ?_
    rintro e w1 ⟨rfl, rfl⟩
    clear c1
    go_wp2_with fail
    refine (c2 _).mono ?_
    rintro e w1 ⟨rfl, rfl⟩
    clear c2
    go_wp2_with fail
    go_wp2
    refine bodyPost_ret (v := .agg #[.int .i64 2, .string (str [83, 69, 76, 69, 67, 84]), .int .i64 0, .int .u64 0]) (by simp [results, Tryz.results12, go_sem]; rfl) rfl ?_
    exact ⟨⟨2, [83, 69, 76, 69, 67, 84], 0, 0⟩, rfl, Lib.hid (good_lit _ _ (by decide)), by
      repeat first
        | exact Below.refl _ _
        | refine Below.setCell ?_ (by simp <;> omega) _
        | refine Below.alloc ?_ (by simp <;> omega) _
        | refine Below.drew ?_⟩
  · go_enter Tryz.func12, Tryz.ntmps12
    go_wp2_with fail
    refine (c1 _).mono ?_
    rintro e w1 ⟨rfl, rfl⟩
    clear c1
    go_wp2_with fail
    refine (c2 _).mono ?_
    rintro e w1 ⟨rfl, rfl⟩
    clear c2
    go_wp2_with fail
    go_wp2
    refine bodyPost_ret (v := .agg #[.int .i64 2, .string (str [65]), .int .i64 0, .int .u64 0]) (by simp [results, Tryz.results12, go_sem]; rfl) rfl ?_
    exact ⟨⟨2, [65], 0, 0⟩, rfl, Lib.hid (good_lit _ _ (by decide)), by
      repeat first
        | exact Below.refl _ _
        | refine Below.setCell ?_ (by simp <;> omega) _
        | refine Below.alloc ?_ (by simp <;> omega) _
        | refine Below.drew ?_⟩
  · go_enter Tryz.func12, Tryz.ntmps12
    go_wp2_with fail
    refine (c1 _).mono ?_
    rintro e w1 ⟨rfl, rfl⟩
    clear c1
    go_wp2_with fail
    refine (c2 _).mono ?_
    rintro e w1 ⟨rfl, rfl⟩
    clear c2
    go_wp2_with fail
    go_wp2
    refine bodyPost_ret (v := .agg #[.int .i64 2, .string (str [78, 79, 84]), .int .i64 0, .int .u64 0]) (by simp [results, Tryz.results12, go_sem]; rfl) rfl ?_
    exact ⟨⟨2, [78, 79, 84], 0, 0⟩, rfl, Lib.hid (good_lit _ _ (by decide)), by
      repeat first
        | exact Below.refl _ _
        | refine Below.setCell ?_ (by simp <;> omega) _
        | refine Below.alloc ?_ (by simp <;> omega) _
        | refine Below.drew ?_⟩
  · go_enter Tryz.func12, Tryz.ntmps12
    go_wp2_with fail
    refine (c1 _).mono ?_
    rintro e w1 ⟨rfl, rfl⟩
    clear c1
    go_wp2_with fail
    refine (c2 _).mono ?_
    rintro e w1 ⟨rfl, rfl⟩
    clear c2
    go_wp2_with fail
    go_wp2
    refine bodyPost_ret (v := .agg #[.int .i64 2, .string (str [87, 72, 69, 82, 69]), .int .i64 0, .int .u64 0]) (by simp [results, Tryz.results12, go_sem]; rfl) rfl ?_
    exact ⟨⟨2, [87, 72, 69, 82, 69], 0, 0⟩, rfl, Lib.hid (good_lit _ _ (by decide)), by
      repeat first
        | exact Below.refl _ _
        | refine Below.setCell ?_ (by simp <;> omega) _
        | refine Below.alloc ?_ (by simp <;> omega) _
        | refine Below.drew ?_⟩
  · go_enter Tryz.func12, Tryz.ntmps12
    go_wp2_with fail
    refine (c1 _).mono ?_
    rintro e w1 ⟨rfl, rfl⟩
    clear c1
    go_wp2_with fail
    refine (c2 _).mono ?_
    rintro e w1 ⟨rfl, rfl⟩
    clear c2
    go_wp2_with fail
    go_wp2
    refine bodyPost_ret (v := .agg #[.int .i64 2, .string (str [67, 79, 65, 76, 69, 83, 67, 69]), .int .i64 0, .int .u64 0]) (by simp [results, Tryz.results12, go_sem]; rfl) rfl ?_
    exact ⟨⟨2, [67, 79, 65, 76, 69, 83, 67, 69], 0, 0⟩, rfl, Lib.hid (good_lit _ _ (by decide)), by
      repeat first
        | exact Below.refl _ _
        | refine Below.setCell ?_ (by simp <;> omega) _
        | refine Below.alloc ?_ (by simp <;> omega) _
        | refine Below.drew ?_⟩
set_option maxHeartbeats 4000000 in
theorem tokenOf_6 (k a b : Int) (s : ByteArray) (w : World) (k0 : -9223372036854775808 ≤ k) (k1 : k ≤ 9223372036854775807) (a0 : -9223372036854775808 ≤ a) (a1 : a ≤ 9223372036854775807) (hk : k % 6 = 5) :
    Calls Tryz.prog 12 #[.agg #[.int .i64 k, .int .i64 a, .int .i64 b, .string s]] w (TokOk w) := by
  unfold TokOk
  have c1 := fun w => picked_any k 6 w (by decide) (by decide) k0 k1
  rw [hk] at c1
  have c2 := fun w => picked_any a 16 w (by decide) (by decide) a0 a1
  clear hk
  have hq : a % 16 = 0 ∨ a % 16 = 1 ∨ a % 16 = 2 ∨ a % 16 = 3 ∨ a % 16 = 4 ∨ a % 16 = 5 ∨ a % 16 = 6 ∨ a % 16 = 7 ∨ a % 16 = 8 ∨ a % 16 = 9 ∨ a % 16 = 10 ∨ a % 16 = 11 ∨ a % 16 = 12 ∨ a % 16 = 13 ∨ a % 16 = 14 ∨ a % 16 = 15 := by omega
  generalize a % 16 = q at *
  rcases hq with rfl | rfl | rfl | rfl | rfl | rfl | rfl | rfl | rfl | rfl | rfl | rfl | rfl | rfl | rfl | rfl
  · go_enter Tryz.func12, Tryz.ntmps12
    go_wp2_with fail
    refine (c1 _).mono ?_
    rintro e w1 ⟨rfl, rfl⟩
    clear c1
    go_wp2_with fail
    refine (c2 _).mono ?_
    rintro e w1 ⟨rfl, rfl⟩
    clear c2
    go_wp2_with fail
    go_wp2
    refine bodyPost_ret (v := .agg #[.int .i64 6, .string (str [40]), .int .i64 0, .int .u64 0]) (by simp [results, Tryz.results12, go_sem]; rfl) rfl ?_
    exact ⟨⟨6, [40], 0, 0⟩, rfl, Lib.hid (good_lit _ _ (by decide)), by
      repeat first
        | exact Below.refl _ _
        | refine Below.setCell ?_ (by simp <;> omega) _
        | refine Below.alloc ?_ (by simp <;> omega) _
        | refine Below.drew ?_⟩
  · go_enter Tryz.func12, Tryz.ntmps12
    go_wp2_with fail
    refine (c1 _).mono ?_
    rintro e w1 ⟨rfl, rfl⟩
    clear c1
    go_wp2_with fail
    refine (c2 _).mono ?_
    rintro e w1 ⟨rfl, rfl⟩
    clear c2
    go_wp2_with fail
    go_wp2
    refine bodyPost_ret (v := .agg #[.int .i64 6, .string (str [41]), .int .i64 0, .int .u64 0]) (by simp [results, Tryz.results12, go_sem]; rfl) rfl ?_
    exact ⟨⟨6, [41], 0, 0⟩, rfl, Lib.hid (good_lit _ _ (by decide)), by
      repeat first
        | exact Below.refl _ _
        | refine Below.setCell ?_ (by simp <;> omega) _
        | refine Below.alloc ?_ (by simp <;> omega) _
        | refine Below.drew ?_⟩
  · go_enter Tryz.func12, Tryz.ntmps12
    go_wp2_with fail
    refine (c1 _).mono ?_
    rintro e w1 ⟨rfl, rfl⟩
    clear c1
    go_wp2_with fail
    refine (c2 _).mono ?_
    rintro e w1 ⟨rfl, rfl⟩
    clear c2
    go_wp2_with fail
    go_wp2
    refine bodyPost_ret (v := .agg #[.int .i64 6, .string (str [44]), .int .i64 0, .int .u64 0]) (by simp [results, Tryz.results12, go_sem]; rfl) rfl ?_
    exact ⟨⟨6, [44], 0, 0⟩, rfl, Lib.hid (good_lit _ _ (by decide)), by
      repeat first
        | exact Below.refl _ _
        | refine Below.setCell ?_ (by simp <;> omega) _
        | refine Below.alloc ?_ (by simp <;> omega) _
        | refine Below.drew ?_⟩
  · go_enter Tryz.func12, Tryz.ntmps12
    go_wp2_with fail
    refine (c1 _).mono ?_
    rintro e w1 ⟨rfl, rfl⟩
    clear c1
    go_wp2_with fail
    refine (c2 _).mono ?_
    rintro e w1 ⟨rfl, rfl⟩
    clear c2
    go_wp2_with fail
    go_wp2
    refine bodyPost_ret (v := .agg #[.int .i64 6, .string (str [46]), .int .i64 0, .int .u64 0]) (by simp [results, Tryz.results12, go_sem]; rfl) rfl ?_
    exact ⟨⟨6, [46], 0, 0⟩, rfl, Lib.hid (good_lit _ _ (by decide)), by
      repeat first
        | exact Below.refl _ _
        | refine Below.setCell ?_ (by simp <;> omega) _
        | refine Below.alloc ?_ (by simp <;> omega) _
        | refine Below.drew ?_⟩
  · go_enter Tryz.func12, Tryz.ntmps12
    go_wp2_with fail
    refine (c1 _).mono ?_
    rintro e w1 ⟨rfl, rfl⟩
    clear c1
    go_wp2_with fail
    refine (c2 _).mono ?_
    rintro e w1 ⟨rfl, rfl⟩
    clear c2
    go_wp2_with fail
    go_wp2
    refine bodyPost_ret (v := .agg #[.int .i64 6, .string (str [61]), .int .i64 0, .int .u64 0]) (by simp [results, Tryz.results12, go_sem]; rfl) rfl ?_
    exact ⟨⟨6, [61], 0, 0⟩, rfl, Lib.hid (good_lit _ _ (by decide)), by
      repeat first
        | exact Below.refl _ _
        | refine Below.setCell ?_ (by simp <;> omega) _
        | refine Below.alloc ?_ (by simp <;> omega) _
        | refine Below.drew ?_⟩
  · go_enter Tryz.func12, Tryz.ntmps12
    go_wp2_with fail
    refine (c1 _).mono ?_
    rintro e w1 ⟨rfl, rfl⟩
    clear c1
    go_wp2_with fail
    refine (c2 _).mono ?_
    rintro e w1 ⟨rfl, rfl⟩
    clear c2
    go_wp2_with fail
    go_wp2
    refine bodyPost_ret (v := .agg #[.int .i64 6, .string (str [60]), .int .i64 0, .int .u64 0]) (by simp [results, Tryz.results12, go_sem]; rfl) rfl ?_
    exact ⟨⟨6, [60], 0, 0⟩, rfl, Lib.hid (good_lit _ _ (by decide)), by
      repeat first
        | exact Below.refl _ _
        | refine Below.setCell ?_ (by simp <;> omega) _
        | refine Below.alloc ?_ (by simp <;> omega) _
        | refine Below.drew ?_⟩
  · go_enter Tryz.func12, Tryz.ntmps12
    go_wp2_with fail
    refine (c1 _).mono ?_
    rintro e w1 ⟨rfl, rfl⟩
    clear c1
    go_wp2_with fail
    refine (c2 _).mono ?_
    rintro e w1 ⟨rfl, rfl⟩
    clear c2
    go_wp2_with fail
    go_wp2
    refine bodyPost_ret (v := .agg #[.int .i64 6, .string (str [62]), .int .i64 0, .int .u64 0]) (by simp [results, Tryz.results12, go_sem]; rfl) rfl ?_
    exact ⟨⟨6, [62], 0, 0⟩, rfl, Lib.hid (good_lit _ _ (by decide)), by
      repeat first
        | exact Below.refl _ _
        | refine Below.setCell ?_ (by simp <;> omega) _
        | refine Below.alloc ?_ (by simp <;> omega) _
        | refine Below.drew ?_⟩
  · go_enter Tryz.func12, Tryz.ntmps12
    go_wp2_with fail
    refine (c1 _).mono ?_
    rintro e w1 ⟨rfl, rfl⟩
    clear c1
    go_wp2_with fail
    refine (c2 _).mono ?_
    rintro e w1 ⟨rfl, rfl⟩
    clear c2
    go_wp2_with fail
    go_wp2
    refine bodyPost_ret (v := .agg #[.int .i64 6, .string (str [60, 61]), .int .i64 0, .int .u64 0]) (by simp [results, Tryz.results12, go_sem]; rfl) rfl ?_
    exact ⟨⟨6, [60, 61], 0, 0⟩, rfl, Lib.hid (good_lit _ _ (by decide)), by
      repeat first
        | exact Below.refl _ _
        | refine Below.setCell ?_ (by simp <;> omega) _
        | refine Below.alloc ?_ (by simp <;> omega) _
        | refine Below.drew ?_⟩
  · go_enter Tryz.func12, Tryz.ntmps12
    go_wp2_with fail
    refine (c1 _).mono ?_
    rintro e w1 ⟨rfl, rfl⟩
    clear c1
    go_wp2_with fail
    refine (c2 _).mono ?_
    rintro e w1 ⟨rfl, rfl⟩
    clear c2
    go_wp2_with fail
    go_wp2
    refine bodyPost_ret (v := .agg #[.int .i64 6, .string (str [62, 61]), .int .i64 0, .int .u64 0]) (by simp [results, Tryz.results12, go_sem]; rfl) rfl ?_
    exact ⟨⟨6, [62, 61], 0, 0⟩, rfl, Lib.hid (good_lit _ _ (by decide)), by
      repeat first
        | exact Below.refl _ _
        | refine Below.setCell ?_ (by simp <;> omega) _
        | refine Below.alloc ?_ (by simp <;> omega) _
        | refine Below.drew ?_⟩
  · go_enter Tryz.func12, Tryz.ntmps12
    go_wp2_with fail
    refine (c1 _).mono ?_
    rintro e w1 ⟨rfl, rfl⟩
    clear c1
    go_wp2_with fail
    refine (c2 _).mono ?_
    rintro e w1 ⟨rfl, rfl⟩
    clear c2
    go_wp2_with fail
    go_wp2
    refine bodyPost_ret (v := .agg #[.int .i64 6, .string (str [60, 62]), .int .i64 0, .int .u64 0]) (by simp [results, Tryz.results12, go_sem]; rfl) rfl ?_
    exact ⟨⟨6, [60, 62], 0, 0⟩, rfl, Lib.hid (good_lit _ _ (by decide)), by
      repeat first
        | exact Below.refl _ _
        | refine Below.setCell ?_ (by simp <;> omega) _
        | refine Below.alloc ?_ (by simp <;> omega) _
        | refine Below.drew ?_⟩
  · go_enter Tryz.func12, Tryz.ntmps12
    go_wp2_with fail
    refine (c1 _).mono ?_
    rintro e w1 ⟨rfl, rfl⟩
    clear c1
    go_wp2_with fail
    refine (c2 _).mono ?_
    rintro e w1 ⟨rfl, rfl⟩
    clear c2
    go_wp2_with fail
    go_wp2
    refine bodyPost_ret (v := .agg #[.int .i64 6, .string (str [43]), .int .i64 0, .int .u64 0]) (by simp [results, Tryz.results12, go_sem]; rfl) rfl ?_
    exact ⟨⟨6, [43], 0, 0⟩, rfl, Lib.hid (good_lit _ _ (by decide)), by
      repeat first
        | exact Below.refl _ _
        | refine Below.setCell ?_ (by simp <;> omega) _
        | refine Below.alloc ?_ (by simp <;> omega) _
        | refine Below.drew ?_⟩
  · go_enter Tryz.func12, Tryz.ntmps12
    go_wp2_with fail
    refine (c1 _).mono ?_
    rintro e w1 ⟨rfl, rfl⟩
    clear c1
    go_wp2_with fail
    refine (c2 _).mono ?_
    rintro e w1 ⟨rfl, rfl⟩
    clear c2
    go_wp2_with fail
    go_wp2
    refine bodyPost_ret (v := .agg #[.int .i64 6, .string (str [45]), .int .i64 0, .int .u64 0]) (by simp [results, Tryz.results12, go_sem]; rfl) rfl ?_
    exact ⟨⟨6, [45], 0, 0⟩, rfl, Lib.hid (good_lit _ _ (by decide)), by
      repeat first
        | exact Below.refl _ _
        | refine Below.setCell ?_ (by simp <;> omega) _
        | refine Below.alloc ?_ (by simp <;> omega) _
        | refine Below.drew ?_⟩
  · go_enter Tryz.func12, Tryz.ntmps12
    go_wp2_with fail
    refine (c1 _).mono ?_
    rintro e w1 ⟨rfl, rfl⟩
    clear c1
    go_wp2_with fail
    refine (c2 _).mono ?_
    rintro e w1 ⟨rfl, rfl⟩
    clear c2
    go_wp2_with fail
    go_wp2
    refine bodyPost_ret (v := .agg #[.int .i64 6, .string (str [42]), .int .i64 0, .int .u64 0]) (by simp [results, Tryz.results12, go_sem]; rfl) rfl ?_
    exact ⟨⟨6, [42], 0, 0⟩, rfl, Lib.hid (good_lit _ _ (by decide)), by
      repeat first
        | exact Below.refl _ _
        | refine Below.setCell ?_ (by simp <;> omega) _
        | refine Below.alloc ?_ (by simp <;> omega) _
        | refine Below.drew ?_⟩
  · go_enter Tryz.func12, Tryz.ntmps12
    go_wp2_with fail
    refine (c1 _).mono ?_
    rintro e w1 ⟨rfl, rfl⟩
    clear c1
    go_wp2_with fail
    refine (c2 _).mono ?_
    rintro e w1 ⟨rfl, rfl⟩
    clear c2
    go_wp2_with fail
    go_wp2
    refine bodyPost_ret (v := .agg #[.int .i64 6, .string (str [47]), .int .i64 0, .int .u64 0]) (by simp [results, Tryz.results12, go_sem]; rfl) rfl ?_
    exact ⟨⟨6, [47], 0, 0⟩, rfl, Lib.hid (good_lit _ _ (by decide)), by
      repeat first
        | exact Below.refl _ _
        | refine Below.setCell ?_ (by simp <;> omega) _
        | refine Below.alloc ?_ (by simp <;> omega) _
        | refine Below.drew ?_⟩
  · go_enter Tryz.func12, Tryz.ntmps12
    go_wp2_with fail
    refine (c1 _).mono ?_
    rintro e w1 ⟨rfl, rfl⟩
    clear c1
    go_wp2_with fail
    refine (c2 _).mono ?_
    rintro e w1 ⟨rfl, rfl⟩
    clear c2
    go_wp2_with fail
    go_wp2
    refine bodyPost_ret (v := .agg #[.int .i64 6, .string (str [124, 124]), .int .i64 0, .int .u64 0]) (by simp [results, Tryz.results12, go_sem]; rfl) rfl ?_
    exact ⟨⟨6, [124, 124], 0, 0⟩, rfl, Lib.hid (good_lit _ _ (by decide)), by
      repeat first
        | exact Below.refl _ _
        | refine Below.setCell ?_ (by simp <;> omega) _
        | refine Below.alloc ?_ (by simp <;> omega) _
        | refine Below.drew ?_⟩
  · go_enter Tryz.func12, Tryz.ntmps12
    go_wp2_with fail
    refine (c1 _).mono ?_
    rintro e w1 ⟨rfl, rfl⟩
    clear c1
    go_wp2_with fail
    refine (c2 _).mono ?_
    rintro e w1 ⟨rfl, rfl⟩
    clear c2
    go_wp2_with fail
    go_wp2
    refine bodyPost_ret (v := .agg #[.int .i64 6, .string (str [59]), .int .i64 0, .int .u64 0]) (by simp [results, Tryz.results12, go_sem]; rfl) rfl ?_
    exact ⟨⟨6, [59], 0, 0⟩, rfl, Lib.hid (good_lit _ _ (by decide)), by
      repeat first
        | exact Below.refl _ _
        | refine Below.setCell ?_ (by simp <;> omega) _
        | refine Below.alloc ?_ (by simp <;> omega) _
        | refine Below.drew ?_⟩
end Go.Proofs.YtlhoakpijfhljaaGreatDoor
