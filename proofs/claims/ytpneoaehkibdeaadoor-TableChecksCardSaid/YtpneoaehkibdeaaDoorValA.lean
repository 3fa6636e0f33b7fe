/-
  CONTRACTS of package value's small functions, of cmp.Compare at int and float64, of strings.Compare, and of the reference's counterparts: each says what one call returns, for every argument that its hypotheses name.
  CONDITIONS: each theorem's own hypotheses.
-/
import Derived.Test.YtpneoaehkibdeaaDoorProg
import Derived.Test.YtpneoaehkibdeaaDoorFloatOrd
import Derived.WalkKit
import Derived.WalkLawsBesides
import Derived.WalkMore
import Derived.Below
import Derived.Lib.Hide
import Derived.Lib.Bytealg
import Derived.Lib.ValidU
import Derived.Laws.Externs
import Derived.Laws.Cover2
import Derived.IntWalk
import Derived.Laws.BitsAllLaws
namespace Go.Proofs.YtpneoaehkibdeaaDoor
open Go.RowKit
set_option linter.unusedVariables false

/-! ### plain words -/
def cmp3 (x y : Int) : Int := if x < y then -1 else if y < x then 1 else 0
def own (k i b : Int) (s : ByteArray) : Bool :=
  ((k == 1 || k == 2) || i == 0) && ((k == 3 || b == 0) && (k == 4 || s.toList.isEmpty))
def nan (b : Int) : Bool := decide (9218868437227405312 < b.toNat % 9223372036854775808)
def good (k i b : Int) (s : ByteArray) : Bool :=
  if k = 1 then (i == 0 || i == 1) else if k = 3 then (!nan b && !(b == 9223372036854775808)) else if k = 4 then Lib.validD s.data.toList else true
def chk (k i b : Int) (s : ByteArray) : Int :=
  if k < 0 ∨ 4 < k then 2 else if 40 < s.size then 1 else if own k i b s && good k i b s then 0 else 3

theorem kcase (k : Int) : (k = 0 ∨ k = 1 ∨ k = 2 ∨ k = 3 ∨ k = 4) ∨ ((k == 0) = false ∧ (k == 1) = false ∧ (k == 2) = false ∧ (k == 3) = false ∧ (k == 4) = false) := by
  simp only [beq_eq_false_iff_ne]; omega
theorem rb {a b : Bool} (h : a = b) : Ending.returned (.bool a) = .returned (.bool b) := by rw [h]
theorem ri {k : IntKind} {a b : Int} (h : a = b) : Ending.returned (.int k a) = .returned (.int k b) := by rw [h]

/-! ### entries without a body -/
@[go_sem] theorem run_frombits (n : Int) (w : World) : (callFunc 142 #[.int .u64 n]).run Tryd.prog w = .ok (.value (.float .f64 n.toNat)) w := by
  rw [run_callFunc_extern Tryd.func142 (by kernel_rfl) (by kernel_rfl) (by kernel_rfl) (e := Extern.MathFloatBits.float64frombits) (by kernel_rfl)]
  rfl
/-! ### the code's -/
theorem real64_any (k i b : Int) (s : ByteArray) (w : World) :
    Calls Tryd.prog 132 #[.agg #[.int .i64 k, .int .i64 i, .int .u64 b, .string s]] w fun e w' => e = .returned (.float .f64 b.toNat) ∧ Below w.heap.size w w' := by
  go_enter Tryd.func132, Tryd.ntmps132
  go_wp2
  go_ret
  exact ⟨rfl, (Below.refl _ _).alloc (Nat.le_refl _) _⟩

theorem isNaN_any (b : Nat) (w : World) :
    Calls Tryd.prog 131 #[.float .f64 b] w fun e w' => e = .returned (.bool (FloatKind.f64.format.order b b != some .eq)) ∧ w = w' := by
  go_enter Tryd.func131, Tryd.ntmps131
  go_wp2
  go_ret
  exact ⟨rfl, rfl⟩

theorem intCmp_any (a b : Int) (w : World) :
    Calls Tryd.prog 105 #[.int .i64 a, .int .i64 b] w fun e w' => e = .returned (.int .i64 (cmp3 a b)) ∧ w = w' := by
  unfold cmp3
  rcases Int.lt_trichotomy a b with l | rfl | g
  · rw [if_pos l]
    go_enter Tryd.func105, Tryd.ntmps105
    go_wp2
    go_ret
    exact ⟨rfl, rfl⟩
  · rw [if_neg (by omega), if_neg (by omega)]
    go_enter Tryd.func105, Tryd.ntmps105
    go_wp2
    go_ret
    exact ⟨rfl, rfl⟩
  · rw [if_neg (by omega), if_pos g]
    go_enter Tryd.func105, Tryd.ntmps105
    go_wp2
    go_ret
    exact ⟨rfl, rfl⟩

/-! ### the reference's -/
theorem badReal_any (b : Int) (w : World) (h0 : 0 ≤ b) (h1 : b ≤ 18446744073709551615) :
    Calls Tryd.prog 88 #[.int .u64 b] w fun e w' => e = .returned (.bool (nan b || b == 9223372036854775808)) ∧ w = w' := by
  cases ht : (b == 9223372036854775808)
  · have hn : decide (18437736874454810624 < IntKind.u64.wrap (b * 2)) = nan b := by
      unfold nan
      have : IntKind.u64.wrap (b * 2) = (b * 2) % 18446744073709551616 := rfl
      rw [this]
      by_cases h : 9218868437227405312 < b.toNat % 9223372036854775808
      · rw [decide_eq_true h]; exact decide_eq_true (by omega)
      · rw [decide_eq_false h]; exact decide_eq_false (by omega)
    have HN := Lib.hid hn
    clear hn
    go_enter Tryd.func88, Tryd.ntmps88
    go_wp2
    go_ret
    exact ⟨rb (by rw [HN.out]; simp), rfl⟩
  · go_enter Tryd.func88, Tryd.ntmps88
    go_wp2
    go_ret
    exact ⟨rb (by simp), rfl⟩

theorem bitsOrder_any (a b : Int) (w : World) :
    Calls Tryd.prog 77 #[.int .u64 a, .int .u64 b] w fun e w' => e = .returned (.int .i64 (cmp3 a b)) ∧ w = w' := by
  unfold cmp3
  rcases Int.lt_trichotomy a b with l | rfl | g
  · rw [if_pos l]
    go_enter Tryd.func77, Tryd.ntmps77
    go_wp2
    go_ret
    exact ⟨rfl, rfl⟩
  · rw [if_neg (by omega), if_neg (by omega)]
    go_enter Tryd.func77, Tryd.ntmps77
    go_wp2
    go_ret
    exact ⟨rfl, rfl⟩
  · rw [if_neg (by omega), if_pos g]
    go_enter Tryd.func77, Tryd.ntmps77
    go_wp2
    go_ret
    exact ⟨rfl, rfl⟩

theorem max_xor (b : Nat) (h : b < 18446744073709551616) : 18446744073709551615 ^^^ b = 18446744073709551615 - b := by
  apply Nat.eq_of_testBit_eq
  intro i
  have h1 := Nat.testBit_two_pow_sub_succ (x := b) (n := 64) h i
  have h2 := Nat.testBit_two_pow_sub_one 64 i
  have e1 : (2 : Nat) ^ 64 - (b + 1) = 18446744073709551615 - b := by omega
  have e2 : (2 : Nat) ^ 64 - 1 = 18446744073709551615 := by decide
  rw [e1] at h1
  rw [e2] at h2
  rw [Nat.testBit_xor, h1, h2]
  by_cases hi : i < 64
  · simp [hi]
  · have : b.testBit i = false := Nat.testBit_lt_two_pow (Nat.lt_of_lt_of_le h (show 2 ^ 64 ≤ 2 ^ i from Nat.pow_le_pow_right (by omega) (by omega)))
    simp [hi, this]
theorem max_xor_int (b : Int) (h0 : 0 ≤ b) (h1 : b ≤ 18446744073709551615) : bits .xor .u64 18446744073709551615 b = 18446744073709551615 - b := by
  rw [u64_xor _ _ (by decide) (by decide) h0 (by omega), show (18446744073709551615 : Int).toNat = 18446744073709551615 from rfl, max_xor _ (by omega)]
  omega
def risen (b : Int) : Int := if b < 9223372036854775808 then b + 9223372036854775808 else 18446744073709551615 - b
end Go.Proofs.YtpneoaehkibdeaaDoor
