/-
  THE WALK of the law 'chirographkeep.EvalSums': for every two numbers the law returns true.
  CONDITIONS: the numbers are of 64 bits; the tables lie.
-/
import Derived.Test.YtablacloabpjfabGreatDoorGEve
namespace Go.Proofs.YtablacloabpjfabGreatDoor
open Go.RowKit
set_option linter.unusedVariables false
set_option maxRecDepth 100000

def tSum : T := opN 5 [colT nA, colT nB]
def tBack : T := opN 6 [opN 5 [colT nA, colT nB], colT nB]
theorem ty_sum : Ty csAB 2 2 tSum := ty_op2 (.inr (.inl ⟨rfl, by decide, rfl⟩)) tyA tyB
theorem ty_back : Ty csAB 3 2 tBack := ty_op2 (.inr (.inl ⟨rfl, by decide, rfl⟩)) ty_sum (Ty.more _ _ _ _ tyB)
theorem evalR_ab (t : T) (n : Nat) (hn : n ≤ 5) (k : Int) (hk : 1 ≤ k ∧ k ≤ 4) (h : Ty csAB n k t) (a b : Int) : evalR t csAB (rowAB a b) = evT csAB (rowAB a b) t :=
  evalR_ok _ _ _ (ty_expr colsAB n hn k t hk h) (rowAB_ok a b)
/-- What Eval answers, where two columns and a row of whole numbers lie. -/
theorem eval_ab (t : T) (n : Nat) (hn : n ≤ 5) (k : Int) (hk : 1 ≤ k ∧ k ≤ 4) (h : Ty csAB n k t) (a b : Int) (R : RE) (hR : evT csAB (rowAB a b) t = R) (g g1 g2 q : Nat) (w w0 : World) (hX : XEnv w0) (hC : Cols w0 (some ⟨g1, 0, none⟩) csAB) (hV : Vals w0 (some ⟨g2, 0, none⟩) (rowAB a b)) (hb : Below w0.heap.size w0 w) (hT : XT w t (some ⟨g, 0, none⟩) q) :
    Calls Tryz.prog 20 #[exprV t (some ⟨g, 0, none⟩) q, .slice (some ⟨g1, 0, none⟩) 2 2, .slice (some ⟨g2, 0, none⟩) 2 2] w fun e w' => e = .returned (.tuple #[valV R.v, .int .i64 R.f]) ∧ Below w.heap.size w w' := by
  have := eval_any t (some ⟨g, 0, none⟩) q csAB (some ⟨g1, 0, none⟩) 2 (rowAB a b) (some ⟨g2, 0, none⟩) 2 w ⟨hT.A, hT.n1, hT.n2, hC.keep hb, (by show 2 ≤ 2; omega), (by decide), hV.keep hb, (by show 2 ≤ 2; omega), (by decide), hX.keep hb⟩
  rw [evalR_ab t n hn k hk h a b, hR] at this
  exact this
theorem half_sum (a b : Int) (ha : in64 a) (hb : in64 b) : (-4611686018427387904 ≤ a / 2 + b / 2 + (a % 2) * (b % 2) ∧ a / 2 + b / 2 + (a % 2) * (b % 2) < 4611686018427387904) ↔ in64 (a + b) := by
  unfold in64 at *
  rcases (show a % 2 = 0 ∨ a % 2 = 1 by omega) with h | h <;> rcases (show b % 2 = 0 ∨ b % 2 = 1 by omega) with h' | h' <;> rw [h, h'] <;> omega
theorem and_and_1 (a b : Int) : bits .and .i64 (bits .and .i64 a b) 1 = (a % 2) * (b % 2) := by
  have h1 : (BitVec.ofInt 64 1).toNat = 1 := by decide
  obtain ⟨X, hX⟩ : ∃ X, BitVec.ofInt 64 a &&& BitVec.ofInt 64 b = X := ⟨_, rfl⟩
  have hXm : X.toNat % 2 = (a % 2).toNat * (b % 2).toNat := by
    rw [← hX, BitVec.toNat_and, BitVec.toNat_ofInt, BitVec.toNat_ofInt]
    have e := Nat.and_mod_two_pow (a := (a % ((2 ^ 64 : Nat) : Int)).toNat) (b := (b % ((2 ^ 64 : Nat) : Int)).toNat) (n := 1)
    rw [show (2 : Nat) ^ 1 = 2 from rfl] at e
    rw [e]
    have ha : (a % ((2 ^ 64 : Nat) : Int)).toNat % 2 = (a % 2).toNat := by omega
    have hb : (b % ((2 ^ 64 : Nat) : Int)).toNat % 2 = (b % 2).toNat := by omega
    rw [ha, hb]
    rcases (show (a % 2).toNat = 0 ∨ (a % 2).toNat = 1 by omega) with h | h <;> rcases (show (b % 2).toNat = 0 ∨ (b % 2).toNat = 1 by omega) with h' | h' <;> rw [h, h'] <;> rfl
  have e1 : bits .and .i64 a b = IntKind.i64.wrap (X.toNat : Nat) := by rw [← hX]; rfl
  have e2 : BitVec.ofInt 64 (IntKind.i64.wrap ((X.toNat : Nat) : Int)) = X := by
    apply BitVec.eq_of_toNat_eq
    rw [BitVec.toNat_ofInt, IntKind.wrap_i64]
    have := X.isLt
    omega
  have e3 : bits .and .i64 (IntKind.i64.wrap ((X.toNat : Nat) : Int)) 1 = IntKind.i64.wrap ((BitVec.ofInt 64 (IntKind.i64.wrap ((X.toNat : Nat) : Int)) &&& BitVec.ofInt 64 1).toNat : Nat) := rfl
  rw [e1, e3, e2, BitVec.toNat_and, h1, Nat.and_one_is_mod, hXm, IntKind.wrap_i64]
  rcases (show a % 2 = 0 ∨ a % 2 = 1 by omega) with h | h <;> rcases (show b % 2 = 0 ∨ b % 2 = 1 by omega) with h' | h' <;> rw [h, h'] <;> decide
theorem high_ab (a b : Int) (ha : in64 a) (hb : in64 b) : (-4611686018427387904 ≤ wrap64 (wrap64 (a / 2 + b / 2) + bits .and .i64 (bits .and .i64 a b) 1) ∧ wrap64 (wrap64 (a / 2 + b / 2) + bits .and .i64 (bits .and .i64 a b) 1) < 4611686018427387904) ↔ in64 (a + b) := by
  rw [and_and_1, ← half_sum a b ha hb]
  have h := half_sum a b ha hb
  unfold in64 at ha hb
  have e1 : wrap64 (a / 2 + b / 2) = a / 2 + b / 2 := wrap64_in (by unfold inI; omega)
  rw [e1]
  have e2 : wrap64 (a / 2 + b / 2 + a % 2 * (b % 2)) = a / 2 + b / 2 + a % 2 * (b % 2) := by
    apply wrap64_in
    unfold inI
    rcases (show a % 2 = 0 ∨ a % 2 = 1 by omega) with h | h <;> rcases (show b % 2 = 0 ∨ b % 2 = 1 by omega) with h' | h' <;> rw [h, h'] <;> omega
  rw [e2]
set_option maxHeartbeats 16000000 in
theorem evalSums_core (a b : Int) (w : World) (ha : in64 a) (hb : in64 b) (hX : XEnv w) :
    Calls Tryz.prog 5 #[.int .i64 a, .int .i64 b] w fun e w' => e = .returned (.bool true) ∧ Below w.heap.size w w' := by
  have cI := ints_any a b ha hb w
  have cA := fun W => colA_any W
  have cB := fun W => colB_any W
  have cO : ∀ W, Calls Tryz.prog 24 #[.int .i64 5, colV nA, colV nB] W (Op2Ok 5 (colT nA) (colT nB) W) := fun W => op2_lit 5 (by decide) (colT nA) (colT nB) none none 0 0 W (xt_col W nA (by decide)) (xt_col W nB (by decide))
  have cP : ∀ W g, XT W tSum (some ⟨g, 0, none⟩) 2 → Calls Tryz.prog 24 #[.int .i64 6, opV 5 g 2, colV nB] W (Op2Ok 6 tSum (colT nB) W) := fun W g hg => op2_lit 6 (by decide) tSum (colT nB) (some ⟨g, 0, none⟩) none 2 0 W hg (xt_col W nB (by decide))
  have hev := ev_sum a b
  have hev2 := ev_back a b ha
  have hE1 : ∀ (g g1 g2 : Nat) (W w0 : World), XEnv w0 → Cols w0 (some ⟨g1, 0, none⟩) csAB → Vals w0 (some ⟨g2, 0, none⟩) (rowAB a b) → Below w0.heap.size w0 W → XT W tSum (some ⟨g, 0, none⟩) 2 → Calls Tryz.prog 20 #[opV 5 g 2, .slice (some ⟨g1, 0, none⟩) 2 2, .slice (some ⟨g2, 0, none⟩) 2 2] W fun e w' => e = .returned (.tuple #[valV (numE (a + b)).v, .int .i64 (numE (a + b)).f]) ∧ Below W.heap.size W w' :=
    fun g g1 g2 W w0 hX hC hV hb hT => eval_ab tSum 2 (by decide) 2 (by decide) ty_sum a b _ hev g g1 g2 2 W w0 hX hC hV hb hT
  have hE2 : ∀ (g g1 g2 : Nat) (W w0 : World), XEnv w0 → Cols w0 (some ⟨g1, 0, none⟩) csAB → Vals w0 (some ⟨g2, 0, none⟩) (rowAB a b) → Below w0.heap.size w0 W → XT W tBack (some ⟨g, 0, none⟩) 2 → Calls Tryz.prog 20 #[opV 6 g 2, .slice (some ⟨g1, 0, none⟩) 2 2, .slice (some ⟨g2, 0, none⟩) 2 2] W fun e w' => e = .returned (.tuple #[valV (if in64 (a + b) then okE (intV a) else badE 6).v, .int .i64 (if in64 (a + b) then okE (intV a) else badE 6).f]) ∧ Below W.heap.size W w' :=
    fun g g1 g2 W w0 hX hC hV hb hT => eval_ab tBack 3 (by decide) 2 (by decide) ty_back a b _ hev2 g g1 g2 2 W w0 hX hC hV hb hT
  have HE1 := Lib.hid hE1
  have HE2 := Lib.hid hE2
  have HP := Lib.hid cP
  have hhigh := high_ab a b ha hb
  have HIN := Lib.hid (And.intro ha hb)
  have HX := Lib.hid hX
  unfold colV at cA cB cO HP
  unfold opV at HE1 HE2 HP
  have hin1 : in64 (a + b) → numE (a + b) = okE (intV (a + b)) := numE_in
  have hoff1 : ¬ in64 (a + b) → numE (a + b) = badE 6 := numE_off
  generalize str nA = NA at *
  generalize str nB = NB at *
  clear hE1 hE2 cP hev hev2 hX
  unfold IntsOk at cI
  go_enter Tryz.func5, Tryz.ntmps5
  go_wp2_with fail
  refine cI.mono ?_
  rintro e w1 ⟨g1, g2, rfl, HC, HV, hb1⟩
  clear cI
  have X1 := HX.out.keep hb1
  go_wp2_with fail
  refine (cA _).mono ?_
  rintro e w2 ⟨rfl, hb2⟩
  go_wp2_with fail
  refine (cB _).mono ?_
  rintro e w3 ⟨rfl, hb3⟩
  have hb03 := below_stepE hb2 hb2.size hb3
  clear hb2 hb3
  go_wp2_with fail
  refine (cO _).mono ?_
  rintro e w4 ⟨g4, rfl, hT4, hb4⟩
  have hb04 := below_stepE hb03 hb03.size hb4
  have cE := HE1.out g4 g1 g2 w4 w1 X1 HC.out HV.out hb04 hT4.out
  clear hT4 hb4 hb03 HE1
  generalize hR1 : numE (a + b) = R1 at *
  have HR1 := Lib.hid hR1
  clear hR1
  obtain ⟨⟨k1, i1, b1, s1⟩, f1⟩ := R1
  unfold valV at cE
  simp only at cE
  generalize hS1 : str s1 = S1 at *
  go_wp2_with fail
  refine cE.mono ?_
  rintro e w5 ⟨rfl, hb5⟩
  have hb05 := below_stepE hb04 hb04.size hb5
  clear cE hb5 hb04
  have zV := Blk.new w5 #[.int .i64 k1, .int .i64 i1, .int .u64 b1, .string S1] 24
  have hb06 := hb05.alloc hb05.size (.cells #[.int .i64 k1, .int .i64 i1, .int .u64 b1, .string S1] 24)
  go_upto_region 3 with fail
  generalize hw6 : w5.alloc (.cells #[.int .i64 k1, .int .i64 i1, .int .u64 b1, .string S1] 24) = w6 at *
  clear hw6 hb05
  generalize w5.heap.size = gV at *
  go_wp2_with fail
  refine (cA _).mono ?_
  rintro e w7 ⟨rfl, hb7⟩
  go_wp2_with fail
  refine (cB _).mono ?_
  rintro e w8 ⟨rfl, hb8⟩
  have hb68 := below_stepE hb7 hb7.size hb8
  clear hb7 hb8
  go_wp2_with fail
  refine (cO _).mono ?_
  rintro e w9 ⟨g9, rfl, hT9, hb9⟩
  have hb69 := below_stepE hb68 hb68.size hb9
  clear hb68 hb9 cO cA
  go_wp2_with fail
  refine (cB _).mono ?_
  rintro e w10 ⟨rfl, hb10⟩
  have hT10 := hT9.out.keep hb10
  have hb610 := below_stepE hb69 hb69.size hb10
  have cP := HP.out w10 g9 hT10
  clear hb69 hb10 hT9 hT10 cB HP
  go_wp2_with fail
  refine cP.mono ?_
  rintro e w11 ⟨g11, rfl, hT11, hb11⟩
  have hb611 := below_stepE hb610 hb610.size hb11
  have hb111 := below_stepE hb06 hb06.size hb611
  have cE := HE2.out g11 g1 g2 w11 w1 X1 HC.out HV.out hb111 hT11.out
  clear hT11 hb11 hb610 HE2 cP
  generalize hR2 : (if in64 (a + b) then okE (intV a) else badE 6) = R2 at *
  have HR2 := Lib.hid hR2
  clear hR2
  obtain ⟨⟨k2, i2, b2, s2⟩, f2⟩ := R2
  unfold valV at cE
  simp only at cE
  generalize hS2 : str s2 = S2 at *
  go_wp2_with fail
  refine cE.mono ?_
  rintro e w12 ⟨rfl, hb12⟩
  have hb112 := below_stepE hb111 hb111.size hb12
  have hb612 := below_stepE hb611 hb611.size hb12
  have yV := zV.call hb612
  clear cE hb12 hb111 hb611 hb612 zV hb06
  have zU := Blk.new w12 #[.int .i64 k2, .int .i64 i2, .int .u64 b2, .string S2] 24
  have xV := yV.alloc (.cells #[.int .i64 k2, .int .i64 i2, .int .u64 b2, .string S2] 24)
  have hb113 := hb112.alloc hb112.size (.cells #[.int .i64 k2, .int .i64 i2, .int .u64 b2, .string S2] 24)
  go_upto_region 4 with fail
  generalize hw13 : w12.alloc (.cells #[.int .i64 k2, .int .i64 i2, .int .u64 b2, .string S2] 24) = w13 at *
  clear hw13 hb112 yV
  generalize w12.heap.size = gU at *
  go_upto_region 5 with fail
  generalize wrap64 (wrap64 (a / 2 + b / 2) + bits .and .i64 (bits .and .i64 a b) 1) = high at *
  obtain ⟨⟨p0, p1, p2, p3⟩, _⟩ := xV.four
  obtain ⟨⟨q0, q1, q2, q3⟩, _⟩ := zU.four
  by_cases hin : in64 (a + b)
  · have e1 := hin1 hin
    have e2 := HR2.out
    rw [if_pos hin] at e2
    simp only [okE, intV, RE.mk.injEq, Vl.mk.injEq] at e1 e2
    obtain ⟨⟨rfl, rfl, rfl, rfl⟩, rfl⟩ := e1
    obtain ⟨⟨rfl, rfl, rfl, rfl⟩, rfl⟩ := e2
    rw [str_nil] at hS1 hS2
    subst hS1 hS2
    obtain ⟨hh1, hh2⟩ := hhigh.2 hin
    have hw1 : wrap64 (a + b) = a + b := wrap64_in hin
    have hw2 : IntKind.i64.wrap (a + b) = a + b := by rw [IntKind.wrap_i64]; unfold in64 at hin; omega
    clear hhigh hin1 hoff1 HR1 HR2 HIN
    go_wp2_with fail
    go_ret
    exact ⟨by simp, below_stepE hb1 hb1.size hb113⟩
  · have e1 := hoff1 hin
    have e2 := HR2.out
    rw [if_neg hin] at e2
    simp only [badE, nulV, RE.mk.injEq, Vl.mk.injEq] at e1 e2
    obtain ⟨⟨rfl, rfl, rfl, rfl⟩, rfl⟩ := e1
    obtain ⟨⟨rfl, rfl, rfl, rfl⟩, rfl⟩ := e2
    clear hin1 hoff1 HR1 HR2 HIN
    by_cases hh1 : -4611686018427387904 ≤ high
    · have hh2 : ¬ high < 4611686018427387904 := fun h => hin (hhigh.1 ⟨hh1, h⟩)
      clear hhigh hin
      go_wp2_with fail
      go_ret
      exact ⟨by simp, below_stepE hb1 hb1.size hb113⟩
    · clear hhigh hin
      go_wp2_with fail
      go_ret
      exact ⟨by simp, below_stepE hb1 hb1.size hb113⟩
theorem evalSums_walk (a b : Int) (w : World) (hX : XEnv w) (a0 : -9223372036854775808 ≤ a) (a1 : a ≤ 9223372036854775807) (b0 : -9223372036854775808 ≤ b) (b1 : b ≤ 9223372036854775807) :
    Calls Tryz.prog 5 #[.int .i64 a, .int .i64 b] w fun e w' => e = .returned (.bool true) ∧ Below w.heap.size w w' := evalSums_core a b w ⟨a0, a1⟩ ⟨b0, b1⟩ hX
end Go.Proofs.YtablacloabpjfabGreatDoor
