/-
  CONTRACTS of package kinds' Of and of the reference's KindOf; the walk of the law 'chirographlaw.KindsOf'.
  CONDITIONS: each theorem's own hypotheses; the tables hold what their initialisers lay (XEnv).
  CONTRACTS of package table's Condition and of the reference's ConditionFault; the walk of the law 'chirographlaw.TableConditions'.
  CONDITIONS: each theorem's own hypotheses.
  CONTRACTS of the reference's valued, at any depth, and ValueOf; THE WALK of the law 'chirographlaw.EvalEvals'.
  CONDITIONS: each theorem's own hypotheses; the tables, package lex's signs and package expr's forms hold what their initialisers lay ('XEnv').
  MERGED: RegSt, RegE.
  CONDITIONS: each theorem's own hypotheses.
  CONTRACTS of package table's Holds and of the reference's True; the walk of the law 'chirographlaw.TableHolds'.
  CONDITIONS: each theorem's own hypotheses.
  THE WALK of the law 'chirographlaw.TableHolds'.
  CONDITIONS: each theorem's own hypotheses.
-/
import Derived.Test.YtfedlchncngafaaGreatDoorGKindE
import Derived.Test.YtfedlchncngafaaGreatDoorExprI
import Derived.Test.YtfedlchncngafaaGreatDoorRevE
import Derived.Test.YtfedlchncngafaaGreatDoorKindS
import Derived.Test.YtfedlchncngafaaGreatDoorGReg
namespace Go.Proofs.YtfedlchncngafaaGreatDoor
open Go.RowKit
set_option linter.unusedVariables false
set_option maxRecDepth 100000

set_option maxHeartbeats 8000000 in
theorem kindOfRef_any (t : T) (ao : Option Addr) (cap : Nat) (cs : List Cl) (aoc : Option Addr) (capc : Nat) (w : World) (hX : XEnv w) (hl : t.kids.length ≤ cap) (hm : cap ≤ 9223372036854775807 ∧ (ao = none → cap = 0)) (hA : AtT w t ao) (hlc : cs.length ≤ capc) (hmc : capc ≤ 9223372036854775807) (hC : Cols w aoc cs) :
    Calls Tryz.prog 71 #[exprV t ao cap, .slice aoc cs.length capc] w fun e w' => e = .returned (.tuple #[.int .i64 (kindsR cs t).k, .bool (kindsR cs t).n, .int .i64 (kindsR cs t).f]) ∧ Below w.heap.size w w' := by
  have c1 := fun W (hW : Below w.heap.size w W) => exprFault_any t ao cap W (hA.keep hW) hl hm.1 hm.2 (hX.keep hW).tabs
  have c2 := fun W (hW : Below w.heap.size w W) => columnsFault_any cs aoc capc W hlc hmc (hC.keep hW)
  have c3 := fun W (hW : Below w.heap.size w W) (h1 : exprR t = 0) (h2 : colsR cs = 0) => kof_any t.deep t ao cap cs aoc capc W (Nat.le_refl _) (exprR_form t h1) h2 (hA.keep hW) (by omega) (by omega) (hC.keep hW)
  have hR : kindsR cs t = if exprR t ≠ 0 then ⟨0, false, exprR t⟩ else if colsR cs ≠ 0 then ⟨0, false, colsR cs⟩ else kT cs t := rfl
  have HR := Lib.hid hR
  simp only [exprV_cells] at c1 c3 ⊢
  generalize kindsR cs t = R at *
  generalize kT cs t = KT at *
  generalize exprR t = F at *
  generalize colsR cs = G at *
  generalize t.kids.length = L at *
  generalize t.nd = nd at *
  generalize cs.length = m at *
  obtain ⟨op, k, i, b, s, nm⟩ := nd
  simp only at c1 c3 ⊢
  generalize str s = S at *
  generalize str nm = N at *
  have hz := Blk.new w #[.int .i64 op, .int .i64 k, .int .i64 i, .int .u64 b, .string S, .string N, .slice ao L cap] 27
  have hb0 : Below w.heap.size w (w.alloc (.cells #[.int .i64 op, .int .i64 k, .int .i64 i, .int .u64 b, .string S, .string N, .slice ao L cap] 27)) := (Below.refl _ _).alloc (Nat.le_refl _) _
  generalize hw1 : w.alloc (.cells #[.int .i64 op, .int .i64 k, .int .i64 i, .int .u64 b, .string S, .string N, .slice ao L cap] 27) = w1 at hz hb0
  have d1 := c1 w1 hb0
  obtain ⟨p0, p1, p2, p3, p4, p5, p6⟩ := hz.seven
  clear hA hX hl hm hlc hmc hC hR c1
  go_enter Tryz.func71, Tryz.ntmps71
  go_upto_region 1 with fail
  try rw [hw1]
  clear hw1
  go_wp2_with fail
  refine d1.mono ?_
  rintro e w2 ⟨rfl, hb2⟩
  have hb02 := below_two hb0 hb2
  have hz2 := hz.call hb2
  clear d1 hb2 hb0 p0 p1 p2 p3 p4 p5 p6 hz
  by_cases hF : F = 0
  · have z1 : (F != 0) = false := by rw [hF]; rfl
    have d2 := c2 w2 hb02
    have HR2 : Hid (R = if G ≠ 0 then ⟨0, false, G⟩ else KT) := by have := HR.out; rw [if_neg (by rw [hF]; decide)] at this; exact this
    have c4 := fun W hW h2 => c3 W hW hF h2
    clear c2 c3 HR
    go_wp2_with fail
    refine d2.mono ?_
    rintro e w3 ⟨rfl, hb3⟩
    have hb03 := below_two hb02 hb3
    have hz3 := hz2.call hb3
    clear d2 hb3 hb02 hz2
    by_cases hG : G = 0
    · have z2 : (G != 0) = false := by rw [hG]; rfl
      have d4 := c4 w3 hb03 hG
      have HR3 : Hid (R = KT) := by have := HR2.out; rw [if_neg (by rw [hG]; decide)] at this; exact this
      obtain ⟨q0, q1, q2, q3, q4, q5, q6⟩ := hz3.seven
      clear c4 HR2 hG hF
      go_wp2_with fail
      refine d4.mono ?_
      rintro e w4 ⟨rfl, hb4⟩
      have hb04 := below_two hb03 hb4
      clear d4 hb4 q0 q1 q2 q3 q4 q5 q6
      go_wp2_with fail
      go_ret3
      exact ⟨by rw [HR3.out]; rfl, hb04⟩
    · have z2 : (G != 0) = true := by simpa using hG
      have HR3 : Hid (R = ⟨0, false, G⟩) := by have := HR2.out; rw [if_pos hG] at this; exact this
      clear c4 HR2 hG hF
      go_wp2_with fail
      go_ret3
      exact ⟨by rw [HR3.out]; rfl, hb03⟩
  · have z1 : (F != 0) = true := by simpa using hF
    have HR3 : Hid (R = ⟨0, false, F⟩) := by have := HR.out; rw [if_pos hF] at this; exact this
    clear c2 c3 HR hF
    go_wp2_with fail
    go_ret3
    exact ⟨by rw [HR3.out]; rfl, hb02⟩
end Go.Proofs.YtfedlchncngafaaGreatDoor
namespace Go.Proofs.YtfedlchncngafaaGreatDoor
open Go.RowKit
set_option linter.unusedVariables false
set_option maxRecDepth 100000

/-- No expression at all. -/
def noX (t : T) : Bool := t.nd.op == 0 && (t.nd.n.isEmpty && ((t.nd.k == 0 && (t.nd.i == 0 && (t.nd.b == 0 && t.nd.t.isEmpty))) && t.kids.length == 0))
def condR (cs : List Cl) (t : T) : Int := if noX t = true then colsR cs else if (kindsR cs t).f ≠ 0 then (kindsR cs t).f else if (kindsR cs t).k = 1 ∨ (kindsR cs t).k = 0 then 0 else 2
theorem kindsR_rng (cs : List Cl) (t : T) (h : (kindsR cs t).f = 0) : 0 ≤ (kindsR cs t).k ∧ (kindsR cs t).k ≤ 4 := by
  unfold kindsR at h ⊢
  by_cases h1 : exprR t ≠ 0
  · rw [if_pos h1] at h; exact absurd h h1
  · rw [if_neg h1] at h ⊢
    by_cases h2 : colsR cs ≠ 0
    · rw [if_pos h2] at h; exact absurd h h2
    · rw [if_neg h2]
      exact kT_rng cs (colsR_rng cs (by omega)) t (exprR_form t (by omega))
set_option maxHeartbeats 8000000 in
theorem noExprs_any (op k i b : Int) (t nm : List UInt8) (ao : Option Addr) (L cap : Nat) (w : World) (hL : L ≤ cap ∧ cap ≤ 9223372036854775807) (z : Bool) (hz : (op == 0 && (nm.isEmpty && ((k == 0 && (i == 0 && (b == 0 && t.isEmpty))) && L == 0))) = z) :
    (Calls Tryz.prog 31 #[.agg #[.int .i64 op, .int .i64 k, .int .i64 i, .int .u64 b, .string (str t), .string (str nm), .slice ao L cap]] w fun e w' => e = .returned (.bool (!z)) ∧ Below w.heap.size w w') ∧
    (Calls Tryz.prog 35 #[.agg #[.int .i64 op, .int .i64 k, .int .i64 i, .int .u64 b, .string (str t), .string (str nm), .slice ao L cap]] w fun e w' => e = .returned (.bool z) ∧ Below w.heap.size w w') := by
  have hse : (str t).toList.isEmpty = t.isEmpty := by rw [str_toList]
  have hsn : (str nm).toList.isEmpty = nm.isEmpty := by rw [str_toList]
  rw [← hse, ← hsn] at hz
  generalize str nm = N at *
  generalize str t = S at *
  clear hse hsn
  have hLI : (L == 0) = ((L : Int) == 0) := by
    cases h : (L == 0) with
    | true => simp at h; subst h; rfl
    | false => simp at h; exact (beq_eq_false_iff_ne.2 (by omega)).symm
  have hLG : decide ((0 : Int) < (L : Int)) = !((L : Int) == 0) := by
    by_cases h : L = 0
    · subst h; rfl
    · rw [decide_eq_true (by omega), beq_eq_false_iff_ne.2 (by omega)]; rfl
  rw [hLI] at hz
  clear hLI
  by_cases ho : op = 0
  · subst ho
    by_cases hn : N.toList = []
    · have hn1 : N.toList.isEmpty = true := by rw [hn]; rfl
      rw [hn1] at hz
      by_cases hk : k = 0
      · subst hk
        by_cases hi : i = 0
        · subst hi
          by_cases hb : b = 0
          · subst hb
            by_cases hs : S.toList = []
            · have hs1 : S.toList.isEmpty = true := by rw [hs]; rfl
              rw [hs1] at hz
              cases h5 : ((L : Int) == 0)
              all_goals
                rw [h5] at hLG hz
                have hz2 : z = _ := hz.symm
                subst hz2
                clear hz
                constructor
                · go_enter Tryz.func31, Tryz.ntmps31
                  go_wp2_with fail
                  all_goals
                    go_ret
                    exact ⟨by first | rfl | (simp_all; done) | (simp at *; omega), (Below.refl _ _).alloc (Nat.le_refl _) _⟩
                · go_enter Tryz.func35, Tryz.ntmps35
                  go_wp2_with fail
                  all_goals
                    go_ret
                    exact ⟨by first | rfl | (simp_all; done) | (simp at *; omega), (Below.refl _ _).alloc (Nat.le_refl _) _⟩
            · have hs1 : S.toList.isEmpty = false := by cases h : S.toList <;> simp_all
              have hz2 : z = false := by rw [← hz, hs1]; simp
              subst hz2
              clear hz hLG
              constructor
              · go_enter Tryz.func31, Tryz.ntmps31
                go_wp2_with fail
                all_goals
                  go_ret
                  exact ⟨by first | rfl | (simp_all; done) | (simp at *; omega), (Below.refl _ _).alloc (Nat.le_refl _) _⟩
              · go_enter Tryz.func35, Tryz.ntmps35
                go_wp2_with fail
                all_goals
                  go_ret
                  exact ⟨by first | rfl | (simp_all; done) | (simp at *; omega), (Below.refl _ _).alloc (Nat.le_refl _) _⟩
          · have hb1 : (b == 0) = false := by simpa using hb
            have hb2 : (b != 0) = true := by simpa using hb
            have hz2 : z = false := by rw [← hz, hb1]; simp
            subst hz2
            clear hz hLG
            constructor
            · go_enter Tryz.func31, Tryz.ntmps31
              go_wp2_with fail
              all_goals
                go_ret
                exact ⟨by first | rfl | (simp_all; done) | (simp at *; omega), (Below.refl _ _).alloc (Nat.le_refl _) _⟩
            · go_enter Tryz.func35, Tryz.ntmps35
              go_wp2_with fail
              all_goals
                go_ret
                exact ⟨by first | rfl | (simp_all; done) | (simp at *; omega), (Below.refl _ _).alloc (Nat.le_refl _) _⟩
        · have hi1 : (i == 0) = false := by simpa using hi
          have hi2 : (i != 0) = true := by simpa using hi
          have hz2 : z = false := by rw [← hz, hi1]; simp
          subst hz2
          clear hz hLG
          constructor
          · go_enter Tryz.func31, Tryz.ntmps31
            go_wp2_with fail
            all_goals
              go_ret
              exact ⟨by first | rfl | (simp_all; done) | (simp at *; omega), (Below.refl _ _).alloc (Nat.le_refl _) _⟩
          · go_enter Tryz.func35, Tryz.ntmps35
            go_wp2_with fail
            all_goals
              go_ret
              exact ⟨by first | rfl | (simp_all; done) | (simp at *; omega), (Below.refl _ _).alloc (Nat.le_refl _) _⟩
      · have hk1 : (k == 0) = false := by simpa using hk
        have hk2 : (k != 0) = true := by simpa using hk
        have hz2 : z = false := by rw [← hz, hk1]; simp
        subst hz2
        clear hz hLG
        constructor
        · go_enter Tryz.func31, Tryz.ntmps31
          go_wp2_with fail
          all_goals
            go_ret
            exact ⟨by first | rfl | (simp_all; done) | (simp at *; omega), (Below.refl _ _).alloc (Nat.le_refl _) _⟩
        · go_enter Tryz.func35, Tryz.ntmps35
          go_wp2_with fail
          all_goals
            go_ret
            exact ⟨by first | rfl | (simp_all; done) | (simp at *; omega), (Below.refl _ _).alloc (Nat.le_refl _) _⟩
    · have hn1 : N.toList.isEmpty = false := by cases h : N.toList <;> simp_all
      have hz2 : z = false := by rw [← hz, hn1]; simp
      subst hz2
      clear hz hLG
      constructor
      · go_enter Tryz.func31, Tryz.ntmps31
        go_wp2_with fail
        all_goals
          go_ret
          exact ⟨by first | rfl | (simp_all; done) | (simp at *; omega), (Below.refl _ _).alloc (Nat.le_refl _) _⟩
      · go_enter Tryz.func35, Tryz.ntmps35
        go_wp2_with fail
        all_goals
          go_ret
          exact ⟨by first | rfl | (simp_all; done) | (simp at *; omega), (Below.refl _ _).alloc (Nat.le_refl _) _⟩
  · have ho1 : (op == 0) = false := by simpa using ho
    have ho2 : (op != 0) = true := by simpa using ho
    have hz2 : z = false := by rw [← hz, ho1]; simp
    subst hz2
    clear hz hLG
    constructor
    · go_enter Tryz.func31, Tryz.ntmps31
      go_wp2_with fail
      all_goals
        go_ret
        exact ⟨by first | rfl | (simp_all; done) | (simp at *; omega), (Below.refl _ _).alloc (Nat.le_refl _) _⟩
    · go_enter Tryz.func35, Tryz.ntmps35
      go_wp2_with fail
      all_goals
        go_ret
        exact ⟨by first | rfl | (simp_all; done) | (simp at *; omega), (Below.refl _ _).alloc (Nat.le_refl _) _⟩
theorem tfits_any (k a : Int) (w : World) : Calls Tryz.prog 65 #[.int .i64 k, .int .i64 a] w fun e w' => e = .returned (.bool (k == a || k == 0)) ∧ w' = w := by
  cases h1 : (k == a) <;> cases h2 : (k == 0)
  all_goals
    go_enter Tryz.func65, Tryz.ntmps65
    go_wp2_with fail
    go_ret
    exact ⟨by first | rfl | simp [*], rfl⟩
theorem exprV_agg (t : T) (ao : Option Addr) (cap : Nat) : exprV t ao cap = .agg #[.int .i64 t.nd.op, .int .i64 t.nd.k, .int .i64 t.nd.i, .int .u64 t.nd.b, .string (str t.nd.t), .string (str t.nd.n), .slice ao t.kids.length cap] := rfl
theorem known_any (t : T) (ao : Option Addr) (cap : Nat) (w : World) (hl : t.kids.length ≤ cap) (hm : cap ≤ 9223372036854775807) :
    (Calls Tryz.prog 31 #[exprV t ao cap] w fun e w' => e = .returned (.bool (!noX t)) ∧ Below w.heap.size w w') ∧
    (Calls Tryz.prog 35 #[exprV t ao cap] w fun e w' => e = .returned (.bool (noX t)) ∧ Below w.heap.size w w') := by
  rw [exprV_agg]
  exact noExprs_any _ _ _ _ _ _ ao _ cap w ⟨hl, hm⟩ _ rfl
set_option maxHeartbeats 8000000 in
theorem condition_any (t : T) (ao : Option Addr) (cap : Nat) (cs : List Cl) (aoc : Option Addr) (capc : Nat) (w : World) (hX : XEnv w) (hl : t.kids.length ≤ cap) (hm : cap ≤ 9223372036854775807 ∧ (ao = none → cap = 0)) (hA : AtT w t ao) (hlc : cs.length ≤ capc) (hmc : capc ≤ 9223372036854775807) (hC : Cols w aoc cs) :
    Calls Tryz.prog 29 #[exprV t ao cap, .slice aoc cs.length capc] w fun e w' => e = .returned (.int .i64 (condR cs t)) ∧ Below w.heap.size w w' := by
  have c1 := fun W (hW : Below w.heap.size w W) => of_any t ao cap cs aoc capc W (hX.keep hW) hl hm (hA.keep hW) hlc hmc (hC.keep hW)
  have c2 := fun W (hW : Below w.heap.size w W) => columns_any cs aoc capc W hlc hmc (hC.keep hW) (hX.keep hW).tabs (hX.keep hW).sw
  have c3 := fun W => (known_any t ao cap W hl hm.1).1
  have hR : condR cs t = if noX t = true then colsR cs else if (kindsR cs t).f ≠ 0 then (kindsR cs t).f else if (kindsR cs t).k = 1 ∨ (kindsR cs t).k = 0 then 0 else 2 := rfl
  have HR := Lib.hid hR
  generalize condR cs t = RR at *
  generalize noX t = Z at *
  simp only [exprV_agg] at c1 c3 ⊢
  generalize kindsR cs t = R at *
  obtain ⟨Rk, Rn, Rf⟩ := R
  generalize colsR cs = CC at *
  generalize t.kids.length = L at *
  generalize t.nd = nd at *
  generalize cs.length = m at *
  obtain ⟨op, k, i, b, s, nm⟩ := nd
  simp only at c1 c3 HR ⊢
  generalize str s = S at *
  generalize str nm = N at *
  have hz := Blk.new w #[.int .i64 op, .int .i64 k, .int .i64 i, .int .u64 b, .string S, .string N, .slice ao L cap] 27
  have hb0 : Below w.heap.size w (w.alloc (.cells #[.int .i64 op, .int .i64 k, .int .i64 i, .int .u64 b, .string S, .string N, .slice ao L cap] 27)) := (Below.refl _ _).alloc (Nat.le_refl _) _
  generalize hw1 : w.alloc (.cells #[.int .i64 op, .int .i64 k, .int .i64 i, .int .u64 b, .string S, .string N, .slice ao L cap] 27) = w1 at hz hb0
  have HW1 := Lib.hid hw1
  have d1 := c3 w1
  obtain ⟨p0, p1, p2, p3, p4, p5, p6⟩ := hz.seven
  clear hA hX hl hm hlc hmc hC c3 hR hw1
  go_enter Tryz.func29, Tryz.ntmps29
  go_upto_region 1 with fail
  rw [HW1.out]
  go_wp2_with fail
  refine d1.mono ?_
  rintro e w2 ⟨rfl, hb2⟩
  have hb02 := below_two hb0 hb2
  have hz2 := hz.call hb2
  obtain ⟨q0, q1, q2, q3, q4, q5, q6⟩ := hz2.seven
  clear d1 hb2 hb0 p0 p1 p2 p3 p4 p5 p6 hz
  cases Z
  · have d2 := c1 w2 hb02
    clear c1 c2
    go_wp2_with fail
    refine d2.mono ?_
    rintro e w3 ⟨rfl, hb3⟩
    have hb03 := below_two hb02 hb3
    clear d2 hb3 q0 q1 q2 q3 q4 q5 q6
    by_cases hf : Rf = 0
    · subst hf
      have cf := fun W => tfits_any Rk 1 W
      obtain ⟨z, hz⟩ : ∃ z, (Rk == 1 || Rk == 0) = z := ⟨_, rfl⟩
      have HR2 : Hid (RR = if z = true then 0 else 2) := Lib.hid (by
        rw [HR.out, if_neg (by decide), if_neg (by decide), ← hz]
        simp only [Bool.or_eq_true, beq_iff_eq])
      rw [hz] at cf
      clear hz HR
      cases z
      · go_wp2_with fail
        refine (cf w3).mono ?_
        rintro e w4 ⟨rfl, rfl⟩
        clear cf
        go_wp2_with fail
        go_ret
        exact ⟨by rw [HR2.out]; rfl, hb03⟩
      · go_wp2_with fail
        refine (cf w3).mono ?_
        rintro e w4 ⟨rfl, rfl⟩
        clear cf
        go_wp2_with fail
        go_ret
        exact ⟨by rw [HR2.out]; rfl, hb03⟩
    · have hf2 : (Rf == 0) = false := by simpa using hf
      have HR2 : Hid (RR = Rf) := Lib.hid (by rw [HR.out, if_neg (by decide), if_pos hf])
      clear HR hf
      go_wp2_with fail
      go_ret
      exact ⟨by rw [HR2.out]; rfl, hb03⟩
  · have d2 := c2 w2 hb02
    have HR2 : Hid (RR = CC) := Lib.hid (by rw [HR.out, if_pos rfl])
    clear c1 c2 HR q0 q1 q2 q3 q4 q5 q6
    go_wp2_with fail
    refine d2.mono ?_
    rintro e w3 ⟨rfl, hb3⟩
    have hb03 := below_two hb02 hb3
    clear d2 hb3
    go_wp2_with fail
    go_ret
    exact ⟨by rw [HR2.out]; rfl, hb03⟩
set_option maxHeartbeats 8000000 in
theorem conditionFault_any (t : T) (ao : Option Addr) (cap : Nat) (cs : List Cl) (aoc : Option Addr) (capc : Nat) (w : World) (hX : XEnv w) (hl : t.kids.length ≤ cap) (hm : cap ≤ 9223372036854775807 ∧ (ao = none → cap = 0)) (hA : AtT w t ao) (hlc : cs.length ≤ capc) (hmc : capc ≤ 9223372036854775807) (hC : Cols w aoc cs) :
    Calls Tryz.prog 33 #[exprV t ao cap, .slice aoc cs.length capc] w fun e w' => e = .returned (.int .i64 (condR cs t)) ∧ Below w.heap.size w w' := by
  have c1 := fun W (hW : Below w.heap.size w W) => kindOfRef_any t ao cap cs aoc capc W (hX.keep hW) hl hm (hA.keep hW) hlc hmc (hC.keep hW)
  have c2 := fun W (hW : Below w.heap.size w W) => columnsFault_any cs aoc capc W hlc hmc (hC.keep hW)
  have c3 := fun W => (known_any t ao cap W hl hm.1).2
  have hrng := kindsR_rng cs t
  have hR : condR cs t = if noX t = true then colsR cs else if (kindsR cs t).f ≠ 0 then (kindsR cs t).f else if (kindsR cs t).k = 1 ∨ (kindsR cs t).k = 0 then 0 else 2 := rfl
  have HR := Lib.hid hR
  generalize condR cs t = RR at *
  generalize noX t = Z at *
  simp only [exprV_agg] at c1 c3 ⊢
  generalize kindsR cs t = R at *
  obtain ⟨Rk, Rn, Rf⟩ := R
  generalize colsR cs = CC at *
  generalize t.kids.length = L at *
  generalize t.nd = nd at *
  generalize cs.length = m at *
  obtain ⟨op, k, i, b, s, nm⟩ := nd
  simp only at c1 c3 HR hrng ⊢
  have HRNG := Lib.hid hrng
  generalize str s = S at *
  generalize str nm = N at *
  have hz := Blk.new w #[.int .i64 op, .int .i64 k, .int .i64 i, .int .u64 b, .string S, .string N, .slice ao L cap] 27
  have hb0 : Below w.heap.size w (w.alloc (.cells #[.int .i64 op, .int .i64 k, .int .i64 i, .int .u64 b, .string S, .string N, .slice ao L cap] 27)) := (Below.refl _ _).alloc (Nat.le_refl _) _
  generalize hw1 : w.alloc (.cells #[.int .i64 op, .int .i64 k, .int .i64 i, .int .u64 b, .string S, .string N, .slice ao L cap] 27) = w1 at hz hb0
  have HW1 := Lib.hid hw1
  have d1 := c3 w1
  obtain ⟨p0, p1, p2, p3, p4, p5, p6⟩ := hz.seven
  clear hA hX hl hm hlc hmc hC c3 hR hw1 hrng
  go_enter Tryz.func33, Tryz.ntmps33
  go_upto_region 1 with fail
  rw [HW1.out]
  go_wp2_with fail
  refine d1.mono ?_
  rintro e w2 ⟨rfl, hb2⟩
  have hb02 := below_two hb0 hb2
  have hz2 := hz.call hb2
  obtain ⟨q0, q1, q2, q3, q4, q5, q6⟩ := hz2.seven
  clear d1 hb2 hb0 p0 p1 p2 p3 p4 p5 p6 hz
  cases Z
  · have d2 := c1 w2 hb02
    clear c1 c2
    go_wp2_with fail
    refine d2.mono ?_
    rintro e w3 ⟨rfl, hb3⟩
    have hb03 := below_two hb02 hb3
    clear d2 hb3 q0 q1 q2 q3 q4 q5 q6
    by_cases hf : Rf = 0
    · subst hf
      have hr := HRNG.out rfl
      by_cases hk : (1 : Int) < Rk
      · have HR2 : Hid (RR = 2) := Lib.hid (by rw [HR.out, if_neg (by decide), if_neg (by decide), if_neg (by omega)])
        clear HR hr
        go_wp2_with fail
        go_ret
        exact ⟨by rw [HR2.out]; rfl, hb03⟩
      · have HR2 : Hid (RR = 0) := Lib.hid (by rw [HR.out, if_neg (by decide), if_neg (by decide), if_pos (by omega)])
        clear HR hr
        go_wp2_with fail
        go_ret
        exact ⟨by rw [HR2.out]; rfl, hb03⟩
    · have hf2 : (Rf != 0) = true := by simpa using hf
      have HR2 : Hid (RR = Rf) := Lib.hid (by rw [HR.out, if_neg (by decide), if_pos hf])
      clear HR
      go_wp2_with fail
      go_ret
      exact ⟨by rw [HR2.out]; rfl, hb03⟩
  · have d2 := c2 w2 hb02
    have HR2 : Hid (RR = CC) := Lib.hid (by rw [HR.out, if_pos rfl])
    clear c1 c2 HR q0 q1 q2 q3 q4 q5 q6
    go_wp2_with fail
    refine d2.mono ?_
    rintro e w3 ⟨rfl, hb3⟩
    have hb03 := below_two hb02 hb3
    clear d2 hb3
    go_wp2_with fail
    go_ret
    exact ⟨by rw [HR2.out]; rfl, hb03⟩
end Go.Proofs.YtfedlchncngafaaGreatDoor
namespace Go.Proofs.YtfedlchncngafaaGreatDoor
open Go.RowKit
set_option linter.unusedVariables false
set_option maxRecDepth 100000

theorem val_any : ∀ n, RvOk n := by
  intro n
  induction n with
  | zero => intro t ao cap cs aoc capc row aor capr w h; have := T.deep_eq t; omega
  | succ n ih =>
    rintro ⟨d, l⟩ ao cap cs aoc capc row aor capr w hdp hF hf hA hE
    obtain ⟨hn, hl⟩ := formT_open d l hf
    obtain ⟨⟨o1, o2⟩, hp, _, hv⟩ := nodeF_open d _ hn
    have hdl : deepL l ≤ n := by simp only [T.deep] at hdp; omega
    simp only [AtT] at hA
    simp only [FitT] at hF
    have hA2 := hA.2
    have hF2 := hF.2
    unfold partsN at hp
    by_cases h12 : d.op = 1 ∨ d.op = 2
    · rw [if_pos h12] at hp
      obtain rfl := List.eq_nil_of_length_eq_zero hp
      rcases h12 with h1 | h2
      · exact val_lit d ao cap cs aoc capc row aor capr w h1
      · exact val_col d ao cap cs aoc capc row aor capr w h2 hE
    rw [if_neg h12] at hp
    by_cases ho : d.op = 3 ∨ d.op = 4 ∨ d.op = 17 ∨ d.op = 18
    · rw [if_pos ho] at hp
      match l, hp, hA2, hdl, hl, hF2 with
      | [u], _, hA2, hdl, hl, hF2 =>
        exact val_one n ih d u ao cap cs aoc capc row aor capr w ho (Nat.le_trans (deepK_mem (j := 0) rfl) hdl) (hF2.mem u (by simp)) (formL_mem _ hl u (by simp)) hA2 hE
    · rw [if_neg ho] at hp
      match l, hp, hA2, hdl, hl, hF2 with
      | [u, v], _, hA2, hdl, hl, hF2 =>
        exact val_two n ih d u v ao cap cs aoc capc row aor capr w (by omega) ⟨Nat.le_trans (deepK_mem (j := 0) rfl) hdl, Nat.le_trans (deepK_mem (l := [u, v]) (j := 1) rfl) hdl⟩ ⟨hF2.mem u (by simp), hF2.mem v (by simp)⟩ ⟨formL_mem _ hl u (by simp), formL_mem _ hl v (by simp)⟩ hA2 hE
end Go.Proofs.YtfedlchncngafaaGreatDoor
namespace Go.Proofs.YtfedlchncngafaaGreatDoor
open Go Go.RowKit
set_option linter.unusedVariables false

section
variable {P : Program} {l : List Oper} {Q : Exit → Act → World → Prop} {a0 : Act}

structure SInv (l : List Oper) (n : Nat) (F : Nat → Value → World → Prop) (C : Array Bool → World → Prop) (a0 : Act) (listed : Array Bool) (a : Act) (w : World) : Prop where
  size : listed.size = l.length
  closed : ∀ i j, listed.getD i false = true → depB l i j = true → listed.getD j false = true
  tail : ∀ t, n ≤ t → t < l.length → listed.getD t true = false
  cls : C listed w
  vals : ∃ vs : Nat → Value, a = fillF (l.take n) vs 0 a0 ∧ (∀ i, i < n → listed.getD i true = true → F i (vs i) w) ∧ (∀ i o, (l.take n)[i]? = some o → listed.getD i true = false → vs i = slotOf a0 o)

theorem wp_region_listed {id : Nat} {w0 : World} (n : Nat) (hm : P.follows .mixedOrders = true) (hB : factB l n = true)
    (F : Nat → Value → World → Prop) (C : Array Bool → World → Prop) (E : World → World → Prop)
    (hF : ∀ i v w w', F i v w → E w w' → F i v w') (h0 : C (Array.replicate l.length false) { w0 with drawn := w0.drawn + 1 })
    (hstep : ∀ i, i < n → ∀ (listed : Array Bool) (vs : Nat → Value) (w : World) (K : Act → World → Prop), C listed w → listed.getD i true = false → (∀ p q, listed.getD p false = true → depB l p q = true → listed.getD q false = true) → (∀ j, depB l i j = true → listed.getD j false = true) →
      (∀ j, listed.getD j false = true → j < n ∧ F j (vs j) w) → (∀ j o, (l.take n)[j]? = some o → listed.getD j false = false → vs j = slotOf a0 o) →
      (∀ v w', F i v w' → E w w' → C (listed.setIfInBounds i true) w' → K ((fillF (l.take n) vs 0 a0).put ((l[i]?).bind (·.dst)) v) w') → wpOp P l.toArray Q i K (fillF (l.take n) vs 0 a0) w)
    (hdone : ∀ (listed : Array Bool) (vs : Nat → Value) (w : World), C listed w → listed.size = l.length ∧ n ≤ l.length → (∀ i, i < n → listed.getD i true = true) → (∀ i, i < n → F i (vs i) w) → wpList P l.toArray Q (l.drop n) (fillF (l.take n) vs 0 a0) w) :
    (Code.region id l.toArray true).wp P Q a0 w0 := by
  simp only [factB, Bool.and_eq_true, decide_eq_true_eq, List.all_eq_true, List.mem_range, Bool.or_eq_true, beq_iff_eq] at hB
  obtain ⟨⟨⟨⟨⟨⟨hone, hn⟩, hlow⟩, hsc⟩, hseq⟩, hcnt⟩, hin⟩ := hB
  have main : ∀ (fuel : Nat) (listed : Array Bool) (a : Act) (w : World), listed.toList.count false = fuel → SInv l n F C a0 listed a w → wpAny P .any l.toArray Q fuel listed a w := by
    intro fuel
    induction fuel with
    | zero =>
      intro listed a w hc inv
      obtain ⟨vs, ha, hf, -⟩ := inv.vals
      have hall := count_zero hc
      have hln : n = l.length := by
        rcases Nat.lt_or_ge n l.length with h | h
        · have h1 := inv.tail n (Nat.le_refl _) h
          rw [hall n] at h1; cases h1
        · omega
      have hr : Region.ready .any l.toArray listed = [] := by
        apply List.eq_nil_iff_forall_not_mem.2
        intro i hi
        have h1 := (ready_iff.1 hi).1
        rw [hall i] at h1; cases h1
      have hd := hdone listed vs w inv.cls ⟨inv.size, hn⟩ (fun i hi => hall i) (fun i hi => hf i hi (hall i))
      rw [List.drop_of_length_le (by omega)] at hd
      exact ⟨hr, by rw [ha]; exact hd⟩
    | succ fuel ih =>
      intro listed a w hc inv
      obtain ⟨vs, ha, hf, hu⟩ := inv.vals
      by_cases hd : ∃ i, i < n ∧ listed.getD i true = false
      · -- the head is not complete
        have hleast : ∃ i, i < n ∧ i ∈ Region.ready .any l.toArray listed := by
          obtain ⟨i, hi⟩ := hd
          induction i using Nat.strongRecOn with
          | _ i ihi =>
            by_cases hall : ∀ j, depB l i j = true → listed.getD j false = true
            · exact ⟨i, hi.1, ready_iff.2 ⟨hi.2, by omega, hall⟩⟩
            · simp only [Classical.not_forall] at hall
              obtain ⟨j, hj, hlj⟩ := hall
              obtain ⟨o, ho, e, he, hb, hon⟩ := Region.waitsFor_spec hj
              have hjl : j < l.length := by
                have h1 := hin i (by omega)
                have ho' : l[i]? = some o := by simpa using ho
                rw [ho'] at h1
                simp only [Option.map_some, Option.getD_some, Array.all_eq_true'] at h1
                have h2 := h1 e he
                rw [hb] at h2
                simp only [Bool.not_true, Bool.false_or, decide_eq_true_eq] at h2
                omega
              have hji : j < i := by
                have h1 := hlow i (by omega) j hjl
                rcases h1 with h1 | h1
                · rw [hj] at h1; cases h1
                · exact h1
              have hlj' : listed.getD j true = false := by
                have : listed.getD j false = false := by cases h : listed.getD j false <;> simp_all
                exact getD_in (by rw [inv.size]; exact hjl) this
              exact ihi j hji ⟨by omega, hlj'⟩
        refine ⟨fun hr => ?_, fun i hi => ?_⟩
        · obtain ⟨i, _, hi⟩ := hleast
          rw [hr] at hi; cases hi
        · obtain ⟨hiun, hil, hideps⟩ := ready_iff.1 hi
          have hin' : i < n := by
            rcases Nat.lt_or_ge i n with h | h
            · exact h
            · rcases hsc with h1 | h1
              · omega
              · obtain ⟨⟨h2, h3⟩, h4⟩ := h1
                obtain ⟨k, hk, hkun⟩ := hd
                have hinv : HeadInv .any l.toArray n listed := ⟨by simpa using inv.size, fun j oj hj hl e he hb => inv.closed j e.on hl (depB_of (by simpa using hj) he hb), fun t ht ht' => inv.tail t ht (by simpa using ht')⟩
                exact absurd hi (tail_waits h3 h4 (by simpa using h2) hinv _ k rfl hk hkun i h)
          obtain ⟨o, ho⟩ : ∃ o, l[i]? = some o := ⟨_, List.getElem?_eq_getElem hil⟩
          have hot : (l.take n)[i]? = some o := by rw [List.getElem?_take_of_lt hin']; exact ho
          subst ha
          have hjn : ∀ j, listed.getD j false = true → j < n := fun j hj => by
            rcases Nat.lt_or_ge j n with h | h
            · exact h
            · rcases Nat.lt_or_ge j l.length with h' | h'
              · have h2 := inv.tail j h h'
                rw [getD_both h2] at hj; cases hj
              · have : listed.getD j false = false := by simp [Array.getElem?_eq_none (show listed.size ≤ j by rw [inv.size]; exact h')]
                rw [this] at hj; cases hj
          refine hstep i hin' listed vs w _ inv.cls hiun inv.closed hideps (fun j hj => ⟨hjn j hj, ?_⟩) (fun j p hp hw => ?_) (fun v w' hv he hcs => ?_)
          · refine hf j (hjn j hj) ?_
            cases h3 : listed.getD j true with
            | true => rfl
            | false => rw [getD_both h3] at hj; cases hj
          · refine hu j p hp (getD_in ?_ hw)
            have := (List.getElem?_eq_some_iff.1 hp).1
            rw [inv.size]
            simp at this; omega
          · rw [ho]
            simp only [Option.bind_some]
            rw [fillF_put (l.take n) vs 0 a0 i o v hot hone, Nat.zero_add]
            refine ih _ _ _ ?_ ⟨by simp [inv.size], fun p q hp hq => ?_, fun t ht ht' => by rw [getD_set_ne true (by omega)]; exact inv.tail t ht ht', hcs, upd vs i v, rfl, fun p hp hlp => ?_, fun p q hp hlp => ?_⟩
            · have := count_set listed i hiun
              omega
            · by_cases hip : i = p
              · subst hip
                exact getD_set_true (hideps q hq)
              · rw [getD_set_ne false hip] at hp
                exact getD_set_true (inv.closed p q hp hq)
            · by_cases hip : p = i
              · subst hip
                have : upd vs p v p = v := by simp [upd]
                rw [this]; exact hv
              · rw [getD_set_ne true (Ne.symm hip)] at hlp
                have : upd vs i v p = vs p := by simp [upd, hip]
                rw [this]
                exact hF p _ w w' (hf p hp hlp) he
            · by_cases hip : p = i
              · subst hip
                have hlt : p < listed.size := by rw [inv.size]; exact hil
                simp [hlt] at hlp
              · rw [getD_set_ne true (Ne.symm hip)] at hlp
                have : upd vs i v p = vs p := by simp [upd, hip]
                rw [this]
                exact hu p q hp hlp
      · -- the head is complete: the tail is forced
        have hall : ∀ i, i < n → listed.getD i true = true := by
          intro i hi
          cases h : listed.getD i true with
          | true => rfl
          | false => exact absurd ⟨i, hi, h⟩ hd
        have hstart : listed = startAt l.length n := by
          apply Array.ext
          · simp [startAt, inv.size]
          · intro i h1 h2
            have hil : i < l.length := by rw [← inv.size]; exact h1
            have e : (startAt l.length n)[i] = decide (i < n) := by simp [startAt]
            rw [e]
            rcases Nat.lt_or_ge i n with h | h
            · have := hall i h
              simp [h1] at this
              simp [this, h]
            · have := inv.tail i h hil
              simp [h1] at this
              simp [this]; omega
        have hd := hdone listed vs w inv.cls ⟨inv.size, hn⟩ (fun i hi => hall i hi) (fun i hi => hf i hi (hall i hi))
        have hfu : fuel + 1 = (l.drop n).length := by rw [← hc, hstart]; exact hcnt
        rw [hfu, ha, hstart]
        exact wpAny_of_seq (l.drop n) n _ _ w (fun j => by simp [List.getElem?_drop]) hseq hd
  refine wp_region_any hm (main _ _ _ _ (by simp) ⟨by simp, fun i j h _ => (by rw [getD_replicate_false] at h; cases h), fun t _ ht => getD_in (by simpa using ht) (getD_replicate_false _ _), (by simpa using h0), fun i => (match (l.take n)[i]? with | some o => slotOf a0 o | none => undef), ?_, fun i hi h => ?_, fun i o ho _ => (by show (match (l.take n)[i]? with | some o => slotOf a0 o | none => undef) = _; rw [ho])⟩)
  · refine (fillF_self (l.take n) 0 a0 _ (fun k o ho => ?_)).symm
    rw [Nat.zero_add, ho]
  · have : (Array.replicate l.toArray.size false).getD i true = false := getD_in (by simp; omega) (getD_replicate_false _ _)
    rw [this] at h; cases h

/-- Operations each of which waits for the one ahead. -/
def chainK (l : List Oper) : List Nat → Bool
  | a :: b :: r => pathB l 4 b a && chainK l (b :: r)
  | _ => true
def cntK (ks : List Nat) (listed : Array Bool) : Nat := (ks.filter fun k => listed.getD k false).length
theorem none_after {listed : Array Bool} (hcl : ∀ p q, listed.getD p false = true → depB l p q = true → listed.getD q false = true) : ∀ (post : List Nat) (k : Nat), chainK l (k :: post) = true → listed.getD k false = false → ∀ x ∈ post, listed.getD x false = false
  | [], k, _, _, x, hx => by cases hx
  | b :: r, k, hc, hk, x, hx => by
    simp only [chainK, Bool.and_eq_true] at hc
    have hb : listed.getD b false = false := by
      cases h : listed.getD b false with
      | false => rfl
      | true => rw [path_listed hcl 4 b k h hc.1] at hk; cases hk
    rcases List.mem_cons.1 hx with rfl | hx
    · exact hb
    · exact none_after hcl r b hc.2 hb x hx
theorem all_before {listed : Array Bool} (hcl : ∀ p q, listed.getD p false = true → depB l p q = true → listed.getD q false = true) (k : Nat) (hd : ∀ j, depB l k j = true → listed.getD j false = true) (post : List Nat) : ∀ (pre : List Nat), chainK l (pre ++ k :: post) = true → ∀ x ∈ pre, listed.getD x false = true
  | [], _, x, hx => by cases hx
  | [a], hc, x, hx => by
    simp only [List.cons_append, List.nil_append, chainK, Bool.and_eq_true] at hc
    obtain rfl : x = a := by simpa using hx
    exact path_ready hcl hd 4 x hc.1
  | a :: b :: r, hc, x, hx => by
    simp only [List.cons_append, chainK, Bool.and_eq_true] at hc
    have ih := all_before hcl k hd post (b :: r) hc.2
    rcases List.mem_cons.1 hx with rfl | hx
    · exact path_listed hcl 4 b x (ih b (by simp)) hc.1
    · exact ih x hx
theorem cnt_at {listed : Array Bool} (hcl : ∀ p q, listed.getD p false = true → depB l p q = true → listed.getD q false = true) (pre post : List Nat) (k : Nat) (hc : chainK l (pre ++ k :: post) = true) (hk : listed.getD k false = false) (hd : ∀ j, depB l k j = true → listed.getD j false = true) : cntK (pre ++ k :: post) listed = pre.length := by
  have h1 := all_before hcl k hd post pre hc
  have hc2 : chainK l (k :: post) = true := by
    have key : ∀ (p : List Nat), chainK l (p ++ k :: post) = true → chainK l (k :: post) = true := fun p => by
      induction p with
      | nil => exact fun h => h
      | cons a p ih =>
        intro h
        refine ih ?_
        cases p with
        | nil => simp only [List.cons_append, List.nil_append, chainK, Bool.and_eq_true] at h; exact h.2
        | cons b r => simp only [List.cons_append, chainK, Bool.and_eq_true] at h; exact h.2
    exact key pre hc
  have h2 := none_after hcl post k hc2 hk
  unfold cntK
  rw [List.filter_append, List.filter_eq_self.2 (fun x hx => h1 x hx), List.filter_cons_of_neg (by rw [hk]; decide), List.filter_eq_nil_iff.2 (fun x hx => by rw [h2 x hx]; decide), List.append_nil]
theorem cnt_call {listed : Array Bool} (hcl : ∀ p q, listed.getD p false = true → depB l p q = true → listed.getD q false = true) (pre post : List Nat) (k : Nat) (hc : chainK l (pre ++ k :: post) = true) (hn : (pre ++ k :: post).Nodup) (hun : listed.getD k true = false) (hk : listed.getD k false = false) (hd : ∀ j, depB l k j = true → listed.getD j false = true) : cntK (pre ++ k :: post) (listed.setIfInBounds k true) = pre.length + 1 := by
  have h0 := cnt_at hcl pre post k hc hk hd
  have hlt : k < listed.size := by
    rcases Nat.lt_or_ge k listed.size with h | h
    · exact h
    · simp [Array.getElem?_eq_none h] at hun
  have hkk : (listed.setIfInBounds k true).getD k false = true := by simp [hlt]
  have hnp : k ∉ pre ∧ k ∉ post := by
    rw [List.nodup_append] at hn
    refine ⟨fun h => hn.2.2 k h k (by simp) rfl, (List.nodup_cons.1 hn.2.1).1⟩
  have e : ∀ L : List Nat, k ∉ L → L.filter (fun x => (listed.setIfInBounds k true).getD x false) = L.filter (fun x => listed.getD x false) := fun L hL => List.filter_congr fun x hx => by
    have hne : k ≠ x := fun h => hL (by rw [h]; exact hx)
    rw [getD_set_ne false hne]
  unfold cntK at *
  rw [List.filter_append, List.filter_cons_of_pos (by simpa using hkk), e pre hnp.1, e post hnp.2]
  rw [List.filter_append, List.filter_cons_of_neg (by rw [hk]; decide)] at h0
  simp only [List.length_append, List.length_cons] at h0 ⊢
  omega
theorem cnt_other {listed : Array Bool} (ks : List Nat) (i : Nat) (hi : i ∉ ks) : cntK ks (listed.setIfInBounds i true) = cntK ks listed := by
  unfold cntK
  refine congrArg List.length (List.filter_congr fun x hx => ?_)
  have hne : i ≠ x := fun h => hi (by rw [h]; exact hx)
  rw [getD_set_ne false hne]
theorem wp_region_state {id : Nat} {w0 : World} (n : Nat) (ks : List Nat) (hm : P.follows .mixedOrders = true) (hB : factB l n = true) (hK : (chainK l ks && decide ks.Nodup && ks.all (fun k => decide (k < n))) = true)
    (F : Nat → Value → World → Prop) (St : Nat → World → Prop) (E : World → World → Prop)
    (hF : ∀ i v w w', F i v w → E w w' → F i v w') (h0 : St 0 { w0 with drawn := w0.drawn + 1 })
    (hstep : ∀ i, i < n → i ∉ ks → ∀ (s : Nat) (vs : Nat → Value) (a : Act) (w : World) (K : Act → World → Prop), a = fillF (l.take n) vs 0 a0 → St s w → (∀ j, depB l i j = true → F j (vs j) w) → (∀ j o, (l.take n)[j]? = some o → (j = i ∨ depB l j i = true) → vs j = slotOf a0 o) →
      (∀ v w', F i v w' → E w w' → St s w' → K (a.put ((l[i]?).bind (·.dst)) v) w') → wpOp P l.toArray Q i K a w)
    (hcall : ∀ s i, ks[s]? = some i → ∀ (vs : Nat → Value) (a : Act) (w : World) (K : Act → World → Prop), a = fillF (l.take n) vs 0 a0 → St s w → (∀ j, depB l i j = true → F j (vs j) w) →
      (∀ v w', F i v w' → E w w' → St (s + 1) w' → K (a.put ((l[i]?).bind (·.dst)) v) w') → wpOp P l.toArray Q i K a w)
    (hdone : ∀ (vs : Nat → Value) (a : Act) (w : World), a = fillF (l.take n) vs 0 a0 → St ks.length w → (∀ i, i < n → F i (vs i) w) → wpList P l.toArray Q (l.drop n) a w) :
    (Code.region id l.toArray true).wp P Q a0 w0 := by
  simp only [Bool.and_eq_true, decide_eq_true_eq, List.all_eq_true] at hK
  obtain ⟨⟨hch, hnd⟩, hlt⟩ := hK
  have e0 : cntK ks (Array.replicate l.length false) = 0 := by
    unfold cntK
    rw [List.filter_eq_nil_iff.2 (fun x hx => by rw [getD_replicate_false]; decide)]; rfl
  refine wp_region_listed n hm hB F (fun listed w => St (cntK ks listed) w) E hF (by show St (cntK ks _) _; rw [e0]; exact h0) (fun i hi listed vs w K hc hun hcl hdeps hf hu hk => ?_) (fun listed vs w hc hsz hall hf => ?_)
  · have hdep : ∀ j, depB l i j = true → F j (vs j) w := fun j hj => (hf j (hdeps j hj)).2
    by_cases hin : i ∈ ks
    · obtain ⟨pre, post, rfl⟩ := List.append_of_mem hin
      have hk0 : listed.getD i false = false := getD_both hun
      have e1 := cnt_at hcl pre post i hch hk0 hdeps
      have e2 := cnt_call hcl pre post i hch hnd hun hk0 hdeps
      rw [e1] at hc
      refine hcall pre.length i (by simp) vs _ w K rfl hc hdep fun v w' h1 h2 h3 => hk v w' h1 h2 ?_
      rw [e2]; exact h3
    · refine hstep i hi hin _ vs _ w K rfl hc hdep (fun j p hp hw => hu j p hp (by
        rcases hw with rfl | hw
        · exact getD_both hun
        · cases h3 : listed.getD j false with
          | false => rfl
          | true =>
            have := hcl j i h3 hw
            rw [getD_both hun] at this; cases this)) fun v w' h1 h2 h3 => hk v w' h1 h2 ?_
      rw [cnt_other ks i hin]; exact h3
  · refine hdone vs _ w rfl ?_ hf
    have : cntK ks listed = ks.length := by
      unfold cntK
      rw [List.filter_eq_self.2 (fun x hx => by
        have := hall x (hlt x hx)
        cases h : listed.getD x false with
        | true => rfl
        | false =>
          exfalso
          rw [getD_in (by have := hlt x hx; omega) h] at this; cases this)]
    rw [← this]; exact hc
end
end Go.Proofs.YtfedlchncngafaaGreatDoor

/-! A RULE for drawn regions some of whose operations, chained one behind the other, change memory; all others only read: a fact for each operation's slot, the state by how many of the chained ones are done, and a step for each of these. CONDITIONS: the theorem's own hypotheses. -/
namespace Go.Proofs.YtfedlchncngafaaGreatDoor
open Go Go.RowKit
set_option linter.unusedVariables false

section
variable {P : Program} {l : List Oper} {Q : Exit → Act → World → Prop} {a0 : Act}

theorem wp_region_listedE {id : Nat} {w0 : World} (n : Nat) (hm : P.follows .mixedOrders = true) (hB : factB l n = true)
    (F : Nat → Value → World → Prop) (C : Array Bool → World → Prop) (E : Nat → World → World → Prop)
    (hF : ∀ i j v w w', i < n → j < n → j ≠ i → pathB l 4 j i = false → F j v w → E i w w' → F j v w') (h0 : C (Array.replicate l.length false) { w0 with drawn := w0.drawn + 1 })
    (hstep : ∀ i, i < n → ∀ (listed : Array Bool) (vs : Nat → Value) (w : World) (K : Act → World → Prop), C listed w → listed.getD i true = false → (∀ p q, listed.getD p false = true → depB l p q = true → listed.getD q false = true) → (∀ j, depB l i j = true → listed.getD j false = true) →
      (∀ j, listed.getD j false = true → j < n ∧ F j (vs j) w) → (∀ j o, (l.take n)[j]? = some o → listed.getD j false = false → vs j = slotOf a0 o) →
      (∀ v w', F i v w' → E i w w' → C (listed.setIfInBounds i true) w' → K ((fillF (l.take n) vs 0 a0).put ((l[i]?).bind (·.dst)) v) w') → wpOp P l.toArray Q i K (fillF (l.take n) vs 0 a0) w)
    (hdone : ∀ (listed : Array Bool) (vs : Nat → Value) (w : World), C listed w → listed.size = l.length ∧ n ≤ l.length → (∀ i, i < n → listed.getD i true = true) → (∀ i, i < n → F i (vs i) w) → wpList P l.toArray Q (l.drop n) (fillF (l.take n) vs 0 a0) w) :
    (Code.region id l.toArray true).wp P Q a0 w0 := by
  simp only [factB, Bool.and_eq_true, decide_eq_true_eq, List.all_eq_true, List.mem_range, Bool.or_eq_true, beq_iff_eq] at hB
  obtain ⟨⟨⟨⟨⟨⟨hone, hn⟩, hlow⟩, hsc⟩, hseq⟩, hcnt⟩, hin⟩ := hB
  have main : ∀ (fuel : Nat) (listed : Array Bool) (a : Act) (w : World), listed.toList.count false = fuel → SInv l n F C a0 listed a w → wpAny P .any l.toArray Q fuel listed a w := by
    intro fuel
    induction fuel with
    | zero =>
      intro listed a w hc inv
      obtain ⟨vs, ha, hf, -⟩ := inv.vals
      have hall := count_zero hc
      have hln : n = l.length := by
        rcases Nat.lt_or_ge n l.length with h | h
        · have h1 := inv.tail n (Nat.le_refl _) h
          rw [hall n] at h1; cases h1
        · omega
      have hr : Region.ready .any l.toArray listed = [] := by
        apply List.eq_nil_iff_forall_not_mem.2
        intro i hi
        have h1 := (ready_iff.1 hi).1
        rw [hall i] at h1; cases h1
      have hd := hdone listed vs w inv.cls ⟨inv.size, hn⟩ (fun i hi => hall i) (fun i hi => hf i hi (hall i))
      rw [List.drop_of_length_le (by omega)] at hd
      exact ⟨hr, by rw [ha]; exact hd⟩
    | succ fuel ih =>
      intro listed a w hc inv
      obtain ⟨vs, ha, hf, hu⟩ := inv.vals
      by_cases hd : ∃ i, i < n ∧ listed.getD i true = false
      · -- the head is not complete
        have hleast : ∃ i, i < n ∧ i ∈ Region.ready .any l.toArray listed := by
          obtain ⟨i, hi⟩ := hd
          induction i using Nat.strongRecOn with
          | _ i ihi =>
            by_cases hall : ∀ j, depB l i j = true → listed.getD j false = true
            · exact ⟨i, hi.1, ready_iff.2 ⟨hi.2, by omega, hall⟩⟩
            · simp only [Classical.not_forall] at hall
              obtain ⟨j, hj, hlj⟩ := hall
              obtain ⟨o, ho, e, he, hb, hon⟩ := Region.waitsFor_spec hj
              have hjl : j < l.length := by
                have h1 := hin i (by omega)
                have ho' : l[i]? = some o := by simpa using ho
                rw [ho'] at h1
                simp only [Option.map_some, Option.getD_some, Array.all_eq_true'] at h1
                have h2 := h1 e he
                rw [hb] at h2
                simp only [Bool.not_true, Bool.false_or, decide_eq_true_eq] at h2
                omega
              have hji : j < i := by
                have h1 := hlow i (by omega) j hjl
                rcases h1 with h1 | h1
                · rw [hj] at h1; cases h1
                · exact h1
              have hlj' : listed.getD j true = false := by
                have : listed.getD j false = false := by cases h : listed.getD j false <;> simp_all
                exact getD_in (by rw [inv.size]; exact hjl) this
              exact ihi j hji ⟨by omega, hlj'⟩
        refine ⟨fun hr => ?_, fun i hi => ?_⟩
        · obtain ⟨i, _, hi⟩ := hleast
          rw [hr] at hi; cases hi
        · obtain ⟨hiun, hil, hideps⟩ := ready_iff.1 hi
          have hin' : i < n := by
            rcases Nat.lt_or_ge i n with h | h
            · exact h
            · rcases hsc with h1 | h1
              · omega
              · obtain ⟨⟨h2, h3⟩, h4⟩ := h1
                obtain ⟨k, hk, hkun⟩ := hd
                have hinv : HeadInv .any l.toArray n listed := ⟨by simpa using inv.size, fun j oj hj hl e he hb => inv.closed j e.on hl (depB_of (by simpa using hj) he hb), fun t ht ht' => inv.tail t ht (by simpa using ht')⟩
                exact absurd hi (tail_waits h3 h4 (by simpa using h2) hinv _ k rfl hk hkun i h)
          obtain ⟨o, ho⟩ : ∃ o, l[i]? = some o := ⟨_, List.getElem?_eq_getElem hil⟩
          have hot : (l.take n)[i]? = some o := by rw [List.getElem?_take_of_lt hin']; exact ho
          subst ha
          have hjn : ∀ j, listed.getD j false = true → j < n := fun j hj => by
            rcases Nat.lt_or_ge j n with h | h
            · exact h
            · rcases Nat.lt_or_ge j l.length with h' | h'
              · have h2 := inv.tail j h h'
                rw [getD_both h2] at hj; cases hj
              · have : listed.getD j false = false := by simp [Array.getElem?_eq_none (show listed.size ≤ j by rw [inv.size]; exact h')]
                rw [this] at hj; cases hj
          refine hstep i hin' listed vs w _ inv.cls hiun inv.closed hideps (fun j hj => ⟨hjn j hj, ?_⟩) (fun j p hp hw => ?_) (fun v w' hv he hcs => ?_)
          · refine hf j (hjn j hj) ?_
            cases h3 : listed.getD j true with
            | true => rfl
            | false => rw [getD_both h3] at hj; cases hj
          · refine hu j p hp (getD_in ?_ hw)
            have := (List.getElem?_eq_some_iff.1 hp).1
            rw [inv.size]
            simp at this; omega
          · rw [ho]
            simp only [Option.bind_some]
            rw [fillF_put (l.take n) vs 0 a0 i o v hot hone, Nat.zero_add]
            refine ih _ _ _ ?_ ⟨by simp [inv.size], fun p q hp hq => ?_, fun t ht ht' => by rw [getD_set_ne true (by omega)]; exact inv.tail t ht ht', hcs, upd vs i v, rfl, fun p hp hlp => ?_, fun p q hp hlp => ?_⟩
            · have := count_set listed i hiun
              omega
            · by_cases hip : i = p
              · subst hip
                exact getD_set_true (hideps q hq)
              · rw [getD_set_ne false hip] at hp
                exact getD_set_true (inv.closed p q hp hq)
            · by_cases hip : p = i
              · subst hip
                have : upd vs p v p = v := by simp [upd]
                rw [this]; exact hv
              · rw [getD_set_ne true (Ne.symm hip)] at hlp
                have : upd vs i v p = vs p := by simp [upd, hip]
                rw [this]
                refine hF i p _ w w' hin' hp hip ?_ (hf p hp hlp) he
                cases hpb : pathB l 4 p i with
                | false => rfl
                | true =>
                  have h3 : listed.getD p false = true := by
                    cases h4 : listed.getD p false with
                    | true => rfl
                    | false =>
                      have h5 := getD_in (show p < listed.size by rw [inv.size]; omega) h4
                      rw [hlp] at h5; cases h5
                  have h6 := path_listed inv.closed 4 p i h3 hpb
                  rw [getD_both hiun] at h6; cases h6
            · by_cases hip : p = i
              · subst hip
                have hlt : p < listed.size := by rw [inv.size]; exact hil
                simp [hlt] at hlp
              · rw [getD_set_ne true (Ne.symm hip)] at hlp
                have : upd vs i v p = vs p := by simp [upd, hip]
                rw [this]
                exact hu p q hp hlp
      · -- the head is complete: the tail is forced
        have hall : ∀ i, i < n → listed.getD i true = true := by
          intro i hi
          cases h : listed.getD i true with
          | true => rfl
          | false => exact absurd ⟨i, hi, h⟩ hd
        have hstart : listed = startAt l.length n := by
          apply Array.ext
          · simp [startAt, inv.size]
          · intro i h1 h2
            have hil : i < l.length := by rw [← inv.size]; exact h1
            have e : (startAt l.length n)[i] = decide (i < n) := by simp [startAt]
            rw [e]
            rcases Nat.lt_or_ge i n with h | h
            · have := hall i h
              simp [h1] at this
              simp [this, h]
            · have := inv.tail i h hil
              simp [h1] at this
              simp [this]; omega
        have hd := hdone listed vs w inv.cls ⟨inv.size, hn⟩ (fun i hi => hall i hi) (fun i hi => hf i hi (hall i hi))
        have hfu : fuel + 1 = (l.drop n).length := by rw [← hc, hstart]; exact hcnt
        rw [hfu, ha, hstart]
        exact wpAny_of_seq (l.drop n) n _ _ w (fun j => by simp [List.getElem?_drop]) hseq hd
  refine wp_region_any hm (main _ _ _ _ (by simp) ⟨by simp, fun i j h _ => (by rw [getD_replicate_false] at h; cases h), fun t _ ht => getD_in (by simpa using ht) (getD_replicate_false _ _), (by simpa using h0), fun i => (match (l.take n)[i]? with | some o => slotOf a0 o | none => undef), ?_, fun i hi h => ?_, fun i o ho _ => (by show (match (l.take n)[i]? with | some o => slotOf a0 o | none => undef) = _; rw [ho])⟩)
  · refine (fillF_self (l.take n) 0 a0 _ (fun k o ho => ?_)).symm
    rw [Nat.zero_add, ho]
  · have : (Array.replicate l.toArray.size false).getD i true = false := getD_in (by simp; omega) (getD_replicate_false _ _)
    rw [this] at h; cases h

theorem wp_region_chain {id : Nat} {w0 : World} (n : Nat) (ks : List Nat) (hm : P.follows .mixedOrders = true) (hB : factB l n = true) (hK : (chainK l ks && decide ks.Nodup && ks.all (fun k => decide (k < n))) = true)
    (F : Nat → Value → World → Prop) (St : Nat → World → Prop) (E : Nat → World → World → Prop)
    (hF : ∀ s i, ks[s]? = some i → ∀ j v w w', j < n → j ≠ i → pathB l 4 j i = false → F j v w → E s w w' → F j v w') (h0 : St 0 { w0 with drawn := w0.drawn + 1 })
    (hstep : ∀ i, i < n → i ∉ ks → ∀ (s : Nat) (vs : Nat → Value) (a : Act) (w : World) (K : Act → World → Prop), a = fillF (l.take n) vs 0 a0 → St s w → (∀ j, depB l i j = true → F j (vs j) w) → (∀ j o, (l.take n)[j]? = some o → (j = i ∨ depB l j i = true) → vs j = slotOf a0 o) →
      (∀ v, F i v w → K (a.put ((l[i]?).bind (·.dst)) v) w) → wpOp P l.toArray Q i K a w)
    (hcall : ∀ s i, ks[s]? = some i → ∀ (vs : Nat → Value) (a : Act) (w : World) (K : Act → World → Prop), a = fillF (l.take n) vs 0 a0 → St s w → (∀ j, depB l i j = true → F j (vs j) w) →
      (∀ v w', F i v w' → E s w w' → St (s + 1) w' → K (a.put ((l[i]?).bind (·.dst)) v) w') → wpOp P l.toArray Q i K a w)
    (hdone : ∀ (vs : Nat → Value) (a : Act) (w : World), a = fillF (l.take n) vs 0 a0 → St ks.length w → (∀ i, i < n → F i (vs i) w) → wpList P l.toArray Q (l.drop n) a w) :
    (Code.region id l.toArray true).wp P Q a0 w0 := by
  simp only [Bool.and_eq_true, decide_eq_true_eq, List.all_eq_true] at hK
  obtain ⟨⟨hch, hnd⟩, hlt⟩ := hK
  have e0 : cntK ks (Array.replicate l.length false) = 0 := by
    unfold cntK
    rw [List.filter_eq_nil_iff.2 (fun x hx => by rw [getD_replicate_false]; decide)]; rfl
  refine wp_region_listedE n hm hB F (fun listed w => St (cntK ks listed) w) (fun i w w' => (i ∉ ks ∧ w' = w) ∨ ∃ s, ks[s]? = some i ∧ E s w w') (fun i j v w w' hi hj hne hp h he => (by
    rcases he with ⟨_, rfl⟩ | ⟨s, hs, he⟩
    · exact h
    · exact hF s i hs j v w w' hj hne hp h he)) (by show St (cntK ks _) _; rw [e0]; exact h0) (fun i hi listed vs w K hc hun hcl hdeps hf hu hk => ?_) (fun listed vs w hc hsz hall hf => ?_)
  · have hdep : ∀ j, depB l i j = true → F j (vs j) w := fun j hj => (hf j (hdeps j hj)).2
    by_cases hin : i ∈ ks
    · obtain ⟨pre, post, rfl⟩ := List.append_of_mem hin
      have hk0 : listed.getD i false = false := getD_both hun
      have e1 := cnt_at hcl pre post i hch hk0 hdeps
      have e2 := cnt_call hcl pre post i hch hnd hun hk0 hdeps
      rw [e1] at hc
      refine hcall pre.length i (by simp) vs _ w K rfl hc hdep fun v w' h1 h2 h3 => hk v w' h1 (.inr ⟨pre.length, by simp, h2⟩) ?_
      rw [e2]; exact h3
    · refine hstep i hi hin _ vs _ w K rfl hc hdep (fun j p hp hw => hu j p hp (by
        rcases hw with rfl | hw
        · exact getD_both hun
        · cases h3 : listed.getD j false with
          | false => rfl
          | true =>
            have := hcl j i h3 hw
            rw [getD_both hun] at this; cases this)) fun v h1 => hk v w h1 (.inl ⟨hin, rfl⟩) ?_
      show St (cntK ks (listed.setIfInBounds i true)) w
      rw [cnt_other ks i hin]; exact hc
  · refine hdone vs _ w rfl ?_ hf
    have : cntK ks listed = ks.length := by
      unfold cntK
      rw [List.filter_eq_self.2 (fun x hx => by
        have := hall x (hlt x hx)
        cases h : listed.getD x false with
        | true => rfl
        | false =>
          exfalso
          rw [getD_in (by have := hlt x hx; omega) h] at this; cases this)]
    rw [← this]; exact hc
end
end Go.Proofs.YtfedlchncngafaaGreatDoor
namespace Go.Proofs.YtfedlchncngafaaGreatDoor
open Go.RowKit
set_option linter.unusedVariables false
set_option maxRecDepth 100000

theorem eql_yes (k i b : Int) (S : ByteArray) (W : World) : (binOp .eql 24 (.agg #[.int .i64 k, .int .i64 i, .int .u64 b, .string S]) (.agg #[.int .i64 1, .int .i64 1, .int .u64 0, .string ⟨#[]⟩])).run Tryz.prog W = .ok (.bool (k == 1 && (i == 1 && (b == 0 && S.toList.isEmpty)))) W := by
  go_simp
  by_cases h1 : k = 1
  · by_cases h2 : i = 1
    · by_cases h3 : b = 0
      · by_cases h4 : S.toList = []
        · simp [h1, h2, h3, h4]
        · have h5 : S.toList.isEmpty = false := by cases h : S.toList <;> simp_all
          simp [h1, h2, h3, h4, h5]
      · simp [h1, h2, h3]
    · simp [h1, h2]
  · simp [h1]
/-- The one value that is true. -/
def yesV (v : Vl) : Bool := v.k == 1 && (v.i == 1 && (v.b == 0 && v.s.isEmpty))
theorem yes_nul : yesV nulV = false := rfl
def NbE (r : RE) : Prop := r.f ≠ 0 → r.v = nulV
theorem nb_ok (v : Vl) : NbE (okE v) := fun h => absurd rfl h
theorem nb_bad (f : Int) : NbE (badE f) := fun _ => rfl
theorem nb_num (n : Int) : NbE (numE n) := by unfold numE; split; exact nb_ok _; exact nb_bad _
theorem nb_tol (t : Int) : NbE (tolE t) := nb_ok _
theorem nb_op1 (op : Int) (v : Vl) : NbE (op1E op v) := by
  unfold op1E
  split
  · split
    · split
      · exact nb_ok _
      · exact nb_num _
    · exact nb_bad _
  · split
    · split
      · exact nb_tol _
      · exact nb_bad _
    · split
      · exact nb_ok _
      · split
        · split
          · exact nb_ok _
          · exact nb_ok _
        · exact nb_bad _
theorem nb_op2 (op : Int) (a b : Vl) : NbE (op2E op a b) := by
  unfold op2E
  split
  · split
    · split
      · exact nb_ok _
      · unfold arE
        split
        · exact nb_num _
        · split
          · exact nb_num _
          · split
            · exact nb_num _
            · split
              · exact nb_bad _
              · exact nb_num _
    · exact nb_bad _
  · split
    · split
      · exact nb_tol _
      · exact nb_bad _
    · split
      · split
        · exact nb_tol _
        · exact nb_bad _
      · split
        · unfold joiE
          split
          · split
            · exact nb_ok _
            · split
              · exact nb_bad _
              · exact nb_ok _
          · exact nb_bad _
        · split
          · exact nb_ok _
          · unfold cmpE
            split
            · exact nb_ok _
            · split
              · exact nb_ok _
              · exact nb_bad _
theorem nb_comb (op : Int) (l : List RE) : NbE (combE op l) := by
  unfold combE
  split
  · split
    · exact nb_bad _
    · exact nb_op1 _ _
  · split
    · exact nb_bad _
    · split
      · exact nb_ok _
      · split
        · exact nb_bad _
        · exact nb_op2 _ _ _
  · exact nb_bad _
theorem nb_ev (cs : List Cl) (row : List Vl) (t : T) : NbE (evT cs row t) := by
  cases t
  simp only [evT]
  split
  · exact nb_ok _
  · split
    · unfold colE
      split
      · exact nb_bad _
      · split
        · exact nb_ok _
        · exact nb_bad _
    · exact nb_comb _ _
/-- What a condition is of a row. -/
def holdR (t : T) (cs : List Cl) (row : List Vl) : Bool × Int := if condR cs t ≠ 0 then (false, condR cs t) else if rowR row cs ≠ 0 then (false, rowR row cs) else if noX t = true then (true, 0) else (yesV (evT cs row t).v, (evT cs row t).f)
theorem hold_ev (t : T) (cs : List Cl) (row : List Vl) (h1 : condR cs t = 0) (h2 : noX t = false) (h3 : rowR row cs = 0) : exprR t = 0 ∧ evalR t cs row = evT cs row t := by
  have h0 : exprR t = 0 := by
    unfold condR at h1
    rw [if_neg (by rw [h2]; decide)] at h1
    by_cases hf : (kindsR cs t).f ≠ 0
    · rw [if_pos hf] at h1; exact absurd h1 hf
    · unfold kindsR at hf
      by_cases h : exprR t ≠ 0
      · rw [if_pos h] at hf; exact absurd h hf
      · omega
  refine ⟨h0, ?_⟩
  unfold evalR
  rw [if_neg (by rw [h0]; decide), if_neg (by rw [h3]; decide)]
def TrF (qk qi qb : Int) (QS : ByteArray) (z : Bool) : Nat → Value → World → Prop
  | 0, v, _ => v = .agg #[.int .i64 qk, .int .i64 qi, .int .u64 qb, .string QS]
  | 1, v, _ => v = .agg #[.int .i64 1, .int .i64 1, .int .u64 0, .string ⟨#[]⟩]
  | 2, v, _ => v = .bool z
  | 3, v, _ => v = .bool z
  | _, _, _ => True
set_option maxHeartbeats 16000000 in
theorem holds_any (t : T) (ao : Option Addr) (cap : Nat) (hn0 : ao = none → cap = 0) (cs : List Cl) (aoc : Option Addr) (capc : Nat) (row : List Vl) (aor : Option Addr) (capr : Nat) (w : World) (h : EvIn w t ao cap cs aoc capc row aor capr) :
    Calls Tryz.prog 9 #[exprV t ao cap, .slice aoc cs.length capc, .slice aor row.length capr] w fun e w' => e = .returned (.tuple #[.bool (holdR t cs row).1, .int .i64 (holdR t cs row).2]) ∧ Below w.heap.size w w' := by
  have c1 := fun W (hW : Below w.heap.size w W) => condition_any t ao cap cs aoc capc W (h.keep hW).X h.n1 ⟨h.n2, hn0⟩ (h.keep hW).A h.c1 h.c2 (h.keep hW).C
  have c2 := fun W (hW : Below w.heap.size w W) => row_any row aor capr cs aoc capc W h.v1 h.v2 (h.keep hW).V h.c1 h.c2 (h.keep hW).C (h.keep hW).X.tabs (h.keep hW).X.sw
  have c3 := fun W => (known_any t ao cap W h.n1 h.n2).1
  have c4 := fun W (hW : Below w.heap.size w W) => eval_any t ao cap cs aoc capc row aor capr W (h.keep hW)
  have hev := hold_ev t cs row
  have hnb := nb_ev cs row t
  have hR : holdR t cs row = if condR cs t ≠ 0 then (false, condR cs t) else if rowR row cs ≠ 0 then (false, rowR row cs) else if noX t = true then (true, 0) else (yesV (evT cs row t).v, (evT cs row t).f) := rfl
  have HR := Lib.hid hR
  have HEV := Lib.hid hev
  have HNB := Lib.hid hnb
  have HC4 := Lib.hid c4
  generalize holdR t cs row = RR at *
  generalize condR cs t = CR at *
  generalize rowR row cs = RW at *
  generalize noX t = Z at *
  generalize evalR t cs row = EV at *
  generalize evT cs row t = ET at *
  simp only [exprV_agg] at c1 c3 HC4 ⊢
  generalize t.kids.length = L at *
  generalize exprR t = XR at *
  generalize t.nd = nd at *
  generalize cs.length = m at *
  generalize row.length = mr at *
  obtain ⟨op, k, i, b, s, nm⟩ := nd
  simp only at c1 c3 HC4 ⊢
  generalize str s = S at *
  generalize str nm = N at *
  have hz := Blk.new w #[.int .i64 op, .int .i64 k, .int .i64 i, .int .u64 b, .string S, .string N, .slice ao L cap] 27
  have hb0 : Below w.heap.size w (w.alloc (.cells #[.int .i64 op, .int .i64 k, .int .i64 i, .int .u64 b, .string S, .string N, .slice ao L cap] 27)) := (Below.refl _ _).alloc (Nat.le_refl _) _
  generalize hw1 : w.alloc (.cells #[.int .i64 op, .int .i64 k, .int .i64 i, .int .u64 b, .string S, .string N, .slice ao L cap] 27) = w1 at hz hb0
  have HW1 := Lib.hid hw1
  have d1 := c1 w1 hb0
  obtain ⟨p0, p1, p2, p3, p4, p5, p6⟩ := hz.seven
  clear h c1 c4 hn0 hR hw1 hev hnb
  go_enter Tryz.func9, Tryz.ntmps9
  go_upto_region 1 with fail
  rw [HW1.out]
  go_wp2_with fail
  refine d1.mono ?_
  rintro e w2 ⟨rfl, hb2⟩
  have hb02 := below_two hb0 hb2
  have hz2 := hz.call hb2
  clear d1 hb2 hb0 p0 p1 p2 p3 p4 p5 p6 hz
  by_cases hc : CR = 0
  · subst hc
    have d2 := c2 w2 hb02
    clear c2
    go_wp2_with fail
    refine d2.mono ?_
    rintro e w3 ⟨rfl, hb3⟩
    have hb03 := below_two hb02 hb3
    have hz3 := hz2.call hb3
    obtain ⟨q0, q1, q2, q3, q4, q5, q6⟩ := hz3.seven
    clear d2 hb3 hb02 hz2
    by_cases hr : RW = 0
    · subst hr
      have d3 := c3 w3
      clear c3
      go_wp2_with fail
      refine d3.mono ?_
      rintro e w4 ⟨rfl, hb4⟩
      have hb04 := below_two hb03 hb4
      have hz4 := hz3.call hb4
      clear d3 hb4 hb03 hz3 q0 q1 q2 q3 q4 q5 q6
      obtain ⟨q0, q1, q2, q3, q4, q5, q6⟩ := hz4.seven
      cases Z
      · obtain ⟨h1, h2⟩ := HEV.out (by trivial) (by trivial) (by trivial)
        have d4 := HC4.out w4 hb04
        have HR2 : Hid (RR = (yesV ET.v, ET.f)) := Lib.hid (by rw [HR.out, if_neg (by decide), if_neg (by decide), if_neg (by decide)])
        clear HR HEV
        subst h2
        obtain ⟨⟨qk, qi, qb, qs⟩, qf⟩ := EV
        unfold valV at d4
        simp only at d4
        have hy : ∀ W, (binOp .eql 24 (.agg #[.int .i64 qk, .int .i64 qi, .int .u64 qb, .string (str qs)]) (.agg #[.int .i64 1, .int .i64 1, .int .u64 0, .string ⟨#[]⟩])).run Tryz.prog W = .ok (.bool (yesV ⟨qk, qi, qb, qs⟩)) W := fun W => by
          rw [eql_yes, str_toList]; rfl
        generalize yesV ⟨qk, qi, qb, qs⟩ = z at *
        generalize str qs = QS at *
        clear h1
        go_wp2_with fail
        refine d4.mono ?_
        rintro e w5 ⟨rfl, hb5⟩
        have hb05 := below_two hb04 hb5
        have hb06 := below_two hb05 ((Below.refl w5.heap.size w5).alloc (Nat.le_refl _) (.cells #[.int .i64 qk, .int .i64 qi, .int .u64 qb, .string QS] 24))
        clear d4 hb5 hb04 q0 q1 q2 q3 q4 q5 q6
        go_wp2_with fail
        go_ret2
        exact ⟨by rw [HR2.out]; rfl, hb06⟩
      · have HR2 : Hid (RR = (true, 0)) := Lib.hid (by rw [HR.out, if_neg (by decide), if_neg (by decide), if_pos rfl])
        clear HR HEV HC4 q0 q1 q2 q3 q4 q5 q6
        go_wp2_with fail
        go_ret2
        exact ⟨by rw [HR2.out]; rfl, hb04⟩
    · have hr1 : (RW != 0) = true := by simpa using hr
      have HR2 : Hid (RR = (false, RW)) := Lib.hid (by rw [HR.out, if_neg (by decide), if_pos hr])
      clear HR HEV HC4 q0 q1 q2 q3 q4 q5 q6 c3
      go_wp2_with fail
      go_ret2
      exact ⟨by rw [HR2.out]; rfl, hb03⟩
  · have hc1 : (CR != 0) = true := by simpa using hc
    have HR2 : Hid (RR = (false, CR)) := Lib.hid (by rw [HR.out, if_pos hc])
    clear HR HEV HC4 c2 c3
    go_wp2_with fail
    go_ret2
    exact ⟨by rw [HR2.out]; rfl, hb02⟩
set_option maxHeartbeats 16000000 in
theorem true_any (t : T) (ao : Option Addr) (cap : Nat) (hn0 : ao = none → cap = 0) (cs : List Cl) (aoc : Option Addr) (capc : Nat) (row : List Vl) (aor : Option Addr) (capr : Nat) (w : World) (h : EvIn w t ao cap cs aoc capc row aor capr) :
    Calls Tryz.prog 10 #[exprV t ao cap, .slice aoc cs.length capc, .slice aor row.length capr] w fun e w' => e = .returned (.tuple #[.bool (holdR t cs row).1, .int .i64 (holdR t cs row).2]) ∧ Below w.heap.size w w' := by
  have c1 := fun W (hW : Below w.heap.size w W) => conditionFault_any t ao cap cs aoc capc W (h.keep hW).X h.n1 ⟨h.n2, hn0⟩ (h.keep hW).A h.c1 h.c2 (h.keep hW).C
  have c2 := fun W (hW : Below w.heap.size w W) => rowFault_any row aor capr cs aoc capc W h.v1 h.v2 (h.keep hW).V h.c1 h.c2 (h.keep hW).C (h.keep hW).X.tabs
  have c3 := fun W => (known_any t ao cap W h.n1 h.n2).2
  have hFt := atT_fit t.deep t ao (Nat.le_refl _) h.A
  have c4 := fun W (he : exprR t = 0) (hr : rowR row cs = 0) (hW : Below w.heap.size w W) => by
    obtain ⟨hok, hc0, hlen⟩ := rowR_ok row cs h.V.1 hr
    exact val_any t.deep t ao cap cs aoc capc row aor capr W (Nat.le_refl _) hFt (exprR_form t he) (h.keep hW).A ⟨(h.keep hW).C, (h.keep hW).V, hc0, Nat.le_trans h.c1 h.c2, hlen, hok⟩
  have hev := hold_ev t cs row
  have hnb := nb_ev cs row t
  have hR : holdR t cs row = if condR cs t ≠ 0 then (false, condR cs t) else if rowR row cs ≠ 0 then (false, rowR row cs) else if noX t = true then (true, 0) else (yesV (evT cs row t).v, (evT cs row t).f) := rfl
  have HR := Lib.hid hR
  have HEV := Lib.hid hev
  have HNB := Lib.hid hnb
  unfold RekOk at c4
  have HC4 := Lib.hid c4
  generalize holdR t cs row = RR at *
  generalize condR cs t = CR at *
  generalize rowR row cs = RW at *
  generalize noX t = Z at *
  generalize evT cs row t = ET at *
  simp only [exprV_agg] at c1 c3 HC4 ⊢
  generalize t.kids.length = L at *
  generalize exprR t = XR at *
  generalize t.nd = nd at *
  generalize cs.length = m at *
  generalize row.length = mr at *
  obtain ⟨op, k, i, b, s, nm⟩ := nd
  simp only at c1 c3 HC4 ⊢
  generalize str s = S at *
  generalize str nm = N at *
  have hz := Blk.new w #[.int .i64 op, .int .i64 k, .int .i64 i, .int .u64 b, .string S, .string N, .slice ao L cap] 27
  have hb0 : Below w.heap.size w (w.alloc (.cells #[.int .i64 op, .int .i64 k, .int .i64 i, .int .u64 b, .string S, .string N, .slice ao L cap] 27)) := (Below.refl _ _).alloc (Nat.le_refl _) _
  generalize hw1 : w.alloc (.cells #[.int .i64 op, .int .i64 k, .int .i64 i, .int .u64 b, .string S, .string N, .slice ao L cap] 27) = w1 at hz hb0
  have HW1 := Lib.hid hw1
  have d1 := c1 w1 hb0
  obtain ⟨p0, p1, p2, p3, p4, p5, p6⟩ := hz.seven
  clear h c1 c4 hn0 hR hw1 hev hnb
  go_enter Tryz.func10, Tryz.ntmps10
  go_upto_region 1 with fail
  rw [HW1.out]
  go_wp2_with fail
  refine d1.mono ?_
  rintro e w2 ⟨rfl, hb2⟩
  have hb02 := below_two hb0 hb2
  have hz2 := hz.call hb2
  clear d1 hb2 hb0 p0 p1 p2 p3 p4 p5 p6 hz
  by_cases hc : CR = 0
  · subst hc
    have d2 := c2 w2 hb02
    clear c2
    go_wp2_with fail
    refine d2.mono ?_
    rintro e w3 ⟨rfl, hb3⟩
    have hb03 := below_two hb02 hb3
    have hz3 := hz2.call hb3
    obtain ⟨q0, q1, q2, q3, q4, q5, q6⟩ := hz3.seven
    clear d2 hb3 hb02 hz2
    by_cases hr : RW = 0
    · subst hr
      have d3 := c3 w3
      clear c3
      go_wp2_with fail
      refine d3.mono ?_
      rintro e w4 ⟨rfl, hb4⟩
      have hb04 := below_two hb03 hb4
      have hz4 := hz3.call hb4
      clear d3 hb4 hb03 hz3 q0 q1 q2 q3 q4 q5 q6
      obtain ⟨q0, q1, q2, q3, q4, q5, q6⟩ := hz4.seven
      cases Z
      · obtain ⟨h1, h2⟩ := HEV.out (by trivial) (by trivial) (by trivial)
        have d4 := HC4.out w4 h1 (by trivial) hb04
        have HR2 : Hid (RR = (yesV ET.v, ET.f)) := Lib.hid (by rw [HR.out, if_neg (by decide), if_neg (by decide), if_neg (by decide)])
        clear HR HEV
        clear h2
        obtain ⟨⟨qk, qi, qb, qs⟩, qf⟩ := ET
        unfold valV at d4
        simp only at d4
        have hy : ∀ W, (binOp .eql 24 (.agg #[.int .i64 qk, .int .i64 qi, .int .u64 qb, .string (str qs)]) (.agg #[.int .i64 1, .int .i64 1, .int .u64 0, .string ⟨#[]⟩])).run Tryz.prog W = .ok (.bool (yesV ⟨qk, qi, qb, qs⟩)) W := fun W => by
          rw [eql_yes, str_toList]; rfl
        obtain ⟨z, hyz⟩ : ∃ z, yesV ⟨qk, qi, qb, qs⟩ = z := ⟨_, rfl⟩
        have HY := Lib.hid hyz
        rw [hyz] at hy HR2
        clear hyz
        generalize str qs = QS at *
        clear h1
        go_wp2_with fail
        refine d4.mono ?_
        rintro e w5 ⟨rfl, hb5⟩
        have hb05 := below_two hb04 hb5
        have hv : Blk _ _ _ [_, _, _, _] := Blk.new w5 #[.int .i64 qk, .int .i64 qi, .int .u64 qb, .string QS] 24
        have hbv := (Below.refl w5.heap.size w5).alloc (Nat.le_refl _) (.cells #[.int .i64 qk, .int .i64 qi, .int .u64 qb, .string QS] 24)
        obtain ⟨m, hm⟩ : ∃ m, w5.heap.size = m := ⟨_, rfl⟩
        rw [hm] at hv
        obtain ⟨w6, hw6⟩ : ∃ W, w5.alloc (.cells #[.int .i64 qk, .int .i64 qi, .int .u64 qb, .string QS] 24) = W := ⟨_, rfl⟩
        rw [hw6] at hv hbv
        have hb06 := below_two hb05 hbv
        have HB6 := Lib.hid hb06
        have HW6 := Lib.hid hw6
        have HM := Lib.hid hm
        have hvc : ∀ W, Below w6.heap.size w6 W → W.cell? ⟨m, 0, none⟩ = some (.int .i64 qk) ∧ W.cell? ⟨m, 1, none⟩ = some (.int .i64 qi) ∧ W.cell? ⟨m, 2, none⟩ = some (.int .u64 qb) ∧ W.cell? ⟨m, 3, none⟩ = some (.string QS) := fun W hW => by
          have := hv.call hW
          exact ⟨this.cell (j := 0) rfl, this.cell (j := 1) rfl, this.cell (j := 2) rfl, this.cell (j := 3) rfl⟩
        have HC := Lib.hid hvc
        have HBO : Hid (∀ W : World, Calls Tryz.prog 37 #[.int .i64 2] W fun e w' => e = .returned (.agg #[.int .i64 1, .int .i64 1, .int .u64 0, .string ⟨#[]⟩]) ∧ Below W.heap.size W w') := Lib.hid (fun W => rboolOf_any 2 (by decide) W)
        clear d4 hb5 hb04 q0 q1 q2 q3 q4 q5 q6 hw6 hm hv hbv hb05 hvc hb06
        by_cases hqf : qf = 0
        · subst hqf
          go_upto_region 12 with fail
          rw [HW6.out, HM.out]
          refine wp_region_chain 4 [1] (by kernel_rfl) (by kernel_rfl) (by kernel_rfl) (TrF qk qi qb QS z) (fun _ W => Below w6.heap.size w6 W) (fun _ W W' => Below W.heap.size W W') ?hF ?h0 ?hstep ?hcall ?hdone
          case hF =>
            intro s i hs j v W W' hjn hne hpb h he
            rcases (show j = 0 ∨ j = 1 ∨ j = 2 ∨ j = 3 by omega) with rfl | rfl | rfl | rfl
            · exact h
            · exact h
            · exact h
            · exact h
          case h0 => exact Below.drew (Below.refl _ _)
          case hstep =>
            intro j hj hni s vs act W K ha' hst hd hu hK
            simp only [fillF, Act.put, List.take_succ_cons, List.take_zero, List.setIfInBounds_toArray, List.set_cons_zero, List.set_cons_succ] at ha'
            subst ha'
            clear hu
            obtain ⟨q0, q1, q2, q3⟩ := HC.out W hst
            rcases (show j = 0 ∨ j = 1 ∨ j = 2 ∨ j = 3 by omega) with rfl | rfl | rfl | rfl
            · refine wpOp_step rfl (fun K' hK' => ?_)
              go_simp
              exact hK' _ _ (hK _ rfl)
            · exact (hni (by decide)).elim
            · have e0 : vs 0 = .agg #[.int .i64 qk, .int .i64 qi, .int .u64 qb, .string QS] := hd 0 (by kernel_rfl)
              have e1 : vs 1 = .agg #[.int .i64 1, .int .i64 1, .int .u64 0, .string ⟨#[]⟩] := hd 1 (by kernel_rfl)
              simp only [e0, e1] at hK ⊢
              refine wpOp_step rfl (fun K' hK' => ?_)
              go_simp
              exact hK' _ _ (hK _ rfl)
            · have e2 : vs 2 = .bool z := hd 2 (by kernel_rfl)
              simp only [e2] at hK ⊢
              refine wpOp_step rfl (fun K' hK' => ?_)
              go_simp
              exact hK' _ _ (hK _ rfl)
          case hcall =>
            intro s j hs vs act W K ha' hst hd hK
            simp only [fillF, Act.put, List.take_succ_cons, List.take_zero, List.setIfInBounds_toArray, List.set_cons_zero, List.set_cons_succ] at ha'
            subst ha'
            rcases s with _ | s
            · obtain rfl : 1 = j := by simpa using hs
              refine wpOp_step rfl (fun K' hK' => ?_)
              go_simp
              refine (HBO.out W).mono ?_
              rintro e W' ⟨rfl, hbr⟩
              exact hK' _ _ (hK _ _ rfl hbr (below_stepE hst hst.size hbr))
            · simp at hs
          case hdone =>
            intro vs act W7 ha' hst hfs
            simp only [fillF, Act.put, List.take_succ_cons, List.take_zero, List.drop_succ_cons, List.drop_zero, List.setIfInBounds_toArray, List.set_cons_zero, List.set_cons_succ] at ha' ⊢
            subst ha'
            have f3 : vs 3 = .bool z := hfs 3 (by decide)
            simp only [Nat.zero_add, Nat.reduceAdd, f3]
            clear hfs f3
            have hb07 := below_two HB6.out hst
            clear hst
            go_wp2_with fail
            go_ret2
            exact ⟨by rw [HR2.out]; rfl, hb07⟩
        · have hq1 : (qf != 0) = true := by simpa using hqf
          have HZ : Hid (z = false) := Lib.hid (by have := HNB.out hqf; simp only at this; rw [← HY.out, this]; rfl)
          go_wp2_with fail
          go_ret2
          exact ⟨by rw [HR2.out, HZ.out]; rfl, below_two HB6.out (by rw [HW6.out]; exact Below.refl _ _)⟩
      · have HR2 : Hid (RR = (true, 0)) := Lib.hid (by rw [HR.out, if_neg (by decide), if_neg (by decide), if_pos rfl])
        clear HR HEV HC4 q0 q1 q2 q3 q4 q5 q6
        go_wp2_with fail
        go_ret2
        exact ⟨by rw [HR2.out]; rfl, hb04⟩
    · have hr1 : (RW != 0) = true := by simpa using hr
      have HR2 : Hid (RR = (false, RW)) := Lib.hid (by rw [HR.out, if_neg (by decide), if_pos hr])
      clear HR HEV HC4 q0 q1 q2 q3 q4 q5 q6 c3
      go_wp2_with fail
      go_ret2
      exact ⟨by rw [HR2.out]; rfl, hb03⟩
  · have hc1 : (CR != 0) = true := by simpa using hc
    have HR2 : Hid (RR = (false, CR)) := Lib.hid (by rw [HR.out, if_pos hc])
    clear HR HEV HC4 c2 c3
    go_wp2_with fail
    go_ret2
    exact ⟨by rw [HR2.out]; rfl, hb02⟩
end Go.Proofs.YtfedlchncngafaaGreatDoor
namespace Go.Proofs.YtfedlchncngafaaGreatDoor
open Go.RowKit
set_option linter.unusedVariables false
set_option maxRecDepth 100000

set_option maxHeartbeats 8000000 in
theorem tableHolds_walk (t : T) (ao : Option Addr) (cap : Nat) (cs : List Cl) (aoc : Option Addr) (capc : Nat) (row : List Vl) (aor : Option Addr) (capr : Nat) (w : World) (hX : XEnv w) (n1 : t.kids.length ≤ cap) (hm : cap ≤ 9223372036854775807 ∧ (ao = none → cap = 0)) (hA : AtT w t ao)
    (c1 : cs.length ≤ capc) (c2 : capc ≤ 9223372036854775807) (hC : Cols w aoc cs) (v1 : row.length ≤ capr) (v2 : capr ≤ 9223372036854775807) (hV : Vals w aor row) :
    Calls Tryz.prog 3 #[exprV t ao cap, .slice aoc cs.length capc, .slice aor row.length capr] w fun e w' => e = .returned (.bool true) ∧ Below w.heap.size w w' := by
  obtain ⟨n2, n3⟩ := hm
  have h : EvIn w t ao cap cs aoc capc row aor capr := ⟨hA, n1, n2, hC, c1, c2, hV, v1, v2, hX⟩
  have cE := fun W (hW : Below w.heap.size w W) => holds_any t ao cap n3 cs aoc capc row aor capr W (h.keep hW)
  have cR := fun W (hW : Below w.heap.size w W) => true_any t ao cap n3 cs aoc capc row aor capr W (h.keep hW)
  generalize holdR t cs row = R at *
  clear h hX hA hC hV
  obtain ⟨z, f⟩ := R
  simp only [exprV_agg] at cE cR ⊢
  generalize t.kids.length = L at *
  obtain ⟨⟨op, k, i, b, s, nm⟩, l⟩ := t
  simp only [T.nd] at *
  generalize str s = S at *
  generalize str nm = N at *
  generalize cs.length = m at *
  generalize row.length = mr at *
  have z0 := Blk.new w #[.int .i64 op, .int .i64 k, .int .i64 i, .int .u64 b, .string S, .string N, .slice ao L cap] 27
  have hb1 := (Below.refl w.heap.size w).alloc (Nat.le_refl _) (.cells #[.int .i64 op, .int .i64 k, .int .i64 i, .int .u64 b, .string S, .string N, .slice ao L cap] 27)
  generalize hw1 : w.alloc (.cells #[.int .i64 op, .int .i64 k, .int .i64 i, .int .u64 b, .string S, .string N, .slice ao L cap] 27) = w1 at z0 hb1
  have cc := cE w1 hb1
  obtain ⟨p0, p1, p2, p3, p4, p5, p6⟩ := z0.seven
  have e1 : (f == f) = true := by simp
  have e2 : (z == z) = true := by simp
  go_enter Tryz.func3, Tryz.ntmps3
  go_upto_region 1 with fail
  try rw [hw1]
  clear hw1
  go_wp2_with fail
  refine cc.mono ?_
  rintro e w2 ⟨rfl, hb2⟩
  have y0 := z0.call hb2
  have hb02 := below_two hb1 hb2
  have cc := cR w2 hb02
  clear cE cR z0 hb1 hb2 p0 p1 p2 p3 p4 p5 p6
  obtain ⟨p0, p1, p2, p3, p4, p5, p6⟩ := y0.seven
  go_wp2_with fail
  refine cc.mono ?_
  rintro e w3 ⟨rfl, hb3⟩
  have hb03 := below_two hb02 hb3
  clear cc hb3 hb02 y0 p0 p1 p2 p3 p4 p5 p6
  go_wp2_with fail
  go_ret
  exact ⟨by first | rfl | simp, hb03⟩
end Go.Proofs.YtfedlchncngafaaGreatDoor
