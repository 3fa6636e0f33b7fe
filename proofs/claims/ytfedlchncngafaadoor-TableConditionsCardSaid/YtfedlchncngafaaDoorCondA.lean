/-
  CONTRACTS of package table's Condition and of the reference's ConditionFault; the walk of the law 'chirographlaw.TableConditions'.
  CONDITIONS: each theorem's own hypotheses.
-/
import Derived.Test.YtfedlchncngafaaDoorKindF
namespace Go.Proofs.YtfedlchncngafaaDoor
open Go.RowKit
set_option linter.unusedVariables false
set_option maxRecDepth 100000

/-- No expression at all. -/
def noX (t : T) : Bool := t.nd.op == 0 && (t.nd.n.isEmpty && ((t.nd.k == 0 && (t.nd.i == 0 && (t.nd.b == 0 && t.nd.t.isEmpty))) && t.kids.length == 0))
def condR (cs : List Cl) (t : T) : Int := if noX t = true then colsR cs else if (kindsR cs t).f ≠ 0 then (kindsR cs t).f else if (kindsR cs t).k = 1 ∨ (kindsR cs t).k = 0 then 0 else 2
theorem kindsR_rng (cs : List Cl) (t : T) (h : (kindsR cs t).f = 0) : 0 ≤ (kindsR cs t).k ∧ (kindsR cs t).k ≤ 4 := by
  unfold kindsR at h ⊢
  by_cases h1 : exprR t ≠ 0
  · rw [if_pos h1] at h; exact absurd h h1
  · rw [if_neg h1] at h ⊢
    by_cases h2 : colsR cs ≠ 0
    · rw [if_pos h2] at h; exact absurd h h2
    · rw [if_neg h2]
      exact kT_rng cs (colsR_rng cs (by omega)) t (exprR_form t (by omega))
set_option maxHeartbeats 8000000 in
theorem noExprs_any (op k i b : Int) (t nm : List UInt8) (ao : Option Addr) (L cap : Nat) (w : World) (hL : L ≤ cap ∧ cap ≤ 9223372036854775807) (z : Bool) (hz : (op == 0 && (nm.isEmpty && ((k == 0 && (i == 0 && (b == 0 && t.isEmpty))) && L == 0))) = z) :
    (Calls Tryd.prog 40 #[.agg #[.int .i64 op, .int .i64 k, .int .i64 i, .int .u64 b, .string (str t), .string (str nm), .slice ao L cap]] w fun e w' => e = .returned (.bool (!z)) ∧ Below w.heap.size w w') ∧
    (Calls Tryd.prog 43 #[.agg #[.int .i64 op, .int .i64 k, .int .i64 i, .int .u64 b, .string (str t), .string (str nm), .slice ao L cap]] w fun e w' => e = .returned (.bool z) ∧ Below w.heap.size w w') := by
  have hse : (str t).toList.isEmpty = t.isEmpty := by rw [str_toList]
  have hsn : (str nm).toList.isEmpty = nm.isEmpty := by rw [str_toList]
  rw [← hse, ← hsn] at hz
  generalize str nm = N at *
  generalize str t = S at *
  clear hse hsn
  have hLI : (L == 0) = ((L : Int) == 0) := by
    cases h : (L == 0) with
    | true => simp at h; subst h; rfl
    | false => simp at h; exact (beq_eq_false_iff_ne.2 (by omega)).symm
  have hLG : decide ((0 : Int) < (L : Int)) = !((L : Int) == 0) := by
    by_cases h : L = 0
    · subst h; rfl
    · rw [decide_eq_true (by omega), beq_eq_false_iff_ne.2 (by omega)]; rfl
  rw [hLI] at hz
  clear hLI
  by_cases ho : op = 0
  · subst ho
    by_cases hn : N.toList = []
    · have hn1 : N.toList.isEmpty = true := by rw [hn]; rfl
      rw [hn1] at hz
      by_cases hk : k = 0
      · subst hk
        by_cases hi : i = 0
        · subst hi
          by_cases hb : b = 0
          · subst hb
            by_cases hs : S.toList = []
            · have hs1 : S.toList.isEmpty = true := by rw [hs]; rfl
              rw [hs1] at hz
              cases h5 : ((L : Int) == 0)
              all_goals
                rw [h5] at hLG hz
                have hz2 : z = _ := hz.symm
                subst hz2
                clear hz
                constructor
                · go_enter Tryd.func40, Tryd.ntmps40
                  go_wp2_with fail
                  all_goals
                    go_ret
                    exact ⟨by first | rfl | (simp_all; done) | (simp at *; omega), (Below.refl _ _).alloc (Nat.le_refl _) _⟩
                · go_enter Tryd.func43, Tryd.ntmps43
                  go_wp2_with fail
                  all_goals
                    go_ret
                    exact ⟨by first | rfl | (simp_all; done) | (simp at *; omega), (Below.refl _ _).alloc (Nat.le_refl _) _⟩
            · have hs1 : S.toList.isEmpty = false := by cases h : S.toList <;> simp_all
              have hz2 : z = false := by rw [← hz, hs1]; simp
              subst hz2
              clear hz hLG
              constructor
              · go_enter Tryd.func40, Tryd.ntmps40
                go_wp2_with fail
                all_goals
                  go_ret
                  exact ⟨by first | rfl | (simp_all; done) | (simp at *; omega), (Below.refl _ _).alloc (Nat.le_refl _) _⟩
              · go_enter Tryd.func43, Tryd.ntmps43
                go_wp2_with fail
                all_goals
                  go_ret
                  exact ⟨by first | rfl | (simp_all; done) | (simp at *; omega), (Below.refl _ _).alloc (Nat.le_refl _) _⟩
          · have hb1 : (b == 0) = false := by simpa using hb
            have hb2 : (b != 0) = true := by simpa using hb
            have hz2 : z = false := by rw [← hz, hb1]; simp
            subst hz2
            clear hz hLG
            constructor
            · go_enter Tryd.func40, Tryd.ntmps40
              go_wp2_with fail
              all_goals
                go_ret
                exact ⟨by first | rfl | (simp_all; done) | (simp at *; omega), (Below.refl _ _).alloc (Nat.le_refl _) _⟩
            · go_enter Tryd.func43, Tryd.ntmps43
              go_wp2_with fail
              all_goals
                go_ret
                exact ⟨by first | rfl | (simp_all; done) | (simp at *; omega), (Below.refl _ _).alloc (Nat.le_refl _) _⟩
        · have hi1 : (i == 0) = false := by simpa using hi
          have hi2 : (i != 0) = true := by simpa using hi
          have hz2 : z = false := by rw [← hz, hi1]; simp
          subst hz2
          clear hz hLG
          constructor
          · go_enter Tryd.func40, Tryd.ntmps40
            go_wp2_with fail
            all_goals
              go_ret
              exact ⟨by first | rfl | (simp_all; done) | (simp at *; omega), (Below.refl _ _).alloc (Nat.le_refl _) _⟩
          · go_enter Tryd.func43, Tryd.ntmps43
            go_wp2_with fail
            all_goals
              go_ret
              exact ⟨by first | rfl | (simp_all; done) | (simp at *; omega), (Below.refl _ _).alloc (Nat.le_refl _) _⟩
      · have hk1 : (k == 0) = false := by simpa using hk
        have hk2 : (k != 0) = true := by simpa using hk
        have hz2 : z = false := by rw [← hz, hk1]; simp
        subst hz2
        clear hz hLG
        constructor
        · go_enter Tryd.func40, Tryd.ntmps40
          go_wp2_with fail
          all_goals
            go_ret
            exact ⟨by first | rfl | (simp_all; done) | (simp at *; omega), (Below.refl _ _).alloc (Nat.le_refl _) _⟩
        · go_enter Tryd.func43, Tryd.ntmps43
          go_wp2_with fail
          all_goals
            go_ret
            exact ⟨by first | rfl | (simp_all; done) | (simp at *; omega), (Below.refl _ _).alloc (Nat.le_refl _) _⟩
    · have hn1 : N.toList.isEmpty = false := by cases h : N.toList <;> simp_all
      have hz2 : z = false := by rw [← hz, hn1]; simp
      subst hz2
      clear hz hLG
      constructor
      · go_enter Tryd.func40, Tryd.ntmps40
        go_wp2_with fail
        all_goals
          go_ret
          exact ⟨by first | rfl | (simp_all; done) | (simp at *; omega), (Below.refl _ _).alloc (Nat.le_refl _) _⟩
      · go_enter Tryd.func43, Tryd.ntmps43
        go_wp2_with fail
        all_goals
          go_ret
          exact ⟨by first | rfl | (simp_all; done) | (simp at *; omega), (Below.refl _ _).alloc (Nat.le_refl _) _⟩
  · have ho1 : (op == 0) = false := by simpa using ho
    have ho2 : (op != 0) = true := by simpa using ho
    have hz2 : z = false := by rw [← hz, ho1]; simp
    subst hz2
    clear hz hLG
    constructor
    · go_enter Tryd.func40, Tryd.ntmps40
      go_wp2_with fail
      all_goals
        go_ret
        exact ⟨by first | rfl | (simp_all; done) | (simp at *; omega), (Below.refl _ _).alloc (Nat.le_refl _) _⟩
    · go_enter Tryd.func43, Tryd.ntmps43
      go_wp2_with fail
      all_goals
        go_ret
        exact ⟨by first | rfl | (simp_all; done) | (simp at *; omega), (Below.refl _ _).alloc (Nat.le_refl _) _⟩
theorem tfits_any (k a : Int) (w : World) : Calls Tryd.prog 42 #[.int .i64 k, .int .i64 a] w fun e w' => e = .returned (.bool (k == a || k == 0)) ∧ w' = w := by
  cases h1 : (k == a) <;> cases h2 : (k == 0)
  all_goals
    go_enter Tryd.func42, Tryd.ntmps42
    go_wp2_with fail
    go_ret
    exact ⟨by first | rfl | simp [*], rfl⟩
theorem exprV_agg (t : T) (ao : Option Addr) (cap : Nat) : exprV t ao cap = .agg #[.int .i64 t.nd.op, .int .i64 t.nd.k, .int .i64 t.nd.i, .int .u64 t.nd.b, .string (str t.nd.t), .string (str t.nd.n), .slice ao t.kids.length cap] := rfl
theorem known_any (t : T) (ao : Option Addr) (cap : Nat) (w : World) (hl : t.kids.length ≤ cap) (hm : cap ≤ 9223372036854775807) :
    (Calls Tryd.prog 40 #[exprV t ao cap] w fun e w' => e = .returned (.bool (!noX t)) ∧ Below w.heap.size w w') ∧
    (Calls Tryd.prog 43 #[exprV t ao cap] w fun e w' => e = .returned (.bool (noX t)) ∧ Below w.heap.size w w') := by
  rw [exprV_agg]
  exact noExprs_any _ _ _ _ _ _ ao _ cap w ⟨hl, hm⟩ _ rfl
set_option maxHeartbeats 8000000 in
theorem condition_any (t : T) (ao : Option Addr) (cap : Nat) (cs : List Cl) (aoc : Option Addr) (capc : Nat) (w : World) (hX : XEnv w) (hl : t.kids.length ≤ cap) (hm : cap ≤ 9223372036854775807 ∧ (ao = none → cap = 0)) (hA : AtT w t ao) (hlc : cs.length ≤ capc) (hmc : capc ≤ 9223372036854775807) (hC : Cols w aoc cs) :
    Calls Tryd.prog 14 #[exprV t ao cap, .slice aoc cs.length capc] w fun e w' => e = .returned (.int .i64 (condR cs t)) ∧ Below w.heap.size w w' := by
  have c1 := fun W (hW : Below w.heap.size w W) => of_any t ao cap cs aoc capc W (hX.keep hW) hl hm (hA.keep hW) hlc hmc (hC.keep hW)
  have c2 := fun W (hW : Below w.heap.size w W) => columns_any cs aoc capc W hlc hmc (hC.keep hW) (hX.keep hW).tabs (hX.keep hW).sw
  have c3 := fun W => (known_any t ao cap W hl hm.1).1
  have hR : condR cs t = if noX t = true then colsR cs else if (kindsR cs t).f ≠ 0 then (kindsR cs t).f else if (kindsR cs t).k = 1 ∨ (kindsR cs t).k = 0 then 0 else 2 := rfl
  have HR := Lib.hid hR
  generalize condR cs t = RR at *
  generalize noX t = Z at *
  simp only [exprV_agg] at c1 c3 ⊢
  generalize kindsR cs t = R at *
  obtain ⟨Rk, Rn, Rf⟩ := R
  generalize colsR cs = CC at *
  generalize t.kids.length = L at *
  generalize t.nd = nd at *
  generalize cs.length = m at *
  obtain ⟨op, k, i, b, s, nm⟩ := nd
  simp only at c1 c3 HR ⊢
  generalize str s = S at *
  generalize str nm = N at *
  have hz := Blk.new w #[.int .i64 op, .int .i64 k, .int .i64 i, .int .u64 b, .string S, .string N, .slice ao L cap] 42
  have hb0 : Below w.heap.size w (w.alloc (.cells #[.int .i64 op, .int .i64 k, .int .i64 i, .int .u64 b, .string S, .string N, .slice ao L cap] 42)) := (Below.refl _ _).alloc (Nat.le_refl _) _
  generalize hw1 : w.alloc (.cells #[.int .i64 op, .int .i64 k, .int .i64 i, .int .u64 b, .string S, .string N, .slice ao L cap] 42) = w1 at hz hb0
  have HW1 := Lib.hid hw1
  have d1 := c3 w1
  obtain ⟨p0, p1, p2, p3, p4, p5, p6⟩ := hz.seven
  clear hA hX hl hm hlc hmc hC c3 hR hw1
  go_enter Tryd.func14, Tryd.ntmps14
  go_upto_region 1 with fail
  rw [HW1.out]
  go_wp2_with fail
  refine d1.mono ?_
  rintro e w2 ⟨rfl, hb2⟩
  have hb02 := below_two hb0 hb2
  have hz2 := hz.call hb2
  obtain ⟨q0, q1, q2, q3, q4, q5, q6⟩ := hz2.seven
  clear d1 hb2 hb0 p0 p1 p2 p3 p4 p5 p6 hz
  cases Z
  · have d2 := c1 w2 hb02
    clear c1 c2
    go_wp2_with fail
    refine d2.mono ?_
    rintro e w3 ⟨rfl, hb3⟩
    have hb03 := below_two hb02 hb3
    clear d2 hb3 q0 q1 q2 q3 q4 q5 q6
    by_cases hf : Rf = 0
    · subst hf
      have cf := fun W => tfits_any Rk 1 W
      obtain ⟨z, hz⟩ : ∃ z, (Rk == 1 || Rk == 0) = z := ⟨_, rfl⟩
      have HR2 : Hid (RR = if z = true then 0 else 2) := Lib.hid (by
        rw [HR.out, if_neg (by decide), if_neg (by decide), ← hz]
        simp only [Bool.or_eq_true, beq_iff_eq])
      rw [hz] at cf
      clear hz HR
      cases z
      · go_wp2_with fail
        refine (cf w3).mono ?_
        rintro e w4 ⟨rfl, rfl⟩
        clear cf
        go_wp2_with fail
        go_ret
        exact ⟨by rw [HR2.out]; rfl, hb03⟩
      · go_wp2_with fail
        refine (cf w3).mono ?_
        rintro e w4 ⟨rfl, rfl⟩
        clear cf
        go_wp2_with fail
        go_ret
        exact ⟨by rw [HR2.out]; rfl, hb03⟩
    · have hf2 : (Rf == 0) = false := by simpa using hf
      have HR2 : Hid (RR = Rf) := Lib.hid (by rw [HR.out, if_neg (by decide), if_pos hf])
      clear HR hf
      go_wp2_with fail
      go_ret
      exact ⟨by rw [HR2.out]; rfl, hb03⟩
  · have d2 := c2 w2 hb02
    have HR2 : Hid (RR = CC) := Lib.hid (by rw [HR.out, if_pos rfl])
    clear c1 c2 HR q0 q1 q2 q3 q4 q5 q6
    go_wp2_with fail
    refine d2.mono ?_
    rintro e w3 ⟨rfl, hb3⟩
    have hb03 := below_two hb02 hb3
    clear d2 hb3
    go_wp2_with fail
    go_ret
    exact ⟨by rw [HR2.out]; rfl, hb03⟩
set_option maxHeartbeats 8000000 in
theorem conditionFault_any (t : T) (ao : Option Addr) (cap : Nat) (cs : List Cl) (aoc : Option Addr) (capc : Nat) (w : World) (hX : XEnv w) (hl : t.kids.length ≤ cap) (hm : cap ≤ 9223372036854775807 ∧ (ao = none → cap = 0)) (hA : AtT w t ao) (hlc : cs.length ≤ capc) (hmc : capc ≤ 9223372036854775807) (hC : Cols w aoc cs) :
    Calls Tryd.prog 15 #[exprV t ao cap, .slice aoc cs.length capc] w fun e w' => e = .returned (.int .i64 (condR cs t)) ∧ Below w.heap.size w w' := by
  have c1 := fun W (hW : Below w.heap.size w W) => kindOfRef_any t ao cap cs aoc capc W (hX.keep hW) hl hm (hA.keep hW) hlc hmc (hC.keep hW)
  have c2 := fun W (hW : Below w.heap.size w W) => columnsFault_any cs aoc capc W hlc hmc (hC.keep hW)
  have c3 := fun W => (known_any t ao cap W hl hm.1).2
  have hrng := kindsR_rng cs t
  have hR : condR cs t = if noX t = true then colsR cs else if (kindsR cs t).f ≠ 0 then (kindsR cs t).f else if (kindsR cs t).k = 1 ∨ (kindsR cs t).k = 0 then 0 else 2 := rfl
  have HR := Lib.hid hR
  generalize condR cs t = RR at *
  generalize noX t = Z at *
  simp only [exprV_agg] at c1 c3 ⊢
  generalize kindsR cs t = R at *
  obtain ⟨Rk, Rn, Rf⟩ := R
  generalize colsR cs = CC at *
  generalize t.kids.length = L at *
  generalize t.nd = nd at *
  generalize cs.length = m at *
  obtain ⟨op, k, i, b, s, nm⟩ := nd
  simp only at c1 c3 HR hrng ⊢
  have HRNG := Lib.hid hrng
  generalize str s = S at *
  generalize str nm = N at *
  have hz := Blk.new w #[.int .i64 op, .int .i64 k, .int .i64 i, .int .u64 b, .string S, .string N, .slice ao L cap] 42
  have hb0 : Below w.heap.size w (w.alloc (.cells #[.int .i64 op, .int .i64 k, .int .i64 i, .int .u64 b, .string S, .string N, .slice ao L cap] 42)) := (Below.refl _ _).alloc (Nat.le_refl _) _
  generalize hw1 : w.alloc (.cells #[.int .i64 op, .int .i64 k, .int .i64 i, .int .u64 b, .string S, .string N, .slice ao L cap] 42) = w1 at hz hb0
  have HW1 := Lib.hid hw1
  have d1 := c3 w1
  obtain ⟨p0, p1, p2, p3, p4, p5, p6⟩ := hz.seven
  clear hA hX hl hm hlc hmc hC c3 hR hw1 hrng
  go_enter Tryd.func15, Tryd.ntmps15
  go_upto_region 1 with fail
  rw [HW1.out]
  go_wp2_with fail
  refine d1.mono ?_
  rintro e w2 ⟨rfl, hb2⟩
  have hb02 := below_two hb0 hb2
  have hz2 := hz.call hb2
  obtain ⟨q0, q1, q2, q3, q4, q5, q6⟩ := hz2.seven
  clear d1 hb2 hb0 p0 p1 p2 p3 p4 p5 p6 hz
  cases Z
  · have d2 := c1 w2 hb02
    clear c1 c2
    go_wp2_with fail
    refine d2.mono ?_
    rintro e w3 ⟨rfl, hb3⟩
    have hb03 := below_two hb02 hb3
    clear d2 hb3 q0 q1 q2 q3 q4 q5 q6
    by_cases hf : Rf = 0
    · subst hf
      have hr := HRNG.out rfl
      by_cases hk : (1 : Int) < Rk
      · have HR2 : Hid (RR = 2) := Lib.hid (by rw [HR.out, if_neg (by decide), if_neg (by decide), if_neg (by omega)])
        clear HR hr
        go_wp2_with fail
        go_ret
        exact ⟨by rw [HR2.out]; rfl, hb03⟩
      · have HR2 : Hid (RR = 0) := Lib.hid (by rw [HR.out, if_neg (by decide), if_neg (by decide), if_pos (by omega)])
        clear HR hr
        go_wp2_with fail
        go_ret
        exact ⟨by rw [HR2.out]; rfl, hb03⟩
    · have hf2 : (Rf != 0) = true := by simpa using hf
      have HR2 : Hid (RR = Rf) := Lib.hid (by rw [HR.out, if_neg (by decide), if_pos hf])
      clear HR
      go_wp2_with fail
      go_ret
      exact ⟨by rw [HR2.out]; rfl, hb03⟩
  · have d2 := c2 w2 hb02
    have HR2 : Hid (RR = CC) := Lib.hid (by rw [HR.out, if_pos rfl])
    clear c1 c2 HR q0 q1 q2 q3 q4 q5 q6
    go_wp2_with fail
    refine d2.mono ?_
    rintro e w3 ⟨rfl, hb3⟩
    have hb03 := below_two hb02 hb3
    clear d2 hb3
    go_wp2_with fail
    go_ret
    exact ⟨by rw [HR2.out]; rfl, hb03⟩
end Go.Proofs.YtfedlchncngafaaDoor
