/-
  THE WALK of the law 'chirographkeep.EvalParts': for every two numbers the law returns true.
  CONDITIONS: the numbers are of 64 bits; the tables lie.
-/
import Derived.Test.YtablacloabpjfabGreatDoorGEve
import Derived.Test.YtablacloabpjfabGreatDoorRegC
namespace Go.Proofs.YtablacloabpjfabGreatDoor
open Go.RowKit
set_option linter.unusedVariables false
set_option maxRecDepth 100000

def tQ : T := opN 8 [colT nA, colT nB]
def tQB : T := opN 7 [opN 8 [colT nA, colT nB], colT nB]
def tRest : T := opN 6 [colT nA, opN 7 [opN 8 [colT nA, colT nB], colT nB]]
theorem ty_rest : Ty csAB 4 2 tRest := ty_op2 (.inr (.inl ⟨rfl, by decide, rfl⟩)) (Ty.more _ _ _ _ (Ty.more _ _ _ _ tyA)) (ty_op2 (.inr (.inl ⟨rfl, by decide, rfl⟩)) (ty_op2 (.inr (.inl ⟨rfl, by decide, rfl⟩)) tyA tyB) (Ty.more _ _ _ _ tyB))
/-- What Eval answers of the rest, where two columns and a row of whole numbers lie. -/
theorem eval_rest (a b : Int) (ha : in64 a) (hb : in64 b) (g g1 g2 : Nat) (w w0 : World) (hX : XEnv w0) (hC : Cols w0 (some ⟨g1, 0, none⟩) csAB) (hV : Vals w0 (some ⟨g2, 0, none⟩) (rowAB a b)) (hb : Below w0.heap.size w0 w) (hT : XT w tRest (some ⟨g, 0, none⟩) 2) :
    Calls Tryz.prog 20 #[opV 6 g 2, .slice (some ⟨g1, 0, none⟩) 2 2, .slice (some ⟨g2, 0, none⟩) 2 2] w fun e w' => e = .returned (.tuple #[valV (if b = 0 then badE 7 else if a = -9223372036854775808 ∧ b = -1 then badE 6 else okE (intV (a.tmod b))).v, .int .i64 (if b = 0 then badE 7 else if a = -9223372036854775808 ∧ b = -1 then badE 6 else okE (intV (a.tmod b))).f]) ∧ Below w.heap.size w w' := by
  have := eval_any tRest (some ⟨g, 0, none⟩) 2 csAB (some ⟨g1, 0, none⟩) 2 (rowAB a b) (some ⟨g2, 0, none⟩) 2 w ⟨hT.A, hT.n1, hT.n2, hC.keep hb, (by show 2 ≤ 2; omega), (by decide), hV.keep hb, (by show 2 ≤ 2; omega), (by decide), hX.keep hb⟩
  rw [evalR_ok _ _ _ (ty_expr colsAB 4 (by decide) 2 tRest (by decide) ty_rest) (rowAB_ok a b), show evT csAB (rowAB a b) tRest = _ from ev_rest a b ‹in64 a› ‹in64 b›] at this
  exact this
theorem rest_facts (a b : Int) (h : b ≠ 0) : (a.tmod b = 0 ∨ (a.tmod b < 0 ↔ a < 0)) ∧ (a.tmod b).natAbs < b.natAbs := by
  have h1 : (a.tmod b).natAbs < b.natAbs := by rw [Int.natAbs_tmod]; exact Nat.mod_lt _ (by omega)
  refine ⟨?_, h1⟩
  by_cases h0 : a.tmod b = 0
  · exact .inl h0
  right
  by_cases ha : a < 0
  · have := Int.tmod_nonneg b (a := -a) (by omega)
    rw [Int.neg_tmod] at this; omega
  · have := Int.tmod_nonneg b (a := a) (by omega)
    omega
def PartsF (g4 g1 g2 : Nat) (NA NB : ByteArray) (k1 i1 b1 : Int) (S1 : ByteArray) (f1 : Int) : Array Bool → Nat → Value → World → Prop
  | _, 0, v, _ => v = .agg #[.int .i64 2, .int .i64 0, .int .i64 0, .int .u64 0, .string ⟨#[]⟩, .string NA, .slice none 0 0]
  | _, 1, v, _ => v = .agg #[.int .i64 8, .int .i64 0, .int .i64 0, .int .u64 0, .string ⟨#[]⟩, .string ⟨#[]⟩, .slice (some ⟨g4, 0, none⟩) 2 2]
  | _, 2, v, _ => v = .agg #[.int .i64 2, .int .i64 0, .int .i64 0, .int .u64 0, .string ⟨#[]⟩, .string NB, .slice none 0 0]
  | ls, 3, v, w => ls.getD 7 false = true ∨ ∃ k, v = .agg #[.int .i64 7, .int .i64 0, .int .i64 0, .int .u64 0, .string ⟨#[]⟩, .string ⟨#[]⟩, .slice (some ⟨k, 0, none⟩) 2 2] ∧ Hid (XT w tQB (some ⟨k, 0, none⟩) 2)
  | ls, 4, v, w => ls.getD 7 false = true ∨ ∃ k, v = .agg #[.int .i64 6, .int .i64 0, .int .i64 0, .int .u64 0, .string ⟨#[]⟩, .string ⟨#[]⟩, .slice (some ⟨k, 0, none⟩) 2 2] ∧ Hid (XT w tRest (some ⟨k, 0, none⟩) 2)
  | _, 5, v, _ => v = .slice (some ⟨g1, 0, none⟩) 2 2
  | _, 6, v, _ => v = .slice (some ⟨g2, 0, none⟩) 2 2
  | _, 7, v, _ => v = .tuple #[.agg #[.int .i64 k1, .int .i64 i1, .int .u64 b1, .string S1], .int .i64 f1]
  | _, 8, v, _ => v = .tuple #[.agg #[.int .i64 k1, .int .i64 i1, .int .u64 b1, .string S1], .int .i64 f1]
  | _, 9, v, _ => v = .agg #[.int .i64 k1, .int .i64 i1, .int .u64 b1, .string S1]
  | _, 10, v, _ => v = .int .i64 f1
  | _, 11, _, _ => True
  | _, 12, _, _ => True
  | _, _, _, _ => True
set_option maxHeartbeats 16000000 in
theorem evalParts_core (a b : Int) (w : World) (ha : in64 a) (hb : in64 b) (hX : XEnv w) :
    Calls Tryz.prog 6 #[.int .i64 a, .int .i64 b] w fun e w' => e = .returned (.bool true) ∧ Below w.heap.size w w' := by
  have cI := ints_any a b ha hb w
  have cA := fun W => colA_any W
  have cB := fun W => colB_any W
  have cT := fun W (h : XEnv W) => evalTells_any W h
  have cO : ∀ W, Calls Tryz.prog 24 #[.int .i64 8, colV nA, colV nB] W (Op2Ok 8 (colT nA) (colT nB) W) := fun W => op2_lit 8 (by decide) (colT nA) (colT nB) none none 0 0 W (xt_col W nA (by decide)) (xt_col W nB (by decide))
  have cQ : ∀ W g, XT W tQ (some ⟨g, 0, none⟩) 2 → Calls Tryz.prog 24 #[.int .i64 7, opV 8 g 2, colV nB] W (Op2Ok 7 tQ (colT nB) W) := fun W g hg => op2_lit 7 (by decide) tQ (colT nB) (some ⟨g, 0, none⟩) none 2 0 W hg (xt_col W nB (by decide))
  have cR : ∀ W g, XT W tQB (some ⟨g, 0, none⟩) 2 → Calls Tryz.prog 24 #[.int .i64 6, colV nA, opV 7 g 2] W (Op2Ok 6 (colT nA) tQB W) := fun W g hg => op2_lit 6 (by decide) (colT nA) tQB none (some ⟨g, 0, none⟩) 0 2 W (xt_col W nA (by decide)) hg
  have hE1 : ∀ (g g1 g2 : Nat) (W w0 : World), XEnv w0 → Cols w0 (some ⟨g1, 0, none⟩) csAB → Vals w0 (some ⟨g2, 0, none⟩) (rowAB a b) → Below w0.heap.size w0 W → XT W tRest (some ⟨g, 0, none⟩) 2 → Calls Tryz.prog 20 #[opV 6 g 2, .slice (some ⟨g1, 0, none⟩) 2 2, .slice (some ⟨g2, 0, none⟩) 2 2] W fun e w' => e = .returned (.tuple #[valV (if b = 0 then badE 7 else if a = -9223372036854775808 ∧ b = -1 then badE 6 else okE (intV (a.tmod b))).v, .int .i64 (if b = 0 then badE 7 else if a = -9223372036854775808 ∧ b = -1 then badE 6 else okE (intV (a.tmod b))).f]) ∧ Below W.heap.size W w' :=
    fun g g1 g2 W w0 hX hC hV hb' hT => eval_rest a b ha hb g g1 g2 W w0 hX hC hV hb' hT
  have HE1 := Lib.hid hE1
  have HQ0 := Lib.hid cQ
  have HR0 := Lib.hid cR
  have HIN := Lib.hid (And.intro ha hb)
  have HX := Lib.hid hX
  have HRF := Lib.hid (rest_facts a b)
  unfold colV at cA cB cO HQ0 HR0
  unfold opV at HE1 HQ0 HR0
  generalize str nA = NA at *
  generalize str nB = NB at *
  clear hE1 cQ cR hX
  unfold IntsOk at cI
  go_enter Tryz.func6, Tryz.ntmps6
  go_wp2_with fail
  refine cI.mono ?_
  rintro e w1 ⟨g1, g2, rfl, HC, HV, hb1⟩
  clear cI
  have X1 := HX.out.keep hb1
  have HX1 := Lib.hid X1
  go_wp2_with fail
  refine (cA _).mono ?_
  rintro e w2 ⟨rfl, hb2⟩
  go_wp2_with fail
  refine (cB _).mono ?_
  rintro e w3 ⟨rfl, hb3⟩
  have hb03 := below_stepE hb2 hb2.size hb3
  clear hb2 hb3
  go_wp2_with fail
  refine (cO _).mono ?_
  rintro e w4 ⟨g4, rfl, hT4, hb4⟩
  have hb04 := below_stepE hb03 hb03.size hb4
  clear hb4 hb03 cO
  have zQ := Blk.new w4 #[.int .i64 8, .int .i64 0, .int .i64 0, .int .u64 0, .string ⟨#[]⟩, .string ⟨#[]⟩, .slice (some ⟨g4, 0, none⟩) 2 2] 27
  have hbq := (Below.refl w4.heap.size w4).alloc (Nat.le_refl _) (.cells #[.int .i64 8, .int .i64 0, .int .i64 0, .int .u64 0, .string ⟨#[]⟩, .string ⟨#[]⟩, .slice (some ⟨g4, 0, none⟩) 2 2] 27)
  have hb06 := hb04.alloc hb04.size (.cells #[.int .i64 8, .int .i64 0, .int .i64 0, .int .u64 0, .string ⟨#[]⟩, .string ⟨#[]⟩, .slice (some ⟨g4, 0, none⟩) 2 2] 27)
  have HT4 := Lib.hid (hT4.out.keep hbq)
  go_upto_region 3 with fail
  generalize hw6 : w4.alloc (.cells #[.int .i64 8, .int .i64 0, .int .i64 0, .int .u64 0, .string ⟨#[]⟩, .string ⟨#[]⟩, .slice (some ⟨g4, 0, none⟩) 2 2] 27) = w6 at *
  clear hw6 hb04 hbq hT4
  generalize w4.heap.size = gQ at *
  have HQ := Lib.hid (fun W (h : XT W tQ (some ⟨g4, 0, none⟩) 2) => HQ0.out W g4 h)
  have HR := Lib.hid (fun W g (h : XT W tQB (some ⟨g, 0, none⟩) 2) => HR0.out W g h)
  clear HQ0 HR0
  have cE : ∀ W k, Below w6.heap.size w6 W → XT W tRest (some ⟨k, 0, none⟩) 2 → Calls Tryz.prog 20 #[.agg #[.int .i64 6, .int .i64 0, .int .i64 0, .int .u64 0, .string ⟨#[]⟩, .string ⟨#[]⟩, .slice (some ⟨k, 0, none⟩) 2 2], .slice (some ⟨g1, 0, none⟩) 2 2, .slice (some ⟨g2, 0, none⟩) 2 2] W _ := fun W k hW hT => HE1.out k g1 g2 W w1 X1 HC.out HV.out (below_stepE hb06 hb06.size hW) hT
  clear HE1
  generalize hR1 : (if b = 0 then badE 7 else if a = -9223372036854775808 ∧ b = -1 then badE 6 else okE (intV (a.tmod b))) = R1 at *
  have HR1 := Lib.hid hR1
  clear hR1
  obtain ⟨⟨k1, i1, b1, s1⟩, f1⟩ := R1
  unfold valV at cE
  simp only at cE
  generalize hS1 : str s1 = S1 at *
  clear hS1
  have HE := Lib.hid cE
  clear cE
  refine wp_region_cell 13 11 12 (by kernel_rfl) (by kernel_rfl) (by kernel_rfl) 24 [.int .i64 0, .int .i64 0, .int .u64 0, .string ⟨#[]⟩] [.int .i64 k1, .int .i64 i1, .int .u64 b1, .string S1] (PartsF g4 g1 g2 NA NB k1 i1 b1 S1 f1) ?hF ?hQ ?hstep ?hp ?hq ?hdone
  case hF =>
    intro ls i j v W W' hi hiq hji hun hb h
    match j, h with
    | 0, h => exact h
    | 1, h => exact h
    | 2, h => exact h
    | 3, h =>
      rcases h with h | ⟨k, h1, h2⟩
      · exact .inl (getD_put_true h)
      · exact .inr ⟨k, h1, Lib.hid (h2.out.keep hb)⟩
    | 4, h =>
      rcases h with h | ⟨k, h1, h2⟩
      · exact .inl (getD_put_true h)
      · exact .inr ⟨k, h1, Lib.hid (h2.out.keep hb)⟩
    | 5, h => exact h
    | 6, h => exact h
    | 7, h => exact h
    | 8, h => exact h
    | 9, h => exact h
    | 10, h => exact h
    | 11, h => exact h
    | 12, h => exact h
    | j + 13, h => exact h
  case hQ =>
    intro ls j v W W' hcl hd h
    match j, h with
    | 0, h => exact h
    | 1, h => exact h
    | 2, h => exact h
    | 3, h => exact .inl (getD_put_true (hcl 8 7 (hcl 9 8 (hd 9 (by kernel_rfl)) (by kernel_rfl)) (by kernel_rfl)))
    | 4, h => exact .inl (getD_put_true (hcl 8 7 (hcl 9 8 (hd 9 (by kernel_rfl)) (by kernel_rfl)) (by kernel_rfl)))
    | 5, h => exact h
    | 6, h => exact h
    | 7, h => exact h
    | 8, h => exact h
    | 9, h => exact h
    | 10, h => exact h
    | 11, h => exact h
    | 12, h => exact h
    | j + 13, h => exact h
  case hstep =>
    intro j hj hnp hnq ls vs W K hst hf hK hcl hd hun
    simp only [fillF, Act.put, List.take_succ_cons, List.take_zero, List.setIfInBounds_toArray, List.set_cons_zero, List.set_cons_succ] at hK ⊢
    obtain ⟨q0, q1, q2, q3, q4, q5, q6⟩ := (zQ.call hst).cells7
    rcases (show j = 0 ∨ j = 1 ∨ j = 2 ∨ j = 3 ∨ j = 4 ∨ j = 5 ∨ j = 6 ∨ j = 7 ∨ j = 8 ∨ j = 9 ∨ j = 10 ∨ j = 11 ∨ j = 12 by omega) with rfl | rfl | rfl | rfl | rfl | rfl | rfl | rfl | rfl | rfl | rfl | rfl | rfl
    · refine wpOp_step rfl (fun K' hK' => ?_)
      go_simp
      refine (cA W).mono ?_
      rintro e W' ⟨rfl, hbc⟩
      go_simp
      exact hK' _ _ (hK _ _ rfl hbc)
    · refine wpOp_step rfl (fun K' hK' => ?_)
      go_simp
      exact hK' _ _ (hK _ _ rfl (Below.refl _ _))
    · refine wpOp_step rfl (fun K' hK' => ?_)
      go_simp
      refine (cB W).mono ?_
      rintro e W' ⟨rfl, hbc⟩
      go_simp
      exact hK' _ _ (hK _ _ rfl hbc)
    · have e1 : vs 1 = .agg #[.int .i64 8, .int .i64 0, .int .i64 0, .int .u64 0, .string ⟨#[]⟩, .string ⟨#[]⟩, .slice (some ⟨g4, 0, none⟩) 2 2] := hf 1 (by decide) (by decide) (by decide) (by kernel_rfl)
      have e2 : vs 2 = .agg #[.int .i64 2, .int .i64 0, .int .i64 0, .int .u64 0, .string ⟨#[]⟩, .string NB, .slice none 0 0] := hf 2 (by decide) (by decide) (by decide) (by kernel_rfl)
      simp only [e1, e2] at hK ⊢
      refine wpOp_step rfl (fun K' hK' => ?_)
      go_simp
      refine (HQ.out W (HT4.out.keep hst)).mono ?_
      rintro e W' ⟨k, rfl, hT, hbc⟩
      go_simp
      exact hK' _ _ (hK _ _ (.inr ⟨k, rfl, hT⟩) hbc)
    · have e0 : vs 0 = .agg #[.int .i64 2, .int .i64 0, .int .i64 0, .int .u64 0, .string ⟨#[]⟩, .string NA, .slice none 0 0] := hf 0 (by decide) (by decide) (by decide) (by kernel_rfl)
      obtain ⟨k3, e3, y3⟩ := (hf 3 (by decide) (by decide) (by decide) (by kernel_rfl)).resolve_left (fun hh => by have h2 := hcl 7 4 hh (by kernel_rfl); rw [hun] at h2; cases h2)
      simp only [e0, e3] at hK ⊢
      refine wpOp_step rfl (fun K' hK' => ?_)
      go_simp
      refine (HR.out W k3 y3.out).mono ?_
      rintro e W' ⟨k, rfl, hT, hbc⟩
      go_simp
      exact hK' _ _ (hK _ _ (.inr ⟨k, rfl, hT⟩) hbc)
    · refine wpOp_step rfl (fun K' hK' => ?_)
      go_simp
      exact hK' _ _ (hK _ _ rfl (Below.refl _ _))
    · refine wpOp_step rfl (fun K' hK' => ?_)
      go_simp
      exact hK' _ _ (hK _ _ rfl (Below.refl _ _))
    · obtain ⟨k4, e4, y4⟩ := (hf 4 (by decide) (by decide) (by decide) (by kernel_rfl)).resolve_left (fun hh => by rw [hun] at hh; cases hh)
      have e5 : vs 5 = .slice (some ⟨g1, 0, none⟩) 2 2 := hf 5 (by decide) (by decide) (by decide) (by kernel_rfl)
      have e6 : vs 6 = .slice (some ⟨g2, 0, none⟩) 2 2 := hf 6 (by decide) (by decide) (by decide) (by kernel_rfl)
      simp only [e4, e5, e6] at hK ⊢
      refine wpOp_step rfl (fun K' hK' => ?_)
      go_simp
      refine (HE.out W k4 hst y4.out).mono ?_
      rintro e W' ⟨rfl, hbc⟩
      go_simp
      exact hK' _ _ (hK _ _ rfl hbc)
    · have e7 : vs 7 = .tuple #[.agg #[.int .i64 k1, .int .i64 i1, .int .u64 b1, .string S1], .int .i64 f1] := hf 7 (by decide) (by decide) (by decide) (by kernel_rfl)
      simp only [e7] at hK ⊢
      refine wpOp_step rfl (fun K' hK' => ?_)
      go_simp
      exact hK' _ _ (hK _ _ rfl (Below.refl _ _))
    · have e8 : vs 8 = .tuple #[.agg #[.int .i64 k1, .int .i64 i1, .int .u64 b1, .string S1], .int .i64 f1] := hf 8 (by decide) (by decide) (by decide) (by kernel_rfl)
      simp only [e8] at hK ⊢
      refine wpOp_step rfl (fun K' hK' => ?_)
      go_simp
      exact hK' _ _ (hK _ _ rfl (Below.refl _ _))
    · have e8 : vs 8 = .tuple #[.agg #[.int .i64 k1, .int .i64 i1, .int .u64 b1, .string S1], .int .i64 f1] := hf 8 (by decide) (by decide) (by decide) (by kernel_rfl)
      simp only [e8] at hK ⊢
      refine wpOp_step rfl (fun K' hK' => ?_)
      go_simp
      exact hK' _ _ (hK _ _ rfl (Below.refl _ _))
    · exact (hnp rfl).elim
    · exact (hnq rfl).elim
  case hp =>
    intro vs W K hK
    simp only [fillF, Act.put, List.take_succ_cons, List.take_zero, List.setIfInBounds_toArray, List.set_cons_zero, List.set_cons_succ] at hK ⊢
    refine wpOp_step rfl (fun K' hK' => ?_)
    go_simp
    exact hK' _ _ hK
  case hq =>
    intro ls vs W K k hst ek hk hz hf hK
    simp only [fillF, Act.put, List.take_succ_cons, List.take_zero, List.setIfInBounds_toArray, List.set_cons_zero, List.set_cons_succ] at hK ⊢
    have e9 : vs 9 = .agg #[.int .i64 k1, .int .i64 i1, .int .u64 b1, .string S1] := hf 9 (by decide) (by decide) (by decide) (by kernel_rfl)
    simp only [e9] at hK ⊢
    simp only [ek] at hK ⊢
    obtain ⟨⟨p0, p1, p2, p3⟩, f0, f1, f2, f3⟩ := hz.four
    refine wpOp_step rfl (fun K' hK' => ?_)
    go_simp
    exact hK' _ _ (hK undef _ hz.set4 (below_set4 hst hk))
  intro ls vs W gV hst ek hk zV hf
  simp only [fillF, Act.put, List.take_succ_cons, List.take_zero, List.drop_succ_cons, List.drop_zero, List.setIfInBounds_toArray, List.set_cons_zero, List.set_cons_succ]
  have e10 : vs 10 = .int .i64 f1 := hf 10 (by decide) (by decide) (by decide)
  clear hf cA cB HQ HR zQ HT4 HE
  simp only [ek, e10]
  clear ek e10
  have hb9 := below_stepE hb06 hb06.size hst
  have hgV := zV.lt
  obtain ⟨⟨p0, p1, p2, p3⟩, _⟩ := zV.four
  have hgV0 := zV.lt
  clear hst hk zV hb06
  generalize vs 0 = x0
  generalize vs 1 = x1
  generalize vs 2 = x2
  generalize vs 3 = x3
  generalize vs 4 = x4
  generalize vs 5 = x5
  generalize vs 6 = x6
  generalize vs 7 = x7
  generalize vs 8 = x8
  generalize vs 9 = x9
  generalize vs 12 = x12
  go_upto_region 4 with fail
  by_cases hb0 : b = 0
  · have e2 := HR1.out
    rw [if_pos hb0] at e2
    simp only [badE, nulV, RE.mk.injEq, Vl.mk.injEq] at e2
    obtain ⟨⟨rfl, rfl, rfl, rfl⟩, rfl⟩ := e2
    clear HR1 HIN HRF
    go_wp2_with fail
    go_ret
    exact ⟨by simp, below_stepE hb1 hb1.size hb9⟩
  have HR2 := HR1.out
  rw [if_neg hb0] at HR2
  have HR1 := Lib.hid HR2
  clear HR2
  -- the two ways with a quotient
  have hmain : ¬ (a = -9223372036854775808 ∧ b = -1) → (k1 = 2 ∧ i1 = a.tmod b ∧ f1 = 0) := fun h => by
    have e2 := HR1.out
    rw [if_neg h] at e2
    simp only [okE, intV, RE.mk.injEq, Vl.mk.injEq] at e2
    obtain ⟨⟨rfl, rfl, rfl, rfl⟩, rfl⟩ := e2
    exact ⟨rfl, rfl, rfl⟩
  have hlast : ∀ (hne : ¬ (a = -9223372036854775808 ∧ b = -1)), k1 = 2 ∧ f1 = 0 ∧ (i1 = 0 ∨ (i1 < 0 ↔ a < 0)) ∧ (b < 0 → b < i1 ∧ (b = -9223372036854775808 ∨ i1 < -b)) ∧ (0 < b → i1 < b ∧ -b < i1) ∧ (b = -9223372036854775808 ∨ wrap64 (-b) = -b) := fun hne => by
    obtain ⟨rfl, rfl, rfl⟩ := hmain hne
    obtain ⟨h1, h2⟩ := HRF.out hb0
    obtain ⟨h3, h4⟩ := HIN.out
    unfold in64 at h3 h4
    refine ⟨rfl, rfl, h1, by omega, by omega, ?_⟩
    by_cases hbm : b = -9223372036854775808
    · exact .inl hbm
    · exact .inr (wrap64_in (by unfold inI; omega))
  have HL := Lib.hid hlast
  clear hmain hlast HRF HIN
  by_cases ha0 : a = -9223372036854775808
  · by_cases hb1' : b = -1
    · have e2 := HR1.out
      rw [if_pos ⟨ha0, hb1'⟩] at e2
      simp only [badE, nulV, RE.mk.injEq, Vl.mk.injEq] at e2
      obtain ⟨⟨rfl, rfl, rfl, rfl⟩, rfl⟩ := e2
      clear HR1 HL
      go_wp2_with fail
      go_ret
      exact ⟨by simp, below_stepE hb1 hb1.size hb9⟩
    · obtain ⟨rfl, rfl, hs, hn, hp, hm⟩ := HL.out (fun h => hb1' h.2)
      clear HR1 HL
      have HS := Lib.hid (And.intro hs (And.intro hn (And.intro hp hm)))
      clear hs hn hp hm
      go_wp2_with fail
      refine (cT W (HX1.out.keep hb9)).mono ?_
      rintro e w10 ⟨rfl, hb10⟩
      have hb11 := below_stepE hb9 hb9.size hb10
      clear hb9 cT
      obtain ⟨hs, hn, hp, hm⟩ := HS.out
      clear HS
      have r0 := (hb10.cell (p := ⟨gV, 0, none⟩) hgV).trans p0
      clear hb10 p0 p1 p2 p3
      by_cases hz : i1 = 0
      · by_cases hbn : b < 0
        · obtain ⟨hn1, hn2⟩ := hn hbn
          by_cases hbm : b = -9223372036854775808
          · clear hs hn hp hm hn2
            have hw : wrap64 9223372036854775808 = -9223372036854775808 := by kernel_rfl
            have hww : wrap64 (-b) = -9223372036854775808 := by rw [hbm]; kernel_rfl
            have hlt : ¬ i1 < -9223372036854775808 := by omega
            have hbp : ¬ 0 < b := by omega
            go_wp2_with fail
            go_ret
            exact ⟨by simp, below_stepE hb1 hb1.size hb11⟩
          · have hw := hm.resolve_left hbm
            have hlt := hn2.resolve_left hbm
            clear hs hn hp hm hn2
            go_wp2_with fail
            go_ret
            exact ⟨by simp, below_stepE hb1 hb1.size hb11⟩
        · have hbp : 0 < b := by omega
          obtain ⟨hp1, hp2⟩ := hp hbp
          have hw := hm.resolve_left (by omega)
          clear hs hn hp hm
          go_wp2_with fail
          go_ret
          exact ⟨by simp, below_stepE hb1 hb1.size hb11⟩
      by_cases hi : i1 < 0
      · have ha1 : a < 0 := by omega
        by_cases hbn : b < 0
        · obtain ⟨hn1, hn2⟩ := hn hbn
          by_cases hbm : b = -9223372036854775808
          · clear hs hn hp hm hn2
            have hw : wrap64 9223372036854775808 = -9223372036854775808 := by kernel_rfl
            have hww : wrap64 (-b) = -9223372036854775808 := by rw [hbm]; kernel_rfl
            have hlt : ¬ i1 < -9223372036854775808 := by omega
            have hbp : ¬ 0 < b := by omega
            go_wp2_with fail
            go_ret
            exact ⟨by simp, below_stepE hb1 hb1.size hb11⟩
          · have hw := hm.resolve_left hbm
            have hlt := hn2.resolve_left hbm
            clear hs hn hp hm hn2
            go_wp2_with fail
            go_ret
            exact ⟨by simp, below_stepE hb1 hb1.size hb11⟩
        · have hbp : 0 < b := by omega
          obtain ⟨hp1, hp2⟩ := hp hbp
          have hw := hm.resolve_left (by omega)
          clear hs hn hp hm
          go_wp2_with fail
          go_ret
          exact ⟨by simp, below_stepE hb1 hb1.size hb11⟩
      · exfalso; omega
  · obtain ⟨rfl, rfl, hs, hn, hp, hm⟩ := HL.out (fun h => ha0 h.1)
    clear HR1 HL
    have HS := Lib.hid (And.intro hs (And.intro hn (And.intro hp hm)))
    clear hs hn hp hm
    go_wp2_with fail
    refine (cT W (HX1.out.keep hb9)).mono ?_
    rintro e w10 ⟨rfl, hb10⟩
    have hb11 := below_stepE hb9 hb9.size hb10
    clear hb9 cT
    obtain ⟨hs, hn, hp, hm⟩ := HS.out
    clear HS
    have r0 := (hb10.cell (p := ⟨gV, 0, none⟩) hgV).trans p0
    clear hb10 p0 p1 p2 p3
    by_cases hz : i1 = 0
    · by_cases hbn : b < 0
      · obtain ⟨hn1, hn2⟩ := hn hbn
        by_cases hbm : b = -9223372036854775808
        · clear hs hn hp hm hn2
          have hw : wrap64 9223372036854775808 = -9223372036854775808 := by kernel_rfl
          have hww : wrap64 (-b) = -9223372036854775808 := by rw [hbm]; kernel_rfl
          have hlt : ¬ i1 < -9223372036854775808 := by omega
          have hbp : ¬ 0 < b := by omega
          go_wp2_with fail
          go_ret
          exact ⟨by simp, below_stepE hb1 hb1.size hb11⟩
        · have hw := hm.resolve_left hbm
          have hlt := hn2.resolve_left hbm
          clear hs hn hp hm hn2
          go_wp2_with fail
          go_ret
          exact ⟨by simp, below_stepE hb1 hb1.size hb11⟩
      · have hbp : 0 < b := by omega
        obtain ⟨hp1, hp2⟩ := hp hbp
        have hw := hm.resolve_left (by omega)
        clear hs hn hp hm
        go_wp2_with fail
        go_ret
        exact ⟨by simp, below_stepE hb1 hb1.size hb11⟩
    by_cases hi : i1 < 0
    · have ha1 : a < 0 := by omega
      by_cases hbn : b < 0
      · obtain ⟨hn1, hn2⟩ := hn hbn
        by_cases hbm : b = -9223372036854775808
        · clear hs hn hp hm hn2
          have hw : wrap64 9223372036854775808 = -9223372036854775808 := by kernel_rfl
          have hww : wrap64 (-b) = -9223372036854775808 := by rw [hbm]; kernel_rfl
          have hlt : ¬ i1 < -9223372036854775808 := by omega
          have hbp : ¬ 0 < b := by omega
          go_wp2_with fail
          go_ret
          exact ⟨by simp, below_stepE hb1 hb1.size hb11⟩
        · have hw := hm.resolve_left hbm
          have hlt := hn2.resolve_left hbm
          clear hs hn hp hm hn2
          go_wp2_with fail
          go_ret
          exact ⟨by simp, below_stepE hb1 hb1.size hb11⟩
      · have hbp : 0 < b := by omega
        obtain ⟨hp1, hp2⟩ := hp hbp
        have hw := hm.resolve_left (by omega)
        clear hs hn hp hm
        go_wp2_with fail
        go_ret
        exact ⟨by simp, below_stepE hb1 hb1.size hb11⟩
    · have ha1 : ¬ a < 0 := by omega
      by_cases hbn : b < 0
      · obtain ⟨hn1, hn2⟩ := hn hbn
        by_cases hbm : b = -9223372036854775808
        · clear hs hn hp hm hn2
          have hw : wrap64 9223372036854775808 = -9223372036854775808 := by kernel_rfl
          have hww : wrap64 (-b) = -9223372036854775808 := by rw [hbm]; kernel_rfl
          have hlt : ¬ i1 < -9223372036854775808 := by omega
          have hbp : ¬ 0 < b := by omega
          go_wp2_with fail
          go_ret
          exact ⟨by simp, below_stepE hb1 hb1.size hb11⟩
        · have hw := hm.resolve_left hbm
          have hlt := hn2.resolve_left hbm
          clear hs hn hp hm hn2
          go_wp2_with fail
          go_ret
          exact ⟨by simp, below_stepE hb1 hb1.size hb11⟩
      · have hbp : 0 < b := by omega
        obtain ⟨hp1, hp2⟩ := hp hbp
        have hw := hm.resolve_left (by omega)
        clear hs hn hp hm
        go_wp2_with fail
        go_ret
        exact ⟨by simp, below_stepE hb1 hb1.size hb11⟩
theorem evalParts_walk (a b : Int) (w : World) (hX : XEnv w) (a0 : -9223372036854775808 ≤ a) (a1 : a ≤ 9223372036854775807) (b0 : -9223372036854775808 ≤ b) (b1 : b ≤ 9223372036854775807) :
    Calls Tryz.prog 6 #[.int .i64 a, .int .i64 b] w fun e w' => e = .returned (.bool true) ∧ Below w.heap.size w w' := evalParts_core a b w ⟨a0, a1⟩ ⟨b0, b1⟩ hX
end Go.Proofs.YtablacloabpjfabGreatDoor
