/-
  MERGED: EvalJ, EvalK, EvalI, EvalL, EvalN.
  CONDITIONS: each theorem's own hypotheses.
-/
import Derived.Test.YtfedlchncngafaaGreatDoorGEvb
import Derived.Test.YtfedlchncngafaaGreatDoorGValD
import Derived.Test.YtfedlchncngafaaGreatDoorOrdMath
import Derived.Test.YtfedlchncngafaaGreatDoorGReg
import Derived.Test.YtfedlchncngafaaGreatDoorGKindC
import Derived.Test.YtfedlchncngafaaGreatDoorKindV

/-! CONTRACTS of package eval's operations on two parts: sums, comparisons. CONDITIONS: each theorem's own hypotheses. -/
namespace Go.Proofs.YtfedlchncngafaaGreatDoor
open Go.RowKit
set_option linter.unusedVariables false
set_option maxRecDepth 100000

theorem comb_two (op : Int) (p q : RE) (hs : shortE op p.v = false) : combE op [p, q] = if p.f ≠ 0 then badE p.f else if q.f ≠ 0 then badE q.f else op2E op p.v q.v := by
  show (if p.f ≠ 0 then badE p.f else if shortE op p.v = true then okE p.v else if q.f ≠ 0 then badE q.f else op2E op p.v q.v) = _
  rw [hs]; rfl
theorem short_not (op : Int) (v : Vl) (h : op ≠ 15 ∧ op ≠ 16 ∧ op ≠ 20) : shortE op v = false := by
  unfold shortE; rw [if_neg h.1, if_neg h.2.1, if_neg h.2.2]
theorem comb_reck (op : Int) (h : op = 5 ∨ op = 6 ∨ op = 7 ∨ op = 8) (p q : RE) : combE op [p, q] = reckE (arE op) (vofsE 2 (valsE p q)) := by
  rw [comb_two op p q (short_not op _ (by omega))]
  by_cases hp : p.f = 0
  · rw [if_neg (by rw [hp]; decide)]
    by_cases hq : q.f = 0
    · rw [if_neg (by rw [hq]; decide)]
      have e1 : valsE p q = ⟨p.v, q.v, 0⟩ := by unfold valsE; rw [if_neg (by rw [hp]; decide), if_neg (by rw [hq]; decide)]
      rw [e1]
      unfold op2E
      rw [if_pos h]
      by_cases hf : (fitE p.v 2 && fitE q.v 2) = true
      · have e2 : vofsE 2 ⟨p.v, q.v, 0⟩ = ⟨p.v, q.v, 0⟩ := by
          unfold vofsE; simp only; rw [if_neg (by decide), if_pos hf]
        rw [if_pos hf, e2]
        unfold reckE
        simp only
        rw [if_neg (show ¬ ((0 : Int) ≠ 0) by decide)]
        by_cases hz : p.v.k = 0 ∨ q.v.k = 0
        · rw [if_pos hz, if_pos (by simpa using hz)]
        · rw [if_neg hz, if_neg (by simpa using hz)]
      · have e2 : vofsE 2 ⟨p.v, q.v, 0⟩ = ⟨nulV, nulV, 2⟩ := by
          unfold vofsE; simp only; rw [if_neg (by decide), if_neg hf]
        rw [if_neg hf, e2]
        rfl
    · rw [if_pos hq]
      have e1 : valsE p q = ⟨nulV, nulV, q.f⟩ := by unfold valsE; rw [if_neg (by rw [hp]; decide), if_pos hq]
      have e2 : vofsE 2 ⟨nulV, nulV, q.f⟩ = ⟨nulV, nulV, q.f⟩ := if_pos hq
      rw [e1, e2]
      exact (if_pos hq).symm
  · rw [if_pos hp]
    have e1 : valsE p q = ⟨nulV, nulV, p.f⟩ := if_pos hp
    have e2 : vofsE 2 ⟨nulV, nulV, p.f⟩ = ⟨nulV, nulV, p.f⟩ := if_pos hp
    rw [e1, e2]
    exact (if_pos hp).symm
/-- Numbers as the small functions give them. -/
theorem num_ok (x : Int) (w : World) : Calls Tryz.prog 209 #[.int .i64 (numN x), .int .i64 (numF x)] w fun e w' => e = .returned (.tuple #[valV (numE x).v, .int .i64 (numE x).f]) ∧ Below w.heap.size w w' := number_num x w
theorem num_div (a b : Int) (w : World) : Calls Tryz.prog 209 #[.int .i64 (divN a b), .int .i64 (divF a b)] w fun e w' => e = .returned (.tuple #[valV (arE 8 a b).v, .int .i64 (arE 8 a b).f]) ∧ Below w.heap.size w w' := by
  have e : arE 8 a b = if b = 0 then badE 7 else numE (a.tdiv b) := by unfold arE; rw [if_neg (by decide), if_neg (by decide), if_neg (by decide)]
  rw [e]
  unfold divN divF
  by_cases h : b = 0
  · rw [if_pos h, if_pos h, if_pos h]
    exact number_any 0 7 w
  · rw [if_neg h, if_neg h, if_neg h]
    exact number_num _ w
theorem shape_re (R : RE) : ∃ k i b S f, valV R.v = .agg #[.int .i64 k, .int .i64 i, .int .u64 b, .string S] ∧ R.f = f := ⟨_, _, _, _, _, rfl, rfl⟩
set_option maxHeartbeats 8000000 in
theorem eadd_any (w0 : World) (x y iva ivb : Value) (p q : RE) (hA : Says w0 x y iva p) (hB : Says w0 x y ivb q) (hp : OkR p) (hq : OkR q) (w : World) (hw : Below w0.heap.size w0 w) :
    Calls Tryz.prog 220 #[.agg #[iva, ivb], .agg #[x, y]] w fun e w' => e = .returned (.tuple #[valV (combE 5 [p, q]).v, .int .i64 (combE 5 [p, q]).f]) ∧ Below w.heap.size w w' := by
  have hs0 := hw.size
  obtain ⟨z0, z1, z3, hb3⟩ := three_new w #[iva, ivb] #[x, y] #[.int .i64 0, .int .i64 0, .int .u64 0, .string ⟨#[]⟩] 195 121 24
  generalize hw3 : ((w.alloc (.cells #[iva, ivb] 195)).alloc (.cells #[x, y] 121)).alloc (.cells #[.int .i64 0, .int .i64 0, .int .u64 0, .string ⟨#[]⟩] 24) = w3 at z0 z1 z3 hb3
  have p0 := z0.cell (j := 0) rfl
  have p00 := z0.cell (j := 1) rfl
  have p1 := z1.cell (j := 0) rfl
  have p2 := z1.cell (j := 1) rfl
  have c1 := reckoned_any w0 x y iva ivb p q hA hB hp hq 222 (fun a b => numN (a + b)) (fun a b => numF (a + b)) (arE 5) (fun a b W ha hb => esum_any a b W ha hb) (fun a b W => rfl) (fun a b W => num_ok (a + b) W) w3 (below_stepE hw hs0 hb3)
  rw [← comb_reck 5 (by omega) p q] at c1
  generalize combE 5 [p, q] = R at *
  obtain ⟨⟨k, i, b, s⟩, f⟩ := R
  unfold valV at c1 ⊢
  simp only at c1 ⊢
  generalize str s = S at *
  clear hA hB hp hq hw z0 z1
  have hrr : w.heap.size ≤ w.heap.size + 1 + 1 := by omega
  go_enter Tryz.func220, Tryz.ntmps220
  go_upto_region 1 with fail
  try rw [hw3]
  clear hw3
  go_wp2_with fail
  refine c1.mono ?_
  rintro e w4 ⟨rfl, hb4⟩
  have hb04 := below_stepE hb3 hb3.size hb4
  have z4 := z3.call hb4
  clear c1 hb4 p0 p00 p1 p2 z3 hb3
  generalize hgr : w.heap.size + 1 + 1 = gr at *
  clear hgr
  obtain ⟨⟨q0, q1, q2, q3⟩, f0, f1, f2, f3⟩ := z4.four
  have hfin := fun a b c d => below_set4 (a := a) (b := b) (c := c) (d := d) hb04 hrr
  go_wp2_with fail
  exact bodyPost_ret (results_val rfl _ _ gr _ _ _ _ rfl z4.set4) rfl ⟨rfl, hfin _ _ _ _⟩
set_option maxHeartbeats 8000000 in
theorem esub_any (w0 : World) (x y iva ivb : Value) (p q : RE) (hA : Says w0 x y iva p) (hB : Says w0 x y ivb q) (hp : OkR p) (hq : OkR q) (w : World) (hw : Below w0.heap.size w0 w) :
    Calls Tryz.prog 226 #[.agg #[iva, ivb], .agg #[x, y]] w fun e w' => e = .returned (.tuple #[valV (combE 6 [p, q]).v, .int .i64 (combE 6 [p, q]).f]) ∧ Below w.heap.size w w' := by
  have hs0 := hw.size
  obtain ⟨z0, z1, z3, hb3⟩ := three_new w #[iva, ivb] #[x, y] #[.int .i64 0, .int .i64 0, .int .u64 0, .string ⟨#[]⟩] 196 121 24
  generalize hw3 : ((w.alloc (.cells #[iva, ivb] 196)).alloc (.cells #[x, y] 121)).alloc (.cells #[.int .i64 0, .int .i64 0, .int .u64 0, .string ⟨#[]⟩] 24) = w3 at z0 z1 z3 hb3
  have p0 := z0.cell (j := 0) rfl
  have p00 := z0.cell (j := 1) rfl
  have p1 := z1.cell (j := 0) rfl
  have p2 := z1.cell (j := 1) rfl
  have c1 := reckoned_any w0 x y iva ivb p q hA hB hp hq 212 (fun a b => numN (a - b)) (fun a b => numF (a - b)) (arE 6) (fun a b W ha hb => edifference_any a b W ha hb) (fun a b W => rfl) (fun a b W => num_ok (a - b) W) w3 (below_stepE hw hs0 hb3)
  rw [← comb_reck 6 (by omega) p q] at c1
  generalize combE 6 [p, q] = R at *
  obtain ⟨⟨k, i, b, s⟩, f⟩ := R
  unfold valV at c1 ⊢
  simp only at c1 ⊢
  generalize str s = S at *
  clear hA hB hp hq hw z0 z1
  have hrr : w.heap.size ≤ w.heap.size + 1 + 1 := by omega
  go_enter Tryz.func226, Tryz.ntmps226
  go_upto_region 1 with fail
  try rw [hw3]
  clear hw3
  go_wp2_with fail
  refine c1.mono ?_
  rintro e w4 ⟨rfl, hb4⟩
  have hb04 := below_stepE hb3 hb3.size hb4
  have z4 := z3.call hb4
  clear c1 hb4 p0 p00 p1 p2 z3 hb3
  generalize hgr : w.heap.size + 1 + 1 = gr at *
  clear hgr
  obtain ⟨⟨q0, q1, q2, q3⟩, f0, f1, f2, f3⟩ := z4.four
  have hfin := fun a b c d => below_set4 (a := a) (b := b) (c := c) (d := d) hb04 hrr
  go_wp2_with fail
  exact bodyPost_ret (results_val rfl _ _ gr _ _ _ _ rfl z4.set4) rfl ⟨rfl, hfin _ _ _ _⟩
set_option maxHeartbeats 8000000 in
theorem emul_any (w0 : World) (x y iva ivb : Value) (p q : RE) (hA : Says w0 x y iva p) (hB : Says w0 x y ivb q) (hp : OkR p) (hq : OkR q) (w : World) (hw : Below w0.heap.size w0 w) :
    Calls Tryz.prog 227 #[.agg #[iva, ivb], .agg #[x, y]] w fun e w' => e = .returned (.tuple #[valV (combE 7 [p, q]).v, .int .i64 (combE 7 [p, q]).f]) ∧ Below w.heap.size w w' := by
  have hs0 := hw.size
  obtain ⟨z0, z1, z3, hb3⟩ := three_new w #[iva, ivb] #[x, y] #[.int .i64 0, .int .i64 0, .int .u64 0, .string ⟨#[]⟩] 197 121 24
  generalize hw3 : ((w.alloc (.cells #[iva, ivb] 197)).alloc (.cells #[x, y] 121)).alloc (.cells #[.int .i64 0, .int .i64 0, .int .u64 0, .string ⟨#[]⟩] 24) = w3 at z0 z1 z3 hb3
  have p0 := z0.cell (j := 0) rfl
  have p00 := z0.cell (j := 1) rfl
  have p1 := z1.cell (j := 0) rfl
  have p2 := z1.cell (j := 1) rfl
  have c1 := reckoned_any w0 x y iva ivb p q hA hB hp hq 228 (fun a b => numN (a * b)) (fun a b => numF (a * b)) (arE 7) (fun a b W ha hb => eproduct_any a b W ha hb) (fun a b W => rfl) (fun a b W => num_ok (a * b) W) w3 (below_stepE hw hs0 hb3)
  rw [← comb_reck 7 (by omega) p q] at c1
  generalize combE 7 [p, q] = R at *
  obtain ⟨⟨k, i, b, s⟩, f⟩ := R
  unfold valV at c1 ⊢
  simp only at c1 ⊢
  generalize str s = S at *
  clear hA hB hp hq hw z0 z1
  have hrr : w.heap.size ≤ w.heap.size + 1 + 1 := by omega
  go_enter Tryz.func227, Tryz.ntmps227
  go_upto_region 1 with fail
  try rw [hw3]
  clear hw3
  go_wp2_with fail
  refine c1.mono ?_
  rintro e w4 ⟨rfl, hb4⟩
  have hb04 := below_stepE hb3 hb3.size hb4
  have z4 := z3.call hb4
  clear c1 hb4 p0 p00 p1 p2 z3 hb3
  generalize hgr : w.heap.size + 1 + 1 = gr at *
  clear hgr
  obtain ⟨⟨q0, q1, q2, q3⟩, f0, f1, f2, f3⟩ := z4.four
  have hfin := fun a b c d => below_set4 (a := a) (b := b) (c := c) (d := d) hb04 hrr
  go_wp2_with fail
  exact bodyPost_ret (results_val rfl _ _ gr _ _ _ _ rfl z4.set4) rfl ⟨rfl, hfin _ _ _ _⟩
set_option maxHeartbeats 8000000 in
theorem ediv_any (w0 : World) (x y iva ivb : Value) (p q : RE) (hA : Says w0 x y iva p) (hB : Says w0 x y ivb q) (hp : OkR p) (hq : OkR q) (w : World) (hw : Below w0.heap.size w0 w) :
    Calls Tryz.prog 229 #[.agg #[iva, ivb], .agg #[x, y]] w fun e w' => e = .returned (.tuple #[valV (combE 8 [p, q]).v, .int .i64 (combE 8 [p, q]).f]) ∧ Below w.heap.size w w' := by
  have hs0 := hw.size
  obtain ⟨z0, z1, z3, hb3⟩ := three_new w #[iva, ivb] #[x, y] #[.int .i64 0, .int .i64 0, .int .u64 0, .string ⟨#[]⟩] 198 121 24
  generalize hw3 : ((w.alloc (.cells #[iva, ivb] 198)).alloc (.cells #[x, y] 121)).alloc (.cells #[.int .i64 0, .int .i64 0, .int .u64 0, .string ⟨#[]⟩] 24) = w3 at z0 z1 z3 hb3
  have p0 := z0.cell (j := 0) rfl
  have p00 := z0.cell (j := 1) rfl
  have p1 := z1.cell (j := 0) rfl
  have p2 := z1.cell (j := 1) rfl
  have c1 := reckoned_any w0 x y iva ivb p q hA hB hp hq 230 (divN) (divF) (arE 8) (fun a b W ha hb => equotient_any a b W ha hb) (fun a b W => rfl) (fun a b W => num_div a b W) w3 (below_stepE hw hs0 hb3)
  rw [← comb_reck 8 (by omega) p q] at c1
  generalize combE 8 [p, q] = R at *
  obtain ⟨⟨k, i, b, s⟩, f⟩ := R
  unfold valV at c1 ⊢
  simp only at c1 ⊢
  generalize str s = S at *
  clear hA hB hp hq hw z0 z1
  have hrr : w.heap.size ≤ w.heap.size + 1 + 1 := by omega
  go_enter Tryz.func229, Tryz.ntmps229
  go_upto_region 1 with fail
  try rw [hw3]
  clear hw3
  go_wp2_with fail
  refine c1.mono ?_
  rintro e w4 ⟨rfl, hb4⟩
  have hb04 := below_stepE hb3 hb3.size hb4
  have z4 := z3.call hb4
  clear c1 hb4 p0 p00 p1 p2 z3 hb3
  generalize hgr : w.heap.size + 1 + 1 = gr at *
  clear hgr
  obtain ⟨⟨q0, q1, q2, q3⟩, f0, f1, f2, f3⟩ := z4.four
  have hfin := fun a b c d => below_set4 (a := a) (b := b) (c := c) (d := d) hb04 hrr
  go_wp2_with fail
  exact bodyPost_ret (results_val rfl _ _ gr _ _ _ _ rfl z4.set4) rfl ⟨rfl, hfin _ _ _ _⟩
end Go.Proofs.YtfedlchncngafaaGreatDoor

/-! CONTRACTS of package eval's comparisons: questions, swapped and denied ones, and the six operations that ask them. CONDITIONS: each theorem's own hypotheses; the tables 'Tabs' hold what their initialisers lay. -/
namespace Go.Proofs.YtfedlchncngafaaGreatDoor
open Go.RowKit
set_option linter.unusedVariables false
set_option maxRecDepth 100000

def TQ (op : Int) (a b : Vl) : Int := if a.k = 0 ∨ b.k = 0 then 1 else if a.k = b.k then (if whichC op (ordV (toV a) (toV b)) = true then 2 else 0) else 0
def FQ (a b : Vl) : Int := if a.k = 0 ∨ b.k = 0 then 0 else if a.k = b.k then 0 else 2
theorem comb_comp (op : Int) (h : 9 ≤ op ∧ op ≤ 14) (p q : RE) : combE op [p, q] = compR (TQ op) FQ (valsE p q) := by
  rw [comb_two op p q (short_not op _ (by omega))]
  by_cases hp : p.f = 0
  · rw [if_neg (by rw [hp]; decide)]
    by_cases hq : q.f = 0
    · rw [if_neg (by rw [hq]; decide)]
      have e1 : valsE p q = ⟨p.v, q.v, 0⟩ := by unfold valsE; rw [if_neg (by rw [hp]; decide), if_neg (by rw [hq]; decide)]
      rw [e1]
      have e2 : op2E op p.v q.v = cmpE op p.v q.v := by unfold op2E; rw [if_neg (by omega), if_neg (by omega), if_neg (by omega), if_neg (by omega), if_neg (by omega)]
      rw [e2]
      have e3 : compR (TQ op) FQ ⟨p.v, q.v, 0⟩ = tolF (TQ op p.v q.v) (FQ p.v q.v) := if_neg (show ¬ ((0 : Int) ≠ 0) by decide)
      rw [e3]
      unfold cmpE tolF TQ FQ
      by_cases hz : p.v.k = 0 ∨ q.v.k = 0
      · rw [if_pos hz, if_pos hz, if_pos hz, if_neg (by decide)]; rfl
      · rw [if_neg hz, if_neg hz, if_neg hz]
        by_cases hk : p.v.k = q.v.k
        · rw [if_pos hk, if_pos hk, if_pos hk, if_neg (by decide)]
          cases whichC op (ordV (toV p.v) (toV q.v)) <;> rfl
        · rw [if_neg hk, if_neg hk, if_neg hk, if_pos (by decide)]
    · rw [if_pos hq]
      have e1 : valsE p q = ⟨nulV, nulV, q.f⟩ := by unfold valsE; rw [if_neg (by rw [hp]; decide), if_pos hq]
      rw [e1]
      exact (if_pos hq).symm
  · rw [if_pos hp]
    have e1 : valsE p q = ⟨nulV, nulV, p.f⟩ := if_pos hp
    rw [e1]
    exact (if_pos hp).symm
theorem chk2_ok (a b : Vl) (ha : OkV a) (hb : OkV b) : chk2 (toV a) (toV b) = 0 := by
  unfold chk2
  have h1 : (toV a).chk = 0 := ha.chk
  have h2 : (toV b).chk = 0 := hb.chk
  rw [if_pos h1]; exact h2
theorem toV_fits (a : Vl) (ha : OkV a) : (toV a).Fits := by
  have h := ha.fit
  have k := chkV_open a ha.chk
  exact ⟨by show (-9223372036854775808 : Int) ≤ a.k; omega, by show a.k ≤ 9223372036854775807; omega, h.i0, h.i1, h.b0, h.b1, by show (str a.s).size ≤ 9223372036854775807; rw [str_size]; omega⟩
theorem ask_T (op : Int) (a b : Vl) (ha : OkV a) (hb : OkV b) (p : Bool) (hp : p = whichC op (ordV (toV a) (toV b))) : askT (toV a) (toV b) p = TQ op a b := by
  unfold askT TQ
  rw [chk2_ok a b ha hb, if_pos rfl, hp]
  rfl
theorem ask_E (a b : Vl) (ha : OkV a) (hb : OkV b) : askE (toV a) (toV b) = FQ a b := by
  unfold askE FQ
  rw [chk2_ok a b ha hb, if_pos rfl]
  rfl
theorem TQ_swap (a b : Vl) : TQ 11 b a = TQ 13 a b := by
  unfold TQ
  have hw : whichC 11 (ordV (toV b) (toV a)) = whichC 13 (ordV (toV a) (toV b)) := by
    rw [ordV_anti (toV a) (toV b)]
    show decide (-ordV (toV a) (toV b) < 0) = decide (0 < ordV (toV a) (toV b))
    exact decide_eq_decide.2 (by omega)
  rw [hw]
  by_cases hz : a.k = 0 ∨ b.k = 0
  · rw [if_pos hz, if_pos (by omega)]
  · rw [if_neg hz, if_neg (by omega)]
    by_cases hk : a.k = b.k
    · rw [if_pos hk, if_pos (by omega)]
    · rw [if_neg hk, if_neg (by omega)]
theorem FQ_swap (a b : Vl) : FQ b a = FQ a b := by
  unfold FQ
  by_cases hz : a.k = 0 ∨ b.k = 0
  · rw [if_pos hz, if_pos (by omega)]
  · rw [if_neg hz, if_neg (by omega)]
    by_cases hk : a.k = b.k
    · rw [if_pos hk, if_pos (by omega)]
    · rw [if_neg hk, if_neg (by omega)]
theorem TQ_not (op op' : Int) (h : ∀ c, whichC op' c = !whichC op c) (a b : Vl) : TQ op' a b = if FQ a b ≠ 0 then 0 else 2 - TQ op a b := by
  unfold TQ FQ
  by_cases hz : a.k = 0 ∨ b.k = 0
  · rw [if_pos hz, if_pos hz, if_pos hz, if_neg (by decide)]; rfl
  · rw [if_neg hz, if_neg hz, if_neg hz]
    by_cases hk : a.k = b.k
    · rw [if_pos hk, if_pos hk, if_pos hk, h, if_neg (show ¬ ((0 : Int) ≠ 0) by decide)]
      cases whichC op (ordV (toV a) (toV b)) <;> rfl
    · rw [if_neg hk, if_neg hk, if_neg hk, if_pos (by decide)]
theorem TQ_rng (op : Int) (a b : Vl) : TQ op a b = 0 ∨ TQ op a b = 1 ∨ TQ op a b = 2 := by
  unfold TQ
  repeat' split
  all_goals first | exact .inl rfl | exact .inr (.inl rfl) | exact .inr (.inr rfl)
/-- A question: what a function value answers of two values that may be, in each world in which the tables lie. -/
def Asks (K : FuncId) (op : Int) (W : World) : Prop := ∀ a b, OkV a → OkV b → Calls Tryz.prog K #[valV a, valV b] W fun e w' => e = .returned (.tuple #[.int .i64 (TQ op a b), .int .i64 (FQ a b)]) ∧ Below W.heap.size W w'
theorem equal_asks (W : World) (hT : Tabs W) : Asks 233 9 W := fun a b ha hb => by
  have := equal_any (toV a) (toV b) W (toV_fits a ha) (toV_fits b hb) hT
  rw [ask_T 9 a b ha hb _ (by unfold whichC; rw [if_pos rfl]), ask_E a b ha hb] at this
  exact this
theorem less_asks (W : World) (hT : Tabs W) : Asks 247 11 W := fun a b ha hb => by
  have := less_any (toV a) (toV b) W (toV_fits a ha) (toV_fits b hb) hT
  rw [ask_T 11 a b ha hb _ (by unfold whichC; rw [if_neg (by decide), if_neg (by decide), if_pos rfl]), ask_E a b ha hb] at this
  exact this
theorem two_newV (w : World) (a b : Vl) : Blk ((w.alloc (.cells #[.int .i64 a.k, .int .i64 a.i, .int .u64 a.b, .string (str a.s)] 24)).alloc (.cells #[.int .i64 b.k, .int .i64 b.i, .int .u64 b.b, .string (str b.s)] 24)) w.heap.size 24 [.int .i64 a.k, .int .i64 a.i, .int .u64 a.b, .string (str a.s)] ∧ Blk ((w.alloc (.cells #[.int .i64 a.k, .int .i64 a.i, .int .u64 a.b, .string (str a.s)] 24)).alloc (.cells #[.int .i64 b.k, .int .i64 b.i, .int .u64 b.b, .string (str b.s)] 24)) (w.heap.size + 1) 24 [.int .i64 b.k, .int .i64 b.i, .int .u64 b.b, .string (str b.s)] ∧ Below w.heap.size w ((w.alloc (.cells #[.int .i64 a.k, .int .i64 a.i, .int .u64 a.b, .string (str a.s)] 24)).alloc (.cells #[.int .i64 b.k, .int .i64 b.i, .int .u64 b.b, .string (str b.s)] 24)) :=
  two_new w #[.int .i64 a.k, .int .i64 a.i, .int .u64 a.b, .string (str a.s)] #[.int .i64 b.k, .int .i64 b.i, .int .u64 b.b, .string (str b.s)] _ _
set_option maxHeartbeats 8000000 in
theorem swapped1_any (gq : Nat) (W : World) (hT : Tabs W) (hcell : W.cell? ⟨gq, 0, none⟩ = some (.func (.func 247) #[] #[])) (hg : gq < W.heap.size) (a b : Vl) (ha : OkV a) (hb : OkV b) :
    Calls Tryz.prog 251 #[valV a, valV b, .pointer (some ⟨gq, 0, none⟩)] W fun e w' => e = .returned (.tuple #[.int .i64 (TQ 13 a b), .int .i64 (FQ a b)]) ∧ Below W.heap.size W w' := by
  obtain ⟨z0, z1, hb2⟩ := two_newV W a b
  generalize hw2 : (W.alloc (.cells #[.int .i64 a.k, .int .i64 a.i, .int .u64 a.b, .string (str a.s)] 24)).alloc (.cells #[.int .i64 b.k, .int .i64 b.i, .int .u64 b.b, .string (str b.s)] 24) = w2 at z0 z1 hb2
  have c1 := less_asks w2 (tabs_below hT hb2) b a hb ha
  rw [TQ_swap, FQ_swap] at c1
  have p := (hb2.cell (p := ⟨gq, 0, none⟩) hg).trans hcell
  obtain ⟨⟨p0, p1, p2, p3⟩, _⟩ := z0.four
  obtain ⟨⟨q0, q1, q2, q3⟩, _⟩ := z1.four
  generalize TQ 13 a b = tt at *
  generalize FQ a b = ff at *
  unfold valV at c1 ⊢
  obtain ⟨k, i, bb, s⟩ := a
  obtain ⟨k', i', bb', s'⟩ := b
  simp only at *
  generalize str s = S at *
  generalize str s' = S' at *
  clear hT hcell ha hb z0 z1
  go_enter Tryz.func251, Tryz.ntmps251
  go_upto_region 1 with fail
  try rw [hw2]
  clear hw2
  go_wp2_with fail
  refine c1.mono ?_
  rintro e w4 ⟨rfl, hb4⟩
  have hb04 := below_stepE hb2 hb2.size hb4
  clear c1 hb4 p p0 p1 p2 p3 q0 q1 q2 q3
  go_wp2_with fail
  go_ret2
  exact ⟨rfl, hb04⟩
set_option maxHeartbeats 8000000 in
theorem denied1_0 (op op' : Int) (hop : ∀ c, whichC op' c = !whichC op c) (gq : Nat) (W : World) (K : FuncId) (hcell : W.cell? ⟨gq, 0, none⟩ = some (.func (.func K) #[] #[])) (hg : gq < W.heap.size)
    (hcall : ∀ a b W, (callFunc K #[valV a, valV b]).run Tryz.prog W = .ok (.enter K #[valV a, valV b]) W) (a b : Vl) (ha : OkV a) (hb : OkV b)
    (hK : ∀ W', Below W.heap.size W W' → Calls Tryz.prog K #[valV a, valV b] W' fun e w' => e = .returned (.tuple #[.int .i64 (TQ op a b), .int .i64 (FQ a b)]) ∧ Below W'.heap.size W' w') :
    Calls Tryz.prog 245 #[valV a, valV b, .pointer (some ⟨gq, 0, none⟩)] W fun e w' => e = .returned (.tuple #[.int .i64 (TQ op' a b), .int .i64 (FQ a b)]) ∧ Below W.heap.size W w' := by
  obtain ⟨z0, z1, hb2⟩ := two_newV W a b
  generalize hw2 : (W.alloc (.cells #[.int .i64 a.k, .int .i64 a.i, .int .u64 a.b, .string (str a.s)] 24)).alloc (.cells #[.int .i64 b.k, .int .i64 b.i, .int .u64 b.b, .string (str b.s)] 24) = w2 at z0 z1 hb2
  have c1 := hK w2 hb2
  have cL := fun W => hcall a b W
  rw [TQ_not op op' hop a b]
  have cN := fun W => vNot_any (TQ op a b) (TQ_rng op a b) W
  have p := (hb2.cell (p := ⟨gq, 0, none⟩) hg).trans hcell
  obtain ⟨⟨p0, p1, p2, p3⟩, _⟩ := z0.four
  obtain ⟨⟨q0, q1, q2, q3⟩, _⟩ := z1.four
  generalize TQ op a b = tt at *
  generalize FQ a b = ff at *
  unfold valV at c1 cL ⊢
  obtain ⟨k, i, bb, s⟩ := a
  obtain ⟨k', i', bb', s'⟩ := b
  simp only at *
  generalize str s = S at *
  generalize str s' = S' at *
  clear hcell ha hb z0 z1 hK hcall
  by_cases hf : ff = 0
  · subst hf
    rw [if_neg (by decide)]
    go_enter Tryz.func245, Tryz.ntmps245
    go_upto_region 1 with fail
    try rw [hw2]
    clear hw2
    go_wp2_with fail
    refine c1.mono ?_
    rintro e w4 ⟨rfl, hb4⟩
    have hb04 := below_stepE hb2 hb2.size hb4
    clear c1 cL hb4 p p0 p1 p2 p3 q0 q1 q2 q3
    go_wp2_with fail
    refine (cN _).mono ?_
    rintro e w5 ⟨rfl, rfl⟩
    clear cN
    go_wp2_with fail
    go_ret2
    exact ⟨rfl, hb04⟩
  · have hf1 : (ff != 0) = true := by simpa using hf
    rw [if_pos hf]
    clear cN
    go_enter Tryz.func245, Tryz.ntmps245
    go_upto_region 1 with fail
    try rw [hw2]
    clear hw2
    go_wp2_with fail
    refine c1.mono ?_
    rintro e w4 ⟨rfl, hb4⟩
    have hb04 := below_stepE hb2 hb2.size hb4
    clear c1 cL hb4 p p0 p1 p2 p3 q0 q1 q2 q3
    go_wp2_with fail
    go_ret2
    exact ⟨rfl, hb04⟩
set_option maxHeartbeats 8000000 in
theorem denied1_1 (op op' : Int) (hop : ∀ c, whichC op' c = !whichC op c) (gq : Nat) (W : World) (K : FuncId) (g2 : Nat) (hcell : W.cell? ⟨gq, 0, none⟩ = some (.func (.func K) #[] #[.pointer (some ⟨g2, 0, none⟩)])) (hg : gq < W.heap.size)
    (hcall : ∀ a b W, (callFunc K #[valV a, valV b, .pointer (some ⟨g2, 0, none⟩)]).run Tryz.prog W = .ok (.enter K #[valV a, valV b, .pointer (some ⟨g2, 0, none⟩)]) W) (a b : Vl) (ha : OkV a) (hb : OkV b)
    (hK : ∀ W', Below W.heap.size W W' → Calls Tryz.prog K #[valV a, valV b, .pointer (some ⟨g2, 0, none⟩)] W' fun e w' => e = .returned (.tuple #[.int .i64 (TQ op a b), .int .i64 (FQ a b)]) ∧ Below W'.heap.size W' w') :
    Calls Tryz.prog 245 #[valV a, valV b, .pointer (some ⟨gq, 0, none⟩)] W fun e w' => e = .returned (.tuple #[.int .i64 (TQ op' a b), .int .i64 (FQ a b)]) ∧ Below W.heap.size W w' := by
  obtain ⟨z0, z1, hb2⟩ := two_newV W a b
  generalize hw2 : (W.alloc (.cells #[.int .i64 a.k, .int .i64 a.i, .int .u64 a.b, .string (str a.s)] 24)).alloc (.cells #[.int .i64 b.k, .int .i64 b.i, .int .u64 b.b, .string (str b.s)] 24) = w2 at z0 z1 hb2
  have c1 := hK w2 hb2
  have cL := fun W => hcall a b W
  rw [TQ_not op op' hop a b]
  have cN := fun W => vNot_any (TQ op a b) (TQ_rng op a b) W
  have p := (hb2.cell (p := ⟨gq, 0, none⟩) hg).trans hcell
  obtain ⟨⟨p0, p1, p2, p3⟩, _⟩ := z0.four
  obtain ⟨⟨q0, q1, q2, q3⟩, _⟩ := z1.four
  generalize TQ op a b = tt at *
  generalize FQ a b = ff at *
  unfold valV at c1 cL ⊢
  obtain ⟨k, i, bb, s⟩ := a
  obtain ⟨k', i', bb', s'⟩ := b
  simp only at *
  generalize str s = S at *
  generalize str s' = S' at *
  clear hcell ha hb z0 z1 hK hcall
  by_cases hf : ff = 0
  · subst hf
    rw [if_neg (by decide)]
    go_enter Tryz.func245, Tryz.ntmps245
    go_upto_region 1 with fail
    try rw [hw2]
    clear hw2
    go_wp2_with fail
    refine c1.mono ?_
    rintro e w4 ⟨rfl, hb4⟩
    have hb04 := below_stepE hb2 hb2.size hb4
    clear c1 cL hb4 p p0 p1 p2 p3 q0 q1 q2 q3
    go_wp2_with fail
    refine (cN _).mono ?_
    rintro e w5 ⟨rfl, rfl⟩
    clear cN
    go_wp2_with fail
    go_ret2
    exact ⟨rfl, hb04⟩
  · have hf1 : (ff != 0) = true := by simpa using hf
    rw [if_pos hf]
    clear cN
    go_enter Tryz.func245, Tryz.ntmps245
    go_upto_region 1 with fail
    try rw [hw2]
    clear hw2
    go_wp2_with fail
    refine c1.mono ?_
    rintro e w4 ⟨rfl, hb4⟩
    have hb04 := below_stepE hb2 hb2.size hb4
    clear c1 cL hb4 p p0 p1 p2 p3 q0 q1 q2 q3
    go_wp2_with fail
    go_ret2
    exact ⟨rfl, hb04⟩
def MadeF (F : FuncId) (fv : Value) (w : World) (e : Ending) (w' : World) : Prop := ∃ g, e = .returned (.func (.func F) #[] #[.pointer (some ⟨g, 0, none⟩)]) ∧ w.heap.size ≤ g ∧ g < w'.heap.size ∧ w'.cell? ⟨g, 0, none⟩ = some fv ∧ Below w.heap.size w w'
set_option maxHeartbeats 4000000 in
theorem swapped_any (fv : Value) (hfv : ∃ K c, fv = .func (.func K) #[] c) (w : World) : Calls Tryz.prog 250 #[fv] w (MadeF 251 fv w) := by
  obtain ⟨K, c, rfl⟩ := hfv
  go_enter Tryz.func250, Tryz.ntmps250
  go_wp2_with fail
  go_ret
  exact ⟨w.heap.size, rfl, Nat.le_refl _, by simp, (Blk.new w #[.func (.func K) #[] c] _).cell (j := 0) rfl, (Below.refl _ _).alloc (Nat.le_refl _) _⟩
set_option maxHeartbeats 4000000 in
theorem denied_any (fv : Value) (hfv : ∃ K c, fv = .func (.func K) #[] c) (w : World) : Calls Tryz.prog 244 #[fv] w (MadeF 245 fv w) := by
  obtain ⟨K, c, rfl⟩ := hfv
  go_enter Tryz.func244, Tryz.ntmps244
  go_wp2_with fail
  go_ret
  exact ⟨w.heap.size, rfl, Nat.le_refl _, by simp, (Blk.new w #[.func (.func K) #[] c] _).cell (j := 0) rfl, (Below.refl _ _).alloc (Nat.le_refl _) _⟩
end Go.Proofs.YtfedlchncngafaaGreatDoor

/-! CONTRACT of package eval's settled. CONDITIONS: each theorem's own hypotheses. -/
namespace Go.Proofs.YtfedlchncngafaaGreatDoor
open Go.RowKit
set_option linter.unusedVariables false
set_option maxRecDepth 100000

theorem eqBoo (v : Vl) (h : OkV v) (D : Bool) (w : World) : (binOp .eql 24 (valV v) (valV (booV D))).run Tryz.prog w = .ok (.bool (v.k == 1 && v.i == (if D = true then 1 else 0))) w := by
  rcases h.cases with rfl | ⟨b, rfl⟩ | ⟨n, rfl, _, _⟩ | ⟨hk, hi, hs⟩ | ⟨s, rfl, _, _⟩
  · cases D <;> (unfold valV nulV booV; go_simp)
  · cases b <;> cases D <;> (unfold valV booV; go_simp)
  · cases D <;> (unfold valV intV booV; go_simp)
  · obtain ⟨k, i, b, s⟩ := v
    simp only at hk hi hs
    subst hk hi hs
    cases D <;> (unfold valV booV; go_simp)
  · cases D <;> (unfold valV txtV booV; go_simp)
def settE (D : Bool) (st : Int → Int → Int) (p q : RE) : RE :=
  if p.f ≠ 0 then badE p.f else if (p.v.k == 1 && p.v.i == (if D = true then 1 else 0)) = true then okE p.v else if q.f ≠ 0 then badE q.f else if (fitE p.v 1 && fitE q.v 1) = true then tolE (st (trT p.v) (trT q.v)) else badE 2
set_option maxHeartbeats 32000000 in
theorem settled_any (w0 : World) (x y iva ivb : Value) (p q : RE) (hA : Says w0 x y iva p) (hB : Says w0 x y ivb q) (hp : OkR p) (hq : OkR q) (D : Bool) (F : FuncId) (st : Int → Int → Int)
    (hF : ∀ a b W, (a = 0 ∨ a = 1 ∨ a = 2) → (b = 0 ∨ b = 1 ∨ b = 2) → Calls Tryz.prog F #[.int .i64 a, .int .i64 b] W fun e w' => e = .returned (.tuple #[.int .i64 (st a b), .int .i64 0]) ∧ w' = W)
    (hcall : ∀ a b W, (callFunc F #[.int .i64 a, .int .i64 b]).run Tryz.prog W = .ok (.enter F #[.int .i64 a, .int .i64 b]) W)
    (w : World) (hw : Below w0.heap.size w0 w) :
    Calls Tryz.prog 255 #[.agg #[iva, ivb], .agg #[x, y], valV (booV D), .func (.func F) #[] #[]] w fun e w' => e = .returned (.tuple #[valV (settE D st p q).v, .int .i64 (settE D st p q).f]) ∧ Below w.heap.size w w' := by
  obtain ⟨ty, rv, K, rfl, hn, hm, hc, hC⟩ := hA
  obtain ⟨ty', rv', K', rfl, hn', hm', hc', hC'⟩ := hB
  have hs0 := hw.size
  have hR : settE D st p q = if p.f ≠ 0 then badE p.f else if (p.v.k == 1 && p.v.i == (if D = true then 1 else 0)) = true then okE p.v else if q.f ≠ 0 then badE q.f else if (fitE p.v 1 && fitE q.v 1) = true then tolE (st (trT p.v) (trT q.v)) else badE 2 := rfl
  have qE := eqBoo p.v hp.v D
  generalize settE D st p q = R at *
  obtain ⟨DV, hDV⟩ : ∃ DV : Int, (if D = true then (1 : Int) else 0) = DV := ⟨_, rfl⟩
  have hboo : valV (booV D) = .agg #[.int .i64 1, .int .i64 DV, .int .u64 0, .string ⟨#[]⟩] := by unfold booV; rw [hDV]; rfl
  rw [hDV] at hR qE
  rw [hboo] at qE ⊢
  generalize hE : (p.v.k == 1 && p.v.i == DV) = E at *
  have HR := Lib.hid hR
  have HTa := Lib.hid (fun W => etruthOf_any p.v hp.v W)
  have HTb := Lib.hid (fun W => etruthOf_any q.v hq.v W)
  have cFa := fun W => efits_any p.v 1 W
  have cFb := fun W => efits_any q.v 1 W
  have cS := fun W => hF (trT p.v) (trT q.v) W (trT_rng _) (trT_rng _)
  have cL := fun W => hcall (trT p.v) (trT q.v) W
  have cM := fun W => told_any (st (trT p.v) (trT q.v)) 0 W
  rw [show tolF (st (trT p.v) (trT q.v)) 0 = tolE (st (trT p.v) (trT q.v)) from if_neg (by decide)] at cM
  have cS2 := fun W => (cS W).mono (fun e w' h => (⟨h.1, by rw [h.2]; exact Below.refl _ _⟩ : e = .returned (.tuple #[.int .i64 (st (trT p.v) (trT q.v)), .int .i64 0]) ∧ Below W.heap.size W w'))
  have cTa := HTa.out
  have cTb := HTb.out
  have hbad := hp.bad
  clear hR hp hq hDV hboo hE HTa HTb hF hcall
  obtain ⟨z0, z1, z2, z3, hb3⟩ := four_new w #[.iface ty rv, .iface ty' rv'] #[x, y] #[.int .i64 1, .int .i64 DV, .int .u64 0, .string ⟨#[]⟩] #[.int .i64 0, .int .i64 0, .int .u64 0, .string ⟨#[]⟩] 154 121 24 24
  generalize hw3 : (((w.alloc (.cells #[.iface ty rv, .iface ty' rv'] 154)).alloc (.cells #[x, y] 121)).alloc (.cells #[.int .i64 1, .int .i64 DV, .int .u64 0, .string ⟨#[]⟩] 24)).alloc (.cells #[.int .i64 0, .int .i64 0, .int .u64 0, .string ⟨#[]⟩] 24) = w3 at z0 z1 z2 z3 hb3
  have p0 := z0.cell (j := 0) rfl
  have p00 := z0.cell (j := 1) rfl
  have p1 := z1.cell (j := 0) rfl
  have p2 := z1.cell (j := 1) rfl
  have c1 := hC w3 (below_stepE hw hs0 hb3)
  have c2 := fun W (h : Below w.heap.size w W) => hC' W (below_stepE hw hs0 h)
  clear hC hC' hw
  obtain ⟨⟨k, i, b, s⟩, f⟩ := p
  obtain ⟨⟨k', i', b', s'⟩, f'⟩ := q
  simp only at qE cFa cFb cS cS2 cL cM cTa cTb c1 c2 HR hbad
  generalize trT ⟨k, i, b, s⟩ = ta at *
  generalize trT ⟨k', i', b', s'⟩ = tb at *
  generalize fitE ⟨k, i, b, s⟩ 1 = FA at *
  generalize fitE ⟨k', i', b', s'⟩ 1 = FB at *
  unfold valV at qE cFa cFb cTa cTb c1 c2
  simp only at qE cFa cFb cTa cTb c1 c2
  obtain ⟨S, hS⟩ : ∃ S, str s = S := ⟨_, rfl⟩
  obtain ⟨S', hS'⟩ : ∃ S', str s' = S' := ⟨_, rfl⟩
  simp only [hS, hS'] at qE cFa cFb cTa cTb c1 c2
  have HS := Lib.hid hS
  have HS' := Lib.hid hS'
  have HBAD := Lib.hid hbad
  clear hS hS' hbad
  generalize tolE (st ta tb) = RR at *
  generalize st ta tb = tt at *
  obtain ⟨⟨rk, ri, rb, rs⟩, rf⟩ := RR
  unfold valV at cM
  simp only at cM
  have hrr : w.heap.size ≤ w.heap.size + 1 + 1 + 1 := by omega
  go_enter Tryz.func255, Tryz.ntmps255
  go_upto_region 1 with fail
  try rw [hw3]
  clear hw3
  go_wp2_with fail
  refine c1.mono ?_
  rintro e w4 ⟨rfl, hb4⟩
  have hb04 := below_stepE hb3 hb3.size hb4
  have y0 := z0.call hb4
  have y1 := z1.call hb4
  have y2 := z2.call hb4
  have y3 := z3.call hb4
  clear c1 hb4 p0 p00 p1 p2 z0 z1 z2 z3 hb3
  have yA := Blk.new w4 #[.int .i64 k, .int .i64 i, .int .u64 b, .string S] 24
  have hb45 : Below w4.heap.size w4 (w4.alloc (.cells #[.int .i64 k, .int .i64 i, .int .u64 b, .string S] 24)) := (Below.refl _ _).alloc (Nat.le_refl _) _
  have v0 := y0.call hb45
  have v1 := y1.call hb45
  have v2 := y2.call hb45
  have v3 := y3.call hb45
  have hb05 := below_stepE hb04 hb04.size hb45
  go_upto_region 2 with fail
  generalize hw5 : w4.alloc (.cells #[.int .i64 k, .int .i64 i, .int .u64 b, .string S] 24) = w5 at *
  clear hw5 y0 y1 y2 y3 hb04 hb45
  generalize w4.heap.size = g at *
  generalize hgr : w.heap.size + 1 + 1 + 1 = gr at *
  clear hgr
  obtain ⟨⟨a0, a1, a2, a3⟩, _⟩ := yA.four
  obtain ⟨⟨e0, e1, e2, e3⟩, _⟩ := v2.four
  by_cases hf : f = 0
  · subst hf
    have HRa : Hid (R = if E = true then okE ⟨k, i, b, s⟩ else if f' ≠ 0 then badE f' else if (FA && FB) = true then ⟨⟨rk, ri, rb, rs⟩, rf⟩ else badE 2) := by have := HR.out; rw [if_neg (by decide)] at this; exact this
    clear HR HBAD
    cases E
    · have HRb : Hid (R = if f' ≠ 0 then badE f' else if (FA && FB) = true then ⟨⟨rk, ri, rb, rs⟩, rf⟩ else badE 2) := HRa.out
      have p0 := v0.cell (j := 0) rfl
      have p00 := v0.cell (j := 1) rfl
      have p1 := v1.cell (j := 0) rfl
      have p2 := v1.cell (j := 1) rfl
      have d2 := c2 w5 hb05
      clear HRa c2
      go_wp2_with fail
      refine d2.mono ?_
      rintro e w6 ⟨rfl, hb6⟩
      have hb06 := below_stepE hb05 hb05.size hb6
      have xA := yA.call hb6
      have x3 := v3.call hb6
      clear d2 hb6 p0 p00 p1 p2 v0 v1 v2 v3 hb05 yA a0 a1 a2 a3 e0 e1 e2 e3 qE
      have yB := Blk.new w6 #[.int .i64 k', .int .i64 i', .int .u64 b', .string S'] 24
      have hb67 : Below w6.heap.size w6 (w6.alloc (.cells #[.int .i64 k', .int .i64 i', .int .u64 b', .string S'] 24)) := (Below.refl _ _).alloc (Nat.le_refl _) _
      have yA := xA.call hb67
      have z6 := x3.call hb67
      have hb07 := below_stepE hb06 hb06.size hb67
      go_upto_region 5 with fail
      generalize hw7 : w6.alloc (.cells #[.int .i64 k', .int .i64 i', .int .u64 b', .string S'] 24) = w7 at *
      clear hw7 xA x3 hb06 hb67
      generalize w6.heap.size = g' at *
      obtain ⟨⟨a0, a1, a2, a3⟩, _⟩ := yA.four
      obtain ⟨⟨b0, b1, b2, b3⟩, _⟩ := yB.four
      by_cases hf' : f' = 0
      · subst hf'
        have HRc : Hid (R = if (FA && FB) = true then ⟨⟨rk, ri, rb, rs⟩, rf⟩ else badE 2) := by have := HRb.out; rw [if_neg (by decide)] at this; exact this
        clear HRb
        go_wp2_with fail
        refine (cFa _).mono ?_
        rintro e w8 ⟨rfl, hb8⟩
        have hb08 := below_stepE hb07 hb07.size hb8
        have xA := yA.call hb8
        have xB := yB.call hb8
        have x6 := z6.call hb8
        clear cFa hb8 hb07 yA yB z6 a0 a1 a2 a3 b0 b1 b2 b3
        obtain ⟨⟨b0, b1, b2, b3⟩, _⟩ := xB.four
        cases FA
        · have HR2 : Hid (R = badE 2) := HRc.out
          clear HRc cFb cS cM cTa cTb
          obtain ⟨⟨q0, q1, q2, q3⟩, f0, f1, f2, f3⟩ := x6.four
          have hfin := fun a b c d => below_set4 (a := a) (b := b) (c := c) (d := d) hb08 hrr
          go_wp2_with fail
          exact bodyPost_ret (results_val rfl _ _ gr _ _ _ _ rfl x6.set4) rfl ⟨by rw [HR2.out]; rfl, hfin _ _ _ _⟩
        · go_wp2_with fail
          refine (cFb _).mono ?_
          rintro e w9 ⟨rfl, hb9⟩
          have hb09 := below_stepE hb08 hb08.size hb9
          have yA := xA.call hb9
          have yB := xB.call hb9
          have z6 := x6.call hb9
          clear cFb hb9 hb08 xA xB x6 b0 b1 b2 b3
          cases FB
          · have HR2 : Hid (R = badE 2) := HRc.out
            clear HRc cS cM cTa cTb
            obtain ⟨⟨q0, q1, q2, q3⟩, f0, f1, f2, f3⟩ := z6.four
            have hfin := fun a b c d => below_set4 (a := a) (b := b) (c := c) (d := d) hb09 hrr
            go_wp2_with fail
            exact bodyPost_ret (results_val rfl _ _ gr _ _ _ _ rfl z6.set4) rfl ⟨by rw [HR2.out]; rfl, hfin _ _ _ _⟩
          · have HR2 : Hid (R = ⟨⟨rk, ri, rb, rs⟩, rf⟩) := HRc.out
            clear HRc
            obtain ⟨⟨a0, a1, a2, a3⟩, _⟩ := yA.four
            obtain ⟨⟨b0, b1, b2, b3⟩, _⟩ := yB.four
            go_upto_region 9 with fail
            refine wp_region_det 11 (by kernel_rfl) (by kernel_rfl) (by kernel_rfl) ?_
            simp only [List.take_succ_cons, List.take_zero, List.drop_succ_cons, List.drop_zero]
            apply wpDet_plain _ rfl; (focus (intro W hW; go_simp; exact ⟨rfl, Below.refl _ _⟩)); simp only [Act.put, List.setIfInBounds_toArray, List.set_cons_zero, List.set_cons_succ]
            apply wpDet_plain _ rfl; (focus (intro W hW; obtain ⟨⟨a0, a1, a2, a3⟩, _⟩ := (yA.call hW).four; go_simp; exact ⟨rfl, Below.refl _ _⟩)); simp only [Act.put, List.setIfInBounds_toArray, List.set_cons_zero, List.set_cons_succ]
            apply wpDet_plain _ rfl; (focus (intro W hW; go_simp; exact cTa W)); simp only [Act.put, List.setIfInBounds_toArray, List.set_cons_zero, List.set_cons_succ]
            apply wpDet_plain _ rfl; (focus (intro W hW; obtain ⟨⟨b0, b1, b2, b3⟩, _⟩ := (yB.call hW).four; go_simp; exact ⟨rfl, Below.refl _ _⟩)); simp only [Act.put, List.setIfInBounds_toArray, List.set_cons_zero, List.set_cons_succ]
            apply wpDet_plain _ rfl; (focus (intro W hW; go_simp; exact cTb W)); simp only [Act.put, List.setIfInBounds_toArray, List.set_cons_zero, List.set_cons_succ]
            apply wpDet_plain _ rfl; (focus (intro W hW; have q := cL W; go_simp; exact cS2 W)); simp only [Act.put, List.setIfInBounds_toArray, List.set_cons_zero, List.set_cons_succ]
            iterate 2 (apply wpDet_plain _ rfl; (focus (intro W hW; go_simp; exact ⟨rfl, Below.refl _ _⟩)); simp only [Act.put, List.setIfInBounds_toArray, List.set_cons_zero, List.set_cons_succ])
            apply wpDet_plain _ rfl; (focus (intro W hW; go_simp; exact cM W)); simp only [Act.put, List.setIfInBounds_toArray, List.set_cons_zero, List.set_cons_succ]
            iterate 2 (apply wpDet_plain _ rfl; (focus (intro W hW; go_simp; exact ⟨rfl, Below.refl _ _⟩)); simp only [Act.put, List.setIfInBounds_toArray, List.set_cons_zero, List.set_cons_succ])
            refine wpDet_nil ?_; intro W hW
            have x6 := z6.call hW
            have hb10 := below_stepE hb09 hb09.size hW
            obtain ⟨⟨q0, q1, q2, q3⟩, f0, f1, f2, f3⟩ := x6.four
            have hfin := fun a b c d => below_set4 (a := a) (b := b) (c := c) (d := d) hb10 hrr
            clear cL cS cS2 cM cTa cTb hb09 hW z6 yA yB a0 a1 a2 a3 b0 b1 b2 b3
            go_wp2_with fail
            exact bodyPost_ret (results_val rfl _ _ gr _ _ _ _ rfl x6.set4) rfl ⟨by rw [HR2.out]; rfl, hfin _ _ _ _⟩
      · have z1 : (f' != 0) = true := by simpa using hf'
        have HR2 : Hid (R = badE f') := by have := HRb.out; rw [if_pos hf'] at this; exact this
        clear HRb cFa cFb cS cM cTa cTb
        obtain ⟨⟨q0, q1, q2, q3⟩, f0, f1, f2, f3⟩ := z6.four
        have hfin := fun a b c d => below_set4 (a := a) (b := b) (c := c) (d := d) hb07 hrr
        go_wp2_with fail
        exact bodyPost_ret (results_val rfl _ _ gr _ _ _ _ rfl z6.set4) rfl ⟨by rw [HR2.out]; rfl, hfin _ _ _ _⟩
    · have HR2 : Hid (R = okE ⟨k, i, b, s⟩) := HRa.out
      clear HRa cFa cFb cS cM cTa cTb c2
      obtain ⟨⟨q0, q1, q2, q3⟩, f0, f1, f2, f3⟩ := v3.four
      have hfin := fun a b c d => below_set4 (a := a) (b := b) (c := c) (d := d) hb05 hrr
      go_wp2_with fail
      exact bodyPost_ret (results_val rfl _ _ gr _ _ _ _ rfl v3.set4) rfl ⟨by rw [HR2.out, ← HS.out]; rfl, hfin _ _ _ _⟩
  · have z1 : (f != 0) = true := by simpa using hf
    have HR2 : Hid (R = badE f) := by have := HR.out; rw [if_pos hf] at this; exact this
    have hv := HBAD.out hf
    unfold nulV at hv
    simp only [Vl.mk.injEq] at hv
    obtain ⟨rfl, rfl, rfl, rfl⟩ := hv
    obtain rfl := HS.out
    clear HR HBAD HS cFa cFb cS cM cTa cTb c2
    obtain ⟨⟨q0, q1, q2, q3⟩, f0, f1, f2, f3⟩ := v3.four
    have hfin := fun a b c d => below_set4 (a := a) (b := b) (c := c) (d := d) hb05 hrr
    go_wp2_with fail
    exact bodyPost_ret (results_val rfl _ _ gr _ _ _ _ rfl v3.set4) rfl ⟨by rw [HR2.out]; rfl, hfin _ _ _ _⟩
end Go.Proofs.YtfedlchncngafaaGreatDoor

/-! CONTRACTS of package eval's six comparisons, And and Or. CONDITIONS: each theorem's own hypotheses; the tables 'Tabs' hold what their initialisers lay. -/
namespace Go.Proofs.YtfedlchncngafaaGreatDoor
open Go.RowKit
set_option linter.unusedVariables false
set_option maxRecDepth 100000

theorem comb_and (p q : RE) (hq : OkR q) : combE 15 [p, q] = settE false andT p q := by
  show (if p.f ≠ 0 then badE p.f else if shortE 15 p.v = true then okE p.v else if q.f ≠ 0 then badE q.f else op2E 15 p.v q.v) = if p.f ≠ 0 then badE p.f else if (p.v.k == 1 && p.v.i == (if false = true then 1 else 0)) = true then okE p.v else if q.f ≠ 0 then badE q.f else if (fitE p.v 1 && fitE q.v 1) = true then tolE (andT (trT p.v) (trT q.v)) else badE 2
  rw [if_neg (show ¬ (false = true) by decide)]
  have e1 : shortE 15 p.v = (p.v.k == 1 && p.v.i == 0) := by unfold shortE; rw [if_pos rfl]
  have e2 : op2E 15 p.v q.v = if (fitE p.v 1 && fitE q.v 1) = true then tolE (andT (trT p.v) (trT q.v)) else badE 2 := by unfold op2E; rw [if_neg (by decide), if_pos rfl]
  rw [e1, e2]
theorem comb_or (p q : RE) (hq : OkR q) : combE 16 [p, q] = settE true orT p q := by
  show (if p.f ≠ 0 then badE p.f else if shortE 16 p.v = true then okE p.v else if q.f ≠ 0 then badE q.f else op2E 16 p.v q.v) = if p.f ≠ 0 then badE p.f else if (p.v.k == 1 && p.v.i == (if true = true then 1 else 0)) = true then okE p.v else if q.f ≠ 0 then badE q.f else if (fitE p.v 1 && fitE q.v 1) = true then tolE (orT (trT p.v) (trT q.v)) else badE 2
  rw [if_pos (show true = true from rfl)]
  have e1 : shortE 16 p.v = (p.v.k == 1 && p.v.i == 1) := by unfold shortE; rw [if_neg (by decide), if_pos rfl]
  have e2 : op2E 16 p.v q.v = if (fitE p.v 1 && fitE q.v 1) = true then tolE (orT (trT p.v) (trT q.v)) else badE 2 := by unfold op2E; rw [if_neg (by decide), if_neg (by decide), if_pos rfl]
  rw [e1, e2]
set_option maxHeartbeats 8000000 in
theorem eeq_any (w0 : World) (x y iva ivb : Value) (p q : RE) (hA : Says w0 x y iva p) (hB : Says w0 x y ivb q) (hp : OkR p) (hq : OkR q) (w : World) (hw : Below w0.heap.size w0 w) (hT : Tabs w) :
    Calls Tryz.prog 231 #[.agg #[iva, ivb], .agg #[x, y]] w fun e w' => e = .returned (.tuple #[valV (combE 9 [p, q]).v, .int .i64 (combE 9 [p, q]).f]) ∧ Below w.heap.size w w' := by
  have hs0 := hw.size
  obtain ⟨z0, z1, z3, hb3⟩ := three_new w #[iva, ivb] #[x, y] #[.int .i64 0, .int .i64 0, .int .u64 0, .string ⟨#[]⟩] 199 121 24
  generalize hw3 : ((w.alloc (.cells #[iva, ivb] 199)).alloc (.cells #[x, y] 121)).alloc (.cells #[.int .i64 0, .int .i64 0, .int .u64 0, .string ⟨#[]⟩] 24) = w3 at z0 z1 z3 hb3
  have p0 := z0.cell (j := 0) rfl
  have p00 := z0.cell (j := 1) rfl
  have p1 := z1.cell (j := 0) rfl
  have p2 := z1.cell (j := 1) rfl
  have c1 := compared0_any w0 x y iva ivb p q hA hB hp hq 233 (TQ 9) FQ w3 (below_stepE hw hs0 hb3) (fun a b W ha hb hW => equal_asks W (tabs_below hT (hb3.trans (hW.mono hb3.size))) a b ha hb) (fun a b W => rfl)
  rw [← comb_comp 9 (by omega) p q] at c1
  generalize combE 9 [p, q] = R at *
  obtain ⟨⟨k, i, b, s⟩, f⟩ := R
  unfold valV at c1 ⊢
  simp only at c1 ⊢
  generalize str s = S at *
  clear hA hB hp hq hw z0 z1 hT
  have hrr : w.heap.size ≤ w.heap.size + 1 + 1 := by omega
  go_enter Tryz.func231, Tryz.ntmps231
  go_upto_region 1 with fail
  try rw [hw3]
  clear hw3
  go_wp2_with fail
  refine c1.mono ?_
  rintro e w4 ⟨rfl, hb4⟩
  have hb04 := below_stepE hb3 hb3.size hb4
  have z4 := z3.call hb4
  clear c1 hb4 p0 p00 p1 p2 z3 hb3
  generalize hgr : w.heap.size + 1 + 1 = gr at *
  clear hgr
  obtain ⟨⟨q0, q1, q2, q3⟩, f0, f1, f2, f3⟩ := z4.four
  have hfin := fun a b c d => below_set4 (a := a) (b := b) (c := c) (d := d) hb04 hrr
  go_wp2_with fail
  exact bodyPost_ret (results_val rfl _ _ gr _ _ _ _ rfl z4.set4) rfl ⟨rfl, hfin _ _ _ _⟩
set_option maxHeartbeats 8000000 in
theorem elt_any (w0 : World) (x y iva ivb : Value) (p q : RE) (hA : Says w0 x y iva p) (hB : Says w0 x y ivb q) (hp : OkR p) (hq : OkR q) (w : World) (hw : Below w0.heap.size w0 w) (hT : Tabs w) :
    Calls Tryz.prog 246 #[.agg #[iva, ivb], .agg #[x, y]] w fun e w' => e = .returned (.tuple #[valV (combE 11 [p, q]).v, .int .i64 (combE 11 [p, q]).f]) ∧ Below w.heap.size w w' := by
  have hs0 := hw.size
  obtain ⟨z0, z1, z3, hb3⟩ := three_new w #[iva, ivb] #[x, y] #[.int .i64 0, .int .i64 0, .int .u64 0, .string ⟨#[]⟩] 201 121 24
  generalize hw3 : ((w.alloc (.cells #[iva, ivb] 201)).alloc (.cells #[x, y] 121)).alloc (.cells #[.int .i64 0, .int .i64 0, .int .u64 0, .string ⟨#[]⟩] 24) = w3 at z0 z1 z3 hb3
  have p0 := z0.cell (j := 0) rfl
  have p00 := z0.cell (j := 1) rfl
  have p1 := z1.cell (j := 0) rfl
  have p2 := z1.cell (j := 1) rfl
  have c1 := compared0_any w0 x y iva ivb p q hA hB hp hq 247 (TQ 11) FQ w3 (below_stepE hw hs0 hb3) (fun a b W ha hb hW => less_asks W (tabs_below hT (hb3.trans (hW.mono hb3.size))) a b ha hb) (fun a b W => rfl)
  rw [← comb_comp 11 (by omega) p q] at c1
  generalize combE 11 [p, q] = R at *
  obtain ⟨⟨k, i, b, s⟩, f⟩ := R
  unfold valV at c1 ⊢
  simp only at c1 ⊢
  generalize str s = S at *
  clear hA hB hp hq hw z0 z1 hT
  have hrr : w.heap.size ≤ w.heap.size + 1 + 1 := by omega
  go_enter Tryz.func246, Tryz.ntmps246
  go_upto_region 1 with fail
  try rw [hw3]
  clear hw3
  go_wp2_with fail
  refine c1.mono ?_
  rintro e w4 ⟨rfl, hb4⟩
  have hb04 := below_stepE hb3 hb3.size hb4
  have z4 := z3.call hb4
  clear c1 hb4 p0 p00 p1 p2 z3 hb3
  generalize hgr : w.heap.size + 1 + 1 = gr at *
  clear hgr
  obtain ⟨⟨q0, q1, q2, q3⟩, f0, f1, f2, f3⟩ := z4.four
  have hfin := fun a b c d => below_set4 (a := a) (b := b) (c := c) (d := d) hb04 hrr
  go_wp2_with fail
  exact bodyPost_ret (results_val rfl _ _ gr _ _ _ _ rfl z4.set4) rfl ⟨rfl, hfin _ _ _ _⟩
theorem not_ne : ∀ c, whichC 10 c = !whichC 9 c := fun c => rfl
theorem not_ge : ∀ c, whichC 14 c = !whichC 11 c := fun c => rfl
theorem not_le : ∀ c, whichC 12 c = !whichC 13 c := fun c => rfl
def CmpF (B : Nat) (iva ivb x y : Value) (F1 : FuncId) (fv R : Value) (f : Int) : Nat → Value → World → Prop
  | 0, v, _ => v = .pointer (some ⟨B, 0, none⟩)
  | 1, v, _ => v = .agg #[iva, ivb]
  | 2, v, _ => v = .agg #[x, y]
  | 3, v, w => ∃ g, v = .func (.func F1) #[] #[.pointer (some ⟨g, 0, none⟩)] ∧ g < w.heap.size ∧ w.cell? ⟨g, 0, none⟩ = some fv
  | 4, v, _ => v = .tuple #[R, .int .i64 f]
  | 5, v, _ => v = R
  | 6, v, _ => v = .int .i64 f
  | _, _, _ => True
theorem cmpF_keep {B : Nat} {iva ivb x y : Value} {F1 : FuncId} {fv R : Value} {f : Int} (i : Nat) (v : Value) (w w' : World) (h : CmpF B iva ivb x y F1 fv R f i v w) (he : Below w.heap.size w w') : CmpF B iva ivb x y F1 fv R f i v w' := by
  unfold CmpF at *
  split at h <;> (try exact h) <;> (try exact trivial)
  obtain ⟨g, h1, h2, h3⟩ := h
  exact ⟨g, h1, Nat.lt_of_lt_of_le h2 he.size, (he.cell (p := ⟨g, 0, none⟩) h2).trans h3⟩
def CmpG (B : Nat) (iva ivb x y : Value) (R : Value) (f : Int) : Nat → Value → World → Prop
  | 0, v, _ => v = .pointer (some ⟨B, 0, none⟩)
  | 1, v, _ => v = .agg #[iva, ivb]
  | 2, v, _ => v = .agg #[x, y]
  | 3, v, w => ∃ g, v = .func (.func 251) #[] #[.pointer (some ⟨g, 0, none⟩)] ∧ g < w.heap.size ∧ w.cell? ⟨g, 0, none⟩ = some (.func (.func 247) #[] #[])
  | 4, v, w => ∃ g g2, v = .func (.func 245) #[] #[.pointer (some ⟨g, 0, none⟩)] ∧ (g < w.heap.size ∧ w.cell? ⟨g, 0, none⟩ = some (.func (.func 251) #[] #[.pointer (some ⟨g2, 0, none⟩)])) ∧ g2 < w.heap.size ∧ w.cell? ⟨g2, 0, none⟩ = some (.func (.func 247) #[] #[])
  | 5, v, _ => v = .tuple #[R, .int .i64 f]
  | 6, v, _ => v = R
  | 7, v, _ => v = .int .i64 f
  | _, _, _ => True
theorem cmpG_keep {B : Nat} {iva ivb x y : Value} {R : Value} {f : Int} (i : Nat) (v : Value) (w w' : World) (h : CmpG B iva ivb x y R f i v w) (he : Below w.heap.size w w') : CmpG B iva ivb x y R f i v w' := by
  unfold CmpG at *
  split at h <;> (try exact h) <;> (try exact trivial)
  · obtain ⟨g, h1, h2, h3⟩ := h
    exact ⟨g, h1, Nat.lt_of_lt_of_le h2 he.size, (he.cell (p := ⟨g, 0, none⟩) h2).trans h3⟩
  · obtain ⟨g, g2, h1, ⟨h2, h3⟩, h4, h5⟩ := h
    exact ⟨g, g2, h1, ⟨Nat.lt_of_lt_of_le h2 he.size, (he.cell (p := ⟨g, 0, none⟩) h2).trans h3⟩, Nat.lt_of_lt_of_le h4 he.size, (he.cell (p := ⟨g2, 0, none⟩) h4).trans h5⟩
set_option maxHeartbeats 16000000 in
theorem ene_any (w0 : World) (x y iva ivb : Value) (p q : RE) (hA : Says w0 x y iva p) (hB : Says w0 x y ivb q) (hp : OkR p) (hq : OkR q) (w : World) (hw : Below w0.heap.size w0 w) (hT : Tabs w) :
    Calls Tryz.prog 243 #[.agg #[iva, ivb], .agg #[x, y]] w fun e w' => e = .returned (.tuple #[valV (combE 10 [p, q]).v, .int .i64 (combE 10 [p, q]).f]) ∧ Below w.heap.size w w' := by
  have hs0 := hw.size
  obtain ⟨z0, z1, z3, hb3⟩ := three_new w #[iva, ivb] #[x, y] #[.int .i64 0, .int .i64 0, .int .u64 0, .string ⟨#[]⟩] 200 121 24
  generalize hw3 : ((w.alloc (.cells #[iva, ivb] 200)).alloc (.cells #[x, y] 121)).alloc (.cells #[.int .i64 0, .int .i64 0, .int .u64 0, .string ⟨#[]⟩] 24) = w3 at z0 z1 z3 hb3
  have hTb : ∀ W, Below w3.heap.size w3 W → Tabs W := fun W h => tabs_below hT (hb3.trans (h.mono hb3.size))
  have c1 : ∀ (W : World) (gq : Nat), Below w3.heap.size w3 W → gq < W.heap.size → W.cell? ⟨gq, 0, none⟩ = some (.func (.func 233) #[] #[]) → _ := fun W gq hW hg hcell => compared1_any w0 x y iva ivb p q hA hB hp hq 245 gq (TQ 10) FQ W (below_stepE (below_stepE hw hs0 hb3) (Nat.le_trans hs0 hb3.size) hW) (fun a b W2 ha hb hW2 => denied1_0 9 10 (not_ne) gq W2 233 ((hW2.cell (p := ⟨gq, 0, none⟩) hg).trans hcell) (Nat.lt_of_lt_of_le hg hW2.size) (fun a b W => rfl) a b ha hb (fun W3 h3 => equal_asks W3 (hTb W3 ((hW.trans (hW2.mono hW.size)).trans (h3.mono (Nat.le_trans hW.size hW2.size)))) a b ha hb)) (fun a b W => rfl)
  rw [← comb_comp 10 (by omega) p q] at c1
  generalize combE 10 [p, q] = R at *
  obtain ⟨⟨k, i, b, s⟩, f⟩ := R
  unfold valV at c1 ⊢
  simp only at c1 ⊢
  generalize str s = S at *
  clear hA hB hp hq hw hT hTb
  have hrr : w.heap.size ≤ w.heap.size + 1 + 1 := by omega
  go_enter Tryz.func243, Tryz.ntmps243
  go_upto_region 1 with fail
  try rw [hw3]
  clear hw3
  refine wp_region_facts' 7 (by kernel_rfl) (by kernel_rfl) (CmpF w.heap.size iva ivb x y 245 (.func (.func 233) #[] #[]) (.agg #[.int .i64 k, .int .i64 i, .int .u64 b, .string S]) f) (fun W => Below w3.heap.size w3 W) (fun W W' => Below W.heap.size W W') ?hC ?hF ?h0 ?hstep ?hdone
  case hC => exact fun W W' hc he => below_stepE hc hc.size he
  case hF => exact cmpF_keep
  case h0 => exact (Below.refl _ _).drew
  case hstep =>
    intro i hi vs a W K ha hc hd hu hK
    simp only [fillF, Act.put, List.take_succ_cons, List.take_zero, List.setIfInBounds_toArray, List.set_cons_zero, List.set_cons_succ] at ha
    subst ha
    rcases (show i = 0 ∨ i = 1 ∨ i = 2 ∨ i = 3 ∨ i = 4 ∨ i = 5 ∨ i = 6 by omega) with rfl | rfl | rfl | rfl | rfl | rfl | rfl
    · refine wpOp_step rfl (fun K' hK' => ?_)
      go_simp
      exact hK' _ _ (hK _ _ rfl (Below.refl _ _))
    · have e0 : vs 0 = .pointer (some ⟨w.heap.size, 0, none⟩) := hd 0 (by kernel_rfl)
      simp only [e0] at hK ⊢
      have p0 := (z0.call hc).cell (j := 0) rfl
      have p00 := (z0.call hc).cell (j := 1) rfl
      refine wpOp_step rfl (fun K' hK' => ?_)
      go_simp
      exact hK' _ _ (hK _ _ rfl (Below.refl _ _))
    · have p1 := (z1.call hc).cell (j := 0) rfl
      have p2 := (z1.call hc).cell (j := 1) rfl
      refine wpOp_step rfl (fun K' hK' => ?_)
      go_simp
      exact hK' _ _ (hK _ _ rfl (Below.refl _ _))
    · refine wpOp_step rfl (fun K' hK' => ?_)
      go_simp
      with_reducible refine (denied_any _ ⟨_, _, rfl⟩ W).mono ?_
      rintro e w' ⟨g, rfl, _, hg, hcell, hb⟩
      exact hK' _ _ (hK _ _ ⟨g, rfl, hg, hcell⟩ hb)
    · have e1 : vs 1 = .agg #[iva, ivb] := hd 1 (by kernel_rfl)
      have e2 : vs 2 = .agg #[x, y] := hd 2 (by kernel_rfl)
      obtain ⟨g, e3, hg, hcell⟩ := hd 3 (by kernel_rfl)
      simp only [e1, e2, e3] at hK ⊢
      refine wpOp_step rfl (fun K' hK' => ?_)
      go_simp
      with_reducible refine (c1 W g hc hg hcell).mono ?_
      rintro e w' ⟨rfl, hb⟩
      exact hK' _ _ (hK _ _ rfl hb)
    · have e4 : vs 4 = .tuple #[.agg #[.int .i64 k, .int .i64 i, .int .u64 b, .string S], .int .i64 f] := hd 4 (by kernel_rfl)
      simp only [e4] at hK ⊢
      refine wpOp_step rfl (fun K' hK' => ?_)
      go_simp
      exact hK' _ _ (hK _ _ rfl (Below.refl _ _))
    · have e4 : vs 4 = .tuple #[.agg #[.int .i64 k, .int .i64 i, .int .u64 b, .string S], .int .i64 f] := hd 4 (by kernel_rfl)
      simp only [e4] at hK ⊢
      refine wpOp_step rfl (fun K' hK' => ?_)
      go_simp
      exact hK' _ _ (hK _ _ rfl (Below.refl _ _))
  case hdone =>
    intro vs a W ha hc hf
    simp only [fillF, Act.put, List.take_succ_cons, List.take_zero, List.setIfInBounds_toArray, List.set_cons_zero, List.set_cons_succ] at ha
    subst ha
    have e5 : vs 5 = .agg #[.int .i64 k, .int .i64 i, .int .u64 b, .string S] := hf 5 (by decide)
    have e6 : vs 6 = .int .i64 f := hf 6 (by decide)
    simp only [e5, e6]
    have z4 := z3.call hc
    have hb04 := below_stepE hb3 hb3.size hc
    clear c1 hc hf z0 z1 z3 hb3
    generalize hgr : w.heap.size + 1 + 1 = gr at *
    clear hgr
    obtain ⟨⟨q0, q1, q2, q3⟩, f0, f1, f2, f3⟩ := z4.four
    have hfin := fun a b c d => below_set4 (a := a) (b := b) (c := c) (d := d) hb04 hrr
    go_wp2_with fail
    exact bodyPost_ret (results_val rfl _ _ gr _ _ _ _ rfl z4.set4) rfl ⟨rfl, hfin _ _ _ _⟩
set_option maxHeartbeats 16000000 in
theorem egt_any (w0 : World) (x y iva ivb : Value) (p q : RE) (hA : Says w0 x y iva p) (hB : Says w0 x y ivb q) (hp : OkR p) (hq : OkR q) (w : World) (hw : Below w0.heap.size w0 w) (hT : Tabs w) :
    Calls Tryz.prog 252 #[.agg #[iva, ivb], .agg #[x, y]] w fun e w' => e = .returned (.tuple #[valV (combE 13 [p, q]).v, .int .i64 (combE 13 [p, q]).f]) ∧ Below w.heap.size w w' := by
  have hs0 := hw.size
  obtain ⟨z0, z1, z3, hb3⟩ := three_new w #[iva, ivb] #[x, y] #[.int .i64 0, .int .i64 0, .int .u64 0, .string ⟨#[]⟩] 203 121 24
  generalize hw3 : ((w.alloc (.cells #[iva, ivb] 203)).alloc (.cells #[x, y] 121)).alloc (.cells #[.int .i64 0, .int .i64 0, .int .u64 0, .string ⟨#[]⟩] 24) = w3 at z0 z1 z3 hb3
  have hTb : ∀ W, Below w3.heap.size w3 W → Tabs W := fun W h => tabs_below hT (hb3.trans (h.mono hb3.size))
  have c1 : ∀ (W : World) (gq : Nat), Below w3.heap.size w3 W → gq < W.heap.size → W.cell? ⟨gq, 0, none⟩ = some (.func (.func 247) #[] #[]) → _ := fun W gq hW hg hcell => compared1_any w0 x y iva ivb p q hA hB hp hq 251 gq (TQ 13) FQ W (below_stepE (below_stepE hw hs0 hb3) (Nat.le_trans hs0 hb3.size) hW) (fun a b W2 ha hb hW2 => swapped1_any gq W2 (hTb W2 ((hW.trans (hW2.mono hW.size)))) ((hW2.cell (p := ⟨gq, 0, none⟩) hg).trans hcell) (Nat.lt_of_lt_of_le hg hW2.size) a b ha hb) (fun a b W => rfl)
  rw [← comb_comp 13 (by omega) p q] at c1
  generalize combE 13 [p, q] = R at *
  obtain ⟨⟨k, i, b, s⟩, f⟩ := R
  unfold valV at c1 ⊢
  simp only at c1 ⊢
  generalize str s = S at *
  clear hA hB hp hq hw hT hTb
  have hrr : w.heap.size ≤ w.heap.size + 1 + 1 := by omega
  go_enter Tryz.func252, Tryz.ntmps252
  go_upto_region 1 with fail
  try rw [hw3]
  clear hw3
  refine wp_region_facts' 7 (by kernel_rfl) (by kernel_rfl) (CmpF w.heap.size iva ivb x y 251 (.func (.func 247) #[] #[]) (.agg #[.int .i64 k, .int .i64 i, .int .u64 b, .string S]) f) (fun W => Below w3.heap.size w3 W) (fun W W' => Below W.heap.size W W') ?hC ?hF ?h0 ?hstep ?hdone
  case hC => exact fun W W' hc he => below_stepE hc hc.size he
  case hF => exact cmpF_keep
  case h0 => exact (Below.refl _ _).drew
  case hstep =>
    intro i hi vs a W K ha hc hd hu hK
    simp only [fillF, Act.put, List.take_succ_cons, List.take_zero, List.setIfInBounds_toArray, List.set_cons_zero, List.set_cons_succ] at ha
    subst ha
    rcases (show i = 0 ∨ i = 1 ∨ i = 2 ∨ i = 3 ∨ i = 4 ∨ i = 5 ∨ i = 6 by omega) with rfl | rfl | rfl | rfl | rfl | rfl | rfl
    · refine wpOp_step rfl (fun K' hK' => ?_)
      go_simp
      exact hK' _ _ (hK _ _ rfl (Below.refl _ _))
    · have e0 : vs 0 = .pointer (some ⟨w.heap.size, 0, none⟩) := hd 0 (by kernel_rfl)
      simp only [e0] at hK ⊢
      have p0 := (z0.call hc).cell (j := 0) rfl
      have p00 := (z0.call hc).cell (j := 1) rfl
      refine wpOp_step rfl (fun K' hK' => ?_)
      go_simp
      exact hK' _ _ (hK _ _ rfl (Below.refl _ _))
    · have p1 := (z1.call hc).cell (j := 0) rfl
      have p2 := (z1.call hc).cell (j := 1) rfl
      refine wpOp_step rfl (fun K' hK' => ?_)
      go_simp
      exact hK' _ _ (hK _ _ rfl (Below.refl _ _))
    · refine wpOp_step rfl (fun K' hK' => ?_)
      go_simp
      with_reducible refine (swapped_any _ ⟨_, _, rfl⟩ W).mono ?_
      rintro e w' ⟨g, rfl, _, hg, hcell, hb⟩
      exact hK' _ _ (hK _ _ ⟨g, rfl, hg, hcell⟩ hb)
    · have e1 : vs 1 = .agg #[iva, ivb] := hd 1 (by kernel_rfl)
      have e2 : vs 2 = .agg #[x, y] := hd 2 (by kernel_rfl)
      obtain ⟨g, e3, hg, hcell⟩ := hd 3 (by kernel_rfl)
      simp only [e1, e2, e3] at hK ⊢
      refine wpOp_step rfl (fun K' hK' => ?_)
      go_simp
      with_reducible refine (c1 W g hc hg hcell).mono ?_
      rintro e w' ⟨rfl, hb⟩
      exact hK' _ _ (hK _ _ rfl hb)
    · have e4 : vs 4 = .tuple #[.agg #[.int .i64 k, .int .i64 i, .int .u64 b, .string S], .int .i64 f] := hd 4 (by kernel_rfl)
      simp only [e4] at hK ⊢
      refine wpOp_step rfl (fun K' hK' => ?_)
      go_simp
      exact hK' _ _ (hK _ _ rfl (Below.refl _ _))
    · have e4 : vs 4 = .tuple #[.agg #[.int .i64 k, .int .i64 i, .int .u64 b, .string S], .int .i64 f] := hd 4 (by kernel_rfl)
      simp only [e4] at hK ⊢
      refine wpOp_step rfl (fun K' hK' => ?_)
      go_simp
      exact hK' _ _ (hK _ _ rfl (Below.refl _ _))
  case hdone =>
    intro vs a W ha hc hf
    simp only [fillF, Act.put, List.take_succ_cons, List.take_zero, List.setIfInBounds_toArray, List.set_cons_zero, List.set_cons_succ] at ha
    subst ha
    have e5 : vs 5 = .agg #[.int .i64 k, .int .i64 i, .int .u64 b, .string S] := hf 5 (by decide)
    have e6 : vs 6 = .int .i64 f := hf 6 (by decide)
    simp only [e5, e6]
    have z4 := z3.call hc
    have hb04 := below_stepE hb3 hb3.size hc
    clear c1 hc hf z0 z1 z3 hb3
    generalize hgr : w.heap.size + 1 + 1 = gr at *
    clear hgr
    obtain ⟨⟨q0, q1, q2, q3⟩, f0, f1, f2, f3⟩ := z4.four
    have hfin := fun a b c d => below_set4 (a := a) (b := b) (c := c) (d := d) hb04 hrr
    go_wp2_with fail
    exact bodyPost_ret (results_val rfl _ _ gr _ _ _ _ rfl z4.set4) rfl ⟨rfl, hfin _ _ _ _⟩
set_option maxHeartbeats 16000000 in
theorem ege_any (w0 : World) (x y iva ivb : Value) (p q : RE) (hA : Says w0 x y iva p) (hB : Says w0 x y ivb q) (hp : OkR p) (hq : OkR q) (w : World) (hw : Below w0.heap.size w0 w) (hT : Tabs w) :
    Calls Tryz.prog 253 #[.agg #[iva, ivb], .agg #[x, y]] w fun e w' => e = .returned (.tuple #[valV (combE 14 [p, q]).v, .int .i64 (combE 14 [p, q]).f]) ∧ Below w.heap.size w w' := by
  have hs0 := hw.size
  obtain ⟨z0, z1, z3, hb3⟩ := three_new w #[iva, ivb] #[x, y] #[.int .i64 0, .int .i64 0, .int .u64 0, .string ⟨#[]⟩] 204 121 24
  generalize hw3 : ((w.alloc (.cells #[iva, ivb] 204)).alloc (.cells #[x, y] 121)).alloc (.cells #[.int .i64 0, .int .i64 0, .int .u64 0, .string ⟨#[]⟩] 24) = w3 at z0 z1 z3 hb3
  have hTb : ∀ W, Below w3.heap.size w3 W → Tabs W := fun W h => tabs_below hT (hb3.trans (h.mono hb3.size))
  have c1 : ∀ (W : World) (gq : Nat), Below w3.heap.size w3 W → gq < W.heap.size → W.cell? ⟨gq, 0, none⟩ = some (.func (.func 247) #[] #[]) → _ := fun W gq hW hg hcell => compared1_any w0 x y iva ivb p q hA hB hp hq 245 gq (TQ 14) FQ W (below_stepE (below_stepE hw hs0 hb3) (Nat.le_trans hs0 hb3.size) hW) (fun a b W2 ha hb hW2 => denied1_0 11 14 (not_ge) gq W2 247 ((hW2.cell (p := ⟨gq, 0, none⟩) hg).trans hcell) (Nat.lt_of_lt_of_le hg hW2.size) (fun a b W => rfl) a b ha hb (fun W3 h3 => less_asks W3 (hTb W3 ((hW.trans (hW2.mono hW.size)).trans (h3.mono (Nat.le_trans hW.size hW2.size)))) a b ha hb)) (fun a b W => rfl)
  rw [← comb_comp 14 (by omega) p q] at c1
  generalize combE 14 [p, q] = R at *
  obtain ⟨⟨k, i, b, s⟩, f⟩ := R
  unfold valV at c1 ⊢
  simp only at c1 ⊢
  generalize str s = S at *
  clear hA hB hp hq hw hT hTb
  have hrr : w.heap.size ≤ w.heap.size + 1 + 1 := by omega
  go_enter Tryz.func253, Tryz.ntmps253
  go_upto_region 1 with fail
  try rw [hw3]
  clear hw3
  refine wp_region_facts' 7 (by kernel_rfl) (by kernel_rfl) (CmpF w.heap.size iva ivb x y 245 (.func (.func 247) #[] #[]) (.agg #[.int .i64 k, .int .i64 i, .int .u64 b, .string S]) f) (fun W => Below w3.heap.size w3 W) (fun W W' => Below W.heap.size W W') ?hC ?hF ?h0 ?hstep ?hdone
  case hC => exact fun W W' hc he => below_stepE hc hc.size he
  case hF => exact cmpF_keep
  case h0 => exact (Below.refl _ _).drew
  case hstep =>
    intro i hi vs a W K ha hc hd hu hK
    simp only [fillF, Act.put, List.take_succ_cons, List.take_zero, List.setIfInBounds_toArray, List.set_cons_zero, List.set_cons_succ] at ha
    subst ha
    rcases (show i = 0 ∨ i = 1 ∨ i = 2 ∨ i = 3 ∨ i = 4 ∨ i = 5 ∨ i = 6 by omega) with rfl | rfl | rfl | rfl | rfl | rfl | rfl
    · refine wpOp_step rfl (fun K' hK' => ?_)
      go_simp
      exact hK' _ _ (hK _ _ rfl (Below.refl _ _))
    · have e0 : vs 0 = .pointer (some ⟨w.heap.size, 0, none⟩) := hd 0 (by kernel_rfl)
      simp only [e0] at hK ⊢
      have p0 := (z0.call hc).cell (j := 0) rfl
      have p00 := (z0.call hc).cell (j := 1) rfl
      refine wpOp_step rfl (fun K' hK' => ?_)
      go_simp
      exact hK' _ _ (hK _ _ rfl (Below.refl _ _))
    · have p1 := (z1.call hc).cell (j := 0) rfl
      have p2 := (z1.call hc).cell (j := 1) rfl
      refine wpOp_step rfl (fun K' hK' => ?_)
      go_simp
      exact hK' _ _ (hK _ _ rfl (Below.refl _ _))
    · refine wpOp_step rfl (fun K' hK' => ?_)
      go_simp
      with_reducible refine (denied_any _ ⟨_, _, rfl⟩ W).mono ?_
      rintro e w' ⟨g, rfl, _, hg, hcell, hb⟩
      exact hK' _ _ (hK _ _ ⟨g, rfl, hg, hcell⟩ hb)
    · have e1 : vs 1 = .agg #[iva, ivb] := hd 1 (by kernel_rfl)
      have e2 : vs 2 = .agg #[x, y] := hd 2 (by kernel_rfl)
      obtain ⟨g, e3, hg, hcell⟩ := hd 3 (by kernel_rfl)
      simp only [e1, e2, e3] at hK ⊢
      refine wpOp_step rfl (fun K' hK' => ?_)
      go_simp
      with_reducible refine (c1 W g hc hg hcell).mono ?_
      rintro e w' ⟨rfl, hb⟩
      exact hK' _ _ (hK _ _ rfl hb)
    · have e4 : vs 4 = .tuple #[.agg #[.int .i64 k, .int .i64 i, .int .u64 b, .string S], .int .i64 f] := hd 4 (by kernel_rfl)
      simp only [e4] at hK ⊢
      refine wpOp_step rfl (fun K' hK' => ?_)
      go_simp
      exact hK' _ _ (hK _ _ rfl (Below.refl _ _))
    · have e4 : vs 4 = .tuple #[.agg #[.int .i64 k, .int .i64 i, .int .u64 b, .string S], .int .i64 f] := hd 4 (by kernel_rfl)
      simp only [e4] at hK ⊢
      refine wpOp_step rfl (fun K' hK' => ?_)
      go_simp
      exact hK' _ _ (hK _ _ rfl (Below.refl _ _))
  case hdone =>
    intro vs a W ha hc hf
    simp only [fillF, Act.put, List.take_succ_cons, List.take_zero, List.setIfInBounds_toArray, List.set_cons_zero, List.set_cons_succ] at ha
    subst ha
    have e5 : vs 5 = .agg #[.int .i64 k, .int .i64 i, .int .u64 b, .string S] := hf 5 (by decide)
    have e6 : vs 6 = .int .i64 f := hf 6 (by decide)
    simp only [e5, e6]
    have z4 := z3.call hc
    have hb04 := below_stepE hb3 hb3.size hc
    clear c1 hc hf z0 z1 z3 hb3
    generalize hgr : w.heap.size + 1 + 1 = gr at *
    clear hgr
    obtain ⟨⟨q0, q1, q2, q3⟩, f0, f1, f2, f3⟩ := z4.four
    have hfin := fun a b c d => below_set4 (a := a) (b := b) (c := c) (d := d) hb04 hrr
    go_wp2_with fail
    exact bodyPost_ret (results_val rfl _ _ gr _ _ _ _ rfl z4.set4) rfl ⟨rfl, hfin _ _ _ _⟩
set_option maxHeartbeats 16000000 in
theorem ele_any (w0 : World) (x y iva ivb : Value) (p q : RE) (hA : Says w0 x y iva p) (hB : Says w0 x y ivb q) (hp : OkR p) (hq : OkR q) (w : World) (hw : Below w0.heap.size w0 w) (hT : Tabs w) :
    Calls Tryz.prog 249 #[.agg #[iva, ivb], .agg #[x, y]] w fun e w' => e = .returned (.tuple #[valV (combE 12 [p, q]).v, .int .i64 (combE 12 [p, q]).f]) ∧ Below w.heap.size w w' := by
  have hs0 := hw.size
  obtain ⟨z0, z1, z3, hb3⟩ := three_new w #[iva, ivb] #[x, y] #[.int .i64 0, .int .i64 0, .int .u64 0, .string ⟨#[]⟩] 202 121 24
  generalize hw3 : ((w.alloc (.cells #[iva, ivb] 202)).alloc (.cells #[x, y] 121)).alloc (.cells #[.int .i64 0, .int .i64 0, .int .u64 0, .string ⟨#[]⟩] 24) = w3 at z0 z1 z3 hb3
  have hTb : ∀ W, Below w3.heap.size w3 W → Tabs W := fun W h => tabs_below hT (hb3.trans (h.mono hb3.size))
  have c1 : ∀ (W : World) (gq g2 : Nat), Below w3.heap.size w3 W → gq < W.heap.size → W.cell? ⟨gq, 0, none⟩ = some (.func (.func 251) #[] #[.pointer (some ⟨g2, 0, none⟩)]) → g2 < W.heap.size → W.cell? ⟨g2, 0, none⟩ = some (.func (.func 247) #[] #[]) → _ := fun W gq g2 hW hg hcell hg2 hcell2 => compared1_any w0 x y iva ivb p q hA hB hp hq 245 gq (TQ 12) FQ W (below_stepE (below_stepE hw hs0 hb3) (Nat.le_trans hs0 hb3.size) hW) (fun a b W2 ha hb hW2 => denied1_1 13 12 not_le gq W2 251 g2 ((hW2.cell (p := ⟨gq, 0, none⟩) hg).trans hcell) (Nat.lt_of_lt_of_le hg hW2.size) (fun a b W => rfl) a b ha hb (fun W3 h3 => swapped1_any g2 W3 (hTb W3 ((hW.trans (hW2.mono hW.size)).trans (h3.mono (Nat.le_trans hW.size hW2.size)))) ((h3.cell (p := ⟨g2, 0, none⟩) (Nat.lt_of_lt_of_le hg2 hW2.size)).trans ((hW2.cell (p := ⟨g2, 0, none⟩) hg2).trans hcell2)) (Nat.lt_of_lt_of_le hg2 (Nat.le_trans hW2.size h3.size)) a b ha hb)) (fun a b W => rfl)
  rw [← comb_comp 12 (by omega) p q] at c1
  generalize combE 12 [p, q] = R at *
  obtain ⟨⟨k, i, b, s⟩, f⟩ := R
  unfold valV at c1 ⊢
  simp only at c1 ⊢
  generalize str s = S at *
  clear hA hB hp hq hw hT hTb
  have hrr : w.heap.size ≤ w.heap.size + 1 + 1 := by omega
  go_enter Tryz.func249, Tryz.ntmps249
  go_upto_region 1 with fail
  try rw [hw3]
  clear hw3
  refine wp_region_facts' 8 (by kernel_rfl) (by kernel_rfl) (CmpG w.heap.size iva ivb x y (.agg #[.int .i64 k, .int .i64 i, .int .u64 b, .string S]) f) (fun W => Below w3.heap.size w3 W) (fun W W' => Below W.heap.size W W') ?hC ?hF ?h0 ?hstep ?hdone
  case hC => exact fun W W' hc he => below_stepE hc hc.size he
  case hF => exact cmpG_keep
  case h0 => exact (Below.refl _ _).drew
  case hstep =>
    intro i hi vs a W K ha hc hd hu hK
    simp only [fillF, Act.put, List.take_succ_cons, List.take_zero, List.setIfInBounds_toArray, List.set_cons_zero, List.set_cons_succ] at ha
    subst ha
    rcases (show i = 0 ∨ i = 1 ∨ i = 2 ∨ i = 3 ∨ i = 4 ∨ i = 5 ∨ i = 6 ∨ i = 7 by omega) with rfl | rfl | rfl | rfl | rfl | rfl | rfl | rfl
    · refine wpOp_step rfl (fun K' hK' => ?_)
      go_simp
      exact hK' _ _ (hK _ _ rfl (Below.refl _ _))
    · have e0 : vs 0 = .pointer (some ⟨w.heap.size, 0, none⟩) := hd 0 (by kernel_rfl)
      simp only [e0] at hK ⊢
      have p0 := (z0.call hc).cell (j := 0) rfl
      have p00 := (z0.call hc).cell (j := 1) rfl
      refine wpOp_step rfl (fun K' hK' => ?_)
      go_simp
      exact hK' _ _ (hK _ _ rfl (Below.refl _ _))
    · have p1 := (z1.call hc).cell (j := 0) rfl
      have p2 := (z1.call hc).cell (j := 1) rfl
      refine wpOp_step rfl (fun K' hK' => ?_)
      go_simp
      exact hK' _ _ (hK _ _ rfl (Below.refl _ _))
    · refine wpOp_step rfl (fun K' hK' => ?_)
      go_simp
      with_reducible refine (swapped_any _ ⟨_, _, rfl⟩ W).mono ?_
      rintro e w' ⟨g, rfl, _, hg, hcell, hb⟩
      exact hK' _ _ (hK _ _ ⟨g, rfl, hg, hcell⟩ hb)
    · obtain ⟨g2, e3, hg2, hcell2⟩ := hd 3 (by kernel_rfl)
      simp only [e3] at hK ⊢
      refine wpOp_step rfl (fun K' hK' => ?_)
      go_simp
      with_reducible refine (denied_any _ ⟨_, _, rfl⟩ W).mono ?_
      rintro e w' ⟨g, rfl, _, hg, hcell, hb⟩
      exact hK' _ _ (hK _ _ ⟨g, g2, rfl, ⟨hg, hcell⟩, Nat.lt_of_lt_of_le hg2 hb.size, (hb.cell (p := ⟨g2, 0, none⟩) hg2).trans hcell2⟩ hb)
    · have e1 : vs 1 = .agg #[iva, ivb] := hd 1 (by kernel_rfl)
      have e2 : vs 2 = .agg #[x, y] := hd 2 (by kernel_rfl)
      obtain ⟨g, g2, e4, ⟨hg, hcell⟩, hg2, hcell2⟩ := hd 4 (by kernel_rfl)
      simp only [e1, e2, e4] at hK ⊢
      refine wpOp_step rfl (fun K' hK' => ?_)
      go_simp
      with_reducible refine (c1 W g g2 hc hg hcell hg2 hcell2).mono ?_
      rintro e w' ⟨rfl, hb⟩
      exact hK' _ _ (hK _ _ rfl hb)
    · have e4 : vs 5 = .tuple #[.agg #[.int .i64 k, .int .i64 i, .int .u64 b, .string S], .int .i64 f] := hd 5 (by kernel_rfl)
      simp only [e4] at hK ⊢
      refine wpOp_step rfl (fun K' hK' => ?_)
      go_simp
      exact hK' _ _ (hK _ _ rfl (Below.refl _ _))
    · have e4 : vs 5 = .tuple #[.agg #[.int .i64 k, .int .i64 i, .int .u64 b, .string S], .int .i64 f] := hd 5 (by kernel_rfl)
      simp only [e4] at hK ⊢
      refine wpOp_step rfl (fun K' hK' => ?_)
      go_simp
      exact hK' _ _ (hK _ _ rfl (Below.refl _ _))
  case hdone =>
    intro vs a W ha hc hf
    simp only [fillF, Act.put, List.take_succ_cons, List.take_zero, List.setIfInBounds_toArray, List.set_cons_zero, List.set_cons_succ] at ha
    subst ha
    have e5 : vs 6 = .agg #[.int .i64 k, .int .i64 i, .int .u64 b, .string S] := hf 6 (by decide)
    have e6 : vs 7 = .int .i64 f := hf 7 (by decide)
    simp only [e5, e6]
    have z4 := z3.call hc
    have hb04 := below_stepE hb3 hb3.size hc
    clear c1 hc hf z0 z1 z3 hb3
    generalize hgr : w.heap.size + 1 + 1 = gr at *
    clear hgr
    obtain ⟨⟨q0, q1, q2, q3⟩, f0, f1, f2, f3⟩ := z4.four
    have hfin := fun a b c d => below_set4 (a := a) (b := b) (c := c) (d := d) hb04 hrr
    go_wp2_with fail
    exact bodyPost_ret (results_val rfl _ _ gr _ _ _ _ rfl z4.set4) rfl ⟨rfl, hfin _ _ _ _⟩
set_option maxHeartbeats 16000000 in
theorem eand_any (w0 : World) (x y iva ivb : Value) (p q : RE) (hA : Says w0 x y iva p) (hB : Says w0 x y ivb q) (hp : OkR p) (hq : OkR q) (w : World) (hw : Below w0.heap.size w0 w) :
    Calls Tryz.prog 254 #[.agg #[iva, ivb], .agg #[x, y]] w fun e w' => e = .returned (.tuple #[valV (combE 15 [p, q]).v, .int .i64 (combE 15 [p, q]).f]) ∧ Below w.heap.size w w' := by
  have hs0 := hw.size
  obtain ⟨z0, z1, z3, hb3⟩ := three_new w #[iva, ivb] #[x, y] #[.int .i64 0, .int .i64 0, .int .u64 0, .string ⟨#[]⟩] 205 121 24
  generalize hw3 : ((w.alloc (.cells #[iva, ivb] 205)).alloc (.cells #[x, y] 121)).alloc (.cells #[.int .i64 0, .int .i64 0, .int .u64 0, .string ⟨#[]⟩] 24) = w3 at z0 z1 z3 hb3
  have c1 := fun W (hW : Below w3.heap.size w3 W) => settled_any w0 x y iva ivb p q hA hB hp hq false 256 andT (fun a b W ha hb => vAnd_any a b ha hb W) (fun a b W => rfl) W (below_stepE (below_stepE hw hs0 hb3) (Nat.le_trans hs0 hb3.size) hW)
  have cB := fun W => eboolOf_any false W
  rw [← comb_and p q hq] at c1
  generalize combE 15 [p, q] = R at *
  obtain ⟨⟨k, i, b, s⟩, f⟩ := R
  unfold valV at c1 cB ⊢
  unfold booV at c1 cB
  simp only at c1 ⊢
  generalize str s = S at *
  clear hA hB hp hq hw
  have hrr : w.heap.size ≤ w.heap.size + 1 + 1 := by omega
  go_enter Tryz.func254, Tryz.ntmps254
  go_upto_region 1 with fail
  try rw [hw3]
  clear hw3
  refine wp_region_det 7 (by kernel_rfl) (by kernel_rfl) (by kernel_rfl) ?_
  simp only [List.take_succ_cons, List.take_zero, List.drop_succ_cons, List.drop_zero]
  apply wpDet_plain _ rfl; (focus (intro W hW; go_simp; exact ⟨rfl, Below.refl _ _⟩)); simp only [Act.put, List.setIfInBounds_toArray, List.set_cons_zero, List.set_cons_succ]
  apply wpDet_plain _ rfl; (focus (intro W hW; have p0 := (z0.call hW).cell (j := 0) rfl; have p00 := (z0.call hW).cell (j := 1) rfl; go_simp; exact ⟨rfl, Below.refl _ _⟩)); simp only [Act.put, List.setIfInBounds_toArray, List.set_cons_zero, List.set_cons_succ]
  apply wpDet_plain _ rfl; (focus (intro W hW; have p1 := (z1.call hW).cell (j := 0) rfl; have p2 := (z1.call hW).cell (j := 1) rfl; go_simp; exact ⟨rfl, Below.refl _ _⟩)); simp only [Act.put, List.setIfInBounds_toArray, List.set_cons_zero, List.set_cons_succ]
  apply wpDet_plain _ rfl; (focus (intro W hW; go_simp; exact cB W)); simp only [Act.put, List.setIfInBounds_toArray, List.set_cons_zero, List.set_cons_succ]
  apply wpDet_plain _ rfl; (focus (intro W hW; go_simp; exact c1 W hW)); simp only [Act.put, List.setIfInBounds_toArray, List.set_cons_zero, List.set_cons_succ]
  iterate 2 (apply wpDet_plain _ rfl; (focus (intro W hW; go_simp; exact ⟨rfl, Below.refl _ _⟩)); simp only [Act.put, List.setIfInBounds_toArray, List.set_cons_zero, List.set_cons_succ])
  refine wpDet_nil ?_; intro W hc
  have z4 := z3.call hc
  have hb04 := below_stepE hb3 hb3.size hc
  clear c1 cB hc z0 z1 z3 hb3
  generalize hgr : w.heap.size + 1 + 1 = gr at *
  clear hgr
  obtain ⟨⟨q0, q1, q2, q3⟩, f0, f1, f2, f3⟩ := z4.four
  have hfin := fun a b c d => below_set4 (a := a) (b := b) (c := c) (d := d) hb04 hrr
  go_wp2_with fail
  exact bodyPost_ret (results_val rfl _ _ gr _ _ _ _ rfl z4.set4) rfl ⟨rfl, hfin _ _ _ _⟩
set_option maxHeartbeats 16000000 in
theorem eor_any (w0 : World) (x y iva ivb : Value) (p q : RE) (hA : Says w0 x y iva p) (hB : Says w0 x y ivb q) (hp : OkR p) (hq : OkR q) (w : World) (hw : Below w0.heap.size w0 w) :
    Calls Tryz.prog 259 #[.agg #[iva, ivb], .agg #[x, y]] w fun e w' => e = .returned (.tuple #[valV (combE 16 [p, q]).v, .int .i64 (combE 16 [p, q]).f]) ∧ Below w.heap.size w w' := by
  have hs0 := hw.size
  obtain ⟨z0, z1, z3, hb3⟩ := three_new w #[iva, ivb] #[x, y] #[.int .i64 0, .int .i64 0, .int .u64 0, .string ⟨#[]⟩] 206 121 24
  generalize hw3 : ((w.alloc (.cells #[iva, ivb] 206)).alloc (.cells #[x, y] 121)).alloc (.cells #[.int .i64 0, .int .i64 0, .int .u64 0, .string ⟨#[]⟩] 24) = w3 at z0 z1 z3 hb3
  have c1 := fun W (hW : Below w3.heap.size w3 W) => settled_any w0 x y iva ivb p q hA hB hp hq true 260 orT (fun a b W ha hb => vOr_any a b ha hb W) (fun a b W => rfl) W (below_stepE (below_stepE hw hs0 hb3) (Nat.le_trans hs0 hb3.size) hW)
  have cB := fun W => eboolOf_any true W
  rw [← comb_or p q hq] at c1
  generalize combE 16 [p, q] = R at *
  obtain ⟨⟨k, i, b, s⟩, f⟩ := R
  unfold valV at c1 cB ⊢
  unfold booV at c1 cB
  simp only at c1 ⊢
  generalize str s = S at *
  clear hA hB hp hq hw
  have hrr : w.heap.size ≤ w.heap.size + 1 + 1 := by omega
  go_enter Tryz.func259, Tryz.ntmps259
  go_upto_region 1 with fail
  try rw [hw3]
  clear hw3
  refine wp_region_det 7 (by kernel_rfl) (by kernel_rfl) (by kernel_rfl) ?_
  simp only [List.take_succ_cons, List.take_zero, List.drop_succ_cons, List.drop_zero]
  apply wpDet_plain _ rfl; (focus (intro W hW; go_simp; exact ⟨rfl, Below.refl _ _⟩)); simp only [Act.put, List.setIfInBounds_toArray, List.set_cons_zero, List.set_cons_succ]
  apply wpDet_plain _ rfl; (focus (intro W hW; have p0 := (z0.call hW).cell (j := 0) rfl; have p00 := (z0.call hW).cell (j := 1) rfl; go_simp; exact ⟨rfl, Below.refl _ _⟩)); simp only [Act.put, List.setIfInBounds_toArray, List.set_cons_zero, List.set_cons_succ]
  apply wpDet_plain _ rfl; (focus (intro W hW; have p1 := (z1.call hW).cell (j := 0) rfl; have p2 := (z1.call hW).cell (j := 1) rfl; go_simp; exact ⟨rfl, Below.refl _ _⟩)); simp only [Act.put, List.setIfInBounds_toArray, List.set_cons_zero, List.set_cons_succ]
  apply wpDet_plain _ rfl; (focus (intro W hW; go_simp; exact cB W)); simp only [Act.put, List.setIfInBounds_toArray, List.set_cons_zero, List.set_cons_succ]
  apply wpDet_plain _ rfl; (focus (intro W hW; go_simp; exact c1 W hW)); simp only [Act.put, List.setIfInBounds_toArray, List.set_cons_zero, List.set_cons_succ]
  iterate 2 (apply wpDet_plain _ rfl; (focus (intro W hW; go_simp; exact ⟨rfl, Below.refl _ _⟩)); simp only [Act.put, List.setIfInBounds_toArray, List.set_cons_zero, List.set_cons_succ])
  refine wpDet_nil ?_; intro W hc
  have z4 := z3.call hc
  have hb04 := below_stepE hb3 hb3.size hc
  clear c1 cB hc z0 z1 z3 hb3
  generalize hgr : w.heap.size + 1 + 1 = gr at *
  clear hgr
  obtain ⟨⟨q0, q1, q2, q3⟩, f0, f1, f2, f3⟩ := z4.four
  have hfin := fun a b c d => below_set4 (a := a) (b := b) (c := c) (d := d) hb04 hrr
  go_wp2_with fail
  exact bodyPost_ret (results_val rfl _ _ gr _ _ _ _ rfl z4.set4) rfl ⟨rfl, hfin _ _ _ _⟩
end Go.Proofs.YtfedlchncngafaaGreatDoor

/-! CONTRACTS of package eval's Join, Coalesce, of a literal and of a column. CONDITIONS: each theorem's own hypotheses. -/
namespace Go.Proofs.YtfedlchncngafaaGreatDoor
open Go.RowKit
set_option linter.unusedVariables false
set_option maxRecDepth 100000

def joinE (u : R2) : RE := if u.f ≠ 0 then badE u.f else if (u.a.k == 0 || u.b.k == 0) = true then okE nulV else if 40 < u.a.s.length + u.b.s.length then badE 1 else okE (txtV (u.a.s ++ u.b.s))
theorem comb_join (p q : RE) : combE 19 [p, q] = joinE (vofsE 4 (valsE p q)) := by
  rw [comb_two 19 p q (short_not 19 _ (by omega))]
  by_cases hp : p.f = 0
  · rw [if_neg (by rw [hp]; decide)]
    by_cases hq : q.f = 0
    · rw [if_neg (by rw [hq]; decide)]
      have e1 : valsE p q = ⟨p.v, q.v, 0⟩ := by unfold valsE; rw [if_neg (by rw [hp]; decide), if_neg (by rw [hq]; decide)]
      have e0 : op2E 19 p.v q.v = joiE p.v q.v := by unfold op2E; rw [if_neg (by decide), if_neg (by decide), if_neg (by decide), if_pos rfl]
      rw [e1, e0]
      unfold joiE
      by_cases hf : (fitE p.v 4 && fitE q.v 4) = true
      · have e2 : vofsE 4 ⟨p.v, q.v, 0⟩ = ⟨p.v, q.v, 0⟩ := by
          unfold vofsE; simp only; rw [if_neg (by decide), if_pos hf]
        rw [if_pos hf, e2]
        unfold joinE
        simp only
        rw [if_neg (show ¬ ((0 : Int) ≠ 0) by decide)]
        by_cases hz : p.v.k = 0 ∨ q.v.k = 0
        · rw [if_pos hz, if_pos (show (p.v.k == 0 || q.v.k == 0) = true by simpa using hz)]
        · rw [if_neg hz, if_neg (show ¬ ((p.v.k == 0 || q.v.k == 0) = true) by simpa using hz)]
      · have e2 : vofsE 4 ⟨p.v, q.v, 0⟩ = ⟨nulV, nulV, 2⟩ := by
          unfold vofsE; simp only; rw [if_neg (by decide), if_neg hf]
        rw [if_neg hf, e2]
        rfl
    · rw [if_pos hq]
      have e1 : valsE p q = ⟨nulV, nulV, q.f⟩ := by unfold valsE; rw [if_neg (by rw [hp]; decide), if_pos hq]
      have e2 : vofsE 4 ⟨nulV, nulV, q.f⟩ = ⟨nulV, nulV, q.f⟩ := if_pos hq
      rw [e1, e2]
      exact (if_pos hq).symm
  · rw [if_pos hp]
    have e1 : valsE p q = ⟨nulV, nulV, p.f⟩ := if_pos hp
    have e2 : vofsE 4 ⟨nulV, nulV, p.f⟩ = ⟨nulV, nulV, p.f⟩ := if_pos hp
    rw [e1, e2]
    exact (if_pos hp).symm
theorem re_bad (r : RE) (hr : OkR r) (h : r.f ≠ 0) : r = badE r.f := by
  obtain ⟨v, f⟩ := r
  have := hr.bad h
  simp only at this
  rw [this]; rfl
theorem comb_coal (p q : RE) (hp : OkR p) (hq : OkR q) : combE 20 [p, q] = if p.f ≠ 0 ∨ p.v.k ≠ 0 then p else q := by
  show (if p.f ≠ 0 then badE p.f else if shortE 20 p.v = true then okE p.v else if q.f ≠ 0 then badE q.f else op2E 20 p.v q.v) = _
  have e1 : shortE 20 p.v = !(p.v.k == 0) := by unfold shortE; rw [if_neg (by decide), if_neg (by decide), if_pos rfl]
  have e2 : op2E 20 p.v q.v = okE q.v := by unfold op2E; rw [if_neg (by decide), if_neg (by decide), if_neg (by decide), if_neg (by decide), if_pos rfl]
  rw [e1, e2]
  by_cases h : p.f = 0
  · rw [if_neg (by rw [h]; decide)]
    by_cases hk : p.v.k = 0
    · rw [if_neg (show ¬ ((!(p.v.k == 0)) = true) by simp [hk]), if_neg (show ¬ (p.f ≠ 0 ∨ p.v.k ≠ 0) by rw [h]; simp [hk])]
      by_cases h2 : q.f = 0
      · rw [if_neg (by rw [h2]; decide)]
        obtain ⟨v, f⟩ := q
        simp only at h2
        rw [h2]; rfl
      · rw [if_pos h2]; exact (re_bad q hq h2).symm
    · rw [if_pos (show (!(p.v.k == 0)) = true by simp [hk]), if_pos (show p.f ≠ 0 ∨ p.v.k ≠ 0 from .inr hk)]
      obtain ⟨v, f⟩ := p
      simp only at h
      rw [h]; rfl
  · rw [if_pos h, if_pos (.inl h)]
    exact (re_bad p hp h).symm
theorem str_app (s t : List UInt8) : str s ++ str t = str (s ++ t) := by
  apply ByteArray.ext
  apply Array.ext'
  simp [str]
set_option maxHeartbeats 16000000 in
theorem ejoin_any (w0 : World) (x y iva ivb : Value) (p q : RE) (hA : Says w0 x y iva p) (hB : Says w0 x y ivb q) (hp : OkR p) (hq : OkR q) (w : World) (hw : Below w0.heap.size w0 w) :
    Calls Tryz.prog 261 #[.agg #[iva, ivb], .agg #[x, y]] w fun e w' => e = .returned (.tuple #[valV (combE 19 [p, q]).v, .int .i64 (combE 19 [p, q]).f]) ∧ Below w.heap.size w w' := by
  rw [comb_join]
  have hs0 := hw.size
  have cV := fun W (h : Below w.heap.size w W) => valuesOf_any w0 x y iva ivb p q 4 hA hB hp hq W (below_stepE hw hs0 h)
  have hu := okR2_vofs 4 _ (okR2_vals p q hp hq)
  generalize vofsE 4 (valsE p q) = u at *
  have hR : joinE u = if u.f ≠ 0 then badE u.f else if (u.a.k == 0 || u.b.k == 0) = true then okE nulV else if 40 < u.a.s.length + u.b.s.length then badE 1 else okE (txtV (u.a.s ++ u.b.s)) := rfl
  generalize joinE u = R at *
  have HR := Lib.hid hR
  have cO := fun W => oneIsNull_any u.a u.b W
  have hla := (chkV_open u.a hu.a.chk).2.2.1
  have hlb := (chkV_open u.b hu.b.chk).2.2.1
  clear hA hB hp hq hw hs0 hR hu
  obtain ⟨z0, z1, z3, hb3⟩ := three_new w #[iva, ivb] #[x, y] #[.int .i64 0, .int .i64 0, .int .u64 0, .string ⟨#[]⟩] 207 121 24
  generalize hw3 : ((w.alloc (.cells #[iva, ivb] 207)).alloc (.cells #[x, y] 121)).alloc (.cells #[.int .i64 0, .int .i64 0, .int .u64 0, .string ⟨#[]⟩] 24) = w3 at z0 z1 z3 hb3
  have p0 := z0.cell (j := 0) rfl
  have p00 := z0.cell (j := 1) rfl
  have p1 := z1.cell (j := 0) rfl
  have p2 := z1.cell (j := 1) rfl
  have c1 := cV w3 hb3
  clear cV z0 z1
  obtain ⟨⟨k, i, b, s⟩, ⟨k', i', b', s'⟩, f⟩ := u
  unfold valV at c1
  simp only at c1 hla hlb
  have happ := str_app s s'
  obtain ⟨T, hT⟩ : ∃ T, str (s ++ s') = T := ⟨_, rfl⟩
  have hsS := str_size s
  have hsS' := str_size s'
  obtain ⟨S, hS⟩ : ∃ S, str s = S := ⟨_, rfl⟩
  obtain ⟨S', hS'⟩ : ∃ S', str s' = S' := ⟨_, rfl⟩
  simp only [hS, hS'] at c1
  rw [hS, hS', hT] at happ
  rw [hS] at hsS
  rw [hS'] at hsS'
  unfold valV at cO
  simp only at cO
  simp only [hS, hS'] at cO
  obtain ⟨la, hla2⟩ : ∃ la, s.length = la := ⟨_, rfl⟩
  obtain ⟨lb, hlb2⟩ : ∃ lb, s'.length = lb := ⟨_, rfl⟩
  rw [hla2] at hla hsS
  rw [hlb2] at hlb hsS'
  have HL := Lib.hid (And.intro hla2 hlb2)
  have HT := Lib.hid hT
  clear hS hS' hla2 hlb2 hT
  have hrr : w.heap.size ≤ w.heap.size + 1 + 1 := by omega
  go_enter Tryz.func261, Tryz.ntmps261
  go_upto_region 1 with fail
  try rw [hw3]
  clear hw3
  go_wp2_with fail
  refine c1.mono ?_
  rintro e w4 ⟨rfl, hb4⟩
  have hb04 := below_stepE hb3 hb3.size hb4
  have z4 := z3.call hb4
  clear c1 hb4 p0 p00 p1 p2 z3 hb3
  obtain ⟨y1, y2, hb5⟩ := two_new w4 #[.int .i64 k, .int .i64 i, .int .u64 b, .string S] #[.int .i64 k', .int .i64 i', .int .u64 b', .string S'] 24 24
  have z6 := z4.call hb5
  have hb05 := below_stepE hb04 hb04.size hb5
  go_upto_region 2 with fail
  generalize hw5 : (w4.alloc (.cells #[.int .i64 k, .int .i64 i, .int .u64 b, .string S] 24)).alloc (.cells #[.int .i64 k', .int .i64 i', .int .u64 b', .string S'] 24) = w5 at *
  clear hw5 hb04 z4 hb5
  generalize w4.heap.size = g at *
  generalize hgr : w.heap.size + 1 + 1 = gr at *
  clear hgr
  by_cases hf : f = 0
  · subst hf
    obtain ⟨⟨p0, p1, p2, p3⟩, _⟩ := y1.four
    obtain ⟨⟨r0, r1, r2, r3⟩, _⟩ := y2.four
    have HRa : Hid (R = if (k == 0 || k' == 0) = true then okE nulV else if 40 < la + lb then badE 1 else okE (txtV (s ++ s'))) := by have := HR.out; rw [if_neg (by decide)] at this; rw [this, ← HL.out.1, ← HL.out.2]; exact rfl
    generalize hK : (k == 0 || k' == 0) = KN at *
    clear hK HR
    go_wp2_with fail
    refine (cO _).mono ?_
    rintro e w6 ⟨rfl, hb6⟩
    have y1' := y1.call hb6
    have y2' := y2.call hb6
    have z6' := z6.call hb6
    have hb05' := below_stepE hb05 hb05.size hb6
    clear cO hb6 y1 y2 z6 hb05 p0 p1 p2 p3 r0 r1 r2 r3
    have z6 := z6'
    have hb05 := hb05'
    clear z6' hb05'
    obtain ⟨⟨p0, p1, p2, p3⟩, _⟩ := y1'.four
    obtain ⟨⟨r0, r1, r2, r3⟩, _⟩ := y2'.four
    obtain ⟨⟨q0, q1, q2, q3⟩, f0, f1, f2, f3⟩ := z6.four
    have hfin := fun a b c d => below_set4 (a := a) (b := b) (c := c) (d := d) hb05 hrr
    cases KN
    · have HRb : Hid (R = if 40 < la + lb then badE 1 else okE (txtV (s ++ s'))) := HRa.out
      clear HRa
      have hsum : IntKind.i64.wrap ((la : Int) + (lb : Int)) = ((la + lb : Nat) : Int) := by rw [IntKind.wrap_i64]; omega
      by_cases hlong : 40 < la + lb
      · have HR2 : Hid (R = badE 1) := by have := HRb.out; rw [if_pos hlong] at this; exact this
        have hl1 : (40 : Int) < (la : Int) + (lb : Int) := by omega
        clear HRb HL HT happ hsum
        go_wp2_with fail
        exact bodyPost_ret (results_val rfl _ _ gr _ _ _ _ rfl z6.set4) rfl ⟨by rw [HR2.out]; rfl, hfin _ _ _ _⟩
      · have HR2 : Hid (R = okE (txtV (s ++ s'))) := by have := HRb.out; rw [if_neg hlong] at this; exact this
        have hl1 : ¬ (40 : Int) < (la : Int) + (lb : Int) := by omega
        have hsz1 : S.size ≤ 40 := by omega
        have hsz2 : S'.size ≤ 40 := by omega
        clear HRb HL hsum
        go_wp2_with fail
        exact bodyPost_ret (results_val rfl _ _ gr _ _ _ _ rfl z6.set4) rfl ⟨by rw [HR2.out]; unfold txtV okE valV; simp only; rw [← HT.out] ; rfl, hfin _ _ _ _⟩
    · have HR2 : Hid (R = okE nulV) := HRa.out
      clear HRa HL HT happ
      go_wp2_with fail
      exact bodyPost_ret (results_val rfl _ _ gr _ _ _ _ rfl z6.set4) rfl ⟨by rw [HR2.out]; rfl, hfin _ _ _ _⟩
  · have z1 : (f != 0) = true := by simpa using hf
    have HR2 : Hid (R = badE f) := by have := HR.out; rw [if_pos hf] at this; exact this
    clear HR cO HL HT happ
    obtain ⟨⟨q0, q1, q2, q3⟩, f0, f1, f2, f3⟩ := z6.four
    have hfin := fun a b c d => below_set4 (a := a) (b := b) (c := c) (d := d) hb05 hrr
    go_wp2_with fail
    exact bodyPost_ret (results_val rfl _ _ gr _ _ _ _ rfl z6.set4) rfl ⟨by rw [HR2.out]; rfl, hfin _ _ _ _⟩
set_option maxHeartbeats 16000000 in
theorem ecoalesce_any (w0 : World) (x y iva ivb : Value) (p q : RE) (hA : Says w0 x y iva p) (hB : Says w0 x y ivb q) (hp : OkR p) (hq : OkR q) (w : World) (hw : Below w0.heap.size w0 w) :
    Calls Tryz.prog 262 #[.agg #[iva, ivb], .agg #[x, y]] w fun e w' => e = .returned (.tuple #[valV (combE 20 [p, q]).v, .int .i64 (combE 20 [p, q]).f]) ∧ Below w.heap.size w w' := by
  have hR := comb_coal p q hp hq
  generalize combE 20 [p, q] = R at *
  have HR := Lib.hid hR
  obtain ⟨ty, rv, K, rfl, hn, hm, hc, hC⟩ := hA
  obtain ⟨ty', rv', K', rfl, hn', hm', hc', hC'⟩ := hB
  have hs0 := hw.size
  obtain ⟨z0, z1, z3, hb3⟩ := three_new w #[.iface ty rv, .iface ty' rv'] #[x, y] #[.int .i64 0, .int .i64 0, .int .u64 0, .string ⟨#[]⟩] 208 121 24
  generalize hw3 : ((w.alloc (.cells #[.iface ty rv, .iface ty' rv'] 208)).alloc (.cells #[x, y] 121)).alloc (.cells #[.int .i64 0, .int .i64 0, .int .u64 0, .string ⟨#[]⟩] 24) = w3 at z0 z1 z3 hb3
  have p0 := z0.cell (j := 0) rfl
  have p00 := z0.cell (j := 1) rfl
  have p1 := z1.cell (j := 0) rfl
  have p2 := z1.cell (j := 1) rfl
  have c1 := hC w3 (below_stepE hw hs0 hb3)
  have c2 := fun W (h : Below w.heap.size w W) => hC' W (below_stepE hw hs0 h)
  clear hC hC' hw hR hp hq
  obtain ⟨⟨k, i, b, s⟩, f⟩ := p
  obtain ⟨⟨k', i', b', s'⟩, f'⟩ := q
  unfold valV at c1 c2
  simp only at c1 c2
  obtain ⟨S, hS⟩ : ∃ S, str s = S := ⟨_, rfl⟩
  obtain ⟨S', hS'⟩ : ∃ S', str s' = S' := ⟨_, rfl⟩
  simp only [hS, hS'] at c1 c2
  have HS := Lib.hid hS
  have HS' := Lib.hid hS'
  clear hS hS'
  have hrr : w.heap.size ≤ w.heap.size + 1 + 1 := by omega
  go_enter Tryz.func262, Tryz.ntmps262
  go_upto_region 1 with fail
  try rw [hw3]
  clear hw3
  go_wp2_with fail
  refine c1.mono ?_
  rintro e w4 ⟨rfl, hb4⟩
  have hb04 := below_stepE hb3 hb3.size hb4
  have y0 := z0.call hb4
  have y1 := z1.call hb4
  have y3 := z3.call hb4
  clear c1 hb4 p0 p00 p1 p2 z0 z1 z3 hb3
  have yA := Blk.new w4 #[.int .i64 k, .int .i64 i, .int .u64 b, .string S] 24
  have hb45 : Below w4.heap.size w4 (w4.alloc (.cells #[.int .i64 k, .int .i64 i, .int .u64 b, .string S] 24)) := (Below.refl _ _).alloc (Nat.le_refl _) _
  have v0 := y0.call hb45
  have v1 := y1.call hb45
  have v3 := y3.call hb45
  have hb05 := below_stepE hb04 hb04.size hb45
  go_upto_region 2 with fail
  generalize hw5 : w4.alloc (.cells #[.int .i64 k, .int .i64 i, .int .u64 b, .string S] 24) = w5 at *
  clear hw5 y0 y1 y3 hb04 hb45
  generalize w4.heap.size = g at *
  generalize hgr : w.heap.size + 1 + 1 = gr at *
  clear hgr
  obtain ⟨⟨a0, a1, a2, a3⟩, _⟩ := yA.four
  obtain ⟨⟨q0, q1, q2, q3⟩, f0, f1, f2, f3⟩ := v3.four
  have hfin := fun a b c d => below_set4 (a := a) (b := b) (c := c) (d := d) hb05 hrr
  by_cases hf : f = 0
  · subst hf
    by_cases hk : k = 0
    · have hk1 : (k != 0) = false := by simp [hk]
      have HR2 : Hid (R = ⟨⟨k', i', b', s'⟩, f'⟩) := by have := HR.out; rw [if_neg (by simp [hk])] at this; exact this
      have p0 := v0.cell (j := 0) rfl
      have p00 := v0.cell (j := 1) rfl
      have p1 := v1.cell (j := 0) rfl
      have p2 := v1.cell (j := 1) rfl
      have d2 := c2 w5 hb05
      clear c2 HR hk HS hfin q0 q1 q2 q3 f0 f1 f2 f3
      go_wp2_with fail
      refine d2.mono ?_
      rintro e w6 ⟨rfl, hb6⟩
      have hb06 := below_stepE hb05 hb05.size hb6
      have x3 := v3.call hb6
      clear d2 hb6 hb05 p0 p00 p1 p2 a0 a1 a2 a3 v0 v1 v3 yA
      obtain ⟨⟨q0, q1, q2, q3⟩, f0, f1, f2, f3⟩ := x3.four
      have hfin := fun a b c d => below_set4 (a := a) (b := b) (c := c) (d := d) hb06 hrr
      go_wp2_with fail
      exact bodyPost_ret (results_val rfl _ _ gr _ _ _ _ rfl x3.set4) rfl ⟨by rw [HR2.out, ← HS'.out]; rfl, hfin _ _ _ _⟩
    · have hk1 : (k != 0) = true := by simpa using hk
      have HR2 : Hid (R = ⟨⟨k, i, b, s⟩, 0⟩) := by have := HR.out; rw [if_pos (.inr hk)] at this; exact this
      clear HR c2 HS' hk
      go_wp2_with fail
      exact bodyPost_ret (results_val rfl _ _ gr _ _ _ _ rfl v3.set4) rfl ⟨by rw [HR2.out, ← HS.out]; rfl, hfin _ _ _ _⟩
  · have z1 : (f != 0) = true := by simpa using hf
    have HR2 : Hid (R = ⟨⟨k, i, b, s⟩, f⟩) := by have := HR.out; rw [if_pos (.inl hf)] at this; exact this
    clear HR c2 HS'
    go_wp2_with fail
    exact bodyPost_ret (results_val rfl _ _ gr _ _ _ _ rfl v3.set4) rfl ⟨by rw [HR2.out, ← HS.out]; rfl, hfin _ _ _ _⟩
set_option maxHeartbeats 8000000 in
theorem eliteral_any (x y : Value) (v : Vl) (w : World) :
    Calls Tryz.prog 206 #[valV v, .agg #[x, y]] w fun e w' => e = .returned (.tuple #[valV v, .int .i64 0]) ∧ Below w.heap.size w w' := by
  obtain ⟨k, i, b, s⟩ := v
  unfold valV
  simp only
  generalize str s = S
  obtain ⟨z0, z1, z3, hb3⟩ := three_new w #[.int .i64 k, .int .i64 i, .int .u64 b, .string S] #[x, y] #[.int .i64 0, .int .i64 0, .int .u64 0, .string ⟨#[]⟩] 158 121 24
  generalize hw3 : ((w.alloc (.cells #[.int .i64 k, .int .i64 i, .int .u64 b, .string S] 158)).alloc (.cells #[x, y] 121)).alloc (.cells #[.int .i64 0, .int .i64 0, .int .u64 0, .string ⟨#[]⟩] 24) = w3 at z0 z1 z3 hb3
  obtain ⟨⟨a0, a1, a2, a3⟩, _⟩ := z0.four
  obtain ⟨⟨q0, q1, q2, q3⟩, f0, f1, f2, f3⟩ := z3.four
  have hrr : w.heap.size ≤ w.heap.size + 1 + 1 := by omega
  have hfin := fun a b c d => below_set4 (a := a) (b := b) (c := c) (d := d) hb3 hrr
  go_enter Tryz.func206, Tryz.ntmps206
  go_upto_region 1 with fail
  try rw [hw3]
  clear hw3
  go_wp2_with fail
  exact bodyPost_ret (results_val rfl _ _ (w.heap.size + 1 + 1) _ _ _ _ rfl z3.set4) rfl ⟨rfl, hfin _ _ _ _⟩
set_option maxHeartbeats 8000000 in
theorem ecolumn_any (n : List UInt8) (cs : List Cl) (row : List Vl) (aoc : Option Addr) (capc : Nat) (aor : Option Addr) (capr : Nat) (w : World) (hl : cs.length ≤ 9223372036854775807) (hlen : row.length = cs.length) (hC : Cols w aoc cs) (hV : Vals w aor row) :
    Calls Tryz.prog 205 #[.agg #[.string (str n)], .agg #[.slice aoc cs.length capc, .slice aor row.length capr]] w fun e w' => e = .returned (.tuple #[valV (colE cs row n).v, .int .i64 (colE cs row n).f]) ∧ Below w.heap.size w w' := by
  obtain ⟨z0, z1, z3, hb3⟩ := three_new w #[.string (str n)] #[.slice aoc cs.length capc, .slice aor row.length capr] #[.int .i64 0, .int .i64 0, .int .u64 0, .string ⟨#[]⟩] 156 121 24
  generalize hw3 : ((w.alloc (.cells #[.string (str n)] 156)).alloc (.cells #[.slice aoc cs.length capc, .slice aor row.length capr] 121)).alloc (.cells #[.int .i64 0, .int .i64 0, .int .u64 0, .string ⟨#[]⟩] 24) = w3 at z0 z1 z3 hb3
  have p0 := z0.cell (j := 0) rfl
  have p1 := z1.cell (j := 0) rfl
  have p2 := z1.cell (j := 1) rfl
  have c1 := placeOf_any cs aoc capc n w3 hl (hC.keep hb3)
  have hrr : w.heap.size ≤ w.heap.size + 1 + 1 := by omega
  unfold colE
  rcases placeN_at n cs 0 with h1 | ⟨j, c, hj, h1⟩
  · rw [h1] at c1 ⊢
    rw [if_pos (by decide)]
    generalize cs.length = m at *
    generalize row.length = mr at *
    generalize str n = N at *
    clear hC hV h1 hlen hl
    go_enter Tryz.func205, Tryz.ntmps205
    go_upto_region 1 with fail
    try rw [hw3]
    clear hw3
    go_wp2_with fail
    refine c1.mono ?_
    rintro e w4 ⟨rfl, hb4⟩
    have hb04 := below_stepE hb3 hb3.size hb4
    have z4 := z3.call hb4
    clear c1 hb4 p0 p1 p2 z0 z1 z3 hb3
    obtain ⟨⟨q0, q1, q2, q3⟩, f0, f1, f2, f3⟩ := z4.four
    have hfin := fun a b c d => below_set4 (a := a) (b := b) (c := c) (d := d) hb04 hrr
    go_wp2_with fail
    exact bodyPost_ret (results_val rfl _ _ (w.heap.size + 1 + 1) _ _ _ _ rfl z4.set4) rfl ⟨rfl, hfin _ _ _ _⟩
  · rw [Nat.zero_add] at h1
    rw [h1] at c1 ⊢
    have hjl : j < cs.length := (List.getElem?_eq_some_iff.1 hj).1
    have hjr : j < row.length := by omega
    rw [if_neg (by omega), Int.toNat_natCast, List.getElem?_eq_getElem hjr]
    have hrj : row[j]? = some row[j] := List.getElem?_eq_getElem hjr
    generalize row[j] = v at *
    rcases hV.2 with hn | ⟨a, o, rfl, ha, hlies⟩
    · rw [hn] at hjr; exact absurd hjr (Nat.not_lt_zero _)
    obtain ⟨x0, x1, x2, x3⟩ := hlies j v hrj
    have d0 := (hb3.cell (p := ⟨a, o + j * 4, none⟩) ha).trans x0
    have d1 := (hb3.cell (p := ⟨a, o + j * 4 + 1, none⟩) ha).trans x1
    have d2 := (hb3.cell (p := ⟨a, o + j * 4 + 2, none⟩) ha).trans x2
    have d3 := (hb3.cell (p := ⟨a, o + j * 4 + 3, none⟩) ha).trans x3
    have ha3 : a < w3.heap.size := Nat.lt_of_lt_of_le ha hb3.size
    have hjI : (j : Int) < (row.length : Int) := by omega
    have hj0 : (0 : Int) ≤ (j : Int) := by omega
    have hng : ¬ ((j : Int) < 0) := by omega
    obtain ⟨k, i, b, s⟩ := v
    unfold okE valV
    simp only at d0 d1 d2 d3 ⊢
    generalize cs.length = m at *
    generalize row.length = mr at *
    generalize str n = N at *
    generalize str s = S at *
    clear hC hV h1 hlies hrj hj x0 x1 x2 x3 hjr hjl hl hlen ha
    go_enter Tryz.func205, Tryz.ntmps205
    go_upto_region 1 with fail
    try rw [hw3]
    clear hw3
    go_wp2_with fail
    refine c1.mono ?_
    rintro e w4 ⟨rfl, hb4⟩
    have hb04 := below_stepE hb3 hb3.size hb4
    have z4 := z3.call hb4
    have y1 := z1.call hb4
    have p1' := y1.cell (j := 0) rfl
    have p2' := y1.cell (j := 1) rfl
    have e0 := (hb4.cell (p := ⟨a, o + j * 4, none⟩) ha3).trans d0
    have e1 := (hb4.cell (p := ⟨a, o + j * 4 + 1, none⟩) ha3).trans d1
    have e2 := (hb4.cell (p := ⟨a, o + j * 4 + 2, none⟩) ha3).trans d2
    have e3 := (hb4.cell (p := ⟨a, o + j * 4 + 3, none⟩) ha3).trans d3
    clear c1 hb4 p0 p1 p2 z0 z1 z3 hb3 d0 d1 d2 d3 y1 ha3
    obtain ⟨⟨q0, q1, q2, q3⟩, f0, f1, f2, f3⟩ := z4.four
    have hfin := fun a b c d => below_set4 (a := a) (b := b) (c := c) (d := d) hb04 hrr
    go_wp2_with fail
    exact bodyPost_ret (results_val rfl _ _ (w.heap.size + 1 + 1) _ _ _ _ rfl z4.set4) rfl ⟨rfl, hfin _ _ _ _⟩
end Go.Proofs.YtfedlchncngafaaGreatDoor
