/-
  MERGED: EvalA, EvalB, EvalC, EvalD.
  CONDITIONS: each theorem's own hypotheses.
-/
import Derived.Test.YtfedlchncngafaaGreatDoorEvalM
import Derived.Test.YtfedlchncngafaaGreatDoorBlk
import Derived.BigQuiet
import Derived.Test.YtfedlchncngafaaGreatDoorValA

/-! CONTRACTS of package eval's small functions on values and numbers. CONDITIONS: each theorem's own hypotheses. -/
namespace Go.Proofs.YtfedlchncngafaaGreatDoor
open Go.RowKit
set_option linter.unusedVariables false
set_option maxRecDepth 100000

/-- A value as a call takes and gives it. -/
def valV (v : Vl) : Value := .agg #[.int .i64 v.k, .int .i64 v.i, .int .u64 v.b, .string (str v.s)]
theorem str_nil : str [] = ⟨#[]⟩ := rfl
theorem results_val1 {fn : Func} {t : Tmp} (h : fn.results = #[.cell t 24]) (tmps : Array Value) (w : World) (g : Nat) (x0 x1 x2 x3 : Value) (hp : tmps.getD t undef = .pointer (some ⟨g, 0, none⟩)) (hB : Blk w g 24 [x0, x1, x2, x3]) :
    (results fn tmps).run Tryz.prog w = .ok (.agg #[x0, x1, x2, x3]) w := by
  have c0 := hB.cell (j := 0) rfl
  have c1 := hB.cell (j := 1) rfl
  have c2 := hB.cell (j := 2) rfl
  have c3 := hB.cell (j := 3) rfl
  have hp' : tmps[t]?.getD undef = .pointer (some ⟨g, 0, none⟩) := by simpa using hp
  simp [results, h, hp', go_sem, c0, c1, c2, c3]
theorem results_val {fn : Func} {t a : Tmp} (h : fn.results = #[.cell t 24, .tmp a]) (tmps : Array Value) (w : World) (g : Nat) (x0 x1 x2 x3 : Value) (hp : tmps.getD t undef = .pointer (some ⟨g, 0, none⟩)) (hB : Blk w g 24 [x0, x1, x2, x3]) :
    (results fn tmps).run Tryz.prog w = .ok (.tuple #[.agg #[x0, x1, x2, x3], tmps.getD a undef]) w := by
  have c0 := hB.cell (j := 0) rfl
  have c1 := hB.cell (j := 1) rfl
  have c2 := hB.cell (j := 2) rfl
  have c3 := hB.cell (j := 3) rfl
  have hp' : tmps[t]?.getD undef = .pointer (some ⟨g, 0, none⟩) := by simpa using hp
  simp [results, h, hp', go_sem, c0, c1, c2, c3]
theorem results_val2 {fn : Func} {t u a : Tmp} (h : fn.results = #[.cell t 24, .cell u 24, .tmp a]) (tmps : Array Value) (w : World) (g g' : Nat) (x0 x1 x2 x3 y0 y1 y2 y3 : Value) (hp : tmps.getD t undef = .pointer (some ⟨g, 0, none⟩)) (hq : tmps.getD u undef = .pointer (some ⟨g', 0, none⟩)) (hB : Blk w g 24 [x0, x1, x2, x3]) (hC : Blk w g' 24 [y0, y1, y2, y3]) :
    (results fn tmps).run Tryz.prog w = .ok (.tuple #[.agg #[x0, x1, x2, x3], .agg #[y0, y1, y2, y3], tmps.getD a undef]) w := by
  have c0 := hB.cell (j := 0) rfl
  have c1 := hB.cell (j := 1) rfl
  have c2 := hB.cell (j := 2) rfl
  have c3 := hB.cell (j := 3) rfl
  have d0 := hC.cell (j := 0) rfl
  have d1 := hC.cell (j := 1) rfl
  have d2 := hC.cell (j := 2) rfl
  have d3 := hC.cell (j := 3) rfl
  have hp' : tmps[t]?.getD undef = .pointer (some ⟨g, 0, none⟩) := by simpa using hp
  have hq' : tmps[u]?.getD undef = .pointer (some ⟨g', 0, none⟩) := by simpa using hq
  simp [results, h, hp', hq', go_sem, c0, c1, c2, c3, d0, d1, d2, d3]
set_option maxHeartbeats 4000000 in
theorem efits_any (v : Vl) (k : Int) (w : World) :
    Calls Tryz.prog 211 #[valV v, .int .i64 k] w fun e w' => e = .returned (.bool (fitE v k)) ∧ Below w.heap.size w w' := by
  unfold fitE valV
  cases h1 : (v.k == k)
  · go_enter Tryz.func211, Tryz.ntmps211
    go_wp2_with fail
    go_ret
    exact ⟨by simp, (Below.refl _ _).alloc (Nat.le_refl _) _⟩
  · go_enter Tryz.func211, Tryz.ntmps211
    go_wp2_with fail
    go_ret
    exact ⟨by simp, (Below.refl _ _).alloc (Nat.le_refl _) _⟩
set_option maxHeartbeats 4000000 in
theorem oneIsNull_any (v u : Vl) (w : World) :
    Calls Tryz.prog 224 #[valV v, valV u] w fun e w' => e = .returned (.bool (v.k == 0 || u.k == 0)) ∧ Below w.heap.size w w' := by
  unfold valV
  cases h1 : (v.k == 0)
  · go_enter Tryz.func224, Tryz.ntmps224
    go_wp2_with fail
    go_ret
    exact ⟨by simp, ((Below.refl _ _).alloc (Nat.le_refl _) _).alloc (by simp) _⟩
  · go_enter Tryz.func224, Tryz.ntmps224
    go_wp2_with fail
    go_ret
    exact ⟨by simp, ((Below.refl _ _).alloc (Nat.le_refl _) _).alloc (by simp) _⟩
set_option maxHeartbeats 4000000 in
theorem eboolOf_any (b : Bool) (w : World) :
    Calls Tryz.prog 217 #[.bool b] w fun e w' => e = .returned (valV (booV b)) ∧ Below w.heap.size w w' := by
  cases b
  · go_enter Tryz.func217, Tryz.ntmps217
    go_wp2_with fail
    exact bodyPost_ret (v := .agg #[.int .i64 1, .int .i64 0, .int .u64 0, .string { data := #[] }]) (by simp [results, Tryz.results217, go_sem]) rfl ⟨rfl, by first | exact below_set4 ((Below.refl _ _).alloc (Nat.le_refl _) _) (Nat.le_refl _) | exact (Below.refl _ _).alloc (Nat.le_refl _) _⟩
  · go_enter Tryz.func217, Tryz.ntmps217
    go_wp2_with fail
    exact bodyPost_ret (v := .agg #[.int .i64 1, .int .i64 1, .int .u64 0, .string { data := #[] }]) (by simp [results, Tryz.results217, go_sem]) rfl ⟨rfl, by first | exact below_set4 ((Below.refl _ _).alloc (Nat.le_refl _) _) (Nat.le_refl _) | exact (Below.refl _ _).alloc (Nat.le_refl _) _⟩
set_option maxHeartbeats 4000000 in
theorem number_any (n f : Int) (w : World) :
    Calls Tryz.prog 209 #[.int .i64 n, .int .i64 f] w fun e w' => e = .returned (.tuple #[valV (if f ≠ 0 then nulV else intV n), .int .i64 f]) ∧ Below w.heap.size w w' := by
  by_cases h : f = 0
  · rw [if_neg (by simpa using h)]
    subst h
    go_enter Tryz.func209, Tryz.ntmps209
    go_wp2_with fail
    exact bodyPost_ret (v := .tuple #[.agg #[.int .i64 2, .int .i64 n, .int .u64 0, .string { data := #[] }], .int .i64 0]) (by simp [results, Tryz.results209, go_sem]) rfl ⟨rfl, by first | exact below_set4 ((Below.refl _ _).alloc (Nat.le_refl _) _) (Nat.le_refl _) | exact (Below.refl _ _).alloc (Nat.le_refl _) _⟩
  · rw [if_pos h]
    have hf : (f != 0) = true := by simpa using h
    go_enter Tryz.func209, Tryz.ntmps209
    go_wp2_with fail
    exact bodyPost_ret (v := .tuple #[.agg #[.int .i64 0, .int .i64 0, .int .u64 0, .string { data := #[] }], .int .i64 f]) (by simp [results, Tryz.results209, go_sem]) rfl ⟨rfl, by first | exact below_set4 ((Below.refl _ _).alloc (Nat.le_refl _) _) (Nat.le_refl _) | exact (Below.refl _ _).alloc (Nat.le_refl _) _⟩
end Go.Proofs.YtfedlchncngafaaGreatDoor

/-! CONTRACTS of package eval's reckoning with numbers of 64 bits. CONDITIONS: each theorem's own hypotheses. -/
namespace Go.Proofs.YtfedlchncngafaaGreatDoor
open Go.RowKit
set_option linter.unusedVariables false
set_option maxRecDepth 100000

def inI (x : Int) : Prop := -9223372036854775808 ≤ x ∧ x ≤ 9223372036854775807
instance (x : Int) : Decidable (inI x) := inferInstanceAs (Decidable (_ ∧ _))
/-- A number, or what is wrong, as the small functions give it. -/
def numN (x : Int) : Int := if inI x then x else 0
def numF (x : Int) : Int := if inI x then 0 else 6
theorem wrap64_in {x : Int} (h : inI x) : wrap64 x = x := by
  unfold inI at h
  unfold wrap64
  omega
theorem wrap64_off (x : Int) : ∃ q : Int, wrap64 x = x + q * 18446744073709551616 ∧ -9223372036854775808 ≤ wrap64 x ∧ wrap64 x ≤ 9223372036854775807 := by
  refine ⟨(wrap64 x - x) / 18446744073709551616, ?_, ?_⟩
  · unfold wrap64; omega
  · unfold wrap64; omega
set_option maxHeartbeats 4000000 in
theorem esum_any (a b : Int) (w : World) (ha : inI a) (hb : inI b) :
    Calls Tryz.prog 222 #[.int .i64 a, .int .i64 b] w fun e w' => e = .returned (.tuple #[.int .i64 (numN (a + b)), .int .i64 (numF (a + b))]) ∧ w' = w := by
  obtain ⟨n, hn⟩ : ∃ n, wrap64 (a + b) = n := ⟨_, rfl⟩
  by_cases h : inI (a + b)
  · have e1 : n = a + b := by rw [← hn]; exact wrap64_in h
    have d1 : decide (n < a) = decide (b < 0) := by rw [e1]; by_cases c : b < 0 <;> simp [c] <;> omega
    have hN : numN (a + b) = n := by unfold numN; rw [if_pos h, e1]
    have hF : numF (a + b) = 0 := by unfold numF; rw [if_pos h]
    rw [hN, hF]
    clear hN hF h e1 ha hb
    cases hd : decide (b < 0)
    · rw [hd] at d1
      go_enter Tryz.func222, Tryz.ntmps222
      go_wp2_with fail
      go_ret2
      exact ⟨by rw [← hn]; rfl, rfl⟩
    · rw [hd] at d1
      go_enter Tryz.func222, Tryz.ntmps222
      go_wp2_with fail
      go_ret2
      exact ⟨by rw [← hn]; rfl, rfl⟩
  · obtain ⟨q, hq, h1, h2⟩ := wrap64_off (a + b)
    have hN : numN (a + b) = 0 := by unfold numN; rw [if_neg h]
    have hF : numF (a + b) = 6 := by unfold numF; rw [if_neg h]
    rw [hN, hF]
    rw [hn] at hq h1 h2
    unfold inI at h ha hb
    by_cases hb0 : b < 0
    · have d1 : decide (n < a) = false := decide_eq_false (by omega)
      have d2 : decide (b < 0) = true := decide_eq_true hb0
      clear hN hF h ha hb hq h1 h2 hb0
      go_enter Tryz.func222, Tryz.ntmps222
      go_wp2_with fail
      go_ret2
      exact ⟨rfl, rfl⟩
    · have d1 : decide (n < a) = true := decide_eq_true (by omega)
      have d2 : decide (b < 0) = false := decide_eq_false hb0
      clear hN hF h ha hb hq h1 h2 hb0
      go_enter Tryz.func222, Tryz.ntmps222
      go_wp2_with fail
      go_ret2
      exact ⟨rfl, rfl⟩
set_option maxHeartbeats 4000000 in
theorem edifference_any (a b : Int) (w : World) (ha : inI a) (hb : inI b) :
    Calls Tryz.prog 212 #[.int .i64 a, .int .i64 b] w fun e w' => e = .returned (.tuple #[.int .i64 (numN (a - b)), .int .i64 (numF (a - b))]) ∧ w' = w := by
  obtain ⟨n, hn⟩ : ∃ n, wrap64 (a - b) = n := ⟨_, rfl⟩
  by_cases h : inI (a - b)
  · have e1 : n = a - b := by rw [← hn]; exact wrap64_in h
    have d1 : decide (a < n) = decide (b < 0) := by rw [e1]; by_cases c : b < 0 <;> simp [c] <;> omega
    have hN : numN (a - b) = n := by unfold numN; rw [if_pos h, e1]
    have hF : numF (a - b) = 0 := by unfold numF; rw [if_pos h]
    rw [hN, hF]
    clear hN hF h e1 ha hb
    cases hd : decide (b < 0)
    · rw [hd] at d1
      go_enter Tryz.func212, Tryz.ntmps212
      go_wp2_with fail
      go_ret2
      exact ⟨by rw [← hn]; rfl, rfl⟩
    · rw [hd] at d1
      go_enter Tryz.func212, Tryz.ntmps212
      go_wp2_with fail
      go_ret2
      exact ⟨by rw [← hn]; rfl, rfl⟩
  · obtain ⟨q, hq, h1, h2⟩ := wrap64_off (a - b)
    have hN : numN (a - b) = 0 := by unfold numN; rw [if_neg h]
    have hF : numF (a - b) = 6 := by unfold numF; rw [if_neg h]
    rw [hN, hF]
    rw [hn] at hq h1 h2
    unfold inI at h ha hb
    by_cases hb0 : b < 0
    · have d1 : decide (a < n) = false := decide_eq_false (by omega)
      have d2 : decide (b < 0) = true := decide_eq_true hb0
      clear hN hF h ha hb hq h1 h2 hb0
      go_enter Tryz.func212, Tryz.ntmps212
      go_wp2_with fail
      go_ret2
      exact ⟨rfl, rfl⟩
    · have d1 : decide (a < n) = true := decide_eq_true (by omega)
      have d2 : decide (b < 0) = false := decide_eq_false hb0
      clear hN hF h ha hb hq h1 h2 hb0
      go_enter Tryz.func212, Tryz.ntmps212
      go_wp2_with fail
      go_ret2
      exact ⟨rfl, rfl⟩
set_option maxHeartbeats 4000000 in
theorem enegative_any (a : Int) (w : World) (ha : inI a) :
    Calls Tryz.prog 210 #[.int .i64 a] w fun e w' => e = .returned (.tuple #[.int .i64 (numN (0 - a)), .int .i64 (numF (0 - a))]) ∧ w' = w := by
  have c1 := edifference_any 0 a w (by unfold inI; omega) ha
  generalize numN (0 - a) = x at *
  generalize numF (0 - a) = y at *
  clear ha
  go_enter Tryz.func210, Tryz.ntmps210
  go_wp2_with fail
  refine c1.mono ?_
  rintro e w1 ⟨rfl, rfl⟩
  clear c1
  go_wp2_with fail
  go_ret2
  exact ⟨rfl, rfl⟩
theorem tdiv_near (n b r : Int) (hb : b ≠ 0) (h : n.tdiv b = r) : (r * b - n).natAbs < b.natAbs := by
  have h1 := Int.mul_tdiv_add_tmod n b
  have h2 : (n.tmod b).natAbs < b.natAbs := by
    rw [Int.natAbs_tmod]
    exact Nat.mod_lt _ (by omega)
  rw [h, Int.mul_comm] at h1
  generalize r * b = p at *
  omega
set_option maxHeartbeats 4000000 in
theorem eproduct_any (a b : Int) (w : World) (ha : inI a) (hb : inI b) :
    Calls Tryz.prog 228 #[.int .i64 a, .int .i64 b] w fun e w' => e = .returned (.tuple #[.int .i64 (numN (a * b)), .int .i64 (numF (a * b))]) ∧ w' = w := by
  by_cases hb0 : b = 0
  · subst hb0
    rw [Int.mul_zero, show numN 0 = 0 by decide, show numF 0 = 0 by decide]
    clear ha hb
    go_enter Tryz.func228, Tryz.ntmps228
    go_wp2_with fail
    go_ret2
    exact ⟨rfl, rfl⟩
  by_cases hb1 : b = -1
  · subst hb1
    rw [show a * -1 = 0 - a by omega]
    have c1 := enegative_any a w ha
    generalize numN (0 - a) = x at *
    generalize numF (0 - a) = y at *
    clear ha hb hb0
    go_enter Tryz.func228, Tryz.ntmps228
    go_wp2_with fail
    refine c1.mono ?_
    rintro e w1 ⟨rfl, rfl⟩
    clear c1
    go_wp2_with fail
    go_ret2
    exact ⟨rfl, rfl⟩
  have z0 : (b == 0) = false := by simpa using hb0
  have z1 : (b == -1) = false := by simpa using hb1
  obtain ⟨n, hn⟩ : ∃ n, wrap64 (a * b) = n := ⟨_, rfl⟩
  obtain ⟨t, ht⟩ : ∃ t, n.tdiv b = t := ⟨_, rfl⟩
  have near := tdiv_near n b t hb0 ht
  obtain ⟨q, hq, h1, h2⟩ := wrap64_off (a * b)
  rw [hn] at hq h1 h2
  obtain ⟨u, hu⟩ : ∃ u, wrap64 t = u := ⟨_, rfl⟩
  by_cases h : inI (a * b)
  · have e1 : n = a * b := by rw [← hn]; exact wrap64_in h
    have e2 : t = a := by rw [← ht, e1]; exact Int.mul_tdiv_cancel a hb0
    have e3 : u = a := by rw [← hu, e2]; exact wrap64_in ha
    have z2 : (u != a) = false := by rw [e3]; simp
    have hN : numN (a * b) = n := by unfold numN; rw [if_pos h, e1]
    have hF : numF (a * b) = 0 := by unfold numF; rw [if_pos h]
    rw [hN, hF]

    clear hN hF h e1 e2 e3 near hq h1 h2 ha hb hb1
    go_enter Tryz.func228, Tryz.ntmps228
    go_wp2_with fail
    go_ret2
    exact ⟨by rw [← hn]; rfl, rfl⟩
  · have hN : numN (a * b) = 0 := by unfold numN; rw [if_neg h]
    have hF : numF (a * b) = 6 := by unfold numF; rw [if_neg h]
    rw [hN, hF]
    have z2 : (u != a) = true := by
      have hne : u ≠ a := by
        intro e
        have hbb := hb
        unfold inI at ha hb h
        have ht2 : t = a := by
          have : inI t := by
            have hle : t.natAbs ≤ n.natAbs := by
              rw [← ht, Int.natAbs_tdiv]; exact Nat.div_le_self _ _
            unfold inI
            by_cases hn2 : n = -9223372036854775808
            · by_cases hb2 : b = 1
              · rw [hb2, Int.tdiv_one] at ht; omega
              · have : n.natAbs / b.natAbs ≤ n.natAbs / 2 := Nat.div_le_div_left (by omega) (by decide)
                have h3 : t.natAbs = n.natAbs / b.natAbs := by rw [← ht, Int.natAbs_tdiv]; rfl
                omega
            · omega
          rw [← wrap64_in this, hu, e]
        rw [ht2] at near
        generalize a * b = p at *
        omega
      simpa using hne

    clear hN hF h near hq h1 h2 ha hb hb1
    go_enter Tryz.func228, Tryz.ntmps228
    go_wp2_with fail
    go_ret2
    exact ⟨rfl, rfl⟩
def divN (a b : Int) : Int := if b = 0 then 0 else numN (a.tdiv b)
def divF (a b : Int) : Int := if b = 0 then 7 else numF (a.tdiv b)
set_option maxHeartbeats 4000000 in
theorem equotient_any (a b : Int) (w : World) (ha : inI a) (hb : inI b) :
    Calls Tryz.prog 230 #[.int .i64 a, .int .i64 b] w fun e w' => e = .returned (.tuple #[.int .i64 (divN a b), .int .i64 (divF a b)]) ∧ w' = w := by
  unfold divN divF
  by_cases hb0 : b = 0
  · subst hb0
    rw [if_pos rfl, if_pos rfl]
    clear ha hb
    go_enter Tryz.func230, Tryz.ntmps230
    go_wp2_with fail
    go_ret2
    exact ⟨rfl, rfl⟩
  rw [if_neg hb0, if_neg hb0]
  by_cases hb1 : b = -1
  · subst hb1
    rw [show a.tdiv (-1) = 0 - a by rw [Int.tdiv_neg, Int.tdiv_one]; omega]
    have c1 := enegative_any a w ha
    generalize numN (0 - a) = x at *
    generalize numF (0 - a) = y at *
    clear ha hb hb0
    go_enter Tryz.func230, Tryz.ntmps230
    go_wp2_with fail
    refine c1.mono ?_
    rintro e w1 ⟨rfl, rfl⟩
    clear c1
    go_wp2_with fail
    go_ret2
    exact ⟨rfl, rfl⟩
  have z0 : (b == 0) = false := by simpa using hb0
  have z1 : (b == -1) = false := by simpa using hb1
  obtain ⟨t, ht⟩ : ∃ t, a.tdiv b = t := ⟨_, rfl⟩
  have hin : inI t := by
    unfold inI at ha hb ⊢
    have hle : t.natAbs ≤ a.natAbs := by
      rw [← ht, Int.natAbs_tdiv]; exact Nat.div_le_self _ _
    by_cases hn2 : a = -9223372036854775808
    · by_cases hb2 : b = 1
      · rw [hb2, Int.tdiv_one] at ht; omega
      · have : a.natAbs / b.natAbs ≤ a.natAbs / 2 := Nat.div_le_div_left (by omega) (by decide)
        have h3 : t.natAbs = a.natAbs / b.natAbs := by rw [← ht, Int.natAbs_tdiv]; rfl
        omega
    · omega
  have hu := wrap64_in hin
  rw [ht]
  have hN : numN t = t := by unfold numN; rw [if_pos hin]
  have hF : numF t = 0 := by unfold numF; rw [if_pos hin]
  rw [hN, hF]
  rw [← ht] at hu
  clear hN hF hin ha hb hb1
  go_enter Tryz.func230, Tryz.ntmps230
  go_wp2_with fail
  go_ret2
  exact ⟨by rw [← ht, ← hu]; simp [hu], rfl⟩
end Go.Proofs.YtfedlchncngafaaGreatDoor

/-! CONTRACTS of package eval's operations on one part. CONDITIONS: each theorem's own hypotheses. -/
namespace Go.Proofs.YtfedlchncngafaaGreatDoor
open Go.RowKit
set_option linter.unusedVariables false
set_option maxRecDepth 100000

/-- An expression made ready that says r of some fields, in each world behind w0. -/
def Says (w0 : World) (x y : Value) (iv : Value) (r : RE) : Prop :=
  ∃ (ty : TypeId) (rv : Value) (K : FuncId), iv = .iface ty rv ∧ (∀ w : World, (nilAhead 394 ty rv "chirograph/eval.says").run Tryz.prog w = .ok (some false) w) ∧ (∀ w : World, (method 394 ty rv "chirograph/eval.says").run Tryz.prog w = .ok (K, rv) w) ∧
  (∀ w : World, (callFunc K #[rv, .agg #[x, y]]).run Tryz.prog w = .ok (.enter K #[rv, .agg #[x, y]]) w) ∧
  ∀ W, Below w0.heap.size w0 W → Calls Tryz.prog K #[rv, .agg #[x, y]] W fun e w' => e = .returned (.tuple #[valV r.v, .int .i64 r.f]) ∧ Below W.heap.size W w'
/-- What valueOf answers. -/
def vofE (k : Int) (r : RE) : RE := if r.f ≠ 0 then badE r.f else if fitE r.v k = true then r else badE 2
theorem below_stepE {B : Nat} {a W w : World} (h : Below B a W) (hs : B ≤ W.heap.size) (hb : Below W.heap.size W w) : Below B a w := h.trans (hb.mono hs)
theorem Blk.four {w : World} {b : Nat} {T : TypeId} {v0 v1 v2 v3 : Value} (h : Blk w b T [v0, v1, v2, v3]) : (w.cell? ⟨b, 0, none⟩ = some v0 ∧ w.cell? ⟨b, 1, none⟩ = some v1 ∧ w.cell? ⟨b, 2, none⟩ = some v2 ∧ w.cell? ⟨b, 3, none⟩ = some v3) ∧ w.frozen? ⟨b, 0, none⟩ = false ∧ w.frozen? ⟨b, 1, none⟩ = false ∧ w.frozen? ⟨b, 2, none⟩ = false ∧ w.frozen? ⟨b, 3, none⟩ = false :=
  ⟨⟨h.cell (j := 0) rfl, h.cell (j := 1) rfl, h.cell (j := 2) rfl, h.cell (j := 3) rfl⟩, h.free 0, h.free 1, h.free 2, h.free 3⟩
theorem three_new (w : World) (a b c : Array Value) (A B C : TypeId) : Blk (((w.alloc (.cells a A)).alloc (.cells b B)).alloc (.cells c C)) w.heap.size A a.toList ∧ Blk (((w.alloc (.cells a A)).alloc (.cells b B)).alloc (.cells c C)) (w.heap.size + 1) B b.toList ∧ Blk (((w.alloc (.cells a A)).alloc (.cells b B)).alloc (.cells c C)) (w.heap.size + 1 + 1) C c.toList ∧ Below w.heap.size w (((w.alloc (.cells a A)).alloc (.cells b B)).alloc (.cells c C)) :=
  ⟨((Blk.new w a A).alloc _).alloc _, (Blk.atNew b B (by simp)).alloc _, Blk.atNew c C (by simp), (((Below.refl _ _).alloc (Nat.le_refl _) _).alloc (by simp) _).alloc (by simp; omega) _⟩
set_option maxHeartbeats 8000000 in
theorem valueOf_any (w0 : World) (x y iv : Value) (r : RE) (k : Int) (hS : Says w0 x y iv r) (hr : OkR r) (w : World) (hw : Below w0.heap.size w0 w) :
    Calls Tryz.prog 208 #[.agg #[iv], .int .i64 k, .agg #[x, y]] w fun e w' => e = .returned (.tuple #[valV (vofE k r).v, .int .i64 (vofE k r).f]) ∧ Below w.heap.size w w' := by
  obtain ⟨ty, rv, K, rfl, hn, hm, hc, hC⟩ := hS
  have hs0 := hw.size
  obtain ⟨z0, z1, z3, hb3⟩ := three_new w #[.iface ty rv] #[x, y] #[.int .i64 0, .int .i64 0, .int .u64 0, .string ⟨#[]⟩] 151 121 24
  generalize hw3 : ((w.alloc (.cells #[.iface ty rv] 151)).alloc (.cells #[x, y] 121)).alloc (.cells #[.int .i64 0, .int .i64 0, .int .u64 0, .string ⟨#[]⟩] 24) = w3 at z0 z1 z3 hb3
  have p0 := z0.cell (j := 0) rfl
  have p1 := z1.cell (j := 0) rfl
  have p2 := z1.cell (j := 1) rfl
  have c1 := hC w3 (below_stepE hw hs0 hb3)
  have hbad := hr.bad
  clear hC hw hr z0 z1
  obtain ⟨⟨k', i, b, s⟩, f⟩ := r
  have cF := fun W => efits_any ⟨k', i, b, s⟩ k W
  unfold valV at c1 cF
  simp only at c1 cF hbad
  obtain ⟨S, hS⟩ : ∃ S, str s = S := ⟨_, rfl⟩
  rw [hS] at c1 cF
  obtain ⟨FT, hFT⟩ : ∃ FT, fitE ⟨k', i, b, s⟩ k = FT := ⟨_, rfl⟩
  rw [hFT] at cF
  have hR : vofE k ⟨⟨k', i, b, s⟩, f⟩ = if f ≠ 0 then badE f else if FT = true then ⟨⟨k', i, b, s⟩, f⟩ else badE 2 := by unfold vofE; rw [hFT]
  have HR := Lib.hid hR
  have HB := Lib.hid hbad
  have HS := Lib.hid hS
  generalize vofE k ⟨⟨k', i, b, s⟩, f⟩ = R at *
  clear hR hbad hS hFT
  go_enter Tryz.func208, Tryz.ntmps208
  go_upto_region 1 with fail
  try rw [hw3]
  clear hw3
  go_wp2_with fail
  refine c1.mono ?_
  rintro e w4 ⟨rfl, hb4⟩
  have hb04 := below_stepE hb3 hb3.size hb4
  have z4 := z3.call hb4
  clear c1 hb4 p0 p1 p2 z3 hb3
  have z5 : Blk (w4.alloc (.cells #[.int .i64 k', .int .i64 i, .int .u64 b, .string S] 24)) w4.heap.size 24 [.int .i64 k', .int .i64 i, .int .u64 b, .string S] := Blk.new w4 #[.int .i64 k', .int .i64 i, .int .u64 b, .string S] _
  have z6 := z4.alloc (.cells #[.int .i64 k', .int .i64 i, .int .u64 b, .string S] 24)
  have hb05 : Below w.heap.size w (w4.alloc (.cells #[.int .i64 k', .int .i64 i, .int .u64 b, .string S] 24)) := hb04.alloc hb04.size _
  generalize hw5 : w4.alloc (.cells #[.int .i64 k', .int .i64 i, .int .u64 b, .string S] 24) = w5 at z5 z6 hb05
  have hrr : w.heap.size ≤ w.heap.size + 1 + 1 := by omega
  clear hb04 z4
  go_upto_region 2 with fail
  try rw [hw5]
  clear hw5
  generalize w4.heap.size = g at *
  generalize hgr : w.heap.size + 1 + 1 = gr at *
  clear hgr
  by_cases hf : f = 0
  · subst hf
    obtain ⟨⟨p0, p1, p2, p3⟩, _⟩ := z5.four
    have z5' := z5
    go_wp2_with fail
    refine (cF _).mono ?_
    rintro e w6 ⟨rfl, hb6⟩
    have hb06 := below_stepE hb05 hb05.size hb6
    have z7 := z6.call hb6
    have z8 := z5.call hb6
    clear cF hb6 hb05 p0 p1 p2 p3 z5 z6 z5'
    obtain ⟨⟨q0, q1, q2, q3⟩, f0, f1, f2, f3⟩ := z7.four
    obtain ⟨⟨p0, p1, p2, p3⟩, _⟩ := z8.four
    have hfin := fun a b c d => below_set4 (a := a) (b := b) (c := c) (d := d) hb06 hrr
    cases FT
    · have HR2 : Hid (R = badE 2) := HR.out
      clear HR
      go_wp2_with fail
      exact bodyPost_ret (results_val rfl _ _ gr _ _ _ _ rfl z7.set4) rfl ⟨by rw [HR2.out]; rfl, hfin _ _ _ _⟩
    · have HR2 : Hid (R = ⟨⟨k', i, b, s⟩, 0⟩) := HR.out
      clear HR
      go_wp2_with fail
      exact bodyPost_ret (results_val rfl _ _ gr _ _ _ _ rfl z7.set4) rfl ⟨by rw [HR2.out, ← HS.out]; rfl, hfin _ _ _ _⟩
  · have hf1 : (f == 0) = false := by simpa using hf
    have hf2 : (f != 0) = true := by simpa using hf
    have HR2 : Hid (R = badE f) := by have := HR.out; rw [if_pos hf] at this; exact this
    have hv := HB.out hf
    unfold nulV at hv
    simp only [Vl.mk.injEq] at hv
    obtain ⟨rfl, rfl, rfl, rfl⟩ := hv
    obtain rfl := HS.out
    clear HR HB HS cF
    obtain ⟨⟨q0, q1, q2, q3⟩, f0, f1, f2, f3⟩ := z6.four
    obtain ⟨⟨p0, p1, p2, p3⟩, _⟩ := z5.four
    have hfin := fun a b c d => below_set4 (a := a) (b := b) (c := c) (d := d) hb05 hrr
    go_wp2_with fail
    exact bodyPost_ret (results_val rfl _ _ gr _ _ _ _ rfl z6.set4) rfl ⟨by rw [HR2.out]; rfl, hfin _ _ _ _⟩
end Go.Proofs.YtfedlchncngafaaGreatDoor

/-! CONTRACTS of package eval's truths, and of package value's Not, And, Or. CONDITIONS: each theorem's own hypotheses. -/
namespace Go.Proofs.YtfedlchncngafaaGreatDoor
open Go.RowKit
set_option linter.unusedVariables false
set_option maxRecDepth 100000

set_option maxHeartbeats 8000000 in
theorem etruthOf_any (v : Vl) (h : OkV v) (w : World) :
    Calls Tryz.prog 216 #[valV v] w fun e w' => e = .returned (.int .i64 (trT v)) ∧ Below w.heap.size w w' := by
  have cB := fun b W => eboolOf_any b W
  have hcell : ∀ (b : Bool), valV (booV b) = .agg #[.int .i64 1, .int .i64 (if b = true then 1 else 0), .int .u64 0, .string ⟨#[]⟩] := fun b => rfl
  simp only [hcell] at cB
  clear hcell
  have cT := fun W => cB true W
  have cF := fun W => cB false W
  simp only [if_true, Bool.false_eq_true, if_false] at cT cF
  clear cB
  rcases h.cases with rfl | ⟨b, rfl⟩ | ⟨n, rfl, _, _⟩ | ⟨hk, hi, hs⟩ | ⟨s, rfl, _, _⟩
  · rw [show trT nulV = 1 by rfl]
    unfold valV nulV
    rw [str_nil]
    go_enter Tryz.func216, Tryz.ntmps216
    go_wp2_with fail
    refine (cT _).mono ?_
    rintro e w1 ⟨rfl, hb1⟩
    have hbb1 : Below w.heap.size w w1 := ((Below.refl _ _).alloc (Nat.le_refl _) _).trans (hb1.mono (by simp))
    clear hb1
    go_wp2_with fail
    refine (cF _).mono ?_
    rintro e w2 ⟨rfl, hb2⟩
    have hbb2 : Below w.heap.size w w2 := hbb1.trans (hb2.mono hbb1.size)
    clear hb2
    go_wp2_with fail
    go_ret
    exact ⟨rfl, hbb2⟩
  · cases b
    · rw [show trT (booV false) = 0 by rfl]
      unfold valV booV
      rw [str_nil]
      go_enter Tryz.func216, Tryz.ntmps216
      go_wp2_with fail
      refine (cT _).mono ?_
      rintro e w1 ⟨rfl, hb1⟩
      have hbb1 : Below w.heap.size w w1 := ((Below.refl _ _).alloc (Nat.le_refl _) _).trans (hb1.mono (by simp))
      clear hb1
      go_wp2_with fail
      refine (cF _).mono ?_
      rintro e w2 ⟨rfl, hb2⟩
      have hbb2 : Below w.heap.size w w2 := hbb1.trans (hb2.mono hbb1.size)
      clear hb2
      go_wp2_with fail
      go_ret
      exact ⟨rfl, hbb2⟩
    · rw [show trT (booV true) = 2 by rfl]
      unfold valV booV
      rw [str_nil]
      go_enter Tryz.func216, Tryz.ntmps216
      go_wp2_with fail
      refine (cT _).mono ?_
      rintro e w1 ⟨rfl, hb1⟩
      have hbb1 : Below w.heap.size w w1 := ((Below.refl _ _).alloc (Nat.le_refl _) _).trans (hb1.mono (by simp))
      clear hb1
      go_wp2_with fail
      go_ret
      exact ⟨rfl, hbb1⟩
  · rw [show trT (intV n) = 1 by rfl]
    unfold valV intV
    rw [str_nil]
    go_enter Tryz.func216, Tryz.ntmps216
    go_wp2_with fail
    refine (cT _).mono ?_
    rintro e w1 ⟨rfl, hb1⟩
    have hbb1 : Below w.heap.size w w1 := ((Below.refl _ _).alloc (Nat.le_refl _) _).trans (hb1.mono (by simp))
    clear hb1
    go_wp2_with fail
    refine (cF _).mono ?_
    rintro e w2 ⟨rfl, hb2⟩
    have hbb2 : Below w.heap.size w w2 := hbb1.trans (hb2.mono hbb1.size)
    clear hb2
    go_wp2_with fail
    go_ret
    exact ⟨rfl, hbb2⟩
  · obtain ⟨k, i, b, s⟩ := v
    simp only at hk hi hs
    subst hk hi hs
    rw [show trT ⟨3, 0, b, []⟩ = 1 by rfl]
    unfold valV
    rw [str_nil]
    clear h
    go_enter Tryz.func216, Tryz.ntmps216
    go_wp2_with fail
    refine (cT _).mono ?_
    rintro e w1 ⟨rfl, hb1⟩
    have hbb1 : Below w.heap.size w w1 := ((Below.refl _ _).alloc (Nat.le_refl _) _).trans (hb1.mono (by simp))
    clear hb1
    go_wp2_with fail
    refine (cF _).mono ?_
    rintro e w2 ⟨rfl, hb2⟩
    have hbb2 : Below w.heap.size w w2 := hbb1.trans (hb2.mono hbb1.size)
    clear hb2
    go_wp2_with fail
    go_ret
    exact ⟨rfl, hbb2⟩
  · rw [show trT (txtV s) = 1 by rfl]
    unfold valV txtV
    simp only
    generalize str s = S
    clear h
    go_enter Tryz.func216, Tryz.ntmps216
    go_wp2_with fail
    refine (cT _).mono ?_
    rintro e w1 ⟨rfl, hb1⟩
    have hbb1 : Below w.heap.size w w1 := ((Below.refl _ _).alloc (Nat.le_refl _) _).trans (hb1.mono (by simp))
    clear hb1
    go_wp2_with fail
    refine (cF _).mono ?_
    rintro e w2 ⟨rfl, hb2⟩
    have hbb2 : Below w.heap.size w w2 := hbb1.trans (hb2.mono hbb1.size)
    clear hb2
    go_wp2_with fail
    go_ret
    exact ⟨rfl, hbb2⟩
theorem trT_rng (v : Vl) : trT v = 0 ∨ trT v = 1 ∨ trT v = 2 := by
  unfold trT
  split
  · split
    · exact .inr (.inr rfl)
    · exact .inl rfl
  · exact .inr (.inl rfl)
set_option maxHeartbeats 8000000 in
theorem vNot_any (t : Int) (h : t = 0 ∨ t = 1 ∨ t = 2) (w : World) :
    Calls Tryz.prog 215 #[.int .i64 t] w fun e w' => e = .returned (.tuple #[.int .i64 (2 - t), .int .i64 0]) ∧ w' = w := by
  rcases h with rfl | rfl | rfl
  all_goals
    go_enter Tryz.func215, Tryz.ntmps215
    go_wp2_with fail
    go_ret2
    exact ⟨rfl, rfl⟩
set_option maxHeartbeats 16000000 in
theorem vAnd_any (a b : Int) (ha : a = 0 ∨ a = 1 ∨ a = 2) (hb : b = 0 ∨ b = 1 ∨ b = 2) (w : World) :
    Calls Tryz.prog 256 #[.int .i64 a, .int .i64 b] w fun e w' => e = .returned (.tuple #[.int .i64 (andT a b), .int .i64 0]) ∧ w' = w := by
  rcases ha with rfl | rfl | rfl <;> rcases hb with rfl | rfl | rfl
  all_goals
    go_enter Tryz.func256, Tryz.ntmps256
    go_wp2
    go_ret2
    exact ⟨rfl, rfl⟩
set_option maxHeartbeats 16000000 in
theorem vOr_any (a b : Int) (ha : a = 0 ∨ a = 1 ∨ a = 2) (hb : b = 0 ∨ b = 1 ∨ b = 2) (w : World) :
    Calls Tryz.prog 260 #[.int .i64 a, .int .i64 b] w fun e w' => e = .returned (.tuple #[.int .i64 (orT a b), .int .i64 0]) ∧ w' = w := by
  rcases ha with rfl | rfl | rfl <;> rcases hb with rfl | rfl | rfl
  all_goals
    go_enter Tryz.func260, Tryz.ntmps260
    go_wp2
    go_ret2
    exact ⟨rfl, rfl⟩
/-- What told answers. -/
def tolF (t f : Int) : RE := if f ≠ 0 then badE f else tolE t
set_option maxHeartbeats 8000000 in
theorem told_any (t f : Int) (w : World) :
    Calls Tryz.prog 214 #[.int .i64 t, .int .i64 f] w fun e w' => e = .returned (.tuple #[valV (tolF t f).v, .int .i64 (tolF t f).f]) ∧ Below w.heap.size w w' := by
  unfold tolF tolE
  by_cases h : f = 0
  · subst h
    rw [if_neg (by decide)]
    by_cases h1 : t = 1
    · subst h1
      rw [if_pos rfl]
      go_enter Tryz.func214, Tryz.ntmps214
      go_wp2_with fail
      exact bodyPost_ret (v := .tuple #[.agg #[.int .i64 0, .int .i64 0, .int .u64 0, .string { data := #[] }], .int .i64 0]) (by simp [results, Tryz.results214, go_sem]) rfl ⟨rfl, by first | exact below_set4 ((Below.refl _ _).alloc (Nat.le_refl _) _) (Nat.le_refl _) | exact (Below.refl _ _).alloc (Nat.le_refl _) _⟩
    · rw [if_neg h1]
      have cB := fun b W => eboolOf_any b W
      have z1 : (t == 1) = false := by simpa using h1
      obtain ⟨B, hB⟩ : ∃ B, (t == 2) = B := ⟨_, rfl⟩
      rw [hB]
      obtain ⟨w1, hw1⟩ : ∃ w1, w.alloc (.cells #[.int .i64 0, .int .i64 0, .int .u64 0, .string ⟨#[]⟩] 24) = w1 := ⟨_, rfl⟩
      have z1b : Blk w1 w.heap.size 24 [.int .i64 0, .int .i64 0, .int .u64 0, .string ⟨#[]⟩] := by rw [← hw1]; exact Blk.new w #[.int .i64 0, .int .i64 0, .int .u64 0, .string ⟨#[]⟩] _
      have hb1 : Below w.heap.size w w1 := by rw [← hw1]; exact (Below.refl _ _).alloc (Nat.le_refl _) _
      clear h1
      go_enter Tryz.func214, Tryz.ntmps214
      go_upto_region 1 with fail
      try rw [hw1]
      clear hw1
      go_wp2_with fail
      refine (cB _ _).mono ?_
      rintro e w2 ⟨rfl, hb2⟩
      have z2 := z1b.call hb2
      have hb02 : Below w.heap.size w w2 := hb1.trans (hb2.mono hb1.size)
      clear cB hb1 hb2 z1b
      have f0 := z2.free 0
      have f1 := z2.free 1
      have f2 := z2.free 2
      have f3 := z2.free 3
      have p0 := z2.cell (j := 0) rfl
      have p1 := z2.cell (j := 1) rfl
      have p2 := z2.cell (j := 2) rfl
      have p3 := z2.cell (j := 3) rfl
      have hfin := fun a b c d => below_set4 (a := a) (b := b) (c := c) (d := d) hb02 (Nat.le_refl _)
      cases B
      · unfold valV booV
        simp only [Bool.false_eq_true, if_false]
        rw [str_nil]
        go_wp2_with fail
        exact bodyPost_ret (results_val rfl _ _ w.heap.size _ _ _ _ rfl z2.set4) rfl ⟨rfl, hfin _ _ _ _⟩
      · unfold valV booV
        simp only [if_true]
        rw [str_nil]
        go_wp2_with fail
        exact bodyPost_ret (results_val rfl _ _ w.heap.size _ _ _ _ rfl z2.set4) rfl ⟨rfl, hfin _ _ _ _⟩
  · rw [if_pos h]
    have z1 : (f != 0) = true := by simpa using h
    go_enter Tryz.func214, Tryz.ntmps214
    go_wp2_with fail
    exact bodyPost_ret (v := .tuple #[.agg #[.int .i64 0, .int .i64 0, .int .u64 0, .string { data := #[] }], .int .i64 f]) (by simp [results, Tryz.results214, go_sem]) rfl ⟨rfl, by first | exact below_set4 ((Below.refl _ _).alloc (Nat.le_refl _) _) (Nat.le_refl _) | exact (Below.refl _ _).alloc (Nat.le_refl _) _⟩
end Go.Proofs.YtfedlchncngafaaGreatDoor
