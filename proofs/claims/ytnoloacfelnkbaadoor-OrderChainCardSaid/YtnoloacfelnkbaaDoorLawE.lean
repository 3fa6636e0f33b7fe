/-
  THE WALK of the law 'chirographkeep.RealsRise': for every two numbers the law returns true.
  CONDITIONS: package unicode/utf8's two tables hold what their initialisers lay ('Tabs').
-/
import Derived.Test.YtnoloacfelnkbaaDoorRawB
import Derived.Test.YtnoloacfelnkbaaDoorOrdMath
import Derived.Test.YtnoloacfelnkbaaDoorRealMath
import Derived.OpenShut
import Derived.LoopTactic
namespace Go.Proofs.YtnoloacfelnkbaaDoor
open Go.RowKit
set_option linter.unusedVariables false

def WholeOk (n : Int) (w : World) (e : Ending) (w' : World) : Prop := ∃ b : Int, RealMath.Whole n b ∧ e = .returned (.agg #[.int .i64 3, .int .i64 0, .int .u64 b, .string { data := #[] }]) ∧ Below w.heap.size w w'

theorem whole_zero (w : World) : Calls Tryd.prog 20 #[.int .i64 0] w (WholeOk 0 w) := by
  go_enter Tryd.func20, Tryd.ntmps20
  go_wp2
  exact bodyPost_ret (v := .agg #[.int .i64 3, .int .i64 0, .int .u64 0, .string { data := #[] }]) (by simp [results, Tryd.results20, go_sem]) rfl ⟨0, Or.inl ⟨rfl, rfl⟩, rfl, (Below.refl _ _).alloc (Nat.le_refl _) _⟩

/-- What the loop holds: K is n's digits, j times doubled; E the exponent. -/
structure Doubled (n K E : Int) where
  j : Nat
  eq : K.toNat = n.toNat * 2 ^ j
  ex : E = 1075 - (j : Int)
  le : j ≤ 52
theorem doubled_step (n K E : Int) (hn : 1 ≤ n) (hK : 1 ≤ K) (hc : K < 4503599627370496) (d : Doubled n K E) : ∃ d' : Doubled n (K * 2) (E - 1), 1024 ≤ E := by
  have hj := RealMath.pow_le_of n.toNat d.j (by omega) (by rw [← d.eq]; omega)
  have := d.ex
  exact ⟨⟨d.j + 1, by rw [Nat.pow_succ, ← Nat.mul_assoc, ← d.eq]; omega, by omega, by omega⟩, by omega⟩
theorem doubled_end (n K E S : Int) (hn : 1 ≤ n) (h1 : 4503599627370496 ≤ K) (h2 : K < 9007199254740992) (d : Doubled n K E) (hs : S = 0 ∨ S = 9223372036854775808) :
    ∃ r : Nat, bits .or .u64 (bits .or .u64 S (E * 4503599627370496)) (bits .and .u64 K 4503599627370495) = S + r ∧ 0 < r ∧ r < 9218868437227405312 ∧ FloatOrd.val r = n.toNat * 2 ^ 1074 := by
  have := d.ex
  have := d.le
  obtain ⟨s, hs', hS⟩ : ∃ s : Int, (s = 0 ∨ s = 1) ∧ S = s * 9223372036854775808 := by
    rcases hs with h | h
    · exact ⟨0, Or.inl rfl, by omega⟩
    · exact ⟨1, Or.inr rfl, by omega⟩
  have j := RealMath.join s E K hs' (by omega) (by omega) h1 h2
  rw [RealMath.wraps_u64 (s * 9223372036854775808) (by omega) (by omega), RealMath.wraps_u64 (E * 4503599627370496) (by omega) (by omega), ← hS] at j
  rw [j]
  refine ⟨(1075 - d.j) * 4503599627370496 + (K.toNat - 4503599627370496), by omega, by omega, by omega, ?_⟩
  exact RealMath.val_whole n.toNat K.toNat d.j d.eq (by omega) (by omega) d.le

def WHoleAt (n : Int) (k e : Value) : Prop := ∃ K E : Int, k = .int .u64 K ∧ e = .int .u64 E ∧ 1 ≤ K ∧ K < 9007199254740992 ∧ 0 ≤ E ∧ E ≤ 1075 ∧ Nonempty (Doubled n K E)

set_option maxRecDepth 100000 in
set_option maxHeartbeats 1000000 in
theorem whole_pos (n : Int) (w : World) (h1 : 1 ≤ n) (h2 : n ≤ 562949953421312) : Calls Tryd.prog 20 #[.int .i64 n] w (WholeOk n w) := by
  have hz : (n == 0) = false := by simp; omega
  have hw : IntKind.u64.wrap n = n := RealMath.wraps_u64 _ (by omega) (by omega)
  have hlt : ¬ n < 0 := by omega
  have hd : WHoleAt n (.int .u64 n) (.int .u64 1075) := ⟨n, 1075, rfl, rfl, h1, by omega, by decide, by decide, ⟨⟨0, by simp, by decide, by decide⟩⟩⟩
  have HD := Lib.hid hd
  have H1 := Lib.hid h1
  clear hd h1 h2
  go_enter Tryd.func20, Tryd.ntmps20
  go_wp2
  go_loop [4, 5] (fun k e => WHoleAt n k e) (fun _ e => (intOf e).toNat)
  case atStart => exact HD.out
  case round =>
    obtain ⟨K, E, rfl, rfl, hK1, hK2, hE0, hE1, ⟨d⟩⟩ := hrel
    by_cases hc : K < 4503599627370496
    · obtain ⟨d', hE⟩ := doubled_step n K E H1.out hK1 hc d
      clear hw hz d
      have D' := Lib.hid (show Nonempty (Doubled n (K * 2) (E - 1)) from ⟨d'⟩)
      clear d'
      go_wp2
      go_round
      case rel => exact ⟨K * 2, E - 1, rfl, rfl, by omega, by omega, by omega, by omega, D'.out⟩
      case measure => simp [intOf]; omega
    · obtain ⟨r, hr, r0, r1, hv⟩ := doubled_end n K E 0 H1.out (by omega) hK2 d (Or.inl rfl)
      simp only [Int.zero_add] at hr
      have HR := Lib.hid hr
      have HV := Lib.hid hv
      clear hr hv d hw hz
      go_wp2
      exact bodyPost_ret (v := .agg #[.int .i64 3, .int .i64 0, .int .u64 (bits .or .u64 (bits .or .u64 0 (E * 4503599627370496)) (bits .and .u64 K 4503599627370495)), .string { data := #[] }]) (by simp [results, Tryd.results20, go_sem]) rfl ⟨_, Or.inr (Or.inl ⟨by have := H1.out; omega, r, HR.out, r0, r1, HV.out⟩), rfl, (Below.refl _ _).alloc (Nat.le_refl _) _⟩

set_option maxRecDepth 100000 in
set_option maxHeartbeats 1000000 in
theorem whole_neg (n : Int) (w : World) (h1 : 1 ≤ n) (h2 : n ≤ 562949953421312) : Calls Tryd.prog 20 #[.int .i64 (-n)] w (WholeOk (-n) w) := by
  have hz : (-n == 0) = false := by simp; omega
  have hw : IntKind.u64.wrap n = n := RealMath.wraps_u64 _ (by omega) (by omega)
  have hlt : -n < 0 := by omega
  have hd : WHoleAt n (.int .u64 n) (.int .u64 1075) := ⟨n, 1075, rfl, rfl, h1, by omega, by decide, by decide, ⟨⟨0, by simp, by decide, by decide⟩⟩⟩
  have HD := Lib.hid hd
  have H1 := Lib.hid h1
  have h3 : 0 ≤ n := by omega
  clear hd h1
  go_enter Tryd.func20, Tryd.ntmps20
  go_wp2
  go_loop [4, 5] (fun k e => WHoleAt n k e) (fun _ e => (intOf e).toNat)
  case atStart => exact HD.out
  case round =>
    obtain ⟨K, E, rfl, rfl, hK1, hK2, hE0, hE1, ⟨d⟩⟩ := hrel
    by_cases hc : K < 4503599627370496
    · obtain ⟨d', hE⟩ := doubled_step n K E H1.out hK1 hc d
      clear hw hz d
      have D' := Lib.hid (show Nonempty (Doubled n (K * 2) (E - 1)) from ⟨d'⟩)
      clear d'
      go_wp2
      go_round
      case rel => exact ⟨K * 2, E - 1, rfl, rfl, by omega, by omega, by omega, by omega, D'.out⟩
      case measure => simp [intOf]; omega
    · obtain ⟨r, hr, r0, r1, hv⟩ := doubled_end n K E 9223372036854775808 H1.out (by omega) hK2 d (Or.inr rfl)
      have HR := Lib.hid hr
      have HV := Lib.hid hv
      clear hr hv d hw hz
      go_wp2
      exact bodyPost_ret (v := .agg #[.int .i64 3, .int .i64 0, .int .u64 (bits .or .u64 (bits .or .u64 9223372036854775808 (E * 4503599627370496)) (bits .and .u64 K 4503599627370495)), .string { data := #[] }]) (by simp [results, Tryd.results20, go_sem]) rfl ⟨_, Or.inr (Or.inr ⟨by have := H1.out; omega, r, HR.out, r0, r1, by rw [HV.out, Int.neg_neg]⟩), rfl, (Below.refl _ _).alloc (Nat.le_refl _) _⟩

theorem whole_any (n : Int) (w : World) (h1 : -562949953421312 ≤ n) (h2 : n ≤ 562949953421312) : Calls Tryd.prog 20 #[.int .i64 n] w (WholeOk n w) := by
  rcases Int.lt_trichotomy n 0 with h | rfl | h
  · have := whole_neg (-n) w (by omega) (by omega)
    rw [Int.neg_neg] at this
    exact this
  · exact whole_zero w
  · exact whole_pos n w (by omega) h2

/-- How two whole numbers stand as reals: as they stand. -/
theorem compare_reals (m n b c : Int) (hb : RealMath.Whole m b) (hc : RealMath.Whole n c) (w : World) (hT : Tabs w) :
    Calls Tryd.prog 13 #[.agg #[.int .i64 3, .int .i64 0, .int .u64 b, .string { data := #[] }], .agg #[.int .i64 3, .int .i64 0, .int .u64 c, .string { data := #[] }]] w fun e w' => e = .returned (.tuple #[.int .i64 (cmp3 m n), .int .i64 0]) ∧ Below w.heap.size w w' := by
  obtain ⟨b0, b1, b2, b3⟩ := RealMath.whole_fine m b hb
  obtain ⟨c0, c1, c2, c3⟩ := RealMath.whole_fine n c hc
  have fb := fits4 3 0 b { data := #[] } (by decide) (by decide) (by decide) (by decide) b0 b1 (by decide)
  have fc := fits4 3 0 c { data := #[] } (by decide) (by decide) (by decide) (by decide) c0 c1 (by decide)
  have kb : chk 3 0 b { data := #[] } = 0 := chk_real b (by unfold nan; exact decide_eq_false b2) (by simpa using b3)
  have kc : chk 3 0 c { data := #[] } = 0 := chk_real c (by unfold nan; exact decide_eq_false c2) (by simpa using c3)
  have e : chk2 ⟨3, 0, b, { data := #[] }⟩ ⟨3, 0, c, { data := #[] }⟩ = 0 := by
    unfold chk2
    have kb' : V.chk ⟨3, 0, b, { data := #[] }⟩ = 0 := kb
    rw [if_pos kb']; exact kc
  have h := compare_any ⟨3, 0, b, { data := #[] }⟩ ⟨3, 0, c, { data := #[] }⟩ w fb fc hT
  have r : compareR ⟨3, 0, b, { data := #[] }⟩ ⟨3, 0, c, { data := #[] }⟩ = cmp3 m n := by
    unfold compareR
    rw [if_pos e]
    refine (ordV_eq (V.mk 3 0 b { data := #[] }) (V.mk 3 0 c { data := #[] }) (show (3 : Int) = 3 from rfl)).trans ?_
    unfold sub
    rw [if_pos rfl]
    exact cmp3_congr (RealMath.whole_lt m n b c hb hc) (RealMath.whole_lt n m c b hc hb)
  rw [r, e] at h
  exact h
theorem compare_ints (m n : Int) (m0 : -9223372036854775808 ≤ m) (m1 : m ≤ 9223372036854775807) (n0 : -9223372036854775808 ≤ n) (n1 : n ≤ 9223372036854775807) (w : World) (hT : Tabs w) :
    Calls Tryd.prog 13 #[.agg #[.int .i64 2, .int .i64 m, .int .u64 0, .string { data := #[] }], .agg #[.int .i64 2, .int .i64 n, .int .u64 0, .string { data := #[] }]] w fun e w' => e = .returned (.tuple #[.int .i64 (cmp3 m n), .int .i64 0]) ∧ Below w.heap.size w w' := by
  have fb := fits4 2 m 0 { data := #[] } (by decide) (by decide) m0 m1 (by decide) (by decide) (by decide)
  have fc := fits4 2 n 0 { data := #[] } (by decide) (by decide) n0 n1 (by decide) (by decide) (by decide)
  have e : chk2 ⟨2, m, 0, { data := #[] }⟩ ⟨2, n, 0, { data := #[] }⟩ = 0 := by
    unfold chk2
    have kb' : V.chk ⟨2, m, 0, { data := #[] }⟩ = 0 := chk_int m
    rw [if_pos kb']; exact chk_int n
  have h := compare_any ⟨2, m, 0, { data := #[] }⟩ ⟨2, n, 0, { data := #[] }⟩ w fb fc hT
  have r : compareR ⟨2, m, 0, { data := #[] }⟩ ⟨2, n, 0, { data := #[] }⟩ = cmp3 m n := by
    unfold compareR
    rw [if_pos e]
    refine (ordV_eq (V.mk 2 m 0 { data := #[] }) (V.mk 2 n 0 { data := #[] }) (show (2 : Int) = 2 from rfl)).trans ?_
    unfold sub
    rw [if_neg (show ¬ (2 : Int) = 3 by decide), if_neg (show ¬ (2 : Int) = 4 by decide), if_pos (Or.inr rfl)]
  rw [r, e] at h
  exact h

theorem below_step' {w W w1 : World} (h : Below w.heap.size w W) (hb : Below W.heap.size W w1) : Below w.heap.size w w1 := h.trans (hb.mono h.size)

set_option maxRecDepth 100000 in
set_option maxHeartbeats 1000000 in
theorem realsRise_bounds (a b : Int) (ha : -9223372036854775808 ≤ a) (ha1 : a ≤ 9223372036854775807) (hb0 : -9223372036854775808 ≤ b) (hb1 : b ≤ 9223372036854775807) (w : World) (hT : Tabs w) :
    Calls Tryd.prog 9 #[.int .i64 a, .int .i64 b] w fun e w' => e = .returned (.bool true) ∧ Below w.heap.size w w' := by
  have cP := fun w => picked_any a 1125899906842624 w (by decide) (by decide) ha ha1
  have cQ := fun w => picked_any b 1125899906842624 w (by decide) (by decide) hb0 hb1
  have h1 : 0 ≤ a % 1125899906842624 ∧ a % 1125899906842624 < 1125899906842624 := by omega
  have h2 : 0 ≤ b % 1125899906842624 ∧ b % 1125899906842624 < 1125899906842624 := by omega
  generalize a % 1125899906842624 = x at cP h1
  generalize b % 1125899906842624 = y at cQ h2
  obtain ⟨x0, x1⟩ := h1
  obtain ⟨y0, y1⟩ := h2
  have cM := fun w => whole_any (x - 562949953421312) w (by omega) (by omega)
  have cN := fun w => whole_any (y - 562949953421312) w (by omega) (by omega)
  have cI := fun w => compare_ints (x - 562949953421312) (y - 562949953421312) (by omega) (by omega) (by omega) (by omega) w
  have HT := Lib.hid hT
  clear ha ha1 hb0 hb1 hT
  go_enter Tryd.func9, Tryd.ntmps9
  go_wp2_with fail
  refine (cP _).mono ?_
  rintro e w1 ⟨rfl, rfl⟩
  go_wp2_with fail
  refine (cQ _).mono ?_
  rintro e w1 ⟨rfl, rfl⟩
  go_wp2_with fail
  refine (cM _).mono ?_
  rintro e w1 ⟨B, hB, rfl, hb1⟩
  have HB := Lib.hid hB
  clear hB cM cP cQ
  go_wp2_with fail
  refine (cN _).mono ?_
  rintro e w2 ⟨C, hC, rfl, hb2⟩
  have HC := Lib.hid hC
  have H2 := Lib.hid (below_step' hb1 hb2)
  have hT2 := tabs_below HT.out H2.out
  clear hC cN hb1 hb2
  have cR := compare_reals (x - 562949953421312) (y - 562949953421312) B C HB.out HC.out w2 hT2
  have hD : (x - 562949953421312 == y - 562949953421312) = true ∨ ((x - 562949953421312 == y - 562949953421312) = false ∧ (cmp3 (x - 562949953421312) (y - 562949953421312) != 0) = true) := by
    by_cases h : x - 562949953421312 = y - 562949953421312
    · exact Or.inl (by simpa using h)
    · refine Or.inr ⟨by simpa using h, ?_⟩
      have := cmp3_zero (x - 562949953421312) (y - 562949953421312)
      simp only [bne_iff_ne, ne_eq]
      omega
  generalize cmp3 (x - 562949953421312) (y - 562949953421312) = D at cR cI hD
  clear HB HC hT2
  go_wp2_with fail
  refine cR.mono ?_
  rintro e w3 ⟨rfl, hb3⟩
  have H3 := Lib.hid (below_step' H2.out hb3)
  have hT3 := tabs_below HT.out H3.out
  clear cR hb3 H2
  go_wp2_with fail
  refine (cI _ hT3).mono ?_
  rintro e w4 ⟨rfl, hb4⟩
  have H4 := Lib.hid (below_step' H3.out hb4)
  clear cI hb4 hT3 H3
  rcases hD with h | ⟨h, h'⟩
  · go_wp2
    go_ret
    exact ⟨rfl, H4.out⟩
  · go_wp2
    go_ret
    exact ⟨rfl, H4.out⟩

theorem realsRise_walk (a b : Int) (wa : (Lit.int .i64 a).wf = true) (wb : (Lit.int .i64 b).wf = true) (w : World) (hT : Tabs w) :
    Calls Tryd.prog 9 #[.int .i64 a, .int .i64 b] w fun e w' => e = .returned (.bool true) ∧ Below w.heap.size w w' :=
  realsRise_bounds a b (bounds_i64 wa).1 (bounds_i64 wa).2 (bounds_i64 wb).1 (bounds_i64 wb).2 w hT
end Go.Proofs.YtnoloacfelnkbaaDoor
