/-
  CONTRACTS of the reference's valued, at any depth, and ValueOf; THE WALK of the law 'chirographlaw.EvalEvals'.
  CONDITIONS: each theorem's own hypotheses; the tables, package lex's signs and package expr's forms hold what their initialisers lay ('XEnv').
-/
import Derived.Test.YtcccnpcejfmfcaaGreatDoorRevE
import Derived.Test.YtcccnpcejfmfcaaGreatDoorExprI
import Derived.Test.YtcccnpcejfmfcaaGreatDoorKindS
namespace Go.Proofs.YtcccnpcejfmfcaaGreatDoor
open Go.RowKit
set_option linter.unusedVariables false
set_option maxRecDepth 100000

theorem val_any : ∀ n, RvOk n := by
  intro n
  induction n with
  | zero => intro t ao cap cs aoc capc row aor capr w h; have := T.deep_eq t; omega
  | succ n ih =>
    rintro ⟨d, l⟩ ao cap cs aoc capc row aor capr w hdp hF hf hA hE
    obtain ⟨hn, hl⟩ := formT_open d l hf
    obtain ⟨⟨o1, o2⟩, hp, _, hv⟩ := nodeF_open d _ hn
    have hdl : deepL l ≤ n := by simp only [T.deep] at hdp; omega
    simp only [AtT] at hA
    simp only [FitT] at hF
    have hA2 := hA.2
    have hF2 := hF.2
    unfold partsN at hp
    by_cases h12 : d.op = 1 ∨ d.op = 2
    · rw [if_pos h12] at hp
      obtain rfl := List.eq_nil_of_length_eq_zero hp
      rcases h12 with h1 | h2
      · exact val_lit d ao cap cs aoc capc row aor capr w h1
      · exact val_col d ao cap cs aoc capc row aor capr w h2 hE
    rw [if_neg h12] at hp
    by_cases ho : d.op = 3 ∨ d.op = 4 ∨ d.op = 17 ∨ d.op = 18
    · rw [if_pos ho] at hp
      match l, hp, hA2, hdl, hl, hF2 with
      | [u], _, hA2, hdl, hl, hF2 =>
        exact val_one n ih d u ao cap cs aoc capc row aor capr w ho (Nat.le_trans (deepK_mem (j := 0) rfl) hdl) (hF2.mem u (by simp)) (formL_mem _ hl u (by simp)) hA2 hE
    · rw [if_neg ho] at hp
      match l, hp, hA2, hdl, hl, hF2 with
      | [u, v], _, hA2, hdl, hl, hF2 =>
        exact val_two n ih d u v ao cap cs aoc capc row aor capr w (by omega) ⟨Nat.le_trans (deepK_mem (j := 0) rfl) hdl, Nat.le_trans (deepK_mem (l := [u, v]) (j := 1) rfl) hdl⟩ ⟨hF2.mem u (by simp), hF2.mem v (by simp)⟩ ⟨formL_mem _ hl u (by simp), formL_mem _ hl v (by simp)⟩ hA2 hE
set_option maxHeartbeats 16000000 in
theorem valueOf_ref (t : T) (ao : Option Addr) (cap : Nat) (hn0 : ao = none → cap = 0) (cs : List Cl) (aoc : Option Addr) (capc : Nat) (row : List Vl) (aor : Option Addr) (capr : Nat) (w : World) (h : EvIn w t ao cap cs aoc capc row aor capr) :
    Calls Tryz.prog 6 #[exprV t ao cap, .slice aoc cs.length capc, .slice aor row.length capr] w fun e w' => e = .returned (.tuple #[valV (evalR t cs row).v, .int .i64 (evalR t cs row).f]) ∧ Below w.heap.size w w' := by
  have cK := fun W (hW : Below w.heap.size w W) => exprFault_any t ao cap W (h.keep hW).A h.n1 h.n2 hn0 (h.keep hW).X.tabs
  have cW := fun W (hW : Below w.heap.size w W) => rowFault_any row aor capr cs aoc capc W h.v1 h.v2 (h.keep hW).V h.c1 h.c2 (h.keep hW).C (h.keep hW).X.tabs
  have hF := atT_fit t.deep t ao (Nat.le_refl _) h.A
  have cV := fun W (he : exprR t = 0) (hr : rowR row cs = 0) (hW : Below w.heap.size w W) => by
    obtain ⟨hok, hc0, hlen⟩ := rowR_ok row cs h.V.1 hr
    exact val_any t.deep t ao cap cs aoc capc row aor capr W (Nat.le_refl _) hF (exprR_form t he) (h.keep hW).A ⟨(h.keep hW).C, (h.keep hW).V, hc0, Nat.le_trans h.c1 h.c2, hlen, hok⟩
  have hR : evalR t cs row = if exprR t ≠ 0 then badE (exprR t) else if rowR row cs ≠ 0 then badE (rowR row cs) else evT cs row t := rfl
  generalize evalR t cs row = R at *
  generalize evT cs row t = Q at *
  unfold RekOk at cV
  generalize rowR row cs = rf at *
  generalize exprR t = ef at *
  have h1 : ef ≠ 0 → R = badE ef := fun h => by rw [hR, if_pos h]
  have h2 : ef = 0 → rf ≠ 0 → R = badE rf := fun h h' => by rw [hR, if_neg (by rw [h]; decide), if_pos h']
  have h3 : ef = 0 → rf = 0 → R = Q := fun h h' => by rw [hR, if_neg (by rw [h]; decide), if_neg (by rw [h']; decide)]
  have H1 := Lib.hid h1
  have H2 := Lib.hid h2
  have H3 := Lib.hid h3
  have HV := Lib.hid cV
  clear hR h1 h2 h3 h hF cV
  simp only [exprV_cells] at cK HV ⊢
  generalize t.kids.length = L at *
  obtain ⟨⟨op, k, i, b, s, nm⟩, l⟩ := t
  simp only [T.nd] at *
  generalize str s = S at *
  generalize str nm = N at *
  generalize cs.length = m at *
  generalize row.length = mr at *
  obtain ⟨z0, z1, hb2⟩ := two_new w #[.int .i64 op, .int .i64 k, .int .i64 i, .int .u64 b, .string S, .string N, .slice ao L cap] #[.int .i64 0, .int .i64 0, .int .u64 0, .string ⟨#[]⟩] 27 24
  generalize hw2 : (w.alloc (.cells #[.int .i64 op, .int .i64 k, .int .i64 i, .int .u64 b, .string S, .string N, .slice ao L cap] 27)).alloc (.cells #[.int .i64 0, .int .i64 0, .int .u64 0, .string ⟨#[]⟩] 24) = w2 at z0 z1 hb2
  have c1 := cK w2 hb2
  obtain ⟨p0, p1, p2, p3, p4, p5, p6⟩ := z0.cells7
  go_enter Tryz.func6, Tryz.ntmps6
  go_upto_region 1 with fail
  try rw [hw2]
  clear hw2
  go_wp2_with fail
  refine c1.mono ?_
  rintro e w3 ⟨rfl, hb3⟩
  have hb03 := below_stepE hb2 hb2.size hb3
  have y0 := z0.call hb3
  have y1 := z1.call hb3
  clear c1 cK hb3 hb2 z0 z1 p0 p1 p2 p3 p4 p5 p6
  by_cases he : ef = 0
  · subst he
    have c2 := cW w3 hb03
    go_wp2_with fail
    refine c2.mono ?_
    rintro e w4 ⟨rfl, hb4⟩
    have hb04 := below_stepE hb03 hb03.size hb4
    have x0 := y0.call hb4
    have x1 := y1.call hb4
    clear c2 cW hb4 hb03 y0 y1
    by_cases hr : rf = 0
    · subst hr
      have hR := H3.out (by trivial) (by trivial)
      have cV := HV.out w4 (by trivial) (by trivial) hb04
      clear H1 H2 H3 HV
      subst hR
      obtain ⟨⟨qk, qi, qb, qs⟩, qf⟩ := R
      unfold valV at cV
      simp only at cV
      obtain ⟨QS, hQS⟩ : ∃ QS, str qs = QS := ⟨_, rfl⟩
      simp only [hQS] at cV
      have HQS := Lib.hid hQS
      clear hQS
      obtain ⟨p0, p1, p2, p3, p4, p5, p6⟩ := x0.cells7
      go_wp2_with fail
      refine cV.mono ?_
      rintro e w5 ⟨rfl, hb5⟩
      have hb05 := below_stepE hb04 hb04.size hb5
      have v1 := x1.call hb5
      clear cV hb5 hb04 x0 x1 p0 p1 p2 p3 p4 p5 p6
      obtain ⟨⟨q0, q1, q2, q3⟩, f0, f1, f2, f3⟩ := v1.four
      go_wp2_with fail
      exact bodyPost_ret (results_val rfl _ _ (w.heap.size + 1) _ _ _ _ rfl v1.set4) rfl ⟨by rw [← HQS.out]; rfl, below_set4 hb05 (Nat.le_succ _)⟩
    · have hr1 : (rf != 0) = true := by simpa using hr
      have hR := H2.out (by trivial) hr
      have HR := Lib.hid hR
      clear H1 H2 H3 HV hR hr
      obtain ⟨⟨q0, q1, q2, q3⟩, f0, f1, f2, f3⟩ := x1.four
      go_wp2_with fail
      exact bodyPost_ret (results_val rfl _ _ (w.heap.size + 1) _ _ _ _ rfl x1.set4) rfl ⟨by rw [HR.out]; rfl, below_set4 hb04 (Nat.le_succ _)⟩
  · have he1 : (ef != 0) = true := by simpa using he
    have hR := H1.out he
    have HR := Lib.hid hR
    clear H1 H2 H3 HV cW hR he
    obtain ⟨⟨q0, q1, q2, q3⟩, f0, f1, f2, f3⟩ := y1.four
    go_wp2_with fail
    exact bodyPost_ret (results_val rfl _ _ (w.heap.size + 1) _ _ _ _ rfl y1.set4) rfl ⟨by rw [HR.out]; rfl, below_set4 hb03 (Nat.le_succ _)⟩
set_option maxHeartbeats 16000000 in
theorem evalEvals_walk (t : T) (ao : Option Addr) (cap : Nat) (cs : List Cl) (aoc : Option Addr) (capc : Nat) (row : List Vl) (aor : Option Addr) (capr : Nat) (w : World) (hX : XEnv w) (n1 : t.kids.length ≤ cap) (hm : cap ≤ 9223372036854775807 ∧ (ao = none → cap = 0)) (hA : AtT w t ao)
    (c1 : cs.length ≤ capc) (c2 : capc ≤ 9223372036854775807) (hC : Cols w aoc cs) (v1 : row.length ≤ capr) (v2 : capr ≤ 9223372036854775807) (hV : Vals w aor row) :
    Calls Tryz.prog 3 #[exprV t ao cap, .slice aoc cs.length capc, .slice aor row.length capr] w fun e w' => e = .returned (.bool true) ∧ Below w.heap.size w w' := by
  obtain ⟨n2, n3⟩ := hm
  have h : EvIn w t ao cap cs aoc capc row aor capr := ⟨hA, n1, n2, hC, c1, c2, hV, v1, v2, hX⟩
  have cE := fun W (hW : Below w.heap.size w W) => eval_any t ao cap cs aoc capc row aor capr W (h.keep hW)
  have cR := fun W (hW : Below w.heap.size w W) => valueOf_ref t ao cap n3 cs aoc capc row aor capr W (h.keep hW)
  generalize evalR t cs row = R at *
  clear h hX hA hC hV
  obtain ⟨⟨qk, qi, qb, qs⟩, qf⟩ := R
  unfold valV at cE cR
  simp only at cE cR
  generalize str qs = QS at *
  simp only [exprV_cells] at cE cR ⊢
  generalize t.kids.length = L at *
  obtain ⟨⟨op, k, i, b, s, nm⟩, l⟩ := t
  simp only [T.nd] at *
  generalize str s = S at *
  generalize str nm = N at *
  generalize cs.length = m at *
  generalize row.length = mr at *
  have z0 : Blk _ _ _ [_, _, _, _, _, _, _] := Blk.new w #[.int .i64 op, .int .i64 k, .int .i64 i, .int .u64 b, .string S, .string N, .slice ao L cap] 27
  have hb1 := (Below.refl w.heap.size w).alloc (Nat.le_refl _) (.cells #[.int .i64 op, .int .i64 k, .int .i64 i, .int .u64 b, .string S, .string N, .slice ao L cap] 27)
  generalize hw1 : w.alloc (.cells #[.int .i64 op, .int .i64 k, .int .i64 i, .int .u64 b, .string S, .string N, .slice ao L cap] 27) = w1 at z0 hb1
  have cc := cE w1 hb1
  obtain ⟨p0, p1, p2, p3, p4, p5, p6⟩ := z0.cells7
  go_enter Tryz.func3, Tryz.ntmps3
  go_upto_region 1 with fail
  try rw [hw1]
  clear hw1
  go_wp2_with fail
  refine cc.mono ?_
  rintro e w2 ⟨rfl, hb2⟩
  have y0 := z0.call hb2
  have hb02 := below_stepE hb1 hb1.size hb2
  have zV := Blk.new w2 #[.int .i64 qk, .int .i64 qi, .int .u64 qb, .string QS] 24
  have hbV := (Below.refl w2.heap.size w2).alloc (Nat.le_refl _) (.cells #[.int .i64 qk, .int .i64 qi, .int .u64 qb, .string QS] 24)
  have y1 := y0.call hbV
  have hb03 := below_stepE hb02 hb02.size hbV
  clear cc cE z0 hb1 hb2 hb02 y0 p0 p1 p2 p3 p4 p5 p6
  go_upto_region 2 with fail
  generalize hw3 : w2.alloc (.cells #[.int .i64 qk, .int .i64 qi, .int .u64 qb, .string QS] 24) = w3 at *
  clear hw3 hbV
  generalize w2.heap.size = g2 at *
  have cc := cR w3 hb03
  obtain ⟨p0, p1, p2, p3, p4, p5, p6⟩ := y1.cells7
  clear cR
  go_wp2_with fail
  refine cc.mono ?_
  rintro e w4 ⟨rfl, hb4⟩
  have x1 := zV.call hb4
  have hb04 := below_stepE hb03 hb03.size hb4
  have zW := Blk.new w4 #[.int .i64 qk, .int .i64 qi, .int .u64 qb, .string QS] 24
  have hbV := (Below.refl w4.heap.size w4).alloc (Nat.le_refl _) (.cells #[.int .i64 qk, .int .i64 qi, .int .u64 qb, .string QS] 24)
  have x2 := x1.call hbV
  have hb05 := below_stepE hb04 hb04.size hbV
  clear cc zV hb4 hb03 y1 p0 p1 p2 p3 p4 p5 p6 x1 hb04
  go_upto_region 3 with fail
  generalize hw5 : w4.alloc (.cells #[.int .i64 qk, .int .i64 qi, .int .u64 qb, .string QS] 24) = w5 at *
  clear hw5 hbV
  generalize w4.heap.size = g4 at *
  obtain ⟨⟨q0, q1, q2, q3⟩, _⟩ := x2.four
  obtain ⟨⟨r0, r1, r2, r3⟩, _⟩ := zW.four
  go_wp2_with fail
  go_ret
  exact ⟨by simp, hb05⟩
end Go.Proofs.YtcccnpcejfmfcaaGreatDoor
