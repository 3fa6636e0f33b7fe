/-
  CONTRACTS of the reference's valued and ValueOf.
  CONDITIONS: each theorem's own hypotheses; the tables, package lex's signs and package expr's forms hold what their initialisers lay ('XEnv').
-/
import Derived.Test.YtfedlchncngafaaGreatDoorRevD
namespace Go.Proofs.YtfedlchncngafaaGreatDoor
open Go.RowKit
set_option linter.unusedVariables false
set_option maxRecDepth 100000

theorem did_one (op : Int) (ho : op = 3 ∨ op = 4 ∨ op = 17 ∨ op = 18) (v : Vl) (hv : OkV v) (w : World) : Calls Tryz.prog 73 #[.int .i64 op, valV v, valV nulV] w (RekOk (op1E op v) w) := by
  rcases ho with rfl | rfl | rfl | rfl
  · exact didNeg_any v nulV hv ok_nul rfl w
  · exact didNot_any v nulV hv ok_nul rfl w
  · exact didNull_any v nulV hv ok_nul rfl w
  · exact didLen_any v nulV hv ok_nul rfl w
theorem did_two (op : Int) (ho : op = 5 ∨ op = 6 ∨ op = 7 ∨ op = 8 ∨ op = 9 ∨ op = 10 ∨ op = 11 ∨ op = 12 ∨ op = 13 ∨ op = 14 ∨ op = 15 ∨ op = 16 ∨ op = 19 ∨ op = 20) (v u : Vl) (hv : OkV v) (hu : OkV u) (w : World) : Calls Tryz.prog 73 #[.int .i64 op, valV v, valV u] w (RekOk (op2E op v u) w) := by
  rcases ho with rfl | rfl | rfl | rfl | rfl | rfl | rfl | rfl | rfl | rfl | rfl | rfl | rfl | rfl
  · exact didAr5_any v u hv hu w
  · exact didAr6_any v u hv hu w
  · exact didAr7_any v u hv hu w
  · exact didAr8_any v u hv hu w
  · exact didCmp9_any v u hv hu w
  · exact didCmp10_any v u hv hu w
  · exact didCmp11_any v u hv hu w
  · exact didCmp12_any v u hv hu w
  · exact didCmp13_any v u hv hu w
  · exact didCmp14_any v u hv hu w
  · exact didLog15_any v u hv hu w
  · exact didLog16_any v u hv hu w
  · exact didJoin_any v u hv hu w
  · exact didCoal_any v u hv hu w
/-- What stands where the reference values an expression. -/
structure ValEnv (w : World) (cs : List Cl) (aoc : Option Addr) (row : List Vl) (aor : Option Addr) : Prop where
  C : Cols w aoc cs
  V : Vals w aor row
  c0 : colsR cs = 0
  l : cs.length ≤ 9223372036854775807
  same : row.length = cs.length
  ok : ∀ v ∈ row, OkV v
theorem ValEnv.keep {w w' : World} {cs : List Cl} {aoc : Option Addr} {row : List Vl} {aor : Option Addr} (h : ValEnv w cs aoc row aor) (hb : Below w.heap.size w w') : ValEnv w' cs aoc row aor := ⟨h.C.keep hb, h.V.keep hb, h.c0, h.l, h.same, h.ok⟩
def RvOk (n : Nat) : Prop := ∀ (t : T) (ao : Option Addr) (cap : Nat) (cs : List Cl) (aoc : Option Addr) (capc : Nat) (row : List Vl) (aor : Option Addr) (capr : Nat) (w : World), t.deep ≤ n → FitT t → formT t = 0 → AtT w t ao → ValEnv w cs aoc row aor →
    Calls Tryz.prog 36 #[exprV t ao cap, .slice aoc cs.length capc, .slice aor row.length capr] w (RekOk (evT cs row t) w)
theorem four_less (v : Vl) : valV v = .agg #[.int .i64 v.k, .int .i64 v.i, .int .u64 v.b, .string (str v.s)] := rfl
theorem valV_nul : valV nulV = .agg #[.int .i64 0, .int .i64 0, .int .u64 0, .string ⟨#[]⟩] := rfl
set_option maxHeartbeats 8000000 in
theorem val_lit (d : Nd) (ao : Option Addr) (cap : Nat) (cs : List Cl) (aoc : Option Addr) (capc : Nat) (row : List Vl) (aor : Option Addr) (capr : Nat) (w : World) (h1 : d.op = 1) :
    Calls Tryz.prog 36 #[exprV (.mk d []) ao cap, .slice aoc cs.length capc, .slice aor row.length capr] w (RekOk (evT cs row (.mk d [])) w) := by
  have e : evT cs row (.mk d []) = okE ⟨d.k, d.i, d.b, d.t⟩ := by simp only [evT]; rw [if_pos h1]
  rw [e]
  unfold RekOk
  rw [exprV_cells]
  simp only [T.nd, T.kids, List.length_nil]
  obtain ⟨op, k, i, b, s, nm⟩ := d
  simp only at h1 ⊢
  subst h1
  unfold okE valV
  simp only
  generalize str s = S at *
  generalize str nm = N at *
  generalize cs.length = lc at *
  generalize row.length = lr at *
  clear e
  obtain ⟨z0, z1, hb2⟩ := two_new w #[.int .i64 1, .int .i64 k, .int .i64 i, .int .u64 b, .string S, .string N, .slice ao 0 cap] #[.int .i64 0, .int .i64 0, .int .u64 0, .string ⟨#[]⟩] 27 24
  generalize hw2 : (w.alloc (.cells #[.int .i64 1, .int .i64 k, .int .i64 i, .int .u64 b, .string S, .string N, .slice ao 0 cap] 27)).alloc (.cells #[.int .i64 0, .int .i64 0, .int .u64 0, .string ⟨#[]⟩] 24) = w2 at z0 z1 hb2
  obtain ⟨p0, p1, p2, p3, p4, p5, p6⟩ := z0.cells7
  obtain ⟨⟨r0, r1, r2, r3⟩, f0, f1, f2, f3⟩ := z1.four
  go_enter Tryz.func36, Tryz.ntmps36
  go_upto_region 1 with fail
  try rw [hw2]
  clear hw2
  go_wp2_with fail
  exact bodyPost_ret (results_val rfl _ _ (w.heap.size + 1) _ _ _ _ rfl z1.set4) rfl ⟨rfl, below_set4 hb2 (Nat.le_succ _)⟩
set_option maxHeartbeats 8000000 in
theorem val_col (d : Nd) (ao : Option Addr) (cap : Nat) (cs : List Cl) (aoc : Option Addr) (capc : Nat) (row : List Vl) (aor : Option Addr) (capr : Nat) (w : World) (h2 : d.op = 2) (hE : ValEnv w cs aoc row aor) :
    Calls Tryz.prog 36 #[exprV (.mk d []) ao cap, .slice aoc cs.length capc, .slice aor row.length capr] w (RekOk (evT cs row (.mk d [])) w) := by
  have e : evT cs row (.mk d []) = colE cs row d.n := by simp only [evT]; rw [if_neg (by omega), if_pos h2]
  rw [e]
  unfold RekOk
  have c1 := fun W (hW : Below w.heap.size w W) => columnAt_any cs aoc capc d.n W hE.l ((hE.keep hW).C)
  rw [place_same cs d.n hE.c0] at c1
  have hV := hE.V
  have hsame := hE.same
  rw [exprV_cells]
  simp only [T.nd, T.kids, List.length_nil]
  obtain ⟨op, k, i, b, s, nm⟩ := d
  simp only at h2 c1 ⊢
  subst h2
  unfold colE
  generalize str s = S at *
  clear e hE
  rcases placeN_at nm cs 0 with h1 | ⟨j, c, hj, h1⟩
  · rw [h1] at c1 ⊢
    rw [if_pos (by decide)]
    generalize cs.length = lc at *
    generalize row.length = lr at *
    generalize str nm = N at *
    clear h1 hV hsame
    obtain ⟨z0, z1, hb2⟩ := two_new w #[.int .i64 2, .int .i64 k, .int .i64 i, .int .u64 b, .string S, .string N, .slice ao 0 cap] #[.int .i64 0, .int .i64 0, .int .u64 0, .string ⟨#[]⟩] 27 24
    generalize hw2 : (w.alloc (.cells #[.int .i64 2, .int .i64 k, .int .i64 i, .int .u64 b, .string S, .string N, .slice ao 0 cap] 27)).alloc (.cells #[.int .i64 0, .int .i64 0, .int .u64 0, .string ⟨#[]⟩] 24) = w2 at z0 z1 hb2
    obtain ⟨p0, p1, p2, p3, p4, p5, p6⟩ := z0.cells7
    go_enter Tryz.func36, Tryz.ntmps36
    go_upto_region 1 with fail
    try rw [hw2]
    clear hw2
    have cc := c1 w2 hb2
    clear c1
    go_wp2_with fail
    refine cc.mono ?_
    rintro e w3 ⟨rfl, rfl⟩
    clear cc
    obtain ⟨⟨r0, r1, r2, r3⟩, f0, f1, f2, f3⟩ := z1.four
    go_wp2_with fail
    exact bodyPost_ret (results_val rfl _ _ (w.heap.size + 1) _ _ _ _ rfl z1.set4) rfl ⟨rfl, below_set4 hb2 (Nat.le_succ _)⟩
  · rw [Nat.zero_add] at h1
    rw [h1] at c1 ⊢
    have hjl : j < cs.length := (List.getElem?_eq_some_iff.1 hj).1
    have hjr : j < row.length := by omega
    rw [if_neg (by omega), Int.toNat_natCast, List.getElem?_eq_getElem hjr]
    have hrj : row[j]? = some row[j] := List.getElem?_eq_getElem hjr
    generalize row[j] = v at *
    rcases hV.2 with hn | ⟨a, o, rfl, ha, hlies⟩
    · rw [hn] at hjr; exact absurd hjr (Nat.not_lt_zero _)
    obtain ⟨x0, x1, x2, x3⟩ := hlies j v hrj
    obtain ⟨vk, vi, vb, vs⟩ := v
    unfold okE valV
    simp only at x0 x1 x2 x3 ⊢
    generalize str vs = VS at *
    generalize cs.length = lc at *
    generalize row.length = lr at *
    generalize str nm = N at *
    have iJ : (j : Int) < (lr : Int) := by omega
    have iJ0 : ¬ ((j : Int) < 0) := by omega
    clear h1 hV hsame hj hlies hrj
    obtain ⟨z0, z1, hb2⟩ := two_new w #[.int .i64 2, .int .i64 k, .int .i64 i, .int .u64 b, .string S, .string N, .slice ao 0 cap] #[.int .i64 0, .int .i64 0, .int .u64 0, .string ⟨#[]⟩] 27 24
    generalize hw2 : (w.alloc (.cells #[.int .i64 2, .int .i64 k, .int .i64 i, .int .u64 b, .string S, .string N, .slice ao 0 cap] 27)).alloc (.cells #[.int .i64 0, .int .i64 0, .int .u64 0, .string ⟨#[]⟩] 24) = w2 at z0 z1 hb2
    obtain ⟨p0, p1, p2, p3, p4, p5, p6⟩ := z0.cells7
    have d0 := (hb2.cell (p := ⟨a, o + j * 4, none⟩) ha).trans x0
    have d1 := (hb2.cell (p := ⟨a, o + j * 4 + 1, none⟩) ha).trans x1
    have d2 := (hb2.cell (p := ⟨a, o + j * 4 + 2, none⟩) ha).trans x2
    have d3 := (hb2.cell (p := ⟨a, o + j * 4 + 3, none⟩) ha).trans x3
    clear x0 x1 x2 x3
    go_enter Tryz.func36, Tryz.ntmps36
    go_upto_region 1 with fail
    try rw [hw2]
    clear hw2
    have cc := c1 w2 hb2
    clear c1
    go_wp2_with fail
    refine cc.mono ?_
    rintro e w3 ⟨rfl, rfl⟩
    clear cc
    obtain ⟨⟨r0, r1, r2, r3⟩, f0, f1, f2, f3⟩ := z1.four
    go_wp2_with fail
    exact bodyPost_ret (results_val rfl _ _ (w.heap.size + 1) _ _ _ _ rfl z1.set4) rfl ⟨rfl, below_set4 hb2 (Nat.le_succ _)⟩
set_option maxHeartbeats 16000000 in
theorem val_one (m : Nat) (IH : RvOk m) (d : Nd) (u : T) (ao : Option Addr) (cap : Nat) (cs : List Cl) (aoc : Option Addr) (capc : Nat) (row : List Vl) (aor : Option Addr) (capr : Nat) (w : World) (ho : d.op = 3 ∨ d.op = 4 ∨ d.op = 17 ∨ d.op = 18) (hdp : u.deep ≤ m) (hF : FitT u) (hf : formT u = 0) (hA : AtL w ao 0 [u]) (hE : ValEnv w cs aoc row aor) :
    Calls Tryz.prog 36 #[exprV (.mk d [u]) ao cap, .slice aoc cs.length capc, .slice aor row.length capr] w (RekOk (evT cs row (.mk d [u])) w) := by
  obtain ⟨a, o, rfl, ha, hnode⟩ := AtL.at hA 0 u rfl
  rw [Nat.zero_add] at hnode
  obtain ⟨ao', cap', n1, n2, nA, x0, x1, x2, x3, x4, x5, x6⟩ := hnode.cells
  simp only [Nat.zero_mul, Nat.add_zero] at x0 x1 x2 x3 x4 x5 x6
  have e : evT cs row (.mk d [u]) = combE d.op [evT cs row u] := by simp only [evT, evL]; rw [if_neg (by omega), if_neg (by omega)]
  have c1 := fun W (hW : Below w.heap.size w W) => IH u ao' cap' cs aoc capc row aor capr W hdp hF hf (nA.keep hW) (hE.keep hW)
  have hok := ok_ev cs row hE.ok u.deep u (Nat.le_refl _) hF hf
  have c2 := fun W => did_one d.op ho (evT cs row u).v hok.v W
  have hR : combE d.op [evT cs row u] = if (evT cs row u).f ≠ 0 then badE (evT cs row u).f else op1E d.op (evT cs row u).v := rfl
  rw [e]
  generalize combE d.op [evT cs row u] = R at *
  clear e
  have hno1 : (d.op == 1) = false := by simp; omega
  have hno2 : (d.op == 2) = false := by simp; omega
  clear hnode nA hA hE IH hdp hF hf hok ho
  generalize evT cs row u = P at *
  unfold RekOk at *
  generalize op1E d.op P.v = D at *
  simp only [exprV_cells] at c1 ⊢
  simp only [T.nd, T.kids, List.length_cons, List.length_nil]
  generalize cs.length = lc at *
  generalize row.length = lr at *
  obtain ⟨op, k, i, b, s, nm⟩ := d
  simp only [T.nd] at *
  generalize str s = S at *
  generalize str nm = N at *
  generalize u.kids.length = L' at *
  obtain ⟨⟨op', k', i', b', s', nm'⟩, l'⟩ := u
  simp only at *
  generalize str s' = S' at *
  generalize str nm' = N' at *
  obtain ⟨⟨vk, vi, vb, vs⟩, vf⟩ := P
  obtain ⟨⟨ek, ei, eb, es⟩, ef⟩ := D
  simp only at hR
  have hbad : vf ≠ 0 → R = badE vf := fun h => by rw [hR, if_pos h]
  have hgood : vf = 0 → R = ⟨⟨ek, ei, eb, es⟩, ef⟩ := fun h => by rw [hR, if_neg (by rw [h]; decide)]
  have HBAD := Lib.hid hbad
  have HGOOD := Lib.hid hgood
  clear hR hbad hgood
  rw [valV_nul] at c2
  simp only [four_less] at c1 c2 ⊢
  generalize str vs = VS at *
  have hes : str es = str es := rfl
  obtain ⟨ES, hES⟩ : ∃ ES, str es = ES := ⟨_, rfl⟩
  rw [hES] at c2
  have HES := Lib.hid hES
  clear hES hes
  obtain ⟨z0, z1, hb2⟩ := two_new w #[.int .i64 op, .int .i64 k, .int .i64 i, .int .u64 b, .string S, .string N, .slice (some ⟨a, o, none⟩) 1 cap] #[.int .i64 0, .int .i64 0, .int .u64 0, .string ⟨#[]⟩] 27 24
  generalize hw2 : (w.alloc (.cells #[.int .i64 op, .int .i64 k, .int .i64 i, .int .u64 b, .string S, .string N, .slice (some ⟨a, o, none⟩) 1 cap] 27)).alloc (.cells #[.int .i64 0, .int .i64 0, .int .u64 0, .string ⟨#[]⟩] 24) = w2 at z0 z1 hb2
  obtain ⟨p0, p1, p2, p3, p4, p5, p6⟩ := z0.cells7
  have d0 := (hb2.cell (p := ⟨a, o, none⟩) ha).trans x0
  have d1 := (hb2.cell (p := ⟨a, o + 1, none⟩) ha).trans x1
  have d2 := (hb2.cell (p := ⟨a, o + 2, none⟩) ha).trans x2
  have d3 := (hb2.cell (p := ⟨a, o + 3, none⟩) ha).trans x3
  have d4 := (hb2.cell (p := ⟨a, o + 4, none⟩) ha).trans x4
  have d5 := (hb2.cell (p := ⟨a, o + 5, none⟩) ha).trans x5
  have d6 := (hb2.cell (p := ⟨a, o + 6, none⟩) ha).trans x6
  clear x0 x1 x2 x3 x4 x5 x6
  have cc := c1 w2 hb2
  clear c1
  go_enter Tryz.func36, Tryz.ntmps36
  go_upto_region 1 with fail
  try rw [hw2]
  clear hw2
  go_wp2_with fail
  refine cc.mono ?_
  rintro e w3 ⟨rfl, hb3⟩
  have y0 := z0.call hb3
  have y1 := z1.call hb3
  have hb03 := below_stepE hb2 hb2.size hb3
  have zV := Blk.new w3 #[.int .i64 vk, .int .i64 vi, .int .u64 vb, .string VS] 24
  have hbV := (Below.refl w3.heap.size w3).alloc (Nat.le_refl _) (.cells #[.int .i64 vk, .int .i64 vi, .int .u64 vb, .string VS] 24)
  have u0 := y0.call hbV
  have u1 := y1.call hbV
  have hb04 := below_stepE hb03 hb03.size hbV
  clear cc z0 z1 hb2 hb3 hb03 y0 y1 p0 p1 p2 p3 p4 p5 p6 d0 d1 d2 d3 d4 d5 d6
  go_upto_region 10 with fail
  generalize hw4 : w3.alloc (.cells #[.int .i64 vk, .int .i64 vi, .int .u64 vb, .string VS] 24) = w4 at *
  clear hw4 hbV
  generalize w3.heap.size = g3 at *
  obtain ⟨p0, p1, p2, p3, p4, p5, p6⟩ := u0.cells7
  obtain ⟨⟨q0, q1, q2, q3⟩, _⟩ := zV.four
  obtain ⟨⟨r0, r1, r2, r3⟩, f0, f1, f2, f3⟩ := u1.four
  by_cases hv : vf = 0
  · have hR := HGOOD.out hv
    have HR := Lib.hid hR
    clear hR HGOOD HBAD
    subst hv
    go_wp2_with fail
    refine (c2 _).mono ?_
    rintro e w5 ⟨rfl, hb5⟩
    have t1 := u1.call hb5
    have hb05 := below_stepE hb04 hb04.size hb5
    clear c2 u0 u1 zV hb5 hb04 p0 p1 p2 p3 p4 p5 p6 q0 q1 q2 q3 r0 r1 r2 r3 f0 f1 f2 f3
    obtain ⟨⟨r0, r1, r2, r3⟩, f0, f1, f2, f3⟩ := t1.four
    go_wp2_with fail
    exact bodyPost_ret (results_val rfl _ _ (w.heap.size + 1) _ _ _ _ rfl t1.set4) rfl ⟨by rw [HR.out, ← HES.out]; rfl, below_set4 hb05 (Nat.le_succ _)⟩
  · have hv1 : (vf != 0) = true := by simpa using hv
    have hR := HBAD.out hv
    have HR := Lib.hid hR
    clear hR HGOOD HBAD c2 hv
    go_wp2_with fail
    exact bodyPost_ret (results_val rfl _ _ (w.heap.size + 1) _ _ _ _ rfl u1.set4) rfl ⟨by rw [HR.out]; rfl, below_set4 hb04 (Nat.le_succ _)⟩
set_option maxHeartbeats 32000000 in
theorem val_two (m : Nat) (IH : RvOk m) (d : Nd) (u v : T) (ao : Option Addr) (cap : Nat) (cs : List Cl) (aoc : Option Addr) (capc : Nat) (row : List Vl) (aor : Option Addr) (capr : Nat) (w : World) (ho : d.op = 5 ∨ d.op = 6 ∨ d.op = 7 ∨ d.op = 8 ∨ d.op = 9 ∨ d.op = 10 ∨ d.op = 11 ∨ d.op = 12 ∨ d.op = 13 ∨ d.op = 14 ∨ d.op = 15 ∨ d.op = 16 ∨ d.op = 19 ∨ d.op = 20) (hdp : u.deep ≤ m ∧ v.deep ≤ m) (hF : FitT u ∧ FitT v) (hf : formT u = 0 ∧ formT v = 0) (hA : AtL w ao 0 [u, v]) (hE : ValEnv w cs aoc row aor) :
    Calls Tryz.prog 36 #[exprV (.mk d [u, v]) ao cap, .slice aoc cs.length capc, .slice aor row.length capr] w (RekOk (evT cs row (.mk d [u, v])) w) := by
  obtain ⟨a, o, rfl, ha, hnode⟩ := AtL.at hA 0 u rfl
  obtain ⟨a2, o2, e2, _, hnode2⟩ := AtL.at hA 1 v rfl
  obtain ⟨rfl, rfl⟩ : a2 = a ∧ o2 = o := by simp at e2; exact ⟨e2.1.symm, e2.2.symm⟩
  rw [Nat.zero_add] at hnode hnode2
  obtain ⟨ao', cap', n1, n2, nA, x0, x1, x2, x3, x4, x5, x6⟩ := hnode.cells
  obtain ⟨ao3, cap3, m1, m2, mA, y0, y1, y2, y3, y4, y5, y6⟩ := hnode2.cells
  simp only [Nat.zero_mul, Nat.add_zero] at x0 x1 x2 x3 x4 x5 x6
  simp only [Nat.one_mul] at y0 y1 y2 y3 y4 y5 y6
  have e : evT cs row (.mk d [u, v]) = combE d.op [evT cs row u, evT cs row v] := by simp only [evT, evL]; rw [if_neg (by omega), if_neg (by omega)]
  have c1 := fun W (hW : Below w.heap.size w W) => IH u ao' cap' cs aoc capc row aor capr W hdp.1 hF.1 hf.1 (nA.keep hW) (hE.keep hW)
  have c3 := fun W (hW : Below w.heap.size w W) => IH v ao3 cap3 cs aoc capc row aor capr W hdp.2 hF.2 hf.2 (mA.keep hW) (hE.keep hW)
  have hok := ok_ev cs row hE.ok u.deep u (Nat.le_refl _) hF.1 hf.1
  have hok2 := ok_ev cs row hE.ok v.deep v (Nat.le_refl _) hF.2 hf.2
  have c2 := fun W => did_two d.op ho (evT cs row u).v (evT cs row v).v hok.v hok2.v W
  have hR : combE d.op [evT cs row u, evT cs row v] = if (evT cs row u).f ≠ 0 then badE (evT cs row u).f else if shortE d.op (evT cs row u).v = true then okE (evT cs row u).v else if (evT cs row v).f ≠ 0 then badE (evT cs row v).f else op2E d.op (evT cs row u).v (evT cs row v).v := rfl
  rw [e]
  generalize combE d.op [evT cs row u, evT cs row v] = R at *
  have hno1 : (d.op == 1) = false := by simp; omega
  have hno2 : (d.op == 2) = false := by simp; omega
  clear e e2 hnode hnode2 nA mA hA hE IH hdp hF hf hok hok2 ho
  generalize evT cs row u = P at *
  generalize evT cs row v = Q at *
  unfold RekOk at *
  generalize op2E d.op P.v Q.v = D at *
  simp only [exprV_cells] at c1 c3 ⊢
  simp only [T.nd, T.kids, List.length_cons, List.length_nil]
  generalize cs.length = lc at *
  generalize row.length = lr at *
  obtain ⟨op, k, i, b, s, nm⟩ := d
  simp only [T.nd] at *
  generalize str s = S at *
  generalize str nm = N at *
  generalize u.kids.length = L' at *
  obtain ⟨⟨op', k', i', b', s', nm'⟩, l'⟩ := u
  simp only at *
  generalize str s' = S' at *
  generalize str nm' = N' at *
  generalize v.kids.length = L3 at *
  obtain ⟨⟨op3, k3, i3, b3, s3, nm3⟩, l3⟩ := v
  simp only at *
  generalize str s3 = S3 at *
  generalize str nm3 = N3 at *
  obtain ⟨⟨vk, vi, vb, vs⟩, vf⟩ := P
  obtain ⟨⟨wk, wi, wb, ws⟩, wf⟩ := Q
  obtain ⟨⟨ek, ei, eb, es⟩, ef⟩ := D
  simp only at hR
  have hbad : vf ≠ 0 → R = badE vf := fun h => by rw [hR, if_pos h]
  have hshort : vf = 0 → shortE op ⟨vk, vi, vb, vs⟩ = true → R = okE ⟨vk, vi, vb, vs⟩ := fun h h2 => by rw [hR, if_neg (by rw [h]; decide), if_pos h2]
  have hlong : vf = 0 → shortE op ⟨vk, vi, vb, vs⟩ = false → R = if wf ≠ 0 then badE wf else ⟨⟨ek, ei, eb, es⟩, ef⟩ := fun h h2 => by rw [hR, if_neg (by rw [h]; decide), if_neg (by rw [h2]; decide)]
  have HBAD := Lib.hid hbad
  have HSHORT0 := Lib.hid hshort
  have HLONG0 := Lib.hid hlong
  clear hR hbad hshort hlong
  simp only [four_less] at c1 c2 c3 ⊢
  obtain ⟨VS, hVS⟩ : ∃ VS, str vs = VS := ⟨_, rfl⟩
  rw [hVS] at c2
  simp only [hVS] at c1
  have HVS := Lib.hid hVS
  generalize str ws = WS at *
  obtain ⟨ES, hES⟩ : ∃ ES, str es = ES := ⟨_, rfl⟩
  rw [hES] at c2
  have HES := Lib.hid hES
  clear hES hVS
  obtain ⟨z0, z1, hb2⟩ := two_new w #[.int .i64 op, .int .i64 k, .int .i64 i, .int .u64 b, .string S, .string N, .slice (some ⟨a2, o2, none⟩) 2 cap] #[.int .i64 0, .int .i64 0, .int .u64 0, .string ⟨#[]⟩] 27 24
  generalize hw2 : (w.alloc (.cells #[.int .i64 op, .int .i64 k, .int .i64 i, .int .u64 b, .string S, .string N, .slice (some ⟨a2, o2, none⟩) 2 cap] 27)).alloc (.cells #[.int .i64 0, .int .i64 0, .int .u64 0, .string ⟨#[]⟩] 24) = w2 at z0 z1 hb2
  obtain ⟨p0, p1, p2, p3, p4, p5, p6⟩ := z0.cells7
  have d0 := (hb2.cell (p := ⟨a2, o2, none⟩) ha).trans x0
  have d1 := (hb2.cell (p := ⟨a2, o2 + 1, none⟩) ha).trans x1
  have d2 := (hb2.cell (p := ⟨a2, o2 + 2, none⟩) ha).trans x2
  have d3 := (hb2.cell (p := ⟨a2, o2 + 3, none⟩) ha).trans x3
  have d4 := (hb2.cell (p := ⟨a2, o2 + 4, none⟩) ha).trans x4
  have d5 := (hb2.cell (p := ⟨a2, o2 + 5, none⟩) ha).trans x5
  have d6 := (hb2.cell (p := ⟨a2, o2 + 6, none⟩) ha).trans x6
  have ha1 : a2 < w2.heap.size := Nat.lt_of_lt_of_le ha hb2.size
  have h0 := (hb2.cell (p := ⟨a2, o2 + 7, none⟩) ha).trans y0
  have h1 := (hb2.cell (p := ⟨a2, o2 + 7 + 1, none⟩) ha).trans y1
  have h2 := (hb2.cell (p := ⟨a2, o2 + 7 + 2, none⟩) ha).trans y2
  have h3 := (hb2.cell (p := ⟨a2, o2 + 7 + 3, none⟩) ha).trans y3
  have h4 := (hb2.cell (p := ⟨a2, o2 + 7 + 4, none⟩) ha).trans y4
  have h5 := (hb2.cell (p := ⟨a2, o2 + 7 + 5, none⟩) ha).trans y5
  have h6 := (hb2.cell (p := ⟨a2, o2 + 7 + 6, none⟩) ha).trans y6
  clear x0 x1 x2 x3 x4 x5 x6 y0 y1 y2 y3 y4 y5 y6
  have cc := c1 w2 hb2
  clear c1
  go_enter Tryz.func36, Tryz.ntmps36
  go_upto_region 1 with fail
  try rw [hw2]
  clear hw2
  go_wp2_with fail
  refine cc.mono ?_
  rintro e w3 ⟨rfl, hb3⟩
  have y0 := z0.call hb3
  have y1 := z1.call hb3
  have hb03 := below_stepE hb2 hb2.size hb3
  have zV := Blk.new w3 #[.int .i64 vk, .int .i64 vi, .int .u64 vb, .string VS] 24
  have hbV := (Below.refl w3.heap.size w3).alloc (Nat.le_refl _) (.cells #[.int .i64 vk, .int .i64 vi, .int .u64 vb, .string VS] 24)
  have u0 := y0.call hbV
  have u1 := y1.call hbV
  have hb04 := below_stepE hb03 hb03.size hbV
  have hb24 := below_stepE hb3 hb3.size hbV
  have gg0 := (hb24.cell (p := ⟨a2, o2 + 7, none⟩) ha1).trans h0
  have gg1 := (hb24.cell (p := ⟨a2, o2 + 7 + 1, none⟩) ha1).trans h1
  have gg2 := (hb24.cell (p := ⟨a2, o2 + 7 + 2, none⟩) ha1).trans h2
  have gg3 := (hb24.cell (p := ⟨a2, o2 + 7 + 3, none⟩) ha1).trans h3
  have gg4 := (hb24.cell (p := ⟨a2, o2 + 7 + 4, none⟩) ha1).trans h4
  have gg5 := (hb24.cell (p := ⟨a2, o2 + 7 + 5, none⟩) ha1).trans h5
  have gg6 := (hb24.cell (p := ⟨a2, o2 + 7 + 6, none⟩) ha1).trans h6
  clear cc z0 z1 hb2 hb3 hb03 hb24 y0 y1 p0 p1 p2 p3 p4 p5 p6 d0 d1 d2 d3 d4 d5 d6 h0 h1 h2 h3 h4 h5 h6 ha1
  go_upto_region 10 with fail
  generalize hw4 : w3.alloc (.cells #[.int .i64 vk, .int .i64 vi, .int .u64 vb, .string VS] 24) = w4 at *
  clear hw4 hbV
  generalize w3.heap.size = g3 at *
  obtain ⟨p0, p1, p2, p3, p4, p5, p6⟩ := u0.cells7
  obtain ⟨⟨q0, q1, q2, q3⟩, _⟩ := zV.four
  obtain ⟨⟨r0, r1, r2, r3⟩, f0, f1, f2, f3⟩ := u1.four
  by_cases hv : vf = 0
  · have hshort := HSHORT0.out hv
    have hlong := HLONG0.out hv
    have HSHORT := Lib.hid hshort
    have HLONG := Lib.hid hlong
    clear hshort hlong HSHORT0 HLONG0 HBAD
    subst hv
    obtain ⟨n0, e0⟩ : ∃ n, (vk != 0) = n := ⟨_, rfl⟩
    obtain ⟨n1, e1⟩ : ∃ n, (vk == 1) = n := ⟨_, rfl⟩
    obtain ⟨m0, e2⟩ : ∃ n, (vi == 0) = n := ⟨_, rfl⟩
    obtain ⟨m1, e3⟩ : ∃ n, (vi == 1) = n := ⟨_, rfl⟩
    have hs : shortE op ⟨vk, vi, vb, vs⟩ = if op = 15 then n1 && m0 else if op = 16 then n1 && m1 else if op = 20 then n0 else false := by
      unfold shortE
      simp only
      rw [← e0, ← e1, ← e2, ← e3]
      split
      · rfl
      · split
        · rfl
        · split
          · rfl
          · rfl
    by_cases h15 : op = 15
    · subst h15
      have o20 : ((15 : Int) == 20) = false := rfl
      rw [if_pos rfl] at hs
      cases n1
      · have hs2 := hs
        rw [Bool.false_and] at hs2
        clear hs
        have cw := c3 w4 hb04
        clear c3
        go_wp2_with fail
        refine cw.mono ?_
        rintro e w5 ⟨rfl, hb5⟩
        have s0 := u0.call hb5
        have s1 := u1.call hb5
        have sV := zV.call hb5
        have hb05 := below_stepE hb04 hb04.size hb5
        have zW := Blk.new w5 #[.int .i64 wk, .int .i64 wi, .int .u64 wb, .string WS] 24
        have hbW := (Below.refl w5.heap.size w5).alloc (Nat.le_refl _) (.cells #[.int .i64 wk, .int .i64 wi, .int .u64 wb, .string WS] 24)
        have t0 := s0.call hbW
        have t1 := s1.call hbW
        have tV := sV.call hbW
        have hb06 := below_stepE hb05 hb05.size hbW
        clear cw u0 u1 zV hb5 hb04 s0 s1 sV hb05 p0 p1 p2 p3 p4 p5 p6 q0 q1 q2 q3 r0 r1 r2 r3 f0 f1 f2 f3 gg0 gg1 gg2 gg3 gg4 gg5 gg6
        go_upto_region 17 with fail
        generalize hw6 : w5.alloc (.cells #[.int .i64 wk, .int .i64 wi, .int .u64 wb, .string WS] 24) = w6 at *
        clear hw6 hbW
        generalize w5.heap.size = gw at *
        obtain ⟨p0, p1, p2, p3, p4, p5, p6⟩ := t0.cells7
        obtain ⟨⟨q0, q1, q2, q3⟩, _⟩ := tV.four
        obtain ⟨⟨v0, v1, v2, v3⟩, _⟩ := zW.four
        obtain ⟨⟨r0, r1, r2, r3⟩, f0, f1, f2, f3⟩ := t1.four
        have hR := HLONG.out (by assumption)
        clear HLONG HSHORT
        by_cases hwf : wf = 0
        · subst hwf
          have hR2 : R = ⟨⟨ek, ei, eb, es⟩, ef⟩ := hR
          have HR := Lib.hid hR2
          clear hR hR2
          go_wp2_with fail
          refine (c2 _).mono ?_
          rintro e w7 ⟨rfl, hb7⟩
          have a1 := t1.call hb7
          have hb07 := below_stepE hb06 hb06.size hb7
          clear c2 t0 t1 tV zW hb7 hb06 p0 p1 p2 p3 p4 p5 p6 q0 q1 q2 q3 r0 r1 r2 r3 f0 f1 f2 f3 v0 v1 v2 v3
          obtain ⟨⟨r0, r1, r2, r3⟩, f0, f1, f2, f3⟩ := a1.four
          go_wp2_with fail
          exact bodyPost_ret (results_val rfl _ _ (w.heap.size + 1) _ _ _ _ rfl a1.set4) rfl ⟨by rw [HR.out, ← HES.out]; rfl, below_set4 hb07 (Nat.le_succ _)⟩
        · have hw1 : (wf != 0) = true := by simpa using hwf
          have hR2 : R = badE wf := by rw [hR, if_pos hwf]
          have HR := Lib.hid hR2
          clear hR hR2 hwf c2
          go_wp2_with fail
          exact bodyPost_ret (results_val rfl _ _ (w.heap.size + 1) _ _ _ _ rfl t1.set4) rfl ⟨by rw [HR.out]; rfl, below_set4 hb06 (Nat.le_succ _)⟩
      · cases m0
        · have hs2 := hs
          rw [Bool.and_false] at hs2
          clear hs
          have cw := c3 w4 hb04
          clear c3
          go_wp2_with fail
          refine cw.mono ?_
          rintro e w5 ⟨rfl, hb5⟩
          have s0 := u0.call hb5
          have s1 := u1.call hb5
          have sV := zV.call hb5
          have hb05 := below_stepE hb04 hb04.size hb5
          have zW := Blk.new w5 #[.int .i64 wk, .int .i64 wi, .int .u64 wb, .string WS] 24
          have hbW := (Below.refl w5.heap.size w5).alloc (Nat.le_refl _) (.cells #[.int .i64 wk, .int .i64 wi, .int .u64 wb, .string WS] 24)
          have t0 := s0.call hbW
          have t1 := s1.call hbW
          have tV := sV.call hbW
          have hb06 := below_stepE hb05 hb05.size hbW
          clear cw u0 u1 zV hb5 hb04 s0 s1 sV hb05 p0 p1 p2 p3 p4 p5 p6 q0 q1 q2 q3 r0 r1 r2 r3 f0 f1 f2 f3 gg0 gg1 gg2 gg3 gg4 gg5 gg6
          go_upto_region 17 with fail
          generalize hw6 : w5.alloc (.cells #[.int .i64 wk, .int .i64 wi, .int .u64 wb, .string WS] 24) = w6 at *
          clear hw6 hbW
          generalize w5.heap.size = gw at *
          obtain ⟨p0, p1, p2, p3, p4, p5, p6⟩ := t0.cells7
          obtain ⟨⟨q0, q1, q2, q3⟩, _⟩ := tV.four
          obtain ⟨⟨v0, v1, v2, v3⟩, _⟩ := zW.four
          obtain ⟨⟨r0, r1, r2, r3⟩, f0, f1, f2, f3⟩ := t1.four
          have hR := HLONG.out (by assumption)
          clear HLONG HSHORT
          by_cases hwf : wf = 0
          · subst hwf
            have hR2 : R = ⟨⟨ek, ei, eb, es⟩, ef⟩ := hR
            have HR := Lib.hid hR2
            clear hR hR2
            go_wp2_with fail
            refine (c2 _).mono ?_
            rintro e w7 ⟨rfl, hb7⟩
            have a1 := t1.call hb7
            have hb07 := below_stepE hb06 hb06.size hb7
            clear c2 t0 t1 tV zW hb7 hb06 p0 p1 p2 p3 p4 p5 p6 q0 q1 q2 q3 r0 r1 r2 r3 f0 f1 f2 f3 v0 v1 v2 v3
            obtain ⟨⟨r0, r1, r2, r3⟩, f0, f1, f2, f3⟩ := a1.four
            go_wp2_with fail
            exact bodyPost_ret (results_val rfl _ _ (w.heap.size + 1) _ _ _ _ rfl a1.set4) rfl ⟨by rw [HR.out, ← HES.out]; rfl, below_set4 hb07 (Nat.le_succ _)⟩
          · have hw1 : (wf != 0) = true := by simpa using hwf
            have hR2 : R = badE wf := by rw [hR, if_pos hwf]
            have HR := Lib.hid hR2
            clear hR hR2 hwf c2
            go_wp2_with fail
            exact bodyPost_ret (results_val rfl _ _ (w.heap.size + 1) _ _ _ _ rfl t1.set4) rfl ⟨by rw [HR.out]; rfl, below_set4 hb06 (Nat.le_succ _)⟩
        · have hs2 := hs
          rw [Bool.and_true] at hs2
          clear hs
          have hR := HSHORT.out (by assumption)
          have HR := Lib.hid hR
          clear hR HSHORT HLONG c3 c2
          go_wp2_with fail
          exact bodyPost_ret (results_val rfl _ _ (w.heap.size + 1) _ _ _ _ rfl u1.set4) rfl ⟨by rw [HR.out, ← HVS.out]; rfl, below_set4 hb04 (Nat.le_succ _)⟩
    · rw [if_neg h15] at hs
      have o15 : (op == 15) = false := by simpa using h15
      by_cases h16 : op = 16
      · subst h16
        rw [if_pos rfl] at hs
        clear h15
        cases n1
        · have hs2 := hs
          rw [Bool.false_and] at hs2
          clear hs
          have cw := c3 w4 hb04
          clear c3
          go_wp2_with fail
          refine cw.mono ?_
          rintro e w5 ⟨rfl, hb5⟩
          have s0 := u0.call hb5
          have s1 := u1.call hb5
          have sV := zV.call hb5
          have hb05 := below_stepE hb04 hb04.size hb5
          have zW := Blk.new w5 #[.int .i64 wk, .int .i64 wi, .int .u64 wb, .string WS] 24
          have hbW := (Below.refl w5.heap.size w5).alloc (Nat.le_refl _) (.cells #[.int .i64 wk, .int .i64 wi, .int .u64 wb, .string WS] 24)
          have t0 := s0.call hbW
          have t1 := s1.call hbW
          have tV := sV.call hbW
          have hb06 := below_stepE hb05 hb05.size hbW
          clear cw u0 u1 zV hb5 hb04 s0 s1 sV hb05 p0 p1 p2 p3 p4 p5 p6 q0 q1 q2 q3 r0 r1 r2 r3 f0 f1 f2 f3 gg0 gg1 gg2 gg3 gg4 gg5 gg6
          go_upto_region 17 with fail
          generalize hw6 : w5.alloc (.cells #[.int .i64 wk, .int .i64 wi, .int .u64 wb, .string WS] 24) = w6 at *
          clear hw6 hbW
          generalize w5.heap.size = gw at *
          obtain ⟨p0, p1, p2, p3, p4, p5, p6⟩ := t0.cells7
          obtain ⟨⟨q0, q1, q2, q3⟩, _⟩ := tV.four
          obtain ⟨⟨v0, v1, v2, v3⟩, _⟩ := zW.four
          obtain ⟨⟨r0, r1, r2, r3⟩, f0, f1, f2, f3⟩ := t1.four
          have hR := HLONG.out (by assumption)
          clear HLONG HSHORT
          by_cases hwf : wf = 0
          · subst hwf
            have hR2 : R = ⟨⟨ek, ei, eb, es⟩, ef⟩ := hR
            have HR := Lib.hid hR2
            clear hR hR2
            go_wp2_with fail
            refine (c2 _).mono ?_
            rintro e w7 ⟨rfl, hb7⟩
            have a1 := t1.call hb7
            have hb07 := below_stepE hb06 hb06.size hb7
            clear c2 t0 t1 tV zW hb7 hb06 p0 p1 p2 p3 p4 p5 p6 q0 q1 q2 q3 r0 r1 r2 r3 f0 f1 f2 f3 v0 v1 v2 v3
            obtain ⟨⟨r0, r1, r2, r3⟩, f0, f1, f2, f3⟩ := a1.four
            go_wp2_with fail
            exact bodyPost_ret (results_val rfl _ _ (w.heap.size + 1) _ _ _ _ rfl a1.set4) rfl ⟨by rw [HR.out, ← HES.out]; rfl, below_set4 hb07 (Nat.le_succ _)⟩
          · have hw1 : (wf != 0) = true := by simpa using hwf
            have hR2 : R = badE wf := by rw [hR, if_pos hwf]
            have HR := Lib.hid hR2
            clear hR hR2 hwf c2
            go_wp2_with fail
            exact bodyPost_ret (results_val rfl _ _ (w.heap.size + 1) _ _ _ _ rfl t1.set4) rfl ⟨by rw [HR.out]; rfl, below_set4 hb06 (Nat.le_succ _)⟩
        · cases m1
          · have hs2 := hs
            rw [Bool.and_false] at hs2
            clear hs
            have cw := c3 w4 hb04
            clear c3
            go_wp2_with fail
            refine cw.mono ?_
            rintro e w5 ⟨rfl, hb5⟩
            have s0 := u0.call hb5
            have s1 := u1.call hb5
            have sV := zV.call hb5
            have hb05 := below_stepE hb04 hb04.size hb5
            have zW := Blk.new w5 #[.int .i64 wk, .int .i64 wi, .int .u64 wb, .string WS] 24
            have hbW := (Below.refl w5.heap.size w5).alloc (Nat.le_refl _) (.cells #[.int .i64 wk, .int .i64 wi, .int .u64 wb, .string WS] 24)
            have t0 := s0.call hbW
            have t1 := s1.call hbW
            have tV := sV.call hbW
            have hb06 := below_stepE hb05 hb05.size hbW
            clear cw u0 u1 zV hb5 hb04 s0 s1 sV hb05 p0 p1 p2 p3 p4 p5 p6 q0 q1 q2 q3 r0 r1 r2 r3 f0 f1 f2 f3 gg0 gg1 gg2 gg3 gg4 gg5 gg6
            go_upto_region 17 with fail
            generalize hw6 : w5.alloc (.cells #[.int .i64 wk, .int .i64 wi, .int .u64 wb, .string WS] 24) = w6 at *
            clear hw6 hbW
            generalize w5.heap.size = gw at *
            obtain ⟨p0, p1, p2, p3, p4, p5, p6⟩ := t0.cells7
            obtain ⟨⟨q0, q1, q2, q3⟩, _⟩ := tV.four
            obtain ⟨⟨v0, v1, v2, v3⟩, _⟩ := zW.four
            obtain ⟨⟨r0, r1, r2, r3⟩, f0, f1, f2, f3⟩ := t1.four
            have hR := HLONG.out (by assumption)
            clear HLONG HSHORT
            by_cases hwf : wf = 0
            · subst hwf
              have hR2 : R = ⟨⟨ek, ei, eb, es⟩, ef⟩ := hR
              have HR := Lib.hid hR2
              clear hR hR2
              go_wp2_with fail
              refine (c2 _).mono ?_
              rintro e w7 ⟨rfl, hb7⟩
              have a1 := t1.call hb7
              have hb07 := below_stepE hb06 hb06.size hb7
              clear c2 t0 t1 tV zW hb7 hb06 p0 p1 p2 p3 p4 p5 p6 q0 q1 q2 q3 r0 r1 r2 r3 f0 f1 f2 f3 v0 v1 v2 v3
              obtain ⟨⟨r0, r1, r2, r3⟩, f0, f1, f2, f3⟩ := a1.four
              go_wp2_with fail
              exact bodyPost_ret (results_val rfl _ _ (w.heap.size + 1) _ _ _ _ rfl a1.set4) rfl ⟨by rw [HR.out, ← HES.out]; rfl, below_set4 hb07 (Nat.le_succ _)⟩
            · have hw1 : (wf != 0) = true := by simpa using hwf
              have hR2 : R = badE wf := by rw [hR, if_pos hwf]
              have HR := Lib.hid hR2
              clear hR hR2 hwf c2
              go_wp2_with fail
              exact bodyPost_ret (results_val rfl _ _ (w.heap.size + 1) _ _ _ _ rfl t1.set4) rfl ⟨by rw [HR.out]; rfl, below_set4 hb06 (Nat.le_succ _)⟩
          · have hs2 := hs
            rw [Bool.and_true] at hs2
            clear hs
            have hR := HSHORT.out (by assumption)
            have HR := Lib.hid hR
            clear hR HSHORT HLONG c3 c2
            go_wp2_with fail
            exact bodyPost_ret (results_val rfl _ _ (w.heap.size + 1) _ _ _ _ rfl u1.set4) rfl ⟨by rw [HR.out, ← HVS.out]; rfl, below_set4 hb04 (Nat.le_succ _)⟩
      · rw [if_neg h16] at hs
        have o16 : (op == 16) = false := by simpa using h16
        by_cases h20 : op = 20
        · subst h20
          rw [if_pos rfl] at hs
          clear h15 h16
          cases n0
          · have hs2 := hs
            clear hs
            have e1' : n1 = false := by simp at e0; rw [← e1, e0]; rfl
            subst e1'
            have cw := c3 w4 hb04
            clear c3
            go_wp2_with fail
            refine cw.mono ?_
            rintro e w5 ⟨rfl, hb5⟩
            have s0 := u0.call hb5
            have s1 := u1.call hb5
            have sV := zV.call hb5
            have hb05 := below_stepE hb04 hb04.size hb5
            have zW := Blk.new w5 #[.int .i64 wk, .int .i64 wi, .int .u64 wb, .string WS] 24
            have hbW := (Below.refl w5.heap.size w5).alloc (Nat.le_refl _) (.cells #[.int .i64 wk, .int .i64 wi, .int .u64 wb, .string WS] 24)
            have t0 := s0.call hbW
            have t1 := s1.call hbW
            have tV := sV.call hbW
            have hb06 := below_stepE hb05 hb05.size hbW
            clear cw u0 u1 zV hb5 hb04 s0 s1 sV hb05 p0 p1 p2 p3 p4 p5 p6 q0 q1 q2 q3 r0 r1 r2 r3 f0 f1 f2 f3 gg0 gg1 gg2 gg3 gg4 gg5 gg6
            go_upto_region 17 with fail
            generalize hw6 : w5.alloc (.cells #[.int .i64 wk, .int .i64 wi, .int .u64 wb, .string WS] 24) = w6 at *
            clear hw6 hbW
            generalize w5.heap.size = gw at *
            obtain ⟨p0, p1, p2, p3, p4, p5, p6⟩ := t0.cells7
            obtain ⟨⟨q0, q1, q2, q3⟩, _⟩ := tV.four
            obtain ⟨⟨v0, v1, v2, v3⟩, _⟩ := zW.four
            obtain ⟨⟨r0, r1, r2, r3⟩, f0, f1, f2, f3⟩ := t1.four
            have hR := HLONG.out (by assumption)
            clear HLONG HSHORT
            by_cases hwf : wf = 0
            · subst hwf
              have hR2 : R = ⟨⟨ek, ei, eb, es⟩, ef⟩ := hR
              have HR := Lib.hid hR2
              clear hR hR2
              go_wp2_with fail
              refine (c2 _).mono ?_
              rintro e w7 ⟨rfl, hb7⟩
              have a1 := t1.call hb7
              have hb07 := below_stepE hb06 hb06.size hb7
              clear c2 t0 t1 tV zW hb7 hb06 p0 p1 p2 p3 p4 p5 p6 q0 q1 q2 q3 r0 r1 r2 r3 f0 f1 f2 f3 v0 v1 v2 v3
              obtain ⟨⟨r0, r1, r2, r3⟩, f0, f1, f2, f3⟩ := a1.four
              go_wp2_with fail
              exact bodyPost_ret (results_val rfl _ _ (w.heap.size + 1) _ _ _ _ rfl a1.set4) rfl ⟨by rw [HR.out, ← HES.out]; rfl, below_set4 hb07 (Nat.le_succ _)⟩
            · have hw1 : (wf != 0) = true := by simpa using hwf
              have hR2 : R = badE wf := by rw [hR, if_pos hwf]
              have HR := Lib.hid hR2
              clear hR hR2 hwf c2
              go_wp2_with fail
              exact bodyPost_ret (results_val rfl _ _ (w.heap.size + 1) _ _ _ _ rfl t1.set4) rfl ⟨by rw [HR.out]; rfl, below_set4 hb06 (Nat.le_succ _)⟩
          · have hs2 := hs
            clear hs
            have hR := HSHORT.out (by assumption)
            have HR := Lib.hid hR
            clear hR HSHORT HLONG c3 c2
            go_wp2_with fail
            exact bodyPost_ret (results_val rfl _ _ (w.heap.size + 1) _ _ _ _ rfl u1.set4) rfl ⟨by rw [HR.out, ← HVS.out]; rfl, below_set4 hb04 (Nat.le_succ _)⟩
        · rw [if_neg h20] at hs
          have o20 : (op == 20) = false := by simpa using h20
          have hs2 := hs
          clear hs h15 h16 h20
          cases n1
          · have cw := c3 w4 hb04
            clear c3
            go_wp2_with fail
            refine cw.mono ?_
            rintro e w5 ⟨rfl, hb5⟩
            have s0 := u0.call hb5
            have s1 := u1.call hb5
            have sV := zV.call hb5
            have hb05 := below_stepE hb04 hb04.size hb5
            have zW := Blk.new w5 #[.int .i64 wk, .int .i64 wi, .int .u64 wb, .string WS] 24
            have hbW := (Below.refl w5.heap.size w5).alloc (Nat.le_refl _) (.cells #[.int .i64 wk, .int .i64 wi, .int .u64 wb, .string WS] 24)
            have t0 := s0.call hbW
            have t1 := s1.call hbW
            have tV := sV.call hbW
            have hb06 := below_stepE hb05 hb05.size hbW
            clear cw u0 u1 zV hb5 hb04 s0 s1 sV hb05 p0 p1 p2 p3 p4 p5 p6 q0 q1 q2 q3 r0 r1 r2 r3 f0 f1 f2 f3 gg0 gg1 gg2 gg3 gg4 gg5 gg6
            go_upto_region 17 with fail
            generalize hw6 : w5.alloc (.cells #[.int .i64 wk, .int .i64 wi, .int .u64 wb, .string WS] 24) = w6 at *
            clear hw6 hbW
            generalize w5.heap.size = gw at *
            obtain ⟨p0, p1, p2, p3, p4, p5, p6⟩ := t0.cells7
            obtain ⟨⟨q0, q1, q2, q3⟩, _⟩ := tV.four
            obtain ⟨⟨v0, v1, v2, v3⟩, _⟩ := zW.four
            obtain ⟨⟨r0, r1, r2, r3⟩, f0, f1, f2, f3⟩ := t1.four
            have hR := HLONG.out (by assumption)
            clear HLONG HSHORT
            by_cases hwf : wf = 0
            · subst hwf
              have hR2 : R = ⟨⟨ek, ei, eb, es⟩, ef⟩ := hR
              have HR := Lib.hid hR2
              clear hR hR2
              go_wp2_with fail
              refine (c2 _).mono ?_
              rintro e w7 ⟨rfl, hb7⟩
              have a1 := t1.call hb7
              have hb07 := below_stepE hb06 hb06.size hb7
              clear c2 t0 t1 tV zW hb7 hb06 p0 p1 p2 p3 p4 p5 p6 q0 q1 q2 q3 r0 r1 r2 r3 f0 f1 f2 f3 v0 v1 v2 v3
              obtain ⟨⟨r0, r1, r2, r3⟩, f0, f1, f2, f3⟩ := a1.four
              go_wp2_with fail
              exact bodyPost_ret (results_val rfl _ _ (w.heap.size + 1) _ _ _ _ rfl a1.set4) rfl ⟨by rw [HR.out, ← HES.out]; rfl, below_set4 hb07 (Nat.le_succ _)⟩
            · have hw1 : (wf != 0) = true := by simpa using hwf
              have hR2 : R = badE wf := by rw [hR, if_pos hwf]
              have HR := Lib.hid hR2
              clear hR hR2 hwf c2
              go_wp2_with fail
              exact bodyPost_ret (results_val rfl _ _ (w.heap.size + 1) _ _ _ _ rfl t1.set4) rfl ⟨by rw [HR.out]; rfl, below_set4 hb06 (Nat.le_succ _)⟩
          · have cw := c3 w4 hb04
            clear c3
            go_wp2_with fail
            refine cw.mono ?_
            rintro e w5 ⟨rfl, hb5⟩
            have s0 := u0.call hb5
            have s1 := u1.call hb5
            have sV := zV.call hb5
            have hb05 := below_stepE hb04 hb04.size hb5
            have zW := Blk.new w5 #[.int .i64 wk, .int .i64 wi, .int .u64 wb, .string WS] 24
            have hbW := (Below.refl w5.heap.size w5).alloc (Nat.le_refl _) (.cells #[.int .i64 wk, .int .i64 wi, .int .u64 wb, .string WS] 24)
            have t0 := s0.call hbW
            have t1 := s1.call hbW
            have tV := sV.call hbW
            have hb06 := below_stepE hb05 hb05.size hbW
            clear cw u0 u1 zV hb5 hb04 s0 s1 sV hb05 p0 p1 p2 p3 p4 p5 p6 q0 q1 q2 q3 r0 r1 r2 r3 f0 f1 f2 f3 gg0 gg1 gg2 gg3 gg4 gg5 gg6
            go_upto_region 17 with fail
            generalize hw6 : w5.alloc (.cells #[.int .i64 wk, .int .i64 wi, .int .u64 wb, .string WS] 24) = w6 at *
            clear hw6 hbW
            generalize w5.heap.size = gw at *
            obtain ⟨p0, p1, p2, p3, p4, p5, p6⟩ := t0.cells7
            obtain ⟨⟨q0, q1, q2, q3⟩, _⟩ := tV.four
            obtain ⟨⟨v0, v1, v2, v3⟩, _⟩ := zW.four
            obtain ⟨⟨r0, r1, r2, r3⟩, f0, f1, f2, f3⟩ := t1.four
            have hR := HLONG.out (by assumption)
            clear HLONG HSHORT
            by_cases hwf : wf = 0
            · subst hwf
              have hR2 : R = ⟨⟨ek, ei, eb, es⟩, ef⟩ := hR
              have HR := Lib.hid hR2
              clear hR hR2
              go_wp2_with fail
              refine (c2 _).mono ?_
              rintro e w7 ⟨rfl, hb7⟩
              have a1 := t1.call hb7
              have hb07 := below_stepE hb06 hb06.size hb7
              clear c2 t0 t1 tV zW hb7 hb06 p0 p1 p2 p3 p4 p5 p6 q0 q1 q2 q3 r0 r1 r2 r3 f0 f1 f2 f3 v0 v1 v2 v3
              obtain ⟨⟨r0, r1, r2, r3⟩, f0, f1, f2, f3⟩ := a1.four
              go_wp2_with fail
              exact bodyPost_ret (results_val rfl _ _ (w.heap.size + 1) _ _ _ _ rfl a1.set4) rfl ⟨by rw [HR.out, ← HES.out]; rfl, below_set4 hb07 (Nat.le_succ _)⟩
            · have hw1 : (wf != 0) = true := by simpa using hwf
              have hR2 : R = badE wf := by rw [hR, if_pos hwf]
              have HR := Lib.hid hR2
              clear hR hR2 hwf c2
              go_wp2_with fail
              exact bodyPost_ret (results_val rfl _ _ (w.heap.size + 1) _ _ _ _ rfl t1.set4) rfl ⟨by rw [HR.out]; rfl, below_set4 hb06 (Nat.le_succ _)⟩
  · have hv1 : (vf != 0) = true := by simpa using hv
    have hR := HBAD.out hv
    have HR := Lib.hid hR
    clear hR HBAD HSHORT0 HLONG0 c2 c3 hv
    go_wp2_with fail
    exact bodyPost_ret (results_val rfl _ _ (w.heap.size + 1) _ _ _ _ rfl u1.set4) rfl ⟨by rw [HR.out]; rfl, below_set4 hb04 (Nat.le_succ _)⟩
end Go.Proofs.YtfedlchncngafaaGreatDoor
