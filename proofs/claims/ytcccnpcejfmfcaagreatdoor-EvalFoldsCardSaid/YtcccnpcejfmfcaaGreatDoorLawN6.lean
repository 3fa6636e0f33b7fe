/-
  CONTRACTS of the reference's valued and ValueOf.
  CONDITIONS: each theorem's own hypotheses; the tables, package lex's signs and package expr's forms hold what their initialisers lay ('XEnv').
  CONTRACTS of the reference's valued, at any depth, and ValueOf; THE WALK of the law 'chirographlaw.EvalEvals'.
  CONDITIONS: each theorem's own hypotheses; the tables, package lex's signs and package expr's forms hold what their initialisers lay ('XEnv').
  CONTRACTS of package eval's literalOf, parts and foreseen.
  CONDITIONS: each theorem's own hypotheses.
  CONTRACTS of package eval's folded and Fold.
  CONDITIONS: each theorem's own hypotheses; the tables, package lex's signs and package expr's forms hold what their initialisers lay ('XEnv').
  CONTRACTS of package eval's folded and Fold: the walks.
  CONDITIONS: each theorem's own hypotheses; the tables, package lex's signs and package expr's forms hold what their initialisers lay ('XEnv').
  CONTRACT of chirograph/chirographlaw.sameExpr: two expressions that are the same tree say the same.
  CONDITIONS: each theorem's own hypotheses.
  CONTRACTS of the reference's folded and FoldedOf.
  CONDITIONS: each theorem's own hypotheses; the tables, package lex's signs and package expr's forms hold what their initialisers lay ('XEnv').
  CONTRACTS of the reference's folded and FoldedOf: the walks.
  CONDITIONS: each theorem's own hypotheses; the tables, package lex's signs and package expr's forms hold what their initialisers lay ('XEnv').
  CONTRACT of the reference's FoldedOf; THE WALK of the law 'chirographlaw.EvalFolds'.
  CONDITIONS: each theorem's own hypotheses; the tables, package lex's signs and package expr's forms hold what their initialisers lay ('XEnv').
-/
import Derived.Test.YtcccnpcejfmfcaaGreatDoorRevD
import Derived.Test.YtcccnpcejfmfcaaGreatDoorExprI
import Derived.Test.YtcccnpcejfmfcaaGreatDoorKindS
import Derived.Test.YtcccnpcejfmfcaaGreatDoorGEve
import Derived.Test.YtcccnpcejfmfcaaGreatDoorLoX
import Derived.Stop.Asserts
import Derived.Laws.MakeOwn
namespace Go.Proofs.YtcccnpcejfmfcaaGreatDoor
open Go.RowKit
set_option linter.unusedVariables false
set_option maxRecDepth 100000

theorem did_one (op : Int) (ho : op = 3 ∨ op = 4 ∨ op = 17 ∨ op = 18) (v : Vl) (hv : OkV v) (w : World) : Calls Tryz.prog 31 #[.int .i64 op, valV v, valV nulV] w (RekOk (op1E op v) w) := by
  rcases ho with rfl | rfl | rfl | rfl
  · exact didNeg_any v nulV hv ok_nul rfl w
  · exact didNot_any v nulV hv ok_nul rfl w
  · exact didNull_any v nulV hv ok_nul rfl w
  · exact didLen_any v nulV hv ok_nul rfl w
theorem did_two (op : Int) (ho : op = 5 ∨ op = 6 ∨ op = 7 ∨ op = 8 ∨ op = 9 ∨ op = 10 ∨ op = 11 ∨ op = 12 ∨ op = 13 ∨ op = 14 ∨ op = 15 ∨ op = 16 ∨ op = 19 ∨ op = 20) (v u : Vl) (hv : OkV v) (hu : OkV u) (w : World) : Calls Tryz.prog 31 #[.int .i64 op, valV v, valV u] w (RekOk (op2E op v u) w) := by
  rcases ho with rfl | rfl | rfl | rfl | rfl | rfl | rfl | rfl | rfl | rfl | rfl | rfl | rfl | rfl
  · exact didAr5_any v u hv hu w
  · exact didAr6_any v u hv hu w
  · exact didAr7_any v u hv hu w
  · exact didAr8_any v u hv hu w
  · exact didCmp9_any v u hv hu w
  · exact didCmp10_any v u hv hu w
  · exact didCmp11_any v u hv hu w
  · exact didCmp12_any v u hv hu w
  · exact didCmp13_any v u hv hu w
  · exact didCmp14_any v u hv hu w
  · exact didLog15_any v u hv hu w
  · exact didLog16_any v u hv hu w
  · exact didJoin_any v u hv hu w
  · exact didCoal_any v u hv hu w
/-- What stands where the reference values an expression. -/
structure ValEnv (w : World) (cs : List Cl) (aoc : Option Addr) (row : List Vl) (aor : Option Addr) : Prop where
  C : Cols w aoc cs
  V : Vals w aor row
  c0 : colsR cs = 0
  l : cs.length ≤ 9223372036854775807
  same : row.length = cs.length
  ok : ∀ v ∈ row, OkV v
theorem ValEnv.keep {w w' : World} {cs : List Cl} {aoc : Option Addr} {row : List Vl} {aor : Option Addr} (h : ValEnv w cs aoc row aor) (hb : Below w.heap.size w w') : ValEnv w' cs aoc row aor := ⟨h.C.keep hb, h.V.keep hb, h.c0, h.l, h.same, h.ok⟩
def RvOk (n : Nat) : Prop := ∀ (t : T) (ao : Option Addr) (cap : Nat) (cs : List Cl) (aoc : Option Addr) (capc : Nat) (row : List Vl) (aor : Option Addr) (capr : Nat) (w : World), t.deep ≤ n → FitT t → formT t = 0 → AtT w t ao → ValEnv w cs aoc row aor →
    Calls Tryz.prog 16 #[exprV t ao cap, .slice aoc cs.length capc, .slice aor row.length capr] w (RekOk (evT cs row t) w)
theorem four_less (v : Vl) : valV v = .agg #[.int .i64 v.k, .int .i64 v.i, .int .u64 v.b, .string (str v.s)] := rfl
theorem valV_nul : valV nulV = .agg #[.int .i64 0, .int .i64 0, .int .u64 0, .string ⟨#[]⟩] := rfl
set_option maxHeartbeats 8000000 in
theorem val_lit (d : Nd) (ao : Option Addr) (cap : Nat) (cs : List Cl) (aoc : Option Addr) (capc : Nat) (row : List Vl) (aor : Option Addr) (capr : Nat) (w : World) (h1 : d.op = 1) :
    Calls Tryz.prog 16 #[exprV (.mk d []) ao cap, .slice aoc cs.length capc, .slice aor row.length capr] w (RekOk (evT cs row (.mk d [])) w) := by
  have e : evT cs row (.mk d []) = okE ⟨d.k, d.i, d.b, d.t⟩ := by simp only [evT]; rw [if_pos h1]
  rw [e]
  unfold RekOk
  rw [exprV_cells]
  simp only [T.nd, T.kids, List.length_nil]
  obtain ⟨op, k, i, b, s, nm⟩ := d
  simp only at h1 ⊢
  subst h1
  unfold okE valV
  simp only
  generalize str s = S at *
  generalize str nm = N at *
  generalize cs.length = lc at *
  generalize row.length = lr at *
  clear e
  obtain ⟨z0, z1, hb2⟩ := two_new w #[.int .i64 1, .int .i64 k, .int .i64 i, .int .u64 b, .string S, .string N, .slice ao 0 cap] #[.int .i64 0, .int .i64 0, .int .u64 0, .string ⟨#[]⟩] 27 24
  generalize hw2 : (w.alloc (.cells #[.int .i64 1, .int .i64 k, .int .i64 i, .int .u64 b, .string S, .string N, .slice ao 0 cap] 27)).alloc (.cells #[.int .i64 0, .int .i64 0, .int .u64 0, .string ⟨#[]⟩] 24) = w2 at z0 z1 hb2
  obtain ⟨p0, p1, p2, p3, p4, p5, p6⟩ := z0.cells7
  obtain ⟨⟨r0, r1, r2, r3⟩, f0, f1, f2, f3⟩ := z1.four
  go_enter Tryz.func16, Tryz.ntmps16
  go_upto_region 1 with fail
  try rw [hw2]
  clear hw2
  go_wp2_with fail
  exact bodyPost_ret (results_val rfl _ _ (w.heap.size + 1) _ _ _ _ rfl z1.set4) rfl ⟨rfl, below_set4 hb2 (Nat.le_succ _)⟩
set_option maxHeartbeats 8000000 in
theorem val_col (d : Nd) (ao : Option Addr) (cap : Nat) (cs : List Cl) (aoc : Option Addr) (capc : Nat) (row : List Vl) (aor : Option Addr) (capr : Nat) (w : World) (h2 : d.op = 2) (hE : ValEnv w cs aoc row aor) :
    Calls Tryz.prog 16 #[exprV (.mk d []) ao cap, .slice aoc cs.length capc, .slice aor row.length capr] w (RekOk (evT cs row (.mk d [])) w) := by
  have e : evT cs row (.mk d []) = colE cs row d.n := by simp only [evT]; rw [if_neg (by omega), if_pos h2]
  rw [e]
  unfold RekOk
  have c1 := fun W (hW : Below w.heap.size w W) => columnAt_any cs aoc capc d.n W hE.l ((hE.keep hW).C)
  rw [place_same cs d.n hE.c0] at c1
  have hV := hE.V
  have hsame := hE.same
  rw [exprV_cells]
  simp only [T.nd, T.kids, List.length_nil]
  obtain ⟨op, k, i, b, s, nm⟩ := d
  simp only at h2 c1 ⊢
  subst h2
  unfold colE
  generalize str s = S at *
  clear e hE
  rcases placeN_at nm cs 0 with h1 | ⟨j, c, hj, h1⟩
  · rw [h1] at c1 ⊢
    rw [if_pos (by decide)]
    generalize cs.length = lc at *
    generalize row.length = lr at *
    generalize str nm = N at *
    clear h1 hV hsame
    obtain ⟨z0, z1, hb2⟩ := two_new w #[.int .i64 2, .int .i64 k, .int .i64 i, .int .u64 b, .string S, .string N, .slice ao 0 cap] #[.int .i64 0, .int .i64 0, .int .u64 0, .string ⟨#[]⟩] 27 24
    generalize hw2 : (w.alloc (.cells #[.int .i64 2, .int .i64 k, .int .i64 i, .int .u64 b, .string S, .string N, .slice ao 0 cap] 27)).alloc (.cells #[.int .i64 0, .int .i64 0, .int .u64 0, .string ⟨#[]⟩] 24) = w2 at z0 z1 hb2
    obtain ⟨p0, p1, p2, p3, p4, p5, p6⟩ := z0.cells7
    go_enter Tryz.func16, Tryz.ntmps16
    go_upto_region 1 with fail
    try rw [hw2]
    clear hw2
    have cc := c1 w2 hb2
    clear c1
    go_wp2_with fail
    refine cc.mono ?_
    rintro e w3 ⟨rfl, rfl⟩
    clear cc
    obtain ⟨⟨r0, r1, r2, r3⟩, f0, f1, f2, f3⟩ := z1.four
    go_wp2_with fail
    exact bodyPost_ret (results_val rfl _ _ (w.heap.size + 1) _ _ _ _ rfl z1.set4) rfl ⟨rfl, below_set4 hb2 (Nat.le_succ _)⟩
  · rw [Nat.zero_add] at h1
    rw [h1] at c1 ⊢
    have hjl : j < cs.length := (List.getElem?_eq_some_iff.1 hj).1
    have hjr : j < row.length := by omega
    rw [if_neg (by omega), Int.toNat_natCast, List.getElem?_eq_getElem hjr]
    have hrj : row[j]? = some row[j] := List.getElem?_eq_getElem hjr
    generalize row[j] = v at *
    rcases hV.2 with hn | ⟨a, o, rfl, ha, hlies⟩
    · rw [hn] at hjr; exact absurd hjr (Nat.not_lt_zero _)
    obtain ⟨x0, x1, x2, x3⟩ := hlies j v hrj
    obtain ⟨vk, vi, vb, vs⟩ := v
    unfold okE valV
    simp only at x0 x1 x2 x3 ⊢
    generalize str vs = VS at *
    generalize cs.length = lc at *
    generalize row.length = lr at *
    generalize str nm = N at *
    have iJ : (j : Int) < (lr : Int) := by omega
    have iJ0 : ¬ ((j : Int) < 0) := by omega
    clear h1 hV hsame hj hlies hrj
    obtain ⟨z0, z1, hb2⟩ := two_new w #[.int .i64 2, .int .i64 k, .int .i64 i, .int .u64 b, .string S, .string N, .slice ao 0 cap] #[.int .i64 0, .int .i64 0, .int .u64 0, .string ⟨#[]⟩] 27 24
    generalize hw2 : (w.alloc (.cells #[.int .i64 2, .int .i64 k, .int .i64 i, .int .u64 b, .string S, .string N, .slice ao 0 cap] 27)).alloc (.cells #[.int .i64 0, .int .i64 0, .int .u64 0, .string ⟨#[]⟩] 24) = w2 at z0 z1 hb2
    obtain ⟨p0, p1, p2, p3, p4, p5, p6⟩ := z0.cells7
    have d0 := (hb2.cell (p := ⟨a, o + j * 4, none⟩) ha).trans x0
    have d1 := (hb2.cell (p := ⟨a, o + j * 4 + 1, none⟩) ha).trans x1
    have d2 := (hb2.cell (p := ⟨a, o + j * 4 + 2, none⟩) ha).trans x2
    have d3 := (hb2.cell (p := ⟨a, o + j * 4 + 3, none⟩) ha).trans x3
    clear x0 x1 x2 x3
    go_enter Tryz.func16, Tryz.ntmps16
    go_upto_region 1 with fail
    try rw [hw2]
    clear hw2
    have cc := c1 w2 hb2
    clear c1
    go_wp2_with fail
    refine cc.mono ?_
    rintro e w3 ⟨rfl, rfl⟩
    clear cc
    obtain ⟨⟨r0, r1, r2, r3⟩, f0, f1, f2, f3⟩ := z1.four
    go_wp2_with fail
    exact bodyPost_ret (results_val rfl _ _ (w.heap.size + 1) _ _ _ _ rfl z1.set4) rfl ⟨rfl, below_set4 hb2 (Nat.le_succ _)⟩
set_option maxHeartbeats 16000000 in
theorem val_one (m : Nat) (IH : RvOk m) (d : Nd) (u : T) (ao : Option Addr) (cap : Nat) (cs : List Cl) (aoc : Option Addr) (capc : Nat) (row : List Vl) (aor : Option Addr) (capr : Nat) (w : World) (ho : d.op = 3 ∨ d.op = 4 ∨ d.op = 17 ∨ d.op = 18) (hdp : u.deep ≤ m) (hF : FitT u) (hf : formT u = 0) (hA : AtL w ao 0 [u]) (hE : ValEnv w cs aoc row aor) :
    Calls Tryz.prog 16 #[exprV (.mk d [u]) ao cap, .slice aoc cs.length capc, .slice aor row.length capr] w (RekOk (evT cs row (.mk d [u])) w) := by
  obtain ⟨a, o, rfl, ha, hnode⟩ := AtL.at hA 0 u rfl
  rw [Nat.zero_add] at hnode
  obtain ⟨ao', cap', n1, n2, nA, x0, x1, x2, x3, x4, x5, x6⟩ := hnode.cells
  simp only [Nat.zero_mul, Nat.add_zero] at x0 x1 x2 x3 x4 x5 x6
  have e : evT cs row (.mk d [u]) = combE d.op [evT cs row u] := by simp only [evT, evL]; rw [if_neg (by omega), if_neg (by omega)]
  have c1 := fun W (hW : Below w.heap.size w W) => IH u ao' cap' cs aoc capc row aor capr W hdp hF hf (nA.keep hW) (hE.keep hW)
  have hok := ok_ev cs row hE.ok u.deep u (Nat.le_refl _) hF hf
  have c2 := fun W => did_one d.op ho (evT cs row u).v hok.v W
  have hR : combE d.op [evT cs row u] = if (evT cs row u).f ≠ 0 then badE (evT cs row u).f else op1E d.op (evT cs row u).v := rfl
  rw [e]
  generalize combE d.op [evT cs row u] = R at *
  clear e
  have hno1 : (d.op == 1) = false := by simp; omega
  have hno2 : (d.op == 2) = false := by simp; omega
  clear hnode nA hA hE IH hdp hF hf hok ho
  generalize evT cs row u = P at *
  unfold RekOk at *
  generalize op1E d.op P.v = D at *
  simp only [exprV_cells] at c1 ⊢
  simp only [T.nd, T.kids, List.length_cons, List.length_nil]
  generalize cs.length = lc at *
  generalize row.length = lr at *
  obtain ⟨op, k, i, b, s, nm⟩ := d
  simp only [T.nd] at *
  generalize str s = S at *
  generalize str nm = N at *
  generalize u.kids.length = L' at *
  obtain ⟨⟨op', k', i', b', s', nm'⟩, l'⟩ := u
  simp only at *
  generalize str s' = S' at *
  generalize str nm' = N' at *
  obtain ⟨⟨vk, vi, vb, vs⟩, vf⟩ := P
  obtain ⟨⟨ek, ei, eb, es⟩, ef⟩ := D
  simp only at hR
  have hbad : vf ≠ 0 → R = badE vf := fun h => by rw [hR, if_pos h]
  have hgood : vf = 0 → R = ⟨⟨ek, ei, eb, es⟩, ef⟩ := fun h => by rw [hR, if_neg (by rw [h]; decide)]
  have HBAD := Lib.hid hbad
  have HGOOD := Lib.hid hgood
  clear hR hbad hgood
  rw [valV_nul] at c2
  simp only [four_less] at c1 c2 ⊢
  generalize str vs = VS at *
  have hes : str es = str es := rfl
  obtain ⟨ES, hES⟩ : ∃ ES, str es = ES := ⟨_, rfl⟩
  rw [hES] at c2
  have HES := Lib.hid hES
  clear hES hes
  obtain ⟨z0, z1, hb2⟩ := two_new w #[.int .i64 op, .int .i64 k, .int .i64 i, .int .u64 b, .string S, .string N, .slice (some ⟨a, o, none⟩) 1 cap] #[.int .i64 0, .int .i64 0, .int .u64 0, .string ⟨#[]⟩] 27 24
  generalize hw2 : (w.alloc (.cells #[.int .i64 op, .int .i64 k, .int .i64 i, .int .u64 b, .string S, .string N, .slice (some ⟨a, o, none⟩) 1 cap] 27)).alloc (.cells #[.int .i64 0, .int .i64 0, .int .u64 0, .string ⟨#[]⟩] 24) = w2 at z0 z1 hb2
  obtain ⟨p0, p1, p2, p3, p4, p5, p6⟩ := z0.cells7
  have d0 := (hb2.cell (p := ⟨a, o, none⟩) ha).trans x0
  have d1 := (hb2.cell (p := ⟨a, o + 1, none⟩) ha).trans x1
  have d2 := (hb2.cell (p := ⟨a, o + 2, none⟩) ha).trans x2
  have d3 := (hb2.cell (p := ⟨a, o + 3, none⟩) ha).trans x3
  have d4 := (hb2.cell (p := ⟨a, o + 4, none⟩) ha).trans x4
  have d5 := (hb2.cell (p := ⟨a, o + 5, none⟩) ha).trans x5
  have d6 := (hb2.cell (p := ⟨a, o + 6, none⟩) ha).trans x6
  clear x0 x1 x2 x3 x4 x5 x6
  have cc := c1 w2 hb2
  clear c1
  go_enter Tryz.func16, Tryz.ntmps16
  go_upto_region 1 with fail
  try rw [hw2]
  clear hw2
  go_wp2_with fail
  refine cc.mono ?_
  rintro e w3 ⟨rfl, hb3⟩
  have y0 := z0.call hb3
  have y1 := z1.call hb3
  have hb03 := below_stepE hb2 hb2.size hb3
  have zV := Blk.new w3 #[.int .i64 vk, .int .i64 vi, .int .u64 vb, .string VS] 24
  have hbV := (Below.refl w3.heap.size w3).alloc (Nat.le_refl _) (.cells #[.int .i64 vk, .int .i64 vi, .int .u64 vb, .string VS] 24)
  have u0 := y0.call hbV
  have u1 := y1.call hbV
  have hb04 := below_stepE hb03 hb03.size hbV
  clear cc z0 z1 hb2 hb3 hb03 y0 y1 p0 p1 p2 p3 p4 p5 p6 d0 d1 d2 d3 d4 d5 d6
  go_upto_region 10 with fail
  generalize hw4 : w3.alloc (.cells #[.int .i64 vk, .int .i64 vi, .int .u64 vb, .string VS] 24) = w4 at *
  clear hw4 hbV
  generalize w3.heap.size = g3 at *
  obtain ⟨p0, p1, p2, p3, p4, p5, p6⟩ := u0.cells7
  obtain ⟨⟨q0, q1, q2, q3⟩, _⟩ := zV.four
  obtain ⟨⟨r0, r1, r2, r3⟩, f0, f1, f2, f3⟩ := u1.four
  by_cases hv : vf = 0
  · have hR := HGOOD.out hv
    have HR := Lib.hid hR
    clear hR HGOOD HBAD
    subst hv
    go_wp2_with fail
    refine (c2 _).mono ?_
    rintro e w5 ⟨rfl, hb5⟩
    have t1 := u1.call hb5
    have hb05 := below_stepE hb04 hb04.size hb5
    clear c2 u0 u1 zV hb5 hb04 p0 p1 p2 p3 p4 p5 p6 q0 q1 q2 q3 r0 r1 r2 r3 f0 f1 f2 f3
    obtain ⟨⟨r0, r1, r2, r3⟩, f0, f1, f2, f3⟩ := t1.four
    go_wp2_with fail
    exact bodyPost_ret (results_val rfl _ _ (w.heap.size + 1) _ _ _ _ rfl t1.set4) rfl ⟨by rw [HR.out, ← HES.out]; rfl, below_set4 hb05 (Nat.le_succ _)⟩
  · have hv1 : (vf != 0) = true := by simpa using hv
    have hR := HBAD.out hv
    have HR := Lib.hid hR
    clear hR HGOOD HBAD c2 hv
    go_wp2_with fail
    exact bodyPost_ret (results_val rfl _ _ (w.heap.size + 1) _ _ _ _ rfl u1.set4) rfl ⟨by rw [HR.out]; rfl, below_set4 hb04 (Nat.le_succ _)⟩
set_option maxHeartbeats 32000000 in
theorem val_two (m : Nat) (IH : RvOk m) (d : Nd) (u v : T) (ao : Option Addr) (cap : Nat) (cs : List Cl) (aoc : Option Addr) (capc : Nat) (row : List Vl) (aor : Option Addr) (capr : Nat) (w : World) (ho : d.op = 5 ∨ d.op = 6 ∨ d.op = 7 ∨ d.op = 8 ∨ d.op = 9 ∨ d.op = 10 ∨ d.op = 11 ∨ d.op = 12 ∨ d.op = 13 ∨ d.op = 14 ∨ d.op = 15 ∨ d.op = 16 ∨ d.op = 19 ∨ d.op = 20) (hdp : u.deep ≤ m ∧ v.deep ≤ m) (hF : FitT u ∧ FitT v) (hf : formT u = 0 ∧ formT v = 0) (hA : AtL w ao 0 [u, v]) (hE : ValEnv w cs aoc row aor) :
    Calls Tryz.prog 16 #[exprV (.mk d [u, v]) ao cap, .slice aoc cs.length capc, .slice aor row.length capr] w (RekOk (evT cs row (.mk d [u, v])) w) := by
  obtain ⟨a, o, rfl, ha, hnode⟩ := AtL.at hA 0 u rfl
  obtain ⟨a2, o2, e2, _, hnode2⟩ := AtL.at hA 1 v rfl
  obtain ⟨rfl, rfl⟩ : a2 = a ∧ o2 = o := by simp at e2; exact ⟨e2.1.symm, e2.2.symm⟩
  rw [Nat.zero_add] at hnode hnode2
  obtain ⟨ao', cap', n1, n2, nA, x0, x1, x2, x3, x4, x5, x6⟩ := hnode.cells
  obtain ⟨ao3, cap3, m1, m2, mA, y0, y1, y2, y3, y4, y5, y6⟩ := hnode2.cells
  simp only [Nat.zero_mul, Nat.add_zero] at x0 x1 x2 x3 x4 x5 x6
  simp only [Nat.one_mul] at y0 y1 y2 y3 y4 y5 y6
  have e : evT cs row (.mk d [u, v]) = combE d.op [evT cs row u, evT cs row v] := by simp only [evT, evL]; rw [if_neg (by omega), if_neg (by omega)]
  have c1 := fun W (hW : Below w.heap.size w W) => IH u ao' cap' cs aoc capc row aor capr W hdp.1 hF.1 hf.1 (nA.keep hW) (hE.keep hW)
  have c3 := fun W (hW : Below w.heap.size w W) => IH v ao3 cap3 cs aoc capc row aor capr W hdp.2 hF.2 hf.2 (mA.keep hW) (hE.keep hW)
  have hok := ok_ev cs row hE.ok u.deep u (Nat.le_refl _) hF.1 hf.1
  have hok2 := ok_ev cs row hE.ok v.deep v (Nat.le_refl _) hF.2 hf.2
  have c2 := fun W => did_two d.op ho (evT cs row u).v (evT cs row v).v hok.v hok2.v W
  have hR : combE d.op [evT cs row u, evT cs row v] = if (evT cs row u).f ≠ 0 then badE (evT cs row u).f else if shortE d.op (evT cs row u).v = true then okE (evT cs row u).v else if (evT cs row v).f ≠ 0 then badE (evT cs row v).f else op2E d.op (evT cs row u).v (evT cs row v).v := rfl
  rw [e]
  generalize combE d.op [evT cs row u, evT cs row v] = R at *
  have hno1 : (d.op == 1) = false := by simp; omega
  have hno2 : (d.op == 2) = false := by simp; omega
  clear e e2 hnode hnode2 nA mA hA hE IH hdp hF hf hok hok2 ho
  generalize evT cs row u = P at *
  generalize evT cs row v = Q at *
  unfold RekOk at *
  generalize op2E d.op P.v Q.v = D at *
  simp only [exprV_cells] at c1 c3 ⊢
  simp only [T.nd, T.kids, List.length_cons, List.length_nil]
  generalize cs.length = lc at *
  generalize row.length = lr at *
  obtain ⟨op, k, i, b, s, nm⟩ := d
  simp only [T.nd] at *
  generalize str s = S at *
  generalize str nm = N at *
  generalize u.kids.length = L' at *
  obtain ⟨⟨op', k', i', b', s', nm'⟩, l'⟩ := u
  simp only at *
  generalize str s' = S' at *
  generalize str nm' = N' at *
  generalize v.kids.length = L3 at *
  obtain ⟨⟨op3, k3, i3, b3, s3, nm3⟩, l3⟩ := v
  simp only at *
  generalize str s3 = S3 at *
  generalize str nm3 = N3 at *
  obtain ⟨⟨vk, vi, vb, vs⟩, vf⟩ := P
  obtain ⟨⟨wk, wi, wb, ws⟩, wf⟩ := Q
  obtain ⟨⟨ek, ei, eb, es⟩, ef⟩ := D
  simp only at hR
  have hbad : vf ≠ 0 → R = badE vf := fun h => by rw [hR, if_pos h]
  have hshort : vf = 0 → shortE op ⟨vk, vi, vb, vs⟩ = true → R = okE ⟨vk, vi, vb, vs⟩ := fun h h2 => by rw [hR, if_neg (by rw [h]; decide), if_pos h2]
  have hlong : vf = 0 → shortE op ⟨vk, vi, vb, vs⟩ = false → R = if wf ≠ 0 then badE wf else ⟨⟨ek, ei, eb, es⟩, ef⟩ := fun h h2 => by rw [hR, if_neg (by rw [h]; decide), if_neg (by rw [h2]; decide)]
  have HBAD := Lib.hid hbad
  have HSHORT0 := Lib.hid hshort
  have HLONG0 := Lib.hid hlong
  clear hR hbad hshort hlong
  simp only [four_less] at c1 c2 c3 ⊢
  obtain ⟨VS, hVS⟩ : ∃ VS, str vs = VS := ⟨_, rfl⟩
  rw [hVS] at c2
  simp only [hVS] at c1
  have HVS := Lib.hid hVS
  generalize str ws = WS at *
  obtain ⟨ES, hES⟩ : ∃ ES, str es = ES := ⟨_, rfl⟩
  rw [hES] at c2
  have HES := Lib.hid hES
  clear hES hVS
  obtain ⟨z0, z1, hb2⟩ := two_new w #[.int .i64 op, .int .i64 k, .int .i64 i, .int .u64 b, .string S, .string N, .slice (some ⟨a2, o2, none⟩) 2 cap] #[.int .i64 0, .int .i64 0, .int .u64 0, .string ⟨#[]⟩] 27 24
  generalize hw2 : (w.alloc (.cells #[.int .i64 op, .int .i64 k, .int .i64 i, .int .u64 b, .string S, .string N, .slice (some ⟨a2, o2, none⟩) 2 cap] 27)).alloc (.cells #[.int .i64 0, .int .i64 0, .int .u64 0, .string ⟨#[]⟩] 24) = w2 at z0 z1 hb2
  obtain ⟨p0, p1, p2, p3, p4, p5, p6⟩ := z0.cells7
  have d0 := (hb2.cell (p := ⟨a2, o2, none⟩) ha).trans x0
  have d1 := (hb2.cell (p := ⟨a2, o2 + 1, none⟩) ha).trans x1
  have d2 := (hb2.cell (p := ⟨a2, o2 + 2, none⟩) ha).trans x2
  have d3 := (hb2.cell (p := ⟨a2, o2 + 3, none⟩) ha).trans x3
  have d4 := (hb2.cell (p := ⟨a2, o2 + 4, none⟩) ha).trans x4
  have d5 := (hb2.cell (p := ⟨a2, o2 + 5, none⟩) ha).trans x5
  have d6 := (hb2.cell (p := ⟨a2, o2 + 6, none⟩) ha).trans x6
  have ha1 : a2 < w2.heap.size := Nat.lt_of_lt_of_le ha hb2.size
  have h0 := (hb2.cell (p := ⟨a2, o2 + 7, none⟩) ha).trans y0
  have h1 := (hb2.cell (p := ⟨a2, o2 + 7 + 1, none⟩) ha).trans y1
  have h2 := (hb2.cell (p := ⟨a2, o2 + 7 + 2, none⟩) ha).trans y2
  have h3 := (hb2.cell (p := ⟨a2, o2 + 7 + 3, none⟩) ha).trans y3
  have h4 := (hb2.cell (p := ⟨a2, o2 + 7 + 4, none⟩) ha).trans y4
  have h5 := (hb2.cell (p := ⟨a2, o2 + 7 + 5, none⟩) ha).trans y5
  have h6 := (hb2.cell (p := ⟨a2, o2 + 7 + 6, none⟩) ha).trans y6
  clear x0 x1 x2 x3 x4 x5 x6 y0 y1 y2 y3 y4 y5 y6
  have cc := c1 w2 hb2
  clear c1
  go_enter Tryz.func16, Tryz.ntmps16
  go_upto_region 1 with fail
  try rw [hw2]
  clear hw2
  go_wp2_with fail
  refine cc.mono ?_
  rintro e w3 ⟨rfl, hb3⟩
  have y0 := z0.call hb3
  have y1 := z1.call hb3
  have hb03 := below_stepE hb2 hb2.size hb3
  have zV := Blk.new w3 #[.int .i64 vk, .int .i64 vi, .int .u64 vb, .string VS] 24
  have hbV := (Below.refl w3.heap.size w3).alloc (Nat.le_refl _) (.cells #[.int .i64 vk, .int .i64 vi, .int .u64 vb, .string VS] 24)
  have u0 := y0.call hbV
  have u1 := y1.call hbV
  have hb04 := below_stepE hb03 hb03.size hbV
  have hb24 := below_stepE hb3 hb3.size hbV
  have gg0 := (hb24.cell (p := ⟨a2, o2 + 7, none⟩) ha1).trans h0
  have gg1 := (hb24.cell (p := ⟨a2, o2 + 7 + 1, none⟩) ha1).trans h1
  have gg2 := (hb24.cell (p := ⟨a2, o2 + 7 + 2, none⟩) ha1).trans h2
  have gg3 := (hb24.cell (p := ⟨a2, o2 + 7 + 3, none⟩) ha1).trans h3
  have gg4 := (hb24.cell (p := ⟨a2, o2 + 7 + 4, none⟩) ha1).trans h4
  have gg5 := (hb24.cell (p := ⟨a2, o2 + 7 + 5, none⟩) ha1).trans h5
  have gg6 := (hb24.cell (p := ⟨a2, o2 + 7 + 6, none⟩) ha1).trans h6
  clear cc z0 z1 hb2 hb3 hb03 hb24 y0 y1 p0 p1 p2 p3 p4 p5 p6 d0 d1 d2 d3 d4 d5 d6 h0 h1 h2 h3 h4 h5 h6 ha1
  go_upto_region 10 with fail
  generalize hw4 : w3.alloc (.cells #[.int .i64 vk, .int .i64 vi, .int .u64 vb, .string VS] 24) = w4 at *
  clear hw4 hbV
  generalize w3.heap.size = g3 at *
  obtain ⟨p0, p1, p2, p3, p4, p5, p6⟩ := u0.cells7
  obtain ⟨⟨q0, q1, q2, q3⟩, _⟩ := zV.four
  obtain ⟨⟨r0, r1, r2, r3⟩, f0, f1, f2, f3⟩ := u1.four
  by_cases hv : vf = 0
  · have hshort := HSHORT0.out hv
    have hlong := HLONG0.out hv
    have HSHORT := Lib.hid hshort
    have HLONG := Lib.hid hlong
    clear hshort hlong HSHORT0 HLONG0 HBAD
    subst hv
    obtain ⟨n0, e0⟩ : ∃ n, (vk != 0) = n := ⟨_, rfl⟩
    obtain ⟨n1, e1⟩ : ∃ n, (vk == 1) = n := ⟨_, rfl⟩
    obtain ⟨m0, e2⟩ : ∃ n, (vi == 0) = n := ⟨_, rfl⟩
    obtain ⟨m1, e3⟩ : ∃ n, (vi == 1) = n := ⟨_, rfl⟩
    have hs : shortE op ⟨vk, vi, vb, vs⟩ = if op = 15 then n1 && m0 else if op = 16 then n1 && m1 else if op = 20 then n0 else false := by
      unfold shortE
      simp only
      rw [← e0, ← e1, ← e2, ← e3]
      split
      · rfl
      · split
        · rfl
        · split
          · rfl
          · rfl
    by_cases h15 : op = 15
    · subst h15
      have o20 : ((15 : Int) == 20) = false := rfl
      rw [if_pos rfl] at hs
      cases n1
      · have hs2 := hs
        rw [Bool.false_and] at hs2
        clear hs
        have cw := c3 w4 hb04
        clear c3
        go_wp2_with fail
        refine cw.mono ?_
        rintro e w5 ⟨rfl, hb5⟩
        have s0 := u0.call hb5
        have s1 := u1.call hb5
        have sV := zV.call hb5
        have hb05 := below_stepE hb04 hb04.size hb5
        have zW := Blk.new w5 #[.int .i64 wk, .int .i64 wi, .int .u64 wb, .string WS] 24
        have hbW := (Below.refl w5.heap.size w5).alloc (Nat.le_refl _) (.cells #[.int .i64 wk, .int .i64 wi, .int .u64 wb, .string WS] 24)
        have t0 := s0.call hbW
        have t1 := s1.call hbW
        have tV := sV.call hbW
        have hb06 := below_stepE hb05 hb05.size hbW
        clear cw u0 u1 zV hb5 hb04 s0 s1 sV hb05 p0 p1 p2 p3 p4 p5 p6 q0 q1 q2 q3 r0 r1 r2 r3 f0 f1 f2 f3 gg0 gg1 gg2 gg3 gg4 gg5 gg6
        go_upto_region 17 with fail
        generalize hw6 : w5.alloc (.cells #[.int .i64 wk, .int .i64 wi, .int .u64 wb, .string WS] 24) = w6 at *
        clear hw6 hbW
        generalize w5.heap.size = gw at *
        obtain ⟨p0, p1, p2, p3, p4, p5, p6⟩ := t0.cells7
        obtain ⟨⟨q0, q1, q2, q3⟩, _⟩ := tV.four
        obtain ⟨⟨v0, v1, v2, v3⟩, _⟩ := zW.four
        obtain ⟨⟨r0, r1, r2, r3⟩, f0, f1, f2, f3⟩ := t1.four
        have hR := HLONG.out (by assumption)
        clear HLONG HSHORT
        by_cases hwf : wf = 0
        · subst hwf
          have hR2 : R = ⟨⟨ek, ei, eb, es⟩, ef⟩ := hR
          have HR := Lib.hid hR2
          clear hR hR2
          go_wp2_with fail
          refine (c2 _).mono ?_
          rintro e w7 ⟨rfl, hb7⟩
          have a1 := t1.call hb7
          have hb07 := below_stepE hb06 hb06.size hb7
          clear c2 t0 t1 tV zW hb7 hb06 p0 p1 p2 p3 p4 p5 p6 q0 q1 q2 q3 r0 r1 r2 r3 f0 f1 f2 f3 v0 v1 v2 v3
          obtain ⟨⟨r0, r1, r2, r3⟩, f0, f1, f2, f3⟩ := a1.four
          go_wp2_with fail
          exact bodyPost_ret (results_val rfl _ _ (w.heap.size + 1) _ _ _ _ rfl a1.set4) rfl ⟨by rw [HR.out, ← HES.out]; rfl, below_set4 hb07 (Nat.le_succ _)⟩
        · have hw1 : (wf != 0) = true := by simpa using hwf
          have hR2 : R = badE wf := by rw [hR, if_pos hwf]
          have HR := Lib.hid hR2
          clear hR hR2 hwf c2
          go_wp2_with fail
          exact bodyPost_ret (results_val rfl _ _ (w.heap.size + 1) _ _ _ _ rfl t1.set4) rfl ⟨by rw [HR.out]; rfl, below_set4 hb06 (Nat.le_succ _)⟩
      · cases m0
        · have hs2 := hs
          rw [Bool.and_false] at hs2
          clear hs
          have cw := c3 w4 hb04
          clear c3
          go_wp2_with fail
          refine cw.mono ?_
          rintro e w5 ⟨rfl, hb5⟩
          have s0 := u0.call hb5
          have s1 := u1.call hb5
          have sV := zV.call hb5
          have hb05 := below_stepE hb04 hb04.size hb5
          have zW := Blk.new w5 #[.int .i64 wk, .int .i64 wi, .int .u64 wb, .string WS] 24
          have hbW := (Below.refl w5.heap.size w5).alloc (Nat.le_refl _) (.cells #[.int .i64 wk, .int .i64 wi, .int .u64 wb, .string WS] 24)
          have t0 := s0.call hbW
          have t1 := s1.call hbW
          have tV := sV.call hbW
          have hb06 := below_stepE hb05 hb05.size hbW
          clear cw u0 u1 zV hb5 hb04 s0 s1 sV hb05 p0 p1 p2 p3 p4 p5 p6 q0 q1 q2 q3 r0 r1 r2 r3 f0 f1 f2 f3 gg0 gg1 gg2 gg3 gg4 gg5 gg6
          go_upto_region 17 with fail
          generalize hw6 : w5.alloc (.cells #[.int .i64 wk, .int .i64 wi, .int .u64 wb, .string WS] 24) = w6 at *
          clear hw6 hbW
          generalize w5.heap.size = gw at *
          obtain ⟨p0, p1, p2, p3, p4, p5, p6⟩ := t0.cells7
          obtain ⟨⟨q0, q1, q2, q3⟩, _⟩ := tV.four
          obtain ⟨⟨v0, v1, v2, v3⟩, _⟩ := zW.four
          obtain ⟨⟨r0, r1, r2, r3⟩, f0, f1, f2, f3⟩ := t1.four
          have hR := HLONG.out (by assumption)
          clear HLONG HSHORT
          by_cases hwf : wf = 0
          · subst hwf
            have hR2 : R = ⟨⟨ek, ei, eb, es⟩, ef⟩ := hR
            have HR := Lib.hid hR2
            clear hR hR2
            go_wp2_with fail
            refine (c2 _).mono ?_
            rintro e w7 ⟨rfl, hb7⟩
            have a1 := t1.call hb7
            have hb07 := below_stepE hb06 hb06.size hb7
            clear c2 t0 t1 tV zW hb7 hb06 p0 p1 p2 p3 p4 p5 p6 q0 q1 q2 q3 r0 r1 r2 r3 f0 f1 f2 f3 v0 v1 v2 v3
            obtain ⟨⟨r0, r1, r2, r3⟩, f0, f1, f2, f3⟩ := a1.four
            go_wp2_with fail
            exact bodyPost_ret (results_val rfl _ _ (w.heap.size + 1) _ _ _ _ rfl a1.set4) rfl ⟨by rw [HR.out, ← HES.out]; rfl, below_set4 hb07 (Nat.le_succ _)⟩
          · have hw1 : (wf != 0) = true := by simpa using hwf
            have hR2 : R = badE wf := by rw [hR, if_pos hwf]
            have HR := Lib.hid hR2
            clear hR hR2 hwf c2
            go_wp2_with fail
            exact bodyPost_ret (results_val rfl _ _ (w.heap.size + 1) _ _ _ _ rfl t1.set4) rfl ⟨by rw [HR.out]; rfl, below_set4 hb06 (Nat.le_succ _)⟩
        · have hs2 := hs
          rw [Bool.and_true] at hs2
          clear hs
          have hR := HSHORT.out (by assumption)
          have HR := Lib.hid hR
          clear hR HSHORT HLONG c3 c2
          go_wp2_with fail
          exact bodyPost_ret (results_val rfl _ _ (w.heap.size + 1) _ _ _ _ rfl u1.set4) rfl ⟨by rw [HR.out, ← HVS.out]; rfl, below_set4 hb04 (Nat.le_succ _)⟩
    · rw [if_neg h15] at hs
      have o15 : (op == 15) = false := by simpa using h15
      by_cases h16 : op = 16
      · subst h16
        rw [if_pos rfl] at hs
        clear h15
        cases n1
        · have hs2 := hs
          rw [Bool.false_and] at hs2
          clear hs
          have cw := c3 w4 hb04
          clear c3
          go_wp2_with fail
          refine cw.mono ?_
          rintro e w5 ⟨rfl, hb5⟩
          have s0 := u0.call hb5
          have s1 := u1.call hb5
          have sV := zV.call hb5
          have hb05 := below_stepE hb04 hb04.size hb5
          have zW := Blk.new w5 #[.int .i64 wk, .int .i64 wi, .int .u64 wb, .string WS] 24
          have hbW := (Below.refl w5.heap.size w5).alloc (Nat.le_refl _) (.cells #[.int .i64 wk, .int .i64 wi, .int .u64 wb, .string WS] 24)
          have t0 := s0.call hbW
          have t1 := s1.call hbW
          have tV := sV.call hbW
          have hb06 := below_stepE hb05 hb05.size hbW
          clear cw u0 u1 zV hb5 hb04 s0 s1 sV hb05 p0 p1 p2 p3 p4 p5 p6 q0 q1 q2 q3 r0 r1 r2 r3 f0 f1 f2 f3 gg0 gg1 gg2 gg3 gg4 gg5 gg6
          go_upto_region 17 with fail
          generalize hw6 : w5.alloc (.cells #[.int .i64 wk, .int .i64 wi, .int .u64 wb, .string WS] 24) = w6 at *
          clear hw6 hbW
          generalize w5.heap.size = gw at *
          obtain ⟨p0, p1, p2, p3, p4, p5, p6⟩ := t0.cells7
          obtain ⟨⟨q0, q1, q2, q3⟩, _⟩ := tV.four
          obtain ⟨⟨v0, v1, v2, v3⟩, _⟩ := zW.four
          obtain ⟨⟨r0, r1, r2, r3⟩, f0, f1, f2, f3⟩ := t1.four
          have hR := HLONG.out (by assumption)
          clear HLONG HSHORT
          by_cases hwf : wf = 0
          · subst hwf
            have hR2 : R = ⟨⟨ek, ei, eb, es⟩, ef⟩ := hR
            have HR := Lib.hid hR2
            clear hR hR2
            go_wp2_with fail
            refine (c2 _).mono ?_
            rintro e w7 ⟨rfl, hb7⟩
            have a1 := t1.call hb7
            have hb07 := below_stepE hb06 hb06.size hb7
            clear c2 t0 t1 tV zW hb7 hb06 p0 p1 p2 p3 p4 p5 p6 q0 q1 q2 q3 r0 r1 r2 r3 f0 f1 f2 f3 v0 v1 v2 v3
            obtain ⟨⟨r0, r1, r2, r3⟩, f0, f1, f2, f3⟩ := a1.four
            go_wp2_with fail
            exact bodyPost_ret (results_val rfl _ _ (w.heap.size + 1) _ _ _ _ rfl a1.set4) rfl ⟨by rw [HR.out, ← HES.out]; rfl, below_set4 hb07 (Nat.le_succ _)⟩
          · have hw1 : (wf != 0) = true := by simpa using hwf
            have hR2 : R = badE wf := by rw [hR, if_pos hwf]
            have HR := Lib.hid hR2
            clear hR hR2 hwf c2
            go_wp2_with fail
            exact bodyPost_ret (results_val rfl _ _ (w.heap.size + 1) _ _ _ _ rfl t1.set4) rfl ⟨by rw [HR.out]; rfl, below_set4 hb06 (Nat.le_succ _)⟩
        · cases m1
          · have hs2 := hs
            rw [Bool.and_false] at hs2
            clear hs
            have cw := c3 w4 hb04
            clear c3
            go_wp2_with fail
            refine cw.mono ?_
            rintro e w5 ⟨rfl, hb5⟩
            have s0 := u0.call hb5
            have s1 := u1.call hb5
            have sV := zV.call hb5
            have hb05 := below_stepE hb04 hb04.size hb5
            have zW := Blk.new w5 #[.int .i64 wk, .int .i64 wi, .int .u64 wb, .string WS] 24
            have hbW := (Below.refl w5.heap.size w5).alloc (Nat.le_refl _) (.cells #[.int .i64 wk, .int .i64 wi, .int .u64 wb, .string WS] 24)
            have t0 := s0.call hbW
            have t1 := s1.call hbW
            have tV := sV.call hbW
            have hb06 := below_stepE hb05 hb05.size hbW
            clear cw u0 u1 zV hb5 hb04 s0 s1 sV hb05 p0 p1 p2 p3 p4 p5 p6 q0 q1 q2 q3 r0 r1 r2 r3 f0 f1 f2 f3 gg0 gg1 gg2 gg3 gg4 gg5 gg6
            go_upto_region 17 with fail
            generalize hw6 : w5.alloc (.cells #[.int .i64 wk, .int .i64 wi, .int .u64 wb, .string WS] 24) = w6 at *
            clear hw6 hbW
            generalize w5.heap.size = gw at *
            obtain ⟨p0, p1, p2, p3, p4, p5, p6⟩ := t0.cells7
            obtain ⟨⟨q0, q1, q2, q3⟩, _⟩ := tV.four
            obtain ⟨⟨v0, v1, v2, v3⟩, _⟩ := zW.four
            obtain ⟨⟨r0, r1, r2, r3⟩, f0, f1, f2, f3⟩ := t1.four
            have hR := HLONG.out (by assumption)
            clear HLONG HSHORT
            by_cases hwf : wf = 0
            · subst hwf
              have hR2 : R = ⟨⟨ek, ei, eb, es⟩, ef⟩ := hR
              have HR := Lib.hid hR2
              clear hR hR2
              go_wp2_with fail
              refine (c2 _).mono ?_
              rintro e w7 ⟨rfl, hb7⟩
              have a1 := t1.call hb7
              have hb07 := below_stepE hb06 hb06.size hb7
              clear c2 t0 t1 tV zW hb7 hb06 p0 p1 p2 p3 p4 p5 p6 q0 q1 q2 q3 r0 r1 r2 r3 f0 f1 f2 f3 v0 v1 v2 v3
              obtain ⟨⟨r0, r1, r2, r3⟩, f0, f1, f2, f3⟩ := a1.four
              go_wp2_with fail
              exact bodyPost_ret (results_val rfl _ _ (w.heap.size + 1) _ _ _ _ rfl a1.set4) rfl ⟨by rw [HR.out, ← HES.out]; rfl, below_set4 hb07 (Nat.le_succ _)⟩
            · have hw1 : (wf != 0) = true := by simpa using hwf
              have hR2 : R = badE wf := by rw [hR, if_pos hwf]
              have HR := Lib.hid hR2
              clear hR hR2 hwf c2
              go_wp2_with fail
              exact bodyPost_ret (results_val rfl _ _ (w.heap.size + 1) _ _ _ _ rfl t1.set4) rfl ⟨by rw [HR.out]; rfl, below_set4 hb06 (Nat.le_succ _)⟩
          · have hs2 := hs
            rw [Bool.and_true] at hs2
            clear hs
            have hR := HSHORT.out (by assumption)
            have HR := Lib.hid hR
            clear hR HSHORT HLONG c3 c2
            go_wp2_with fail
            exact bodyPost_ret (results_val rfl _ _ (w.heap.size + 1) _ _ _ _ rfl u1.set4) rfl ⟨by rw [HR.out, ← HVS.out]; rfl, below_set4 hb04 (Nat.le_succ _)⟩
      · rw [if_neg h16] at hs
        have o16 : (op == 16) = false := by simpa using h16
        by_cases h20 : op = 20
        · subst h20
          rw [if_pos rfl] at hs
          clear h15 h16
          cases n0
          · have hs2 := hs
            clear hs
            have e1' : n1 = false := by simp at e0; rw [← e1, e0]; rfl
            subst e1'
            have cw := c3 w4 hb04
            clear c3
            go_wp2_with fail
            refine cw.mono ?_
            rintro e w5 ⟨rfl, hb5⟩
            have s0 := u0.call hb5
            have s1 := u1.call hb5
            have sV := zV.call hb5
            have hb05 := below_stepE hb04 hb04.size hb5
            have zW := Blk.new w5 #[.int .i64 wk, .int .i64 wi, .int .u64 wb, .string WS] 24
            have hbW := (Below.refl w5.heap.size w5).alloc (Nat.le_refl _) (.cells #[.int .i64 wk, .int .i64 wi, .int .u64 wb, .string WS] 24)
            have t0 := s0.call hbW
            have t1 := s1.call hbW
            have tV := sV.call hbW
            have hb06 := below_stepE hb05 hb05.size hbW
            clear cw u0 u1 zV hb5 hb04 s0 s1 sV hb05 p0 p1 p2 p3 p4 p5 p6 q0 q1 q2 q3 r0 r1 r2 r3 f0 f1 f2 f3 gg0 gg1 gg2 gg3 gg4 gg5 gg6
            go_upto_region 17 with fail
            generalize hw6 : w5.alloc (.cells #[.int .i64 wk, .int .i64 wi, .int .u64 wb, .string WS] 24) = w6 at *
            clear hw6 hbW
            generalize w5.heap.size = gw at *
            obtain ⟨p0, p1, p2, p3, p4, p5, p6⟩ := t0.cells7
            obtain ⟨⟨q0, q1, q2, q3⟩, _⟩ := tV.four
            obtain ⟨⟨v0, v1, v2, v3⟩, _⟩ := zW.four
            obtain ⟨⟨r0, r1, r2, r3⟩, f0, f1, f2, f3⟩ := t1.four
            have hR := HLONG.out (by assumption)
            clear HLONG HSHORT
            by_cases hwf : wf = 0
            · subst hwf
              have hR2 : R = ⟨⟨ek, ei, eb, es⟩, ef⟩ := hR
              have HR := Lib.hid hR2
              clear hR hR2
              go_wp2_with fail
              refine (c2 _).mono ?_
              rintro e w7 ⟨rfl, hb7⟩
              have a1 := t1.call hb7
              have hb07 := below_stepE hb06 hb06.size hb7
              clear c2 t0 t1 tV zW hb7 hb06 p0 p1 p2 p3 p4 p5 p6 q0 q1 q2 q3 r0 r1 r2 r3 f0 f1 f2 f3 v0 v1 v2 v3
              obtain ⟨⟨r0, r1, r2, r3⟩, f0, f1, f2, f3⟩ := a1.four
              go_wp2_with fail
              exact bodyPost_ret (results_val rfl _ _ (w.heap.size + 1) _ _ _ _ rfl a1.set4) rfl ⟨by rw [HR.out, ← HES.out]; rfl, below_set4 hb07 (Nat.le_succ _)⟩
            · have hw1 : (wf != 0) = true := by simpa using hwf
              have hR2 : R = badE wf := by rw [hR, if_pos hwf]
              have HR := Lib.hid hR2
              clear hR hR2 hwf c2
              go_wp2_with fail
              exact bodyPost_ret (results_val rfl _ _ (w.heap.size + 1) _ _ _ _ rfl t1.set4) rfl ⟨by rw [HR.out]; rfl, below_set4 hb06 (Nat.le_succ _)⟩
          · have hs2 := hs
            clear hs
            have hR := HSHORT.out (by assumption)
            have HR := Lib.hid hR
            clear hR HSHORT HLONG c3 c2
            go_wp2_with fail
            exact bodyPost_ret (results_val rfl _ _ (w.heap.size + 1) _ _ _ _ rfl u1.set4) rfl ⟨by rw [HR.out, ← HVS.out]; rfl, below_set4 hb04 (Nat.le_succ _)⟩
        · rw [if_neg h20] at hs
          have o20 : (op == 20) = false := by simpa using h20
          have hs2 := hs
          clear hs h15 h16 h20
          cases n1
          · have cw := c3 w4 hb04
            clear c3
            go_wp2_with fail
            refine cw.mono ?_
            rintro e w5 ⟨rfl, hb5⟩
            have s0 := u0.call hb5
            have s1 := u1.call hb5
            have sV := zV.call hb5
            have hb05 := below_stepE hb04 hb04.size hb5
            have zW := Blk.new w5 #[.int .i64 wk, .int .i64 wi, .int .u64 wb, .string WS] 24
            have hbW := (Below.refl w5.heap.size w5).alloc (Nat.le_refl _) (.cells #[.int .i64 wk, .int .i64 wi, .int .u64 wb, .string WS] 24)
            have t0 := s0.call hbW
            have t1 := s1.call hbW
            have tV := sV.call hbW
            have hb06 := below_stepE hb05 hb05.size hbW
            clear cw u0 u1 zV hb5 hb04 s0 s1 sV hb05 p0 p1 p2 p3 p4 p5 p6 q0 q1 q2 q3 r0 r1 r2 r3 f0 f1 f2 f3 gg0 gg1 gg2 gg3 gg4 gg5 gg6
            go_upto_region 17 with fail
            generalize hw6 : w5.alloc (.cells #[.int .i64 wk, .int .i64 wi, .int .u64 wb, .string WS] 24) = w6 at *
            clear hw6 hbW
            generalize w5.heap.size = gw at *
            obtain ⟨p0, p1, p2, p3, p4, p5, p6⟩ := t0.cells7
            obtain ⟨⟨q0, q1, q2, q3⟩, _⟩ := tV.four
            obtain ⟨⟨v0, v1, v2, v3⟩, _⟩ := zW.four
            obtain ⟨⟨r0, r1, r2, r3⟩, f0, f1, f2, f3⟩ := t1.four
            have hR := HLONG.out (by assumption)
            clear HLONG HSHORT
            by_cases hwf : wf = 0
            · subst hwf
              have hR2 : R = ⟨⟨ek, ei, eb, es⟩, ef⟩ := hR
              have HR := Lib.hid hR2
              clear hR hR2
              go_wp2_with fail
              refine (c2 _).mono ?_
              rintro e w7 ⟨rfl, hb7⟩
              have a1 := t1.call hb7
              have hb07 := below_stepE hb06 hb06.size hb7
              clear c2 t0 t1 tV zW hb7 hb06 p0 p1 p2 p3 p4 p5 p6 q0 q1 q2 q3 r0 r1 r2 r3 f0 f1 f2 f3 v0 v1 v2 v3
              obtain ⟨⟨r0, r1, r2, r3⟩, f0, f1, f2, f3⟩ := a1.four
              go_wp2_with fail
              exact bodyPost_ret (results_val rfl _ _ (w.heap.size + 1) _ _ _ _ rfl a1.set4) rfl ⟨by rw [HR.out, ← HES.out]; rfl, below_set4 hb07 (Nat.le_succ _)⟩
            · have hw1 : (wf != 0) = true := by simpa using hwf
              have hR2 : R = badE wf := by rw [hR, if_pos hwf]
              have HR := Lib.hid hR2
              clear hR hR2 hwf c2
              go_wp2_with fail
              exact bodyPost_ret (results_val rfl _ _ (w.heap.size + 1) _ _ _ _ rfl t1.set4) rfl ⟨by rw [HR.out]; rfl, below_set4 hb06 (Nat.le_succ _)⟩
          · have cw := c3 w4 hb04
            clear c3
            go_wp2_with fail
            refine cw.mono ?_
            rintro e w5 ⟨rfl, hb5⟩
            have s0 := u0.call hb5
            have s1 := u1.call hb5
            have sV := zV.call hb5
            have hb05 := below_stepE hb04 hb04.size hb5
            have zW := Blk.new w5 #[.int .i64 wk, .int .i64 wi, .int .u64 wb, .string WS] 24
            have hbW := (Below.refl w5.heap.size w5).alloc (Nat.le_refl _) (.cells #[.int .i64 wk, .int .i64 wi, .int .u64 wb, .string WS] 24)
            have t0 := s0.call hbW
            have t1 := s1.call hbW
            have tV := sV.call hbW
            have hb06 := below_stepE hb05 hb05.size hbW
            clear cw u0 u1 zV hb5 hb04 s0 s1 sV hb05 p0 p1 p2 p3 p4 p5 p6 q0 q1 q2 q3 r0 r1 r2 r3 f0 f1 f2 f3 gg0 gg1 gg2 gg3 gg4 gg5 gg6
            go_upto_region 17 with fail
            generalize hw6 : w5.alloc (.cells #[.int .i64 wk, .int .i64 wi, .int .u64 wb, .string WS] 24) = w6 at *
            clear hw6 hbW
            generalize w5.heap.size = gw at *
            obtain ⟨p0, p1, p2, p3, p4, p5, p6⟩ := t0.cells7
            obtain ⟨⟨q0, q1, q2, q3⟩, _⟩ := tV.four
            obtain ⟨⟨v0, v1, v2, v3⟩, _⟩ := zW.four
            obtain ⟨⟨r0, r1, r2, r3⟩, f0, f1, f2, f3⟩ := t1.four
            have hR := HLONG.out (by assumption)
            clear HLONG HSHORT
            by_cases hwf : wf = 0
            · subst hwf
              have hR2 : R = ⟨⟨ek, ei, eb, es⟩, ef⟩ := hR
              have HR := Lib.hid hR2
              clear hR hR2
              go_wp2_with fail
              refine (c2 _).mono ?_
              rintro e w7 ⟨rfl, hb7⟩
              have a1 := t1.call hb7
              have hb07 := below_stepE hb06 hb06.size hb7
              clear c2 t0 t1 tV zW hb7 hb06 p0 p1 p2 p3 p4 p5 p6 q0 q1 q2 q3 r0 r1 r2 r3 f0 f1 f2 f3 v0 v1 v2 v3
              obtain ⟨⟨r0, r1, r2, r3⟩, f0, f1, f2, f3⟩ := a1.four
              go_wp2_with fail
              exact bodyPost_ret (results_val rfl _ _ (w.heap.size + 1) _ _ _ _ rfl a1.set4) rfl ⟨by rw [HR.out, ← HES.out]; rfl, below_set4 hb07 (Nat.le_succ _)⟩
            · have hw1 : (wf != 0) = true := by simpa using hwf
              have hR2 : R = badE wf := by rw [hR, if_pos hwf]
              have HR := Lib.hid hR2
              clear hR hR2 hwf c2
              go_wp2_with fail
              exact bodyPost_ret (results_val rfl _ _ (w.heap.size + 1) _ _ _ _ rfl t1.set4) rfl ⟨by rw [HR.out]; rfl, below_set4 hb06 (Nat.le_succ _)⟩
  · have hv1 : (vf != 0) = true := by simpa using hv
    have hR := HBAD.out hv
    have HR := Lib.hid hR
    clear hR HBAD HSHORT0 HLONG0 c2 c3 hv
    go_wp2_with fail
    exact bodyPost_ret (results_val rfl _ _ (w.heap.size + 1) _ _ _ _ rfl u1.set4) rfl ⟨by rw [HR.out]; rfl, below_set4 hb04 (Nat.le_succ _)⟩
end Go.Proofs.YtcccnpcejfmfcaaGreatDoor
namespace Go.Proofs.YtcccnpcejfmfcaaGreatDoor
open Go.RowKit
set_option linter.unusedVariables false
set_option maxRecDepth 100000

theorem val_any : ∀ n, RvOk n := by
  intro n
  induction n with
  | zero => intro t ao cap cs aoc capc row aor capr w h; have := T.deep_eq t; omega
  | succ n ih =>
    rintro ⟨d, l⟩ ao cap cs aoc capc row aor capr w hdp hF hf hA hE
    obtain ⟨hn, hl⟩ := formT_open d l hf
    obtain ⟨⟨o1, o2⟩, hp, _, hv⟩ := nodeF_open d _ hn
    have hdl : deepL l ≤ n := by simp only [T.deep] at hdp; omega
    simp only [AtT] at hA
    simp only [FitT] at hF
    have hA2 := hA.2
    have hF2 := hF.2
    unfold partsN at hp
    by_cases h12 : d.op = 1 ∨ d.op = 2
    · rw [if_pos h12] at hp
      obtain rfl := List.eq_nil_of_length_eq_zero hp
      rcases h12 with h1 | h2
      · exact val_lit d ao cap cs aoc capc row aor capr w h1
      · exact val_col d ao cap cs aoc capc row aor capr w h2 hE
    rw [if_neg h12] at hp
    by_cases ho : d.op = 3 ∨ d.op = 4 ∨ d.op = 17 ∨ d.op = 18
    · rw [if_pos ho] at hp
      match l, hp, hA2, hdl, hl, hF2 with
      | [u], _, hA2, hdl, hl, hF2 =>
        exact val_one n ih d u ao cap cs aoc capc row aor capr w ho (Nat.le_trans (deepK_mem (j := 0) rfl) hdl) (hF2.mem u (by simp)) (formL_mem _ hl u (by simp)) hA2 hE
    · rw [if_neg ho] at hp
      match l, hp, hA2, hdl, hl, hF2 with
      | [u, v], _, hA2, hdl, hl, hF2 =>
        exact val_two n ih d u v ao cap cs aoc capc row aor capr w (by omega) ⟨Nat.le_trans (deepK_mem (j := 0) rfl) hdl, Nat.le_trans (deepK_mem (l := [u, v]) (j := 1) rfl) hdl⟩ ⟨hF2.mem u (by simp), hF2.mem v (by simp)⟩ ⟨formL_mem _ hl u (by simp), formL_mem _ hl v (by simp)⟩ hA2 hE
set_option maxHeartbeats 16000000 in
theorem valueOf_ref (t : T) (ao : Option Addr) (cap : Nat) (hn0 : ao = none → cap = 0) (cs : List Cl) (aoc : Option Addr) (capc : Nat) (row : List Vl) (aor : Option Addr) (capr : Nat) (w : World) (h : EvIn w t ao cap cs aoc capc row aor capr) :
    Calls Tryz.prog 6 #[exprV t ao cap, .slice aoc cs.length capc, .slice aor row.length capr] w fun e w' => e = .returned (.tuple #[valV (evalR t cs row).v, .int .i64 (evalR t cs row).f]) ∧ Below w.heap.size w w' := by
  have cK := fun W (hW : Below w.heap.size w W) => exprFault_any t ao cap W (h.keep hW).A h.n1 h.n2 hn0 (h.keep hW).X.tabs
  have cW := fun W (hW : Below w.heap.size w W) => rowFault_any row aor capr cs aoc capc W h.v1 h.v2 (h.keep hW).V h.c1 h.c2 (h.keep hW).C (h.keep hW).X.tabs
  have hF := atT_fit t.deep t ao (Nat.le_refl _) h.A
  have cV := fun W (he : exprR t = 0) (hr : rowR row cs = 0) (hW : Below w.heap.size w W) => by
    obtain ⟨hok, hc0, hlen⟩ := rowR_ok row cs h.V.1 hr
    exact val_any t.deep t ao cap cs aoc capc row aor capr W (Nat.le_refl _) hF (exprR_form t he) (h.keep hW).A ⟨(h.keep hW).C, (h.keep hW).V, hc0, Nat.le_trans h.c1 h.c2, hlen, hok⟩
  have hR : evalR t cs row = if exprR t ≠ 0 then badE (exprR t) else if rowR row cs ≠ 0 then badE (rowR row cs) else evT cs row t := rfl
  generalize evalR t cs row = R at *
  generalize evT cs row t = Q at *
  unfold RekOk at cV
  generalize rowR row cs = rf at *
  generalize exprR t = ef at *
  have h1 : ef ≠ 0 → R = badE ef := fun h => by rw [hR, if_pos h]
  have h2 : ef = 0 → rf ≠ 0 → R = badE rf := fun h h' => by rw [hR, if_neg (by rw [h]; decide), if_pos h']
  have h3 : ef = 0 → rf = 0 → R = Q := fun h h' => by rw [hR, if_neg (by rw [h]; decide), if_neg (by rw [h']; decide)]
  have H1 := Lib.hid h1
  have H2 := Lib.hid h2
  have H3 := Lib.hid h3
  have HV := Lib.hid cV
  clear hR h1 h2 h3 h hF cV
  simp only [exprV_cells] at cK HV ⊢
  generalize t.kids.length = L at *
  obtain ⟨⟨op, k, i, b, s, nm⟩, l⟩ := t
  simp only [T.nd] at *
  generalize str s = S at *
  generalize str nm = N at *
  generalize cs.length = m at *
  generalize row.length = mr at *
  obtain ⟨z0, z1, hb2⟩ := two_new w #[.int .i64 op, .int .i64 k, .int .i64 i, .int .u64 b, .string S, .string N, .slice ao L cap] #[.int .i64 0, .int .i64 0, .int .u64 0, .string ⟨#[]⟩] 27 24
  generalize hw2 : (w.alloc (.cells #[.int .i64 op, .int .i64 k, .int .i64 i, .int .u64 b, .string S, .string N, .slice ao L cap] 27)).alloc (.cells #[.int .i64 0, .int .i64 0, .int .u64 0, .string ⟨#[]⟩] 24) = w2 at z0 z1 hb2
  have c1 := cK w2 hb2
  obtain ⟨p0, p1, p2, p3, p4, p5, p6⟩ := z0.cells7
  go_enter Tryz.func6, Tryz.ntmps6
  go_upto_region 1 with fail
  try rw [hw2]
  clear hw2
  go_wp2_with fail
  refine c1.mono ?_
  rintro e w3 ⟨rfl, hb3⟩
  have hb03 := below_stepE hb2 hb2.size hb3
  have y0 := z0.call hb3
  have y1 := z1.call hb3
  clear c1 cK hb3 hb2 z0 z1 p0 p1 p2 p3 p4 p5 p6
  by_cases he : ef = 0
  · subst he
    have c2 := cW w3 hb03
    go_wp2_with fail
    refine c2.mono ?_
    rintro e w4 ⟨rfl, hb4⟩
    have hb04 := below_stepE hb03 hb03.size hb4
    have x0 := y0.call hb4
    have x1 := y1.call hb4
    clear c2 cW hb4 hb03 y0 y1
    by_cases hr : rf = 0
    · subst hr
      have hR := H3.out (by trivial) (by trivial)
      have cV := HV.out w4 (by trivial) (by trivial) hb04
      clear H1 H2 H3 HV
      subst hR
      obtain ⟨⟨qk, qi, qb, qs⟩, qf⟩ := R
      unfold valV at cV
      simp only at cV
      obtain ⟨QS, hQS⟩ : ∃ QS, str qs = QS := ⟨_, rfl⟩
      simp only [hQS] at cV
      have HQS := Lib.hid hQS
      clear hQS
      obtain ⟨p0, p1, p2, p3, p4, p5, p6⟩ := x0.cells7
      go_wp2_with fail
      refine cV.mono ?_
      rintro e w5 ⟨rfl, hb5⟩
      have hb05 := below_stepE hb04 hb04.size hb5
      have v1 := x1.call hb5
      clear cV hb5 hb04 x0 x1 p0 p1 p2 p3 p4 p5 p6
      obtain ⟨⟨q0, q1, q2, q3⟩, f0, f1, f2, f3⟩ := v1.four
      go_wp2_with fail
      exact bodyPost_ret (results_val rfl _ _ (w.heap.size + 1) _ _ _ _ rfl v1.set4) rfl ⟨by rw [← HQS.out]; rfl, below_set4 hb05 (Nat.le_succ _)⟩
    · have hr1 : (rf != 0) = true := by simpa using hr
      have hR := H2.out (by trivial) hr
      have HR := Lib.hid hR
      clear H1 H2 H3 HV hR hr
      obtain ⟨⟨q0, q1, q2, q3⟩, f0, f1, f2, f3⟩ := x1.four
      go_wp2_with fail
      exact bodyPost_ret (results_val rfl _ _ (w.heap.size + 1) _ _ _ _ rfl x1.set4) rfl ⟨by rw [HR.out]; rfl, below_set4 hb04 (Nat.le_succ _)⟩
  · have he1 : (ef != 0) = true := by simpa using he
    have hR := H1.out he
    have HR := Lib.hid hR
    clear H1 H2 H3 HV cW hR he
    obtain ⟨⟨q0, q1, q2, q3⟩, f0, f1, f2, f3⟩ := y1.four
    go_wp2_with fail
    exact bodyPost_ret (results_val rfl _ _ (w.heap.size + 1) _ _ _ _ rfl y1.set4) rfl ⟨by rw [HR.out]; rfl, below_set4 hb03 (Nat.le_succ _)⟩
set_option maxHeartbeats 16000000 in
theorem evalEvals_walk (t : T) (ao : Option Addr) (cap : Nat) (cs : List Cl) (aoc : Option Addr) (capc : Nat) (row : List Vl) (aor : Option Addr) (capr : Nat) (w : World) (hX : XEnv w) (n1 : t.kids.length ≤ cap) (hm : cap ≤ 9223372036854775807 ∧ (ao = none → cap = 0)) (hA : AtT w t ao)
    (c1 : cs.length ≤ capc) (c2 : capc ≤ 9223372036854775807) (hC : Cols w aoc cs) (v1 : row.length ≤ capr) (v2 : capr ≤ 9223372036854775807) (hV : Vals w aor row) :
    Calls Tryz.prog 3 #[exprV t ao cap, .slice aoc cs.length capc, .slice aor row.length capr] w fun e w' => e = .returned (.bool true) ∧ Below w.heap.size w w' := by
  obtain ⟨n2, n3⟩ := hm
  have h : EvIn w t ao cap cs aoc capc row aor capr := ⟨hA, n1, n2, hC, c1, c2, hV, v1, v2, hX⟩
  have cE := fun W (hW : Below w.heap.size w W) => eval_any t ao cap cs aoc capc row aor capr W (h.keep hW)
  have cR := fun W (hW : Below w.heap.size w W) => valueOf_ref t ao cap n3 cs aoc capc row aor capr W (h.keep hW)
  generalize evalR t cs row = R at *
  clear h hX hA hC hV
  obtain ⟨⟨qk, qi, qb, qs⟩, qf⟩ := R
  unfold valV at cE cR
  simp only at cE cR
  generalize str qs = QS at *
  simp only [exprV_cells] at cE cR ⊢
  generalize t.kids.length = L at *
  obtain ⟨⟨op, k, i, b, s, nm⟩, l⟩ := t
  simp only [T.nd] at *
  generalize str s = S at *
  generalize str nm = N at *
  generalize cs.length = m at *
  generalize row.length = mr at *
  have z0 : Blk _ _ _ [_, _, _, _, _, _, _] := Blk.new w #[.int .i64 op, .int .i64 k, .int .i64 i, .int .u64 b, .string S, .string N, .slice ao L cap] 27
  have hb1 := (Below.refl w.heap.size w).alloc (Nat.le_refl _) (.cells #[.int .i64 op, .int .i64 k, .int .i64 i, .int .u64 b, .string S, .string N, .slice ao L cap] 27)
  generalize hw1 : w.alloc (.cells #[.int .i64 op, .int .i64 k, .int .i64 i, .int .u64 b, .string S, .string N, .slice ao L cap] 27) = w1 at z0 hb1
  have cc := cE w1 hb1
  obtain ⟨p0, p1, p2, p3, p4, p5, p6⟩ := z0.cells7
  go_enter Tryz.func3, Tryz.ntmps3
  go_upto_region 1 with fail
  try rw [hw1]
  clear hw1
  go_wp2_with fail
  refine cc.mono ?_
  rintro e w2 ⟨rfl, hb2⟩
  have y0 := z0.call hb2
  have hb02 := below_stepE hb1 hb1.size hb2
  have zV := Blk.new w2 #[.int .i64 qk, .int .i64 qi, .int .u64 qb, .string QS] 24
  have hbV := (Below.refl w2.heap.size w2).alloc (Nat.le_refl _) (.cells #[.int .i64 qk, .int .i64 qi, .int .u64 qb, .string QS] 24)
  have y1 := y0.call hbV
  have hb03 := below_stepE hb02 hb02.size hbV
  clear cc cE z0 hb1 hb2 hb02 y0 p0 p1 p2 p3 p4 p5 p6
  go_upto_region 2 with fail
  generalize hw3 : w2.alloc (.cells #[.int .i64 qk, .int .i64 qi, .int .u64 qb, .string QS] 24) = w3 at *
  clear hw3 hbV
  generalize w2.heap.size = g2 at *
  have cc := cR w3 hb03
  obtain ⟨p0, p1, p2, p3, p4, p5, p6⟩ := y1.cells7
  clear cR
  go_wp2_with fail
  refine cc.mono ?_
  rintro e w4 ⟨rfl, hb4⟩
  have x1 := zV.call hb4
  have hb04 := below_stepE hb03 hb03.size hb4
  have zW := Blk.new w4 #[.int .i64 qk, .int .i64 qi, .int .u64 qb, .string QS] 24
  have hbV := (Below.refl w4.heap.size w4).alloc (Nat.le_refl _) (.cells #[.int .i64 qk, .int .i64 qi, .int .u64 qb, .string QS] 24)
  have x2 := x1.call hbV
  have hb05 := below_stepE hb04 hb04.size hbV
  clear cc zV hb4 hb03 y1 p0 p1 p2 p3 p4 p5 p6 x1 hb04
  go_upto_region 3 with fail
  generalize hw5 : w4.alloc (.cells #[.int .i64 qk, .int .i64 qi, .int .u64 qb, .string QS] 24) = w5 at *
  clear hw5 hbV
  generalize w4.heap.size = g4 at *
  obtain ⟨⟨q0, q1, q2, q3⟩, _⟩ := x2.four
  obtain ⟨⟨r0, r1, r2, r3⟩, _⟩ := zW.four
  go_wp2_with fail
  go_ret
  exact ⟨by simp, hb05⟩
end Go.Proofs.YtcccnpcejfmfcaaGreatDoor
namespace Go.Proofs.YtcccnpcejfmfcaaGreatDoor
open Go.RowKit
set_option linter.unusedVariables false
set_option maxRecDepth 100000

theorem litV_cells (k i b : Int) (s : List UInt8) : exprV (litV ⟨k, i, b, s⟩) none 0 = .agg #[.int .i64 1, .int .i64 k, .int .i64 i, .int .u64 b, .string (str s), .string ⟨#[]⟩, .slice none 0 0] := rfl
set_option maxHeartbeats 4000000 in
theorem literalOf_any (v : Vl) (hl : v.s.length ≤ 1000000) (w : World) :
    Calls Tryz.prog 32 #[valV v] w fun e w' => e = .returned (exprV (litV v) none 0) ∧ Below w.heap.size w w' := by
  obtain ⟨k, i, b, s⟩ := v
  have cC := fun W => copied_any ⟨k, i, b, s⟩ hl W
  rw [litV_cells]
  unfold valV at cC ⊢
  simp only at cC ⊢
  generalize str s = S at *
  obtain ⟨z0, z1, hb2⟩ := two_new w #[.int .i64 k, .int .i64 i, .int .u64 b, .string S] #[.int .i64 0, .int .i64 0, .int .i64 0, .int .u64 0, .string ⟨#[]⟩, .string ⟨#[]⟩, .slice none 0 0] 24 27
  generalize hw2 : (w.alloc (.cells #[.int .i64 k, .int .i64 i, .int .u64 b, .string S] 24)).alloc (.cells #[.int .i64 0, .int .i64 0, .int .i64 0, .int .u64 0, .string ⟨#[]⟩, .string ⟨#[]⟩, .slice none 0 0] 27) = w2 at z0 z1 hb2
  obtain ⟨⟨p0, p1, p2, p3⟩, _⟩ := z0.four
  clear hl
  go_enter Tryz.func32, Tryz.ntmps32
  go_upto_region 1 with fail
  try rw [hw2]
  clear hw2
  go_wp2_with fail
  refine (cC _).mono ?_
  rintro e w3 ⟨rfl, hb3⟩
  have y1 := z1.call hb3
  have hb03 := below_stepE hb2 hb2.size hb3
  clear cC hb3 z0 z1 hb2 p0 p1 p2 p3
  obtain ⟨r0, r1, r2, r3, r4, r5, r6⟩ := y1.cells7
  have f0 := y1.free 0
  have f1 := y1.free 1
  have f2 := y1.free 2
  have f3 := y1.free 3
  have f4 := y1.free 4
  have f5 := y1.free 5
  have f6 := y1.free 6
  have hfin := fun a0 a1 a2 a3 a4 a5 a6 => below_set7 (a0 := a0) (a1 := a1) (a2 := a2) (a3 := a3) (a4 := a4) (a5 := a5) (a6 := a6) hb03 (Nat.le_succ w.heap.size)
  go_wp2_with fail
  exact bodyPost_ret (results_expr rfl _ _ (w.heap.size + 1) _ _ _ _ _ _ _ rfl y1.set7) rfl ⟨rfl, hfin _ _ _ _ _ _ _⟩
/-- What a question for the parts answers: a new row of them. -/
def PartsOk (vs : List Value) (n : Nat) (w : World) (e : Ending) (w' : World) : Prop := ∃ g, e = .returned (.slice (some ⟨g, 0, none⟩) n n) ∧ Hid (∃ T, Blk w' g T vs) ∧ Below w.heap.size w w'
set_option maxHeartbeats 4000000 in
theorem parts1_any (ty : TypeId) (rv : Value) (w : World) : Calls Tryz.prog 101 #[.agg #[.iface ty rv]] w (PartsOk [.iface ty rv] 1 w) := by
  unfold PartsOk
  obtain ⟨z0, z1, hb2⟩ := two_new w #[.iface ty rv] #[.iface ty rv] 57 41
  go_enter Tryz.func101, Tryz.ntmps101
  go_wp2_with fail
  go_ret
  exact ⟨_, rfl, Lib.hid ⟨_, z1⟩, hb2⟩
set_option maxHeartbeats 4000000 in
theorem parts2_any (ty : TypeId) (rv : Value) (ty' : TypeId) (rv' : Value) (w : World) : Calls Tryz.prog 102 #[.agg #[.iface ty rv, .iface ty' rv']] w (PartsOk [.iface ty rv, .iface ty' rv'] 2 w) := by
  unfold PartsOk
  obtain ⟨z0, z1, hb2⟩ := two_new w #[.iface ty rv, .iface ty' rv'] #[.iface ty rv, .iface ty' rv'] 60 41
  go_enter Tryz.func102, Tryz.ntmps102
  go_wp2_with fail
  go_ret
  exact ⟨_, rfl, Lib.hid ⟨_, z1⟩, hb2⟩
/-- What may be asked of an operation made ready: its parts; it is neither a literal nor a column. -/
def Operat (iv : Value) (vs : List Value) : Prop :=
  ∃ (ty : TypeId) (rv : Value) (K : FuncId), iv = .iface ty rv ∧ (∀ w : World, (nilAhead 284 ty rv "chirograph/eval.parts").run Tryz.prog w = .ok (some false) w) ∧ (∀ w : World, (method 284 ty rv "chirograph/eval.parts").run Tryz.prog w = .ok (K, rv) w) ∧
  (∀ w : World, (callFunc K #[rv]).run Tryz.prog w = .ok (.enter K #[rv]) w) ∧
  (∀ W, Calls Tryz.prog K #[rv] W (PartsOk vs vs.length W)) ∧
  (∀ W, (Instr.typeAssert (.iface ty rv) 41 64 true).run Tryz.prog W = .ok (.tuple #[.agg #[.int .i64 0, .int .i64 0, .int .u64 0, .string ⟨#[]⟩], .bool false]) W) ∧
  (∀ W, (Instr.typeAssert (.iface ty rv) 41 62 true).run Tryz.prog W = .ok (.tuple #[.agg #[.string ⟨#[]⟩], .bool false]) W) ∧
  (∀ W, (Instr.typeAssert (.iface ty rv) 41 54 true).run Tryz.prog W = .ok (.tuple #[.iface ty rv, .bool true]) W)
theorem operat_one (op : Int) (ty : TypeId) (rv : Value) (ho : op = 3 ∨ op = 4 ∨ op = 17 ∨ op = 18) : Operat (.iface (tyE op) (.agg #[.iface ty rv])) [.iface ty rv] := by
  rcases ho with rfl | rfl | rfl | rfl <;>
  exact ⟨_, _, 101, rfl, fun _ => rfl, fun _ => rfl, fun _ => rfl, fun W => parts1_any ty rv W, fun W => by kernel_rfl, fun W => by kernel_rfl, fun W => run_typeAssert_hasB Tryz.underlying54 (by kernel_rfl) _ _ W⟩
theorem operat_two (op : Int) (ty : TypeId) (rv : Value) (ty' : TypeId) (rv' : Value) (ho : op = 5 ∨ op = 6 ∨ op = 7 ∨ op = 8 ∨ op = 9 ∨ op = 10 ∨ op = 11 ∨ op = 12 ∨ op = 13 ∨ op = 14 ∨ op = 15 ∨ op = 16 ∨ op = 19 ∨ op = 20) : Operat (.iface (tyE op) (.agg #[.iface ty rv, .iface ty' rv'])) [.iface ty rv, .iface ty' rv'] := by
  rcases ho with rfl | rfl | rfl | rfl | rfl | rfl | rfl | rfl | rfl | rfl | rfl | rfl | rfl | rfl <;>
  exact ⟨_, _, 102, rfl, fun _ => rfl, fun _ => rfl, fun _ => rfl, fun W => parts2_any ty rv ty' rv' W, fun W => by kernel_rfl, fun W => by kernel_rfl, fun W => run_typeAssert_hasB Tryz.underlying54 (by kernel_rfl) _ _ W⟩
theorem operat_of (d : Nd) (l : List T) (h3 : 3 ≤ d.op) (hf : nodeF d l.length = 0) : Operat (readyV (.mk d l)) (readyL l) := by
  obtain ⟨⟨o1, o2⟩, hp, _, _⟩ := nodeF_open d _ hf
  unfold partsN at hp
  rw [if_neg (by omega)] at hp
  by_cases ho : d.op = 3 ∨ d.op = 4 ∨ d.op = 17 ∨ d.op = 18
  · rw [if_pos ho] at hp
    match l, hp with
    | [a], _ =>
      rw [ready_one d a h3]
      simp only [readyL]
      obtain ⟨ty, rv, e⟩ := ready_iface a
      rw [e]
      exact operat_one d.op ty rv ho
  · rw [if_neg ho] at hp
    match l, hp with
    | [a, b], _ =>
      rw [ready_two d a b h3]
      simp only [readyL]
      obtain ⟨ty, rv, e⟩ := ready_iface a
      obtain ⟨ty', rv', e'⟩ := ready_iface b
      rw [e, e']
      exact operat_two d.op ty rv ty' rv' (by omega)
theorem readyL_length : ∀ l : List T, (readyL l).length = l.length
  | [] => by simp [readyL]
  | t :: l => by simp only [readyL, List.length_cons]; rw [readyL_length l]
theorem readyL_at : ∀ (l : List T) (j : Nat) (t : T), l[j]? = some t → (readyL l)[j]? = some (readyV t)
  | [], j, t, h => by simp at h
  | u :: l, 0, t, h => by simp at h; subst h; simp [readyL]
  | u :: l, j + 1, t, h => by simp only [readyL, List.getElem?_cons_succ]; exact readyL_at l j t (by simpa using h)
/-- Whether a part is a literal. -/
theorem lit_assert (t : T) (hf : formT t = 0) : ∃ (ty : TypeId) (rv : Value) (a b c : Int) (s : ByteArray), readyV t = .iface ty rv ∧ ∀ W, (Instr.typeAssert (.iface ty rv) 41 64 true).run Tryz.prog W = .ok (.tuple #[.agg #[.int .i64 a, .int .i64 b, .int .u64 c, .string s], .bool (t.nd.op == 1)]) W := by
  obtain ⟨d, l⟩ := t
  obtain ⟨hn, _⟩ := formT_open d l hf
  obtain ⟨⟨o1, o2⟩, _⟩ := nodeF_open d _ hn
  by_cases h1 : d.op = 1
  · have e : ((T.mk d l).nd.op == 1) = true := by show (d.op == 1) = true; simp [h1]
    rw [e]
    exact ⟨_, _, d.k, d.i, d.b, str d.t, ready_lit d l h1, fun W => by kernel_rfl⟩
  · have e : ((T.mk d l).nd.op == 1) = false := by show (d.op == 1) = false; simpa using h1
    rw [e]
    by_cases h2 : d.op = 2
    · exact ⟨_, _, 0, 0, 0, ⟨#[]⟩, ready_col d l h2, fun W => by kernel_rfl⟩
    · obtain ⟨ty, rv, K, e1, _, _, _, _, e2, _⟩ := operat_of d l (by omega) hn
      exact ⟨ty, rv, 0, 0, 0, ⟨#[]⟩, e1, e2⟩
theorem lits_true {l : List T} (h : ∀ (j : Nat) (t : T), l[j]? = some t → t.nd.op = 1) : litsL l = true := by
  unfold litsL
  rw [List.all_eq_true]
  intro t ht
  obtain ⟨j, hj⟩ := List.getElem?_of_mem ht
  simp [h j t hj]
theorem lits_false {l : List T} {j : Nat} {t : T} (ht : l[j]? = some t) (h : (t.nd.op == 1) = false) : litsL l = false := by
  cases hc : litsL l with
  | false => rfl
  | true =>
    unfold litsL at hc
    rw [List.all_eq_true] at hc
    have := hc t (List.mem_of_getElem? ht)
    rw [h] at this; cases this
def foreR (l : List T) (R : RE) : Value := .tuple #[valV (if litsL l = true then R.v else nulV), .bool (litsL l && ((R.f == 0) && decide (0 ≤ R.v.i)))]
set_option maxHeartbeats 8000000 in
theorem foreseen_any (iv : Value) (l : List T) (R : RE) (w : World) (hO : Operat iv (readyL l)) (hl : ∀ t ∈ l, formT t = 0) (hl2 : l.length ≤ 1000) (hS : Says w (.slice none 0 0) (.slice none 0 0) iv R) (hR : OkR R) :
    Calls Tryz.prog 33 #[iv] w fun e w' => e = .returned (foreR l R) ∧ Below w.heap.size w w' := by
  obtain ⟨ty, rv, K, rfl, n1, n2, n3, nC, _⟩ := hO
  obtain ⟨ty', rv', K', e', s1, s2, s3, sC⟩ := hS
  obtain ⟨rfl, rfl⟩ : ty' = ty ∧ rv' = rv := by simp at e'; exact ⟨e'.1.symm, e'.2.symm⟩
  rw [readyL_length] at nC
  unfold PartsOk at nC
  have hat : ∀ (j : Nat) (t : T), l[j]? = some t → (readyL l)[j]? = some (readyV t) ∧ formT t = 0 := fun j t h => ⟨readyL_at l j t h, hl t (List.mem_of_getElem? h)⟩
  have hlt : (∀ (j : Nat) (t : T), l[j]? = some t → t.nd.op = 1) → foreR l R = .tuple #[valV R.v, .bool ((R.f == 0) && decide (0 ≤ R.v.i))] := fun h => by
    unfold foreR; rw [lits_true h]; simp
  have hlf : ∀ (j : Nat) (t : T), l[j]? = some t → (t.nd.op == 1) = false → foreR l R = .tuple #[.agg #[.int .i64 0, .int .i64 0, .int .u64 0, .string ⟨#[]⟩], .bool false] := fun j t h1 h2 => by
    unfold foreR; rw [lits_false h1 h2]; rfl
  obtain ⟨n, hn⟩ : ∃ n, l.length = n := ⟨_, rfl⟩
  have hget : ∀ j, j < n → ∃ t, l[j]? = some t := fun j hj => ⟨l[j]'(by omega), List.getElem?_eq_getElem (by omega)⟩
  have hlen : ∀ (j : Nat) (t : T), l[j]? = some t → j < n := fun j t h => by have := (List.getElem?_eq_some_iff.1 h).1; omega
  rw [hn] at nC hl2
  generalize readyL l = vs at *
  generalize foreR l R = RR at *
  have HAT := Lib.hid hat
  have HLT := Lib.hid hlt
  have HLF := Lib.hid hlf
  have HGET := Lib.hid hget
  have HLEN := Lib.hid hlen
  have HNC := Lib.hid nC
  have HSC := Lib.hid sC
  have hz := Blk.new w #[.int .i64 0, .int .i64 0, .int .u64 0, .string ⟨#[]⟩] 24
  have hb1 := (Below.refl w.heap.size w).alloc (Nat.le_refl _) (.cells #[.int .i64 0, .int .i64 0, .int .u64 0, .string ⟨#[]⟩] 24)
  generalize hw1 : w.alloc (.cells #[.int .i64 0, .int .i64 0, .int .u64 0, .string ⟨#[]⟩] 24) = w1 at hz hb1
  have HRE := Lib.hid (And.intro hR.bad (And.intro hR.f0 hR.f1))
  obtain ⟨⟨rk, ri, rb, rs⟩, rf⟩ := R
  unfold valV at HSC HLT
  simp only at HSC HLT
  obtain ⟨RS, hRS⟩ : ∃ RS, str rs = RS := ⟨_, rfl⟩
  simp only [hRS] at HSC HLT
  clear hat hlt hlf hget hlen nC sC hl hn e' hR hRS HRE
  go_enter Tryz.func33, Tryz.ntmps33
  go_upto_region 1 with fail
  try rw [hw1]
  clear hw1
  go_wp2_with fail
  refine (HNC.out _).mono ?_
  rintro e w2 ⟨gp, rfl, ⟨TP, hzp0⟩, hb2⟩
  have hzp := Lib.hid hzp0
  clear hzp0
  have y0 := hz.call hb2
  have hb02 := below_stepE hb1 hb1.size hb2
  clear hz hb1 hb2 HNC n1 n2 n3
  go_wp2_with fail
  go_loopw [12] (fun i wr => ∃ (j : Nat), j ≤ n ∧ i = .int .i64 j ∧ Hid (∀ (q : Nat) (t : T), l[q]? = some t → q < j → t.nd.op = 1) ∧ Hid (Blk wr w.heap.size 24 [.int .i64 0, .int .i64 0, .int .u64 0, .string ⟨#[]⟩]) ∧ Hid (Blk wr gp TP vs) ∧ Hid (Below w.heap.size w wr)) (fun i _ => n - (intOf i).toNat)
  case atStart => exact ⟨0, Nat.zero_le _, rfl, Lib.hid (fun q t _ h => absurd h (Nat.not_lt_zero q)), Lib.hid y0, hzp, Lib.hid hb02⟩
  case round =>
    obtain ⟨j, hj, rfl, hdone, hz0, hzv, hbw⟩ := hrel
    clear y0 hb02 hzp
    by_cases hlt : j < n
    · have iI : (j : Int) < (n : Int) := by omega
      obtain ⟨t, htj⟩ := HGET.out j hlt
      obtain ⟨hvj, hft⟩ := HAT.out j t htj
      obtain ⟨ty2, rv2, a, b, c, s, hrd, hasr⟩ := lit_assert t hft
      rw [hrd] at hvj
      have p0 := hzv.out.cell hvj
      have hgl := hzv.out.lt
      have HTJ := Lib.hid htj
      obtain ⟨q, hq⟩ : ∃ q, (t.nd.op == 1) = q := ⟨_, rfl⟩
      rw [hq] at hasr
      have HQ := Lib.hid hq
      have yb := hbw.out.alloc hbw.out.size (.cells #[.int .i64 a, .int .i64 b, .int .u64 c, .string s] 64)
      have y0 := hz0.out.alloc (.cells #[.int .i64 a, .int .i64 b, .int .u64 c, .string s] 64)
      have yv := hzv.out.alloc (.cells #[.int .i64 a, .int .i64 b, .int .u64 c, .string s] 64)
      clear hvj hft hrd htj hq
      cases q
      · have hR := HLF.out j t HTJ.out HQ.out
        go_upto_region 5 with fail
        generalize hwa : wr.alloc (.cells #[.int .i64 a, .int .i64 b, .int .u64 c, .string s] 64) = wa at *
        clear hwa p0 hasr hz0 hzv hbw
        obtain ⟨⟨r0, r1, r2, r3⟩, f0, f1, f2, f3⟩ := y0.four
        have hfin := fun a b c d => below_set4 (a := a) (b := b) (c := c) (d := d) yb (Nat.le_refl _)
        go_wp2_with fail
        exact bodyPost_ret (results_val rfl _ _ w.heap.size _ _ _ _ rfl y0.set4) rfl ⟨by rw [hR]; rfl, hfin _ _ _ _⟩
      · have hd2 : ∀ (q : Nat) (t : T), l[q]? = some t → q < j + 1 → t.nd.op = 1 := fun q u hu hqj => by
          by_cases e : q = j
          · subst e
            have := HTJ.out
            rw [this] at hu
            obtain rfl := Option.some.inj hu
            simpa using HQ.out
          · exact hdone.out q u hu (by omega)
        have HD2 := Lib.hid hd2
        clear hd2 hdone
        go_upto_region 5 with fail
        generalize hwa : wr.alloc (.cells #[.int .i64 a, .int .i64 b, .int .u64 c, .string s] 64) = wa at *
        clear hwa p0 hasr hz0 hzv hbw
        have Y0 := Lib.hid y0
        have YV := Lib.hid yv
        have YB := Lib.hid yb
        clear y0 yv yb
        go_wp2_with fail
        go_roundw
        case rel => exact ⟨j + 1, by omega, by go_num, HD2, Y0, YV, YB⟩
        case measure => simp [intOf]; omega
    · have iI : ¬ (j : Int) < (n : Int) := by omega
      have hR := HLT.out (fun q t hq => hdone.out q t hq (by have := HLEN.out q t hq; omega))
      have cS := HSC.out wr hbw.out
      have HR := Lib.hid hR
      clear hR hdone HSC HLT HLF
      go_wp2_with fail
      refine cS.mono ?_
      rintro e w5 ⟨rfl, hb5⟩
      have y5 := hz0.out.call hb5
      have hb05 := below_stepE hbw.out hbw.out.size hb5
      clear cS hb5 hz0 hzv hbw
      have y6 := y5.set4 (a := .int .i64 rk) (b := .int .i64 ri) (c := .int .u64 rb) (d := .string RS)
      have hb06 := below_set4 (a := .int .i64 rk) (b := .int .i64 ri) (c := .int .u64 rb) (d := .string RS) hb05 (Nat.le_refl _)
      obtain ⟨⟨r0, r1, r2, r3⟩, f0, f1, f2, f3⟩ := y5.four
      go_upto_region 9 with fail
      generalize hw6 : (((w5.setCell ⟨w.heap.size, 0, none⟩ (.int .i64 rk)).setCell ⟨w.heap.size, 1, none⟩ (.int .i64 ri)).setCell ⟨w.heap.size, 2, none⟩ (.int .u64 rb)).setCell ⟨w.heap.size, 3, none⟩ (.string RS) = w6 at *
      clear hw6 r0 r1 r2 r3 f0 f1 f2 f3 y5 hb05
      obtain ⟨⟨r0, r1, r2, r3⟩, f0, f1, f2, f3⟩ := y6.four
      have hfin := fun a b c d => below_set4 (a := a) (b := b) (c := c) (d := d) hb06 (Nat.le_refl _)
      by_cases h0 : rf = 0
      · have b0 : (rf == 0) = true := by simpa using h0
        rw [b0, Bool.true_and] at HR
        go_wp2_with fail
        exact bodyPost_ret (results_val rfl _ _ w.heap.size _ _ _ _ rfl y6.set4) rfl ⟨by rw [HR.out]; rfl, hfin _ _ _ _⟩
      · have b0 : (rf == 0) = false := by simpa using h0
        rw [b0, Bool.false_and] at HR
        go_wp2_with fail
        exact bodyPost_ret (results_val rfl _ _ w.heap.size _ _ _ _ rfl y6.set4) rfl ⟨by rw [HR.out]; rfl, hfin _ _ _ _⟩
end Go.Proofs.YtcccnpcejfmfcaaGreatDoor
namespace Go.Proofs.YtcccnpcejfmfcaaGreatDoor
open Go.RowKit
set_option linter.unusedVariables false
set_option maxRecDepth 100000

/-- An expression by value, with where its parts lie. -/
structure FE where
  t : T
  ao : Option Addr
  cap : Nat
def cellsFE1 (x : FE) : List Value := xcells x.t x.ao x.cap
def cellsFE (l : List FE) : List Value := l.flatMap cellsFE1
def zeroFE1 : List Value := [.int .i64 0, .int .i64 0, .int .i64 0, .int .u64 0, .string ⟨#[]⟩, .string ⟨#[]⟩, .slice none 0 0]
def zeroFE : Nat → List Value
  | 0 => []
  | n + 1 => zeroFE1 ++ zeroFE n
theorem cellsFE_length : ∀ l : List FE, (cellsFE l).length = l.length * 7
  | [] => rfl
  | x :: l => by
    have := cellsFE_length l
    simp only [cellsFE, List.flatMap_cons, List.length_append, List.length_cons] at this ⊢
    have h7 : (cellsFE1 x).length = 7 := rfl
    omega
theorem cellsFE_snoc (l : List FE) (x : FE) : cellsFE (l ++ [x]) = cellsFE l ++ xcells x.t x.ao x.cap := by
  unfold cellsFE; rw [List.flatMap_append]; simp [cellsFE1]
theorem Blk.setAt {W : World} {g : Nat} {T : TypeId} {pre post : List Value} {b : Value} {p : Nat} (h : Blk W g T (pre ++ b :: post)) (hp : pre.length = p) (a : Value) : Blk (W.setCell ⟨g, p, none⟩ a) g T ((pre ++ [a]) ++ post) := by
  have := h.set p a
  rw [List.set_append_right _ _ (by omega), show p - pre.length = 0 by omega] at this
  simpa using this
theorem Blk.put7 {W : World} {g : Nat} {T : TypeId} {pre post : List Value} {b0 b1 b2 b3 b4 b5 b6 : Value} {p : Nat} (h : Blk W g T (pre ++ ([b0, b1, b2, b3, b4, b5, b6] ++ post))) (hp : pre.length = p) (a0 a1 a2 a3 a4 a5 a6 : Value) :
    Blk (((((((W.setCell ⟨g, p, none⟩ a0).setCell ⟨g, p + 1, none⟩ a1).setCell ⟨g, p + 2, none⟩ a2).setCell ⟨g, p + 3, none⟩ a3).setCell ⟨g, p + 4, none⟩ a4).setCell ⟨g, p + 5, none⟩ a5).setCell ⟨g, p + 6, none⟩ a6) g T ((pre ++ [a0, a1, a2, a3, a4, a5, a6]) ++ post) := by
  have h0 := (show Blk W g T (pre ++ b0 :: ([b1, b2, b3, b4, b5, b6] ++ post)) from h).setAt hp a0
  have h1 := (show Blk _ g T ((pre ++ [a0]) ++ b1 :: ([b2, b3, b4, b5, b6] ++ post)) from h0).setAt (p := p + 1) (by simp [hp]) a1
  have h2 := (show Blk _ g T (((pre ++ [a0]) ++ [a1]) ++ b2 :: ([b3, b4, b5, b6] ++ post)) from h1).setAt (p := p + 2) (by simp [hp]) a2
  have h3 := (show Blk _ g T ((((pre ++ [a0]) ++ [a1]) ++ [a2]) ++ b3 :: ([b4, b5, b6] ++ post)) from h2).setAt (p := p + 3) (by simp [hp]) a3
  have h4 := (show Blk _ g T (((((pre ++ [a0]) ++ [a1]) ++ [a2]) ++ [a3]) ++ b4 :: ([b5, b6] ++ post)) from h3).setAt (p := p + 4) (by simp [hp]) a4
  have h5 := (show Blk _ g T ((((((pre ++ [a0]) ++ [a1]) ++ [a2]) ++ [a3]) ++ [a4]) ++ b5 :: ([b6] ++ post)) from h4).setAt (p := p + 5) (by simp [hp]) a5
  have h6 := (show Blk _ g T (((((((pre ++ [a0]) ++ [a1]) ++ [a2]) ++ [a3]) ++ [a4]) ++ [a5]) ++ b6 :: post) from h5).setAt (p := p + 6) (by simp [hp]) a6
  simpa using h6
theorem Blk.others7p {W : World} {g q p : Nat} {T : TypeId} {cs : List Value} {a0 a1 a2 a3 a4 a5 a6 : Value} (h : Blk W q T cs) (hne : q ≠ g) : Blk (((((((W.setCell ⟨g, p, none⟩ a0).setCell ⟨g, p + 1, none⟩ a1).setCell ⟨g, p + 2, none⟩ a2).setCell ⟨g, p + 3, none⟩ a3).setCell ⟨g, p + 4, none⟩ a4).setCell ⟨g, p + 5, none⟩ a5).setCell ⟨g, p + 6, none⟩ a6) q T cs :=
  ((((((h.other ⟨g, p, none⟩ a0 hne).other ⟨g, p + 1, none⟩ a1 hne).other ⟨g, p + 2, none⟩ a2 hne).other ⟨g, p + 3, none⟩ a3 hne).other ⟨g, p + 4, none⟩ a4 hne).other ⟨g, p + 5, none⟩ a5 hne).other ⟨g, p + 6, none⟩ a6 hne
theorem below_set7p {B : Nat} {w W : World} {g p : Nat} {a0 a1 a2 a3 a4 a5 a6 : Value} (h : Below B w W) (hg : B ≤ g) : Below B w (((((((W.setCell ⟨g, p, none⟩ a0).setCell ⟨g, p + 1, none⟩ a1).setCell ⟨g, p + 2, none⟩ a2).setCell ⟨g, p + 3, none⟩ a3).setCell ⟨g, p + 4, none⟩ a4).setCell ⟨g, p + 5, none⟩ a5).setCell ⟨g, p + 6, none⟩ a6) :=
  ((((((h.setCell (p := ⟨g, p, none⟩) hg a0).setCell (p := ⟨g, p + 1, none⟩) hg a1).setCell (p := ⟨g, p + 2, none⟩) hg a2).setCell (p := ⟨g, p + 3, none⟩) hg a3).setCell (p := ⟨g, p + 4, none⟩) hg a4).setCell (p := ⟨g, p + 5, none⟩) hg a5).setCell (p := ⟨g, p + 6, none⟩) hg a6
theorem XTb.set7p {b : Nat} {w : World} {t : T} {ao : Option Addr} {cap : Nat} (h : XTb b w t ao cap) {g p : Nat} (hg : g < b) {a0 a1 a2 a3 a4 a5 a6 : Value} : XTb b (((((((w.setCell ⟨g, p, none⟩ a0).setCell ⟨g, p + 1, none⟩ a1).setCell ⟨g, p + 2, none⟩ a2).setCell ⟨g, p + 3, none⟩ a3).setCell ⟨g, p + 4, none⟩ a4).setCell ⟨g, p + 5, none⟩ a5).setCell ⟨g, p + 6, none⟩ a6) t ao cap :=
  ((((((h.set ⟨g, p, none⟩ a0 hg).set ⟨g, p + 1, none⟩ a1 hg).set ⟨g, p + 2, none⟩ a2 hg).set ⟨g, p + 3, none⟩ a3 hg).set ⟨g, p + 4, none⟩ a4 hg).set ⟨g, p + 5, none⟩ a5 hg).set ⟨g, p + 6, none⟩ a6 hg
/-- A node over a row of parts. -/
theorem xt_row (d : Nd) (hd : FitN d) {W : World} {g : Nat} (es : List FE) (hg : ∀ x ∈ es, XT W x.t x.ao x.cap) (hl : es.length ≤ 1000000) (hB : Blk W g 27 (cellsFE es)) : XT W (.mk d (es.map FE.t)) (some ⟨g, 0, none⟩) es.length := by
  refine ⟨?_, by show (es.map FE.t).length ≤ _; rw [List.length_map]; exact Nat.le_refl _, by omega, fun h => by cases h⟩
  simp only [AtT]
  refine ⟨hd, atL_of rfl hB.lt _ 0 (fun i x hx => ?_)⟩
  rw [List.getElem?_map] at hx
  cases hy : es[i]? with
  | none => rw [hy] at hx; cases hx
  | some y =>
    rw [hy] at hx
    obtain rfl := Option.some.inj hx
    have hi := (List.getElem?_eq_some_iff.1 hy).1
    have he : es = es.take i ++ y :: es.drop (i + 1) := by
      rw [← (List.getElem?_eq_some_iff.1 hy).2, List.getElem_cons_drop, List.take_append_drop]
    have hc : cellsFE es = cellsFE (es.take i) ++ xcells y.t y.ao y.cap ++ cellsFE (es.drop (i + 1)) := by
      conv => lhs; rw [he]
      unfold cellsFE
      rw [List.flatMap_append, List.flatMap_cons, List.append_assoc]; rfl
    rw [hc] at hB
    rw [Nat.zero_add]
    exact node_of i hB (by rw [cellsFE_length, List.length_take]; rw [Nat.min_eq_left (by omega)]) (hg y (List.mem_of_getElem? hy))
/-- What folded leaves of a tree. -/
def FoldPost (u : T) (w : World) (e : Ending) (w' : World) : Prop := ∃ ao' cap', e = .returned (exprV u ao' cap') ∧ Hid (XTb w.heap.size w' u ao' cap') ∧ Below w.heap.size w w'
def FoldOk (n : Nat) : Prop := ∀ (t : T) (ao : Option Addr) (cap : Nat) (w : World), t.deep ≤ n → formT t = 0 → AtT w t ao → t.kids.length ≤ cap → cap ≤ 9223372036854775807 → Tabs w →
    Calls Tryz.prog 17 #[exprV t ao cap] w (FoldPost (foldT t) w)
theorem foldL_get (l : List T) (j : Nat) (t : T) (h : l[j]? = some t) : (foldL l).take (j + 1) = (foldL l).take j ++ [foldT t] := by
  have : (foldL l)[j]? = some (foldT t) := by rw [foldL_map, List.getElem?_map, h]; rfl
  obtain ⟨hj, he⟩ := List.getElem?_eq_some_iff.1 this
  rw [List.take_succ_eq_append_getElem hj, he]
theorem fleaf_lit (d : Nd) (h1 : d.op = 1) (hn : nodeF d 0 = 0) : T.mk d [] = litV ⟨d.k, d.i, d.b, d.t⟩ := by
  obtain ⟨_, _, h, _⟩ := nodeF_open d _ hn
  unfold nOk at h
  rw [if_neg (by omega)] at h
  obtain ⟨op, k, i, b, s, nm⟩ := d
  simp only at h h1
  have : nm = [] := by simpa using h
  subst this h1; rfl
theorem fleaf_col (d : Nd) (h2 : d.op = 2) (hn : nodeF d 0 = 0) : d = ⟨2, 0, 0, 0, [], d.n⟩ := by
  obtain ⟨_, _, _, h⟩ := nodeF_open d _ hn
  unfold vOk at h
  rw [if_neg (by omega)] at h
  obtain ⟨op, k, i, b, s, nm⟩ := d
  simp only [Bool.and_eq_true, beq_iff_eq, List.isEmpty_iff] at h h2
  obtain ⟨⟨⟨rfl, rfl⟩, rfl⟩, rfl⟩ := h
  subst h2; rfl
-- no node has a million parts or more
mutual
def FewT : T → Prop
  | .mk _ l => l.length ≤ 1000000 ∧ FewL l
def FewL : List T → Prop
  | [] => True
  | t :: l => FewT t ∧ FewL l
end
/-- What is known of a row of parts. -/
structure FewK (l : List T) : Prop where
  all : FewL l
theorem FewL.mem : ∀ {l : List T}, FewL l → ∀ t ∈ l, FewT t
  | u :: l, h, t, ht => by
    simp only [FewL] at h
    rcases List.mem_cons.1 ht with rfl | hm
    · exact h.1
    · exact FewL.mem h.2 t hm
theorem FewT.kids {t : T} (h : FewT t) : t.kids.length ≤ 1000000 ∧ ∀ d l, t = .mk d l → FewK l := by
  obtain ⟨d, l⟩ := t
  simp only [FewT] at h
  exact ⟨h.1, fun d' l' e => by obtain ⟨rfl, rfl⟩ := T.mk.inj e; exact ⟨h.2⟩⟩
theorem FewK.len {l : List T} (h : FewK l) (t : T) (ht : t ∈ l) : t.kids.length ≤ 1000000 := (h.all.mem t ht).kids.1
theorem FewK.sub {l : List T} (h : FewK l) (t : T) (ht : t ∈ l) : ∀ d m, t = .mk d m → FewK m := (h.all.mem t ht).kids.2
theorem fewL_of : ∀ (l : List T), (∀ t ∈ l, FewT t) → FewL l
  | [], _ => by simp [FewL]
  | t :: l, h => by simp only [FewL]; exact ⟨h t (by simp), fewL_of l (fun u hu => h u (by simp [hu]))⟩
theorem few_form : ∀ (n : Nat) (t : T), t.deep ≤ n → formT t = 0 → FewT t
  | 0, t, h, _ => by have := T.deep_eq t; omega
  | n + 1, .mk d l, h, hf => by
    obtain ⟨hn, hl⟩ := formT_open d l hf
    have hp := (nodeF_open d _ hn).2.1
    have hdl : deepL l ≤ n := by simp only [T.deep] at h; omega
    simp only [FewT]
    refine ⟨by rw [hp]; unfold partsN; split <;> (try split) <;> omega, fewL_of l (fun t ht => ?_)⟩
    obtain ⟨j, hj⟩ := List.getElem?_of_mem ht
    exact few_form n t (Nat.le_trans (deepK_mem hj) hdl) (formL_mem l hl t ht)
theorem zeroFE_split (n j : Nat) (h : j < n) : zeroFE (n - j) = zeroFE1 ++ zeroFE (n - (j + 1)) := by
  rw [show n - j = (n - (j + 1)) + 1 by omega]; rfl
end Go.Proofs.YtcccnpcejfmfcaaGreatDoor
namespace Go.Proofs.YtcccnpcejfmfcaaGreatDoor
open Go.RowKit
set_option linter.unusedVariables false
set_option maxRecDepth 100000

theorem infoFE : (Tryz.prog.info? 27).map (fun i => (i.zero, i.size, i.bytes)) = some (some (.agg #[.int .i64 0, .int .i64 0, .int .i64 0, .int .u64 0, .string ⟨#[]⟩, .string ⟨#[]⟩, .slice none 0 0]), 7, 88) := by kernel_rfl
def zeroV : Value := .agg #[.int .i64 0, .int .i64 0, .int .i64 0, .int .u64 0, .string ⟨#[]⟩, .string ⟨#[]⟩, .slice none 0 0]
theorem made0 : madeCells zeroV.cells (0 * 7) = (zeroFE 0).toArray := by kernel_rfl
theorem made1 : madeCells zeroV.cells (1 * 7) = (zeroFE 1).toArray := by kernel_rfl
theorem made2 : madeCells zeroV.cells (2 * 7) = (zeroFE 2).toArray := by kernel_rfl
theorem make_exprs (n : Nat) (hn : n ≤ 2) (W : World) : (Instr.makeSlice 25 (.int .i64 (n : Int)) (.int .i64 (n : Int))).run Tryz.prog W = .ok (.slice (some ⟨W.heap.size, 0, none⟩) n n) (W.alloc (.cells (zeroFE n).toArray 27)) := by
  obtain ⟨i0, hi, hz0, hz1, hz2⟩ := info_parts infoFE
  have := run_make (P := Tryz.prog) W _ _ i0 _ Tryz.underlying25 hi hz0 .i64 .i64 n n (by omega) (Int.le_refl _) (by rw [hz2]; omega) (by omega)
  simp only [Int.toNat_natCast, hz1] at this
  rw [this]
  have e : madeCells zeroV.cells (n * 7) = (zeroFE n).toArray := by
    rcases (show n = 0 ∨ n = 1 ∨ n = 2 by omega) with rfl | rfl | rfl
    · exact made0
    · exact made1
    · exact made2
  rw [← e]; rfl
theorem fexprV (t : T) (ao : Option Addr) (cap : Nat) : ∃ (xo xk xi xb : Int) (xs xm : ByteArray) (xl : Nat), exprV t ao cap = .agg #[.int .i64 xo, .int .i64 xk, .int .i64 xi, .int .u64 xb, .string xs, .string xm, .slice ao xl cap] ∧ xcells t ao cap = [.int .i64 xo, .int .i64 xk, .int .i64 xi, .int .u64 xb, .string xs, .string xm, .slice ao xl cap] := ⟨_, _, _, _, _, _, _, exprV_cells t ao cap, rfl⟩
theorem fold_mk {d : Nd} {l : List T} (hF : FitT (.mk d l)) (hf : formT (.mk d l) = 0) : formT (.mk d (foldL l)) = 0 ∧ FitT (.mk d (foldL l)) := by
  obtain ⟨hn, hl⟩ := formT_open d l hf
  simp only [FitT] at hF
  have hm : ∀ t ∈ foldL l, formT t = 0 ∧ FitT t := fun t ht => by
    rw [foldL_map] at ht
    obtain ⟨u, hu, rfl⟩ := List.mem_map.1 ht
    have := fold_form u.deep u (Nat.le_refl _) (hF.2.mem u hu) (formL_mem l hl u hu)
    exact ⟨this.1, this.2.1⟩
  constructor
  · simp only [formT]
    have e : (foldL l).length = l.length := by rw [foldL_map, List.length_map]
    rw [e, hn, if_neg (by decide)]
    exact formL_of _ (fun t ht => (hm t ht).1)
  · simp only [FitT]
    exact ⟨hF.1, fitL_of _ (fun t ht => (hm t ht).2)⟩
theorem foldT_leaf (d : Nd) : foldT (.mk d []) = .mk d [] := by simp [foldT]
theorem foldT_node (d : Nd) (l : List T) (h : l ≠ []) : foldT (.mk d l) = nodeX d (foldL l) := by
  simp only [foldT]
  rw [if_neg (by simpa using h)]
theorem nodeX_say (d : Nd) (l : List T) (R : RE) (hR : evT [] [] (.mk d l) = R) : nodeX d l = if (litsL l && ((R.f == 0) && decide (0 ≤ R.v.i))) = true then litV R.v else .mk d l := by
  unfold nodeX
  rw [hR]
  cases litsL l
  · rfl
  · by_cases h : R.f = 0 ∧ 0 ≤ R.v.i
    · rw [if_pos rfl, if_pos h, if_pos (by simp [h.1, h.2])]
    · rw [if_pos rfl, if_neg h, if_neg (by simpa using h)]
/-- The last step of a walk: a result's cell is written. -/
theorem fold_done {u : T} {w w6 : World} {ao : Option Addr} {cap : Nat} {g : Nat} {a0 a1 a2 a3 a4 a5 a6 : Value} (hb : Below w.heap.size w w6) (hX : XTb (g + 1) w6 u ao cap) (hg : w.heap.size ≤ g) (he : exprV u ao cap = .agg #[a0, a1, a2, a3, a4, a5, a6]) :
    FoldPost u w (.returned (.agg #[a0, a1, a2, a3, a4, a5, a6])) (((((((w6.setCell ⟨g, 0, none⟩ a0).setCell ⟨g, 1, none⟩ a1).setCell ⟨g, 2, none⟩ a2).setCell ⟨g, 3, none⟩ a3).setCell ⟨g, 4, none⟩ a4).setCell ⟨g, 5, none⟩ a5).setCell ⟨g, 6, none⟩ a6) :=
  ⟨ao, cap, by rw [he], (hX.set7 (Nat.lt_succ_self g)).mono (by omega), below_set7 hb hg⟩
theorem xtb_leaf (b : Nat) (w : World) (d : Nd) (h : FitN d) : XTb b w (.mk d []) none 0 := xt_leaf _ d h
theorem fas_ll (W : World) (v : Value) : (Instr.typeAssert (.iface 64 v) 41 64 true).run Tryz.prog W = .ok (.tuple #[v, .bool true]) W := by kernel_rfl
theorem fas_cl (W : World) (v : Value) : (Instr.typeAssert (.iface 62 v) 41 64 true).run Tryz.prog W = .ok (.tuple #[.agg #[.int .i64 0, .int .i64 0, .int .u64 0, .string ⟨#[]⟩], .bool false]) W := by kernel_rfl
theorem fas_cc (W : World) (v : Value) : (Instr.typeAssert (.iface 62 v) 41 62 true).run Tryz.prog W = .ok (.tuple #[v, .bool true]) W := by kernel_rfl
theorem name_len (d : Nd) (h2 : d.op = 2) (hn : nodeF d 0 = 0) : d.n.length ≤ 1000 := by
  obtain ⟨_, _, h, _⟩ := nodeF_open d _ hn
  unfold nOk at h
  rw [if_pos h2] at h
  simp only [beq_iff_eq] at h
  unfold tokC at h
  rw [if_neg (by decide)] at h
  split at h
  · exact absurd h (by decide)
  · rename_i h3
    unfold tooL at h3
    simp at h3
    omega
set_option maxHeartbeats 16000000 in
theorem folded_step (m : Nat) (IH : FoldOk m) : FoldOk (m + 1) := by
  rintro ⟨d, l⟩ ao cap w hdp hf hA hcap hcap2 hT
  obtain ⟨hn, hl⟩ := formT_open d l hf
  have hno := nodeF_open d _ hn
  have hdl : deepL l ≤ m := by simp only [T.deep] at hdp; omega
  have hF := atT_fit (T.mk d l).deep _ ao (Nat.le_refl _) hA
  obtain ⟨hmf, hmF⟩ := fold_mk hF hf
  simp only [AtT] at hA
  simp only [T.kids] at hcap
  have hL2 : l.length ≤ 2 := by rw [hno.2.1]; unfold partsN; split <;> (try split) <;> omega
  obtain ⟨n, hln⟩ : ∃ n, l.length = n := ⟨_, rfl⟩
  have hget : ∀ j, j < n → ∃ t, l[j]? = some t := fun j hj => ⟨l[j]'(by omega), List.getElem?_eq_getElem (by omega)⟩
  have hpart : ∀ (j : Nat) (t : T), l[j]? = some t → ∃ a o ao' cap', ao = some ⟨a, o, none⟩ ∧ a < w.heap.size ∧ w.cell? ⟨a, o + j * 7, none⟩ = some (.int .i64 t.nd.op) ∧ w.cell? ⟨a, o + j * 7 + 1, none⟩ = some (.int .i64 t.nd.k) ∧ w.cell? ⟨a, o + j * 7 + 2, none⟩ = some (.int .i64 t.nd.i) ∧ w.cell? ⟨a, o + j * 7 + 3, none⟩ = some (.int .u64 t.nd.b) ∧ w.cell? ⟨a, o + j * 7 + 4, none⟩ = some (.string (str t.nd.t)) ∧ w.cell? ⟨a, o + j * 7 + 5, none⟩ = some (.string (str t.nd.n)) ∧ w.cell? ⟨a, o + j * 7 + 6, none⟩ = some (.slice ao' t.kids.length cap') ∧
      ∀ W, Below w.heap.size w W → Calls Tryz.prog 17 #[exprV t ao' cap'] W (FoldPost (foldT t) W) := fun j t htj => by
    obtain ⟨a, o, e, ha, hnode⟩ := AtL.at hA.2 j t htj
    rw [Nat.zero_add] at hnode
    obtain ⟨ao', cap', n1, n2, nA, x0, x1, x2, x3, x4, x5, x6⟩ := hnode.cells
    exact ⟨a, o, ao', cap', e, ha, x0, x1, x2, x3, x4, x5, x6, fun W hW => IH t ao' cap' W (Nat.le_trans (deepK_mem htj) hdl) (formL_mem l hl t (List.mem_of_getElem? htj)) (nA.keep hW) n1 n2 (tabs_below hT hW)⟩
  have hsnoc : ∀ (j : Nat) (t : T), l[j]? = some t → (foldL l).take (j + 1) = (foldL l).take j ++ [foldT t] := fun j t h => foldL_get l j t h
  have hfull : ∀ j, ¬ j < n → (foldL l).take j = foldL l := fun j hj => List.take_of_length_le (by rw [foldL_map, List.length_map]; omega)
  have hfn : (foldL l).length = n := by rw [foldL_map, List.length_map]; exact hln
  -- what is known once the parts are there
  have hend : ∀ (W : World) (g : Nat) (es : List FE), Below w.heap.size w W → es.map FE.t = foldL l → (∀ x ∈ es, XTb (g + 1) W x.t x.ao x.cap) → Blk W (g + 1) 27 (cellsFE es) → w.heap.size ≤ g →
      XTb (g + 1) W (.mk d (foldL l)) (some ⟨g + 1, 0, none⟩) n ∧ (∀ W', Below W.heap.size W W' → Calls Tryz.prog 12 #[exprV (.mk d (foldL l)) (some ⟨g + 1, 0, none⟩) n] W' fun e w' => e = .returned (readyV (.mk d (foldL l))) ∧ Below W'.heap.size W' w') := fun W g es hW he hx hB hg => by
    have hel : es.length = n := by rw [← hfn, ← he, List.length_map]
    have h1 := xt_row d hA.1 es hx (by omega) (hB.lo (b := g + 1) (Nat.le_refl _))
    rw [he, hel] at h1
    have h2 : XT W (.mk d (foldL l)) (some ⟨g + 1, 0, none⟩) n := XTb.show h1
    exact ⟨h1, fun W' hW' => rdy_any _ (.mk d (foldL l)) _ n W' (Nat.le_refl _) hmf (h2.A.keep hW') h2.n1 h2.n2⟩
  have hmk := fun W => make_exprs n (by omega) W
  have hz2 : zeroFE n = cellsFE [] ++ zeroFE (n - 0) := by simp [cellsFE]
  have hn0 : ∀ es : List FE, es.map FE.t = foldL l → es.length = n := fun es he => by rw [← hfn, ← he, List.length_map]
  have hleaf : n = 0 → l = [] := fun h => List.eq_nil_of_length_eq_zero (by omega)
  have hpn : n = partsN d.op := by rw [← hln]; exact hno.2.1
  have hEE : 3 ≤ d.op → ∀ (W : World), Below w.heap.size w W → Operat (readyV (.mk d (foldL l))) (readyL (foldL l)) ∧ OkR (evT [] [] (.mk d (foldL l))) ∧ Says W (.slice none 0 0) (.slice none 0 0) (readyV (.mk d (foldL l))) (evT [] [] (.mk d (foldL l))) ∧ foldT (.mk d l) = nodeX d (foldL l) := fun h3 W hW => by
    have hlf : (foldL l).length = l.length := by rw [foldL_map, List.length_map]
    have hne : l ≠ [] := fun e => by
      subst e
      have := hno.2.1
      unfold partsN at this
      rw [if_neg (by omega)] at this
      split at this <;> simp at this
    refine ⟨operat_of d (foldL l) h3 (by rw [hlf]; exact hn), ok_ev [] [] (fun v hv => by cases hv) _ _ (Nat.le_refl _) hmF hmf, ?_, foldT_node d l hne⟩
    have hE : EvEnv W [] [] none none := ⟨tabs_below hT hW, ⟨fun c hc => (by cases hc), .inl rfl⟩, ⟨fun c hc => (by cases hc), .inl rfl⟩, by decide, rfl, fun v hv => by cases hv⟩
    have := says_ev W [] [] none 0 none 0 hE _ (.mk d (foldL l)) (Nat.le_refl _) hmF hmf
    simpa using this
  have hFN := hA.1
  have HGET := Lib.hid hget
  have HPART := Lib.hid hpart
  have HSNOC := Lib.hid hsnoc
  have HFULL := Lib.hid hfull
  have HEND := Lib.hid hend
  have HN0 := Lib.hid hn0
  have HLEAF := Lib.hid hleaf
  have HEE := Lib.hid hEE
  have HNO := Lib.hid hno
  have HFN := Lib.hid hFN
  have HPN := Lib.hid hpn
  have HLN := Lib.hid hln
  have HNF := Lib.hid hn
  have HLL := Lib.hid hl
  have HMF := Lib.hid hmf
  rw [exprV_cells]
  simp only [T.nd, T.kids]
  rw [hln]
  obtain ⟨S, hS⟩ : ∃ S, str d.t = S := ⟨_, rfl⟩
  obtain ⟨N, hN⟩ : ∃ N, str d.n = N := ⟨_, rfl⟩
  rw [hS, hN]
  have HSS := Lib.hid hS
  have HNN := Lib.hid hN
  obtain ⟨z0, z1, z2, hb3⟩ := three_new w #[.int .i64 d.op, .int .i64 d.k, .int .i64 d.i, .int .u64 d.b, .string S, .string N, .slice ao n cap] #[.int .i64 0, .int .i64 0, .int .i64 0, .int .u64 0, .string ⟨#[]⟩, .string ⟨#[]⟩, .slice none 0 0] (zeroFE n).toArray 27 27 27
  generalize hw3 : ((w.alloc (.cells #[.int .i64 d.op, .int .i64 d.k, .int .i64 d.i, .int .u64 d.b, .string S, .string N, .slice ao n cap] 27)).alloc (.cells #[.int .i64 0, .int .i64 0, .int .i64 0, .int .u64 0, .string ⟨#[]⟩, .string ⟨#[]⟩, .slice none 0 0] 27)).alloc (.cells (zeroFE n).toArray 27) = w3 at z0 z1 z2 hb3
  have z2' : Blk w3 (w.heap.size + 1 + 1) 27 (cellsFE [] ++ zeroFE (n - 0)) := by rw [← hz2]; exact z2
  have hnI : (n : Int) ≤ 2 := by omega
  obtain ⟨p0, p1, p2, p3, p4, p5, p6⟩ := z0.cells7
  clear hget hpart hsnoc hfull hend hn0 hleaf hEE hno hFN hpn hln hn hl hmf hmF hF hA hf hfn hT hS hN hz2 z2 hdp hdl IH hL2
  go_enter Tryz.func17, Tryz.ntmps17
  go_upto_region 2 with fail
  try rw [hw3]
  clear hw3 hmk
  go_wp2_with fail
  go_loopw [18] (fun ix wr => ∃ (j : Nat) (es : List FE), j ≤ n ∧ ix = .int .i64 j ∧ Hid (es.length = j) ∧ Hid (es.map FE.t = (foldL l).take j) ∧ Hid (∀ x ∈ es, XTb (w.heap.size + 1 + 1 + 1) wr x.t x.ao x.cap) ∧ Hid (Blk wr w.heap.size 27 [.int .i64 d.op, .int .i64 d.k, .int .i64 d.i, .int .u64 d.b, .string S, .string N, .slice ao n cap]) ∧ Hid (Blk wr (w.heap.size + 1) 27 [.int .i64 0, .int .i64 0, .int .i64 0, .int .u64 0, .string ⟨#[]⟩, .string ⟨#[]⟩, .slice none 0 0]) ∧ Hid (Blk wr (w.heap.size + 1 + 1) 27 (cellsFE es ++ zeroFE (n - j))) ∧ Hid (Below w.heap.size w wr)) (fun ix _ => n - (intOf ix).toNat)
  case atStart => exact ⟨0, [], Nat.zero_le _, rfl, Lib.hid rfl, Lib.hid (by simp), Lib.hid (fun x hx => by cases hx), Lib.hid z0, Lib.hid z1, Lib.hid z2', Lib.hid hb3⟩
  case round =>
    obtain ⟨j, es, hj, rfl, hel, hes, hxs, y0, y1, y2, hbw⟩ := hrel
    clear z0 z1 z2' hb3 p0 p1 p2 p3 p4 p5 p6
    by_cases hlt : j < n
    · have iI : (j : Int) < (n : Int) := by omega
      obtain ⟨t, htj⟩ := HGET.out j hlt
      obtain ⟨a, o, ao', cap', rfl, ha, x0, x1, x2, x3, x4, x5, x6, cF⟩ := HPART.out j t htj
      have d0 := (hbw.out.cell (p := ⟨a, o + j * 7, none⟩) ha).trans x0
      have d1 := (hbw.out.cell (p := ⟨a, o + j * 7 + 1, none⟩) ha).trans x1
      have d2 := (hbw.out.cell (p := ⟨a, o + j * 7 + 2, none⟩) ha).trans x2
      have d3 := (hbw.out.cell (p := ⟨a, o + j * 7 + 3, none⟩) ha).trans x3
      have d4 := (hbw.out.cell (p := ⟨a, o + j * 7 + 4, none⟩) ha).trans x4
      have d5 := (hbw.out.cell (p := ⟨a, o + j * 7 + 5, none⟩) ha).trans x5
      have d6 := (hbw.out.cell (p := ⟨a, o + j * 7 + 6, none⟩) ha).trans x6
      have HTJ := Lib.hid htj
      simp only [exprV_cells] at cF
      generalize hft : foldT t = ft at cF
      have HFT := Lib.hid hft
      generalize t.kids.length = KL at *
      generalize t.nd = nd at *
      obtain ⟨op', k', i', b', s', nm'⟩ := nd
      simp only at d0 d1 d2 d3 d4 d5 d6 cF
      generalize str s' = S' at *
      generalize str nm' = N' at *
      obtain ⟨wa, hwa⟩ : ∃ wa, wr.alloc (.cells #[.int .i64 op', .int .i64 k', .int .i64 i', .int .u64 b', .string S', .string N', .slice ao' KL cap'] 27) = wa := ⟨_, rfl⟩
      have hbA : Below wr.heap.size wr wa := by rw [← hwa]; exact (Below.refl _ _).alloc (Nat.le_refl _) _
      have zT : Blk wa wr.heap.size 27 [.int .i64 op', .int .i64 k', .int .i64 i', .int .u64 b', .string S', .string N', .slice ao' KL cap'] := by rw [← hwa]; exact Blk.new wr #[.int .i64 op', .int .i64 k', .int .i64 i', .int .u64 b', .string S', .string N', .slice ao' KL cap'] _
      have hb0a := below_stepE hbw.out hbw.out.size hbA
      have cc := cF wa hb0a
      have ya0 := y0.out.call hbA
      have ya1 := y1.out.call hbA
      have ya2 := y2.out.call hbA
      have hxa : ∀ x ∈ es, XTb (w.heap.size + 1 + 1 + 1) wa x.t x.ao x.cap := fun x hx => (hxs.out x hx).below hbA
      have hgs := y2.out.lt
      have HXA := Lib.hid hxa
      clear x0 x1 x2 x3 x4 x5 x6 htj cF hft hxa hxs y0 y1 y2
      go_upto_region 5 with fail
      try rw [hwa]
      clear hwa d0 d1 d2 d3 d4 d5 d6 hbA hbw
      generalize wr.heap.size = g at *
      obtain ⟨q0, q1, q2, q3, q4, q5, q6⟩ := zT.cells7
      unfold FoldPost at cc
      go_wp2_with fail
      refine cc.mono ?_
      rintro e w5 ⟨ao5, cap5, rfl, hX5, hb5⟩
      obtain ⟨xo, xk, xi, xb, xs, xm, xl, hxv, hxc⟩ := fexprV ft ao5 cap5
      rw [hxv]
      have hga : w.heap.size + 1 + 1 + 1 ≤ wa.heap.size := by have := ya2.lt; omega
      have u0 := ya0.call hb5
      have u1 := ya1.call hb5
      have u2 := ya2.call hb5
      rw [zeroFE_split n j hlt] at u2
      have hxs5 : ∀ x ∈ es ++ [(⟨ft, ao5, cap5⟩ : FE)], XTb (w.heap.size + 1 + 1 + 1) w5 x.t x.ao x.cap := fun x hx => by
        rcases List.mem_append.1 hx with hx | hx
        · exact (HXA.out x hx).below hb5
        · rw [List.mem_singleton] at hx
          subst hx
          exact hX5.out.mono hga
      have hb05 := below_stepE hb0a hb0a.size hb5
      have hpl : (cellsFE es).length = j * 7 := by rw [cellsFE_length, hel.out]
      have hcell : ∀ q v, zeroFE1[q]? = some v → w5.cell? ⟨w.heap.size + 1 + 1, j * 7 + q, none⟩ = some v := fun q v hq => u2.cell (by
        rw [List.getElem?_append_right (by omega), hpl, show j * 7 + q - j * 7 = q by omega, List.getElem?_append_left (List.getElem?_eq_some_iff.1 hq).1]; exact hq)
      have e0 : w5.cell? ⟨w.heap.size + 1 + 1, j * 7, none⟩ = some (.int .i64 0) := hcell 0 _ rfl
      have e1 := hcell 1 _ rfl
      have e2 := hcell 2 _ rfl
      have e3 := hcell 3 _ rfl
      have e4 := hcell 4 _ rfl
      have e5 := hcell 5 _ rfl
      have e6 := hcell 6 _ rfl
      have f0 := u2.free (j * 7)
      have f1 := u2.free (j * 7 + 1)
      have f2 := u2.free (j * 7 + 2)
      have f3 := u2.free (j * 7 + 3)
      have f4 := u2.free (j * 7 + 4)
      have f5 := u2.free (j * 7 + 5)
      have f6 := u2.free (j * 7 + 6)
      have v2 := u2.put7 (b0 := .int .i64 0) (b1 := .int .i64 0) (b2 := .int .i64 0) (b3 := .int .u64 0) (b4 := .string ⟨#[]⟩) (b5 := .string ⟨#[]⟩) (b6 := .slice none 0 0) hpl (.int .i64 xo) (.int .i64 xk) (.int .i64 xi) (.int .u64 xb) (.string xs) (.string xm) (.slice ao5 xl cap5)
      have v0 := u0.others7p (g := w.heap.size + 1 + 1) (p := j * 7) (a0 := .int .i64 xo) (a1 := .int .i64 xk) (a2 := .int .i64 xi) (a3 := .int .u64 xb) (a4 := .string xs) (a5 := .string xm) (a6 := .slice ao5 xl cap5) (by omega)
      have v1 := u1.others7p (g := w.heap.size + 1 + 1) (p := j * 7) (a0 := .int .i64 xo) (a1 := .int .i64 xk) (a2 := .int .i64 xi) (a3 := .int .u64 xb) (a4 := .string xs) (a5 := .string xm) (a6 := .slice ao5 xl cap5) (by omega)
      have hb06 := below_set7p (g := w.heap.size + 1 + 1) (p := j * 7) (a0 := .int .i64 xo) (a1 := .int .i64 xk) (a2 := .int .i64 xi) (a3 := .int .u64 xb) (a4 := .string xs) (a5 := .string xm) (a6 := .slice ao5 xl cap5) hb05 (by omega)
      have hxs6 := fun x hx => (hxs5 x hx).set7p (g := w.heap.size + 1 + 1) (p := j * 7) (a0 := .int .i64 xo) (a1 := .int .i64 xk) (a2 := .int .i64 xi) (a3 := .int .u64 xb) (a4 := .string xs) (a5 := .string xm) (a6 := .slice ao5 xl cap5) (by omega)
      rw [← hxc, show cellsFE es ++ xcells ft ao5 cap5 = cellsFE (es ++ [⟨ft, ao5, cap5⟩]) from (cellsFE_snoc es ⟨ft, ao5, cap5⟩).symm] at v2
      have hes2 : (es ++ [(⟨ft, ao5, cap5⟩ : FE)]).map FE.t = (foldL l).take (j + 1) := by
        rw [List.map_append, hes.out, HSNOC.out j t HTJ.out, HFT.out]; rfl
      have HES2 := Lib.hid hes2
      have V0 := Lib.hid v0
      have V1 := Lib.hid v1
      have V2 := Lib.hid v2
      have HB6 := Lib.hid hb06
      have HX6 := Lib.hid hxs6
      have HEL := hel
      clear hxv hxc u0 u1 u2 v0 v1 v2 hxs5 hxs6 hb05 hb06 hb5 hX5 hes hes2 hpl hcell ya0 ya1 ya2 hb0a zT q0 q1 q2 q3 q4 q5 q6 cc hga hgs hel ha
      go_wp2_with fail
      go_roundw
      case rel => exact ⟨j + 1, es ++ [⟨ft, ao5, cap5⟩], by omega, by go_num, Lib.hid (by rw [List.length_append, HEL.out]; rfl), HES2, HX6, V0, V1, V2, HB6⟩
      case measure => simp [intOf]; omega
    · have iI : ¬ (j : Int) < (n : Int) := by omega
      have hes2 : es.map FE.t = foldL l := hes.out.trans (HFULL.out j hlt)
      have hen := HN0.out es hes2
      have y2' : Blk wr (w.heap.size + 1 + 1) 27 (cellsFE es) := by
        have := y2.out
        rw [show n - j = 0 by omega, show zeroFE 0 = [] from rfl, List.append_nil] at this
        exact this
      have v0 := y0.out.set 6 (.slice (some ⟨w.heap.size + 1 + 1, 0, none⟩) n n)
      simp only [List.set_cons_succ, List.set_cons_zero] at v0
      have v1 := y1.out.other ⟨w.heap.size, 6, none⟩ (.slice (some ⟨w.heap.size + 1 + 1, 0, none⟩) n n) (by simp)
      have v2 := y2'.other ⟨w.heap.size, 6, none⟩ (.slice (some ⟨w.heap.size + 1 + 1, 0, none⟩) n n) (by show w.heap.size + 1 + 1 ≠ w.heap.size; omega)
      have hb6 := hbw.out.setCell (p := ⟨w.heap.size, 6, none⟩) (Nat.le_refl _) (.slice (some ⟨w.heap.size + 1 + 1, 0, none⟩) n n)
      have hx6 := fun x hx => ((hxs.out x hx).set ⟨w.heap.size, 6, none⟩ (.slice (some ⟨w.heap.size + 1 + 1, 0, none⟩) n n) (by show w.heap.size < _; omega)).mono (show w.heap.size + 1 + 1 ≤ w.heap.size + 1 + 1 + 1 by omega)
      have q6 := y0.out.cell (j := 6) rfl
      have f6 := y0.out.free 6
      obtain ⟨hXT, cR⟩ := HEND.out _ (w.heap.size + 1) es hb6 hes2 hx6 v2 (by omega)
      have HXT := Lib.hid hXT
      have HCR := Lib.hid cR
      clear hes hes2 hen y2' y0 y1 y2 hx6 hxs hbw v2 hXT cR HEND HN0 hel HFULL HSNOC HPART HGET
      go_upto_region 8 with fail
      generalize hw6 : wr.setCell ⟨w.heap.size, 6, none⟩ (.slice (some ⟨w.heap.size + 1 + 1, 0, none⟩) n n) = w6 at *
      clear hw6 q6 f6
      have cR := HCR.out w6 (Below.refl _ _)
      rw [exprV_cells] at cR
      simp only [T.nd, T.kids] at cR
      rw [show (foldL l).length = n by rw [foldL_map, List.length_map]; exact HLN.out] at cR
      rw [HSS.out, HNN.out] at cR
      obtain ⟨q0, q1, q2, q3, q4, q5, q6⟩ := v0.cells7
      clear HCR
      by_cases h1 : d.op = 1
      · have hn0 : n = 0 := by have := HPN.out; unfold partsN at this; rw [if_pos (.inl h1)] at this; exact this
        have hl0 := HLEAF.out hn0
        subst hl0
        have hnf := HNF.out
        have hrd := ready_lit d (foldL []) h1
        rw [hrd, HSS.out] at cR
        have hv := (nodeF_open d _ hnf).2.2.2
        unfold vOk at hv
        rw [if_pos h1] at hv
        simp only [Bool.and_eq_true, beq_iff_eq] at hv
        have hlen : d.t.length ≤ 40 := (chkV_open ⟨d.k, d.i, d.b, d.t⟩ hv.1).2.2.1
        have cL := fun W => literalOf_any ⟨d.k, d.i, d.b, d.t⟩ (by show d.t.length ≤ _; omega) W
        rw [litV_cells] at cL
        unfold valV at cL
        simp only at cL
        rw [HSS.out] at cL
        have asr := fas_ll
        have hfin : ∀ W, Below w.heap.size w W → FoldPost (foldT (.mk d [])) w (.returned (.agg #[.int .i64 1, .int .i64 d.k, .int .i64 d.i, .int .u64 d.b, .string S, .string ⟨#[]⟩, .slice none 0 0])) (((((((W.setCell ⟨w.heap.size + 1, 0, none⟩ (.int .i64 1)).setCell ⟨w.heap.size + 1, 1, none⟩ (.int .i64 d.k)).setCell ⟨w.heap.size + 1, 2, none⟩ (.int .i64 d.i)).setCell ⟨w.heap.size + 1, 3, none⟩ (.int .u64 d.b)).setCell ⟨w.heap.size + 1, 4, none⟩ (.string S)).setCell ⟨w.heap.size + 1, 5, none⟩ (.string ⟨#[]⟩)).setCell ⟨w.heap.size + 1, 6, none⟩ (.slice none 0 0)) := fun W hW => by
          refine fold_done hW (xtb_leaf _ _ d HFN.out) (by omega) ?_
          rw [foldT_leaf, fleaf_lit d h1 hnf, litV_cells, HSS.out]
        have HFIN := Lib.hid hfin
        clear hfin hv hlen hrd hnf HMF HLL HEE HLEAF hn0 h1
        go_wp2_with fail
        refine cR.mono ?_
        rintro e w7 ⟨rfl, hb7⟩
        have u1 := v1.call hb7
        have hb07 := below_stepE hb6 hb6.size hb7
        have hzL := Blk.new w7 #[.int .i64 d.k, .int .i64 d.i, .int .u64 d.b, .string S] 64
        have hbL := (Below.refl w7.heap.size w7).alloc (Nat.le_refl _) (.cells #[.int .i64 d.k, .int .i64 d.i, .int .u64 d.b, .string S] 64)
        have u1' := u1.call hbL
        have hb08 := below_stepE hb07 hb07.size hbL
        clear cR v0 v1 hb6 hb7 q0 q1 q2 q3 q4 q5 q6
        go_upto_region 11 with fail
        generalize hw8 : w7.alloc (.cells #[.int .i64 d.k, .int .i64 d.i, .int .u64 d.b, .string S] 64) = w8 at *
        clear hw8 u1 hb07 hbL asr
        generalize w7.heap.size = g7 at *
        obtain ⟨⟨r0, r1, r2, r3⟩, _⟩ := hzL.four
        go_wp2_with fail
        refine (cL _).mono ?_
        rintro e w9 ⟨rfl, hb9⟩
        have t1 := u1'.call hb9
        have hb09 := below_stepE hb08 hb08.size hb9
        clear cL hb9 hb08 u1' r0 r1 r2 r3 hzL
        obtain ⟨r0, r1, r2, r3, r4, r5, r6⟩ := t1.cells7
        have f0 := t1.free 0
        have f1 := t1.free 1
        have f2 := t1.free 2
        have f3 := t1.free 3
        have f4 := t1.free 4
        have f5 := t1.free 5
        have f6 := t1.free 6
        go_wp2_with fail
        exact bodyPost_ret (results_expr rfl _ _ (w.heap.size + 1) _ _ _ _ _ _ _ rfl t1.set7) rfl (HFIN.out _ hb09)
      · by_cases h2 : d.op = 2
        · have hn0 : n = 0 := by have := HPN.out; unfold partsN at this; rw [if_pos (.inr h2)] at this; exact this
          have hl0 := HLEAF.out hn0
          subst hl0
          have hnf := HNF.out
          have hrd := ready_col d (foldL []) h2
          rw [hrd, HNN.out] at cR
          have hlen := name_len d h2 hnf
          have cL := fun W => eclone_any d.n W (by omega)
          rw [HNN.out] at cL
          have asr := fas_cl
          have asr2 := fas_cc
          have hfin : ∀ W, Below w.heap.size w W → FoldPost (foldT (.mk d [])) w (.returned (.agg #[.int .i64 2, .int .i64 0, .int .i64 0, .int .u64 0, .string ⟨#[]⟩, .string N, .slice none 0 0])) (((((((W.setCell ⟨w.heap.size + 1, 0, none⟩ (.int .i64 2)).setCell ⟨w.heap.size + 1, 1, none⟩ (.int .i64 0)).setCell ⟨w.heap.size + 1, 2, none⟩ (.int .i64 0)).setCell ⟨w.heap.size + 1, 3, none⟩ (.int .u64 0)).setCell ⟨w.heap.size + 1, 4, none⟩ (.string ⟨#[]⟩)).setCell ⟨w.heap.size + 1, 5, none⟩ (.string N)).setCell ⟨w.heap.size + 1, 6, none⟩ (.slice none 0 0)) := fun W hW => by
            refine fold_done hW (xtb_leaf _ _ d HFN.out) (by omega) ?_
            rw [foldT_leaf, ← HNN.out]
            conv => lhs; rw [fleaf_col d h2 hnf]
            rfl
          have HFIN := Lib.hid hfin
          clear hfin hlen hrd hnf HMF HLL HEE HLEAF hn0 h1 h2
          go_wp2_with fail
          refine cR.mono ?_
          rintro e w7 ⟨rfl, hb7⟩
          have u1 := v1.call hb7
          have hb07 := below_stepE hb6 hb6.size hb7
          have hzL := Blk.new w7 #[.string N] 62
          have hbL := (Below.refl w7.heap.size w7).alloc (Nat.le_refl _) (.cells #[.string N] 62)
          have u1' := u1.call hbL
          have hb08 := below_stepE hb07 hb07.size hbL
          clear cR v0 v1 hb6 hb7 q0 q1 q2 q3 q4 q5 q6
          go_upto_region 14 with fail
          generalize hw8 : w7.alloc (.cells #[.string N] 62) = w8 at *
          clear hw8 u1 hb07 hbL asr asr2
          generalize w7.heap.size = g7 at *
          have r0 := hzL.cell (j := 0) rfl
          go_wp2_with fail
          refine (cL _).mono ?_
          rintro e w9 ⟨rfl, hb9⟩
          have t1 := u1'.call hb9
          have hb09 := below_stepE hb08 hb08.size hb9
          clear cL hb9 hb08 u1' r0 hzL
          obtain ⟨r0, r1, r2, r3, r4, r5, r6⟩ := t1.cells7
          have f0 := t1.free 0
          have f1 := t1.free 1
          have f2 := t1.free 2
          have f3 := t1.free 3
          have f4 := t1.free 4
          have f5 := t1.free 5
          have f6 := t1.free 6
          go_wp2_with fail
          exact bodyPost_ret (results_expr rfl _ _ (w.heap.size + 1) _ _ _ _ _ _ _ rfl t1.set7) rfl (HFIN.out _ hb09)
        · have h3 : 3 ≤ d.op := by have := HNO.out.1; omega
          obtain ⟨hO, hok, _, hft⟩ := HEE.out h3 w (Below.refl _ _)
          have hfl : ∀ t ∈ foldL l, formT t = 0 := fun t ht => formL_mem _ (formT_open d _ HMF.out).2 t ht
          have hll : (foldL l).length ≤ 1000 := by rw [foldL_map, List.length_map, HLN.out]; omega
          have cF := fun W (hW : Below w.heap.size w W) => foreseen_any (readyV (.mk d (foldL l))) (foldL l) (evT [] [] (.mk d (foldL l))) W hO hfl hll (HEE.out h3 W hW).2.2.1 hok
          have hns := nodeX_say d (foldL l) _ rfl
          have htl := (chkV_open _ hok.v.chk).2.2.1
          generalize hR : evT [] [] (.mk d (foldL l)) = R at *
          obtain ⟨ty, rv, K, e1, _, _, _, _, a1, a2, a3⟩ := hO
          rw [e1] at cF cR
          have hlen : (foldL l).length = n := by rw [foldL_map, List.length_map]; exact HLN.out
          unfold foreR at cF
          obtain ⟨V, hV⟩ : ∃ V, (if litsL (foldL l) = true then R.v else nulV) = V := ⟨_, rfl⟩
          obtain ⟨B, hB⟩ : ∃ B, (litsL (foldL l) && ((R.f == 0) && decide (0 ≤ R.v.i))) = B := ⟨_, rfl⟩
          simp only [hV, hB] at cF
          rw [hB] at hns
          have hVok : OkV V := by
            rw [← hV]; split
            · exact hok.v
            · exact ok_nul
          have hlit : B = true → foldT (.mk d l) = litV V := fun hb => by
            rw [hft, hns, if_pos hb]
            rw [hb] at hB
            simp only [Bool.and_eq_true] at hB
            rw [if_pos hB.1] at hV
            rw [hV]
          have hmkk : B = false → foldT (.mk d l) = .mk d (foldL l) := fun hb => by
            rw [hft, hns, if_neg (by rw [hb]; decide)]
          obtain ⟨k0, k4, hs40, _, _⟩ := chkV_open V hVok.chk
          have hfitV := hVok.fit
          have cL := fun W => literalOf_any V (by omega) W
          obtain ⟨vk, vi, vb, vs⟩ := V
          simp only at k0 k4 hs40
          have hFV : FitN ⟨1, vk, vi, vb, vs, []⟩ := fit_lit vk vi vb vs ⟨k0, k4⟩ ⟨hfitV.i0, hfitV.i1⟩ ⟨hfitV.b0, hfitV.b1⟩ (by omega)
          rw [litV_cells] at cL
          unfold valV at cF cL
          simp only at cF cL
          obtain ⟨VS, hVS⟩ : ∃ VS, str vs = VS := ⟨_, rfl⟩
          simp only [hVS] at cF cL
          have hfinT : B = true → ∀ W, Below w.heap.size w W → FoldPost (foldT (.mk d l)) w (.returned (.agg #[.int .i64 1, .int .i64 vk, .int .i64 vi, .int .u64 vb, .string VS, .string ⟨#[]⟩, .slice none 0 0])) (((((((W.setCell ⟨w.heap.size + 1, 0, none⟩ (.int .i64 1)).setCell ⟨w.heap.size + 1, 1, none⟩ (.int .i64 vk)).setCell ⟨w.heap.size + 1, 2, none⟩ (.int .i64 vi)).setCell ⟨w.heap.size + 1, 3, none⟩ (.int .u64 vb)).setCell ⟨w.heap.size + 1, 4, none⟩ (.string VS)).setCell ⟨w.heap.size + 1, 5, none⟩ (.string ⟨#[]⟩)).setCell ⟨w.heap.size + 1, 6, none⟩ (.slice none 0 0)) := fun hb W hW => by
            rw [hlit hb]
            refine fold_done hW (xtb_leaf _ _ _ hFV) (by omega) ?_
            rw [← hVS]
            exact litV_cells vk vi vb vs
          have hfinF : B = false → ∀ W, Below w6.heap.size w6 W → FoldPost (foldT (.mk d l)) w (.returned (.agg #[.int .i64 d.op, .int .i64 d.k, .int .i64 d.i, .int .u64 d.b, .string S, .string N, .slice (some ⟨w.heap.size + 1 + 1, 0, none⟩) n n])) (((((((W.setCell ⟨w.heap.size + 1, 0, none⟩ (.int .i64 d.op)).setCell ⟨w.heap.size + 1, 1, none⟩ (.int .i64 d.k)).setCell ⟨w.heap.size + 1, 2, none⟩ (.int .i64 d.i)).setCell ⟨w.heap.size + 1, 3, none⟩ (.int .u64 d.b)).setCell ⟨w.heap.size + 1, 4, none⟩ (.string S)).setCell ⟨w.heap.size + 1, 5, none⟩ (.string N)).setCell ⟨w.heap.size + 1, 6, none⟩ (.slice (some ⟨w.heap.size + 1 + 1, 0, none⟩) n n)) := fun hb W hW => by
            rw [hmkk hb]
            refine fold_done (below_stepE hb6 hb6.size hW) (HXT.out.below hW) (by omega) ?_
            rw [exprV_cells]
            simp only [T.nd, T.kids]
            rw [hlen, HSS.out, HNN.out]
          have HFT := Lib.hid hfinT
          have HFF := Lib.hid hfinF
          have HCF := Lib.hid cF
          clear hfinT hfinF cF hFV hfitV k0 k4 hs40 hVS hlit hmkk hVok hV hB hns htl hok hft hfl hll hlen e1 HMF HLL HEE HLEAF h1 h2 h3 hR HXT HNF HPN HLN HNO HFN HSS HNN
          go_wp2_with fail
          refine cR.mono ?_
          rintro e w7 ⟨rfl, hb7⟩
          have u0 := v0.call hb7
          have u1 := v1.call hb7
          have hb07 := below_stepE hb6 hb6.size hb7
          have cF := HCF.out w7 hb07
          clear cR v0 v1 q0 q1 q2 q3 q4 q5 q6 HCF
          go_wp2_with fail
          refine cF.mono ?_
          rintro e w8 ⟨rfl, hb8⟩
          have s0 := u0.call hb8
          have s1 := u1.call hb8
          have hb68 := below_stepE hb7 hb7.size hb8
          have hb08 := below_stepE hb6 hb6.size hb68
          have hzL := Blk.new w8 #[.int .i64 vk, .int .i64 vi, .int .u64 vb, .string VS] 24
          have hbL := (Below.refl w8.heap.size w8).alloc (Nat.le_refl _) (.cells #[.int .i64 vk, .int .i64 vi, .int .u64 vb, .string VS] 24)
          have s0' := s0.call hbL
          have s1' := s1.call hbL
          have hb69 := below_stepE hb68 hb68.size hbL
          have hb09 := below_stepE hb6 hb6.size hb69
          clear cF u0 u1 hb7 hb07 hb8 s0 s1 hb68 hb08 a1 a2 a3
          go_upto_region 18 with fail
          generalize hw9 : w8.alloc (.cells #[.int .i64 vk, .int .i64 vi, .int .u64 vb, .string VS] 24) = w9 at *
          clear hw9 hbL
          generalize w8.heap.size = g8 at *
          cases B
          · have hfin := HFF.out (by trivial) w9 hb69
            have HFIN := Lib.hid hfin
            clear hfin HFF HFT hb69 hb09 hb6 cL hzL
            obtain ⟨q0, q1, q2, q3, q4, q5, q6⟩ := s0'.cells7
            obtain ⟨r0, r1, r2, r3, r4, r5, r6⟩ := s1'.cells7
            have f0 := s1'.free 0
            have f1 := s1'.free 1
            have f2 := s1'.free 2
            have f3 := s1'.free 3
            have f4 := s1'.free 4
            have f5 := s1'.free 5
            have f6 := s1'.free 6
            go_wp2_with fail
            exact bodyPost_ret (results_expr rfl _ _ (w.heap.size + 1) _ _ _ _ _ _ _ rfl s1'.set7) rfl HFIN.out
          · have hfin := HFT.out (by trivial)
            have HFIN := Lib.hid hfin
            clear hfin HFF HFT hb69 hb6 s0'
            obtain ⟨⟨q0, q1, q2, q3⟩, _⟩ := hzL.four
            go_wp2_with fail
            refine (cL _).mono ?_
            rintro e w10 ⟨rfl, hb10⟩
            have t1 := s1'.call hb10
            have hb010 := below_stepE hb09 hb09.size hb10
            clear cL hb10 hb09 s1' q0 q1 q2 q3 hzL
            obtain ⟨r0, r1, r2, r3, r4, r5, r6⟩ := t1.cells7
            have f0 := t1.free 0
            have f1 := t1.free 1
            have f2 := t1.free 2
            have f3 := t1.free 3
            have f4 := t1.free 4
            have f5 := t1.free 5
            have f6 := t1.free 6
            go_wp2_with fail
            exact bodyPost_ret (results_expr rfl _ _ (w.heap.size + 1) _ _ _ _ _ _ _ rfl t1.set7) rfl (HFIN.out _ hb010)
theorem folded_any : ∀ n, FoldOk n := by
  intro n
  induction n with
  | zero => intro t ao cap w h; have := T.deep_eq t; omega
  | succ n ih => exact folded_step n ih
/-- What Fold leaves: an error, and the tree beside it. -/
def FoldRPost (t : T) (w : World) (e : Ending) (w' : World) : Prop := ∃ ao' cap', e = .returned (.tuple #[exprV (foldR t) ao' cap', .int .i64 (exprR t)]) ∧ Hid (XTb w.heap.size w' (foldR t) ao' cap') ∧ Below w.heap.size w w'
theorem results_exprE {fn : Func} {t a : Tmp} (h : fn.results = #[.cell t 27, .tmp a]) (tmps : Array Value) (w : World) (g : Nat) (x0 x1 x2 x3 x4 x5 x6 : Value) (hp : tmps.getD t undef = .pointer (some ⟨g, 0, none⟩)) (hB : Blk w g 27 [x0, x1, x2, x3, x4, x5, x6]) :
    (results fn tmps).run Tryz.prog w = .ok (.tuple #[.agg #[x0, x1, x2, x3, x4, x5, x6], tmps.getD a undef]) w := by
  have c0 := hB.cell (j := 0) rfl
  have c1 := hB.cell (j := 1) rfl
  have c2 := hB.cell (j := 2) rfl
  have c3 := hB.cell (j := 3) rfl
  have c4 := hB.cell (j := 4) rfl
  have c5 := hB.cell (j := 5) rfl
  have c6 := hB.cell (j := 6) rfl
  have hp' : tmps[t]?.getD undef = .pointer (some ⟨g, 0, none⟩) := by simpa using hp
  simp [results, h, hp', go_sem, c0, c1, c2, c3, c4, c5, c6]
set_option maxHeartbeats 16000000 in
theorem Fold_any (t : T) (ao : Option Addr) (cap : Nat) (w : World) (hA : AtT w t ao) (hc : t.kids.length ≤ cap) (hc2 : cap ≤ 9223372036854775807) (hX : XEnv w) :
    Calls Tryz.prog 7 #[exprV t ao cap] w (FoldRPost t w) := by
  have cK := fun W (hW : Below w.heap.size w W) => exprCheck_any t ao cap W (hA.keep hW) (Nat.le_trans hc hc2) (hX.keep hW)
  have cF := fun W (h0 : exprR t = 0) (hW : Below w.heap.size w W) => folded_any t.deep t ao cap W (Nat.le_refl _) (exprR_form t h0) (hA.keep hW) hc hc2 (hX.keep hW).tabs
  have hbad : exprR t ≠ 0 → ∀ W, Below w.heap.size w W → FoldRPost t w (.returned (.tuple #[.agg #[.int .i64 0, .int .i64 0, .int .i64 0, .int .u64 0, .string ⟨#[]⟩, .string ⟨#[]⟩, .slice none 0 0], .int .i64 (exprR t)])) W := fun h0 W hW => by
    refine ⟨none, 0, ?_, ?_, hW⟩
    · unfold foldR; rw [if_pos h0]; rfl
    · unfold foldR; rw [if_pos h0]; exact Lib.hid (xtb_leaf _ _ _ (fitN_op 0 (by decide)))
  have hgood : exprR t = 0 → foldR t = foldT t := fun h0 => by unfold foldR; rw [if_neg (by rw [h0]; decide)]
  unfold FoldPost at cF
  unfold FoldRPost at hbad ⊢
  generalize exprR t = ef at *
  generalize foldR t = fr at *
  generalize foldT t = ft at *
  have HB := Lib.hid hbad
  have HG := Lib.hid hgood
  clear hbad hgood hA hX
  simp only [exprV_cells t] at cK cF ⊢
  generalize t.kids.length = L at *
  obtain ⟨⟨op, k, i, b, s, nm⟩, l⟩ := t
  simp only [T.nd] at *
  generalize str s = S at *
  generalize str nm = N at *
  obtain ⟨z0, z1, hb2⟩ := two_new w #[.int .i64 op, .int .i64 k, .int .i64 i, .int .u64 b, .string S, .string N, .slice ao L cap] #[.int .i64 0, .int .i64 0, .int .i64 0, .int .u64 0, .string ⟨#[]⟩, .string ⟨#[]⟩, .slice none 0 0] 27 27
  generalize hw2 : (w.alloc (.cells #[.int .i64 op, .int .i64 k, .int .i64 i, .int .u64 b, .string S, .string N, .slice ao L cap] 27)).alloc (.cells #[.int .i64 0, .int .i64 0, .int .i64 0, .int .u64 0, .string ⟨#[]⟩, .string ⟨#[]⟩, .slice none 0 0] 27) = w2 at z0 z1 hb2
  have c1 := cK w2 hb2
  obtain ⟨p0, p1, p2, p3, p4, p5, p6⟩ := z0.cells7
  go_enter Tryz.func7, Tryz.ntmps7
  go_upto_region 1 with fail
  try rw [hw2]
  clear hw2
  go_wp2_with fail
  refine c1.mono ?_
  rintro e w3 ⟨rfl, hb3⟩
  have hb03 := below_stepE hb2 hb2.size hb3
  have y0 := z0.call hb3
  have y1 := z1.call hb3
  clear c1 cK hb3 hb2 z0 z1 p0 p1 p2 p3 p4 p5 p6
  by_cases he : ef = 0
  · subst he
    have c2 := cF w3 (by trivial) hb03
    have hfr := HG.out (by trivial)
    subst hfr
    clear HB HG cF
    obtain ⟨p0, p1, p2, p3, p4, p5, p6⟩ := y0.cells7
    have hsz := y1.lt
    go_wp2_with fail
    refine c2.mono ?_
    rintro e w4 ⟨ao5, cap5, rfl, hX5, hb4⟩
    obtain ⟨xo, xk, xi, xb, xs, xm, xl, hxv, hxc⟩ := fexprV fr ao5 cap5
    rw [hxv]
    have x1 := y1.call hb4
    have hb04 := below_stepE hb03 hb03.size hb4
    have hfin : ∃ ao' cap', Ending.returned (.tuple #[.agg #[.int .i64 xo, .int .i64 xk, .int .i64 xi, .int .u64 xb, .string xs, .string xm, .slice ao5 xl cap5], .int .i64 0]) = Ending.returned (.tuple #[exprV fr ao' cap', .int .i64 0]) ∧ Hid (XTb w.heap.size (((((((w4.setCell ⟨w.heap.size + 1, 0, none⟩ (.int .i64 xo)).setCell ⟨w.heap.size + 1, 1, none⟩ (.int .i64 xk)).setCell ⟨w.heap.size + 1, 2, none⟩ (.int .i64 xi)).setCell ⟨w.heap.size + 1, 3, none⟩ (.int .u64 xb)).setCell ⟨w.heap.size + 1, 4, none⟩ (.string xs)).setCell ⟨w.heap.size + 1, 5, none⟩ (.string xm)).setCell ⟨w.heap.size + 1, 6, none⟩ (.slice ao5 xl cap5)) fr ao' cap') ∧ Below w.heap.size w (((((((w4.setCell ⟨w.heap.size + 1, 0, none⟩ (.int .i64 xo)).setCell ⟨w.heap.size + 1, 1, none⟩ (.int .i64 xk)).setCell ⟨w.heap.size + 1, 2, none⟩ (.int .i64 xi)).setCell ⟨w.heap.size + 1, 3, none⟩ (.int .u64 xb)).setCell ⟨w.heap.size + 1, 4, none⟩ (.string xs)).setCell ⟨w.heap.size + 1, 5, none⟩ (.string xm)).setCell ⟨w.heap.size + 1, 6, none⟩ (.slice ao5 xl cap5)) :=
      ⟨ao5, cap5, by rw [hxv], Lib.hid ((hX5.out.set7 (g := w.heap.size + 1) hsz).mono (by omega)), below_set7 hb04 (by omega)⟩
    have HFIN := Lib.hid hfin
    clear c2 hb4 hb04 hfin hX5 hxv hxc y0 y1 hb03 p0 p1 p2 p3 p4 p5 p6
    obtain ⟨r0, r1, r2, r3, r4, r5, r6⟩ := x1.cells7
    have f0 := x1.free 0
    have f1 := x1.free 1
    have f2 := x1.free 2
    have f3 := x1.free 3
    have f4 := x1.free 4
    have f5 := x1.free 5
    have f6 := x1.free 6
    go_wp2_with fail
    exact bodyPost_ret (results_exprE rfl _ _ (w.heap.size + 1) _ _ _ _ _ _ _ rfl x1.set7) rfl (by exact HFIN.out)
  · have he1 : (ef != 0) = true := by simpa using he
    have hfin := HB.out he
    have HFIN := Lib.hid hfin
    clear HB HG cF he hfin y0
    obtain ⟨r0, r1, r2, r3, r4, r5, r6⟩ := y1.cells7
    have f0 := y1.free 0
    have f1 := y1.free 1
    have f2 := y1.free 2
    have f3 := y1.free 3
    have f4 := y1.free 4
    have f5 := y1.free 5
    have f6 := y1.free 6
    have hbf := fun a0 a1 a2 a3 a4 a5 a6 => below_set7 (a0 := a0) (a1 := a1) (a2 := a2) (a3 := a3) (a4 := a4) (a5 := a5) (a6 := a6) hb03 (show w.heap.size ≤ w.heap.size + 1 by omega)
    go_wp2_with fail
    exact bodyPost_ret (results_exprE rfl _ _ (w.heap.size + 1) _ _ _ _ _ _ _ rfl y1.set7) rfl (by exact HFIN.out _ (hbf _ _ _ _ _ _ _))
end Go.Proofs.YtcccnpcejfmfcaaGreatDoor
namespace Go.Proofs.YtcccnpcejfmfcaaGreatDoor
open Go.RowKit
set_option linter.unusedVariables false
set_option maxRecDepth 100000

def sameLwOk (n : Nat) : Prop := ∀ (t : T) (ao : Option Addr) (cap : Nat) (ap : Option Addr) (caq : Nat) (w : World), t.deep ≤ n → AtT w t ao → t.kids.length ≤ 1000000 → AtT w t ap → (∀ d l, t = .mk d l → FewK l) →
    Calls Tryz.prog 9 #[exprV t ao cap, exprV t ap caq] w fun e w' => e = .returned (.bool true) ∧ Below w.heap.size w w'
set_option maxHeartbeats 16000000 in
theorem sameLw_step (m : Nat) (IH : sameLwOk m) : sameLwOk (m + 1) := by
  rintro ⟨d, l⟩ ao cap ap caq w hdp hA hk hP hfew
  have hdl : deepL l ≤ m := by simp only [T.deep] at hdp; omega
  simp only [AtT] at hA hP
  simp only [T.kids] at hk
  obtain ⟨n, hln⟩ : ∃ n, l.length = n := ⟨_, rfl⟩
  have hfw := hfew d l rfl
  have hget : ∀ j, j < n → ∃ t, l[j]? = some t := fun j hj => ⟨l[j]'(by omega), List.getElem?_eq_getElem (by omega)⟩
  have hpart : ∀ (j : Nat) (t : T), l[j]? = some t → ∃ a o ao' cap' b p ap' caq', (ao = some ⟨a, o, none⟩ ∧ a < w.heap.size) ∧ (ap = some ⟨b, p, none⟩ ∧ b < w.heap.size) ∧ (w.cell? ⟨a, o + j * 7, none⟩ = some (.int .i64 t.nd.op) ∧ w.cell? ⟨a, o + j * 7 + 1, none⟩ = some (.int .i64 t.nd.k) ∧ w.cell? ⟨a, o + j * 7 + 2, none⟩ = some (.int .i64 t.nd.i) ∧ w.cell? ⟨a, o + j * 7 + 3, none⟩ = some (.int .u64 t.nd.b) ∧ w.cell? ⟨a, o + j * 7 + 4, none⟩ = some (.string (str t.nd.t)) ∧ w.cell? ⟨a, o + j * 7 + 5, none⟩ = some (.string (str t.nd.n)) ∧ w.cell? ⟨a, o + j * 7 + 6, none⟩ = some (.slice ao' t.kids.length cap')) ∧
      (w.cell? ⟨b, p + j * 7, none⟩ = some (.int .i64 t.nd.op) ∧ w.cell? ⟨b, p + j * 7 + 1, none⟩ = some (.int .i64 t.nd.k) ∧ w.cell? ⟨b, p + j * 7 + 2, none⟩ = some (.int .i64 t.nd.i) ∧ w.cell? ⟨b, p + j * 7 + 3, none⟩ = some (.int .u64 t.nd.b) ∧ w.cell? ⟨b, p + j * 7 + 4, none⟩ = some (.string (str t.nd.t)) ∧ w.cell? ⟨b, p + j * 7 + 5, none⟩ = some (.string (str t.nd.n)) ∧ w.cell? ⟨b, p + j * 7 + 6, none⟩ = some (.slice ap' t.kids.length caq')) ∧
      ∀ W, Below w.heap.size w W → Calls Tryz.prog 9 #[exprV t ao' cap', exprV t ap' caq'] W fun e w' => e = .returned (.bool true) ∧ Below W.heap.size W w' := fun j t htj => by
    obtain ⟨a, o, e, ha, hnode⟩ := AtL.at hA.2 j t htj
    obtain ⟨b, p, e2, hb, hnode2⟩ := AtL.at hP.2 j t htj
    rw [Nat.zero_add] at hnode hnode2
    obtain ⟨ao', cap', n1, n2, nA, x0, x1, x2, x3, x4, x5, x6⟩ := hnode.cells
    obtain ⟨ap', caq', m1, m2, mA, y0, y1, y2, y3, y4, y5, y6⟩ := hnode2.cells
    have hm := List.mem_of_getElem? htj
    exact ⟨a, o, ao', cap', b, p, ap', caq', ⟨e, ha⟩, ⟨e2, hb⟩, ⟨x0, x1, x2, x3, x4, x5, x6⟩, ⟨y0, y1, y2, y3, y4, y5, y6⟩, fun W hW => IH t ao' cap' ap' caq' W (Nat.le_trans (deepK_mem htj) hdl) (nA.keep hW) (hfw.len t hm) (mA.keep hW) (hfw.sub t hm)⟩
  have HGET := Lib.hid hget
  have HPART := Lib.hid hpart
  have HLN := Lib.hid hln
  rw [exprV_cells, exprV_cells]
  simp only [T.nd, T.kids]
  rw [hln]
  rw [hln] at hk
  generalize str d.t = S
  generalize str d.n = N
  obtain ⟨z0, z1, hb2⟩ := two_new w #[.int .i64 d.op, .int .i64 d.k, .int .i64 d.i, .int .u64 d.b, .string S, .string N, .slice ao n cap] #[.int .i64 d.op, .int .i64 d.k, .int .i64 d.i, .int .u64 d.b, .string S, .string N, .slice ap n caq] 27 27
  generalize hw2 : (w.alloc (.cells #[.int .i64 d.op, .int .i64 d.k, .int .i64 d.i, .int .u64 d.b, .string S, .string N, .slice ao n cap] 27)).alloc (.cells #[.int .i64 d.op, .int .i64 d.k, .int .i64 d.i, .int .u64 d.b, .string S, .string N, .slice ap n caq] 27) = w2 at z0 z1 hb2
  obtain ⟨p0, p1, p2, p3, p4, p5, p6⟩ := z0.cells7
  obtain ⟨q0, q1, q2, q3, q4, q5, q6⟩ := z1.cells7
  generalize d.op = op at *
  generalize d.k = dk at *
  generalize d.i = di at *
  generalize d.b = db at *
  clear hget hpart hln hA hP hfw hfew hdl hdp IH
  go_enter Tryz.func9, Tryz.ntmps9
  go_upto_region 1 with fail
  try rw [hw2]
  clear hw2
  go_wp2_with fail
  go_loopw [37] (fun ix wr => ∃ (j : Nat), j ≤ n ∧ ix = .int .i64 j ∧ Hid (Blk wr w.heap.size 27 [.int .i64 op, .int .i64 dk, .int .i64 di, .int .u64 db, .string S, .string N, .slice ao n cap]) ∧ Hid (Blk wr (w.heap.size + 1) 27 [.int .i64 op, .int .i64 dk, .int .i64 di, .int .u64 db, .string S, .string N, .slice ap n caq]) ∧ Hid (Below w.heap.size w wr)) (fun ix _ => n - (intOf ix).toNat)
  case atStart => exact ⟨0, Nat.zero_le _, rfl, Lib.hid z0, Lib.hid z1, Lib.hid hb2⟩
  case round =>
    obtain ⟨j, hj, rfl, y0, y1, hbw⟩ := hrel
    clear z0 z1 hb2 p0 p1 p2 p3 p4 p5 p6 q0 q1 q2 q3 q4 q5 q6
    by_cases hlt : j < n
    · have iI : (j : Int) < (n : Int) := by omega
      obtain ⟨t, htj⟩ := HGET.out j hlt
      obtain ⟨a, o, ao', cap', b, p, ap', caq', ⟨rfl, ha⟩, ⟨rfl, hb⟩, ⟨x0, x1, x2, x3, x4, x5, x6⟩, ⟨g0, g1, g2, g3, g4, g5, g6⟩, cS⟩ := HPART.out j t htj
      simp only [exprV_cells] at cS
      generalize t.kids.length = KL at *
      generalize t.nd = nd at *
      obtain ⟨op', k', i', b', s', nm'⟩ := nd
      simp only at x0 x1 x2 x3 x4 x5 x6 g0 g1 g2 g3 g4 g5 g6 cS
      generalize str s' = S' at *
      generalize str nm' = N' at *
      have ha1 : a < wr.heap.size := Nat.lt_of_lt_of_le ha hbw.out.size
      have hb1 : b < wr.heap.size := Nat.lt_of_lt_of_le hb hbw.out.size
      have d0 := (hbw.out.cell (p := ⟨a, o + j * 7, none⟩) ha).trans x0
      have d1 := (hbw.out.cell (p := ⟨a, o + j * 7 + 1, none⟩) ha).trans x1
      have d2 := (hbw.out.cell (p := ⟨a, o + j * 7 + 2, none⟩) ha).trans x2
      have d3 := (hbw.out.cell (p := ⟨a, o + j * 7 + 3, none⟩) ha).trans x3
      have d4 := (hbw.out.cell (p := ⟨a, o + j * 7 + 4, none⟩) ha).trans x4
      have d5 := (hbw.out.cell (p := ⟨a, o + j * 7 + 5, none⟩) ha).trans x5
      have d6 := (hbw.out.cell (p := ⟨a, o + j * 7 + 6, none⟩) ha).trans x6
      have c0 := (hbw.out.cell (p := ⟨b, p + j * 7, none⟩) hb).trans g0
      have c1 := (hbw.out.cell (p := ⟨b, p + j * 7 + 1, none⟩) hb).trans g1
      have c2 := (hbw.out.cell (p := ⟨b, p + j * 7 + 2, none⟩) hb).trans g2
      have c3 := (hbw.out.cell (p := ⟨b, p + j * 7 + 3, none⟩) hb).trans g3
      have c4 := (hbw.out.cell (p := ⟨b, p + j * 7 + 4, none⟩) hb).trans g4
      have c5 := (hbw.out.cell (p := ⟨b, p + j * 7 + 5, none⟩) hb).trans g5
      have c6 := (hbw.out.cell (p := ⟨b, p + j * 7 + 6, none⟩) hb).trans g6
      have hz0 := y0.out
      have hz1 := y1.out
      have hbb := hbw.out
      clear htj x0 x1 x2 x3 x4 x5 x6 g0 g1 g2 g3 g4 g5 g6 ha hb y0 y1 hbw
      go_upto_region 6 with fail
      refine wp_region_det 12 (by kernel_rfl) (by kernel_rfl) (by kernel_rfl) ?_
      simp only [List.take_succ_cons, List.take_zero, List.drop_succ_cons, List.drop_zero]
      apply wpDet_plain _ rfl; (focus (intro W hW; go_simp; exact ⟨rfl, Below.refl _ _⟩)); simp only [Act.put, List.setIfInBounds_toArray, List.set_cons_zero, List.set_cons_succ]
      apply wpDet_plain _ rfl; (focus (intro W hW; have q0 := (hz0.call hW).cell (j := 6) rfl; go_simp; exact ⟨rfl, Below.refl _ _⟩)); simp only [Act.put, List.setIfInBounds_toArray, List.set_cons_zero, List.set_cons_succ]
      apply wpDet_plain _ rfl; (focus (intro W hW; go_simp; exact ⟨rfl, Below.refl _ _⟩)); simp only [Act.put, List.setIfInBounds_toArray, List.set_cons_zero, List.set_cons_succ]
      apply wpDet_plain _ rfl; (focus (intro W hW; go_simp; exact ⟨rfl, Below.refl _ _⟩)); simp only [Act.put, List.setIfInBounds_toArray, List.set_cons_zero, List.set_cons_succ]
      apply wpDet_plain _ rfl; (focus (intro W hW; have q0 := (hW.cell (p := ⟨a, o + j * 7, none⟩) ha1).trans d0; have q1 := (hW.cell (p := ⟨a, o + j * 7 + 1, none⟩) ha1).trans d1; have q2 := (hW.cell (p := ⟨a, o + j * 7 + 2, none⟩) ha1).trans d2; have q3 := (hW.cell (p := ⟨a, o + j * 7 + 3, none⟩) ha1).trans d3; have q4 := (hW.cell (p := ⟨a, o + j * 7 + 4, none⟩) ha1).trans d4; have q5 := (hW.cell (p := ⟨a, o + j * 7 + 5, none⟩) ha1).trans d5; have q6 := (hW.cell (p := ⟨a, o + j * 7 + 6, none⟩) ha1).trans d6; go_simp; exact ⟨rfl, Below.refl _ _⟩)); simp only [Act.put, List.setIfInBounds_toArray, List.set_cons_zero, List.set_cons_succ]
      apply wpDet_plain _ rfl; (focus (intro W hW; go_simp; exact ⟨rfl, Below.refl _ _⟩)); simp only [Act.put, List.setIfInBounds_toArray, List.set_cons_zero, List.set_cons_succ]
      apply wpDet_plain _ rfl; (focus (intro W hW; have q0 := (hz1.call hW).cell (j := 6) rfl; go_simp; exact ⟨rfl, Below.refl _ _⟩)); simp only [Act.put, List.setIfInBounds_toArray, List.set_cons_zero, List.set_cons_succ]
      apply wpDet_plain _ rfl; (focus (intro W hW; go_simp; exact ⟨rfl, Below.refl _ _⟩)); simp only [Act.put, List.setIfInBounds_toArray, List.set_cons_zero, List.set_cons_succ]
      apply wpDet_plain _ rfl; (focus (intro W hW; go_simp; exact ⟨rfl, Below.refl _ _⟩)); simp only [Act.put, List.setIfInBounds_toArray, List.set_cons_zero, List.set_cons_succ]
      apply wpDet_plain _ rfl; (focus (intro W hW; have q0 := (hW.cell (p := ⟨b, p + j * 7, none⟩) hb1).trans c0; have q1 := (hW.cell (p := ⟨b, p + j * 7 + 1, none⟩) hb1).trans c1; have q2 := (hW.cell (p := ⟨b, p + j * 7 + 2, none⟩) hb1).trans c2; have q3 := (hW.cell (p := ⟨b, p + j * 7 + 3, none⟩) hb1).trans c3; have q4 := (hW.cell (p := ⟨b, p + j * 7 + 4, none⟩) hb1).trans c4; have q5 := (hW.cell (p := ⟨b, p + j * 7 + 5, none⟩) hb1).trans c5; have q6 := (hW.cell (p := ⟨b, p + j * 7 + 6, none⟩) hb1).trans c6; go_simp; exact ⟨rfl, Below.refl _ _⟩)); simp only [Act.put, List.setIfInBounds_toArray, List.set_cons_zero, List.set_cons_succ]
      apply wpDet_plain _ rfl; (focus (intro W hW; go_simp; exact cS W (below_stepE hbb hbb.size hW))); simp only [Act.put, List.setIfInBounds_toArray, List.set_cons_zero, List.set_cons_succ]
      apply wpDet_plain _ rfl; (focus (intro W hW; go_simp; exact ⟨rfl, Below.refl _ _⟩)); simp only [Act.put, List.setIfInBounds_toArray, List.set_cons_zero, List.set_cons_succ]
      refine wpDet_nil ?_; intro W hW
      have Y0 := Lib.hid (hz0.call hW)
      have Y1 := Lib.hid (hz1.call hW)
      have HB := Lib.hid (below_stepE hbb hbb.size hW)
      clear cS c0 c1 c2 c3 c4 c5 c6 d0 d1 d2 d3 d4 d5 d6 hz0 hz1 hbb hW ha1 hb1
      go_wp2_with fail
      go_roundw
      case rel => exact ⟨j + 1, by omega, by go_num, Y0, Y1, HB⟩
      case measure => simp [intOf]; omega
    · have iI : ¬ (j : Int) < (n : Int) := by omega
      go_wp2_with fail
      go_ret
      exact ⟨rfl, hbw.out⟩
theorem sameLw_any : ∀ n, sameLwOk n := by
  intro n
  induction n with
  | zero => intro t ao cap ap caq w h; have := T.deep_eq t; omega
  | succ n ih => exact sameLw_step n ih
end Go.Proofs.YtcccnpcejfmfcaaGreatDoor
namespace Go.Proofs.YtcccnpcejfmfcaaGreatDoor
open Go.RowKit
set_option linter.unusedVariables false
set_option maxRecDepth 100000

theorem XTb.grown {b : Nat} {w w' : World} {t : T} {ao : Option Addr} {cap : Nat} {r : Option Nat} (h : XTb b w t ao cap) (hg : w.grownBy w' r) (hr : ∀ k, r = some k → k < b) : XTb b w' t ao cap :=
  XT.keep h (lo_below hg.os hg.tape hg.output hg.size (fun q hq hs => hg.block q hs (fun e => by have := hr q e.symm; omega)))
/-- append(l, x) of a row of expressions, with what it writes. -/
theorem wpList_append_xg {ops : Array Oper} {rest : List Oper} {o : Oper} {a : Act} {Q : Exit → Act → World → Prop} {w : World} (hgd : o.guard = none) (s x : Operand)
    (ho : o.op = .call { callee := .builtin .append, args := #[s, x], argTypes := #[25, 25] }) (base : Nat) (v : Value) (l : List XE) (hs : a.eval s = v) (hown : OwnX w base v l)
    (y : XE) (g : Nat) (hx : a.eval x = .slice (some ⟨g, 0, none⟩) 1 1) (h2 : Blk w g 27 (cellsX1 y)) (hl : l.length ≤ 1000) (hb : base ≤ w.heap.size)
    (h : ∀ v' w', OwnX w' base v' (l ++ [y]) → w.grownBy w' v.ownBlock → wpList Tryz.prog ops Q rest (a.put o.dst v') w') : wpList Tryz.prog ops Q (o :: rest) a w := by
  obtain ⟨i0, hi, hz0, hz1, hz2⟩ := info_parts infoX
  refine wpList_append_own _ hgd s x 25 ho base 27 i0 _ 7 88 Tryz.underlying25 hi hz0 hz1 hz2 rfl (by decide) v l.length (cellsX l) hs hown ⟨g, 0, none⟩ 1 1 (cellsX [y]) hx (by rw [cellsX_length]; rfl) ?_ ?_ (by unfold maxLen; omega) (by omega) hb ?_
  · intro j u hj
    rw [addr_addX, Nat.zero_add]
    refine h2.cell ?_
    simpa [cellsX] using hj
  · intro u hu
    unfold cellsX at hu
    obtain ⟨x, _, hx⟩ := List.mem_flatMap.1 hu
    simp [cellsX1, ndC] at hx
    rcases hx with rfl | rfl | rfl | rfl | rfl | rfl | rfl <;> rfl
  · intro v' w' h1 hg _
    refine h v' w' ?_ hg
    unfold OwnX
    rw [cellsX_append, List.length_append]
    exact h1
/-- What lay from B on in w1 lies so still. -/
def KeptB (B : Nat) (w1 wr : World) : Prop := Below (lo B w1).heap.size (lo B w1) (lo B wr)
theorem KeptB.of {B : Nat} {w1 wr : World} (h : Below w1.heap.size w1 wr) : KeptB B w1 wr := lo_below h.os h.tape h.output h.size (fun q _ hs => h.block q hs)
theorem KeptB.trans {B : Nat} {w1 wr w' : World} (h : KeptB B w1 wr) (k : KeptB B wr w') : KeptB B w1 w' := Below.trans h (Below.mono k (Below.size h))
theorem KeptB.set {B : Nat} (w : World) (a : Addr) (v : Value) (ha : a.block < B) : KeptB B w (w.setCell a v) := lo_below rfl rfl rfl (by simp [World.setCell]) (fun q hq _ => Below.heap_setCell w a v q (by omega))
theorem KeptB.grown {B : Nat} {w1 wr w' : World} {r : Option Nat} (h : KeptB B w1 wr) (hg : wr.grownBy w' r) (hr : ∀ k, r = some k → w1.heap.size ≤ k) : KeptB B w1 w' :=
  lo_below (hg.os.trans (show wr.os = w1.os from (show Below _ (lo B w1) (lo B wr) from h).os)) (hg.tape.trans (show wr.tape = w1.tape from (show Below _ (lo B w1) (lo B wr) from h).tape)) (hg.output.trans (show wr.output = w1.output from (show Below _ (lo B w1) (lo B wr) from h).output)) (by have := Below.size h; rw [lo_size, lo_size] at this; exact Nat.le_trans this hg.size)
    (fun q hq hs => by
      have h1 := Below.block h q (by rw [lo_size]; exact hs)
      rw [lo_at B wr q hq, lo_at B w1 q hq] at h1
      have hsz := Below.size h
      rw [lo_size, lo_size] at hsz
      rw [← h1]
      exact hg.block q (by omega) (fun e => by have := hr q e.symm; omega))
theorem XTb.kept {B : Nat} {w1 wr : World} {t : T} {ao : Option Addr} {cap : Nat} (h : XTb B w1 t ao cap) (k : KeptB B w1 wr) : XTb B wr t ao cap := XT.keep h k
theorem OwnX.set {w : World} {base g j : Nat} {v u : Value} {l : List XE} (h : OwnX w base v l) (hg : g < base) : OwnX (w.setCell ⟨g, j, none⟩ u) base v l := by
  refine World.ownsRow.kept (row := some g) h (mv_cell w g j u) (.inr ?_)
  intro e
  have := (h.lt g e).1
  omega
theorem OwnX.mono {w : World} {base b : Nat} {v : Value} {l : List XE} (h : OwnX w base v l) (hb : b ≤ base) : OwnX w b v l := by
  refine ⟨h.1, ?_⟩
  rcases h.2 with h | ⟨g, cap, cur, q0, q1, q2⟩
  · exact .inl h
  · exact .inr ⟨g, cap, cur, q0, Nat.le_trans hb q1, q2⟩
/-- The row of the parts that are folded so far: each tree lies apart from the row's own block. -/
def RowSt (l : List T) (B : Nat) (wr : World) (v : Value) : Nat → Prop
  | 0 => v = .slice none 0 0
  | 1 => ∃ (x : XE) (w1 : World), B ≤ w1.heap.size ∧ OwnX wr w1.heap.size v [x] ∧ (foldL l).take 1 = [x.t] ∧ XTb B w1 x.t x.ao x.cap ∧ KeptB B w1 wr ∧ w1.heap.size ≤ wr.heap.size
  | _ => ∃ (x y : XE), OwnX wr B v [x, y] ∧ foldL l = [x.t, y.t] ∧ XTb B wr x.t x.ao x.cap ∧ XTb B wr y.t y.ao y.cap
theorem RowSt.keep {l : List T} {B : Nat} {wr w' : World} {v : Value} {j : Nat} (h : RowSt l B wr v j) (hb : Below wr.heap.size wr w') : RowSt l B w' v j := by
  match j, h with
  | 0, h => exact h
  | 1, ⟨x, w1, h1, h2, h3, h4, h5, h6⟩ => exact ⟨x, w1, h1, h2.keep hb, h3, h4, h5.trans (KeptB.of hb), Nat.le_trans h6 hb.size⟩
  | _ + 2, ⟨x, y, h1, h2, h3, h4⟩ => exact ⟨x, y, h1.keep hb, h2, h3.below hb, h4.below hb⟩
theorem RowSt.set {l : List T} {B : Nat} {wr : World} {v u : Value} {j g q : Nat} (h : RowSt l B wr v j) (hg : g < B) : RowSt l B (wr.setCell ⟨g, q, none⟩ u) v j := by
  match j, h with
  | 0, h => exact h
  | 1, ⟨x, w1, h1, h2, h3, h4, h5, h6⟩ => exact ⟨x, w1, h1, h2.set (by omega), h3, h4, h5.trans (KeptB.set wr ⟨g, q, none⟩ u hg), Nat.le_trans h6 (by simp [World.setCell])⟩
  | _ + 2, ⟨x, y, h1, h2, h3, h4⟩ => exact ⟨x, y, h1.set hg, h2, h3.set ⟨g, q, none⟩ u hg, h4.set ⟨g, q, none⟩ u hg⟩
theorem RowSt.nil (l : List T) (B : Nat) (w : World) : RowSt l B w (.slice none 0 0) 0 := rfl
/-- The first part is put in. -/
theorem RowSt.first {l : List T} {B : Nat} {w7 w8 : World} {v' : Value} {x : XE} (hB : B ≤ w7.heap.size) (hl : (foldL l).take 1 = [x.t]) (hx : XTb B w7 x.t x.ao x.cap) (ho : OwnX w8 w7.heap.size v' ([] ++ [x])) (hg : w7.grownBy w8 (Value.slice none 0 0).ownBlock) : RowSt l B w8 v' 1 :=
  ⟨x, w7, hB, ho, hl, hx, KeptB.of ((Below.refl w7.heap.size w7).grown hg (Nat.le_refl _) (fun k h => by cases h)), hg.size⟩
/-- The second part is put in. -/
theorem RowSt.second {l : List T} {B b : Nat} {wr w7 w8 : World} {v v' : Value} {x y : XE} {w1 : World} (hB : B ≤ w1.heap.size) (hl : foldL l = [x.t, y.t]) (hx : XTb B w1 x.t x.ao x.cap) (hk : KeptB B w1 w7) (hv : OwnX wr w1.heap.size v [x]) (hb : wr.heap.size ≤ b) (hBb : B ≤ b) (hy : XTb b w7 y.t y.ao y.cap) (ho : OwnX w8 w1.heap.size v' ([x] ++ [y])) (hg : w7.grownBy w8 v.ownBlock) : RowSt l B w8 v' 2 :=
  ⟨x, y, ho.mono hB, hl, hx.kept (hk.grown hg (fun k h => (hv.lt k h).1)), (hy.grown hg (fun k h => by have := (hv.lt k h).2; omega)).mono hBb⟩
theorem RowSt.shape {l : List T} {B : Nat} {wr : World} {v : Value} {j : Nat} (h : RowSt l B wr v j) (hj : j ≤ 2) : ∃ av cv, v = .slice av j cv ∧ j ≤ cv ∧ cv ≤ 9223372036854775807 ∧ (av = none → cv = 0) := by
  have go : ∀ (base : Nat) (es : List XE), OwnX wr base v es → ∃ av cv, v = .slice av es.length cv ∧ es.length ≤ cv ∧ cv ≤ 9223372036854775807 ∧ (av = none → cv = 0) := fun base es ho => by
    rcases ho.2 with ⟨rfl, hz⟩ | ⟨g, cap, cur, rfl, _, _, h1, h2, _⟩
    · exact ⟨none, 0, by rw [hz], by omega, by decide, fun _ => rfl⟩
    · exact ⟨_, cap, rfl, h1, h2, fun h => by cases h⟩
  match j, h with
  | 0, h => exact ⟨none, 0, h, Nat.le_refl _, by decide, fun _ => rfl⟩
  | 1, ⟨x, w1, _, h2, _⟩ => exact go _ _ h2
  | 2, ⟨x, y, h1, _⟩ => exact go _ _ h1
/-- A node over such a row. -/
theorem RowSt.tree {l : List T} {B : Nat} {wr : World} {av : Option Addr} {cv : Nat} {n : Nat} (h : RowSt l B wr (.slice av n cv) n) (hn : n = (foldL l).length) (h1 : 1 ≤ n) (h2 : n ≤ 2) (d : Nd) (hd : FitN d) : XTb B wr (.mk d (foldL l)) av cv := by
  have go : ∀ (es : List XE), OwnX wr B (.slice av n cv) es → foldL l = es.map XE.t → (∀ x ∈ es, XTb B wr x.t x.ao x.cap) → n = es.length → XTb B wr (.mk d (foldL l)) av cv := fun es ho he hx hl => by
    subst hl
    rcases ho.2 with ⟨_, hz⟩ | ⟨g, cap, cur, hv, hB, hh, q1, q2, _⟩
    · omega
    simp only [Value.slice.injEq] at hv
    obtain ⟨rfl, _, rfl⟩ := hv
    have hlt : g < wr.heap.size := (Array.getElem?_eq_some_iff.1 hh).1
    refine ⟨?_, by show (foldL l).length ≤ _; omega, q2, fun h => by cases h⟩
    simp only [AtT]
    refine ⟨hd, atL_of rfl (by rw [lo_size]; exact hlt) _ 0 (fun i t ht => ?_)⟩
    rw [he, List.getElem?_map] at ht
    cases hy : es[i]? with
    | none => rw [hy] at ht; cases ht
    | some y =>
      rw [hy] at ht
      obtain rfl := Option.some.inj ht
      have hil := (List.getElem?_eq_some_iff.1 hy).1
      have hyx := hx y (List.mem_of_getElem? hy)
      rw [Nat.zero_add]
      have hcell : ∀ q v, (cellsX1 y)[q]? = some v → (lo B wr).cell? ⟨g, 0 + i * 7 + q, none⟩ = some v := fun q v hv => by
        have hq : q < 7 := by have := (List.getElem?_eq_some_iff.1 hv).1; rw [cellsX1_length] at this; exact this
        rw [lo_cell B wr _ hB, Nat.zero_add, World.ownsRow.cellAt ho (i * 7 + q) (by omega), cellsX_at es i q y hy hq]
        exact hv
      refine ⟨y.ao, y.cap, fun q v hv => ?_, hcell 6 _ rfl, hyx.n1, ⟨hyx.n2, hyx.n3⟩, hyx.A⟩
      have hq : q < 6 := by have := (List.getElem?_eq_some_iff.1 hv).1; simpa [ndC] using this
      refine hcell q v ?_
      unfold cellsX1
      rw [List.getElem?_append_left (by show q < 6; exact hq)]; exact hv
  rcases (show n = 1 ∨ n = 2 by omega) with rfl | rfl
  · obtain ⟨x, w1, hB, h2, h3, h4, h5, _⟩ := h
    have hf : foldL l = [x.t] := by rw [← h3, List.take_of_length_le (by omega)]
    refine go [x] ?_ (by rw [hf]; rfl) (fun y hy => by rw [List.mem_singleton] at hy; subst hy; exact h4.kept h5) rfl
    exact h2.mono hB
  · obtain ⟨x, y, h1, h2, h3, h4⟩ := h
    exact go [x, y] h1 (by rw [h2]; rfl) (fun z hz => by
      rcases List.mem_cons.1 hz with rfl | hz
      · exact h3
      · rw [List.mem_singleton] at hz; subst hz; exact h4) rfl
end Go.Proofs.YtcccnpcejfmfcaaGreatDoor
namespace Go.Proofs.YtcccnpcejfmfcaaGreatDoor
open Go.RowKit
set_option linter.unusedVariables false
set_option maxRecDepth 100000

theorem fexprVo (t : T) (ao : Option Addr) (cap : Nat) : ∃ (xo xk xi xb : Int) (xs xm : ByteArray) (xl : Nat), exprV t ao cap = .agg #[.int .i64 xo, .int .i64 xk, .int .i64 xi, .int .u64 xb, .string xs, .string xm, .slice ao xl cap] ∧ cellsX1 ⟨t, ao, cap⟩ = [.int .i64 xo, .int .i64 xk, .int .i64 xi, .int .u64 xb, .string xs, .string xm, .slice ao xl cap] ∧ t.nd.op = xo := ⟨_, _, _, _, _, _, _, exprV_cells t ao cap, rfl, rfl⟩
def RFoldOk (n : Nat) : Prop := ∀ (t : T) (ao : Option Addr) (cap : Nat) (w : World), t.deep ≤ n → formT t = 0 → AtT w t ao → t.kids.length ≤ cap → (cap ≤ 9223372036854775807 ∧ (ao = none → cap = 0)) →
    Calls Tryz.prog 18 #[exprV t ao cap] w (FoldPost (foldT t) w)
set_option maxHeartbeats 8000000 in
theorem rfold_leaf (d : Nd) (ao : Option Addr) (cap : Nat) (w : World) (hA : AtT w (.mk d []) ao) (hc : cap ≤ 9223372036854775807 ∧ (ao = none → cap = 0)) :
    Calls Tryz.prog 18 #[exprV (.mk d []) ao cap] w (FoldPost (foldT (.mk d [])) w) := by
  have hfin : ∀ W, Below w.heap.size w W → FoldPost (foldT (.mk d [])) w (.returned (.agg #[.int .i64 d.op, .int .i64 d.k, .int .i64 d.i, .int .u64 d.b, .string (str d.t), .string (str d.n), .slice ao 0 cap])) (((((((W.setCell ⟨w.heap.size + 1, 0, none⟩ (.int .i64 d.op)).setCell ⟨w.heap.size + 1, 1, none⟩ (.int .i64 d.k)).setCell ⟨w.heap.size + 1, 2, none⟩ (.int .i64 d.i)).setCell ⟨w.heap.size + 1, 3, none⟩ (.int .u64 d.b)).setCell ⟨w.heap.size + 1, 4, none⟩ (.string (str d.t))).setCell ⟨w.heap.size + 1, 5, none⟩ (.string (str d.n))).setCell ⟨w.heap.size + 1, 6, none⟩ (.slice ao 0 cap)) := fun W hW => by
    refine fold_done hW (u := foldT (.mk d [])) (ao := ao) (cap := cap) ?_ (by omega) (by rw [foldT_leaf, exprV_cells]; rfl)
    rw [foldT_leaf]
    simp only [AtT] at hA
    exact ⟨by simp only [AtT, AtL]; exact ⟨hA.1, trivial⟩, Nat.zero_le _, hc.1, hc.2⟩
  rw [exprV_cells]
  simp only [T.nd, T.kids, List.length_nil]
  generalize str d.t = S at *
  generalize str d.n = N at *
  have HFIN := Lib.hid hfin
  clear hfin hA
  obtain ⟨z0, z1, hb2⟩ := two_new w #[.int .i64 d.op, .int .i64 d.k, .int .i64 d.i, .int .u64 d.b, .string S, .string N, .slice ao 0 cap] #[.int .i64 0, .int .i64 0, .int .i64 0, .int .u64 0, .string ⟨#[]⟩, .string ⟨#[]⟩, .slice none 0 0] 27 27
  generalize hw2 : (w.alloc (.cells #[.int .i64 d.op, .int .i64 d.k, .int .i64 d.i, .int .u64 d.b, .string S, .string N, .slice ao 0 cap] 27)).alloc (.cells #[.int .i64 0, .int .i64 0, .int .i64 0, .int .u64 0, .string ⟨#[]⟩, .string ⟨#[]⟩, .slice none 0 0] 27) = w2 at z0 z1 hb2
  obtain ⟨p0, p1, p2, p3, p4, p5, p6⟩ := z0.cells7
  obtain ⟨r0, r1, r2, r3, r4, r5, r6⟩ := z1.cells7
  have f0 := z1.free 0
  have f1 := z1.free 1
  have f2 := z1.free 2
  have f3 := z1.free 3
  have f4 := z1.free 4
  have f5 := z1.free 5
  have f6 := z1.free 6
  go_enter Tryz.func18, Tryz.ntmps18
  go_upto_region 1 with fail
  try rw [hw2]
  clear hw2
  go_wp2_with fail
  exact bodyPost_ret (results_expr rfl _ _ (w.heap.size + 1) _ _ _ _ _ _ _ rfl z1.set7) rfl (HFIN.out _ hb2)
set_option maxHeartbeats 32000000 in
theorem rfold_node (m : Nat) (IH : RFoldOk m) (d : Nd) (l : List T) (ao : Option Addr) (cap : Nat) (w : World) (h3 : 3 ≤ d.op) (hdp : (T.mk d l).deep ≤ m + 1) (hf : formT (.mk d l) = 0) (hA : AtT w (.mk d l) ao) :
    Calls Tryz.prog 18 #[exprV (.mk d l) ao cap] w (FoldPost (foldT (.mk d l)) w) := by
  obtain ⟨hn, hl⟩ := formT_open d l hf
  have hno := nodeF_open d _ hn
  have hdl : deepL l ≤ m := by simp only [T.deep] at hdp; omega
  have hF := atT_fit (T.mk d l).deep _ ao (Nat.le_refl _) hA
  obtain ⟨hmf, hmF⟩ := fold_mk hF hf
  simp only [AtT] at hA
  have hp := hno.2.1
  have hL2 : 1 ≤ l.length ∧ l.length ≤ 2 := by rw [hp]; unfold partsN; rw [if_neg (by omega)]; split <;> omega
  obtain ⟨n, hln⟩ : ∃ n, l.length = n := ⟨_, rfl⟩
  have hd0 : d = ⟨d.op, 0, 0, 0, [], []⟩ := by
    obtain ⟨_, _, h1, h2⟩ := hno
    unfold nOk at h1
    rw [if_neg (by omega)] at h1
    unfold vOk at h2
    rw [if_neg (by omega)] at h2
    obtain ⟨op, k, i, b, s, nm⟩ := d
    simp only [Bool.and_eq_true, beq_iff_eq, List.isEmpty_iff] at h1 h2
    obtain ⟨⟨⟨rfl, rfl⟩, rfl⟩, rfl⟩ := h2
    subst h1; rfl
  have hget : ∀ j, j < n → ∃ t, l[j]? = some t := fun j hj => ⟨l[j]'(by omega), List.getElem?_eq_getElem (by omega)⟩
  have hpart : ∀ (j : Nat) (t : T), l[j]? = some t → ∃ a o ao' cap', ao = some ⟨a, o, none⟩ ∧ a < w.heap.size ∧ w.cell? ⟨a, o + j * 7, none⟩ = some (.int .i64 t.nd.op) ∧ w.cell? ⟨a, o + j * 7 + 1, none⟩ = some (.int .i64 t.nd.k) ∧ w.cell? ⟨a, o + j * 7 + 2, none⟩ = some (.int .i64 t.nd.i) ∧ w.cell? ⟨a, o + j * 7 + 3, none⟩ = some (.int .u64 t.nd.b) ∧ w.cell? ⟨a, o + j * 7 + 4, none⟩ = some (.string (str t.nd.t)) ∧ w.cell? ⟨a, o + j * 7 + 5, none⟩ = some (.string (str t.nd.n)) ∧ w.cell? ⟨a, o + j * 7 + 6, none⟩ = some (.slice ao' t.kids.length cap') ∧
      ∀ W, Below w.heap.size w W → Calls Tryz.prog 18 #[exprV t ao' cap'] W (FoldPost (foldT t) W) := fun j t htj => by
    obtain ⟨a, o, e, ha, hnode⟩ := AtL.at hA.2 j t htj
    rw [Nat.zero_add] at hnode
    obtain ⟨ao', cap', h1, h2, h4, h5, h6⟩ := hnode
    exact ⟨a, o, ao', cap', e, ha, h1 0 _ rfl, h1 1 _ rfl, h1 2 _ rfl, h1 3 _ rfl, h1 4 _ rfl, h1 5 _ rfl, h2, fun W hW => IH t ao' cap' W (Nat.le_trans (deepK_mem htj) hdl) (formL_mem l hl t (List.mem_of_getElem? htj)) (h6.keep hW) h4 h5⟩
  have hsnoc : ∀ (j : Nat) (t : T), l[j]? = some t → (foldL l).take (j + 1) = (foldL l).take j ++ [foldT t] := fun j t h => foldL_get l j t h
  have hfn : (foldL l).length = n := by rw [foldL_map, List.length_map]; exact hln
  have hfull : ∀ j, n ≤ j → (foldL l).take j = foldL l := fun j hj => List.take_of_length_le (by omega)
  have hn12 : 1 ≤ n ∧ n ≤ 2 := by omega
  have hft : foldT (.mk d l) = nodeX d (foldL l) := foldT_node d l (fun e => by rw [e] at hln; simp at hln; omega)
  have hns := nodeX_say d (foldL l) _ rfl
  have hok : OkR (evT [] [] (.mk d (foldL l))) := ok_ev [] [] (fun v hv => by cases hv) _ _ (Nat.le_refl _) hmF hmf
  -- what is known once the row stands
  have hend : ∀ (W : World) (av : Option Addr) (cv : Nat), RowSt l (w.heap.size + 1 + 1 + 1) W (.slice av n cv) n → XTb (w.heap.size + 1 + 1 + 1) W (.mk d (foldL l)) av cv := fun W av cv h => h.tree hfn.symm hn12.1 hn12.2 d hA.1
  have hval : ∀ (W : World) (av : Option Addr) (cv : Nat), XT W (.mk d (foldL l)) av cv → Calls Tryz.prog 16 #[exprV (.mk d (foldL l)) av cv, .slice none 0 0, .slice none 0 0] W (RekOk (evT [] [] (.mk d (foldL l))) W) := fun W av cv h => by
    have := val_any _ (.mk d (foldL l)) av cv [] none 0 [] none 0 W (Nat.le_refl _) hmF hmf h.A ⟨⟨fun c hc => (by cases hc), .inl rfl⟩, ⟨fun c hc => (by cases hc), .inl rfl⟩, by decide, by decide, rfl, fun v hv => by cases hv⟩
    simpa using this
  have hexp : ∀ av cv, exprV (.mk d (foldL l)) av cv = .agg #[.int .i64 d.op, .int .i64 0, .int .i64 0, .int .u64 0, .string ⟨#[]⟩, .string ⟨#[]⟩, .slice av n cv] := fun av cv => by
    rw [exprV_cells]
    simp only [T.nd, T.kids]
    rw [hfn]
    conv => lhs; rw [hd0]
    rfl
  obtain ⟨V, hV⟩ : ∃ V, evT [] [] (.mk d (foldL l)) = V := ⟨_, rfl⟩
  rw [hV] at hns hok hval
  have hmfK : (litsL (foldL l) && ((V.f == 0) && decide (0 ≤ V.v.i))) = true → foldT (.mk d l) = litV V.v := fun h => by rw [hft, hns, if_pos h]
  have hmfN : (litsL (foldL l) && ((V.f == 0) && decide (0 ≤ V.v.i))) = false → foldT (.mk d l) = .mk d (foldL l) := fun h => by rw [hft, hns, if_neg (by rw [h]; decide)]
  have HGET := Lib.hid hget
  have HPART := Lib.hid hpart
  have HSNOC := Lib.hid hsnoc
  have HFULL := Lib.hid hfull
  have HEND := Lib.hid hend
  have HVAL := Lib.hid hval
  have HEXP := Lib.hid hexp
  have HOK := Lib.hid hok
  have HMK := Lib.hid hmfK
  have HMN := Lib.hid hmfN
  rw [exprV_cells]
  simp only [T.nd, T.kids]
  rw [hln]
  generalize str d.t = S at *
  generalize str d.n = N at *
  obtain ⟨c0, c1, hb2⟩ := two_new w #[.int .i64 d.op, .int .i64 d.k, .int .i64 d.i, .int .u64 d.b, .string S, .string N, .slice ao n cap] #[.int .i64 0, .int .i64 0, .int .i64 0, .int .u64 0, .string ⟨#[]⟩, .string ⟨#[]⟩, .slice none 0 0] 27 27
  generalize hw2 : (w.alloc (.cells #[.int .i64 d.op, .int .i64 d.k, .int .i64 d.i, .int .u64 d.b, .string S, .string N, .slice ao n cap] 27)).alloc (.cells #[.int .i64 0, .int .i64 0, .int .i64 0, .int .u64 0, .string ⟨#[]⟩, .string ⟨#[]⟩, .slice none 0 0] 27) = w2 at c0 c1 hb2
  have hs2 : w2.heap.size = w.heap.size + 1 + 1 := by rw [← hw2]; simp
  obtain ⟨w3, hw3⟩ : ∃ w3, w2.alloc (.cells #[.int .i64 d.op, .int .i64 0, .int .i64 0, .int .u64 0, .string ⟨#[]⟩, .string ⟨#[]⟩, .slice none 0 0] 27) = w3 := ⟨_, rfl⟩
  have z0 := c0.alloc (.cells #[.int .i64 d.op, .int .i64 0, .int .i64 0, .int .u64 0, .string ⟨#[]⟩, .string ⟨#[]⟩, .slice none 0 0] 27)
  have z1 := c1.alloc (.cells #[.int .i64 d.op, .int .i64 0, .int .i64 0, .int .u64 0, .string ⟨#[]⟩, .string ⟨#[]⟩, .slice none 0 0] 27)
  have z2 := Blk.new w2 #[.int .i64 d.op, .int .i64 0, .int .i64 0, .int .u64 0, .string ⟨#[]⟩, .string ⟨#[]⟩, .slice none 0 0] 27
  have hb3 := hb2.alloc hb2.size (.cells #[.int .i64 d.op, .int .i64 0, .int .i64 0, .int .u64 0, .string ⟨#[]⟩, .string ⟨#[]⟩, .slice none 0 0] 27)
  rw [hw3] at z0 z1 z2 hb3
  have HS2 := Lib.hid hs2
  have HW3 := Lib.hid hw3
  clear hs2 hw3
  obtain ⟨p0, p1, p2, p3, p4, p5, p6⟩ := c0.cells7
  have hnI : (n : Int) ≤ 2 := by omega
  have hn0 : ((n : Int) == 0) = false := by simp; omega
  generalize foldT (.mk d l) = fT at *
  clear hget hpart hsnoc hfull hend hval hexp hok hmfK hmfN hF hmf hmF hA hf hl hn hno hp hL2 hfn hft hns hd0 IH hdp hdl hV hln
  go_enter Tryz.func18, Tryz.ntmps18
  go_upto_region 1 with fail
  try rw [hw2]
  clear hw2
  go_upto_region 4 with fail
  rw [HW3.out]
  rw [HS2.out] at z2 ⊢
  clear HW3 HS2 c0 c1 hb2 p0 p1 p2 p3 p4 p5 p6
  obtain ⟨p0, p1, p2, p3, p4, p5, p6⟩ := z0.cells7
  go_wp2_with fail
  go_loopw [4, 21] (fun kn ix wr => ∃ (j : Nat) (KN : Bool) (av : Option Addr) (cv : Nat), j ≤ n ∧ ix = .int .i64 j ∧ kn = .bool KN ∧ Hid (litsL ((foldL l).take j) = KN) ∧ Hid (RowSt l (w.heap.size + 1 + 1 + 1) wr (.slice av j cv) j) ∧ Hid (Blk wr w.heap.size 27 [.int .i64 d.op, .int .i64 d.k, .int .i64 d.i, .int .u64 d.b, .string S, .string N, .slice ao n cap]) ∧ Hid (Blk wr (w.heap.size + 1) 27 [.int .i64 0, .int .i64 0, .int .i64 0, .int .u64 0, .string ⟨#[]⟩, .string ⟨#[]⟩, .slice none 0 0]) ∧ Hid (Blk wr (w.heap.size + 1 + 1) 27 [.int .i64 d.op, .int .i64 0, .int .i64 0, .int .u64 0, .string ⟨#[]⟩, .string ⟨#[]⟩, .slice av j cv]) ∧ Hid (Below w.heap.size w wr)) (fun _ ix _ => n - (intOf ix).toNat)
  case atStart => exact ⟨0, true, none, 0, Nat.zero_le _, rfl, rfl, Lib.hid rfl, Lib.hid (RowSt.nil _ _ _), Lib.hid z0, Lib.hid z1, Lib.hid z2, Lib.hid hb3⟩
  case round =>
    obtain ⟨j, KN, av, cv, hj, rfl, rfl, hKN, hrow, y0, y1, y2, hbw⟩ := hrel
    clear z0 z1 z2 hb3 p0 p1 p2 p3 p4 p5 p6
    by_cases hlt : j < n
    · have iI : (j : Int) < (n : Int) := by omega
      rcases (show j = 0 ∨ j = 1 by omega) with rfl | rfl
      · obtain ⟨t, htj⟩ := HGET.out 0 (by omega)
        obtain ⟨a, o, ao', cap', rfl, ha, x0, x1, x2, x3, x4, x5, x6, cF⟩ := HPART.out 0 t htj
        simp only [Nat.zero_mul, Nat.add_zero] at x0 x1 x2 x3 x4 x5 x6
        have d0 := (hbw.out.cell (p := ⟨a, o, none⟩) ha).trans x0
        have d1 := (hbw.out.cell (p := ⟨a, o + 1, none⟩) ha).trans x1
        have d2 := (hbw.out.cell (p := ⟨a, o + 2, none⟩) ha).trans x2
        have d3 := (hbw.out.cell (p := ⟨a, o + 3, none⟩) ha).trans x3
        have d4 := (hbw.out.cell (p := ⟨a, o + 4, none⟩) ha).trans x4
        have d5 := (hbw.out.cell (p := ⟨a, o + 5, none⟩) ha).trans x5
        have d6 := (hbw.out.cell (p := ⟨a, o + 6, none⟩) ha).trans x6
        have HTJ := Lib.hid htj
        simp only [exprV_cells] at cF
        generalize hft : foldT t = ft at cF
        have HFT := Lib.hid hft
        generalize t.kids.length = KL at *
        generalize t.nd = nd at *
        obtain ⟨op', k', i', b', s', nm'⟩ := nd
        simp only at d0 d1 d2 d3 d4 d5 d6 cF
        generalize str s' = S' at *
        generalize str nm' = N' at *
        obtain ⟨wa, hwa⟩ : ∃ wa, wr.alloc (.cells #[.int .i64 op', .int .i64 k', .int .i64 i', .int .u64 b', .string S', .string N', .slice ao' KL cap'] 27) = wa := ⟨_, rfl⟩
        have hbA : Below wr.heap.size wr wa := by rw [← hwa]; exact (Below.refl _ _).alloc (Nat.le_refl _) _
        have zT : Blk wa wr.heap.size 27 [.int .i64 op', .int .i64 k', .int .i64 i', .int .u64 b', .string S', .string N', .slice ao' KL cap'] := by rw [← hwa]; exact Blk.new wr #[.int .i64 op', .int .i64 k', .int .i64 i', .int .u64 b', .string S', .string N', .slice ao' KL cap'] _
        have hb0a := below_stepE hbw.out hbw.out.size hbA
        have cc := cF wa hb0a
        have ya0 := y0.out.call hbA
        have ya1 := y1.out.call hbA
        have ya2 := y2.out.call hbA
        have hra := hrow.out.keep hbA
        have hgs := y2.out.lt
        have hwra := hbA.size
        clear x0 x1 x2 x3 x4 x5 x6 htj cF hft y0 y1 y2
        go_upto_region 8 with fail
        try rw [hwa]
        clear hwa d0 d1 d2 d3 d4 d5 d6 hbA hbw
        obtain ⟨q0, q1, q2, q3, q4, q5, q6⟩ := zT.cells7
        unfold FoldPost at cc
        go_wp2_with fail
        refine cc.mono ?_
        rintro e w5 ⟨ao5, cap5, rfl, hX5, hb5⟩
        obtain ⟨xo, xk, xi, xb, xs, xm, xl, hxv, hxc, hxo⟩ := fexprVo ft ao5 cap5
        rw [hxv]
        have hga : w.heap.size + 1 + 1 + 1 ≤ wa.heap.size := by have := ya2.lt; omega
        have u0 := ya0.call hb5
        have u1 := ya1.call hb5
        have u2 := ya2.call hb5
        have hr5 := hra.keep hb5
        have hb05 := below_stepE hb0a hb0a.size hb5
        have zB : Blk _ _ _ [_, _, _, _, _, _, _] := Blk.new w5 #[.int .i64 xo, .int .i64 xk, .int .i64 xi, .int .u64 xb, .string xs, .string xm, .slice ao5 xl cap5] 27
        have hbB := (Below.refl w5.heap.size w5).alloc (Nat.le_refl _) (.cells #[.int .i64 xo, .int .i64 xk, .int .i64 xi, .int .u64 xb, .string xs, .string xm, .slice ao5 xl cap5] 27)
        have v0 := u0.call hbB
        have v1 := u1.call hbB
        have v2 := u2.call hbB
        have hr6 := hr5.keep hbB
        have hX6 := hX5.out.below hbB
        have hb06 := below_stepE hb05 hb05.size hbB
        have hwa6 : wa.heap.size ≤ (w5.alloc (.cells #[.int .i64 xo, .int .i64 xk, .int .i64 xi, .int .u64 xb, .string xs, .string xm, .slice ao5 xl cap5] 27)).heap.size := Nat.le_trans hb5.size hbB.size
        clear cc ya0 ya1 ya2 hra u0 u1 u2 hr5 hX5 hb5 hb05 hb0a zT q0 q1 q2 q3 q4 q5 q6
        go_upto_region 9 with fail
        generalize hw6 : w5.alloc (.cells #[.int .i64 xo, .int .i64 xk, .int .i64 xi, .int .u64 xb, .string xs, .string xm, .slice ao5 xl cap5] 27) = w6 at *
        clear hw6 hbB
        generalize w5.heap.size = gB at *
        have t0 := zB.cell (j := 0) rfl
        obtain ⟨Q, hQ⟩ : ∃ Q, (xo == 1) = Q := ⟨_, rfl⟩
        have hknown : litsL ((foldL l).take 1) = (KN && Q) := by
          rw [HSNOC.out 0 t HTJ.out, HFT.out, ← hKN.out]
          unfold litsL
          rw [List.all_append]
          simp [hxo, hQ]
        have HKNOWN := Lib.hid hknown
        have HSN := Lib.hid (HSNOC.out 0 t HTJ.out)
        clear hknown hKN hxo
        obtain ⟨q0, q1, q2, q3, q4, q5, q6⟩ := zB.cells7
        have m6 := v2.cell (j := 6) rfl
        have fm6 := v2.free 6
        have zC : Blk _ _ _ [_, _, _, _, _, _, _] := Blk.new w6 #[.int .i64 xo, .int .i64 xk, .int .i64 xi, .int .u64 xb, .string xs, .string xm, .slice ao5 xl cap5] 27
        have hbC := (Below.refl w6.heap.size w6).alloc (Nat.le_refl _) (.cells #[.int .i64 xo, .int .i64 xk, .int .i64 xi, .int .u64 xb, .string xs, .string xm, .slice ao5 xl cap5] 27)
        have a0 := v0.call hbC
        have a1 := v1.call hbC
        have a2 := v2.call hbC
        have hr7 := hr6.keep hbC
        have hX7 := hX6.below hbC
        have hb07 := below_stepE hb06 hb06.size hbC
        have hwa7 := Nat.le_trans hwa6 hbC.size
        have hzC : Blk (w6.alloc (.cells #[.int .i64 xo, .int .i64 xk, .int .i64 xi, .int .u64 xb, .string xs, .string xm, .slice ao5 xl cap5] 27)) w6.heap.size 27 (cellsX1 ⟨ft, ao5, cap5⟩) := by rw [hxc]; exact zC
        have htake : (foldL l).take 1 = [(⟨ft, ao5, cap5⟩ : XE).t] := by have := HSN.out; rw [HFT.out] at this; simpa using this
        have hown : OwnX (w6.alloc (.cells #[.int .i64 xo, .int .i64 xk, .int .i64 xi, .int .u64 xb, .string xs, .string xm, .slice ao5 xl cap5] 27)) (w6.alloc (.cells #[.int .i64 xo, .int .i64 xk, .int .i64 xi, .int .u64 xb, .string xs, .string xm, .slice ao5 xl cap5] 27)).heap.size (.slice none 0 0) [] := OwnX.nil _ _
        have hXB : XTb (w.heap.size + 1 + 1 + 1) (w6.alloc (.cells #[.int .i64 xo, .int .i64 xk, .int .i64 xi, .int .u64 xb, .string xs, .string xm, .slice ao5 xl cap5] 27)) ft ao5 cap5 := hX7.mono hga
        have hBs : (w.heap.size + 1 + 1 + 1) ≤ (w6.alloc (.cells #[.int .i64 xo, .int .i64 xk, .int .i64 xi, .int .u64 xb, .string xs, .string xm, .slice ao5 xl cap5] 27)).heap.size := Nat.le_trans hga hwa7
        have hav : (Value.slice av 0 cv) = .slice none 0 0 := hr7
        obtain ⟨rfl, _, rfl⟩ : av = none ∧ True ∧ cv = 0 := by simp at hav; exact ⟨hav.1, trivial, hav.2⟩
        clear hav hr7 hr6 hrow HSN hX7 hX6 hga hwa6
        cases KN
        · rw [Bool.false_and] at HKNOWN
          go_wp2_with (first | (at_builtin; refine wpList_append_xg rfl (.tmp 34) (.tmp 36) rfl _ _ [] rfl hown ⟨ft, ao5, cap5⟩ w6.heap.size rfl hzC (by decide) (Nat.le_refl _) ?_; intro v9 w8 ho8 hg8; have hr8 := RowSt.first (l := l) (B := (w.heap.size + 1 + 1 + 1)) (x := ⟨ft, ao5, cap5⟩) hBs htake hXB ho8 hg8; obtain ⟨av9, cv9, rfl, hs1, hs2, hs3⟩ := hr8.shape (by decide); have hb8 := (Below.refl (w6.alloc (.cells #[.int .i64 xo, .int .i64 xk, .int .i64 xi, .int .u64 xb, .string xs, .string xm, .slice ao5 xl cap5] 27)).heap.size (w6.alloc (.cells #[.int .i64 xo, .int .i64 xk, .int .i64 xi, .int .u64 xb, .string xs, .string xm, .slice ao5 xl cap5] 27))).grown hg8 (Nat.le_refl _) (fun k h => by cases h) ; have e2 := a2.keep hb8 (show w.heap.size + 1 + 1 < _ from Nat.lt_of_lt_of_le (Nat.lt_succ_self _) hBs); have e1 := a1.keep hb8 (show w.heap.size + 1 < _ from Nat.lt_of_lt_of_le (by omega) hBs); have e0 := a0.keep hb8 (show w.heap.size < _ from Nat.lt_of_lt_of_le (by omega) hBs); have m6 := e2.cell (j := 6) rfl; have fm6 := e2.free 6; have hb08 := Lib.hid (hb07.trans (hb8.mono (Nat.le_trans (show w.heap.size ≤ (w.heap.size + 1 + 1 + 1) by omega) hBs))); have hlt8 := hBs) | fail)
          go_roundw
          case rel => exact ⟨1, _, av9, cv9, by omega, rfl, rfl, HKNOWN, Lib.hid (hr8.set (by omega)), Lib.hid (e0.other ⟨w.heap.size + 1 + 1, 6, none⟩ _ (by show w.heap.size ≠ w.heap.size + 1 + 1; omega)), Lib.hid (e1.other ⟨w.heap.size + 1 + 1, 6, none⟩ _ (by show w.heap.size + 1 ≠ w.heap.size + 1 + 1; omega)), Lib.hid (e2.set 6 _), Lib.hid (hb08.out.setCell (p := ⟨w.heap.size + 1 + 1, 6, none⟩) (by show w.heap.size ≤ w.heap.size + 1 + 1; omega) _)⟩
          case measure => simp [intOf]; omega
        · rw [Bool.true_and] at HKNOWN
          go_wp2_with (first | (at_builtin; refine wpList_append_xg rfl (.tmp 34) (.tmp 36) rfl _ _ [] rfl hown ⟨ft, ao5, cap5⟩ w6.heap.size rfl hzC (by decide) (Nat.le_refl _) ?_; intro v9 w8 ho8 hg8; have hr8 := RowSt.first (l := l) (B := (w.heap.size + 1 + 1 + 1)) (x := ⟨ft, ao5, cap5⟩) hBs htake hXB ho8 hg8; obtain ⟨av9, cv9, rfl, hs1, hs2, hs3⟩ := hr8.shape (by decide); have hb8 := (Below.refl (w6.alloc (.cells #[.int .i64 xo, .int .i64 xk, .int .i64 xi, .int .u64 xb, .string xs, .string xm, .slice ao5 xl cap5] 27)).heap.size (w6.alloc (.cells #[.int .i64 xo, .int .i64 xk, .int .i64 xi, .int .u64 xb, .string xs, .string xm, .slice ao5 xl cap5] 27))).grown hg8 (Nat.le_refl _) (fun k h => by cases h) ; have e2 := a2.keep hb8 (show w.heap.size + 1 + 1 < _ from Nat.lt_of_lt_of_le (Nat.lt_succ_self _) hBs); have e1 := a1.keep hb8 (show w.heap.size + 1 < _ from Nat.lt_of_lt_of_le (by omega) hBs); have e0 := a0.keep hb8 (show w.heap.size < _ from Nat.lt_of_lt_of_le (by omega) hBs); have m6 := e2.cell (j := 6) rfl; have fm6 := e2.free 6; have hb08 := Lib.hid (hb07.trans (hb8.mono (Nat.le_trans (show w.heap.size ≤ (w.heap.size + 1 + 1 + 1) by omega) hBs))); have hlt8 := hBs) | fail)
          go_roundw
          case rel => exact ⟨1, _, av9, cv9, by omega, rfl, rfl, HKNOWN, Lib.hid (hr8.set (by omega)), Lib.hid (e0.other ⟨w.heap.size + 1 + 1, 6, none⟩ _ (by show w.heap.size ≠ w.heap.size + 1 + 1; omega)), Lib.hid (e1.other ⟨w.heap.size + 1 + 1, 6, none⟩ _ (by show w.heap.size + 1 ≠ w.heap.size + 1 + 1; omega)), Lib.hid (e2.set 6 _), Lib.hid (hb08.out.setCell (p := ⟨w.heap.size + 1 + 1, 6, none⟩) (by show w.heap.size ≤ w.heap.size + 1 + 1; omega) _)⟩
          case measure => simp [intOf]; omega
      · obtain ⟨t, htj⟩ := HGET.out 1 (by omega)
        obtain ⟨a, o, ao', cap', rfl, ha, x0, x1, x2, x3, x4, x5, x6, cF⟩ := HPART.out 1 t htj
        simp only [Nat.one_mul] at x0 x1 x2 x3 x4 x5 x6
        have d0 := (hbw.out.cell (p := ⟨a, o + 7, none⟩) ha).trans x0
        have d1 := (hbw.out.cell (p := ⟨a, o + 7 + 1, none⟩) ha).trans x1
        have d2 := (hbw.out.cell (p := ⟨a, o + 7 + 2, none⟩) ha).trans x2
        have d3 := (hbw.out.cell (p := ⟨a, o + 7 + 3, none⟩) ha).trans x3
        have d4 := (hbw.out.cell (p := ⟨a, o + 7 + 4, none⟩) ha).trans x4
        have d5 := (hbw.out.cell (p := ⟨a, o + 7 + 5, none⟩) ha).trans x5
        have d6 := (hbw.out.cell (p := ⟨a, o + 7 + 6, none⟩) ha).trans x6
        have HTJ := Lib.hid htj
        simp only [exprV_cells] at cF
        generalize hft : foldT t = ft at cF
        have HFT := Lib.hid hft
        generalize t.kids.length = KL at *
        generalize t.nd = nd at *
        obtain ⟨op', k', i', b', s', nm'⟩ := nd
        simp only at d0 d1 d2 d3 d4 d5 d6 cF
        generalize str s' = S' at *
        generalize str nm' = N' at *
        obtain ⟨wa, hwa⟩ : ∃ wa, wr.alloc (.cells #[.int .i64 op', .int .i64 k', .int .i64 i', .int .u64 b', .string S', .string N', .slice ao' KL cap'] 27) = wa := ⟨_, rfl⟩
        have hbA : Below wr.heap.size wr wa := by rw [← hwa]; exact (Below.refl _ _).alloc (Nat.le_refl _) _
        have zT : Blk wa wr.heap.size 27 [.int .i64 op', .int .i64 k', .int .i64 i', .int .u64 b', .string S', .string N', .slice ao' KL cap'] := by rw [← hwa]; exact Blk.new wr #[.int .i64 op', .int .i64 k', .int .i64 i', .int .u64 b', .string S', .string N', .slice ao' KL cap'] _
        have hb0a := below_stepE hbw.out hbw.out.size hbA
        have cc := cF wa hb0a
        have ya0 := y0.out.call hbA
        have ya1 := y1.out.call hbA
        have ya2 := y2.out.call hbA
        have hra := hrow.out.keep hbA
        have hgs := y2.out.lt
        have hwra := hbA.size
        have hbA0 := hbA
        clear x0 x1 x2 x3 x4 x5 x6 htj cF hft y0 y1 y2
        go_upto_region 8 with fail
        try rw [hwa]
        clear hwa d0 d1 d2 d3 d4 d5 d6 hbA hbw
        obtain ⟨q0, q1, q2, q3, q4, q5, q6⟩ := zT.cells7
        unfold FoldPost at cc
        go_wp2_with fail
        refine cc.mono ?_
        rintro e w5 ⟨ao5, cap5, rfl, hX5, hb5⟩
        obtain ⟨xo, xk, xi, xb, xs, xm, xl, hxv, hxc, hxo⟩ := fexprVo ft ao5 cap5
        rw [hxv]
        have hga : w.heap.size + 1 + 1 + 1 ≤ wa.heap.size := by have := ya2.lt; omega
        have hb50 := hb5
        have u0 := ya0.call hb5
        have u1 := ya1.call hb5
        have u2 := ya2.call hb5
        have hr5 := hra.keep hb5
        have hb05 := below_stepE hb0a hb0a.size hb5
        have zB : Blk _ _ _ [_, _, _, _, _, _, _] := Blk.new w5 #[.int .i64 xo, .int .i64 xk, .int .i64 xi, .int .u64 xb, .string xs, .string xm, .slice ao5 xl cap5] 27
        have hbB := (Below.refl w5.heap.size w5).alloc (Nat.le_refl _) (.cells #[.int .i64 xo, .int .i64 xk, .int .i64 xi, .int .u64 xb, .string xs, .string xm, .slice ao5 xl cap5] 27)
        have hbr6 := below_stepE (below_stepE hbA0 hbA0.size hb50) (Nat.le_trans hbA0.size hb50.size) hbB
        have v0 := u0.call hbB
        have v1 := u1.call hbB
        have v2 := u2.call hbB
        have hr6 := hr5.keep hbB
        have hX6 := hX5.out.below hbB
        have hb06 := below_stepE hb05 hb05.size hbB
        have hwa6 : wa.heap.size ≤ (w5.alloc (.cells #[.int .i64 xo, .int .i64 xk, .int .i64 xi, .int .u64 xb, .string xs, .string xm, .slice ao5 xl cap5] 27)).heap.size := Nat.le_trans hb5.size hbB.size
        clear cc ya0 ya1 ya2 hra u0 u1 u2 hr5 hX5 hb5 hb05 hb0a zT q0 q1 q2 q3 q4 q5 q6
        go_upto_region 9 with fail
        generalize hw6 : w5.alloc (.cells #[.int .i64 xo, .int .i64 xk, .int .i64 xi, .int .u64 xb, .string xs, .string xm, .slice ao5 xl cap5] 27) = w6 at *
        clear hw6 hbB
        generalize w5.heap.size = gB at *
        have t0 := zB.cell (j := 0) rfl
        obtain ⟨Q, hQ⟩ : ∃ Q, (xo == 1) = Q := ⟨_, rfl⟩
        have hknown : litsL ((foldL l).take 2) = (KN && Q) := by
          rw [HSNOC.out 1 t HTJ.out, HFT.out, ← hKN.out]
          unfold litsL
          rw [List.all_append]
          simp [hxo, hQ]
        have HKNOWN := Lib.hid hknown
        have HSN := Lib.hid (HSNOC.out 1 t HTJ.out)
        clear hknown hKN hxo
        obtain ⟨q0, q1, q2, q3, q4, q5, q6⟩ := zB.cells7
        have m6 := v2.cell (j := 6) rfl
        have fm6 := v2.free 6
        have zC : Blk _ _ _ [_, _, _, _, _, _, _] := Blk.new w6 #[.int .i64 xo, .int .i64 xk, .int .i64 xi, .int .u64 xb, .string xs, .string xm, .slice ao5 xl cap5] 27
        have hbC := (Below.refl w6.heap.size w6).alloc (Nat.le_refl _) (.cells #[.int .i64 xo, .int .i64 xk, .int .i64 xi, .int .u64 xb, .string xs, .string xm, .slice ao5 xl cap5] 27)
        have a0 := v0.call hbC
        have a1 := v1.call hbC
        have a2 := v2.call hbC
        have hr7 := hr6.keep hbC
        have hX7 := hX6.below hbC
        have hb07 := below_stepE hb06 hb06.size hbC
        have hwa7 := Nat.le_trans hwa6 hbC.size
        have hzC : Blk (w6.alloc (.cells #[.int .i64 xo, .int .i64 xk, .int .i64 xi, .int .u64 xb, .string xs, .string xm, .slice ao5 xl cap5] 27)) w6.heap.size 27 (cellsX1 ⟨ft, ao5, cap5⟩) := by rw [hxc]; exact zC
        have hr0 := hrow.out
        obtain ⟨xp, w1, hB1, hown0, htk, hxp, hkp0, hsz0⟩ := hr0
        have hbr7 := below_stepE hbr6 hbr6.size hbC
        have hown := hown0.keep hbr7
        have hkp := hkp0.trans (KeptB.of hbr7)
        have hsz1 := Nat.le_trans hsz0 hbr7.size
        have hlf : foldL l = [xp.t, (⟨ft, ao5, cap5⟩ : XE).t] := by
          have h2 := HSN.out
          rw [HFT.out, htk] at h2
          have h3 := HFULL.out 2 (by omega)
          rw [← h3]; exact h2
        have HLF := Lib.hid hlf
        have hsec : ∀ v9 w8, OwnX w8 w1.heap.size v9 ([xp] ++ [⟨ft, ao5, cap5⟩]) → (w6.alloc (.cells #[.int .i64 xo, .int .i64 xk, .int .i64 xi, .int .u64 xb, .string xs, .string xm, .slice ao5 xl cap5] 27)).grownBy w8 (Value.slice av 1 cv).ownBlock → RowSt l (w.heap.size + 1 + 1 + 1) w8 v9 2 := fun v9 w8 ho hg => RowSt.second hB1 HLF.out hxp hkp hown0 hwra hga hX7 ho hg
        clear hr6 hr7 HSN hX6 hX7 hxp hkp hkp0 hown0 hrow hga hwra hwa6 hwa7 htk hbr7 hsz0 HLF hlf
        cases KN
        · rw [Bool.false_and] at HKNOWN
          go_wp2_with (first | (at_builtin; refine wpList_append_xg rfl (.tmp 34) (.tmp 36) rfl w1.heap.size _ [xp] rfl hown ⟨ft, ao5, cap5⟩ w6.heap.size rfl hzC (by simp) hsz1 ?_; intro v9 w8 ho8 hg8; have hr8 : RowSt l (w.heap.size + 1 + 1 + 1) w8 v9 2 := hsec v9 w8 ho8 hg8; obtain ⟨av9, cv9, rfl, hs1, hs2, hs3⟩ := hr8.shape (by decide); have hb8 := (Below.refl w1.heap.size (w6.alloc (.cells #[.int .i64 xo, .int .i64 xk, .int .i64 xi, .int .u64 xb, .string xs, .string xm, .slice ao5 xl cap5] 27))).grown hg8 hsz1 (fun k h => (hown.lt k h).1) ; have e2 := a2.keep hb8 (show w.heap.size + 1 + 1 < _ from Nat.lt_of_lt_of_le (Nat.lt_succ_self _) hB1); have e1 := a1.keep hb8 (show w.heap.size + 1 < _ from Nat.lt_of_lt_of_le (by omega) hB1); have e0 := a0.keep hb8 (show w.heap.size < _ from Nat.lt_of_lt_of_le (by omega) hB1); have m6 := e2.cell (j := 6) rfl; have fm6 := e2.free 6; have hb08 := Lib.hid (hb07.trans (hb8.mono (Nat.le_trans (show w.heap.size ≤ (w.heap.size + 1 + 1 + 1) by omega) hB1))); have hlt8 := hB1) | fail)
          go_roundw
          case rel => exact ⟨2, _, av9, cv9, by omega, rfl, rfl, HKNOWN, Lib.hid (hr8.set (by omega)), Lib.hid (e0.other ⟨w.heap.size + 1 + 1, 6, none⟩ _ (by show w.heap.size ≠ w.heap.size + 1 + 1; omega)), Lib.hid (e1.other ⟨w.heap.size + 1 + 1, 6, none⟩ _ (by show w.heap.size + 1 ≠ w.heap.size + 1 + 1; omega)), Lib.hid (e2.set 6 _), Lib.hid (hb08.out.setCell (p := ⟨w.heap.size + 1 + 1, 6, none⟩) (by show w.heap.size ≤ w.heap.size + 1 + 1; omega) _)⟩
          case measure => simp [intOf]; omega
        · rw [Bool.true_and] at HKNOWN
          go_wp2_with (first | (at_builtin; refine wpList_append_xg rfl (.tmp 34) (.tmp 36) rfl w1.heap.size _ [xp] rfl hown ⟨ft, ao5, cap5⟩ w6.heap.size rfl hzC (by simp) hsz1 ?_; intro v9 w8 ho8 hg8; have hr8 : RowSt l (w.heap.size + 1 + 1 + 1) w8 v9 2 := hsec v9 w8 ho8 hg8; obtain ⟨av9, cv9, rfl, hs1, hs2, hs3⟩ := hr8.shape (by decide); have hb8 := (Below.refl w1.heap.size (w6.alloc (.cells #[.int .i64 xo, .int .i64 xk, .int .i64 xi, .int .u64 xb, .string xs, .string xm, .slice ao5 xl cap5] 27))).grown hg8 hsz1 (fun k h => (hown.lt k h).1) ; have e2 := a2.keep hb8 (show w.heap.size + 1 + 1 < _ from Nat.lt_of_lt_of_le (Nat.lt_succ_self _) hB1); have e1 := a1.keep hb8 (show w.heap.size + 1 < _ from Nat.lt_of_lt_of_le (by omega) hB1); have e0 := a0.keep hb8 (show w.heap.size < _ from Nat.lt_of_lt_of_le (by omega) hB1); have m6 := e2.cell (j := 6) rfl; have fm6 := e2.free 6; have hb08 := Lib.hid (hb07.trans (hb8.mono (Nat.le_trans (show w.heap.size ≤ (w.heap.size + 1 + 1 + 1) by omega) hB1))); have hlt8 := hB1) | fail)
          go_roundw
          case rel => exact ⟨2, _, av9, cv9, by omega, rfl, rfl, HKNOWN, Lib.hid (hr8.set (by omega)), Lib.hid (e0.other ⟨w.heap.size + 1 + 1, 6, none⟩ _ (by show w.heap.size ≠ w.heap.size + 1 + 1; omega)), Lib.hid (e1.other ⟨w.heap.size + 1 + 1, 6, none⟩ _ (by show w.heap.size + 1 ≠ w.heap.size + 1 + 1; omega)), Lib.hid (e2.set 6 _), Lib.hid (hb08.out.setCell (p := ⟨w.heap.size + 1 + 1, 6, none⟩) (by show w.heap.size ≤ w.heap.size + 1 + 1; omega) _)⟩
          case measure => simp [intOf]; omega
    · obtain rfl : j = n := by omega
      have iI : ¬ (j : Int) < (j : Int) := by omega
      have hX := HEND.out wr av cv hrow.out
      have hlv := HVAL.out wr av cv hX.show
      rw [HEXP.out] at hlv
      have hlits := hKN.out
      rw [HFULL.out j (Nat.le_refl _)] at hlits
      have hmk := HMK.out
      have hmn := HMN.out
      rw [hlits] at hmk hmn
      have hokv := HOK.out.v
      obtain ⟨k0, k4, hs40, _, _⟩ := chkV_open V.v hokv.chk
      have hfitV := hokv.fit
      obtain ⟨⟨vk, vi, vb, vs⟩, vf⟩ := V
      simp only at hmk hmn k0 k4 hs40 hfitV
      have hFV : FitN ⟨1, vk, vi, vb, vs, []⟩ := fit_lit vk vi vb vs ⟨k0, k4⟩ ⟨hfitV.i0, hfitV.i1⟩ ⟨hfitV.b0, hfitV.b1⟩ (by omega)
      unfold RekOk valV at hlv
      simp only at hlv
      obtain ⟨VS, hVS⟩ : ∃ VS, str vs = VS := ⟨_, rfl⟩
      rw [hVS] at hlv
      have hfinN : (KN && ((vf == 0) && decide (0 ≤ vi))) = false → ∀ W, Below wr.heap.size wr W → FoldPost fT w (.returned (.agg #[.int .i64 d.op, .int .i64 0, .int .i64 0, .int .u64 0, .string ⟨#[]⟩, .string ⟨#[]⟩, .slice av j cv])) (((((((W.setCell ⟨w.heap.size + 1, 0, none⟩ (.int .i64 d.op)).setCell ⟨w.heap.size + 1, 1, none⟩ (.int .i64 0)).setCell ⟨w.heap.size + 1, 2, none⟩ (.int .i64 0)).setCell ⟨w.heap.size + 1, 3, none⟩ (.int .u64 0)).setCell ⟨w.heap.size + 1, 4, none⟩ (.string ⟨#[]⟩)).setCell ⟨w.heap.size + 1, 5, none⟩ (.string ⟨#[]⟩)).setCell ⟨w.heap.size + 1, 6, none⟩ (.slice av j cv)) := fun he W hW => by
        rw [hmn he]
        exact fold_done (below_stepE hbw.out hbw.out.size hW) ((hX.below hW).mono (by omega)) (by omega) (HEXP.out av cv)
      have hfinK : (KN && ((vf == 0) && decide (0 ≤ vi))) = true → ∀ W, Below wr.heap.size wr W → FoldPost fT w (.returned (.agg #[.int .i64 1, .int .i64 vk, .int .i64 vi, .int .u64 vb, .string VS, .string ⟨#[]⟩, .slice none 0 0])) (((((((W.setCell ⟨w.heap.size + 1, 0, none⟩ (.int .i64 1)).setCell ⟨w.heap.size + 1, 1, none⟩ (.int .i64 vk)).setCell ⟨w.heap.size + 1, 2, none⟩ (.int .i64 vi)).setCell ⟨w.heap.size + 1, 3, none⟩ (.int .u64 vb)).setCell ⟨w.heap.size + 1, 4, none⟩ (.string VS)).setCell ⟨w.heap.size + 1, 5, none⟩ (.string ⟨#[]⟩)).setCell ⟨w.heap.size + 1, 6, none⟩ (.slice none 0 0)) := fun he W hW => by
        rw [hmk he]
        refine fold_done (below_stepE hbw.out hbw.out.size hW) (xtb_leaf _ _ _ hFV) (by omega) ?_
        rw [← hVS]
        exact litV_cells vk vi vb vs
      have HFN := Lib.hid hfinN
      have HFK := Lib.hid hfinK
      have HLV := Lib.hid hlv
      have x1 := y1.out
      have x2 := y2.out
      clear hfinN hfinK hlv hFV hfitV k0 k4 hs40 hokv hVS hmk hmn hlits hX HMK HMN HOK HEXP HVAL HEND HFULL HSNOC HPART HGET hKN hrow y0 y1 y2 hbw
      obtain ⟨q0, q1, q2, q3, q4, q5, q6⟩ := x2.cells7
      cases KN
      · have hfin := HFN.out rfl wr (Below.refl _ _)
        have HFIN := Lib.hid hfin
        clear hfin HFN HFK HLV
        obtain ⟨r0, r1, r2, r3, r4, r5, r6⟩ := x1.cells7
        have f0 := x1.free 0
        have f1 := x1.free 1
        have f2 := x1.free 2
        have f3 := x1.free 3
        have f4 := x1.free 4
        have f5 := x1.free 5
        have f6 := x1.free 6
        go_wp2_with fail
        exact bodyPost_ret (results_expr rfl _ _ (w.heap.size + 1) _ _ _ _ _ _ _ rfl x1.set7) rfl HFIN.out
      · go_wp2_with fail
        refine HLV.out.mono ?_
        rintro e w5 ⟨rfl, hb5⟩
        have s1 := x1.call hb5
        have s2 := x2.call hb5
        have zV := Blk.new w5 #[.int .i64 vk, .int .i64 vi, .int .u64 vb, .string VS] 24
        have hbV := (Below.refl w5.heap.size w5).alloc (Nat.le_refl _) (.cells #[.int .i64 vk, .int .i64 vi, .int .u64 vb, .string VS] 24)
        have t1 := s1.call hbV
        have t2 := s2.call hbV
        have hb6 := below_stepE hb5 hb5.size hbV
        clear HLV x1 x2 s1 s2 hb5 q0 q1 q2 q3 q4 q5 q6
        go_upto_region 14 with fail
        generalize hw6 : w5.alloc (.cells #[.int .i64 vk, .int .i64 vi, .int .u64 vb, .string VS] 24) = w6 at *
        clear hw6 hbV
        generalize w5.heap.size = g5 at *
        obtain ⟨⟨v0, v1, v2, v3⟩, _⟩ := zV.four
        obtain ⟨q0, q1, q2, q3, q4, q5, q6⟩ := t2.cells7
        obtain ⟨r0, r1, r2, r3, r4, r5, r6⟩ := t1.cells7
        have f0 := t1.free 0
        have f1 := t1.free 1
        have f2 := t1.free 2
        have f3 := t1.free 3
        have f4 := t1.free 4
        have f5 := t1.free 5
        have f6 := t1.free 6
        obtain ⟨b0, e0⟩ : ∃ b, (vf == 0) = b := ⟨_, rfl⟩
        obtain ⟨b1, e1⟩ : ∃ b, decide (0 ≤ vi) = b := ⟨_, rfl⟩
        cases b0
        · have hfin := HFN.out (by rw [e0]; rfl) w6 hb6
          have HFIN := Lib.hid hfin
          clear hfin HFN HFK e1
          go_wp2_with fail
          exact bodyPost_ret (results_expr rfl _ _ (w.heap.size + 1) _ _ _ _ _ _ _ rfl t1.set7) rfl HFIN.out
        · cases b1
          · have hfin := HFN.out (by rw [e0, e1]; rfl) w6 hb6
            have HFIN := Lib.hid hfin
            have i1 : ¬ (0 ≤ vi) := of_decide_eq_false e1
            clear hfin HFN HFK
            go_wp2_with fail
            exact bodyPost_ret (results_expr rfl _ _ (w.heap.size + 1) _ _ _ _ _ _ _ rfl t1.set7) rfl HFIN.out
          · have hfin := HFK.out (by rw [e0, e1]; rfl) w6 hb6
            have HFIN := Lib.hid hfin
            have i1 : 0 ≤ vi := of_decide_eq_true e1
            clear hfin HFN HFK
            go_wp2_with fail
            exact bodyPost_ret (results_expr rfl _ _ (w.heap.size + 1) _ _ _ _ _ _ _ rfl t1.set7) rfl HFIN.out
theorem rfold_any : ∀ n, RFoldOk n := by
  intro n
  induction n with
  | zero => intro t ao cap w h; have := T.deep_eq t; omega
  | succ n ih =>
    rintro ⟨d, l⟩ ao cap w hdp hf hA hc hc2
    obtain ⟨hn, hl⟩ := formT_open d l hf
    obtain ⟨⟨o1, o2⟩, hp, _, _⟩ := nodeF_open d _ hn
    by_cases h12 : d.op = 1 ∨ d.op = 2
    · unfold partsN at hp
      rw [if_pos h12] at hp
      obtain rfl := List.eq_nil_of_length_eq_zero hp
      exact rfold_leaf d ao cap w hA hc2
    · exact rfold_node n ih d l ao cap w (by omega) hdp hf hA
end Go.Proofs.YtcccnpcejfmfcaaGreatDoor
namespace Go.Proofs.YtcccnpcejfmfcaaGreatDoor
open Go.RowKit
set_option linter.unusedVariables false
set_option maxRecDepth 100000

set_option maxHeartbeats 16000000 in
theorem foldedOf_any (t : T) (ao : Option Addr) (cap : Nat) (w : World) (hA : AtT w t ao) (hc : t.kids.length ≤ cap) (hc2 : cap ≤ 9223372036854775807 ∧ (ao = none → cap = 0)) (hT : Tabs w) :
    Calls Tryz.prog 8 #[exprV t ao cap] w (FoldRPost t w) := by
  have cK := fun W (hW : Below w.heap.size w W) => exprFault_any t ao cap W (hA.keep hW) hc hc2.1 hc2.2 (tabs_below hT hW)
  have cF := fun W (h0 : exprR t = 0) (hW : Below w.heap.size w W) => rfold_any t.deep t ao cap W (Nat.le_refl _) (exprR_form t h0) (hA.keep hW) hc hc2
  have hbad : exprR t ≠ 0 → ∀ W, Below w.heap.size w W → FoldRPost t w (.returned (.tuple #[.agg #[.int .i64 0, .int .i64 0, .int .i64 0, .int .u64 0, .string ⟨#[]⟩, .string ⟨#[]⟩, .slice none 0 0], .int .i64 (exprR t)])) W := fun h0 W hW => by
    refine ⟨none, 0, ?_, ?_, hW⟩
    · unfold foldR; rw [if_pos h0]; rfl
    · unfold foldR; rw [if_pos h0]; exact Lib.hid (xtb_leaf _ _ _ (fitN_op 0 (by decide)))
  have hgood : exprR t = 0 → foldR t = foldT t := fun h0 => by unfold foldR; rw [if_neg (by rw [h0]; decide)]
  unfold FoldPost at cF
  unfold FoldRPost at hbad ⊢
  generalize exprR t = ef at *
  generalize foldR t = fr at *
  generalize foldT t = ft at *
  have HB := Lib.hid hbad
  have HG := Lib.hid hgood
  clear hbad hgood hA hT
  simp only [exprV_cells t] at cK cF ⊢
  generalize t.kids.length = L at *
  obtain ⟨⟨op, k, i, b, s, nm⟩, l⟩ := t
  simp only [T.nd] at *
  generalize str s = S at *
  generalize str nm = N at *
  obtain ⟨z0, z1, hb2⟩ := two_new w #[.int .i64 op, .int .i64 k, .int .i64 i, .int .u64 b, .string S, .string N, .slice ao L cap] #[.int .i64 0, .int .i64 0, .int .i64 0, .int .u64 0, .string ⟨#[]⟩, .string ⟨#[]⟩, .slice none 0 0] 27 27
  generalize hw2 : (w.alloc (.cells #[.int .i64 op, .int .i64 k, .int .i64 i, .int .u64 b, .string S, .string N, .slice ao L cap] 27)).alloc (.cells #[.int .i64 0, .int .i64 0, .int .i64 0, .int .u64 0, .string ⟨#[]⟩, .string ⟨#[]⟩, .slice none 0 0] 27) = w2 at z0 z1 hb2
  have c1 := cK w2 hb2
  obtain ⟨p0, p1, p2, p3, p4, p5, p6⟩ := z0.cells7
  go_enter Tryz.func8, Tryz.ntmps8
  go_upto_region 1 with fail
  try rw [hw2]
  clear hw2
  go_wp2_with fail
  refine c1.mono ?_
  rintro e w3 ⟨rfl, hb3⟩
  have hb03 := below_stepE hb2 hb2.size hb3
  have y0 := z0.call hb3
  have y1 := z1.call hb3
  clear c1 cK hb3 hb2 z0 z1 p0 p1 p2 p3 p4 p5 p6
  by_cases he : ef = 0
  · subst he
    have c2 := cF w3 (by trivial) hb03
    have hfr := HG.out (by trivial)
    subst hfr
    clear HB HG cF
    obtain ⟨p0, p1, p2, p3, p4, p5, p6⟩ := y0.cells7
    have hsz := y1.lt
    go_wp2_with fail
    refine c2.mono ?_
    rintro e w4 ⟨ao5, cap5, rfl, hX5, hb4⟩
    obtain ⟨xo, xk, xi, xb, xs, xm, xl, hxv, hxc⟩ := fexprV fr ao5 cap5
    rw [hxv]
    have x1 := y1.call hb4
    have hb04 := below_stepE hb03 hb03.size hb4
    have hfin : ∃ ao' cap', Ending.returned (.tuple #[.agg #[.int .i64 xo, .int .i64 xk, .int .i64 xi, .int .u64 xb, .string xs, .string xm, .slice ao5 xl cap5], .int .i64 0]) = Ending.returned (.tuple #[exprV fr ao' cap', .int .i64 0]) ∧ Hid (XTb w.heap.size (((((((w4.setCell ⟨w.heap.size + 1, 0, none⟩ (.int .i64 xo)).setCell ⟨w.heap.size + 1, 1, none⟩ (.int .i64 xk)).setCell ⟨w.heap.size + 1, 2, none⟩ (.int .i64 xi)).setCell ⟨w.heap.size + 1, 3, none⟩ (.int .u64 xb)).setCell ⟨w.heap.size + 1, 4, none⟩ (.string xs)).setCell ⟨w.heap.size + 1, 5, none⟩ (.string xm)).setCell ⟨w.heap.size + 1, 6, none⟩ (.slice ao5 xl cap5)) fr ao' cap') ∧ Below w.heap.size w (((((((w4.setCell ⟨w.heap.size + 1, 0, none⟩ (.int .i64 xo)).setCell ⟨w.heap.size + 1, 1, none⟩ (.int .i64 xk)).setCell ⟨w.heap.size + 1, 2, none⟩ (.int .i64 xi)).setCell ⟨w.heap.size + 1, 3, none⟩ (.int .u64 xb)).setCell ⟨w.heap.size + 1, 4, none⟩ (.string xs)).setCell ⟨w.heap.size + 1, 5, none⟩ (.string xm)).setCell ⟨w.heap.size + 1, 6, none⟩ (.slice ao5 xl cap5)) :=
      ⟨ao5, cap5, by rw [hxv], Lib.hid ((hX5.out.set7 (g := w.heap.size + 1) hsz).mono (by omega)), below_set7 hb04 (by omega)⟩
    have HFIN := Lib.hid hfin
    clear c2 hb4 hb04 hfin hX5 hxv hxc y0 y1 hb03 p0 p1 p2 p3 p4 p5 p6
    obtain ⟨r0, r1, r2, r3, r4, r5, r6⟩ := x1.cells7
    have f0 := x1.free 0
    have f1 := x1.free 1
    have f2 := x1.free 2
    have f3 := x1.free 3
    have f4 := x1.free 4
    have f5 := x1.free 5
    have f6 := x1.free 6
    go_wp2_with fail
    exact bodyPost_ret (results_exprE rfl _ _ (w.heap.size + 1) _ _ _ _ _ _ _ rfl x1.set7) rfl (by exact HFIN.out)
  · have he1 : (ef != 0) = true := by simpa using he
    have hfin := HB.out he
    have HFIN := Lib.hid hfin
    clear HB HG cF he hfin y0
    obtain ⟨r0, r1, r2, r3, r4, r5, r6⟩ := y1.cells7
    have f0 := y1.free 0
    have f1 := y1.free 1
    have f2 := y1.free 2
    have f3 := y1.free 3
    have f4 := y1.free 4
    have f5 := y1.free 5
    have f6 := y1.free 6
    have hbf := fun a0 a1 a2 a3 a4 a5 a6 => below_set7 (a0 := a0) (a1 := a1) (a2 := a2) (a3 := a3) (a4 := a4) (a5 := a5) (a6 := a6) hb03 (show w.heap.size ≤ w.heap.size + 1 by omega)
    go_wp2_with fail
    exact bodyPost_ret (results_exprE rfl _ _ (w.heap.size + 1) _ _ _ _ _ _ _ rfl y1.set7) rfl (by exact HFIN.out _ (hbf _ _ _ _ _ _ _))
theorem few_R (t : T) (hF : FitT t) : FewT (foldR t) := by
  unfold foldR
  split
  · simp only [zeroT, FewT, FewL]; exact ⟨Nat.zero_le _, trivial⟩
  · rename_i h
    have h0 : exprR t = 0 := by simpa using h
    exact few_form _ _ (Nat.le_refl _) (fold_form t.deep t (Nat.le_refl _) hF (exprR_form t h0)).1
set_option maxHeartbeats 16000000 in
theorem evalFolds_walk (t : T) (ao : Option Addr) (cap : Nat) (w : World) (hX : XEnv w) (n1 : t.kids.length ≤ cap) (hm : cap ≤ 9223372036854775807 ∧ (ao = none → cap = 0)) (hA : AtT w t ao) :
    Calls Tryz.prog 4 #[exprV t ao cap] w fun e w' => e = .returned (.bool true) ∧ Below w.heap.size w w' := by
  have cE := fun W (hW : Below w.heap.size w W) => Fold_any t ao cap W (hA.keep hW) n1 hm.1 (hX.keep hW)
  have cR := fun W (hW : Below w.heap.size w W) => foldedOf_any t ao cap W (hA.keep hW) n1 hm (hX.keep hW).tabs
  have hfew := (few_R t (atT_fit t.deep t ao (Nat.le_refl _) hA)).kids
  have cS := fun (ay az : Option Addr) (cy cz : Nat) W (hy : XT W (foldR t) ay cy) (hz : XT W (foldR t) az cz) => sameLw_any (foldR t).deep (foldR t) ay cy az cz W (Nat.le_refl _) hy.A hfew.1 hz.A hfew.2
  unfold FoldRPost at cE cR
  generalize foldR t = fr at *
  generalize exprR t = ef at *
  have HS := Lib.hid cS
  clear cS hfew hX hA hm
  simp only [exprV_cells t] at cE cR ⊢
  generalize t.kids.length = L at *
  obtain ⟨⟨op, k, i, b, s, nm⟩, l⟩ := t
  simp only [T.nd] at *
  generalize str s = S at *
  generalize str nm = N at *
  have z0 : Blk _ _ _ [_, _, _, _, _, _, _] := Blk.new w #[.int .i64 op, .int .i64 k, .int .i64 i, .int .u64 b, .string S, .string N, .slice ao L cap] 27
  have hb1 := (Below.refl w.heap.size w).alloc (Nat.le_refl _) (.cells #[.int .i64 op, .int .i64 k, .int .i64 i, .int .u64 b, .string S, .string N, .slice ao L cap] 27)
  generalize hw1 : w.alloc (.cells #[.int .i64 op, .int .i64 k, .int .i64 i, .int .u64 b, .string S, .string N, .slice ao L cap] 27) = w1 at z0 hb1
  have cc := cE w1 hb1
  obtain ⟨p0, p1, p2, p3, p4, p5, p6⟩ := z0.cells7
  go_enter Tryz.func4, Tryz.ntmps4
  go_upto_region 1 with fail
  try rw [hw1]
  clear hw1
  go_wp2_with fail
  refine cc.mono ?_
  rintro e w2 ⟨ay, cy, rfl, hY, hb2⟩
  obtain ⟨yo, yk, yi, yb, ys, ym, yl, hyv, _⟩ := fexprV fr ay cy
  rw [hyv]
  have y0 := z0.call hb2
  have hb02 := below_stepE hb1 hb1.size hb2
  have zV : Blk _ _ _ [_, _, _, _, _, _, _] := Blk.new w2 #[.int .i64 yo, .int .i64 yk, .int .i64 yi, .int .u64 yb, .string ys, .string ym, .slice ay yl cy] 27
  have hbV := (Below.refl w2.heap.size w2).alloc (Nat.le_refl _) (.cells #[.int .i64 yo, .int .i64 yk, .int .i64 yi, .int .u64 yb, .string ys, .string ym, .slice ay yl cy] 27)
  have y1 := y0.call hbV
  have hb03 := below_stepE hb02 hb02.size hbV
  have hY3 := hY.out.show.keep hbV
  clear cc cE z0 hb1 hb2 hb02 y0 p0 p1 p2 p3 p4 p5 p6 hY
  go_upto_region 2 with fail
  generalize hw3 : w2.alloc (.cells #[.int .i64 yo, .int .i64 yk, .int .i64 yi, .int .u64 yb, .string ys, .string ym, .slice ay yl cy] 27) = w3 at *
  clear hw3 hbV
  generalize w2.heap.size = g2 at *
  have cc := cR w3 hb03
  have HY3 := Lib.hid hY3
  obtain ⟨p0, p1, p2, p3, p4, p5, p6⟩ := y1.cells7
  clear cR hY3
  go_wp2_with fail
  refine cc.mono ?_
  rintro e w4 ⟨az, cz, rfl, hZ, hb4⟩
  obtain ⟨zo, zk, zi, zb, zs, zm, zl, hzv, _⟩ := fexprV fr az cz
  rw [hzv]
  have x1 := zV.call hb4
  have hb04 := below_stepE hb03 hb03.size hb4
  have zW : Blk _ _ _ [_, _, _, _, _, _, _] := Blk.new w4 #[.int .i64 zo, .int .i64 zk, .int .i64 zi, .int .u64 zb, .string zs, .string zm, .slice az zl cz] 27
  have hbV := (Below.refl w4.heap.size w4).alloc (Nat.le_refl _) (.cells #[.int .i64 zo, .int .i64 zk, .int .i64 zi, .int .u64 zb, .string zs, .string zm, .slice az zl cz] 27)
  have x2 := x1.call hbV
  have hb05 := below_stepE hb04 hb04.size hbV
  have hZ5 := hZ.out.show.keep hbV
  have hY5 := (HY3.out.keep hb4).keep hbV
  clear cc zV hb4 hb03 y1 p0 p1 p2 p3 p4 p5 p6 x1 hb04 hZ HY3
  go_upto_region 3 with fail
  generalize hw5 : w4.alloc (.cells #[.int .i64 zo, .int .i64 zk, .int .i64 zi, .int .u64 zb, .string zs, .string zm, .slice az zl cz] 27) = w5 at *
  clear hw5 hbV
  generalize w4.heap.size = g4 at *
  have cc := HS.out ay az cy cz w5 hY5 hZ5
  rw [hyv, hzv] at cc
  clear hY5 hZ5 hyv hzv HS
  obtain ⟨q0, q1, q2, q3, q4, q5, q6⟩ := x2.cells7
  obtain ⟨r0, r1, r2, r3, r4, r5, r6⟩ := zW.cells7
  go_wp2_with fail
  refine cc.mono ?_
  rintro e w6 ⟨rfl, hb6⟩
  have hb06 := below_stepE hb05 hb05.size hb6
  clear cc x2 zW hb6 hb05 q0 q1 q2 q3 q4 q5 q6 r0 r1 r2 r3 r4 r5 r6
  go_wp2_with fail
  go_ret
  exact ⟨by simp, hb06⟩
end Go.Proofs.YtcccnpcejfmfcaaGreatDoor
