/-
  CONTRACTS of package span's functions on ranges and numbers.
  CONDITIONS: each theorem's own hypotheses.
-/
import Derived.Test.YtmokcoghigimjaaDoorSpanT
import Derived.Test.YtmokcoghigimjaaDoorFitO
import Derived.Test.YtmokcoghigimjaaDoorExprC
import Derived.Test.YtmokcoghigimjaaDoorBlk
namespace Go.Proofs.YtmokcoghigimjaaDoor
open Go.RowKit
set_option linter.unusedVariables false
set_option maxRecDepth 100000

def rgV (r : Rg) : Value := .agg #[.int .i64 r.lo, .int .i64 r.hi]
theorem results_rg {fn : Func} {t : Tmp} (h : fn.results = #[.cell t 29]) (tmps : Array Value) (w : World) (g : Nat) (x0 x1 : Value) (hp : tmps.getD t undef = .pointer (some ⟨g, 0, none⟩)) (hB : Blk w g 29 [x0, x1]) :
    (results fn tmps).run Tryd.prog w = .ok (.agg #[x0, x1]) w := by
  have c0 := hB.cell (j := 0) rfl
  have c1 := hB.cell (j := 1) rfl
  have hp' : tmps[t]?.getD undef = .pointer (some ⟨g, 0, none⟩) := by simpa using hp
  simp [results, h, hp', go_sem, c0, c1]
theorem results_rg2 {fn : Func} {t a : Tmp} (h : fn.results = #[.cell t 29, .tmp a]) (tmps : Array Value) (w : World) (g : Nat) (x0 x1 : Value) (hp : tmps.getD t undef = .pointer (some ⟨g, 0, none⟩)) (hB : Blk w g 29 [x0, x1]) :
    (results fn tmps).run Tryd.prog w = .ok (.tuple #[.agg #[x0, x1], tmps.getD a undef]) w := by
  have c0 := hB.cell (j := 0) rfl
  have c1 := hB.cell (j := 1) rfl
  have hp' : tmps[t]?.getD undef = .pointer (some ⟨g, 0, none⟩) := by simpa using hp
  simp [results, h, hp', go_sem, c0, c1]
theorem Blk.set2 {W : World} {g : Nat} {T : TypeId} {a b a' b' : Value} (h : Blk W g T [a', b']) : Blk ((W.setCell ⟨g, 0, none⟩ a).setCell ⟨g, 1, none⟩ b) g T [a, b] := (h.set 0 a).set 1 b
theorem below_set2 {w W : World} {g : Nat} {a b : Value} (h : Below w.heap.size w W) (hg : w.heap.size ≤ g) : Below w.heap.size w ((W.setCell ⟨g, 0, none⟩ a).setCell ⟨g, 1, none⟩ b) := (h.setCell (p := ⟨g, 0, none⟩) hg _).setCell (p := ⟨g, 1, none⟩) hg _
theorem Blk.two {w : World} {b : Nat} {T : TypeId} {v0 v1 : Value} (h : Blk w b T [v0, v1]) : (w.cell? ⟨b, 0, none⟩ = some v0 ∧ w.cell? ⟨b, 1, none⟩ = some v1) ∧ w.frozen? ⟨b, 0, none⟩ = false ∧ w.frozen? ⟨b, 1, none⟩ = false :=
  ⟨⟨h.cell (j := 0) rfl, h.cell (j := 1) rfl⟩, h.free 0, h.free 1⟩
theorem below_stepG {B : Nat} {a W w : World} (h : Below B a W) (hs : B ≤ W.heap.size) (hb : Below W.heap.size W w) : Below B a w := h.trans (hb.mono hs)

set_option maxHeartbeats 4000000 in
theorem span_from_any (n : Int) (w : World) : Calls Tryd.prog 25 #[.int .i64 n] w fun e w' => e = .returned (rgV ⟨n, 9223372036854775807⟩) ∧ Below w.heap.size w w' := by
  have hz := Blk.new w #[.int .i64 0, .int .i64 0] 29
  have hb := (Below.refl w.heap.size w).alloc (Nat.le_refl _) (.cells #[.int .i64 0, .int .i64 0] 29)
  obtain ⟨w1, hw1⟩ : ∃ w1, w.alloc (.cells #[.int .i64 0, .int .i64 0] 29) = w1 := ⟨_, rfl⟩
  rw [hw1] at hz hb
  go_enter Tryd.func25, Tryd.ntmps25
  go_upto_region 1 with fail
  try rw [hw1]
  clear hw1
  obtain ⟨⟨p0, p1⟩, f0, f1⟩ := hz.two
  go_wp2_with fail
  exact bodyPost_ret (results_rg rfl _ _ w.heap.size _ _ rfl hz.set2) rfl ⟨rfl, below_set2 hb (Nat.le_refl _)⟩

set_option maxHeartbeats 4000000 in
theorem span_upto_any (n : Int) (w : World) : Calls Tryd.prog 31 #[.int .i64 n] w fun e w' => e = .returned (rgV ⟨-9223372036854775808, n⟩) ∧ Below w.heap.size w w' := by
  have hz := Blk.new w #[.int .i64 0, .int .i64 0] 29
  have hb := (Below.refl w.heap.size w).alloc (Nat.le_refl _) (.cells #[.int .i64 0, .int .i64 0] 29)
  obtain ⟨w1, hw1⟩ : ∃ w1, w.alloc (.cells #[.int .i64 0, .int .i64 0] 29) = w1 := ⟨_, rfl⟩
  rw [hw1] at hz hb
  go_enter Tryd.func31, Tryd.ntmps31
  go_upto_region 1 with fail
  try rw [hw1]
  clear hw1
  obtain ⟨⟨p0, p1⟩, f0, f1⟩ := hz.two
  go_wp2_with fail
  exact bodyPost_ret (results_rg rfl _ _ w.heap.size _ _ rfl hz.set2) rfl ⟨rfl, below_set2 hb (Nat.le_refl _)⟩

set_option maxHeartbeats 4000000 in
theorem span_none_any (w : World) : Calls Tryd.prog 20 #[] w fun e w' => e = .returned (rgV noneG) ∧ Below w.heap.size w w' := by
  have hz := Blk.new w #[.int .i64 0, .int .i64 0] 29
  have hb := (Below.refl w.heap.size w).alloc (Nat.le_refl _) (.cells #[.int .i64 0, .int .i64 0] 29)
  obtain ⟨w1, hw1⟩ : ∃ w1, w.alloc (.cells #[.int .i64 0, .int .i64 0] 29) = w1 := ⟨_, rfl⟩
  rw [hw1] at hz hb
  go_enter Tryd.func20, Tryd.ntmps20
  go_upto_region 1 with fail
  try rw [hw1]
  clear hw1
  obtain ⟨⟨p0, p1⟩, f0, f1⟩ := hz.two
  go_wp2_with fail
  exact bodyPost_ret (results_rg rfl _ _ w.heap.size _ _ rfl hz.set2) rfl ⟨rfl, below_set2 hb (Nat.le_refl _)⟩

set_option maxHeartbeats 4000000 in
theorem span_all_any (w : World) : Calls Tryd.prog 15 #[] w fun e w' => e = .returned (rgV allG) ∧ Below w.heap.size w w' := by
  have c1 := fun W => span_from_any (-9223372036854775808) W
  unfold rgV allG at *
  simp only at *
  have hz := Blk.new w #[.int .i64 0, .int .i64 0] 29
  have hb := (Below.refl w.heap.size w).alloc (Nat.le_refl _) (.cells #[.int .i64 0, .int .i64 0] 29)
  obtain ⟨w1, hw1⟩ : ∃ w1, w.alloc (.cells #[.int .i64 0, .int .i64 0] 29) = w1 := ⟨_, rfl⟩
  rw [hw1] at hz hb
  go_enter Tryd.func15, Tryd.ntmps15
  go_upto_region 1 with fail
  try rw [hw1]
  clear hw1
  go_wp2_with fail
  refine (c1 _).mono ?_
  rintro e w2 ⟨rfl, hb2⟩
  have z2 := hz.call hb2
  have hbb := below_stepG hb hb.size hb2
  clear hz hb hb2
  obtain ⟨⟨p0, p1⟩, f0, f1⟩ := z2.two
  go_wp2_with fail
  exact bodyPost_ret (results_rg rfl _ _ w.heap.size _ _ rfl z2.set2) rfl ⟨rfl, below_set2 hbb (Nat.le_refl _)⟩

set_option maxHeartbeats 8000000 in
theorem span_holding_any (op n : Int) (hn : -9223372036854775807 ≤ n ∧ n ≤ 9223372036854775807) (w : World) : Calls Tryd.prog 23 #[.int .i64 op, .int .i64 n] w fun e w' => e = .returned (rgV (holdG op n)) ∧ Below w.heap.size w w' := by
  have cF := fun m W => span_from_any m W
  have cU := fun m W => span_upto_any m W
  have cN := fun W => span_none_any W
  unfold rgV noneG at *
  simp only at *
  have ws : IntKind.i64.wrap (n - 1) = n - 1 := by rw [IntKind.wrap_i64]; omega
  by_cases h1 : op = 11
  · subst h1
    have e : holdG 11 n = ⟨-9223372036854775808, n - 1⟩ := rfl
    rw [e]; clear e
    have hz := Blk.new w #[.int .i64 0, .int .i64 0] 29
    have hb := (Below.refl w.heap.size w).alloc (Nat.le_refl _) (.cells #[.int .i64 0, .int .i64 0] 29)
    obtain ⟨w1, hw1⟩ : ∃ w1, w.alloc (.cells #[.int .i64 0, .int .i64 0] 29) = w1 := ⟨_, rfl⟩
    rw [hw1] at hz hb
    go_enter Tryd.func23, Tryd.ntmps23
    go_upto_region 1 with fail
    try rw [hw1]
    clear hw1
    go_wp2_with fail
    refine (cU _ _).mono ?_
    rintro e w2 ⟨rfl, hb2⟩
    have z2 := hz.call hb2
    have hbb := below_stepG hb hb.size hb2
    clear hz hb hb2
    obtain ⟨⟨p0, p1⟩, f0, f1⟩ := z2.two
    go_wp2_with fail
    exact bodyPost_ret (results_rg rfl _ _ w.heap.size _ _ rfl z2.set2) rfl ⟨rfl, below_set2 hbb (Nat.le_refl _)⟩
  by_cases h2 : op = 12
  · subst h2
    have e : holdG 12 n = ⟨-9223372036854775808, n⟩ := rfl
    rw [e]; clear e
    have hz := Blk.new w #[.int .i64 0, .int .i64 0] 29
    have hb := (Below.refl w.heap.size w).alloc (Nat.le_refl _) (.cells #[.int .i64 0, .int .i64 0] 29)
    obtain ⟨w1, hw1⟩ : ∃ w1, w.alloc (.cells #[.int .i64 0, .int .i64 0] 29) = w1 := ⟨_, rfl⟩
    rw [hw1] at hz hb
    go_enter Tryd.func23, Tryd.ntmps23
    go_upto_region 1 with fail
    try rw [hw1]
    clear hw1
    go_wp2_with fail
    refine (cU _ _).mono ?_
    rintro e w2 ⟨rfl, hb2⟩
    have z2 := hz.call hb2
    have hbb := below_stepG hb hb.size hb2
    clear hz hb hb2
    obtain ⟨⟨p0, p1⟩, f0, f1⟩ := z2.two
    go_wp2_with fail
    exact bodyPost_ret (results_rg rfl _ _ w.heap.size _ _ rfl z2.set2) rfl ⟨rfl, below_set2 hbb (Nat.le_refl _)⟩
  by_cases h3 : op = 13
  · subst h3
    by_cases hm : n = 9223372036854775807
    · have e : holdG 13 n = ⟨1, 0⟩ := by unfold holdG; rw [if_neg (by decide), if_neg (by decide), if_pos (by decide), if_pos hm]; rfl
      rw [e]; clear e
      subst hm
      have hz := Blk.new w #[.int .i64 0, .int .i64 0] 29
      have hb := (Below.refl w.heap.size w).alloc (Nat.le_refl _) (.cells #[.int .i64 0, .int .i64 0] 29)
      obtain ⟨w1, hw1⟩ : ∃ w1, w.alloc (.cells #[.int .i64 0, .int .i64 0] 29) = w1 := ⟨_, rfl⟩
      rw [hw1] at hz hb
      go_enter Tryd.func23, Tryd.ntmps23
      go_upto_region 1 with fail
      try rw [hw1]
      clear hw1
      go_wp2_with fail
      refine (cN _).mono ?_
      rintro e w2 ⟨rfl, hb2⟩
      have z2 := hz.call hb2
      have hbb := below_stepG hb hb.size hb2
      clear hz hb hb2
      obtain ⟨⟨p0, p1⟩, f0, f1⟩ := z2.two
      go_wp2_with fail
      exact bodyPost_ret (results_rg rfl _ _ w.heap.size _ _ rfl z2.set2) rfl ⟨rfl, below_set2 hbb (Nat.le_refl _)⟩
    · have e : holdG 13 n = ⟨n + 1, 9223372036854775807⟩ := by unfold holdG; rw [if_neg (by decide), if_neg (by decide), if_pos (by decide), if_neg hm]
      rw [e]; clear e
      have hb1 : (n == 9223372036854775807) = false := by simpa using hm
      have wa : IntKind.i64.wrap (n + 1) = n + 1 := by rw [IntKind.wrap_i64]; omega
      clear hm hn
      have hz := Blk.new w #[.int .i64 0, .int .i64 0] 29
      have hb := (Below.refl w.heap.size w).alloc (Nat.le_refl _) (.cells #[.int .i64 0, .int .i64 0] 29)
      obtain ⟨w1, hw1⟩ : ∃ w1, w.alloc (.cells #[.int .i64 0, .int .i64 0] 29) = w1 := ⟨_, rfl⟩
      rw [hw1] at hz hb
      go_enter Tryd.func23, Tryd.ntmps23
      go_upto_region 1 with fail
      try rw [hw1]
      clear hw1
      go_wp2_with fail
      refine (cF _ _).mono ?_
      rintro e w2 ⟨rfl, hb2⟩
      have z2 := hz.call hb2
      have hbb := below_stepG hb hb.size hb2
      clear hz hb hb2
      obtain ⟨⟨p0, p1⟩, f0, f1⟩ := z2.two
      go_wp2_with fail
      exact bodyPost_ret (results_rg rfl _ _ w.heap.size _ _ rfl z2.set2) rfl ⟨rfl, below_set2 hbb (Nat.le_refl _)⟩
  by_cases h4 : op = 14
  · subst h4
    have e : holdG 14 n = ⟨n, 9223372036854775807⟩ := rfl
    rw [e]; clear e
    have hz := Blk.new w #[.int .i64 0, .int .i64 0] 29
    have hb := (Below.refl w.heap.size w).alloc (Nat.le_refl _) (.cells #[.int .i64 0, .int .i64 0] 29)
    obtain ⟨w1, hw1⟩ : ∃ w1, w.alloc (.cells #[.int .i64 0, .int .i64 0] 29) = w1 := ⟨_, rfl⟩
    rw [hw1] at hz hb
    go_enter Tryd.func23, Tryd.ntmps23
    go_upto_region 1 with fail
    try rw [hw1]
    clear hw1
    go_wp2_with fail
    refine (cF _ _).mono ?_
    rintro e w2 ⟨rfl, hb2⟩
    have z2 := hz.call hb2
    have hbb := below_stepG hb hb.size hb2
    clear hz hb hb2
    obtain ⟨⟨p0, p1⟩, f0, f1⟩ := z2.two
    go_wp2_with fail
    exact bodyPost_ret (results_rg rfl _ _ w.heap.size _ _ rfl z2.set2) rfl ⟨rfl, below_set2 hbb (Nat.le_refl _)⟩
  have e : holdG op n = ⟨n, n⟩ := by unfold holdG; rw [if_neg h1, if_neg h2, if_neg h3, if_neg h4]
  rw [e]; clear e
  have b1 : (op == 11) = false := by simpa using h1
  have b2 : (op == 12) = false := by simpa using h2
  have b3 : (op == 13) = false := by simpa using h3
  have b4 : (op == 14) = false := by simpa using h4
  clear h1 h2 h3 h4
  have hz := Blk.new w #[.int .i64 0, .int .i64 0] 29
  have hb := (Below.refl w.heap.size w).alloc (Nat.le_refl _) (.cells #[.int .i64 0, .int .i64 0] 29)
  obtain ⟨w1, hw1⟩ : ∃ w1, w.alloc (.cells #[.int .i64 0, .int .i64 0] 29) = w1 := ⟨_, rfl⟩
  rw [hw1] at hz hb
  go_enter Tryd.func23, Tryd.ntmps23
  go_upto_region 1 with fail
  try rw [hw1]
  clear hw1
  obtain ⟨⟨p0, p1⟩, f0, f1⟩ := hz.two
  go_wp2_with fail
  exact bodyPost_ret (results_rg rfl _ _ w.heap.size _ _ rfl hz.set2) rfl ⟨rfl, below_set2 hb (Nat.le_refl _)⟩

set_option maxHeartbeats 4000000 in
theorem span_turned_any (op : Int) (w : World) : Calls Tryd.prog 24 #[.int .i64 op] w fun e w' => e = .returned (.int .i64 (turnO op)) ∧ w' = w := by
  unfold turnO
  by_cases h1 : op = 11
  · subst h1
    go_enter Tryd.func24, Tryd.ntmps24
    go_wp2_with fail
    go_ret
    exact ⟨rfl, rfl⟩
  by_cases h2 : op = 12
  · subst h2
    go_enter Tryd.func24, Tryd.ntmps24
    go_wp2_with fail
    go_ret
    exact ⟨rfl, rfl⟩
  by_cases h3 : op = 13
  · subst h3
    go_enter Tryd.func24, Tryd.ntmps24
    go_wp2_with fail
    go_ret
    exact ⟨rfl, rfl⟩
  by_cases h4 : op = 14
  · subst h4
    go_enter Tryd.func24, Tryd.ntmps24
    go_wp2_with fail
    go_ret
    exact ⟨rfl, rfl⟩
  rw [if_neg h1, if_neg h2, if_neg h3, if_neg h4]
  have b1 : (op == 11) = false := by simpa using h1
  have b2 : (op == 12) = false := by simpa using h2
  have b3 : (op == 13) = false := by simpa using h3
  have b4 : (op == 14) = false := by simpa using h4
  clear h1 h2 h3 h4
  go_enter Tryd.func24, Tryd.ntmps24
  go_wp2_with fail
  go_ret
  exact ⟨rfl, rfl⟩

set_option maxHeartbeats 4000000 in
theorem span_literal_any (t : T) (ao : Option Addr) (cap : Nat) (w : World) : Calls Tryd.prog 30 #[exprV t ao cap] w fun e w' => e = .returned (.tuple #[.int .i64 (litN t).1, .bool (litN t).2]) ∧ Below w.heap.size w w' := by
  unfold litN
  rw [exprV_cells]
  generalize t.kids.length = L at *
  generalize t.nd = nd at *
  obtain ⟨op, k, i, b, s, nm⟩ := nd
  simp only at *
  generalize str s = S at *
  generalize str nm = N at *
  by_cases h1 : op = 1
  · subst h1
    by_cases h2 : k = 2
    · subst h2
      rw [if_pos ⟨rfl, rfl⟩]
      go_enter Tryd.func30, Tryd.ntmps30
      go_wp2_with fail
      go_ret2
      exact ⟨rfl, (Below.refl _ _).alloc (Nat.le_refl _) _⟩
    · rw [if_neg (by simp [h2])]
      have b1 : (k != 2) = true := by simpa using h2
      clear h2
      go_enter Tryd.func30, Tryd.ntmps30
      go_wp2_with fail
      go_ret2
      exact ⟨rfl, (Below.refl _ _).alloc (Nat.le_refl _) _⟩
  · rw [if_neg (by simp [h1])]
    have b1 : (op != 1) = true := by simpa using h1
    clear h1
    go_enter Tryd.func30, Tryd.ntmps30
    go_wp2_with fail
    go_ret2
    exact ⟨rfl, (Below.refl _ _).alloc (Nat.le_refl _) _⟩

theorem str_eqb (a b : List UInt8) : ((str a).toList == (str b).toList) = (a == b) := by rw [str_toList, str_toList]
set_option maxHeartbeats 4000000 in
theorem span_isColumn_any (t : T) (ao : Option Addr) (cap : Nat) (n : List UInt8) (w : World) : Calls Tryd.prog 22 #[exprV t ao cap, .string (str n)] w fun e w' => e = .returned (.bool (isCol t n)) ∧ Below w.heap.size w w' := by
  unfold isCol
  rw [exprV_cells]
  generalize t.kids.length = L at *
  generalize t.nd = nd at *
  obtain ⟨op, k, i, b, s, nm⟩ := nd
  simp only at *
  generalize str s = S at *
  have hs := str_eqb nm n
  generalize str nm = N at *
  generalize str n = M at *
  generalize (nm == n) = B at *
  by_cases h1 : op = 2
  · subst h1
    go_enter Tryd.func22, Tryd.ntmps22
    go_wp2_with fail
    go_ret
    exact ⟨by first | rfl | (simp [hs]), (Below.refl _ _).alloc (Nat.le_refl _) _⟩
  · have b1 : (op == 2) = false := by simpa using h1
    rw [b1]
    clear h1
    go_enter Tryd.func22, Tryd.ntmps22
    go_wp2_with fail
    go_ret
    exact ⟨rfl, (Below.refl _ _).alloc (Nat.le_refl _) _⟩

set_option maxHeartbeats 8000000 in
theorem span_number_any (t : T) (ao : Option Addr) (cap : Nat) (w : World) (hA : AtT w t ao) (hf : formT t = 0) : Calls Tryd.prog 21 #[exprV t ao cap] w fun e w' => e = .returned (.tuple #[.int .i64 (numG t).1, .bool (numG t).2]) ∧ Below w.heap.size w w' := by
  have hF := atT_fit t.deep t ao (Nat.le_refl _) hA
  by_cases h3 : t.nd.op = 3
  · obtain ⟨u, hk, fu, gu⟩ := form_one t hf hF h3
    have hr := litN_rng u fu gu
    have e : numG t = (0 - (litN u).1, (litN u).2) := by
      unfold numG; rw [if_pos h3, hk]
    rw [e]
    obtain ⟨d, l⟩ := t
    simp only [T.kids] at hk
    subst hk
    simp only [AtT] at hA
    obtain ⟨a, o, rfl, ha, hnode⟩ := AtL.at hA.2 0 u rfl
    rw [Nat.zero_add] at hnode
    obtain ⟨ao', cap', n1, n2, nA, z0, z1, z2, z3, z4, z5, z6⟩ := hnode.cells
    have c1 := fun W => span_literal_any u ao' cap' W
    have wn : IntKind.i64.wrap (-(litN u).1) = 0 - (litN u).1 := by rw [IntKind.wrap_i64]; omega
    rw [exprV_cells]
    simp only [exprV_cells] at c1
    simp only [T.nd, T.kids, List.length_cons, List.length_nil] at *
    obtain ⟨op, k, i, b, s, nm⟩ := d
    simp only at h3
    subst h3
    generalize (litN u).1 = q at *
    generalize (litN u).2 = r at *
    generalize u.kids.length = L at *
    obtain ⟨⟨op', k', i', b', s', nm'⟩, l'⟩ := u
    simp only at *
    generalize str s = S at *
    generalize str nm = N at *
    generalize str s' = S' at *
    generalize str nm' = N' at *
    have hb := (Below.refl w.heap.size w).alloc (Nat.le_refl _) (.cells #[.int .i64 3, .int .i64 k, .int .i64 i, .int .u64 b, .string S, .string N, .slice (some ⟨a, o, none⟩) 1 cap] 27)
    have hz := Blk.new w #[.int .i64 3, .int .i64 k, .int .i64 i, .int .u64 b, .string S, .string N, .slice (some ⟨a, o, none⟩) 1 cap] 27
    obtain ⟨w1, hw1⟩ : ∃ w1, w.alloc (.cells #[.int .i64 3, .int .i64 k, .int .i64 i, .int .u64 b, .string S, .string N, .slice (some ⟨a, o, none⟩) 1 cap] 27) = w1 := ⟨_, rfl⟩
    rw [hw1] at hz hb
    have y0 := (hb.cell (p := ⟨a, _, none⟩) ha).trans z0
    have y1 := (hb.cell (p := ⟨a, _, none⟩) ha).trans z1
    have y2 := (hb.cell (p := ⟨a, _, none⟩) ha).trans z2
    have y3 := (hb.cell (p := ⟨a, _, none⟩) ha).trans z3
    have y4 := (hb.cell (p := ⟨a, _, none⟩) ha).trans z4
    have y5 := (hb.cell (p := ⟨a, _, none⟩) ha).trans z5
    have y6 := (hb.cell (p := ⟨a, _, none⟩) ha).trans z6
    simp only [Nat.zero_mul, Nat.add_zero] at y0 y1 y2 y3 y4 y5 y6
    have p0 := hz.cell (j := 0) rfl
    have p6 := hz.cell (j := 6) rfl
    clear hA hnode nA z0 z1 z2 z3 z4 z5 z6 hf hF e fu gu hr hz
    go_enter Tryd.func21, Tryd.ntmps21
    go_upto_region 1 with fail
    try rw [hw1]
    clear hw1
    go_wp2_with fail
    refine (c1 _).mono ?_
    rintro e w2 ⟨rfl, hb2⟩
    have hbb := below_stepG hb hb.size hb2
    clear c1 hb hb2 y0 y1 y2 y3 y4 y5 y6 p0 p6
    go_wp2_with fail
    go_ret2
    exact ⟨by first | rfl | simp, hbb⟩
  · have c1 := fun W => span_literal_any t ao cap W
    have e : numG t = litN t := by unfold numG; rw [if_neg h3]
    rw [e]
    simp only [exprV_cells] at c1 ⊢
    generalize (litN t).1 = q at *
    generalize (litN t).2 = r at *
    generalize t.kids.length = L at *
    generalize t.nd = nd at *
    obtain ⟨op, k, i, b, s, nm⟩ := nd
    simp only at *
    generalize str s = S at *
    generalize str nm = N at *
    have b1 : (op != 3) = true := by simpa using h3
    have hb := (Below.refl w.heap.size w).alloc (Nat.le_refl _) (.cells #[.int .i64 op, .int .i64 k, .int .i64 i, .int .u64 b, .string S, .string N, .slice ao L cap] 27)
    clear h3 e hF hf hA
    go_enter Tryd.func21, Tryd.ntmps21
    go_wp2_with fail
    refine (c1 _).mono ?_
    rintro e w2 ⟨rfl, hb2⟩
    have hbb := below_stepG hb hb.size hb2
    clear c1 hb hb2
    go_wp2_with fail
    go_ret2
    exact ⟨rfl, hbb⟩

end Go.Proofs.YtmokcoghigimjaaDoor
