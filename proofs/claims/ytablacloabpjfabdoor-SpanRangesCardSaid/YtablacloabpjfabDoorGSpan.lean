/-
  MERGED: SpanA, SpanC, SpanD, SpanE.
  CONDITIONS: each theorem's own hypotheses.
-/
import Derived.Test.YtablacloabpjfabDoorSpanT
import Derived.Test.YtablacloabpjfabDoorFitO
import Derived.Test.YtablacloabpjfabDoorExprC
import Derived.Test.YtablacloabpjfabDoorBlk
import Derived.Test.YtablacloabpjfabDoorRegT
import Derived.Test.YtablacloabpjfabDoorExprF

/-! CONTRACTS of package span's functions on ranges and numbers. CONDITIONS: each theorem's own hypotheses. -/
namespace Go.Proofs.YtablacloabpjfabDoor
open Go.RowKit
set_option linter.unusedVariables false
set_option maxRecDepth 100000

def rgV (r : Rg) : Value := .agg #[.int .i64 r.lo, .int .i64 r.hi]
theorem results_rg {fn : Func} {t : Tmp} (h : fn.results = #[.cell t 29]) (tmps : Array Value) (w : World) (g : Nat) (x0 x1 : Value) (hp : tmps.getD t undef = .pointer (some ⟨g, 0, none⟩)) (hB : Blk w g 29 [x0, x1]) :
    (results fn tmps).run Tryd.prog w = .ok (.agg #[x0, x1]) w := by
  have c0 := hB.cell (j := 0) rfl
  have c1 := hB.cell (j := 1) rfl
  have hp' : tmps[t]?.getD undef = .pointer (some ⟨g, 0, none⟩) := by simpa using hp
  simp [results, h, hp', go_sem, c0, c1]
theorem results_rg2 {fn : Func} {t a : Tmp} (h : fn.results = #[.cell t 29, .tmp a]) (tmps : Array Value) (w : World) (g : Nat) (x0 x1 : Value) (hp : tmps.getD t undef = .pointer (some ⟨g, 0, none⟩)) (hB : Blk w g 29 [x0, x1]) :
    (results fn tmps).run Tryd.prog w = .ok (.tuple #[.agg #[x0, x1], tmps.getD a undef]) w := by
  have c0 := hB.cell (j := 0) rfl
  have c1 := hB.cell (j := 1) rfl
  have hp' : tmps[t]?.getD undef = .pointer (some ⟨g, 0, none⟩) := by simpa using hp
  simp [results, h, hp', go_sem, c0, c1]
theorem Blk.set2 {W : World} {g : Nat} {T : TypeId} {a b a' b' : Value} (h : Blk W g T [a', b']) : Blk ((W.setCell ⟨g, 0, none⟩ a).setCell ⟨g, 1, none⟩ b) g T [a, b] := (h.set 0 a).set 1 b
theorem below_set2 {w W : World} {g : Nat} {a b : Value} (h : Below w.heap.size w W) (hg : w.heap.size ≤ g) : Below w.heap.size w ((W.setCell ⟨g, 0, none⟩ a).setCell ⟨g, 1, none⟩ b) := (h.setCell (p := ⟨g, 0, none⟩) hg _).setCell (p := ⟨g, 1, none⟩) hg _
theorem Blk.two {w : World} {b : Nat} {T : TypeId} {v0 v1 : Value} (h : Blk w b T [v0, v1]) : (w.cell? ⟨b, 0, none⟩ = some v0 ∧ w.cell? ⟨b, 1, none⟩ = some v1) ∧ w.frozen? ⟨b, 0, none⟩ = false ∧ w.frozen? ⟨b, 1, none⟩ = false :=
  ⟨⟨h.cell (j := 0) rfl, h.cell (j := 1) rfl⟩, h.free 0, h.free 1⟩
theorem below_stepG {B : Nat} {a W w : World} (h : Below B a W) (hs : B ≤ W.heap.size) (hb : Below W.heap.size W w) : Below B a w := h.trans (hb.mono hs)

set_option maxHeartbeats 4000000 in
theorem span_from_any (n : Int) (w : World) : Calls Tryd.prog 25 #[.int .i64 n] w fun e w' => e = .returned (rgV ⟨n, 9223372036854775807⟩) ∧ Below w.heap.size w w' := by
  have hz := Blk.new w #[.int .i64 0, .int .i64 0] 29
  have hb := (Below.refl w.heap.size w).alloc (Nat.le_refl _) (.cells #[.int .i64 0, .int .i64 0] 29)
  obtain ⟨w1, hw1⟩ : ∃ w1, w.alloc (.cells #[.int .i64 0, .int .i64 0] 29) = w1 := ⟨_, rfl⟩
  rw [hw1] at hz hb
  go_enter Tryd.func25, Tryd.ntmps25
  go_upto_region 1 with fail
  try rw [hw1]
  clear hw1
  obtain ⟨⟨p0, p1⟩, f0, f1⟩ := hz.two
  go_wp2_with fail
  exact bodyPost_ret (results_rg rfl _ _ w.heap.size _ _ rfl hz.set2) rfl ⟨rfl, below_set2 hb (Nat.le_refl _)⟩

set_option maxHeartbeats 4000000 in
theorem span_upto_any (n : Int) (w : World) : Calls Tryd.prog 31 #[.int .i64 n] w fun e w' => e = .returned (rgV ⟨-9223372036854775808, n⟩) ∧ Below w.heap.size w w' := by
  have hz := Blk.new w #[.int .i64 0, .int .i64 0] 29
  have hb := (Below.refl w.heap.size w).alloc (Nat.le_refl _) (.cells #[.int .i64 0, .int .i64 0] 29)
  obtain ⟨w1, hw1⟩ : ∃ w1, w.alloc (.cells #[.int .i64 0, .int .i64 0] 29) = w1 := ⟨_, rfl⟩
  rw [hw1] at hz hb
  go_enter Tryd.func31, Tryd.ntmps31
  go_upto_region 1 with fail
  try rw [hw1]
  clear hw1
  obtain ⟨⟨p0, p1⟩, f0, f1⟩ := hz.two
  go_wp2_with fail
  exact bodyPost_ret (results_rg rfl _ _ w.heap.size _ _ rfl hz.set2) rfl ⟨rfl, below_set2 hb (Nat.le_refl _)⟩

set_option maxHeartbeats 4000000 in
theorem span_none_any (w : World) : Calls Tryd.prog 20 #[] w fun e w' => e = .returned (rgV noneG) ∧ Below w.heap.size w w' := by
  have hz := Blk.new w #[.int .i64 0, .int .i64 0] 29
  have hb := (Below.refl w.heap.size w).alloc (Nat.le_refl _) (.cells #[.int .i64 0, .int .i64 0] 29)
  obtain ⟨w1, hw1⟩ : ∃ w1, w.alloc (.cells #[.int .i64 0, .int .i64 0] 29) = w1 := ⟨_, rfl⟩
  rw [hw1] at hz hb
  go_enter Tryd.func20, Tryd.ntmps20
  go_upto_region 1 with fail
  try rw [hw1]
  clear hw1
  obtain ⟨⟨p0, p1⟩, f0, f1⟩ := hz.two
  go_wp2_with fail
  exact bodyPost_ret (results_rg rfl _ _ w.heap.size _ _ rfl hz.set2) rfl ⟨rfl, below_set2 hb (Nat.le_refl _)⟩

set_option maxHeartbeats 4000000 in
theorem span_all_any (w : World) : Calls Tryd.prog 15 #[] w fun e w' => e = .returned (rgV allG) ∧ Below w.heap.size w w' := by
  have c1 := fun W => span_from_any (-9223372036854775808) W
  unfold rgV allG at *
  simp only at *
  have hz := Blk.new w #[.int .i64 0, .int .i64 0] 29
  have hb := (Below.refl w.heap.size w).alloc (Nat.le_refl _) (.cells #[.int .i64 0, .int .i64 0] 29)
  obtain ⟨w1, hw1⟩ : ∃ w1, w.alloc (.cells #[.int .i64 0, .int .i64 0] 29) = w1 := ⟨_, rfl⟩
  rw [hw1] at hz hb
  go_enter Tryd.func15, Tryd.ntmps15
  go_upto_region 1 with fail
  try rw [hw1]
  clear hw1
  go_wp2_with fail
  refine (c1 _).mono ?_
  rintro e w2 ⟨rfl, hb2⟩
  have z2 := hz.call hb2
  have hbb := below_stepG hb hb.size hb2
  clear hz hb hb2
  obtain ⟨⟨p0, p1⟩, f0, f1⟩ := z2.two
  go_wp2_with fail
  exact bodyPost_ret (results_rg rfl _ _ w.heap.size _ _ rfl z2.set2) rfl ⟨rfl, below_set2 hbb (Nat.le_refl _)⟩

set_option maxHeartbeats 8000000 in
theorem span_holding_any (op n : Int) (hn : -9223372036854775807 ≤ n ∧ n ≤ 9223372036854775807) (w : World) : Calls Tryd.prog 23 #[.int .i64 op, .int .i64 n] w fun e w' => e = .returned (rgV (holdG op n)) ∧ Below w.heap.size w w' := by
  have cF := fun m W => span_from_any m W
  have cU := fun m W => span_upto_any m W
  have cN := fun W => span_none_any W
  unfold rgV noneG at *
  simp only at *
  have ws : IntKind.i64.wrap (n - 1) = n - 1 := by rw [IntKind.wrap_i64]; omega
  by_cases h1 : op = 11
  · subst h1
    have e : holdG 11 n = ⟨-9223372036854775808, n - 1⟩ := rfl
    rw [e]; clear e
    have hz := Blk.new w #[.int .i64 0, .int .i64 0] 29
    have hb := (Below.refl w.heap.size w).alloc (Nat.le_refl _) (.cells #[.int .i64 0, .int .i64 0] 29)
    obtain ⟨w1, hw1⟩ : ∃ w1, w.alloc (.cells #[.int .i64 0, .int .i64 0] 29) = w1 := ⟨_, rfl⟩
    rw [hw1] at hz hb
    go_enter Tryd.func23, Tryd.ntmps23
    go_upto_region 1 with fail
    try rw [hw1]
    clear hw1
    go_wp2_with fail
    refine (cU _ _).mono ?_
    rintro e w2 ⟨rfl, hb2⟩
    have z2 := hz.call hb2
    have hbb := below_stepG hb hb.size hb2
    clear hz hb hb2
    obtain ⟨⟨p0, p1⟩, f0, f1⟩ := z2.two
    go_wp2_with fail
    exact bodyPost_ret (results_rg rfl _ _ w.heap.size _ _ rfl z2.set2) rfl ⟨rfl, below_set2 hbb (Nat.le_refl _)⟩
  by_cases h2 : op = 12
  · subst h2
    have e : holdG 12 n = ⟨-9223372036854775808, n⟩ := rfl
    rw [e]; clear e
    have hz := Blk.new w #[.int .i64 0, .int .i64 0] 29
    have hb := (Below.refl w.heap.size w).alloc (Nat.le_refl _) (.cells #[.int .i64 0, .int .i64 0] 29)
    obtain ⟨w1, hw1⟩ : ∃ w1, w.alloc (.cells #[.int .i64 0, .int .i64 0] 29) = w1 := ⟨_, rfl⟩
    rw [hw1] at hz hb
    go_enter Tryd.func23, Tryd.ntmps23
    go_upto_region 1 with fail
    try rw [hw1]
    clear hw1
    go_wp2_with fail
    refine (cU _ _).mono ?_
    rintro e w2 ⟨rfl, hb2⟩
    have z2 := hz.call hb2
    have hbb := below_stepG hb hb.size hb2
    clear hz hb hb2
    obtain ⟨⟨p0, p1⟩, f0, f1⟩ := z2.two
    go_wp2_with fail
    exact bodyPost_ret (results_rg rfl _ _ w.heap.size _ _ rfl z2.set2) rfl ⟨rfl, below_set2 hbb (Nat.le_refl _)⟩
  by_cases h3 : op = 13
  · subst h3
    by_cases hm : n = 9223372036854775807
    · have e : holdG 13 n = ⟨1, 0⟩ := by unfold holdG; rw [if_neg (by decide), if_neg (by decide), if_pos (by decide), if_pos hm]; rfl
      rw [e]; clear e
      subst hm
      have hz := Blk.new w #[.int .i64 0, .int .i64 0] 29
      have hb := (Below.refl w.heap.size w).alloc (Nat.le_refl _) (.cells #[.int .i64 0, .int .i64 0] 29)
      obtain ⟨w1, hw1⟩ : ∃ w1, w.alloc (.cells #[.int .i64 0, .int .i64 0] 29) = w1 := ⟨_, rfl⟩
      rw [hw1] at hz hb
      go_enter Tryd.func23, Tryd.ntmps23
      go_upto_region 1 with fail
      try rw [hw1]
      clear hw1
      go_wp2_with fail
      refine (cN _).mono ?_
      rintro e w2 ⟨rfl, hb2⟩
      have z2 := hz.call hb2
      have hbb := below_stepG hb hb.size hb2
      clear hz hb hb2
      obtain ⟨⟨p0, p1⟩, f0, f1⟩ := z2.two
      go_wp2_with fail
      exact bodyPost_ret (results_rg rfl _ _ w.heap.size _ _ rfl z2.set2) rfl ⟨rfl, below_set2 hbb (Nat.le_refl _)⟩
    · have e : holdG 13 n = ⟨n + 1, 9223372036854775807⟩ := by unfold holdG; rw [if_neg (by decide), if_neg (by decide), if_pos (by decide), if_neg hm]
      rw [e]; clear e
      have hb1 : (n == 9223372036854775807) = false := by simpa using hm
      have wa : IntKind.i64.wrap (n + 1) = n + 1 := by rw [IntKind.wrap_i64]; omega
      clear hm hn
      have hz := Blk.new w #[.int .i64 0, .int .i64 0] 29
      have hb := (Below.refl w.heap.size w).alloc (Nat.le_refl _) (.cells #[.int .i64 0, .int .i64 0] 29)
      obtain ⟨w1, hw1⟩ : ∃ w1, w.alloc (.cells #[.int .i64 0, .int .i64 0] 29) = w1 := ⟨_, rfl⟩
      rw [hw1] at hz hb
      go_enter Tryd.func23, Tryd.ntmps23
      go_upto_region 1 with fail
      try rw [hw1]
      clear hw1
      go_wp2_with fail
      refine (cF _ _).mono ?_
      rintro e w2 ⟨rfl, hb2⟩
      have z2 := hz.call hb2
      have hbb := below_stepG hb hb.size hb2
      clear hz hb hb2
      obtain ⟨⟨p0, p1⟩, f0, f1⟩ := z2.two
      go_wp2_with fail
      exact bodyPost_ret (results_rg rfl _ _ w.heap.size _ _ rfl z2.set2) rfl ⟨rfl, below_set2 hbb (Nat.le_refl _)⟩
  by_cases h4 : op = 14
  · subst h4
    have e : holdG 14 n = ⟨n, 9223372036854775807⟩ := rfl
    rw [e]; clear e
    have hz := Blk.new w #[.int .i64 0, .int .i64 0] 29
    have hb := (Below.refl w.heap.size w).alloc (Nat.le_refl _) (.cells #[.int .i64 0, .int .i64 0] 29)
    obtain ⟨w1, hw1⟩ : ∃ w1, w.alloc (.cells #[.int .i64 0, .int .i64 0] 29) = w1 := ⟨_, rfl⟩
    rw [hw1] at hz hb
    go_enter Tryd.func23, Tryd.ntmps23
    go_upto_region 1 with fail
    try rw [hw1]
    clear hw1
    go_wp2_with fail
    refine (cF _ _).mono ?_
    rintro e w2 ⟨rfl, hb2⟩
    have z2 := hz.call hb2
    have hbb := below_stepG hb hb.size hb2
    clear hz hb hb2
    obtain ⟨⟨p0, p1⟩, f0, f1⟩ := z2.two
    go_wp2_with fail
    exact bodyPost_ret (results_rg rfl _ _ w.heap.size _ _ rfl z2.set2) rfl ⟨rfl, below_set2 hbb (Nat.le_refl _)⟩
  have e : holdG op n = ⟨n, n⟩ := by unfold holdG; rw [if_neg h1, if_neg h2, if_neg h3, if_neg h4]
  rw [e]; clear e
  have b1 : (op == 11) = false := by simpa using h1
  have b2 : (op == 12) = false := by simpa using h2
  have b3 : (op == 13) = false := by simpa using h3
  have b4 : (op == 14) = false := by simpa using h4
  clear h1 h2 h3 h4
  have hz := Blk.new w #[.int .i64 0, .int .i64 0] 29
  have hb := (Below.refl w.heap.size w).alloc (Nat.le_refl _) (.cells #[.int .i64 0, .int .i64 0] 29)
  obtain ⟨w1, hw1⟩ : ∃ w1, w.alloc (.cells #[.int .i64 0, .int .i64 0] 29) = w1 := ⟨_, rfl⟩
  rw [hw1] at hz hb
  go_enter Tryd.func23, Tryd.ntmps23
  go_upto_region 1 with fail
  try rw [hw1]
  clear hw1
  obtain ⟨⟨p0, p1⟩, f0, f1⟩ := hz.two
  go_wp2_with fail
  exact bodyPost_ret (results_rg rfl _ _ w.heap.size _ _ rfl hz.set2) rfl ⟨rfl, below_set2 hb (Nat.le_refl _)⟩

set_option maxHeartbeats 4000000 in
theorem span_turned_any (op : Int) (w : World) : Calls Tryd.prog 24 #[.int .i64 op] w fun e w' => e = .returned (.int .i64 (turnO op)) ∧ w' = w := by
  unfold turnO
  by_cases h1 : op = 11
  · subst h1
    go_enter Tryd.func24, Tryd.ntmps24
    go_wp2_with fail
    go_ret
    exact ⟨rfl, rfl⟩
  by_cases h2 : op = 12
  · subst h2
    go_enter Tryd.func24, Tryd.ntmps24
    go_wp2_with fail
    go_ret
    exact ⟨rfl, rfl⟩
  by_cases h3 : op = 13
  · subst h3
    go_enter Tryd.func24, Tryd.ntmps24
    go_wp2_with fail
    go_ret
    exact ⟨rfl, rfl⟩
  by_cases h4 : op = 14
  · subst h4
    go_enter Tryd.func24, Tryd.ntmps24
    go_wp2_with fail
    go_ret
    exact ⟨rfl, rfl⟩
  rw [if_neg h1, if_neg h2, if_neg h3, if_neg h4]
  have b1 : (op == 11) = false := by simpa using h1
  have b2 : (op == 12) = false := by simpa using h2
  have b3 : (op == 13) = false := by simpa using h3
  have b4 : (op == 14) = false := by simpa using h4
  clear h1 h2 h3 h4
  go_enter Tryd.func24, Tryd.ntmps24
  go_wp2_with fail
  go_ret
  exact ⟨rfl, rfl⟩

set_option maxHeartbeats 4000000 in
theorem span_literal_any (t : T) (ao : Option Addr) (cap : Nat) (w : World) : Calls Tryd.prog 30 #[exprV t ao cap] w fun e w' => e = .returned (.tuple #[.int .i64 (litN t).1, .bool (litN t).2]) ∧ Below w.heap.size w w' := by
  unfold litN
  rw [exprV_cells]
  generalize t.kids.length = L at *
  generalize t.nd = nd at *
  obtain ⟨op, k, i, b, s, nm⟩ := nd
  simp only at *
  generalize str s = S at *
  generalize str nm = N at *
  by_cases h1 : op = 1
  · subst h1
    by_cases h2 : k = 2
    · subst h2
      rw [if_pos ⟨rfl, rfl⟩]
      go_enter Tryd.func30, Tryd.ntmps30
      go_wp2_with fail
      go_ret2
      exact ⟨rfl, (Below.refl _ _).alloc (Nat.le_refl _) _⟩
    · rw [if_neg (by simp [h2])]
      have b1 : (k != 2) = true := by simpa using h2
      clear h2
      go_enter Tryd.func30, Tryd.ntmps30
      go_wp2_with fail
      go_ret2
      exact ⟨rfl, (Below.refl _ _).alloc (Nat.le_refl _) _⟩
  · rw [if_neg (by simp [h1])]
    have b1 : (op != 1) = true := by simpa using h1
    clear h1
    go_enter Tryd.func30, Tryd.ntmps30
    go_wp2_with fail
    go_ret2
    exact ⟨rfl, (Below.refl _ _).alloc (Nat.le_refl _) _⟩

theorem str_eqb (a b : List UInt8) : ((str a).toList == (str b).toList) = (a == b) := by rw [str_toList, str_toList]
set_option maxHeartbeats 4000000 in
theorem span_isColumn_any (t : T) (ao : Option Addr) (cap : Nat) (n : List UInt8) (w : World) : Calls Tryd.prog 22 #[exprV t ao cap, .string (str n)] w fun e w' => e = .returned (.bool (isCol t n)) ∧ Below w.heap.size w w' := by
  unfold isCol
  rw [exprV_cells]
  generalize t.kids.length = L at *
  generalize t.nd = nd at *
  obtain ⟨op, k, i, b, s, nm⟩ := nd
  simp only at *
  generalize str s = S at *
  have hs := str_eqb nm n
  generalize str nm = N at *
  generalize str n = M at *
  generalize (nm == n) = B at *
  by_cases h1 : op = 2
  · subst h1
    go_enter Tryd.func22, Tryd.ntmps22
    go_wp2_with fail
    go_ret
    exact ⟨by first | rfl | (simp [hs]), (Below.refl _ _).alloc (Nat.le_refl _) _⟩
  · have b1 : (op == 2) = false := by simpa using h1
    rw [b1]
    clear h1
    go_enter Tryd.func22, Tryd.ntmps22
    go_wp2_with fail
    go_ret
    exact ⟨rfl, (Below.refl _ _).alloc (Nat.le_refl _) _⟩

set_option maxHeartbeats 8000000 in
theorem span_number_any (t : T) (ao : Option Addr) (cap : Nat) (w : World) (hA : AtT w t ao) (hf : formT t = 0) : Calls Tryd.prog 21 #[exprV t ao cap] w fun e w' => e = .returned (.tuple #[.int .i64 (numG t).1, .bool (numG t).2]) ∧ Below w.heap.size w w' := by
  have hF := atT_fit t.deep t ao (Nat.le_refl _) hA
  by_cases h3 : t.nd.op = 3
  · obtain ⟨u, hk, fu, gu⟩ := form_one t hf hF h3
    have hr := litN_rng u fu gu
    have e : numG t = (0 - (litN u).1, (litN u).2) := by
      unfold numG; rw [if_pos h3, hk]
    rw [e]
    obtain ⟨d, l⟩ := t
    simp only [T.kids] at hk
    subst hk
    simp only [AtT] at hA
    obtain ⟨a, o, rfl, ha, hnode⟩ := AtL.at hA.2 0 u rfl
    rw [Nat.zero_add] at hnode
    obtain ⟨ao', cap', n1, n2, nA, z0, z1, z2, z3, z4, z5, z6⟩ := hnode.cells
    have c1 := fun W => span_literal_any u ao' cap' W
    have wn : IntKind.i64.wrap (-(litN u).1) = 0 - (litN u).1 := by rw [IntKind.wrap_i64]; omega
    rw [exprV_cells]
    simp only [exprV_cells] at c1
    simp only [T.nd, T.kids, List.length_cons, List.length_nil] at *
    obtain ⟨op, k, i, b, s, nm⟩ := d
    simp only at h3
    subst h3
    generalize (litN u).1 = q at *
    generalize (litN u).2 = r at *
    generalize u.kids.length = L at *
    obtain ⟨⟨op', k', i', b', s', nm'⟩, l'⟩ := u
    simp only at *
    generalize str s = S at *
    generalize str nm = N at *
    generalize str s' = S' at *
    generalize str nm' = N' at *
    have hb := (Below.refl w.heap.size w).alloc (Nat.le_refl _) (.cells #[.int .i64 3, .int .i64 k, .int .i64 i, .int .u64 b, .string S, .string N, .slice (some ⟨a, o, none⟩) 1 cap] 27)
    have hz := Blk.new w #[.int .i64 3, .int .i64 k, .int .i64 i, .int .u64 b, .string S, .string N, .slice (some ⟨a, o, none⟩) 1 cap] 27
    obtain ⟨w1, hw1⟩ : ∃ w1, w.alloc (.cells #[.int .i64 3, .int .i64 k, .int .i64 i, .int .u64 b, .string S, .string N, .slice (some ⟨a, o, none⟩) 1 cap] 27) = w1 := ⟨_, rfl⟩
    rw [hw1] at hz hb
    have y0 := (hb.cell (p := ⟨a, _, none⟩) ha).trans z0
    have y1 := (hb.cell (p := ⟨a, _, none⟩) ha).trans z1
    have y2 := (hb.cell (p := ⟨a, _, none⟩) ha).trans z2
    have y3 := (hb.cell (p := ⟨a, _, none⟩) ha).trans z3
    have y4 := (hb.cell (p := ⟨a, _, none⟩) ha).trans z4
    have y5 := (hb.cell (p := ⟨a, _, none⟩) ha).trans z5
    have y6 := (hb.cell (p := ⟨a, _, none⟩) ha).trans z6
    simp only [Nat.zero_mul, Nat.add_zero] at y0 y1 y2 y3 y4 y5 y6
    have p0 := hz.cell (j := 0) rfl
    have p6 := hz.cell (j := 6) rfl
    clear hA hnode nA z0 z1 z2 z3 z4 z5 z6 hf hF e fu gu hr hz
    go_enter Tryd.func21, Tryd.ntmps21
    go_upto_region 1 with fail
    try rw [hw1]
    clear hw1
    go_wp2_with fail
    refine (c1 _).mono ?_
    rintro e w2 ⟨rfl, hb2⟩
    have hbb := below_stepG hb hb.size hb2
    clear c1 hb hb2 y0 y1 y2 y3 y4 y5 y6 p0 p6
    go_wp2_with fail
    go_ret2
    exact ⟨by first | rfl | simp, hbb⟩
  · have c1 := fun W => span_literal_any t ao cap W
    have e : numG t = litN t := by unfold numG; rw [if_neg h3]
    rw [e]
    simp only [exprV_cells] at c1 ⊢
    generalize (litN t).1 = q at *
    generalize (litN t).2 = r at *
    generalize t.kids.length = L at *
    generalize t.nd = nd at *
    obtain ⟨op, k, i, b, s, nm⟩ := nd
    simp only at *
    generalize str s = S at *
    generalize str nm = N at *
    have b1 : (op != 3) = true := by simpa using h3
    have hb := (Below.refl w.heap.size w).alloc (Nat.le_refl _) (.cells #[.int .i64 op, .int .i64 k, .int .i64 i, .int .u64 b, .string S, .string N, .slice ao L cap] 27)
    clear h3 e hF hf hA
    go_enter Tryd.func21, Tryd.ntmps21
    go_wp2_with fail
    refine (c1 _).mono ?_
    rintro e w2 ⟨rfl, hb2⟩
    have hbb := below_stepG hb hb.size hb2
    clear c1 hb hb2
    go_wp2_with fail
    go_ret2
    exact ⟨rfl, hbb⟩

end Go.Proofs.YtablacloabpjfabDoor

/-! CONTRACTS of package span: common, compared. CONDITIONS: each theorem's own hypotheses. -/
namespace Go.Proofs.YtablacloabpjfabDoor
open Go.RowKit
set_option linter.unusedVariables false
set_option maxRecDepth 100000

theorem three_newG (w : World) (a b c : Array Value) (A B C : TypeId) : Blk (((w.alloc (.cells a A)).alloc (.cells b B)).alloc (.cells c C)) w.heap.size A a.toList ∧ Blk (((w.alloc (.cells a A)).alloc (.cells b B)).alloc (.cells c C)) (w.heap.size + 1) B b.toList ∧ Blk (((w.alloc (.cells a A)).alloc (.cells b B)).alloc (.cells c C)) (w.heap.size + 1 + 1) C c.toList ∧ Below w.heap.size w (((w.alloc (.cells a A)).alloc (.cells b B)).alloc (.cells c C)) :=
  ⟨((Blk.new w a A).alloc _).alloc _, (Blk.atNew b B (by simp)).alloc _, Blk.atNew c C (by simp), (((Below.refl _ _).alloc (Nat.le_refl _) _).alloc (by simp) _).alloc (by simp; omega) _⟩
/-- What common makes of its ends. -/
def endG (X Y : Int) : Rg := if Y < X then noneG else ⟨X, Y⟩
theorem common_end (a b : Rg) : commonG a b = endG (max a.lo b.lo) (min a.hi b.hi) := rfl
def CommonOk (l h l' h' X Y : Int) : Prop := ∀ w : World, Calls Tryd.prog 13 #[.agg #[.int .i64 l, .int .i64 h], .agg #[.int .i64 l', .int .i64 h']] w fun e w' => e = .returned (rgV (endG X Y)) ∧ Below w.heap.size w w'
set_option maxHeartbeats 8000000 in
theorem common_at (l h l' h' X Y : Int) (f1 : max l l' = X) (f2 : min h h' = Y) : CommonOk l h l' h' X Y := by
  intro w
  have cN := fun W => span_none_any W
  unfold rgV noneG at *
  simp only at cN
  obtain ⟨z0, z1, z2, hb⟩ := three_newG w #[.int .i64 l, .int .i64 h] #[.int .i64 l', .int .i64 h'] #[.int .i64 0, .int .i64 0] 29 29 29
  obtain ⟨w1, hw1⟩ : ∃ w1, ((w.alloc (.cells #[.int .i64 l, .int .i64 h] 29)).alloc (.cells #[.int .i64 l', .int .i64 h'] 29)).alloc (.cells #[.int .i64 0, .int .i64 0] 29) = w1 := ⟨_, rfl⟩
  rw [hw1] at z0 z1 z2 hb
  obtain ⟨⟨p0, p1⟩, _⟩ := z0.two
  obtain ⟨⟨q0, q1⟩, _⟩ := z1.two
  have hrr : w.heap.size ≤ w.heap.size + 1 + 1 := by omega
  have z3 : Blk (w1.alloc (.cells #[.int .i64 X, .int .i64 Y] 29)) w1.heap.size 29 [.int .i64 X, .int .i64 Y] := Blk.new w1 #[.int .i64 X, .int .i64 Y] _
  have z4 := z2.alloc (.cells #[.int .i64 X, .int .i64 Y] 29)
  have hb4 : Below w.heap.size w (w1.alloc (.cells #[.int .i64 X, .int .i64 Y] 29)) := hb.alloc hb.size _
  obtain ⟨w4, hw4⟩ : ∃ w4, w1.alloc (.cells #[.int .i64 X, .int .i64 Y] 29) = w4 := ⟨_, rfl⟩
  rw [hw4] at z3 z4 hb4
  have HW4 := Lib.hid hw4
  have HB4 := Lib.hid (And.intro z3 (And.intro z4 hb4))
  obtain ⟨B, hB⟩ : ∃ B, decide (Y < X) = B := ⟨_, rfl⟩
  have hE : Hid (endG X Y = if B = true then noneG else ⟨X, Y⟩) := by
    show _ = _
    rw [← hB]; unfold endG; simp only [decide_eq_true_eq]
  obtain ⟨E, hEE⟩ : ∃ E, endG X Y = E := ⟨_, rfl⟩
  rw [hEE] at hE
  have HEE := Lib.hid hEE
  simp only [hEE]
  clear hw4 z3 z4 hb4 z0 z1 hEE
  go_enter Tryd.func13, Tryd.ntmps13
  go_upto_region 1 with fail
  try rw [hw1]
  clear hw1
  generalize hgr : w.heap.size + 1 + 1 = gr at *
  clear hgr
  go_upto_region 2 with fail
  try simp only [f1, f2]
  rw [HW4.out]
  obtain ⟨z3, z4, hb4⟩ := HB4.out
  clear HW4 HB4 hb z2 p0 p1 q0 q1 f1 f2
  generalize w1.heap.size = g1 at *
  obtain ⟨⟨p0, p1⟩, f0, f1⟩ := z3.two
  obtain ⟨⟨q0, q1⟩, r0, r1⟩ := z4.two
  cases B
  · go_wp2_with fail
    exact bodyPost_ret (results_rg rfl _ _ gr _ _ rfl z4.set2) rfl ⟨by rw [hE.out]; rfl, below_set2 hb4 hrr⟩
  · go_wp2_with fail
    refine (cN _).mono ?_
    rintro e w2 ⟨rfl, hb2⟩
    have z5 := z4.call hb2
    have hbb := below_stepG hb4 hb4.size hb2
    clear hb2 hb4 z4 z3 p0 p1 q0 q1 r0 r1 f0 f1
    obtain ⟨⟨q0, q1⟩, r0, r1⟩ := z5.two
    go_wp2_with fail
    exact bodyPost_ret (results_rg rfl _ _ gr _ _ rfl z5.set2) rfl ⟨by rw [hE.out]; rfl, below_set2 hbb hrr⟩
theorem span_common_any (a b : Rg) (w : World) : Calls Tryd.prog 13 #[rgV a, rgV b] w fun e w' => e = .returned (rgV (commonG a b)) ∧ Below w.heap.size w w' := by
  rw [common_end]
  exact common_at a.lo a.hi b.lo b.hi _ _ rfl rfl w
end Go.Proofs.YtablacloabpjfabDoor

/-! CONTRACTS of package span: compared, leaves, Of. CONDITIONS: each theorem's own hypotheses. -/
namespace Go.Proofs.YtablacloabpjfabDoor
open Go.RowKit
set_option linter.unusedVariables false
set_option maxRecDepth 100000

theorem Blk.sevenG {w : World} {b : Nat} {T : TypeId} {v0 v1 v2 v3 v4 v5 v6 : Value} (h : Blk w b T [v0, v1, v2, v3, v4, v5, v6]) : w.cell? ⟨b, 0, none⟩ = some v0 ∧ w.cell? ⟨b, 1, none⟩ = some v1 ∧ w.cell? ⟨b, 2, none⟩ = some v2 ∧ w.cell? ⟨b, 3, none⟩ = some v3 ∧ w.cell? ⟨b, 4, none⟩ = some v4 ∧ w.cell? ⟨b, 5, none⟩ = some v5 ∧ w.cell? ⟨b, 6, none⟩ = some v6 :=
  ⟨h.cell (j := 0) rfl, h.cell (j := 1) rfl, h.cell (j := 2) rfl, h.cell (j := 3) rfl, h.cell (j := 4) rfl, h.cell (j := 5) rfl, h.cell (j := 6) rfl⟩
theorem Blk.sevenF {w : World} {b : Nat} {T : TypeId} {v0 v1 v2 v3 v4 v5 v6 : Value} (h : Blk w b T [v0, v1, v2, v3, v4, v5, v6]) : w.frozen? ⟨b, 0, none⟩ = false ∧ w.frozen? ⟨b, 1, none⟩ = false ∧ w.frozen? ⟨b, 2, none⟩ = false ∧ w.frozen? ⟨b, 3, none⟩ = false ∧ w.frozen? ⟨b, 4, none⟩ = false ∧ w.frozen? ⟨b, 5, none⟩ = false ∧ w.frozen? ⟨b, 6, none⟩ = false :=
  ⟨h.free 0, h.free 1, h.free 2, h.free 3, h.free 4, h.free 5, h.free 6⟩
def put7 (W : World) (g : Nat) (a0 a1 a2 a3 a4 a5 a6 : Value) : World := ((((((W.setCell ⟨g, 0, none⟩ a0).setCell ⟨g, 1, none⟩ a1).setCell ⟨g, 2, none⟩ a2).setCell ⟨g, 3, none⟩ a3).setCell ⟨g, 4, none⟩ a4).setCell ⟨g, 5, none⟩ a5).setCell ⟨g, 6, none⟩ a6
theorem Blk.put7 {W : World} {g : Nat} {T : TypeId} {a0 a1 a2 a3 a4 a5 a6 b0 b1 b2 b3 b4 b5 b6 : Value} (h : Blk W g T [b0, b1, b2, b3, b4, b5, b6]) : Blk (Go.Proofs.YtablacloabpjfabDoor.put7 W g a0 a1 a2 a3 a4 a5 a6) g T [a0, a1, a2, a3, a4, a5, a6] := ((((((h.set 0 a0).set 1 a1).set 2 a2).set 3 a3).set 4 a4).set 5 a5).set 6 a6
theorem Blk.far7 {W : World} {g q : Nat} {T : TypeId} {cs : List Value} {a0 a1 a2 a3 a4 a5 a6 : Value} (h : Blk W q T cs) (hne : q ≠ g) : Blk (Go.Proofs.YtablacloabpjfabDoor.put7 W g a0 a1 a2 a3 a4 a5 a6) q T cs :=
  ((((((h.other ⟨g, 0, none⟩ a0 hne).other ⟨g, 1, none⟩ a1 hne).other ⟨g, 2, none⟩ a2 hne).other ⟨g, 3, none⟩ a3 hne).other ⟨g, 4, none⟩ a4 hne).other ⟨g, 5, none⟩ a5 hne).other ⟨g, 6, none⟩ a6 hne
theorem below_put7 {B : Nat} {w W : World} {g : Nat} {a0 a1 a2 a3 a4 a5 a6 : Value} (h : Below B w W) (hg : B ≤ g) : Below B w (put7 W g a0 a1 a2 a3 a4 a5 a6) :=
  ((((((h.setCell (p := ⟨g, 0, none⟩) hg a0).setCell (p := ⟨g, 1, none⟩) hg a1).setCell (p := ⟨g, 2, none⟩) hg a2).setCell (p := ⟨g, 3, none⟩) hg a3).setCell (p := ⟨g, 4, none⟩) hg a4).setCell (p := ⟨g, 5, none⟩) hg a5).setCell (p := ⟨g, 6, none⟩) hg a6
theorem far_put7 (W : World) (g : Nat) (a0 a1 a2 a3 a4 a5 a6 : Value) : ∀ b, b ≠ g → b < W.heap.size → (put7 W g a0 a1 a2 a3 a4 a5 a6).heap[b]? = W.heap[b]? := fun b hb _ => by
  unfold put7
  rw [heap_setCell_other _ _ b _ hb, heap_setCell_other _ _ b _ hb, heap_setCell_other _ _ b _ hb, heap_setCell_other _ _ b _ hb, heap_setCell_other _ _ b _ hb, heap_setCell_other _ _ b _ hb, heap_setCell_other _ _ b _ hb]
/-- Two parts, read ahead of two new things. -/
def PairF (gx a2 o2 cap : Nat) (A B : Value) : Nat → Value → Prop
  | 0, v => v = .pointer (some ⟨gx, 6, none⟩)
  | 1, v => v = .slice (some ⟨a2, o2, none⟩) 2 cap
  | 2, v => v = .pointer (some ⟨a2, o2, none⟩)
  | 3, v => v = A
  | 4, v => v = .pointer (some ⟨gx, 6, none⟩)
  | 5, v => v = .slice (some ⟨a2, o2, none⟩) 2 cap
  | 6, v => v = .pointer (some ⟨a2, o2 + 7, none⟩)
  | 7, v => v = B
  | _, _ => True
def zero7 : List Value := [.int .i64 0, .int .i64 0, .int .i64 0, .int .u64 0, .string ⟨#[]⟩, .string ⟨#[]⟩, .slice none 0 0]
set_option maxHeartbeats 16000000 in
theorem span_compared_any (d : Nd) (u v : T) (ao : Option Addr) (cap : Nat) (n : List UInt8) (w : World) (ho : 9 ≤ d.op ∧ d.op ≤ 14) (fu : formT u = 0) (fv : formT v = 0) (hA : AtT w (.mk d [u, v]) ao) :
    Calls Tryd.prog 14 #[exprV (.mk d [u, v]) ao cap, .string (str n)] w fun e w' => e = .returned (rgV (cmpG d.op u v n)) ∧ Below w.heap.size w w' := by
  simp only [AtT] at hA
  have hA := hA.2
  obtain ⟨a, o, rfl, ha, hnode⟩ := AtL.at hA 0 u rfl
  obtain ⟨a2, o2, e2, _, hnode2⟩ := AtL.at hA 1 v rfl
  obtain ⟨rfl, rfl⟩ : a2 = a ∧ o2 = o := by simp at e2; exact ⟨e2.1.symm, e2.2.symm⟩
  rw [Nat.zero_add] at hnode hnode2
  obtain ⟨ao', cap', n1, n2, nA, z0, z1, z2, z3, z4, z5, z6⟩ := hnode.cells
  obtain ⟨ao3, cap3, m1, m2, mA, x0, x1, x2, x3, x4, x5, x6⟩ := hnode2.cells
  have gu := atT_fit u.deep u ao' (Nat.le_refl _) nA
  have gv := atT_fit v.deep v ao3 (Nat.le_refl _) mA
  have cNv := fun W (hW : Below w.heap.size w W) => span_number_any v ao3 cap3 W (mA.keep hW) fv
  have cNu := fun W (hW : Below w.heap.size w W) => span_number_any u ao' cap' W (nA.keep hW) fu
  have cIu := fun W => span_isColumn_any u ao' cap' n W
  have cIv := fun W => span_isColumn_any v ao3 cap3 n W
  have cH1 := fun W => span_holding_any d.op (numG v).1 (numG_rng v fv gv) W
  have cH2 := fun W => span_holding_any (turnO d.op) (numG u).1 (numG_rng u fu gu) W
  have cT := fun W => span_turned_any d.op W
  have cA := fun W => span_all_any W
  have hR : cmpG d.op u v n = if ((numG v).2 && isCol u n) = true then holdG d.op (numG v).1 else if ((numG u).2 && isCol v n) = true then holdG (turnO d.op) (numG u).1 else allG := rfl
  simp only [exprV_cells] at cNv cNu cIu cIv
  generalize cmpG d.op u v n = R at *
  have HR := Lib.hid hR
  clear hR gu gv fu fv nA mA
  generalize (numG u).1 = nu at *
  generalize (numG u).2 = ku at *
  generalize (numG v).1 = nv at *
  generalize (numG v).2 = kv at *
  generalize isCol u n = cu at *
  generalize isCol v n = cv at *
  generalize holdG d.op nv = R1 at *
  generalize turnO d.op = tp at *
  generalize holdG tp nu = R2 at *
  generalize allG = R3 at *
  unfold rgV at *
  rw [exprV_cells]
  simp only [T.nd, T.kids, List.length_cons, List.length_nil]
  obtain ⟨op, k, i, b, s, nm⟩ := d
  generalize u.kids.length = L at *
  generalize v.kids.length = M at *
  obtain ⟨⟨op', k', i', b', s', nm'⟩, l'⟩ := u
  obtain ⟨⟨op3, k3, i3, b3, s3, nm3⟩, l3⟩ := v
  simp only [T.nd] at *
  generalize str s = S at *
  generalize str nm = N at *
  generalize str s' = S' at *
  generalize str nm' = N' at *
  generalize str s3 = S3 at *
  generalize str nm3 = N3 at *
  have hz := (Blk.new w #[.int .i64 op, .int .i64 k, .int .i64 i, .int .u64 b, .string S, .string N, .slice (some ⟨a2, o2, none⟩) 2 cap] 27).alloc (.cells #[.int .i64 0, .int .i64 0] 29)
  have hy := Blk.new (w.alloc (.cells #[.int .i64 op, .int .i64 k, .int .i64 i, .int .u64 b, .string S, .string N, .slice (some ⟨a2, o2, none⟩) 2 cap] 27)) #[.int .i64 0, .int .i64 0] 29
  have hb := ((Below.refl w.heap.size w).alloc (Nat.le_refl _) (.cells #[.int .i64 op, .int .i64 k, .int .i64 i, .int .u64 b, .string S, .string N, .slice (some ⟨a2, o2, none⟩) 2 cap] 27)).alloc (by simp) (.cells #[.int .i64 0, .int .i64 0] 29)
  have hgr : w.heap.size ≤ w.heap.size + 1 := by omega
  have hys : (w.alloc (.cells #[.int .i64 op, .int .i64 k, .int .i64 i, .int .u64 b, .string S, .string N, .slice (some ⟨a2, o2, none⟩) 2 cap] 27)).heap.size = w.heap.size + 1 := by simp
  rw [hys] at hy
  obtain ⟨w1, hw1⟩ : ∃ w1, (w.alloc (.cells #[.int .i64 op, .int .i64 k, .int .i64 i, .int .u64 b, .string S, .string N, .slice (some ⟨a2, o2, none⟩) 2 cap] 27)).alloc (.cells #[.int .i64 0, .int .i64 0] 29) = w1 := ⟨_, rfl⟩
  rw [hw1] at hz hy hb
  have d0 := (hb.cell (p := ⟨a2, o2 + 0 * 7, none⟩) ha).trans z0
  have d1 := (hb.cell (p := ⟨a2, o2 + 0 * 7 + 1, none⟩) ha).trans z1
  have d2 := (hb.cell (p := ⟨a2, o2 + 0 * 7 + 2, none⟩) ha).trans z2
  have d3 := (hb.cell (p := ⟨a2, o2 + 0 * 7 + 3, none⟩) ha).trans z3
  have d4 := (hb.cell (p := ⟨a2, o2 + 0 * 7 + 4, none⟩) ha).trans z4
  have d5 := (hb.cell (p := ⟨a2, o2 + 0 * 7 + 5, none⟩) ha).trans z5
  have d6 := (hb.cell (p := ⟨a2, o2 + 0 * 7 + 6, none⟩) ha).trans z6
  have g0 := (hb.cell (p := ⟨a2, o2 + 1 * 7, none⟩) ha).trans x0
  have g1 := (hb.cell (p := ⟨a2, o2 + 1 * 7 + 1, none⟩) ha).trans x1
  have g2 := (hb.cell (p := ⟨a2, o2 + 1 * 7 + 2, none⟩) ha).trans x2
  have g3 := (hb.cell (p := ⟨a2, o2 + 1 * 7 + 3, none⟩) ha).trans x3
  have g4 := (hb.cell (p := ⟨a2, o2 + 1 * 7 + 4, none⟩) ha).trans x4
  have g5 := (hb.cell (p := ⟨a2, o2 + 1 * 7 + 5, none⟩) ha).trans x5
  have g6 := (hb.cell (p := ⟨a2, o2 + 1 * 7 + 6, none⟩) ha).trans x6
  simp only [Nat.zero_mul, Nat.add_zero] at d0 d1 d2 d3 d4 d5 d6
  simp only [Nat.one_mul] at g0 g1 g2 g3 g4 g5 g6
  have ha1 : a2 < w1.heap.size := Nat.lt_of_lt_of_le ha hb.size
  have p0 := hz.cell (j := 0) rfl
  have p6 := hz.cell (j := 6) rfl
  clear z0 z1 z2 z3 z4 z5 z6 x0 x1 x2 x3 x4 x5 x6 hA hnode hnode2 hys
  generalize str n = NM at *
  clear ho ha e2
  go_enter Tryd.func14, Tryd.ntmps14
  go_upto_region 1 with fail
  try rw [hw1]
  clear hw1
  refine wp_region_two 11 8 9 10 (by kernel_rfl) (by kernel_rfl) (by kernel_rfl) 27 zero7 [.int .i64 op', .int .i64 k', .int .i64 i', .int .u64 b', .string S', .string N', .slice ao' L cap'] (PairF w.heap.size a2 o2 cap (.agg #[.int .i64 op', .int .i64 k', .int .i64 i', .int .u64 b', .string S', .string N', .slice ao' L cap']) (.agg #[.int .i64 op3, .int .i64 k3, .int .i64 i3, .int .u64 b3, .string S3, .string N3, .slice ao3 M cap3])) ?hstep ?hp ?hq ?hdone
  case hstep =>
    intro j hj hnp hnr hnq vs W K hst hf hK
    simp only [fillF, Act.put, List.take_succ_cons, List.take_zero, List.setIfInBounds_toArray, List.set_cons_zero, List.set_cons_succ] at hK ⊢
    rcases (show j = 0 ∨ j = 1 ∨ j = 2 ∨ j = 3 ∨ j = 4 ∨ j = 5 ∨ j = 6 ∨ j = 7 ∨ j = 8 ∨ j = 9 ∨ j = 10 by omega) with rfl | rfl | rfl | rfl | rfl | rfl | rfl | rfl | rfl | rfl | rfl
    · refine wpOp_step rfl (fun K' hK' => ?_)
      go_simp
      exact hK' _ _ (hK _ _ rfl (Below.refl _ _))
    · have e0 : vs 0 = .pointer (some ⟨w.heap.size, 6, none⟩) := hf 0 (by decide) (by decide) (by decide) (by decide) (by kernel_rfl)
      simp only [e0] at hK ⊢
      have q6 := (hz.call hst).cell (j := 6) rfl
      refine wpOp_step rfl (fun K' hK' => ?_)
      go_simp
      exact hK' _ _ (hK _ _ rfl (Below.refl _ _))
    · have e1 : vs 1 = .slice (some ⟨a2, o2, none⟩) 2 cap := hf 1 (by decide) (by decide) (by decide) (by decide) (by kernel_rfl)
      simp only [e1] at hK ⊢
      refine wpOp_step rfl (fun K' hK' => ?_)
      go_simp
      exact hK' _ _ (hK _ _ rfl (Below.refl _ _))
    · have e2 : vs 2 = .pointer (some ⟨a2, o2, none⟩) := hf 2 (by decide) (by decide) (by decide) (by decide) (by kernel_rfl)
      simp only [e2] at hK ⊢
      have q0 := (hst.cell (p := ⟨a2, o2, none⟩) ha1).trans d0
      have q1 := (hst.cell (p := ⟨a2, o2 + 1, none⟩) ha1).trans d1
      have q2 := (hst.cell (p := ⟨a2, o2 + 2, none⟩) ha1).trans d2
      have q3 := (hst.cell (p := ⟨a2, o2 + 3, none⟩) ha1).trans d3
      have q4 := (hst.cell (p := ⟨a2, o2 + 4, none⟩) ha1).trans d4
      have q5 := (hst.cell (p := ⟨a2, o2 + 5, none⟩) ha1).trans d5
      have q6 := (hst.cell (p := ⟨a2, o2 + 6, none⟩) ha1).trans d6
      refine wpOp_step rfl (fun K' hK' => ?_)
      go_simp
      exact hK' _ _ (hK _ _ rfl (Below.refl _ _))
    · refine wpOp_step rfl (fun K' hK' => ?_)
      go_simp
      exact hK' _ _ (hK _ _ rfl (Below.refl _ _))
    · have e4 : vs 4 = .pointer (some ⟨w.heap.size, 6, none⟩) := hf 4 (by decide) (by decide) (by decide) (by decide) (by kernel_rfl)
      simp only [e4] at hK ⊢
      have q6 := (hz.call hst).cell (j := 6) rfl
      refine wpOp_step rfl (fun K' hK' => ?_)
      go_simp
      exact hK' _ _ (hK _ _ rfl (Below.refl _ _))
    · have e5 : vs 5 = .slice (some ⟨a2, o2, none⟩) 2 cap := hf 5 (by decide) (by decide) (by decide) (by decide) (by kernel_rfl)
      simp only [e5] at hK ⊢
      refine wpOp_step rfl (fun K' hK' => ?_)
      go_simp
      exact hK' _ _ (hK _ _ rfl (Below.refl _ _))
    · have e6 : vs 6 = .pointer (some ⟨a2, o2 + 7, none⟩) := hf 6 (by decide) (by decide) (by decide) (by decide) (by kernel_rfl)
      simp only [e6] at hK ⊢
      have q0 := (hst.cell (p := ⟨a2, o2 + 7, none⟩) ha1).trans g0
      have q1 := (hst.cell (p := ⟨a2, o2 + 7 + 1, none⟩) ha1).trans g1
      have q2 := (hst.cell (p := ⟨a2, o2 + 7 + 2, none⟩) ha1).trans g2
      have q3 := (hst.cell (p := ⟨a2, o2 + 7 + 3, none⟩) ha1).trans g3
      have q4 := (hst.cell (p := ⟨a2, o2 + 7 + 4, none⟩) ha1).trans g4
      have q5 := (hst.cell (p := ⟨a2, o2 + 7 + 5, none⟩) ha1).trans g5
      have q6 := (hst.cell (p := ⟨a2, o2 + 7 + 6, none⟩) ha1).trans g6
      refine wpOp_step rfl (fun K' hK' => ?_)
      go_simp
      exact hK' _ _ (hK _ _ rfl (Below.refl _ _))
    · exact (hnp rfl).elim
    · exact (hnr rfl).elim
    · exact (hnq rfl).elim
  case hp =>
    intro i hi vs W K hK
    rcases hi with rfl | rfl
    · simp only [fillF, Act.put, List.take_succ_cons, List.take_zero, List.setIfInBounds_toArray, List.set_cons_zero, List.set_cons_succ] at hK ⊢
      refine wpOp_step rfl (fun K' hK' => ?_)
      go_simp
      exact hK' _ _ hK
    · simp only [fillF, Act.put, List.take_succ_cons, List.take_zero, List.setIfInBounds_toArray, List.set_cons_zero, List.set_cons_succ] at hK ⊢
      refine wpOp_step rfl (fun K' hK' => ?_)
      go_simp
      exact hK' _ _ hK
  case hq =>
    intro vs W K k5 hst e8 hk hzb hf hK
    have e3 : vs 3 = .agg #[.int .i64 op', .int .i64 k', .int .i64 i', .int .u64 b', .string S', .string N', .slice ao' L cap'] := hf 3 (by decide) (by decide) (by decide) (by decide) (by kernel_rfl)
    simp only [fillF, Act.put, List.take_succ_cons, List.take_zero, List.setIfInBounds_toArray, List.set_cons_zero, List.set_cons_succ, e3, e8] at hK ⊢
    obtain ⟨j0, j1, j2, j3, j4, j5, j6⟩ := Blk.sevenF (show Blk W k5 _ [_, _, _, _, _, _, _] from hzb)
    obtain ⟨r0, r1, r2, r3, r4, r5, r6⟩ := Blk.sevenG (show Blk W k5 _ [_, _, _, _, _, _, _] from hzb)
    have HY := Lib.hid (Blk.put7 (a0 := .int .i64 op') (a1 := .int .i64 k') (a2 := .int .i64 i') (a3 := .int .u64 b') (a4 := .string S') (a5 := .string N') (a6 := .slice ao' L cap') (show Blk W k5 _ [_, _, _, _, _, _, _] from hzb))
    have HB5 := Lib.hid (below_put7 (a0 := .int .i64 op') (a1 := .int .i64 k') (a2 := .int .i64 i') (a3 := .int .u64 b') (a4 := .string S') (a5 := .string N') (a6 := .slice ao' L cap') hst (Nat.le_trans (Nat.le_refl _) hk))
    have HF5 := Lib.hid (far_put7 W k5 (.int .i64 op') (.int .i64 k') (.int .i64 i') (.int .u64 b') (.string S') (.string N') (.slice ao' L cap'))
    clear hzb
    refine wpOp_step rfl (fun K' hK' => ?_)
    go_simp
    exact hK' _ _ (hK undef _ HY.out HB5.out HF5.out)
  intro vs W3 g5 g9 hst e8 hk5 hz5 e9 hk9 hz9 hne hf
  have e7 : vs 7 = .agg #[.int .i64 op3, .int .i64 k3, .int .i64 i3, .int .u64 b3, .string S3, .string N3, .slice ao3 M cap3] := hf 7 (by decide) (by decide) (by decide) (by decide)
  simp only [fillF, Act.put, List.take_succ_cons, List.take_zero, List.drop_succ_cons, List.drop_zero, List.setIfInBounds_toArray, List.set_cons_zero, List.set_cons_succ, e7, e8, e9]
  have hs1 := hb.size
  have hz3 := hz.call hst
  have hy3 := hy.call hst
  have hb3 := below_stepG hb hb.size hst
  have hg5 : w.heap.size ≤ g5 := by omega
  have hg9 : w.heap.size ≤ g9 := by omega
  have hlt := hy.lt
  have hlz := hz.lt
  have Q5 := Blk.put7 (a0 := .int .i64 op3) (a1 := .int .i64 k3) (a2 := .int .i64 i3) (a3 := .int .u64 b3) (a4 := .string S3) (a5 := .string N3) (a6 := .slice ao3 M cap3) (show Blk W3 g9 _ [_, _, _, _, _, _, _] from hz9)
  have Y5 := hz5.far7 (g := g9) (a0 := .int .i64 op3) (a1 := .int .i64 k3) (a2 := .int .i64 i3) (a3 := .int .u64 b3) (a4 := .string S3) (a5 := .string N3) (a6 := .slice ao3 M cap3) hne
  have Z5 := hz3.far7 (g := g9) (a0 := .int .i64 op3) (a1 := .int .i64 k3) (a2 := .int .i64 i3) (a3 := .int .u64 b3) (a4 := .string S3) (a5 := .string N3) (a6 := .slice ao3 M cap3) (by omega)
  have X5 := hy3.far7 (g := g9) (a0 := .int .i64 op3) (a1 := .int .i64 k3) (a2 := .int .i64 i3) (a3 := .int .u64 b3) (a4 := .string S3) (a5 := .string N3) (a6 := .slice ao3 M cap3) (by omega)
  have B5 := below_put7 (a0 := .int .i64 op3) (a1 := .int .i64 k3) (a2 := .int .i64 i3) (a3 := .int .u64 b3) (a4 := .string S3) (a5 := .string N3) (a6 := .slice ao3 M cap3) hb3 hg9
  obtain ⟨j0, j1, j2, j3, j4, j5, j6⟩ := Blk.sevenF (show Blk W3 g9 _ [_, _, _, _, _, _, _] from hz9)
  obtain ⟨r0, r1, r2, r3, r4, r5, r6⟩ := Blk.sevenG (show Blk W3 g9 _ [_, _, _, _, _, _, _] from hz9)
  obtain ⟨W5, hW5⟩ : ∃ W5, put7 W3 g9 (.int .i64 op3) (.int .i64 k3) (.int .i64 i3) (.int .u64 b3) (.string S3) (.string N3) (.slice ao3 M cap3) = W5 := ⟨_, rfl⟩
  rw [hW5] at Y5 Q5 Z5 X5 B5
  have HH := Lib.hid hW5
  have HX := Lib.hid (And.intro Y5 (And.intro Q5 (And.intro Z5 (And.intro X5 B5))))
  clear hW5 Y5 Q5 Z5 X5 B5 hf hz3 hy3 hb3 hz hy hb hst d0 d1 d2 d3 d4 d5 d6 g0 g1 g2 g3 g4 g6 p0 p6 ha1 hlt hlz hs1 hz5 hz9 e7 e8 e9 hk5 hk9
  generalize vs 0 = x0
  generalize vs 1 = x1
  generalize vs 2 = x2
  generalize vs 3 = x3
  generalize vs 4 = x4
  generalize vs 5 = x5
  generalize vs 6 = x6
  go_upto_region 2 with fail
  have hh := HH.out
  unfold put7 at hh
  try rw [hh]
  clear hh HH j0 j1 j2 j3 j4 j5 j6 r0 r1 r2 r3 r4 r5 r6
  obtain ⟨Y5, Q5, Z5, X5, B5⟩ := HX.out
  clear HX
  obtain ⟨r0, r1, r2, r3, r4, r5, r6⟩ := Q5.sevenG
  go_wp2_with fail
  refine (cNv _ B5).mono ?_
  rintro e W6 ⟨rfl, hb6⟩
  have B6 := below_stepG B5 B5.size hb6
  have Y6 := Y5.call hb6
  have Q6 := Q5.call hb6
  have Z6 := Z5.call hb6
  have X6 := X5.call hb6
  clear cNv hb6 B5 Y5 Q5 Z5 X5 r0 r1 r2 r3 r4 r5 r6
  cases kv
  · obtain ⟨r0, r1, r2, r3, r4, r5, r6⟩ := Y6.sevenG
    go_wp2_with fail
    refine (cNu _ B6).mono ?_
    rintro e W9 ⟨rfl, hb9⟩
    have B9 := below_stepG B6 B6.size hb9
    have Q9 := Q6.call hb9
    have Z9 := Z6.call hb9
    have X9 := X6.call hb9
    clear cNu hb9 B6 Y6 Q6 Z6 X6 r0 r1 r2 r3 r4 r5 r6
    cases ku
    · go_wp2_with fail
      refine (cA _).mono ?_
      rintro e Wa ⟨rfl, hba⟩
      have Ba := below_stepG B9 B9.size hba
      have Xa := X9.call hba
      clear hba B9 Q9 Z9 X9
      obtain ⟨⟨t1, t2⟩, f1, f2⟩ := Xa.two
      go_wp2_with fail
      exact bodyPost_ret (results_rg rfl _ _ (w.heap.size + 1) _ _ rfl Xa.set2) rfl ⟨by rw [HR.out]; rfl, below_set2 Ba hgr⟩
    · obtain ⟨r0, r1, r2, r3, r4, r5, r6⟩ := Q9.sevenG
      go_wp2_with fail
      refine (cIv _).mono ?_
      rintro e Wa ⟨rfl, hba⟩
      have Ba := below_stepG B9 B9.size hba
      have Za := Z9.call hba
      have Xa := X9.call hba
      clear cIv hba B9 Q9 Z9 X9 r0 r1 r2 r3 r4 r5 r6
      cases cv
      · go_wp2_with fail
        refine (cA _).mono ?_
        rintro e Wb ⟨rfl, hbb⟩
        have Bb := below_stepG Ba Ba.size hbb
        have Xb := Xa.call hbb
        clear hbb Ba Za Xa
        obtain ⟨⟨t1, t2⟩, f1, f2⟩ := Xb.two
        go_wp2_with fail
        exact bodyPost_ret (results_rg rfl _ _ (w.heap.size + 1) _ _ rfl Xb.set2) rfl ⟨by rw [HR.out]; rfl, below_set2 Bb hgr⟩
      · have t0 := Za.cell (j := 0) rfl
        go_wp2_with fail
        refine (cT _).mono ?_
        rintro e Wb ⟨rfl, hwb⟩
        subst hwb
        go_wp2_with fail
        refine (cH2 _).mono ?_
        rintro e Wc ⟨rfl, hbc⟩
        have Bc := below_stepG Ba Ba.size hbc
        have Xc := Xa.call hbc
        clear hbc Ba Za Xa t0
        obtain ⟨⟨t1, t2⟩, f1, f2⟩ := Xc.two
        go_wp2_with fail
        exact bodyPost_ret (results_rg rfl _ _ (w.heap.size + 1) _ _ rfl Xc.set2) rfl ⟨by rw [HR.out]; rfl, below_set2 Bc hgr⟩
  · obtain ⟨r0, r1, r2, r3, r4, r5, r6⟩ := Y6.sevenG
    go_wp2_with fail
    refine (cIu _).mono ?_
    rintro e W7 ⟨rfl, hb7⟩
    have B7 := below_stepG B6 B6.size hb7
    have Y7 := Y6.call hb7
    have Q7 := Q6.call hb7
    have Z7 := Z6.call hb7
    have X7 := X6.call hb7
    clear cIu hb7 B6 Y6 Q6 Z6 X6 r0 r1 r2 r3 r4 r5 r6
    cases cu
    · obtain ⟨r0, r1, r2, r3, r4, r5, r6⟩ := Y7.sevenG
      go_wp2_with fail
      refine (cNu _ B7).mono ?_
      rintro e W9 ⟨rfl, hb9⟩
      have B9 := below_stepG B7 B7.size hb9
      have Q9 := Q7.call hb9
      have Z9 := Z7.call hb9
      have X9 := X7.call hb9
      clear cNu hb9 B7 Y7 Q7 Z7 X7 r0 r1 r2 r3 r4 r5 r6
      cases ku
      · go_wp2_with fail
        refine (cA _).mono ?_
        rintro e Wa ⟨rfl, hba⟩
        have Ba := below_stepG B9 B9.size hba
        have Xa := X9.call hba
        clear hba B9 Q9 Z9 X9
        obtain ⟨⟨t1, t2⟩, f1, f2⟩ := Xa.two
        go_wp2_with fail
        exact bodyPost_ret (results_rg rfl _ _ (w.heap.size + 1) _ _ rfl Xa.set2) rfl ⟨by rw [HR.out]; rfl, below_set2 Ba hgr⟩
      · obtain ⟨r0, r1, r2, r3, r4, r5, r6⟩ := Q9.sevenG
        go_wp2_with fail
        refine (cIv _).mono ?_
        rintro e Wa ⟨rfl, hba⟩
        have Ba := below_stepG B9 B9.size hba
        have Za := Z9.call hba
        have Xa := X9.call hba
        clear cIv hba B9 Q9 Z9 X9 r0 r1 r2 r3 r4 r5 r6
        cases cv
        · go_wp2_with fail
          refine (cA _).mono ?_
          rintro e Wb ⟨rfl, hbb⟩
          have Bb := below_stepG Ba Ba.size hbb
          have Xb := Xa.call hbb
          clear hbb Ba Za Xa
          obtain ⟨⟨t1, t2⟩, f1, f2⟩ := Xb.two
          go_wp2_with fail
          exact bodyPost_ret (results_rg rfl _ _ (w.heap.size + 1) _ _ rfl Xb.set2) rfl ⟨by rw [HR.out]; rfl, below_set2 Bb hgr⟩
        · have t0 := Za.cell (j := 0) rfl
          go_wp2_with fail
          refine (cT _).mono ?_
          rintro e Wb ⟨rfl, hwb⟩
          subst hwb
          go_wp2_with fail
          refine (cH2 _).mono ?_
          rintro e Wc ⟨rfl, hbc⟩
          have Bc := below_stepG Ba Ba.size hbc
          have Xc := Xa.call hbc
          clear hbc Ba Za Xa t0
          obtain ⟨⟨t1, t2⟩, f1, f2⟩ := Xc.two
          go_wp2_with fail
          exact bodyPost_ret (results_rg rfl _ _ (w.heap.size + 1) _ _ rfl Xc.set2) rfl ⟨by rw [HR.out]; rfl, below_set2 Bc hgr⟩
    · have t0 := Z7.cell (j := 0) rfl
      go_wp2_with fail
      refine (cH1 _).mono ?_
      rintro e W8 ⟨rfl, hb8⟩
      have B8 := below_stepG B7 B7.size hb8
      have X8 := X7.call hb8
      clear hb8 B7 Y7 Q7 Z7 X7 t0
      obtain ⟨⟨t1, t2⟩, f1, f2⟩ := X8.two
      go_wp2_with fail
      exact bodyPost_ret (results_rg rfl _ _ (w.heap.size + 1) _ _ rfl X8.set2) rfl ⟨by rw [HR.out]; rfl, below_set2 B8 hgr⟩
end Go.Proofs.YtablacloabpjfabDoor

/-! CONTRACTS of package span: leaves, Of. CONDITIONS: each theorem's own hypotheses. -/
namespace Go.Proofs.YtablacloabpjfabDoor
open Go.RowKit
set_option linter.unusedVariables false
set_option maxRecDepth 100000

def LeavesOk (f : Nat) : Prop := ∀ (t : T) (ao : Option Addr) (cap : Nat) (n : List UInt8) (w : World), t.deep ≤ f → formT t = 0 → AtT w t ao →
    Calls Tryd.prog 7 #[exprV t ao cap, .string (str n)] w fun e w' => e = .returned (rgV (leavesG n f t)) ∧ Below w.heap.size w w'
set_option maxHeartbeats 16000000 in
theorem leaves_and (f : Nat) (IH : LeavesOk f) (d : Nd) (u v : T) (ao : Option Addr) (cap : Nat) (n : List UInt8) (w : World) (h15 : d.op = 15) (hu : u.deep ≤ f) (hv : v.deep ≤ f) (fu : formT u = 0) (fv : formT v = 0) (hA : AtT w (.mk d [u, v]) ao) :
    Calls Tryd.prog 7 #[exprV (.mk d [u, v]) ao cap, .string (str n)] w fun e w' => e = .returned (rgV (commonG (leavesG n f u) (leavesG n f v))) ∧ Below w.heap.size w w' := by
  simp only [AtT] at hA
  have hA := hA.2
  obtain ⟨a, o, rfl, ha, hnode⟩ := AtL.at hA 0 u rfl
  obtain ⟨a2, o2, e2, _, hnode2⟩ := AtL.at hA 1 v rfl
  obtain ⟨rfl, rfl⟩ : a2 = a ∧ o2 = o := by simp at e2; exact ⟨e2.1.symm, e2.2.symm⟩
  rw [Nat.zero_add] at hnode hnode2
  obtain ⟨ao', cap', n1, n2, nA, z0, z1, z2, z3, z4, z5, z6⟩ := hnode.cells
  obtain ⟨ao3, cap3, m1, m2, mA, x0, x1, x2, x3, x4, x5, x6⟩ := hnode2.cells
  have c1 := fun W (hW : Below w.heap.size w W) => IH u ao' cap' n W hu fu (nA.keep hW)
  have c3 := fun W (hW : Below w.heap.size w W) => IH v ao3 cap3 n W hv fv (mA.keep hW)
  have c2 := fun W => span_common_any (leavesG n f u) (leavesG n f v) W
  simp only [exprV_cells] at c1 c3
  generalize commonG (leavesG n f u) (leavesG n f v) = R at *
  generalize leavesG n f u = R1 at *
  generalize leavesG n f v = R2 at *
  unfold rgV at *
  rw [exprV_cells]
  simp only [T.nd, T.kids, List.length_cons, List.length_nil]
  obtain ⟨op, k, i, b, s, nm⟩ := d
  generalize u.kids.length = L at *
  generalize v.kids.length = M at *
  obtain ⟨⟨op', k', i', b', s', nm'⟩, l'⟩ := u
  obtain ⟨⟨op3, k3, i3, b3, s3, nm3⟩, l3⟩ := v
  simp only [T.nd] at *
  generalize str s = S at *
  generalize str nm = N at *
  generalize str s' = S' at *
  generalize str nm' = N' at *
  generalize str s3 = S3 at *
  generalize str nm3 = N3 at *
  have hz := (Blk.new w #[.int .i64 op, .int .i64 k, .int .i64 i, .int .u64 b, .string S, .string N, .slice (some ⟨a2, o2, none⟩) 2 cap] 27).alloc (.cells #[.int .i64 0, .int .i64 0] 29)
  have hy := Blk.new (w.alloc (.cells #[.int .i64 op, .int .i64 k, .int .i64 i, .int .u64 b, .string S, .string N, .slice (some ⟨a2, o2, none⟩) 2 cap] 27)) #[.int .i64 0, .int .i64 0] 29
  have hb := ((Below.refl w.heap.size w).alloc (Nat.le_refl _) (.cells #[.int .i64 op, .int .i64 k, .int .i64 i, .int .u64 b, .string S, .string N, .slice (some ⟨a2, o2, none⟩) 2 cap] 27)).alloc (by simp) (.cells #[.int .i64 0, .int .i64 0] 29)
  have hgr : w.heap.size ≤ w.heap.size + 1 := by omega
  have hys : (w.alloc (.cells #[.int .i64 op, .int .i64 k, .int .i64 i, .int .u64 b, .string S, .string N, .slice (some ⟨a2, o2, none⟩) 2 cap] 27)).heap.size = w.heap.size + 1 := by simp
  rw [hys] at hy
  obtain ⟨w1, hw1⟩ : ∃ w1, (w.alloc (.cells #[.int .i64 op, .int .i64 k, .int .i64 i, .int .u64 b, .string S, .string N, .slice (some ⟨a2, o2, none⟩) 2 cap] 27)).alloc (.cells #[.int .i64 0, .int .i64 0] 29) = w1 := ⟨_, rfl⟩
  rw [hw1] at hz hy hb
  have d0 := (hb.cell (p := ⟨a2, o2 + 0 * 7, none⟩) ha).trans z0
  have d1 := (hb.cell (p := ⟨a2, o2 + 0 * 7 + 1, none⟩) ha).trans z1
  have d2 := (hb.cell (p := ⟨a2, o2 + 0 * 7 + 2, none⟩) ha).trans z2
  have d3 := (hb.cell (p := ⟨a2, o2 + 0 * 7 + 3, none⟩) ha).trans z3
  have d4 := (hb.cell (p := ⟨a2, o2 + 0 * 7 + 4, none⟩) ha).trans z4
  have d5 := (hb.cell (p := ⟨a2, o2 + 0 * 7 + 5, none⟩) ha).trans z5
  have d6 := (hb.cell (p := ⟨a2, o2 + 0 * 7 + 6, none⟩) ha).trans z6
  have g0 := (hb.cell (p := ⟨a2, o2 + 1 * 7, none⟩) ha).trans x0
  have g1 := (hb.cell (p := ⟨a2, o2 + 1 * 7 + 1, none⟩) ha).trans x1
  have g2 := (hb.cell (p := ⟨a2, o2 + 1 * 7 + 2, none⟩) ha).trans x2
  have g3 := (hb.cell (p := ⟨a2, o2 + 1 * 7 + 3, none⟩) ha).trans x3
  have g4 := (hb.cell (p := ⟨a2, o2 + 1 * 7 + 4, none⟩) ha).trans x4
  have g5 := (hb.cell (p := ⟨a2, o2 + 1 * 7 + 5, none⟩) ha).trans x5
  have g6 := (hb.cell (p := ⟨a2, o2 + 1 * 7 + 6, none⟩) ha).trans x6
  simp only [Nat.zero_mul, Nat.add_zero] at d0 d1 d2 d3 d4 d5 d6
  simp only [Nat.one_mul] at g0 g1 g2 g3 g4 g5 g6
  have ha1 : a2 < w1.heap.size := Nat.lt_of_lt_of_le ha hb.size
  have p0 := hz.cell (j := 0) rfl
  have p6 := hz.cell (j := 6) rfl
  clear z0 z1 z2 z3 z4 z5 z6 x0 x1 x2 x3 x4 x5 x6 hA hnode hnode2 hys
  generalize str n = NM at *
  subst h15
  clear ha e2 nA mA fu fv hu hv IH
  go_enter Tryd.func7, Tryd.ntmps7
  go_upto_region 1 with fail
  try rw [hw1]
  clear hw1
  go_upto_region 3 with fail
  refine wp_region_det 13 (by kernel_rfl) (by kernel_rfl) (by kernel_rfl) ?_
  simp only [List.take_succ_cons, List.take_zero, List.drop_succ_cons, List.drop_zero]
  apply wpDet_plain _ rfl; (focus (intro W hW; go_simp; exact ⟨rfl, Below.refl _ _⟩)); simp only [Act.put, List.setIfInBounds_toArray, List.set_cons_zero, List.set_cons_succ]
  apply wpDet_plain _ rfl; (focus (intro W hW; have q0 := (hz.call hW).cell (j := 6) rfl; go_simp; exact ⟨rfl, Below.refl _ _⟩)); simp only [Act.put, List.setIfInBounds_toArray, List.set_cons_zero, List.set_cons_succ]
  apply wpDet_plain _ rfl; (focus (intro W hW; go_simp; exact ⟨rfl, Below.refl _ _⟩)); simp only [Act.put, List.setIfInBounds_toArray, List.set_cons_zero, List.set_cons_succ]
  apply wpDet_plain _ rfl; (focus (intro W hW; have q0 := (hW.cell (p := ⟨a2, o2, none⟩) ha1).trans d0; have q1 := (hW.cell (p := ⟨a2, o2 + 1, none⟩) ha1).trans d1; have q2 := (hW.cell (p := ⟨a2, o2 + 2, none⟩) ha1).trans d2; have q3 := (hW.cell (p := ⟨a2, o2 + 3, none⟩) ha1).trans d3; have q4 := (hW.cell (p := ⟨a2, o2 + 4, none⟩) ha1).trans d4; have q5 := (hW.cell (p := ⟨a2, o2 + 5, none⟩) ha1).trans d5; have q6 := (hW.cell (p := ⟨a2, o2 + 6, none⟩) ha1).trans d6; go_simp; exact ⟨rfl, Below.refl _ _⟩)); simp only [Act.put, List.setIfInBounds_toArray, List.set_cons_zero, List.set_cons_succ]
  apply wpDet_plain _ rfl; (focus (intro W hW; go_simp; exact ⟨rfl, Below.refl _ _⟩)); simp only [Act.put, List.setIfInBounds_toArray, List.set_cons_zero, List.set_cons_succ]
  apply wpDet_plain _ rfl; (focus (intro W hW; go_simp; exact c1 W (below_stepG hb hb.size hW))); simp only [Act.put, List.setIfInBounds_toArray, List.set_cons_zero, List.set_cons_succ]
  apply wpDet_plain _ rfl; (focus (intro W hW; go_simp; exact ⟨rfl, Below.refl _ _⟩)); simp only [Act.put, List.setIfInBounds_toArray, List.set_cons_zero, List.set_cons_succ]
  apply wpDet_plain _ rfl; (focus (intro W hW; have q0 := (hz.call hW).cell (j := 6) rfl; go_simp; exact ⟨rfl, Below.refl _ _⟩)); simp only [Act.put, List.setIfInBounds_toArray, List.set_cons_zero, List.set_cons_succ]
  apply wpDet_plain _ rfl; (focus (intro W hW; go_simp; exact ⟨rfl, Below.refl _ _⟩)); simp only [Act.put, List.setIfInBounds_toArray, List.set_cons_zero, List.set_cons_succ]
  apply wpDet_plain _ rfl; (focus (intro W hW; have q0 := (hW.cell (p := ⟨a2, o2 + 7, none⟩) ha1).trans g0; have q1 := (hW.cell (p := ⟨a2, o2 + 7 + 1, none⟩) ha1).trans g1; have q2 := (hW.cell (p := ⟨a2, o2 + 7 + 2, none⟩) ha1).trans g2; have q3 := (hW.cell (p := ⟨a2, o2 + 7 + 3, none⟩) ha1).trans g3; have q4 := (hW.cell (p := ⟨a2, o2 + 7 + 4, none⟩) ha1).trans g4; have q5 := (hW.cell (p := ⟨a2, o2 + 7 + 5, none⟩) ha1).trans g5; have q6 := (hW.cell (p := ⟨a2, o2 + 7 + 6, none⟩) ha1).trans g6; go_simp; exact ⟨rfl, Below.refl _ _⟩)); simp only [Act.put, List.setIfInBounds_toArray, List.set_cons_zero, List.set_cons_succ]
  apply wpDet_plain _ rfl; (focus (intro W hW; go_simp; exact ⟨rfl, Below.refl _ _⟩)); simp only [Act.put, List.setIfInBounds_toArray, List.set_cons_zero, List.set_cons_succ]
  apply wpDet_plain _ rfl; (focus (intro W hW; go_simp; exact c3 W (below_stepG hb hb.size hW))); simp only [Act.put, List.setIfInBounds_toArray, List.set_cons_zero, List.set_cons_succ]
  apply wpDet_plain _ rfl; (focus (intro W hW; go_simp; exact c2 W)); simp only [Act.put, List.setIfInBounds_toArray, List.set_cons_zero, List.set_cons_succ]
  refine wpDet_nil ?_; intro W hW
  have B2 := below_stepG hb hb.size hW
  have X2 := hy.call hW
  clear c1 c2 c3 d0 d1 d2 d3 d4 d5 d6 g0 g1 g2 g3 g4 g5 g6 p0 p6 hW hb hz hy
  obtain ⟨⟨t1, t2⟩, f1, f2⟩ := X2.two
  go_wp2_with fail
  exact bodyPost_ret (results_rg rfl _ _ (w.heap.size + 1) _ _ rfl X2.set2) rfl ⟨rfl, below_set2 B2 hgr⟩

set_option maxHeartbeats 16000000 in
theorem leaves_cmp (d : Nd) (u v : T) (ao : Option Addr) (cap : Nat) (n : List UInt8) (w : World) (ho : d.op = 9 ∨ d.op = 11 ∨ d.op = 12 ∨ d.op = 13 ∨ d.op = 14) (fu : formT u = 0) (fv : formT v = 0) (hA : AtT w (.mk d [u, v]) ao) :
    Calls Tryd.prog 7 #[exprV (.mk d [u, v]) ao cap, .string (str n)] w fun e w' => e = .returned (rgV (cmpG d.op u v n)) ∧ Below w.heap.size w w' := by
  have c1 := fun W (hW : Below w.heap.size w W) => span_compared_any d u v ao cap n W (by omega) fu fv (hA.keep hW)
  simp only [exprV_cells] at c1 ⊢
  generalize cmpG d.op u v n = R at *
  simp only [T.nd, T.kids, List.length_cons, List.length_nil, Nat.zero_add, Nat.reduceAdd] at c1 ⊢
  obtain ⟨L, hL⟩ : ∃ L : Nat, 2 = L := ⟨_, rfl⟩
  rw [hL] at c1 ⊢
  clear hL
  obtain ⟨op, k, i, b, s, nm⟩ := d
  simp only at ho c1 ⊢
  unfold rgV at *
  clear fu fv hA
  generalize str s = S at *
  generalize str nm = N at *
  generalize str n = NM at *
  rcases ho with rfl | rfl | rfl | rfl | rfl
  · have hz := (Blk.new w #[.int .i64 9, .int .i64 k, .int .i64 i, .int .u64 b, .string S, .string N, .slice ao L cap] 27).alloc (.cells #[.int .i64 0, .int .i64 0] 29)
    have hy := Blk.new (w.alloc (.cells #[.int .i64 9, .int .i64 k, .int .i64 i, .int .u64 b, .string S, .string N, .slice ao L cap] 27)) #[.int .i64 0, .int .i64 0] 29
    have hb := ((Below.refl w.heap.size w).alloc (Nat.le_refl _) (.cells #[.int .i64 9, .int .i64 k, .int .i64 i, .int .u64 b, .string S, .string N, .slice ao L cap] 27)).alloc (by simp) (.cells #[.int .i64 0, .int .i64 0] 29)
    have hgr : w.heap.size ≤ w.heap.size + 1 := by omega
    have hys : (w.alloc (.cells #[.int .i64 9, .int .i64 k, .int .i64 i, .int .u64 b, .string S, .string N, .slice ao L cap] 27)).heap.size = w.heap.size + 1 := by simp
    rw [hys] at hy
    obtain ⟨w1, hw1⟩ : ∃ w1, (w.alloc (.cells #[.int .i64 9, .int .i64 k, .int .i64 i, .int .u64 b, .string S, .string N, .slice ao L cap] 27)).alloc (.cells #[.int .i64 0, .int .i64 0] 29) = w1 := ⟨_, rfl⟩
    rw [hw1] at hz hy hb
    clear hys
    obtain ⟨r0, r1, r2, r3, r4, r5, r6⟩ := hz.sevenG
    go_enter Tryd.func7, Tryd.ntmps7
    go_upto_region 1 with fail
    try rw [hw1]
    clear hw1
    go_wp2_with fail
    refine (c1 _ hb).mono ?_
    rintro e W2 ⟨rfl, hb2⟩
    have B2 := below_stepG hb hb.size hb2
    have X2 := hy.call hb2
    clear hb2 hb hz hy r0 r1 r2 r3 r4 r5 r6
    obtain ⟨⟨t1, t2⟩, f1, f2⟩ := X2.two
    go_wp2_with fail
    exact bodyPost_ret (results_rg rfl _ _ (w.heap.size + 1) _ _ rfl X2.set2) rfl ⟨rfl, below_set2 B2 hgr⟩
  · have hz := (Blk.new w #[.int .i64 11, .int .i64 k, .int .i64 i, .int .u64 b, .string S, .string N, .slice ao L cap] 27).alloc (.cells #[.int .i64 0, .int .i64 0] 29)
    have hy := Blk.new (w.alloc (.cells #[.int .i64 11, .int .i64 k, .int .i64 i, .int .u64 b, .string S, .string N, .slice ao L cap] 27)) #[.int .i64 0, .int .i64 0] 29
    have hb := ((Below.refl w.heap.size w).alloc (Nat.le_refl _) (.cells #[.int .i64 11, .int .i64 k, .int .i64 i, .int .u64 b, .string S, .string N, .slice ao L cap] 27)).alloc (by simp) (.cells #[.int .i64 0, .int .i64 0] 29)
    have hgr : w.heap.size ≤ w.heap.size + 1 := by omega
    have hys : (w.alloc (.cells #[.int .i64 11, .int .i64 k, .int .i64 i, .int .u64 b, .string S, .string N, .slice ao L cap] 27)).heap.size = w.heap.size + 1 := by simp
    rw [hys] at hy
    obtain ⟨w1, hw1⟩ : ∃ w1, (w.alloc (.cells #[.int .i64 11, .int .i64 k, .int .i64 i, .int .u64 b, .string S, .string N, .slice ao L cap] 27)).alloc (.cells #[.int .i64 0, .int .i64 0] 29) = w1 := ⟨_, rfl⟩
    rw [hw1] at hz hy hb
    clear hys
    obtain ⟨r0, r1, r2, r3, r4, r5, r6⟩ := hz.sevenG
    go_enter Tryd.func7, Tryd.ntmps7
    go_upto_region 1 with fail
    try rw [hw1]
    clear hw1
    go_wp2_with fail
    refine (c1 _ hb).mono ?_
    rintro e W2 ⟨rfl, hb2⟩
    have B2 := below_stepG hb hb.size hb2
    have X2 := hy.call hb2
    clear hb2 hb hz hy r0 r1 r2 r3 r4 r5 r6
    obtain ⟨⟨t1, t2⟩, f1, f2⟩ := X2.two
    go_wp2_with fail
    exact bodyPost_ret (results_rg rfl _ _ (w.heap.size + 1) _ _ rfl X2.set2) rfl ⟨rfl, below_set2 B2 hgr⟩
  · have hz := (Blk.new w #[.int .i64 12, .int .i64 k, .int .i64 i, .int .u64 b, .string S, .string N, .slice ao L cap] 27).alloc (.cells #[.int .i64 0, .int .i64 0] 29)
    have hy := Blk.new (w.alloc (.cells #[.int .i64 12, .int .i64 k, .int .i64 i, .int .u64 b, .string S, .string N, .slice ao L cap] 27)) #[.int .i64 0, .int .i64 0] 29
    have hb := ((Below.refl w.heap.size w).alloc (Nat.le_refl _) (.cells #[.int .i64 12, .int .i64 k, .int .i64 i, .int .u64 b, .string S, .string N, .slice ao L cap] 27)).alloc (by simp) (.cells #[.int .i64 0, .int .i64 0] 29)
    have hgr : w.heap.size ≤ w.heap.size + 1 := by omega
    have hys : (w.alloc (.cells #[.int .i64 12, .int .i64 k, .int .i64 i, .int .u64 b, .string S, .string N, .slice ao L cap] 27)).heap.size = w.heap.size + 1 := by simp
    rw [hys] at hy
    obtain ⟨w1, hw1⟩ : ∃ w1, (w.alloc (.cells #[.int .i64 12, .int .i64 k, .int .i64 i, .int .u64 b, .string S, .string N, .slice ao L cap] 27)).alloc (.cells #[.int .i64 0, .int .i64 0] 29) = w1 := ⟨_, rfl⟩
    rw [hw1] at hz hy hb
    clear hys
    obtain ⟨r0, r1, r2, r3, r4, r5, r6⟩ := hz.sevenG
    go_enter Tryd.func7, Tryd.ntmps7
    go_upto_region 1 with fail
    try rw [hw1]
    clear hw1
    go_wp2_with fail
    refine (c1 _ hb).mono ?_
    rintro e W2 ⟨rfl, hb2⟩
    have B2 := below_stepG hb hb.size hb2
    have X2 := hy.call hb2
    clear hb2 hb hz hy r0 r1 r2 r3 r4 r5 r6
    obtain ⟨⟨t1, t2⟩, f1, f2⟩ := X2.two
    go_wp2_with fail
    exact bodyPost_ret (results_rg rfl _ _ (w.heap.size + 1) _ _ rfl X2.set2) rfl ⟨rfl, below_set2 B2 hgr⟩
  · have hz := (Blk.new w #[.int .i64 13, .int .i64 k, .int .i64 i, .int .u64 b, .string S, .string N, .slice ao L cap] 27).alloc (.cells #[.int .i64 0, .int .i64 0] 29)
    have hy := Blk.new (w.alloc (.cells #[.int .i64 13, .int .i64 k, .int .i64 i, .int .u64 b, .string S, .string N, .slice ao L cap] 27)) #[.int .i64 0, .int .i64 0] 29
    have hb := ((Below.refl w.heap.size w).alloc (Nat.le_refl _) (.cells #[.int .i64 13, .int .i64 k, .int .i64 i, .int .u64 b, .string S, .string N, .slice ao L cap] 27)).alloc (by simp) (.cells #[.int .i64 0, .int .i64 0] 29)
    have hgr : w.heap.size ≤ w.heap.size + 1 := by omega
    have hys : (w.alloc (.cells #[.int .i64 13, .int .i64 k, .int .i64 i, .int .u64 b, .string S, .string N, .slice ao L cap] 27)).heap.size = w.heap.size + 1 := by simp
    rw [hys] at hy
    obtain ⟨w1, hw1⟩ : ∃ w1, (w.alloc (.cells #[.int .i64 13, .int .i64 k, .int .i64 i, .int .u64 b, .string S, .string N, .slice ao L cap] 27)).alloc (.cells #[.int .i64 0, .int .i64 0] 29) = w1 := ⟨_, rfl⟩
    rw [hw1] at hz hy hb
    clear hys
    obtain ⟨r0, r1, r2, r3, r4, r5, r6⟩ := hz.sevenG
    go_enter Tryd.func7, Tryd.ntmps7
    go_upto_region 1 with fail
    try rw [hw1]
    clear hw1
    go_wp2_with fail
    refine (c1 _ hb).mono ?_
    rintro e W2 ⟨rfl, hb2⟩
    have B2 := below_stepG hb hb.size hb2
    have X2 := hy.call hb2
    clear hb2 hb hz hy r0 r1 r2 r3 r4 r5 r6
    obtain ⟨⟨t1, t2⟩, f1, f2⟩ := X2.two
    go_wp2_with fail
    exact bodyPost_ret (results_rg rfl _ _ (w.heap.size + 1) _ _ rfl X2.set2) rfl ⟨rfl, below_set2 B2 hgr⟩
  · have hz := (Blk.new w #[.int .i64 14, .int .i64 k, .int .i64 i, .int .u64 b, .string S, .string N, .slice ao L cap] 27).alloc (.cells #[.int .i64 0, .int .i64 0] 29)
    have hy := Blk.new (w.alloc (.cells #[.int .i64 14, .int .i64 k, .int .i64 i, .int .u64 b, .string S, .string N, .slice ao L cap] 27)) #[.int .i64 0, .int .i64 0] 29
    have hb := ((Below.refl w.heap.size w).alloc (Nat.le_refl _) (.cells #[.int .i64 14, .int .i64 k, .int .i64 i, .int .u64 b, .string S, .string N, .slice ao L cap] 27)).alloc (by simp) (.cells #[.int .i64 0, .int .i64 0] 29)
    have hgr : w.heap.size ≤ w.heap.size + 1 := by omega
    have hys : (w.alloc (.cells #[.int .i64 14, .int .i64 k, .int .i64 i, .int .u64 b, .string S, .string N, .slice ao L cap] 27)).heap.size = w.heap.size + 1 := by simp
    rw [hys] at hy
    obtain ⟨w1, hw1⟩ : ∃ w1, (w.alloc (.cells #[.int .i64 14, .int .i64 k, .int .i64 i, .int .u64 b, .string S, .string N, .slice ao L cap] 27)).alloc (.cells #[.int .i64 0, .int .i64 0] 29) = w1 := ⟨_, rfl⟩
    rw [hw1] at hz hy hb
    clear hys
    obtain ⟨r0, r1, r2, r3, r4, r5, r6⟩ := hz.sevenG
    go_enter Tryd.func7, Tryd.ntmps7
    go_upto_region 1 with fail
    try rw [hw1]
    clear hw1
    go_wp2_with fail
    refine (c1 _ hb).mono ?_
    rintro e W2 ⟨rfl, hb2⟩
    have B2 := below_stepG hb hb.size hb2
    have X2 := hy.call hb2
    clear hb2 hb hz hy r0 r1 r2 r3 r4 r5 r6
    obtain ⟨⟨t1, t2⟩, f1, f2⟩ := X2.two
    go_wp2_with fail
    exact bodyPost_ret (results_rg rfl _ _ (w.heap.size + 1) _ _ rfl X2.set2) rfl ⟨rfl, below_set2 B2 hgr⟩

set_option maxHeartbeats 16000000 in
theorem leaves_else (t : T) (ao : Option Addr) (cap : Nat) (n : List UInt8) (w : World) (ho : isCmp t.nd.op = false) (h15 : t.nd.op ≠ 15) :
    Calls Tryd.prog 7 #[exprV t ao cap, .string (str n)] w fun e w' => e = .returned (rgV allG) ∧ Below w.heap.size w w' := by
  have c1 := fun W => span_all_any W
  simp only [exprV_cells]
  generalize allG = R at *
  generalize t.kids.length = L at *
  generalize t.nd = d at *
  obtain ⟨op, k, i, b, s, nm⟩ := d
  simp only at *
  unfold rgV at *
  simp only [isCmp, Bool.or_eq_false_iff, Bool.and_eq_false_iff, beq_eq_false_iff_ne, decide_eq_false_iff_not] at ho
  have b0 : (op == 15) = false := by simpa using h15
  have b1 : (op == 9) = false := by simpa using ho.1
  have b2 : (op == 11) = false := by simp; omega
  have b3 : (op == 12) = false := by simp; omega
  have b4 : (op == 13) = false := by simp; omega
  have b5 : (op == 14) = false := by simp; omega
  clear ho h15
  generalize str s = S at *
  generalize str nm = N at *
  generalize str n = NM at *
  have hz := (Blk.new w #[.int .i64 op, .int .i64 k, .int .i64 i, .int .u64 b, .string S, .string N, .slice ao L cap] 27).alloc (.cells #[.int .i64 0, .int .i64 0] 29)
  have hy := Blk.new (w.alloc (.cells #[.int .i64 op, .int .i64 k, .int .i64 i, .int .u64 b, .string S, .string N, .slice ao L cap] 27)) #[.int .i64 0, .int .i64 0] 29
  have hb := ((Below.refl w.heap.size w).alloc (Nat.le_refl _) (.cells #[.int .i64 op, .int .i64 k, .int .i64 i, .int .u64 b, .string S, .string N, .slice ao L cap] 27)).alloc (by simp) (.cells #[.int .i64 0, .int .i64 0] 29)
  have hgr : w.heap.size ≤ w.heap.size + 1 := by omega
  have hys : (w.alloc (.cells #[.int .i64 op, .int .i64 k, .int .i64 i, .int .u64 b, .string S, .string N, .slice ao L cap] 27)).heap.size = w.heap.size + 1 := by simp
  rw [hys] at hy
  obtain ⟨w1, hw1⟩ : ∃ w1, (w.alloc (.cells #[.int .i64 op, .int .i64 k, .int .i64 i, .int .u64 b, .string S, .string N, .slice ao L cap] 27)).alloc (.cells #[.int .i64 0, .int .i64 0] 29) = w1 := ⟨_, rfl⟩
  rw [hw1] at hz hy hb
  clear hys
  obtain ⟨r0, r1, r2, r3, r4, r5, r6⟩ := hz.sevenG
  go_enter Tryd.func7, Tryd.ntmps7
  go_upto_region 1 with fail
  try rw [hw1]
  clear hw1
  go_wp2_with fail
  refine (c1 _).mono ?_
  rintro e W2 ⟨rfl, hb2⟩
  have B2 := below_stepG hb hb.size hb2
  have X2 := hy.call hb2
  clear hb2 hb hz hy r0 r1 r2 r3 r4 r5 r6
  obtain ⟨⟨t1, t2⟩, f1, f2⟩ := X2.two
  go_wp2_with fail
  exact bodyPost_ret (results_rg rfl _ _ (w.heap.size + 1) _ _ rfl X2.set2) rfl ⟨rfl, below_set2 B2 hgr⟩

theorem leaves_any : ∀ f, LeavesOk f := by
  intro f
  induction f with
  | zero => intro t ao cap n w h; have := T.deep_eq t; omega
  | succ f ih =>
    intro t ao cap n w hd hf hA
    have hF := atT_fit t.deep t ao (Nat.le_refl _) hA
    by_cases h15 : t.nd.op = 15
    · obtain ⟨a, b, hk, ⟨fa, ga⟩, ⟨fb, gb⟩⟩ := form_two t hf hF (by omega)
      have eg : leavesG n (f + 1) t = commonG (leavesG n f a) (leavesG n f b) := by
        simp only [leavesG]; rw [if_pos h15, hk]
      have hdd : a.deep ≤ f ∧ b.deep ≤ f := by
        have := T.deep_eq t
        rw [hk] at this
        simp only [deepL] at this
        omega
      rw [eg]
      obtain ⟨d, l⟩ := t
      simp only [T.kids] at hk
      subst hk
      exact leaves_and f ih d a b ao cap n w h15 hdd.1 hdd.2 fa fb hA
    · have eg : leavesG n (f + 1) t = leafG t n := by
        simp only [leavesG]; rw [if_neg h15]
      rw [eg]
      cases hc : isCmp t.nd.op with
      | true =>
        have ho : t.nd.op = 9 ∨ t.nd.op = 11 ∨ t.nd.op = 12 ∨ t.nd.op = 13 ∨ t.nd.op = 14 := by
          simp only [isCmp, Bool.or_eq_true, Bool.and_eq_true, decide_eq_true_eq, beq_iff_eq] at hc; omega
        obtain ⟨a, b, hk, ⟨fa, ga⟩, ⟨fb, gb⟩⟩ := form_two t hf hF (by omega)
        have el : leafG t n = cmpG t.nd.op a b n := by unfold leafG; rw [if_pos hc, hk]
        rw [el]
        obtain ⟨d, l⟩ := t
        simp only [T.kids] at hk
        subst hk
        exact leaves_cmp d a b ao cap n w ho fa fb hA
      | false =>
        have el : leafG t n = allG := by unfold leafG; rw [if_neg (by rw [hc]; decide)]
        rw [el]
        exact leaves_else t ao cap n w hc h15
/-- What Of answers. -/
structure RgE where
  r : Rg
  f : Int
def spanR (n : List UInt8) (t : T) : RgE := if exprR t ≠ 0 then ⟨⟨0, 0⟩, exprR t⟩ else ⟨leavesG n t.deep t, 0⟩
theorem formT_of (t : T) (h : exprR t = 0) : formT t = 0 := by
  unfold exprR at h
  split at h
  · cases h
  · exact h
set_option maxHeartbeats 16000000 in
theorem span_of_any (t : T) (ao : Option Addr) (cap : Nat) (n : List UInt8) (w : World) (hA : AtT w t ao) (hl : t.kids.length ≤ 9223372036854775807) (hX : XEnv w) :
    Calls Tryd.prog 4 #[exprV t ao cap, .string (str n)] w fun e w' => e = .returned (.tuple #[rgV (spanR n t).r, .int .i64 (spanR n t).f]) ∧ Below w.heap.size w w' := by
  have c1 := fun W (hW : Below w.heap.size w W) => exprCheck_any t ao cap W (hA.keep hW) hl (hX.keep hW)
  have c2 := fun W (hf : formT t = 0) (hW : Below w.heap.size w W) => leaves_any t.deep t ao cap n W (Nat.le_refl _) hf (hA.keep hW)
  have hR : spanR n t = if exprR t ≠ 0 then ⟨⟨0, 0⟩, exprR t⟩ else ⟨leavesG n t.deep t, 0⟩ := rfl
  have hF := formT_of t
  simp only [exprV_cells] at c1 c2 ⊢
  generalize spanR n t = R at *
  generalize exprR t = F at *
  generalize leavesG n t.deep t = G at *
  generalize formT t = FT at *
  generalize t.kids.length = L at *
  generalize t.nd = d at *
  obtain ⟨op, k, i, b, s, nm⟩ := d
  simp only at *
  unfold rgV at *
  have HR := Lib.hid hR
  clear hR hA hl hX
  generalize str s = S at *
  generalize str nm = N at *
  generalize str n = NM at *
  have hz := (Blk.new w #[.int .i64 op, .int .i64 k, .int .i64 i, .int .u64 b, .string S, .string N, .slice ao L cap] 27).alloc (.cells #[.int .i64 0, .int .i64 0] 29)
  have hy := Blk.new (w.alloc (.cells #[.int .i64 op, .int .i64 k, .int .i64 i, .int .u64 b, .string S, .string N, .slice ao L cap] 27)) #[.int .i64 0, .int .i64 0] 29
  have hb := ((Below.refl w.heap.size w).alloc (Nat.le_refl _) (.cells #[.int .i64 op, .int .i64 k, .int .i64 i, .int .u64 b, .string S, .string N, .slice ao L cap] 27)).alloc (by simp) (.cells #[.int .i64 0, .int .i64 0] 29)
  have hgr : w.heap.size ≤ w.heap.size + 1 := by omega
  have hys : (w.alloc (.cells #[.int .i64 op, .int .i64 k, .int .i64 i, .int .u64 b, .string S, .string N, .slice ao L cap] 27)).heap.size = w.heap.size + 1 := by simp
  rw [hys] at hy
  obtain ⟨w1, hw1⟩ : ∃ w1, (w.alloc (.cells #[.int .i64 op, .int .i64 k, .int .i64 i, .int .u64 b, .string S, .string N, .slice ao L cap] 27)).alloc (.cells #[.int .i64 0, .int .i64 0] 29) = w1 := ⟨_, rfl⟩
  rw [hw1] at hz hy hb
  clear hys
  obtain ⟨r0, r1, r2, r3, r4, r5, r6⟩ := hz.sevenG
  go_enter Tryd.func4, Tryd.ntmps4
  go_upto_region 1 with fail
  try rw [hw1]
  clear hw1
  go_wp2_with fail
  refine (c1 _ hb).mono ?_
  rintro e W2 ⟨rfl, hb2⟩
  have B2 := below_stepG hb hb.size hb2
  have X2 := hy.call hb2
  have Z2 := hz.call hb2
  clear hb2 hb hz hy r0 r1 r2 r3 r4 r5 r6 c1
  by_cases hf0 : F = 0
  · have hft := hF hf0
    subst hf0
    obtain ⟨r0, r1, r2, r3, r4, r5, r6⟩ := Z2.sevenG
    clear hF
    go_wp2_with fail
    refine (c2 _ hft B2).mono ?_
    rintro e W3 ⟨rfl, hb3⟩
    have B3 := below_stepG B2 B2.size hb3
    have X3 := X2.call hb3
    clear hb3 B2 X2 Z2 r0 r1 r2 r3 r4 r5 r6 c2 hft
    obtain ⟨⟨t1, t2⟩, f1, f2⟩ := X3.two
    go_wp2_with fail
    exact bodyPost_ret (results_rg2 rfl _ _ (w.heap.size + 1) _ _ rfl X3.set2) rfl ⟨by rw [HR.out]; rfl, below_set2 B3 hgr⟩
  · have hb1 : (F != 0) = true := by simpa using hf0
    have HR2 : Hid (R = ⟨⟨0, 0⟩, F⟩) := by
      have := HR.out
      rw [if_pos hf0] at this; exact this
    clear HR hF c2 hf0
    obtain ⟨⟨t1, t2⟩, f1, f2⟩ := X2.two
    go_wp2_with fail
    exact bodyPost_ret (results_rg2 rfl _ _ (w.heap.size + 1) _ _ rfl X2.set2) rfl ⟨by rw [HR2.out]; rfl, below_set2 B2 hgr⟩

end Go.Proofs.YtablacloabpjfabDoor
