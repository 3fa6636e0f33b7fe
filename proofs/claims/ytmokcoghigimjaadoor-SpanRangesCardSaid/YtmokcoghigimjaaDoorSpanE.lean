/-
  CONTRACTS of package span: leaves, Of.
  CONDITIONS: each theorem's own hypotheses.
-/
import Derived.Test.YtmokcoghigimjaaDoorSpanD
import Derived.Test.YtmokcoghigimjaaDoorExprF
namespace Go.Proofs.YtmokcoghigimjaaDoor
open Go.RowKit
set_option linter.unusedVariables false
set_option maxRecDepth 100000

def LeavesOk (f : Nat) : Prop := ∀ (t : T) (ao : Option Addr) (cap : Nat) (n : List UInt8) (w : World), t.deep ≤ f → formT t = 0 → AtT w t ao →
    Calls Tryd.prog 7 #[exprV t ao cap, .string (str n)] w fun e w' => e = .returned (rgV (leavesG n f t)) ∧ Below w.heap.size w w'
set_option maxHeartbeats 16000000 in
theorem leaves_and (f : Nat) (IH : LeavesOk f) (d : Nd) (u v : T) (ao : Option Addr) (cap : Nat) (n : List UInt8) (w : World) (h15 : d.op = 15) (hu : u.deep ≤ f) (hv : v.deep ≤ f) (fu : formT u = 0) (fv : formT v = 0) (hA : AtT w (.mk d [u, v]) ao) :
    Calls Tryd.prog 7 #[exprV (.mk d [u, v]) ao cap, .string (str n)] w fun e w' => e = .returned (rgV (commonG (leavesG n f u) (leavesG n f v))) ∧ Below w.heap.size w w' := by
  simp only [AtT] at hA
  have hA := hA.2
  obtain ⟨a, o, rfl, ha, hnode⟩ := AtL.at hA 0 u rfl
  obtain ⟨a2, o2, e2, _, hnode2⟩ := AtL.at hA 1 v rfl
  obtain ⟨rfl, rfl⟩ : a2 = a ∧ o2 = o := by simp at e2; exact ⟨e2.1.symm, e2.2.symm⟩
  rw [Nat.zero_add] at hnode hnode2
  obtain ⟨ao', cap', n1, n2, nA, z0, z1, z2, z3, z4, z5, z6⟩ := hnode.cells
  obtain ⟨ao3, cap3, m1, m2, mA, x0, x1, x2, x3, x4, x5, x6⟩ := hnode2.cells
  have c1 := fun W (hW : Below w.heap.size w W) => IH u ao' cap' n W hu fu (nA.keep hW)
  have c3 := fun W (hW : Below w.heap.size w W) => IH v ao3 cap3 n W hv fv (mA.keep hW)
  have c2 := fun W => span_common_any (leavesG n f u) (leavesG n f v) W
  simp only [exprV_cells] at c1 c3
  generalize commonG (leavesG n f u) (leavesG n f v) = R at *
  generalize leavesG n f u = R1 at *
  generalize leavesG n f v = R2 at *
  unfold rgV at *
  rw [exprV_cells]
  simp only [T.nd, T.kids, List.length_cons, List.length_nil]
  obtain ⟨op, k, i, b, s, nm⟩ := d
  generalize u.kids.length = L at *
  generalize v.kids.length = M at *
  obtain ⟨⟨op', k', i', b', s', nm'⟩, l'⟩ := u
  obtain ⟨⟨op3, k3, i3, b3, s3, nm3⟩, l3⟩ := v
  simp only [T.nd] at *
  generalize str s = S at *
  generalize str nm = N at *
  generalize str s' = S' at *
  generalize str nm' = N' at *
  generalize str s3 = S3 at *
  generalize str nm3 = N3 at *
  have hz := (Blk.new w #[.int .i64 op, .int .i64 k, .int .i64 i, .int .u64 b, .string S, .string N, .slice (some ⟨a2, o2, none⟩) 2 cap] 27).alloc (.cells #[.int .i64 0, .int .i64 0] 29)
  have hy := Blk.new (w.alloc (.cells #[.int .i64 op, .int .i64 k, .int .i64 i, .int .u64 b, .string S, .string N, .slice (some ⟨a2, o2, none⟩) 2 cap] 27)) #[.int .i64 0, .int .i64 0] 29
  have hb := ((Below.refl w.heap.size w).alloc (Nat.le_refl _) (.cells #[.int .i64 op, .int .i64 k, .int .i64 i, .int .u64 b, .string S, .string N, .slice (some ⟨a2, o2, none⟩) 2 cap] 27)).alloc (by simp) (.cells #[.int .i64 0, .int .i64 0] 29)
  have hgr : w.heap.size ≤ w.heap.size + 1 := by omega
  have hys : (w.alloc (.cells #[.int .i64 op, .int .i64 k, .int .i64 i, .int .u64 b, .string S, .string N, .slice (some ⟨a2, o2, none⟩) 2 cap] 27)).heap.size = w.heap.size + 1 := by simp
  rw [hys] at hy
  obtain ⟨w1, hw1⟩ : ∃ w1, (w.alloc (.cells #[.int .i64 op, .int .i64 k, .int .i64 i, .int .u64 b, .string S, .string N, .slice (some ⟨a2, o2, none⟩) 2 cap] 27)).alloc (.cells #[.int .i64 0, .int .i64 0] 29) = w1 := ⟨_, rfl⟩
  rw [hw1] at hz hy hb
  have d0 := (hb.cell (p := ⟨a2, o2 + 0 * 7, none⟩) ha).trans z0
  have d1 := (hb.cell (p := ⟨a2, o2 + 0 * 7 + 1, none⟩) ha).trans z1
  have d2 := (hb.cell (p := ⟨a2, o2 + 0 * 7 + 2, none⟩) ha).trans z2
  have d3 := (hb.cell (p := ⟨a2, o2 + 0 * 7 + 3, none⟩) ha).trans z3
  have d4 := (hb.cell (p := ⟨a2, o2 + 0 * 7 + 4, none⟩) ha).trans z4
  have d5 := (hb.cell (p := ⟨a2, o2 + 0 * 7 + 5, none⟩) ha).trans z5
  have d6 := (hb.cell (p := ⟨a2, o2 + 0 * 7 + 6, none⟩) ha).trans z6
  have g0 := (hb.cell (p := ⟨a2, o2 + 1 * 7, none⟩) ha).trans x0
  have g1 := (hb.cell (p := ⟨a2, o2 + 1 * 7 + 1, none⟩) ha).trans x1
  have g2 := (hb.cell (p := ⟨a2, o2 + 1 * 7 + 2, none⟩) ha).trans x2
  have g3 := (hb.cell (p := ⟨a2, o2 + 1 * 7 + 3, none⟩) ha).trans x3
  have g4 := (hb.cell (p := ⟨a2, o2 + 1 * 7 + 4, none⟩) ha).trans x4
  have g5 := (hb.cell (p := ⟨a2, o2 + 1 * 7 + 5, none⟩) ha).trans x5
  have g6 := (hb.cell (p := ⟨a2, o2 + 1 * 7 + 6, none⟩) ha).trans x6
  simp only [Nat.zero_mul, Nat.add_zero] at d0 d1 d2 d3 d4 d5 d6
  simp only [Nat.one_mul] at g0 g1 g2 g3 g4 g5 g6
  have ha1 : a2 < w1.heap.size := Nat.lt_of_lt_of_le ha hb.size
  have p0 := hz.cell (j := 0) rfl
  have p6 := hz.cell (j := 6) rfl
  clear z0 z1 z2 z3 z4 z5 z6 x0 x1 x2 x3 x4 x5 x6 hA hnode hnode2 hys
  generalize str n = NM at *
  subst h15
  clear ha e2 nA mA fu fv hu hv IH
  go_enter Tryd.func7, Tryd.ntmps7
  go_upto_region 1 with fail
  try rw [hw1]
  clear hw1
  go_upto_region 3 with fail
  refine wp_region_det 13 (by kernel_rfl) (by kernel_rfl) (by kernel_rfl) ?_
  simp only [List.take_succ_cons, List.take_zero, List.drop_succ_cons, List.drop_zero]
  apply wpDet_plain _ rfl; (focus (intro W hW; go_simp; exact ⟨rfl, Below.refl _ _⟩)); simp only [Act.put, List.setIfInBounds_toArray, List.set_cons_zero, List.set_cons_succ]
  apply wpDet_plain _ rfl; (focus (intro W hW; have q0 := (hz.call hW).cell (j := 6) rfl; go_simp; exact ⟨rfl, Below.refl _ _⟩)); simp only [Act.put, List.setIfInBounds_toArray, List.set_cons_zero, List.set_cons_succ]
  apply wpDet_plain _ rfl; (focus (intro W hW; go_simp; exact ⟨rfl, Below.refl _ _⟩)); simp only [Act.put, List.setIfInBounds_toArray, List.set_cons_zero, List.set_cons_succ]
  apply wpDet_plain _ rfl; (focus (intro W hW; have q0 := (hW.cell (p := ⟨a2, o2, none⟩) ha1).trans d0; have q1 := (hW.cell (p := ⟨a2, o2 + 1, none⟩) ha1).trans d1; have q2 := (hW.cell (p := ⟨a2, o2 + 2, none⟩) ha1).trans d2; have q3 := (hW.cell (p := ⟨a2, o2 + 3, none⟩) ha1).trans d3; have q4 := (hW.cell (p := ⟨a2, o2 + 4, none⟩) ha1).trans d4; have q5 := (hW.cell (p := ⟨a2, o2 + 5, none⟩) ha1).trans d5; have q6 := (hW.cell (p := ⟨a2, o2 + 6, none⟩) ha1).trans d6; go_simp; exact ⟨rfl, Below.refl _ _⟩)); simp only [Act.put, List.setIfInBounds_toArray, List.set_cons_zero, List.set_cons_succ]
  apply wpDet_plain _ rfl; (focus (intro W hW; go_simp; exact ⟨rfl, Below.refl _ _⟩)); simp only [Act.put, List.setIfInBounds_toArray, List.set_cons_zero, List.set_cons_succ]
  apply wpDet_plain _ rfl; (focus (intro W hW; go_simp; exact c1 W (below_stepG hb hb.size hW))); simp only [Act.put, List.setIfInBounds_toArray, List.set_cons_zero, List.set_cons_succ]
  apply wpDet_plain _ rfl; (focus (intro W hW; go_simp; exact ⟨rfl, Below.refl _ _⟩)); simp only [Act.put, List.setIfInBounds_toArray, List.set_cons_zero, List.set_cons_succ]
  apply wpDet_plain _ rfl; (focus (intro W hW; have q0 := (hz.call hW).cell (j := 6) rfl; go_simp; exact ⟨rfl, Below.refl _ _⟩)); simp only [Act.put, List.setIfInBounds_toArray, List.set_cons_zero, List.set_cons_succ]
  apply wpDet_plain _ rfl; (focus (intro W hW; go_simp; exact ⟨rfl, Below.refl _ _⟩)); simp only [Act.put, List.setIfInBounds_toArray, List.set_cons_zero, List.set_cons_succ]
  apply wpDet_plain _ rfl; (focus (intro W hW; have q0 := (hW.cell (p := ⟨a2, o2 + 7, none⟩) ha1).trans g0; have q1 := (hW.cell (p := ⟨a2, o2 + 7 + 1, none⟩) ha1).trans g1; have q2 := (hW.cell (p := ⟨a2, o2 + 7 + 2, none⟩) ha1).trans g2; have q3 := (hW.cell (p := ⟨a2, o2 + 7 + 3, none⟩) ha1).trans g3; have q4 := (hW.cell (p := ⟨a2, o2 + 7 + 4, none⟩) ha1).trans g4; have q5 := (hW.cell (p := ⟨a2, o2 + 7 + 5, none⟩) ha1).trans g5; have q6 := (hW.cell (p := ⟨a2, o2 + 7 + 6, none⟩) ha1).trans g6; go_simp; exact ⟨rfl, Below.refl _ _⟩)); simp only [Act.put, List.setIfInBounds_toArray, List.set_cons_zero, List.set_cons_succ]
  apply wpDet_plain _ rfl; (focus (intro W hW; go_simp; exact ⟨rfl, Below.refl _ _⟩)); simp only [Act.put, List.setIfInBounds_toArray, List.set_cons_zero, List.set_cons_succ]
  apply wpDet_plain _ rfl; (focus (intro W hW; go_simp; exact c3 W (below_stepG hb hb.size hW))); simp only [Act.put, List.setIfInBounds_toArray, List.set_cons_zero, List.set_cons_succ]
  apply wpDet_plain _ rfl; (focus (intro W hW; go_simp; exact c2 W)); simp only [Act.put, List.setIfInBounds_toArray, List.set_cons_zero, List.set_cons_succ]
  refine wpDet_nil ?_; intro W hW
  have B2 := below_stepG hb hb.size hW
  have X2 := hy.call hW
  clear c1 c2 c3 d0 d1 d2 d3 d4 d5 d6 g0 g1 g2 g3 g4 g5 g6 p0 p6 hW hb hz hy
  obtain ⟨⟨t1, t2⟩, f1, f2⟩ := X2.two
  go_wp2_with fail
  exact bodyPost_ret (results_rg rfl _ _ (w.heap.size + 1) _ _ rfl X2.set2) rfl ⟨rfl, below_set2 B2 hgr⟩

set_option maxHeartbeats 16000000 in
theorem leaves_cmp (d : Nd) (u v : T) (ao : Option Addr) (cap : Nat) (n : List UInt8) (w : World) (ho : d.op = 9 ∨ d.op = 11 ∨ d.op = 12 ∨ d.op = 13 ∨ d.op = 14) (fu : formT u = 0) (fv : formT v = 0) (hA : AtT w (.mk d [u, v]) ao) :
    Calls Tryd.prog 7 #[exprV (.mk d [u, v]) ao cap, .string (str n)] w fun e w' => e = .returned (rgV (cmpG d.op u v n)) ∧ Below w.heap.size w w' := by
  have c1 := fun W (hW : Below w.heap.size w W) => span_compared_any d u v ao cap n W (by omega) fu fv (hA.keep hW)
  simp only [exprV_cells] at c1 ⊢
  generalize cmpG d.op u v n = R at *
  simp only [T.nd, T.kids, List.length_cons, List.length_nil, Nat.zero_add, Nat.reduceAdd] at c1 ⊢
  obtain ⟨L, hL⟩ : ∃ L : Nat, 2 = L := ⟨_, rfl⟩
  rw [hL] at c1 ⊢
  clear hL
  obtain ⟨op, k, i, b, s, nm⟩ := d
  simp only at ho c1 ⊢
  unfold rgV at *
  clear fu fv hA
  generalize str s = S at *
  generalize str nm = N at *
  generalize str n = NM at *
  rcases ho with rfl | rfl | rfl | rfl | rfl
  · have hz := (Blk.new w #[.int .i64 9, .int .i64 k, .int .i64 i, .int .u64 b, .string S, .string N, .slice ao L cap] 27).alloc (.cells #[.int .i64 0, .int .i64 0] 29)
    have hy := Blk.new (w.alloc (.cells #[.int .i64 9, .int .i64 k, .int .i64 i, .int .u64 b, .string S, .string N, .slice ao L cap] 27)) #[.int .i64 0, .int .i64 0] 29
    have hb := ((Below.refl w.heap.size w).alloc (Nat.le_refl _) (.cells #[.int .i64 9, .int .i64 k, .int .i64 i, .int .u64 b, .string S, .string N, .slice ao L cap] 27)).alloc (by simp) (.cells #[.int .i64 0, .int .i64 0] 29)
    have hgr : w.heap.size ≤ w.heap.size + 1 := by omega
    have hys : (w.alloc (.cells #[.int .i64 9, .int .i64 k, .int .i64 i, .int .u64 b, .string S, .string N, .slice ao L cap] 27)).heap.size = w.heap.size + 1 := by simp
    rw [hys] at hy
    obtain ⟨w1, hw1⟩ : ∃ w1, (w.alloc (.cells #[.int .i64 9, .int .i64 k, .int .i64 i, .int .u64 b, .string S, .string N, .slice ao L cap] 27)).alloc (.cells #[.int .i64 0, .int .i64 0] 29) = w1 := ⟨_, rfl⟩
    rw [hw1] at hz hy hb
    clear hys
    obtain ⟨r0, r1, r2, r3, r4, r5, r6⟩ := hz.sevenG
    go_enter Tryd.func7, Tryd.ntmps7
    go_upto_region 1 with fail
    try rw [hw1]
    clear hw1
    go_wp2_with fail
    refine (c1 _ hb).mono ?_
    rintro e W2 ⟨rfl, hb2⟩
    have B2 := below_stepG hb hb.size hb2
    have X2 := hy.call hb2
    clear hb2 hb hz hy r0 r1 r2 r3 r4 r5 r6
    obtain ⟨⟨t1, t2⟩, f1, f2⟩ := X2.two
    go_wp2_with fail
    exact bodyPost_ret (results_rg rfl _ _ (w.heap.size + 1) _ _ rfl X2.set2) rfl ⟨rfl, below_set2 B2 hgr⟩
  · have hz := (Blk.new w #[.int .i64 11, .int .i64 k, .int .i64 i, .int .u64 b, .string S, .string N, .slice ao L cap] 27).alloc (.cells #[.int .i64 0, .int .i64 0] 29)
    have hy := Blk.new (w.alloc (.cells #[.int .i64 11, .int .i64 k, .int .i64 i, .int .u64 b, .string S, .string N, .slice ao L cap] 27)) #[.int .i64 0, .int .i64 0] 29
    have hb := ((Below.refl w.heap.size w).alloc (Nat.le_refl _) (.cells #[.int .i64 11, .int .i64 k, .int .i64 i, .int .u64 b, .string S, .string N, .slice ao L cap] 27)).alloc (by simp) (.cells #[.int .i64 0, .int .i64 0] 29)
    have hgr : w.heap.size ≤ w.heap.size + 1 := by omega
    have hys : (w.alloc (.cells #[.int .i64 11, .int .i64 k, .int .i64 i, .int .u64 b, .string S, .string N, .slice ao L cap] 27)).heap.size = w.heap.size + 1 := by simp
    rw [hys] at hy
    obtain ⟨w1, hw1⟩ : ∃ w1, (w.alloc (.cells #[.int .i64 11, .int .i64 k, .int .i64 i, .int .u64 b, .string S, .string N, .slice ao L cap] 27)).alloc (.cells #[.int .i64 0, .int .i64 0] 29) = w1 := ⟨_, rfl⟩
    rw [hw1] at hz hy hb
    clear hys
    obtain ⟨r0, r1, r2, r3, r4, r5, r6⟩ := hz.sevenG
    go_enter Tryd.func7, Tryd.ntmps7
    go_upto_region 1 with fail
    try rw [hw1]
    clear hw1
    go_wp2_with fail
    refine (c1 _ hb).mono ?_
    rintro e W2 ⟨rfl, hb2⟩
    have B2 := below_stepG hb hb.size hb2
    have X2 := hy.call hb2
    clear hb2 hb hz hy r0 r1 r2 r3 r4 r5 r6
    obtain ⟨⟨t1, t2⟩, f1, f2⟩ := X2.two
    go_wp2_with fail
    exact bodyPost_ret (results_rg rfl _ _ (w.heap.size + 1) _ _ rfl X2.set2) rfl ⟨rfl, below_set2 B2 hgr⟩
  · have hz := (Blk.new w #[.int .i64 12, .int .i64 k, .int .i64 i, .int .u64 b, .string S, .string N, .slice ao L cap] 27).alloc (.cells #[.int .i64 0, .int .i64 0] 29)
    have hy := Blk.new (w.alloc (.cells #[.int .i64 12, .int .i64 k, .int .i64 i, .int .u64 b, .string S, .string N, .slice ao L cap] 27)) #[.int .i64 0, .int .i64 0] 29
    have hb := ((Below.refl w.heap.size w).alloc (Nat.le_refl _) (.cells #[.int .i64 12, .int .i64 k, .int .i64 i, .int .u64 b, .string S, .string N, .slice ao L cap] 27)).alloc (by simp) (.cells #[.int .i64 0, .int .i64 0] 29)
    have hgr : w.heap.size ≤ w.heap.size + 1 := by omega
    have hys : (w.alloc (.cells #[.int .i64 12, .int .i64 k, .int .i64 i, .int .u64 b, .string S, .string N, .slice ao L cap] 27)).heap.size = w.heap.size + 1 := by simp
    rw [hys] at hy
    obtain ⟨w1, hw1⟩ : ∃ w1, (w.alloc (.cells #[.int .i64 12, .int .i64 k, .int .i64 i, .int .u64 b, .string S, .string N, .slice ao L cap] 27)).alloc (.cells #[.int .i64 0, .int .i64 0] 29) = w1 := ⟨_, rfl⟩
    rw [hw1] at hz hy hb
    clear hys
    obtain ⟨r0, r1, r2, r3, r4, r5, r6⟩ := hz.sevenG
    go_enter Tryd.func7, Tryd.ntmps7
    go_upto_region 1 with fail
    try rw [hw1]
    clear hw1
    go_wp2_with fail
    refine (c1 _ hb).mono ?_
    rintro e W2 ⟨rfl, hb2⟩
    have B2 := below_stepG hb hb.size hb2
    have X2 := hy.call hb2
    clear hb2 hb hz hy r0 r1 r2 r3 r4 r5 r6
    obtain ⟨⟨t1, t2⟩, f1, f2⟩ := X2.two
    go_wp2_with fail
    exact bodyPost_ret (results_rg rfl _ _ (w.heap.size + 1) _ _ rfl X2.set2) rfl ⟨rfl, below_set2 B2 hgr⟩
  · have hz := (Blk.new w #[.int .i64 13, .int .i64 k, .int .i64 i, .int .u64 b, .string S, .string N, .slice ao L cap] 27).alloc (.cells #[.int .i64 0, .int .i64 0] 29)
    have hy := Blk.new (w.alloc (.cells #[.int .i64 13, .int .i64 k, .int .i64 i, .int .u64 b, .string S, .string N, .slice ao L cap] 27)) #[.int .i64 0, .int .i64 0] 29
    have hb := ((Below.refl w.heap.size w).alloc (Nat.le_refl _) (.cells #[.int .i64 13, .int .i64 k, .int .i64 i, .int .u64 b, .string S, .string N, .slice ao L cap] 27)).alloc (by simp) (.cells #[.int .i64 0, .int .i64 0] 29)
    have hgr : w.heap.size ≤ w.heap.size + 1 := by omega
    have hys : (w.alloc (.cells #[.int .i64 13, .int .i64 k, .int .i64 i, .int .u64 b, .string S, .string N, .slice ao L cap] 27)).heap.size = w.heap.size + 1 := by simp
    rw [hys] at hy
    obtain ⟨w1, hw1⟩ : ∃ w1, (w.alloc (.cells #[.int .i64 13, .int .i64 k, .int .i64 i, .int .u64 b, .string S, .string N, .slice ao L cap] 27)).alloc (.cells #[.int .i64 0, .int .i64 0] 29) = w1 := ⟨_, rfl⟩
    rw [hw1] at hz hy hb
    clear hys
    obtain ⟨r0, r1, r2, r3, r4, r5, r6⟩ := hz.sevenG
    go_enter Tryd.func7, Tryd.ntmps7
    go_upto_region 1 with fail
    try rw [hw1]
    clear hw1
    go_wp2_with fail
    refine (c1 _ hb).mono ?_
    rintro e W2 ⟨rfl, hb2⟩
    have B2 := below_stepG hb hb.size hb2
    have X2 := hy.call hb2
    clear hb2 hb hz hy r0 r1 r2 r3 r4 r5 r6
    obtain ⟨⟨t1, t2⟩, f1, f2⟩ := X2.two
    go_wp2_with fail
    exact bodyPost_ret (results_rg rfl _ _ (w.heap.size + 1) _ _ rfl X2.set2) rfl ⟨rfl, below_set2 B2 hgr⟩
  · have hz := (Blk.new w #[.int .i64 14, .int .i64 k, .int .i64 i, .int .u64 b, .string S, .string N, .slice ao L cap] 27).alloc (.cells #[.int .i64 0, .int .i64 0] 29)
    have hy := Blk.new (w.alloc (.cells #[.int .i64 14, .int .i64 k, .int .i64 i, .int .u64 b, .string S, .string N, .slice ao L cap] 27)) #[.int .i64 0, .int .i64 0] 29
    have hb := ((Below.refl w.heap.size w).alloc (Nat.le_refl _) (.cells #[.int .i64 14, .int .i64 k, .int .i64 i, .int .u64 b, .string S, .string N, .slice ao L cap] 27)).alloc (by simp) (.cells #[.int .i64 0, .int .i64 0] 29)
    have hgr : w.heap.size ≤ w.heap.size + 1 := by omega
    have hys : (w.alloc (.cells #[.int .i64 14, .int .i64 k, .int .i64 i, .int .u64 b, .string S, .string N, .slice ao L cap] 27)).heap.size = w.heap.size + 1 := by simp
    rw [hys] at hy
    obtain ⟨w1, hw1⟩ : ∃ w1, (w.alloc (.cells #[.int .i64 14, .int .i64 k, .int .i64 i, .int .u64 b, .string S, .string N, .slice ao L cap] 27)).alloc (.cells #[.int .i64 0, .int .i64 0] 29) = w1 := ⟨_, rfl⟩
    rw [hw1] at hz hy hb
    clear hys
    obtain ⟨r0, r1, r2, r3, r4, r5, r6⟩ := hz.sevenG
    go_enter Tryd.func7, Tryd.ntmps7
    go_upto_region 1 with fail
    try rw [hw1]
    clear hw1
    go_wp2_with fail
    refine (c1 _ hb).mono ?_
    rintro e W2 ⟨rfl, hb2⟩
    have B2 := below_stepG hb hb.size hb2
    have X2 := hy.call hb2
    clear hb2 hb hz hy r0 r1 r2 r3 r4 r5 r6
    obtain ⟨⟨t1, t2⟩, f1, f2⟩ := X2.two
    go_wp2_with fail
    exact bodyPost_ret (results_rg rfl _ _ (w.heap.size + 1) _ _ rfl X2.set2) rfl ⟨rfl, below_set2 B2 hgr⟩

set_option maxHeartbeats 16000000 in
theorem leaves_else (t : T) (ao : Option Addr) (cap : Nat) (n : List UInt8) (w : World) (ho : isCmp t.nd.op = false) (h15 : t.nd.op ≠ 15) :
    Calls Tryd.prog 7 #[exprV t ao cap, .string (str n)] w fun e w' => e = .returned (rgV allG) ∧ Below w.heap.size w w' := by
  have c1 := fun W => span_all_any W
  simp only [exprV_cells]
  generalize allG = R at *
  generalize t.kids.length = L at *
  generalize t.nd = d at *
  obtain ⟨op, k, i, b, s, nm⟩ := d
  simp only at *
  unfold rgV at *
  simp only [isCmp, Bool.or_eq_false_iff, Bool.and_eq_false_iff, beq_eq_false_iff_ne, decide_eq_false_iff_not] at ho
  have b0 : (op == 15) = false := by simpa using h15
  have b1 : (op == 9) = false := by simpa using ho.1
  have b2 : (op == 11) = false := by simp; omega
  have b3 : (op == 12) = false := by simp; omega
  have b4 : (op == 13) = false := by simp; omega
  have b5 : (op == 14) = false := by simp; omega
  clear ho h15
  generalize str s = S at *
  generalize str nm = N at *
  generalize str n = NM at *
  have hz := (Blk.new w #[.int .i64 op, .int .i64 k, .int .i64 i, .int .u64 b, .string S, .string N, .slice ao L cap] 27).alloc (.cells #[.int .i64 0, .int .i64 0] 29)
  have hy := Blk.new (w.alloc (.cells #[.int .i64 op, .int .i64 k, .int .i64 i, .int .u64 b, .string S, .string N, .slice ao L cap] 27)) #[.int .i64 0, .int .i64 0] 29
  have hb := ((Below.refl w.heap.size w).alloc (Nat.le_refl _) (.cells #[.int .i64 op, .int .i64 k, .int .i64 i, .int .u64 b, .string S, .string N, .slice ao L cap] 27)).alloc (by simp) (.cells #[.int .i64 0, .int .i64 0] 29)
  have hgr : w.heap.size ≤ w.heap.size + 1 := by omega
  have hys : (w.alloc (.cells #[.int .i64 op, .int .i64 k, .int .i64 i, .int .u64 b, .string S, .string N, .slice ao L cap] 27)).heap.size = w.heap.size + 1 := by simp
  rw [hys] at hy
  obtain ⟨w1, hw1⟩ : ∃ w1, (w.alloc (.cells #[.int .i64 op, .int .i64 k, .int .i64 i, .int .u64 b, .string S, .string N, .slice ao L cap] 27)).alloc (.cells #[.int .i64 0, .int .i64 0] 29) = w1 := ⟨_, rfl⟩
  rw [hw1] at hz hy hb
  clear hys
  obtain ⟨r0, r1, r2, r3, r4, r5, r6⟩ := hz.sevenG
  go_enter Tryd.func7, Tryd.ntmps7
  go_upto_region 1 with fail
  try rw [hw1]
  clear hw1
  go_wp2_with fail
  refine (c1 _).mono ?_
  rintro e W2 ⟨rfl, hb2⟩
  have B2 := below_stepG hb hb.size hb2
  have X2 := hy.call hb2
  clear hb2 hb hz hy r0 r1 r2 r3 r4 r5 r6
  obtain ⟨⟨t1, t2⟩, f1, f2⟩ := X2.two
  go_wp2_with fail
  exact bodyPost_ret (results_rg rfl _ _ (w.heap.size + 1) _ _ rfl X2.set2) rfl ⟨rfl, below_set2 B2 hgr⟩

theorem leaves_any : ∀ f, LeavesOk f := by
  intro f
  induction f with
  | zero => intro t ao cap n w h; have := T.deep_eq t; omega
  | succ f ih =>
    intro t ao cap n w hd hf hA
    have hF := atT_fit t.deep t ao (Nat.le_refl _) hA
    by_cases h15 : t.nd.op = 15
    · obtain ⟨a, b, hk, ⟨fa, ga⟩, ⟨fb, gb⟩⟩ := form_two t hf hF (by omega)
      have eg : leavesG n (f + 1) t = commonG (leavesG n f a) (leavesG n f b) := by
        simp only [leavesG]; rw [if_pos h15, hk]
      have hdd : a.deep ≤ f ∧ b.deep ≤ f := by
        have := T.deep_eq t
        rw [hk] at this
        simp only [deepL] at this
        omega
      rw [eg]
      obtain ⟨d, l⟩ := t
      simp only [T.kids] at hk
      subst hk
      exact leaves_and f ih d a b ao cap n w h15 hdd.1 hdd.2 fa fb hA
    · have eg : leavesG n (f + 1) t = leafG t n := by
        simp only [leavesG]; rw [if_neg h15]
      rw [eg]
      cases hc : isCmp t.nd.op with
      | true =>
        have ho : t.nd.op = 9 ∨ t.nd.op = 11 ∨ t.nd.op = 12 ∨ t.nd.op = 13 ∨ t.nd.op = 14 := by
          simp only [isCmp, Bool.or_eq_true, Bool.and_eq_true, decide_eq_true_eq, beq_iff_eq] at hc; omega
        obtain ⟨a, b, hk, ⟨fa, ga⟩, ⟨fb, gb⟩⟩ := form_two t hf hF (by omega)
        have el : leafG t n = cmpG t.nd.op a b n := by unfold leafG; rw [if_pos hc, hk]
        rw [el]
        obtain ⟨d, l⟩ := t
        simp only [T.kids] at hk
        subst hk
        exact leaves_cmp d a b ao cap n w ho fa fb hA
      | false =>
        have el : leafG t n = allG := by unfold leafG; rw [if_neg (by rw [hc]; decide)]
        rw [el]
        exact leaves_else t ao cap n w hc h15
/-- What Of answers. -/
structure RgE where
  r : Rg
  f : Int
def spanR (n : List UInt8) (t : T) : RgE := if exprR t ≠ 0 then ⟨⟨0, 0⟩, exprR t⟩ else ⟨leavesG n t.deep t, 0⟩
theorem formT_of (t : T) (h : exprR t = 0) : formT t = 0 := by
  unfold exprR at h
  split at h
  · cases h
  · exact h
set_option maxHeartbeats 16000000 in
theorem span_of_any (t : T) (ao : Option Addr) (cap : Nat) (n : List UInt8) (w : World) (hA : AtT w t ao) (hl : t.kids.length ≤ 9223372036854775807) (hX : XEnv w) :
    Calls Tryd.prog 4 #[exprV t ao cap, .string (str n)] w fun e w' => e = .returned (.tuple #[rgV (spanR n t).r, .int .i64 (spanR n t).f]) ∧ Below w.heap.size w w' := by
  have c1 := fun W (hW : Below w.heap.size w W) => exprCheck_any t ao cap W (hA.keep hW) hl (hX.keep hW)
  have c2 := fun W (hf : formT t = 0) (hW : Below w.heap.size w W) => leaves_any t.deep t ao cap n W (Nat.le_refl _) hf (hA.keep hW)
  have hR : spanR n t = if exprR t ≠ 0 then ⟨⟨0, 0⟩, exprR t⟩ else ⟨leavesG n t.deep t, 0⟩ := rfl
  have hF := formT_of t
  simp only [exprV_cells] at c1 c2 ⊢
  generalize spanR n t = R at *
  generalize exprR t = F at *
  generalize leavesG n t.deep t = G at *
  generalize formT t = FT at *
  generalize t.kids.length = L at *
  generalize t.nd = d at *
  obtain ⟨op, k, i, b, s, nm⟩ := d
  simp only at *
  unfold rgV at *
  have HR := Lib.hid hR
  clear hR hA hl hX
  generalize str s = S at *
  generalize str nm = N at *
  generalize str n = NM at *
  have hz := (Blk.new w #[.int .i64 op, .int .i64 k, .int .i64 i, .int .u64 b, .string S, .string N, .slice ao L cap] 27).alloc (.cells #[.int .i64 0, .int .i64 0] 29)
  have hy := Blk.new (w.alloc (.cells #[.int .i64 op, .int .i64 k, .int .i64 i, .int .u64 b, .string S, .string N, .slice ao L cap] 27)) #[.int .i64 0, .int .i64 0] 29
  have hb := ((Below.refl w.heap.size w).alloc (Nat.le_refl _) (.cells #[.int .i64 op, .int .i64 k, .int .i64 i, .int .u64 b, .string S, .string N, .slice ao L cap] 27)).alloc (by simp) (.cells #[.int .i64 0, .int .i64 0] 29)
  have hgr : w.heap.size ≤ w.heap.size + 1 := by omega
  have hys : (w.alloc (.cells #[.int .i64 op, .int .i64 k, .int .i64 i, .int .u64 b, .string S, .string N, .slice ao L cap] 27)).heap.size = w.heap.size + 1 := by simp
  rw [hys] at hy
  obtain ⟨w1, hw1⟩ : ∃ w1, (w.alloc (.cells #[.int .i64 op, .int .i64 k, .int .i64 i, .int .u64 b, .string S, .string N, .slice ao L cap] 27)).alloc (.cells #[.int .i64 0, .int .i64 0] 29) = w1 := ⟨_, rfl⟩
  rw [hw1] at hz hy hb
  clear hys
  obtain ⟨r0, r1, r2, r3, r4, r5, r6⟩ := hz.sevenG
  go_enter Tryd.func4, Tryd.ntmps4
  go_upto_region 1 with fail
  try rw [hw1]
  clear hw1
  go_wp2_with fail
  refine (c1 _ hb).mono ?_
  rintro e W2 ⟨rfl, hb2⟩
  have B2 := below_stepG hb hb.size hb2
  have X2 := hy.call hb2
  have Z2 := hz.call hb2
  clear hb2 hb hz hy r0 r1 r2 r3 r4 r5 r6 c1
  by_cases hf0 : F = 0
  · have hft := hF hf0
    subst hf0
    obtain ⟨r0, r1, r2, r3, r4, r5, r6⟩ := Z2.sevenG
    clear hF
    go_wp2_with fail
    refine (c2 _ hft B2).mono ?_
    rintro e W3 ⟨rfl, hb3⟩
    have B3 := below_stepG B2 B2.size hb3
    have X3 := X2.call hb3
    clear hb3 B2 X2 Z2 r0 r1 r2 r3 r4 r5 r6 c2 hft
    obtain ⟨⟨t1, t2⟩, f1, f2⟩ := X3.two
    go_wp2_with fail
    exact bodyPost_ret (results_rg2 rfl _ _ (w.heap.size + 1) _ _ rfl X3.set2) rfl ⟨by rw [HR.out]; rfl, below_set2 B3 hgr⟩
  · have hb1 : (F != 0) = true := by simpa using hf0
    have HR2 : Hid (R = ⟨⟨0, 0⟩, F⟩) := by
      have := HR.out
      rw [if_pos hf0] at this; exact this
    clear HR hF c2 hf0
    obtain ⟨⟨t1, t2⟩, f1, f2⟩ := X2.two
    go_wp2_with fail
    exact bodyPost_ret (results_rg2 rfl _ _ (w.heap.size + 1) _ _ rfl X2.set2) rfl ⟨by rw [HR2.out]; rfl, below_set2 B2 hgr⟩

end Go.Proofs.YtmokcoghigimjaaDoor
