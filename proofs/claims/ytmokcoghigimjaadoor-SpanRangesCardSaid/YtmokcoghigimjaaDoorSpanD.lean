/-
  CONTRACTS of package span: compared, leaves, Of.
  CONDITIONS: each theorem's own hypotheses.
-/
import Derived.Test.YtmokcoghigimjaaDoorSpanC
import Derived.Test.YtmokcoghigimjaaDoorRegT
namespace Go.Proofs.YtmokcoghigimjaaDoor
open Go.RowKit
set_option linter.unusedVariables false
set_option maxRecDepth 100000

theorem Blk.sevenG {w : World} {b : Nat} {T : TypeId} {v0 v1 v2 v3 v4 v5 v6 : Value} (h : Blk w b T [v0, v1, v2, v3, v4, v5, v6]) : w.cell? ⟨b, 0, none⟩ = some v0 ∧ w.cell? ⟨b, 1, none⟩ = some v1 ∧ w.cell? ⟨b, 2, none⟩ = some v2 ∧ w.cell? ⟨b, 3, none⟩ = some v3 ∧ w.cell? ⟨b, 4, none⟩ = some v4 ∧ w.cell? ⟨b, 5, none⟩ = some v5 ∧ w.cell? ⟨b, 6, none⟩ = some v6 :=
  ⟨h.cell (j := 0) rfl, h.cell (j := 1) rfl, h.cell (j := 2) rfl, h.cell (j := 3) rfl, h.cell (j := 4) rfl, h.cell (j := 5) rfl, h.cell (j := 6) rfl⟩
theorem Blk.sevenF {w : World} {b : Nat} {T : TypeId} {v0 v1 v2 v3 v4 v5 v6 : Value} (h : Blk w b T [v0, v1, v2, v3, v4, v5, v6]) : w.frozen? ⟨b, 0, none⟩ = false ∧ w.frozen? ⟨b, 1, none⟩ = false ∧ w.frozen? ⟨b, 2, none⟩ = false ∧ w.frozen? ⟨b, 3, none⟩ = false ∧ w.frozen? ⟨b, 4, none⟩ = false ∧ w.frozen? ⟨b, 5, none⟩ = false ∧ w.frozen? ⟨b, 6, none⟩ = false :=
  ⟨h.free 0, h.free 1, h.free 2, h.free 3, h.free 4, h.free 5, h.free 6⟩
def put7 (W : World) (g : Nat) (a0 a1 a2 a3 a4 a5 a6 : Value) : World := ((((((W.setCell ⟨g, 0, none⟩ a0).setCell ⟨g, 1, none⟩ a1).setCell ⟨g, 2, none⟩ a2).setCell ⟨g, 3, none⟩ a3).setCell ⟨g, 4, none⟩ a4).setCell ⟨g, 5, none⟩ a5).setCell ⟨g, 6, none⟩ a6
theorem Blk.put7 {W : World} {g : Nat} {T : TypeId} {a0 a1 a2 a3 a4 a5 a6 b0 b1 b2 b3 b4 b5 b6 : Value} (h : Blk W g T [b0, b1, b2, b3, b4, b5, b6]) : Blk (Go.Proofs.YtmokcoghigimjaaDoor.put7 W g a0 a1 a2 a3 a4 a5 a6) g T [a0, a1, a2, a3, a4, a5, a6] := ((((((h.set 0 a0).set 1 a1).set 2 a2).set 3 a3).set 4 a4).set 5 a5).set 6 a6
theorem Blk.far7 {W : World} {g q : Nat} {T : TypeId} {cs : List Value} {a0 a1 a2 a3 a4 a5 a6 : Value} (h : Blk W q T cs) (hne : q ≠ g) : Blk (Go.Proofs.YtmokcoghigimjaaDoor.put7 W g a0 a1 a2 a3 a4 a5 a6) q T cs :=
  ((((((h.other ⟨g, 0, none⟩ a0 hne).other ⟨g, 1, none⟩ a1 hne).other ⟨g, 2, none⟩ a2 hne).other ⟨g, 3, none⟩ a3 hne).other ⟨g, 4, none⟩ a4 hne).other ⟨g, 5, none⟩ a5 hne).other ⟨g, 6, none⟩ a6 hne
theorem below_put7 {B : Nat} {w W : World} {g : Nat} {a0 a1 a2 a3 a4 a5 a6 : Value} (h : Below B w W) (hg : B ≤ g) : Below B w (put7 W g a0 a1 a2 a3 a4 a5 a6) :=
  ((((((h.setCell (p := ⟨g, 0, none⟩) hg a0).setCell (p := ⟨g, 1, none⟩) hg a1).setCell (p := ⟨g, 2, none⟩) hg a2).setCell (p := ⟨g, 3, none⟩) hg a3).setCell (p := ⟨g, 4, none⟩) hg a4).setCell (p := ⟨g, 5, none⟩) hg a5).setCell (p := ⟨g, 6, none⟩) hg a6
theorem far_put7 (W : World) (g : Nat) (a0 a1 a2 a3 a4 a5 a6 : Value) : ∀ b, b ≠ g → b < W.heap.size → (put7 W g a0 a1 a2 a3 a4 a5 a6).heap[b]? = W.heap[b]? := fun b hb _ => by
  unfold put7
  rw [heap_setCell_other _ _ b _ hb, heap_setCell_other _ _ b _ hb, heap_setCell_other _ _ b _ hb, heap_setCell_other _ _ b _ hb, heap_setCell_other _ _ b _ hb, heap_setCell_other _ _ b _ hb, heap_setCell_other _ _ b _ hb]
/-- Two parts, read ahead of two new things. -/
def PairF (gx a2 o2 cap : Nat) (A B : Value) : Nat → Value → Prop
  | 0, v => v = .pointer (some ⟨gx, 6, none⟩)
  | 1, v => v = .slice (some ⟨a2, o2, none⟩) 2 cap
  | 2, v => v = .pointer (some ⟨a2, o2, none⟩)
  | 3, v => v = A
  | 4, v => v = .pointer (some ⟨gx, 6, none⟩)
  | 5, v => v = .slice (some ⟨a2, o2, none⟩) 2 cap
  | 6, v => v = .pointer (some ⟨a2, o2 + 7, none⟩)
  | 7, v => v = B
  | _, _ => True
def zero7 : List Value := [.int .i64 0, .int .i64 0, .int .i64 0, .int .u64 0, .string ⟨#[]⟩, .string ⟨#[]⟩, .slice none 0 0]
set_option maxHeartbeats 16000000 in
theorem span_compared_any (d : Nd) (u v : T) (ao : Option Addr) (cap : Nat) (n : List UInt8) (w : World) (ho : 9 ≤ d.op ∧ d.op ≤ 14) (fu : formT u = 0) (fv : formT v = 0) (hA : AtT w (.mk d [u, v]) ao) :
    Calls Tryd.prog 14 #[exprV (.mk d [u, v]) ao cap, .string (str n)] w fun e w' => e = .returned (rgV (cmpG d.op u v n)) ∧ Below w.heap.size w w' := by
  simp only [AtT] at hA
  have hA := hA.2
  obtain ⟨a, o, rfl, ha, hnode⟩ := AtL.at hA 0 u rfl
  obtain ⟨a2, o2, e2, _, hnode2⟩ := AtL.at hA 1 v rfl
  obtain ⟨rfl, rfl⟩ : a2 = a ∧ o2 = o := by simp at e2; exact ⟨e2.1.symm, e2.2.symm⟩
  rw [Nat.zero_add] at hnode hnode2
  obtain ⟨ao', cap', n1, n2, nA, z0, z1, z2, z3, z4, z5, z6⟩ := hnode.cells
  obtain ⟨ao3, cap3, m1, m2, mA, x0, x1, x2, x3, x4, x5, x6⟩ := hnode2.cells
  have gu := atT_fit u.deep u ao' (Nat.le_refl _) nA
  have gv := atT_fit v.deep v ao3 (Nat.le_refl _) mA
  have cNv := fun W (hW : Below w.heap.size w W) => span_number_any v ao3 cap3 W (mA.keep hW) fv
  have cNu := fun W (hW : Below w.heap.size w W) => span_number_any u ao' cap' W (nA.keep hW) fu
  have cIu := fun W => span_isColumn_any u ao' cap' n W
  have cIv := fun W => span_isColumn_any v ao3 cap3 n W
  have cH1 := fun W => span_holding_any d.op (numG v).1 (numG_rng v fv gv) W
  have cH2 := fun W => span_holding_any (turnO d.op) (numG u).1 (numG_rng u fu gu) W
  have cT := fun W => span_turned_any d.op W
  have cA := fun W => span_all_any W
  have hR : cmpG d.op u v n = if ((numG v).2 && isCol u n) = true then holdG d.op (numG v).1 else if ((numG u).2 && isCol v n) = true then holdG (turnO d.op) (numG u).1 else allG := rfl
  simp only [exprV_cells] at cNv cNu cIu cIv
  generalize cmpG d.op u v n = R at *
  have HR := Lib.hid hR
  clear hR gu gv fu fv nA mA
  generalize (numG u).1 = nu at *
  generalize (numG u).2 = ku at *
  generalize (numG v).1 = nv at *
  generalize (numG v).2 = kv at *
  generalize isCol u n = cu at *
  generalize isCol v n = cv at *
  generalize holdG d.op nv = R1 at *
  generalize turnO d.op = tp at *
  generalize holdG tp nu = R2 at *
  generalize allG = R3 at *
  unfold rgV at *
  rw [exprV_cells]
  simp only [T.nd, T.kids, List.length_cons, List.length_nil]
  obtain ⟨op, k, i, b, s, nm⟩ := d
  generalize u.kids.length = L at *
  generalize v.kids.length = M at *
  obtain ⟨⟨op', k', i', b', s', nm'⟩, l'⟩ := u
  obtain ⟨⟨op3, k3, i3, b3, s3, nm3⟩, l3⟩ := v
  simp only [T.nd] at *
  generalize str s = S at *
  generalize str nm = N at *
  generalize str s' = S' at *
  generalize str nm' = N' at *
  generalize str s3 = S3 at *
  generalize str nm3 = N3 at *
  have hz := (Blk.new w #[.int .i64 op, .int .i64 k, .int .i64 i, .int .u64 b, .string S, .string N, .slice (some ⟨a2, o2, none⟩) 2 cap] 27).alloc (.cells #[.int .i64 0, .int .i64 0] 29)
  have hy := Blk.new (w.alloc (.cells #[.int .i64 op, .int .i64 k, .int .i64 i, .int .u64 b, .string S, .string N, .slice (some ⟨a2, o2, none⟩) 2 cap] 27)) #[.int .i64 0, .int .i64 0] 29
  have hb := ((Below.refl w.heap.size w).alloc (Nat.le_refl _) (.cells #[.int .i64 op, .int .i64 k, .int .i64 i, .int .u64 b, .string S, .string N, .slice (some ⟨a2, o2, none⟩) 2 cap] 27)).alloc (by simp) (.cells #[.int .i64 0, .int .i64 0] 29)
  have hgr : w.heap.size ≤ w.heap.size + 1 := by omega
  have hys : (w.alloc (.cells #[.int .i64 op, .int .i64 k, .int .i64 i, .int .u64 b, .string S, .string N, .slice (some ⟨a2, o2, none⟩) 2 cap] 27)).heap.size = w.heap.size + 1 := by simp
  rw [hys] at hy
  obtain ⟨w1, hw1⟩ : ∃ w1, (w.alloc (.cells #[.int .i64 op, .int .i64 k, .int .i64 i, .int .u64 b, .string S, .string N, .slice (some ⟨a2, o2, none⟩) 2 cap] 27)).alloc (.cells #[.int .i64 0, .int .i64 0] 29) = w1 := ⟨_, rfl⟩
  rw [hw1] at hz hy hb
  have d0 := (hb.cell (p := ⟨a2, o2 + 0 * 7, none⟩) ha).trans z0
  have d1 := (hb.cell (p := ⟨a2, o2 + 0 * 7 + 1, none⟩) ha).trans z1
  have d2 := (hb.cell (p := ⟨a2, o2 + 0 * 7 + 2, none⟩) ha).trans z2
  have d3 := (hb.cell (p := ⟨a2, o2 + 0 * 7 + 3, none⟩) ha).trans z3
  have d4 := (hb.cell (p := ⟨a2, o2 + 0 * 7 + 4, none⟩) ha).trans z4
  have d5 := (hb.cell (p := ⟨a2, o2 + 0 * 7 + 5, none⟩) ha).trans z5
  have d6 := (hb.cell (p := ⟨a2, o2 + 0 * 7 + 6, none⟩) ha).trans z6
  have g0 := (hb.cell (p := ⟨a2, o2 + 1 * 7, none⟩) ha).trans x0
  have g1 := (hb.cell (p := ⟨a2, o2 + 1 * 7 + 1, none⟩) ha).trans x1
  have g2 := (hb.cell (p := ⟨a2, o2 + 1 * 7 + 2, none⟩) ha).trans x2
  have g3 := (hb.cell (p := ⟨a2, o2 + 1 * 7 + 3, none⟩) ha).trans x3
  have g4 := (hb.cell (p := ⟨a2, o2 + 1 * 7 + 4, none⟩) ha).trans x4
  have g5 := (hb.cell (p := ⟨a2, o2 + 1 * 7 + 5, none⟩) ha).trans x5
  have g6 := (hb.cell (p := ⟨a2, o2 + 1 * 7 + 6, none⟩) ha).trans x6
  simp only [Nat.zero_mul, Nat.add_zero] at d0 d1 d2 d3 d4 d5 d6
  simp only [Nat.one_mul] at g0 g1 g2 g3 g4 g5 g6
  have ha1 : a2 < w1.heap.size := Nat.lt_of_lt_of_le ha hb.size
  have p0 := hz.cell (j := 0) rfl
  have p6 := hz.cell (j := 6) rfl
  clear z0 z1 z2 z3 z4 z5 z6 x0 x1 x2 x3 x4 x5 x6 hA hnode hnode2 hys
  generalize str n = NM at *
  clear ho ha e2
  go_enter Tryd.func14, Tryd.ntmps14
  go_upto_region 1 with fail
  try rw [hw1]
  clear hw1
  refine wp_region_two 11 8 9 10 (by kernel_rfl) (by kernel_rfl) (by kernel_rfl) 27 zero7 [.int .i64 op', .int .i64 k', .int .i64 i', .int .u64 b', .string S', .string N', .slice ao' L cap'] (PairF w.heap.size a2 o2 cap (.agg #[.int .i64 op', .int .i64 k', .int .i64 i', .int .u64 b', .string S', .string N', .slice ao' L cap']) (.agg #[.int .i64 op3, .int .i64 k3, .int .i64 i3, .int .u64 b3, .string S3, .string N3, .slice ao3 M cap3])) ?hstep ?hp ?hq ?hdone
  case hstep =>
    intro j hj hnp hnr hnq vs W K hst hf hK
    simp only [fillF, Act.put, List.take_succ_cons, List.take_zero, List.setIfInBounds_toArray, List.set_cons_zero, List.set_cons_succ] at hK ⊢
    rcases (show j = 0 ∨ j = 1 ∨ j = 2 ∨ j = 3 ∨ j = 4 ∨ j = 5 ∨ j = 6 ∨ j = 7 ∨ j = 8 ∨ j = 9 ∨ j = 10 by omega) with rfl | rfl | rfl | rfl | rfl | rfl | rfl | rfl | rfl | rfl | rfl
    · refine wpOp_step rfl (fun K' hK' => ?_)
      go_simp
      exact hK' _ _ (hK _ _ rfl (Below.refl _ _))
    · have e0 : vs 0 = .pointer (some ⟨w.heap.size, 6, none⟩) := hf 0 (by decide) (by decide) (by decide) (by decide) (by kernel_rfl)
      simp only [e0] at hK ⊢
      have q6 := (hz.call hst).cell (j := 6) rfl
      refine wpOp_step rfl (fun K' hK' => ?_)
      go_simp
      exact hK' _ _ (hK _ _ rfl (Below.refl _ _))
    · have e1 : vs 1 = .slice (some ⟨a2, o2, none⟩) 2 cap := hf 1 (by decide) (by decide) (by decide) (by decide) (by kernel_rfl)
      simp only [e1] at hK ⊢
      refine wpOp_step rfl (fun K' hK' => ?_)
      go_simp
      exact hK' _ _ (hK _ _ rfl (Below.refl _ _))
    · have e2 : vs 2 = .pointer (some ⟨a2, o2, none⟩) := hf 2 (by decide) (by decide) (by decide) (by decide) (by kernel_rfl)
      simp only [e2] at hK ⊢
      have q0 := (hst.cell (p := ⟨a2, o2, none⟩) ha1).trans d0
      have q1 := (hst.cell (p := ⟨a2, o2 + 1, none⟩) ha1).trans d1
      have q2 := (hst.cell (p := ⟨a2, o2 + 2, none⟩) ha1).trans d2
      have q3 := (hst.cell (p := ⟨a2, o2 + 3, none⟩) ha1).trans d3
      have q4 := (hst.cell (p := ⟨a2, o2 + 4, none⟩) ha1).trans d4
      have q5 := (hst.cell (p := ⟨a2, o2 + 5, none⟩) ha1).trans d5
      have q6 := (hst.cell (p := ⟨a2, o2 + 6, none⟩) ha1).trans d6
      refine wpOp_step rfl (fun K' hK' => ?_)
      go_simp
      exact hK' _ _ (hK _ _ rfl (Below.refl _ _))
    · refine wpOp_step rfl (fun K' hK' => ?_)
      go_simp
      exact hK' _ _ (hK _ _ rfl (Below.refl _ _))
    · have e4 : vs 4 = .pointer (some ⟨w.heap.size, 6, none⟩) := hf 4 (by decide) (by decide) (by decide) (by decide) (by kernel_rfl)
      simp only [e4] at hK ⊢
      have q6 := (hz.call hst).cell (j := 6) rfl
      refine wpOp_step rfl (fun K' hK' => ?_)
      go_simp
      exact hK' _ _ (hK _ _ rfl (Below.refl _ _))
    · have e5 : vs 5 = .slice (some ⟨a2, o2, none⟩) 2 cap := hf 5 (by decide) (by decide) (by decide) (by decide) (by kernel_rfl)
      simp only [e5] at hK ⊢
      refine wpOp_step rfl (fun K' hK' => ?_)
      go_simp
      exact hK' _ _ (hK _ _ rfl (Below.refl _ _))
    · have e6 : vs 6 = .pointer (some ⟨a2, o2 + 7, none⟩) := hf 6 (by decide) (by decide) (by decide) (by decide) (by kernel_rfl)
      simp only [e6] at hK ⊢
      have q0 := (hst.cell (p := ⟨a2, o2 + 7, none⟩) ha1).trans g0
      have q1 := (hst.cell (p := ⟨a2, o2 + 7 + 1, none⟩) ha1).trans g1
      have q2 := (hst.cell (p := ⟨a2, o2 + 7 + 2, none⟩) ha1).trans g2
      have q3 := (hst.cell (p := ⟨a2, o2 + 7 + 3, none⟩) ha1).trans g3
      have q4 := (hst.cell (p := ⟨a2, o2 + 7 + 4, none⟩) ha1).trans g4
      have q5 := (hst.cell (p := ⟨a2, o2 + 7 + 5, none⟩) ha1).trans g5
      have q6 := (hst.cell (p := ⟨a2, o2 + 7 + 6, none⟩) ha1).trans g6
      refine wpOp_step rfl (fun K' hK' => ?_)
      go_simp
      exact hK' _ _ (hK _ _ rfl (Below.refl _ _))
    · exact (hnp rfl).elim
    · exact (hnr rfl).elim
    · exact (hnq rfl).elim
  case hp =>
    intro i hi vs W K hK
    rcases hi with rfl | rfl
    · simp only [fillF, Act.put, List.take_succ_cons, List.take_zero, List.setIfInBounds_toArray, List.set_cons_zero, List.set_cons_succ] at hK ⊢
      refine wpOp_step rfl (fun K' hK' => ?_)
      go_simp
      exact hK' _ _ hK
    · simp only [fillF, Act.put, List.take_succ_cons, List.take_zero, List.setIfInBounds_toArray, List.set_cons_zero, List.set_cons_succ] at hK ⊢
      refine wpOp_step rfl (fun K' hK' => ?_)
      go_simp
      exact hK' _ _ hK
  case hq =>
    intro vs W K k5 hst e8 hk hzb hf hK
    have e3 : vs 3 = .agg #[.int .i64 op', .int .i64 k', .int .i64 i', .int .u64 b', .string S', .string N', .slice ao' L cap'] := hf 3 (by decide) (by decide) (by decide) (by decide) (by kernel_rfl)
    simp only [fillF, Act.put, List.take_succ_cons, List.take_zero, List.setIfInBounds_toArray, List.set_cons_zero, List.set_cons_succ, e3, e8] at hK ⊢
    obtain ⟨j0, j1, j2, j3, j4, j5, j6⟩ := Blk.sevenF (show Blk W k5 _ [_, _, _, _, _, _, _] from hzb)
    obtain ⟨r0, r1, r2, r3, r4, r5, r6⟩ := Blk.sevenG (show Blk W k5 _ [_, _, _, _, _, _, _] from hzb)
    have HY := Lib.hid (Blk.put7 (a0 := .int .i64 op') (a1 := .int .i64 k') (a2 := .int .i64 i') (a3 := .int .u64 b') (a4 := .string S') (a5 := .string N') (a6 := .slice ao' L cap') (show Blk W k5 _ [_, _, _, _, _, _, _] from hzb))
    have HB5 := Lib.hid (below_put7 (a0 := .int .i64 op') (a1 := .int .i64 k') (a2 := .int .i64 i') (a3 := .int .u64 b') (a4 := .string S') (a5 := .string N') (a6 := .slice ao' L cap') hst (Nat.le_trans (Nat.le_refl _) hk))
    have HF5 := Lib.hid (far_put7 W k5 (.int .i64 op') (.int .i64 k') (.int .i64 i') (.int .u64 b') (.string S') (.string N') (.slice ao' L cap'))
    clear hzb
    refine wpOp_step rfl (fun K' hK' => ?_)
    go_simp
    exact hK' _ _ (hK undef _ HY.out HB5.out HF5.out)
  intro vs W3 g5 g9 hst e8 hk5 hz5 e9 hk9 hz9 hne hf
  have e7 : vs 7 = .agg #[.int .i64 op3, .int .i64 k3, .int .i64 i3, .int .u64 b3, .string S3, .string N3, .slice ao3 M cap3] := hf 7 (by decide) (by decide) (by decide) (by decide)
  simp only [fillF, Act.put, List.take_succ_cons, List.take_zero, List.drop_succ_cons, List.drop_zero, List.setIfInBounds_toArray, List.set_cons_zero, List.set_cons_succ, e7, e8, e9]
  have hs1 := hb.size
  have hz3 := hz.call hst
  have hy3 := hy.call hst
  have hb3 := below_stepG hb hb.size hst
  have hg5 : w.heap.size ≤ g5 := by omega
  have hg9 : w.heap.size ≤ g9 := by omega
  have hlt := hy.lt
  have hlz := hz.lt
  have Q5 := Blk.put7 (a0 := .int .i64 op3) (a1 := .int .i64 k3) (a2 := .int .i64 i3) (a3 := .int .u64 b3) (a4 := .string S3) (a5 := .string N3) (a6 := .slice ao3 M cap3) (show Blk W3 g9 _ [_, _, _, _, _, _, _] from hz9)
  have Y5 := hz5.far7 (g := g9) (a0 := .int .i64 op3) (a1 := .int .i64 k3) (a2 := .int .i64 i3) (a3 := .int .u64 b3) (a4 := .string S3) (a5 := .string N3) (a6 := .slice ao3 M cap3) hne
  have Z5 := hz3.far7 (g := g9) (a0 := .int .i64 op3) (a1 := .int .i64 k3) (a2 := .int .i64 i3) (a3 := .int .u64 b3) (a4 := .string S3) (a5 := .string N3) (a6 := .slice ao3 M cap3) (by omega)
  have X5 := hy3.far7 (g := g9) (a0 := .int .i64 op3) (a1 := .int .i64 k3) (a2 := .int .i64 i3) (a3 := .int .u64 b3) (a4 := .string S3) (a5 := .string N3) (a6 := .slice ao3 M cap3) (by omega)
  have B5 := below_put7 (a0 := .int .i64 op3) (a1 := .int .i64 k3) (a2 := .int .i64 i3) (a3 := .int .u64 b3) (a4 := .string S3) (a5 := .string N3) (a6 := .slice ao3 M cap3) hb3 hg9
  obtain ⟨j0, j1, j2, j3, j4, j5, j6⟩ := Blk.sevenF (show Blk W3 g9 _ [_, _, _, _, _, _, _] from hz9)
  obtain ⟨r0, r1, r2, r3, r4, r5, r6⟩ := Blk.sevenG (show Blk W3 g9 _ [_, _, _, _, _, _, _] from hz9)
  obtain ⟨W5, hW5⟩ : ∃ W5, put7 W3 g9 (.int .i64 op3) (.int .i64 k3) (.int .i64 i3) (.int .u64 b3) (.string S3) (.string N3) (.slice ao3 M cap3) = W5 := ⟨_, rfl⟩
  rw [hW5] at Y5 Q5 Z5 X5 B5
  have HH := Lib.hid hW5
  have HX := Lib.hid (And.intro Y5 (And.intro Q5 (And.intro Z5 (And.intro X5 B5))))
  clear hW5 Y5 Q5 Z5 X5 B5 hf hz3 hy3 hb3 hz hy hb hst d0 d1 d2 d3 d4 d5 d6 g0 g1 g2 g3 g4 g6 p0 p6 ha1 hlt hlz hs1 hz5 hz9 e7 e8 e9 hk5 hk9
  generalize vs 0 = x0
  generalize vs 1 = x1
  generalize vs 2 = x2
  generalize vs 3 = x3
  generalize vs 4 = x4
  generalize vs 5 = x5
  generalize vs 6 = x6
  go_upto_region 2 with fail
  have hh := HH.out
  unfold put7 at hh
  try rw [hh]
  clear hh HH j0 j1 j2 j3 j4 j5 j6 r0 r1 r2 r3 r4 r5 r6
  obtain ⟨Y5, Q5, Z5, X5, B5⟩ := HX.out
  clear HX
  obtain ⟨r0, r1, r2, r3, r4, r5, r6⟩ := Q5.sevenG
  go_wp2_with fail
  refine (cNv _ B5).mono ?_
  rintro e W6 ⟨rfl, hb6⟩
  have B6 := below_stepG B5 B5.size hb6
  have Y6 := Y5.call hb6
  have Q6 := Q5.call hb6
  have Z6 := Z5.call hb6
  have X6 := X5.call hb6
  clear cNv hb6 B5 Y5 Q5 Z5 X5 r0 r1 r2 r3 r4 r5 r6
  cases kv
  · obtain ⟨r0, r1, r2, r3, r4, r5, r6⟩ := Y6.sevenG
    go_wp2_with fail
    refine (cNu _ B6).mono ?_
    rintro e W9 ⟨rfl, hb9⟩
    have B9 := below_stepG B6 B6.size hb9
    have Q9 := Q6.call hb9
    have Z9 := Z6.call hb9
    have X9 := X6.call hb9
    clear cNu hb9 B6 Y6 Q6 Z6 X6 r0 r1 r2 r3 r4 r5 r6
    cases ku
    · go_wp2_with fail
      refine (cA _).mono ?_
      rintro e Wa ⟨rfl, hba⟩
      have Ba := below_stepG B9 B9.size hba
      have Xa := X9.call hba
      clear hba B9 Q9 Z9 X9
      obtain ⟨⟨t1, t2⟩, f1, f2⟩ := Xa.two
      go_wp2_with fail
      exact bodyPost_ret (results_rg rfl _ _ (w.heap.size + 1) _ _ rfl Xa.set2) rfl ⟨by rw [HR.out]; rfl, below_set2 Ba hgr⟩
    · obtain ⟨r0, r1, r2, r3, r4, r5, r6⟩ := Q9.sevenG
      go_wp2_with fail
      refine (cIv _).mono ?_
      rintro e Wa ⟨rfl, hba⟩
      have Ba := below_stepG B9 B9.size hba
      have Za := Z9.call hba
      have Xa := X9.call hba
      clear cIv hba B9 Q9 Z9 X9 r0 r1 r2 r3 r4 r5 r6
      cases cv
      · go_wp2_with fail
        refine (cA _).mono ?_
        rintro e Wb ⟨rfl, hbb⟩
        have Bb := below_stepG Ba Ba.size hbb
        have Xb := Xa.call hbb
        clear hbb Ba Za Xa
        obtain ⟨⟨t1, t2⟩, f1, f2⟩ := Xb.two
        go_wp2_with fail
        exact bodyPost_ret (results_rg rfl _ _ (w.heap.size + 1) _ _ rfl Xb.set2) rfl ⟨by rw [HR.out]; rfl, below_set2 Bb hgr⟩
      · have t0 := Za.cell (j := 0) rfl
        go_wp2_with fail
        refine (cT _).mono ?_
        rintro e Wb ⟨rfl, hwb⟩
        subst hwb
        go_wp2_with fail
        refine (cH2 _).mono ?_
        rintro e Wc ⟨rfl, hbc⟩
        have Bc := below_stepG Ba Ba.size hbc
        have Xc := Xa.call hbc
        clear hbc Ba Za Xa t0
        obtain ⟨⟨t1, t2⟩, f1, f2⟩ := Xc.two
        go_wp2_with fail
        exact bodyPost_ret (results_rg rfl _ _ (w.heap.size + 1) _ _ rfl Xc.set2) rfl ⟨by rw [HR.out]; rfl, below_set2 Bc hgr⟩
  · obtain ⟨r0, r1, r2, r3, r4, r5, r6⟩ := Y6.sevenG
    go_wp2_with fail
    refine (cIu _).mono ?_
    rintro e W7 ⟨rfl, hb7⟩
    have B7 := below_stepG B6 B6.size hb7
    have Y7 := Y6.call hb7
    have Q7 := Q6.call hb7
    have Z7 := Z6.call hb7
    have X7 := X6.call hb7
    clear cIu hb7 B6 Y6 Q6 Z6 X6 r0 r1 r2 r3 r4 r5 r6
    cases cu
    · obtain ⟨r0, r1, r2, r3, r4, r5, r6⟩ := Y7.sevenG
      go_wp2_with fail
      refine (cNu _ B7).mono ?_
      rintro e W9 ⟨rfl, hb9⟩
      have B9 := below_stepG B7 B7.size hb9
      have Q9 := Q7.call hb9
      have Z9 := Z7.call hb9
      have X9 := X7.call hb9
      clear cNu hb9 B7 Y7 Q7 Z7 X7 r0 r1 r2 r3 r4 r5 r6
      cases ku
      · go_wp2_with fail
        refine (cA _).mono ?_
        rintro e Wa ⟨rfl, hba⟩
        have Ba := below_stepG B9 B9.size hba
        have Xa := X9.call hba
        clear hba B9 Q9 Z9 X9
        obtain ⟨⟨t1, t2⟩, f1, f2⟩ := Xa.two
        go_wp2_with fail
        exact bodyPost_ret (results_rg rfl _ _ (w.heap.size + 1) _ _ rfl Xa.set2) rfl ⟨by rw [HR.out]; rfl, below_set2 Ba hgr⟩
      · obtain ⟨r0, r1, r2, r3, r4, r5, r6⟩ := Q9.sevenG
        go_wp2_with fail
        refine (cIv _).mono ?_
        rintro e Wa ⟨rfl, hba⟩
        have Ba := below_stepG B9 B9.size hba
        have Za := Z9.call hba
        have Xa := X9.call hba
        clear cIv hba B9 Q9 Z9 X9 r0 r1 r2 r3 r4 r5 r6
        cases cv
        · go_wp2_with fail
          refine (cA _).mono ?_
          rintro e Wb ⟨rfl, hbb⟩
          have Bb := below_stepG Ba Ba.size hbb
          have Xb := Xa.call hbb
          clear hbb Ba Za Xa
          obtain ⟨⟨t1, t2⟩, f1, f2⟩ := Xb.two
          go_wp2_with fail
          exact bodyPost_ret (results_rg rfl _ _ (w.heap.size + 1) _ _ rfl Xb.set2) rfl ⟨by rw [HR.out]; rfl, below_set2 Bb hgr⟩
        · have t0 := Za.cell (j := 0) rfl
          go_wp2_with fail
          refine (cT _).mono ?_
          rintro e Wb ⟨rfl, hwb⟩
          subst hwb
          go_wp2_with fail
          refine (cH2 _).mono ?_
          rintro e Wc ⟨rfl, hbc⟩
          have Bc := below_stepG Ba Ba.size hbc
          have Xc := Xa.call hbc
          clear hbc Ba Za Xa t0
          obtain ⟨⟨t1, t2⟩, f1, f2⟩ := Xc.two
          go_wp2_with fail
          exact bodyPost_ret (results_rg rfl _ _ (w.heap.size + 1) _ _ rfl Xc.set2) rfl ⟨by rw [HR.out]; rfl, below_set2 Bc hgr⟩
    · have t0 := Z7.cell (j := 0) rfl
      go_wp2_with fail
      refine (cH1 _).mono ?_
      rintro e W8 ⟨rfl, hb8⟩
      have B8 := below_stepG B7 B7.size hb8
      have X8 := X7.call hb8
      clear hb8 B7 Y7 Q7 Z7 X7 t0
      obtain ⟨⟨t1, t2⟩, f1, f2⟩ := X8.two
      go_wp2_with fail
      exact bodyPost_ret (results_rg rfl _ _ (w.heap.size + 1) _ _ rfl X8.set2) rfl ⟨by rw [HR.out]; rfl, below_set2 B8 hgr⟩
end Go.Proofs.YtmokcoghigimjaaDoor
