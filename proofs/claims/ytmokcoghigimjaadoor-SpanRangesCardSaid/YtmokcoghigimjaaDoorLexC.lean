/-
  CONTRACTS of package lex's goodContent at the other kinds, and of Check.
  CONDITIONS: each theorem's own hypotheses; package lex's signs hold what their initialiser lays ('SW'), unicode/utf8's two tables, too ('Tabs').
-/
import Derived.Test.YtmokcoghigimjaaDoorLexB
namespace Go.Proofs.YtmokcoghigimjaaDoor
open Go.RowKit
set_option linter.unusedVariables false
set_option maxRecDepth 100000

set_option maxHeartbeats 4000000 in
theorem good_word (i b : Int) (l : List UInt8) (w : World) (hl : l.length ≤ 9223372036854775807) :
    Calls Tryd.prog 38 #[.agg #[.int .i64 2, .string (str l), .int .i64 i, .int .u64 b]] w fun e w' => e = .returned (.bool (wordB l)) ∧ Below w.heap.size w w' := by
  obtain ⟨w2, hw2⟩ : ∃ w2, w.alloc (.cells #[.int .i64 2, .string (str l), .int .i64 i, .int .u64 b] 54) = w2 := ⟨_, rfl⟩
  obtain ⟨hb2, hq0, hq1⟩ := hq_of hw2
  cases l with
  | nil =>
    have he : (str []).toList.isEmpty = true := by rw [str_toList]; rfl
    have he2 : (str []).toList = [] := by rw [str_toList]
    have HN : Hid (wordB [] = false) := by show _ = _; decide
    generalize str [] = s at *
    go_enter Tryd.func38, Tryd.ntmps38
    go_upto_region 1 with fail
    try rw [hw2]
    clear hw2
    have p0 := hq0 w2 (Below.refl _ _)
    go_upto_region 5 with fail
    clear p0
    refine wp_region_det 11 (by kernel_rfl) (by kernel_rfl) (by kernel_rfl) ?_
    simp only [List.take_succ_cons, List.take_zero, List.drop_succ_cons, List.drop_zero]
    iterate 2 (apply wpDet_plain _ rfl; (focus (intro W hW; have q0 := hq0 W hW; have q1 := hq1 W hW; go_simp; (first | exact ⟨rfl, Below.refl _ _⟩ | exact Below.refl _ _ | exact ⟨by simp [*], Below.refl _ _⟩))); simp only [Act.put, List.setIfInBounds_toArray, List.set_cons_zero, List.set_cons_succ])
    apply wpDet_plain (.bool false) rfl; (focus (intro W hW; have q0 := hq0 W hW; have q1 := hq1 W hW; go_simp; (first | exact ⟨rfl, Below.refl _ _⟩ | exact Below.refl _ _ | exact ⟨by simp [*], Below.refl _ _⟩))); simp only [Act.put, List.setIfInBounds_toArray, List.set_cons_zero, List.set_cons_succ]
    apply wpDet_plain (.bool false) rfl; (focus (intro W hW; have q0 := hq0 W hW; have q1 := hq1 W hW; go_simp; (first | exact ⟨rfl, Below.refl _ _⟩ | exact Below.refl _ _ | exact ⟨by simp [*], Below.refl _ _⟩))); simp only [Act.put, List.setIfInBounds_toArray, List.set_cons_zero, List.set_cons_succ]
    iterate 6 (refine wpDet_skip (by kernel_rfl) ?_; simp only [Act.put, List.setIfInBounds_toArray, List.set_cons_zero, List.set_cons_succ])
    apply wpDet_plain (.bool false) rfl; (focus (intro W hW; have q0 := hq0 W hW; have q1 := hq1 W hW; go_simp; (first | exact ⟨rfl, Below.refl _ _⟩ | exact Below.refl _ _ | exact ⟨by simp [*], Below.refl _ _⟩))); simp only [Act.put, List.setIfInBounds_toArray, List.set_cons_zero, List.set_cons_succ]
    refine wpDet_nil ?_; intro W hW
    have hbb := below_stepL hb2 hb2.size hW
    clear hq0 hq1 hb2 hW
    go_wp2_with fail
    go_ret
    exact ⟨by rw [HN.out]; rfl, hbb⟩
  | cons c l =>
    have cR := fun W => run_isGreat (c :: l) W hl
    have hne : (str (c :: l)).toList ≠ [] := by rw [str_toList]; simp
    have hne2 : (str (c :: l)).toList.isEmpty = false := by rw [str_toList]; rfl
    have heq : ((str ((c :: l).takeWhile isGr)).toList == (str (c :: l)).toList) = (c :: l).all isGr := by rw [str_beq, takeWhile_all]
    have hN : Hid (wordB (c :: l) = (c :: l).all isGr) := by show _ = _; rfl
    generalize str ((c :: l).takeWhile isGr) = T at *
    generalize str (c :: l) = s at *
    generalize (c :: l).all isGr = B at *
    generalize wordB (c :: l) = NB at *
    clear hl
    cases B
    · skip
      go_enter Tryd.func38, Tryd.ntmps38
      go_upto_region 1 with fail
      try rw [hw2]
      clear hw2
      have p0 := hq0 w2 (Below.refl _ _)
      go_upto_region 5 with fail
      clear p0
      refine wp_region_det 11 (by kernel_rfl) (by kernel_rfl) (by kernel_rfl) ?_
      simp only [List.take_succ_cons, List.take_zero, List.drop_succ_cons, List.drop_zero]
      iterate 2 (apply wpDet_plain _ rfl; (focus (intro W hW; have q0 := hq0 W hW; have q1 := hq1 W hW; go_simp; (first | exact ⟨rfl, Below.refl _ _⟩ | exact Below.refl _ _ | exact ⟨by simp [*], Below.refl _ _⟩))); simp only [Act.put, List.setIfInBounds_toArray, List.set_cons_zero, List.set_cons_succ])
      apply wpDet_plain (.bool true) rfl; (focus (intro W hW; have q0 := hq0 W hW; have q1 := hq1 W hW; go_simp; (first | exact ⟨rfl, Below.refl _ _⟩ | exact Below.refl _ _ | exact ⟨by simp [*], Below.refl _ _⟩))); simp only [Act.put, List.setIfInBounds_toArray, List.set_cons_zero, List.set_cons_succ]
      apply wpDet_plain (.bool true) rfl; (focus (intro W hW; have q0 := hq0 W hW; have q1 := hq1 W hW; go_simp; (first | exact ⟨rfl, Below.refl _ _⟩ | exact Below.refl _ _ | exact ⟨by simp [*], Below.refl _ _⟩))); simp only [Act.put, List.setIfInBounds_toArray, List.set_cons_zero, List.set_cons_succ]
      iterate 2 (apply wpDet_want _ (by kernel_rfl); (focus (intro W hW; have q0 := hq0 W hW; have q1 := hq1 W hW; go_simp; (first | exact ⟨rfl, Below.refl _ _⟩ | exact Below.refl _ _ | exact ⟨by simp [*], Below.refl _ _⟩))); simp only [Act.put, List.setIfInBounds_toArray, List.set_cons_zero, List.set_cons_succ])
      apply wpDet_want _ (by kernel_rfl); (focus (intro W hW; have q0 := hq0 W hW; have q1 := hq1 W hW; go_simp; exact (cR W).mono (fun e w' h => ⟨h.1, by rw [← h.2]; exact Below.refl _ _⟩))); simp only [Act.put, List.setIfInBounds_toArray, List.set_cons_zero, List.set_cons_succ]
      iterate 2 (apply wpDet_want _ (by kernel_rfl); (focus (intro W hW; have q0 := hq0 W hW; have q1 := hq1 W hW; go_simp; (first | exact ⟨rfl, Below.refl _ _⟩ | exact Below.refl _ _ | exact ⟨by simp [*], Below.refl _ _⟩))); simp only [Act.put, List.setIfInBounds_toArray, List.set_cons_zero, List.set_cons_succ])
      apply wpDet_want (.bool false) (by kernel_rfl); (focus (intro W hW; have q0 := hq0 W hW; have q1 := hq1 W hW; go_simp; (first | exact ⟨rfl, Below.refl _ _⟩ | exact Below.refl _ _ | exact ⟨by simp [*], Below.refl _ _⟩))); simp only [Act.put, List.setIfInBounds_toArray, List.set_cons_zero, List.set_cons_succ]
      apply wpDet_plain (.bool false) rfl; (focus (intro W hW; have q0 := hq0 W hW; have q1 := hq1 W hW; go_simp; (first | exact ⟨rfl, Below.refl _ _⟩ | exact Below.refl _ _ | exact ⟨by simp [*], Below.refl _ _⟩))); simp only [Act.put, List.setIfInBounds_toArray, List.set_cons_zero, List.set_cons_succ]
      refine wpDet_nil ?_; intro W hW
      have hbb := below_stepL hb2 hb2.size hW
      clear hq0 hq1 hb2 hW
      go_wp2_with fail
      go_ret
      exact ⟨by rw [hN.out]; rfl, hbb⟩
    · skip
      go_enter Tryd.func38, Tryd.ntmps38
      go_upto_region 1 with fail
      try rw [hw2]
      clear hw2
      have p0 := hq0 w2 (Below.refl _ _)
      go_upto_region 5 with fail
      clear p0
      refine wp_region_det 11 (by kernel_rfl) (by kernel_rfl) (by kernel_rfl) ?_
      simp only [List.take_succ_cons, List.take_zero, List.drop_succ_cons, List.drop_zero]
      iterate 2 (apply wpDet_plain _ rfl; (focus (intro W hW; have q0 := hq0 W hW; have q1 := hq1 W hW; go_simp; (first | exact ⟨rfl, Below.refl _ _⟩ | exact Below.refl _ _ | exact ⟨by simp [*], Below.refl _ _⟩))); simp only [Act.put, List.setIfInBounds_toArray, List.set_cons_zero, List.set_cons_succ])
      apply wpDet_plain (.bool true) rfl; (focus (intro W hW; have q0 := hq0 W hW; have q1 := hq1 W hW; go_simp; (first | exact ⟨rfl, Below.refl _ _⟩ | exact Below.refl _ _ | exact ⟨by simp [*], Below.refl _ _⟩))); simp only [Act.put, List.setIfInBounds_toArray, List.set_cons_zero, List.set_cons_succ]
      apply wpDet_plain (.bool true) rfl; (focus (intro W hW; have q0 := hq0 W hW; have q1 := hq1 W hW; go_simp; (first | exact ⟨rfl, Below.refl _ _⟩ | exact Below.refl _ _ | exact ⟨by simp [*], Below.refl _ _⟩))); simp only [Act.put, List.setIfInBounds_toArray, List.set_cons_zero, List.set_cons_succ]
      iterate 2 (apply wpDet_want _ (by kernel_rfl); (focus (intro W hW; have q0 := hq0 W hW; have q1 := hq1 W hW; go_simp; (first | exact ⟨rfl, Below.refl _ _⟩ | exact Below.refl _ _ | exact ⟨by simp [*], Below.refl _ _⟩))); simp only [Act.put, List.setIfInBounds_toArray, List.set_cons_zero, List.set_cons_succ])
      apply wpDet_want _ (by kernel_rfl); (focus (intro W hW; have q0 := hq0 W hW; have q1 := hq1 W hW; go_simp; exact (cR W).mono (fun e w' h => ⟨h.1, by rw [← h.2]; exact Below.refl _ _⟩))); simp only [Act.put, List.setIfInBounds_toArray, List.set_cons_zero, List.set_cons_succ]
      iterate 2 (apply wpDet_want _ (by kernel_rfl); (focus (intro W hW; have q0 := hq0 W hW; have q1 := hq1 W hW; go_simp; (first | exact ⟨rfl, Below.refl _ _⟩ | exact Below.refl _ _ | exact ⟨by simp [*], Below.refl _ _⟩))); simp only [Act.put, List.setIfInBounds_toArray, List.set_cons_zero, List.set_cons_succ])
      apply wpDet_want (.bool true) (by kernel_rfl); (focus (intro W hW; have q0 := hq0 W hW; have q1 := hq1 W hW; go_simp; (first | exact ⟨rfl, Below.refl _ _⟩ | exact Below.refl _ _ | exact ⟨by simp [*], Below.refl _ _⟩))); simp only [Act.put, List.setIfInBounds_toArray, List.set_cons_zero, List.set_cons_succ]
      apply wpDet_plain (.bool true) rfl; (focus (intro W hW; have q0 := hq0 W hW; have q1 := hq1 W hW; go_simp; (first | exact ⟨rfl, Below.refl _ _⟩ | exact Below.refl _ _ | exact ⟨by simp [*], Below.refl _ _⟩))); simp only [Act.put, List.setIfInBounds_toArray, List.set_cons_zero, List.set_cons_succ]
      refine wpDet_nil ?_; intro W hW
      have hbb := below_stepL hb2 hb2.size hW
      clear hq0 hq1 hb2 hW
      go_wp2_with fail
      go_ret
      exact ⟨by rw [hN.out]; rfl, hbb⟩
set_option maxHeartbeats 4000000 in
theorem good_sign (i b : Int) (l : List UInt8) (w : World) (hl : l.length ≤ 9223372036854775807) (hS : SW w) :
    Calls Tryd.prog 38 #[.agg #[.int .i64 6, .string (str l), .int .i64 i, .int .u64 b]] w fun e w' => e = .returned (.bool (signB l)) ∧ Below w.heap.size w w' := by
  obtain ⟨w2, hw2⟩ : ∃ w2, w.alloc (.cells #[.int .i64 6, .string (str l), .int .i64 i, .int .u64 b] 54) = w2 := ⟨_, rfl⟩
  obtain ⟨hb2, hq0, hq1⟩ := hq_of hw2
  cases l with
  | nil =>
    have he : (str []).toList.isEmpty = true := by rw [str_toList]; rfl
    have he2 : (str []).toList = [] := by rw [str_toList]
    have HN : Hid (signB [] = false) := by show _ = _; decide
    generalize str [] = s at *
    go_enter Tryd.func38, Tryd.ntmps38
    go_upto_region 1 with fail
    try rw [hw2]
    clear hw2
    have p0 := hq0 w2 (Below.refl _ _)
    go_upto_region 12 with fail
    clear p0
    refine wp_region_det 11 (by kernel_rfl) (by kernel_rfl) (by kernel_rfl) ?_
    simp only [List.take_succ_cons, List.take_zero, List.drop_succ_cons, List.drop_zero]
    iterate 2 (apply wpDet_plain _ rfl; (focus (intro W hW; have q0 := hq0 W hW; have q1 := hq1 W hW; go_simp; (first | exact ⟨rfl, Below.refl _ _⟩ | exact Below.refl _ _ | exact ⟨by simp [*], Below.refl _ _⟩))); simp only [Act.put, List.setIfInBounds_toArray, List.set_cons_zero, List.set_cons_succ])
    apply wpDet_plain (.bool false) rfl; (focus (intro W hW; have q0 := hq0 W hW; have q1 := hq1 W hW; go_simp; (first | exact ⟨rfl, Below.refl _ _⟩ | exact Below.refl _ _ | exact ⟨by simp [*], Below.refl _ _⟩))); simp only [Act.put, List.setIfInBounds_toArray, List.set_cons_zero, List.set_cons_succ]
    apply wpDet_plain (.bool false) rfl; (focus (intro W hW; have q0 := hq0 W hW; have q1 := hq1 W hW; go_simp; (first | exact ⟨rfl, Below.refl _ _⟩ | exact Below.refl _ _ | exact ⟨by simp [*], Below.refl _ _⟩))); simp only [Act.put, List.setIfInBounds_toArray, List.set_cons_zero, List.set_cons_succ]
    iterate 6 (refine wpDet_skip (by kernel_rfl) ?_; simp only [Act.put, List.setIfInBounds_toArray, List.set_cons_zero, List.set_cons_succ])
    apply wpDet_plain (.bool false) rfl; (focus (intro W hW; have q0 := hq0 W hW; have q1 := hq1 W hW; go_simp; (first | exact ⟨rfl, Below.refl _ _⟩ | exact Below.refl _ _ | exact ⟨by simp [*], Below.refl _ _⟩))); simp only [Act.put, List.setIfInBounds_toArray, List.set_cons_zero, List.set_cons_succ]
    refine wpDet_nil ?_; intro W hW
    have hbb := below_stepL hb2 hb2.size hW
    clear hq0 hq1 hb2 hW
    go_wp2_with fail
    go_ret
    exact ⟨by rw [HN.out]; rfl, hbb⟩
  | cons c l =>
    have cR := fun W (hW : Below w2.heap.size w2 W) => signOf_any (c :: l) W hl (hS.keep (below_stepL hb2 hb2.size hW) (Nat.le_refl _))
    have hne : (str (c :: l)).toList ≠ [] := by rw [str_toList]; simp
    have hne2 : (str (c :: l)).toList.isEmpty = false := by rw [str_toList]; rfl
    have heq : ((str (signR (c :: l))).toList == (str (c :: l)).toList) = (signR (c :: l) == c :: l) := by rw [str_beq]
    have hN : Hid (signB (c :: l) = (signR (c :: l) == c :: l)) := by show _ = _; rw [← signR_self]; rfl
    generalize str (signR (c :: l)) = T at *
    generalize str (c :: l) = s at *
    generalize (signR (c :: l) == c :: l) = B at *
    generalize signB (c :: l) = NB at *
    clear hl hS
    cases B
    · skip
      go_enter Tryd.func38, Tryd.ntmps38
      go_upto_region 1 with fail
      try rw [hw2]
      clear hw2
      have p0 := hq0 w2 (Below.refl _ _)
      go_upto_region 12 with fail
      clear p0
      refine wp_region_det 11 (by kernel_rfl) (by kernel_rfl) (by kernel_rfl) ?_
      simp only [List.take_succ_cons, List.take_zero, List.drop_succ_cons, List.drop_zero]
      iterate 2 (apply wpDet_plain _ rfl; (focus (intro W hW; have q0 := hq0 W hW; have q1 := hq1 W hW; go_simp; (first | exact ⟨rfl, Below.refl _ _⟩ | exact Below.refl _ _ | exact ⟨by simp [*], Below.refl _ _⟩))); simp only [Act.put, List.setIfInBounds_toArray, List.set_cons_zero, List.set_cons_succ])
      apply wpDet_plain (.bool true) rfl; (focus (intro W hW; have q0 := hq0 W hW; have q1 := hq1 W hW; go_simp; (first | exact ⟨rfl, Below.refl _ _⟩ | exact Below.refl _ _ | exact ⟨by simp [*], Below.refl _ _⟩))); simp only [Act.put, List.setIfInBounds_toArray, List.set_cons_zero, List.set_cons_succ]
      apply wpDet_plain (.bool true) rfl; (focus (intro W hW; have q0 := hq0 W hW; have q1 := hq1 W hW; go_simp; (first | exact ⟨rfl, Below.refl _ _⟩ | exact Below.refl _ _ | exact ⟨by simp [*], Below.refl _ _⟩))); simp only [Act.put, List.setIfInBounds_toArray, List.set_cons_zero, List.set_cons_succ]
      iterate 2 (apply wpDet_want _ (by kernel_rfl); (focus (intro W hW; have q0 := hq0 W hW; have q1 := hq1 W hW; go_simp; (first | exact ⟨rfl, Below.refl _ _⟩ | exact Below.refl _ _ | exact ⟨by simp [*], Below.refl _ _⟩))); simp only [Act.put, List.setIfInBounds_toArray, List.set_cons_zero, List.set_cons_succ])
      apply wpDet_want _ (by kernel_rfl); (focus (intro W hW; have q0 := hq0 W hW; have q1 := hq1 W hW; go_simp; exact (cR W hW).mono (fun e w' h => ⟨h.1, by rw [← h.2]; exact Below.refl _ _⟩))); simp only [Act.put, List.setIfInBounds_toArray, List.set_cons_zero, List.set_cons_succ]
      iterate 2 (apply wpDet_want _ (by kernel_rfl); (focus (intro W hW; have q0 := hq0 W hW; have q1 := hq1 W hW; go_simp; (first | exact ⟨rfl, Below.refl _ _⟩ | exact Below.refl _ _ | exact ⟨by simp [*], Below.refl _ _⟩))); simp only [Act.put, List.setIfInBounds_toArray, List.set_cons_zero, List.set_cons_succ])
      apply wpDet_want (.bool false) (by kernel_rfl); (focus (intro W hW; have q0 := hq0 W hW; have q1 := hq1 W hW; go_simp; (first | exact ⟨rfl, Below.refl _ _⟩ | exact Below.refl _ _ | exact ⟨by simp [*], Below.refl _ _⟩))); simp only [Act.put, List.setIfInBounds_toArray, List.set_cons_zero, List.set_cons_succ]
      apply wpDet_plain (.bool false) rfl; (focus (intro W hW; have q0 := hq0 W hW; have q1 := hq1 W hW; go_simp; (first | exact ⟨rfl, Below.refl _ _⟩ | exact Below.refl _ _ | exact ⟨by simp [*], Below.refl _ _⟩))); simp only [Act.put, List.setIfInBounds_toArray, List.set_cons_zero, List.set_cons_succ]
      refine wpDet_nil ?_; intro W hW
      have hbb := below_stepL hb2 hb2.size hW
      clear hq0 hq1 hb2 hW
      go_wp2_with fail
      go_ret
      exact ⟨by rw [hN.out]; rfl, hbb⟩
    · skip
      go_enter Tryd.func38, Tryd.ntmps38
      go_upto_region 1 with fail
      try rw [hw2]
      clear hw2
      have p0 := hq0 w2 (Below.refl _ _)
      go_upto_region 12 with fail
      clear p0
      refine wp_region_det 11 (by kernel_rfl) (by kernel_rfl) (by kernel_rfl) ?_
      simp only [List.take_succ_cons, List.take_zero, List.drop_succ_cons, List.drop_zero]
      iterate 2 (apply wpDet_plain _ rfl; (focus (intro W hW; have q0 := hq0 W hW; have q1 := hq1 W hW; go_simp; (first | exact ⟨rfl, Below.refl _ _⟩ | exact Below.refl _ _ | exact ⟨by simp [*], Below.refl _ _⟩))); simp only [Act.put, List.setIfInBounds_toArray, List.set_cons_zero, List.set_cons_succ])
      apply wpDet_plain (.bool true) rfl; (focus (intro W hW; have q0 := hq0 W hW; have q1 := hq1 W hW; go_simp; (first | exact ⟨rfl, Below.refl _ _⟩ | exact Below.refl _ _ | exact ⟨by simp [*], Below.refl _ _⟩))); simp only [Act.put, List.setIfInBounds_toArray, List.set_cons_zero, List.set_cons_succ]
      apply wpDet_plain (.bool true) rfl; (focus (intro W hW; have q0 := hq0 W hW; have q1 := hq1 W hW; go_simp; (first | exact ⟨rfl, Below.refl _ _⟩ | exact Below.refl _ _ | exact ⟨by simp [*], Below.refl _ _⟩))); simp only [Act.put, List.setIfInBounds_toArray, List.set_cons_zero, List.set_cons_succ]
      iterate 2 (apply wpDet_want _ (by kernel_rfl); (focus (intro W hW; have q0 := hq0 W hW; have q1 := hq1 W hW; go_simp; (first | exact ⟨rfl, Below.refl _ _⟩ | exact Below.refl _ _ | exact ⟨by simp [*], Below.refl _ _⟩))); simp only [Act.put, List.setIfInBounds_toArray, List.set_cons_zero, List.set_cons_succ])
      apply wpDet_want _ (by kernel_rfl); (focus (intro W hW; have q0 := hq0 W hW; have q1 := hq1 W hW; go_simp; exact (cR W hW).mono (fun e w' h => ⟨h.1, by rw [← h.2]; exact Below.refl _ _⟩))); simp only [Act.put, List.setIfInBounds_toArray, List.set_cons_zero, List.set_cons_succ]
      iterate 2 (apply wpDet_want _ (by kernel_rfl); (focus (intro W hW; have q0 := hq0 W hW; have q1 := hq1 W hW; go_simp; (first | exact ⟨rfl, Below.refl _ _⟩ | exact Below.refl _ _ | exact ⟨by simp [*], Below.refl _ _⟩))); simp only [Act.put, List.setIfInBounds_toArray, List.set_cons_zero, List.set_cons_succ])
      apply wpDet_want (.bool true) (by kernel_rfl); (focus (intro W hW; have q0 := hq0 W hW; have q1 := hq1 W hW; go_simp; (first | exact ⟨rfl, Below.refl _ _⟩ | exact Below.refl _ _ | exact ⟨by simp [*], Below.refl _ _⟩))); simp only [Act.put, List.setIfInBounds_toArray, List.set_cons_zero, List.set_cons_succ]
      apply wpDet_plain (.bool true) rfl; (focus (intro W hW; have q0 := hq0 W hW; have q1 := hq1 W hW; go_simp; (first | exact ⟨rfl, Below.refl _ _⟩ | exact Below.refl _ _ | exact ⟨by simp [*], Below.refl _ _⟩))); simp only [Act.put, List.setIfInBounds_toArray, List.set_cons_zero, List.set_cons_succ]
      refine wpDet_nil ?_; intro W hW
      have hbb := below_stepL hb2 hb2.size hW
      clear hq0 hq1 hb2 hW
      go_wp2_with fail
      go_ret
      exact ⟨by rw [hN.out]; rfl, hbb⟩

theorem good_num (i b : Int) (l : List UInt8) (w : World) :
    Calls Tryd.prog 38 #[.agg #[.int .i64 3, .string (str l), .int .i64 i, .int .u64 b]] w fun e w' => e = .returned (.bool (decide (0 ≤ i))) ∧ Below w.heap.size w w' := by
  generalize str l = s
  by_cases h : 0 ≤ i
  · rw [decide_eq_true h]
    go_enter Tryd.func38, Tryd.ntmps38
    go_wp2
    go_ret
    exact ⟨rfl, (Below.refl _ _).alloc (Nat.le_refl _) _⟩
  · rw [decide_eq_false h]
    go_enter Tryd.func38, Tryd.ntmps38
    go_wp2
    go_ret
    exact ⟨rfl, (Below.refl _ _).alloc (Nat.le_refl _) _⟩
theorem good_quote (i b : Int) (l : List UInt8) (w : World) (hl : l.length ≤ 40) (hT : Tabs w) :
    Calls Tryd.prog 38 #[.agg #[.int .i64 4, .string (str l), .int .i64 i, .int .u64 b]] w fun e w' => e = .returned (.bool (Lib.validD l)) ∧ Below w.heap.size w w' := by
  have hsz := str_size l
  have cM := fun o => mayBe_any 4 0 0 (str l) (w.alloc o) (by decide) (by decide) (by omega) (tabs_below hT ((Below.refl _ _).alloc (Nat.le_refl _) o))
  rw [chk_text l hl] at cM
  generalize Lib.validD l = B at *
  generalize str l = s at *
  clear hsz hT hl
  cases B
  all_goals
    go_enter Tryd.func38, Tryd.ntmps38
    go_wp2_with fail
    refine (cM _).mono ?_
    rintro e w' ⟨rfl, hb⟩
    clear cM
    go_wp2_with fail
    go_ret
    exact ⟨rfl, ((Below.refl _ _).alloc (Nat.le_refl _) _).trans (hb.mono (by simp))⟩
theorem good_hex (i b : Int) (l : List UInt8) (w : World) (h0 : 0 ≤ b) (h1 : b ≤ 18446744073709551615) (hT : Tabs w) :
    Calls Tryd.prog 38 #[.agg #[.int .i64 5, .string (str l), .int .i64 i, .int .u64 b]] w fun e w' => e = .returned (.bool (!nan b && !(b == 9223372036854775808))) ∧ Below w.heap.size w w' := by
  have cM := fun o => mayBe_any 3 0 b ⟨#[]⟩ (w.alloc o) h0 h1 (by decide) (tabs_below hT ((Below.refl _ _).alloc (Nat.le_refl _) o))
  rw [chk_real b] at cM
  generalize (!nan b && !(b == 9223372036854775808)) = B at *
  generalize str l = s at *
  clear hT h0 h1
  cases B
  all_goals
    go_enter Tryd.func38, Tryd.ntmps38
    go_wp2_with fail
    refine (cM _).mono ?_
    rintro e w' ⟨rfl, hb⟩
    clear cM
    go_wp2_with fail
    go_ret
    exact ⟨rfl, ((Below.refl _ _).alloc (Nat.le_refl _) _).trans (hb.mono (by simp))⟩
theorem goodContent_any (k i b : Int) (l : List UInt8) (w : World) (hk : k = 1 ∨ k = 2 ∨ k = 3 ∨ k = 4 ∨ k = 5 ∨ k = 6) (h0 : 0 ≤ b) (h1 : b ≤ 18446744073709551615) (hl : l.length ≤ 9223372036854775807) (hl4 : k = 4 → l.length ≤ 40) (hT : Tabs w) (hS : SW w) :
    Calls Tryd.prog 38 #[.agg #[.int .i64 k, .string (str l), .int .i64 i, .int .u64 b]] w fun e w' => e = .returned (.bool (goodT k l i b)) ∧ Below w.heap.size w w' := by
  rcases hk with rfl | rfl | rfl | rfl | rfl | rfl
  · exact good_name i b l w hl
  · exact good_word i b l w hl
  · exact good_num i b l w
  · exact good_quote i b l w (hl4 rfl) hT
  · exact good_hex i b l w h0 h1 hT
  · exact good_sign i b l w hl hS
theorem notLong {k : Int} {l : List UInt8} (h : tooL k l = false) : k = 4 → l.length ≤ 40 := by
  rintro rfl
  unfold tooL at h
  rw [if_neg (by decide), if_pos rfl] at h
  simpa using h
set_option maxHeartbeats 2000000 in
/-- ████ lex.Check. -/
theorem lexCheck_any (k i b : Int) (l : List UInt8) (w : World) (h0 : 0 ≤ b) (h1 : b ≤ 18446744073709551615) (hl : l.length ≤ 9223372036854775807) (hT : Tabs w) (hS : SW w) :
    Calls Tryd.prog 28 #[.agg #[.int .i64 k, .string (str l), .int .i64 i, .int .u64 b]] w fun e w' => e = .returned (.int .i64 (tokC k l i b)) ∧ Below w.heap.size w w' := by
  unfold tokC
  by_cases c0 : k < 1
  · rw [if_pos (Or.inl c0)]
    generalize str l = s
    go_enter Tryd.func28, Tryd.ntmps28
    go_wp2_with fail
    go_ret
    exact ⟨rfl, (Below.refl _ _).alloc (Nat.le_refl _) _⟩
  by_cases c6 : 6 < k
  · rw [if_pos (Or.inr c6)]
    generalize str l = s
    go_enter Tryd.func28, Tryd.ntmps28
    go_wp2_with fail
    go_ret
    exact ⟨rfl, (Below.refl _ _).alloc (Nat.le_refl _) _⟩
  rw [if_neg (by omega)]
  have cL := fun w => isTooLong_any k i b l w
  have cO := fun w => onlyOwn_any k i b l w
  have cG := fun (hl4 : k = 4 → l.length ≤ 40) W (hW : Below w.heap.size w W) => goodContent_any k i b l W (by omega) h0 h1 hl hl4 (tabs_below hT hW) (hS.keep hW (Nat.le_refl _))
  have hnl := notLong (k := k) (l := l)
  generalize tooL k l = L at *
  generalize ownT k l i b = O at *
  generalize goodT k l i b = G at *
  generalize str l = s at *
  obtain ⟨w2, hw2⟩ : ∃ w2, w.alloc (.cells #[.int .i64 k, .string s, .int .i64 i, .int .u64 b] 54) = w2 := ⟨_, rfl⟩
  have hb2 : Below w.heap.size w w2 := by rw [← hw2]; exact (Below.refl _ _).alloc (Nat.le_refl _) _
  have hq : ∀ W, Below w2.heap.size w2 W → W.cell? ⟨w.heap.size, 0, none⟩ = some (.int .i64 k) ∧ W.cell? ⟨w.heap.size, 1, none⟩ = some (.string s) ∧ W.cell? ⟨w.heap.size, 2, none⟩ = some (.int .i64 i) ∧ W.cell? ⟨w.heap.size, 3, none⟩ = some (.int .u64 b) := by
    subst hw2
    exact fun W hW => ⟨(hW.cell (p := ⟨w.heap.size, 0, none⟩) (by simp)).trans (by simp), (hW.cell (p := ⟨w.heap.size, 1, none⟩) (by simp)).trans (by simp), (hW.cell (p := ⟨w.heap.size, 2, none⟩) (by simp)).trans (by simp), (hW.cell (p := ⟨w.heap.size, 3, none⟩) (by simp)).trans (by simp)⟩
  have HQ := Lib.hid hq
  have CG := Lib.hid cG
  obtain ⟨p0, p1, p2, p3⟩ := hq w2 (Below.refl _ _)
  clear h0 h1 hl hT hS hq cG
  cases L with
  | true =>
    clear hnl CG cO
    go_enter Tryd.func28, Tryd.ntmps28
    go_upto_region 1 with fail
    try rw [hw2]
    clear hw2
    go_wp2_with fail
    refine (cL _).mono ?_
    rintro e w3 ⟨rfl, hb3⟩
    have hbb := below_stepL hb2 hb2.size hb3
    clear cL p0 p1 p2 p3 hb3
    go_wp2_with fail
    go_ret
    exact ⟨rfl, hbb⟩
  | false =>
    have CG2 := Lib.hid (CG.out (hnl rfl))
    clear hnl CG
    cases O with
    | false =>
      clear CG2
      go_enter Tryd.func28, Tryd.ntmps28
      go_upto_region 1 with fail
      try rw [hw2]
      clear hw2
      go_wp2_with fail
      refine (cL _).mono ?_
      rintro e w3 ⟨rfl, hb3⟩
      clear cL p0 p1 p2 p3
      obtain ⟨p0, p1, p2, p3⟩ := HQ.out w3 hb3
      go_wp2_with fail
      refine (cO _).mono ?_
      rintro e w4 ⟨rfl, hb4⟩
      have hbb := below_stepL hb2 hb2.size (below_stepL hb3 hb3.size hb4)
      clear cO p0 p1 p2 p3 hb3 hb4
      go_wp2_with fail
      go_ret
      exact ⟨rfl, hbb⟩
    | true =>
      cases G
      all_goals
        go_enter Tryd.func28, Tryd.ntmps28
        go_upto_region 1 with fail
        try rw [hw2]
        clear hw2
        go_wp2_with fail
        refine (cL _).mono ?_
        rintro e w3 ⟨rfl, hb3⟩
        clear cL p0 p1 p2 p3
        obtain ⟨p0, p1, p2, p3⟩ := HQ.out w3 hb3
        go_wp2_with fail
        refine (cO _).mono ?_
        rintro e w4 ⟨rfl, hb4⟩
        have hb24 := below_stepL hb3 hb3.size hb4
        clear cO p0 p1 p2 p3
        obtain ⟨p0, p1, p2, p3⟩ := HQ.out w4 hb24
        have hb04 := below_stepL hb2 hb2.size hb24
        go_wp2_with fail
        refine (CG2.out w4 hb04).mono ?_
        rintro e w5 ⟨rfl, hb5⟩
        have hbb := below_stepL hb04 hb04.size hb5
        clear CG2 p0 p1 p2 p3 hb3 hb4
        go_wp2_with fail
        go_ret
        exact ⟨rfl, hbb⟩
end Go.Proofs.YtmokcoghigimjaaDoor
