/-
  CONTRACTS of the reference's TokenFault at the other kinds, and whole.
  CONDITIONS: each theorem's own hypotheses; unicode/utf8's two tables hold what their initialisers lay ('Tabs').
-/
import Derived.Test.YtlhoakpijfhljaaDoorLexD
namespace Go.Proofs.YtlhoakpijfhljaaDoor
open Go.RowKit
set_option linter.unusedVariables false
set_option maxRecDepth 100000

theorem tokC_2 (l : List UInt8) (i b : Int) : tokC 2 l i b = if decide (8 < l.length) = true then 1 else if (ownT 2 l i b && wordB l) = true then 0 else 3 := by
  have h : tooL 2 l = decide (8 < l.length) := by unfold tooL; rw [if_pos (by decide)]
  have g : goodT 2 l i b = (wordB l) := by unfold goodT; rw [if_neg (by decide), if_pos rfl]
  unfold tokC
  rw [if_neg (by decide), h, g]
theorem tokC_3 (l : List UInt8) (i b : Int) : tokC 3 l i b = if false = true then 1 else if (ownT 3 l i b && decide (0 ≤ i)) = true then 0 else 3 := by
  have h : tooL 3 l = false := by unfold tooL; rw [if_neg (by decide), if_neg (by decide)]
  have g : goodT 3 l i b = (decide (0 ≤ i)) := by unfold goodT; rw [if_neg (by decide), if_neg (by decide), if_pos rfl]
  unfold tokC
  rw [if_neg (by decide), h, g]
theorem tokC_4 (l : List UInt8) (i b : Int) : tokC 4 l i b = if decide (40 < l.length) = true then 1 else if (ownT 4 l i b && Lib.validD l) = true then 0 else 3 := by
  have h : tooL 4 l = decide (40 < l.length) := by unfold tooL; rw [if_neg (by decide), if_pos rfl]
  have g : goodT 4 l i b = (Lib.validD l) := by unfold goodT; rw [if_neg (by decide), if_neg (by decide), if_neg (by decide), if_pos rfl]
  unfold tokC
  rw [if_neg (by decide), h, g]
theorem tokC_5 (l : List UInt8) (i b : Int) : tokC 5 l i b = if false = true then 1 else if (ownT 5 l i b && (!nan b && !(b == 9223372036854775808))) = true then 0 else 3 := by
  have h : tooL 5 l = false := by unfold tooL; rw [if_neg (by decide), if_neg (by decide)]
  have g : goodT 5 l i b = ((!nan b && !(b == 9223372036854775808))) := by unfold goodT; rw [if_neg (by decide), if_neg (by decide), if_neg (by decide), if_neg (by decide), if_pos rfl]
  unfold tokC
  rw [if_neg (by decide), h, g]
theorem tokC_6 (l : List UInt8) (i b : Int) : tokC 6 l i b = if false = true then 1 else if (ownT 6 l i b && signB l) = true then 0 else 3 := by
  have h : tooL 6 l = false := by unfold tooL; rw [if_neg (by decide), if_neg (by decide)]
  have g : goodT 6 l i b = (signB l) := by unfold goodT; rw [if_neg (by decide), if_neg (by decide), if_neg (by decide), if_neg (by decide), if_neg (by decide)]
  unfold tokC
  rw [if_neg (by decide), h, g]
set_option maxHeartbeats 8000000 in
theorem fault_num (i b : Int) (l : List UInt8) (w : World) (hl : l.length ≤ 9223372036854775807) :
    Calls Tryd.prog 12 #[.agg #[.int .i64 3, .string (str l), .int .i64 i, .int .u64 b]] w fun e w' => e = .returned (.int .i64 (tokC 3 l i b)) ∧ Below w.heap.size w w' := by
  have hsz := str_size l
  have hse : (str l).toList.isEmpty = l.isEmpty := by rw [str_toList]
  have hee : (str l).toList.isEmpty = true → (str l).toList = [] := fun h => by simpa using h
  obtain ⟨R, hR⟩ : ∃ R, tokC 3 l i b = R := ⟨_, rfl⟩
  rw [hR]
  have HR := Lib.hid hR
  rw [tokC_3] at HR
  unfold ownT at HR
  rw [← hse] at HR
  obtain ⟨B, hB⟩ : ∃ B, decide (0 ≤ i) = B := ⟨_, rfl⟩
  rw [hB] at HR
  have hB2 : (B = true → 0 ≤ i) ∧ (B = false → ¬ 0 ≤ i) := by rw [← hB]; simp
  generalize str l = s at *
  clear hl hsz hB
  clear hR hse
  obtain ⟨w3, hw3⟩ : ∃ w3, (w.alloc (.cells #[.int .i64 3, .string s, .int .i64 i, .int .u64 b] 33)).alloc (.cells #[.int .i64 3, .string ⟨#[]⟩, .int .i64 i, .int .u64 0] 33) = w3 := ⟨_, rfl⟩
  obtain ⟨hb3, hq, hu⟩ := hqq_of hw3
  have HQ := Lib.hid hq
  have HU := Lib.hid hu
  obtain ⟨p0, p1, p2, p3⟩ := hq w3 (Below.refl _ _)
  obtain ⟨r0, r1, r2, r3⟩ := hu w3 (Below.refl _ _)
  clear hq hu
  cases B <;> cases hb : (b == 0) <;> cases he : s.toList.isEmpty
  all_goals
    have he2 := hee
    rw [he] at he2
    first
      | (have he3 := he2 rfl)
      | (have he3 : ¬ s.toList = [] := fun h => by rw [h] at he; cases he)
    clear he2
    clear hee
    obtain ⟨hT1, hT2⟩ := hB2
    first
      | (have iB := hT1 rfl)
      | (have iB := hT2 rfl)
    clear hT1 hT2
    go_enter Tryd.func12, Tryd.ntmps12
    go_upto_region 15 with fail
    try rw [hw3]
    clear hw3
    have hbb := hb3
    clear hb3
    go_wp2_with fail
    go_ret
    refine ⟨?_, hbb⟩
    rw [← HR.out]
    first
      | rfl
      | (simp [*]; done)
      | (simp_all; done)
set_option maxHeartbeats 8000000 in
theorem fault_quote (i b : Int) (l : List UInt8) (w : World) (hl : l.length ≤ 9223372036854775807) (hT : Tabs w) :
    Calls Tryd.prog 12 #[.agg #[.int .i64 4, .string (str l), .int .i64 i, .int .u64 b]] w fun e w' => e = .returned (.int .i64 (tokC 4 l i b)) ∧ Below w.heap.size w w' := by
  have hsz := str_size l
  have hse : (str l).toList.isEmpty = l.isEmpty := by rw [str_toList]
  have hee : (str l).toList.isEmpty = true → (str l).toList = [] := fun h => by simpa using h
  have cX := fun W (hW : Below w.heap.size w W) => valid_any (str l) W (by omega) (tabs_below hT hW)
  rw [str_data] at cX
  obtain ⟨R, hR⟩ : ∃ R, tokC 4 l i b = R := ⟨_, rfl⟩
  rw [hR]
  have HR := Lib.hid hR
  rw [tokC_4] at HR
  unfold ownT at HR
  rw [← hse] at HR
  generalize Lib.validD l = B at *
  generalize str l = s at *
  obtain ⟨L, hL⟩ : ∃ L, decide (40 < l.length) = L := ⟨_, rfl⟩
  rw [hL] at HR
  have hLI : decide ((40 : Int) < (s.size : Int)) = L := by rw [← hL, hsz, Bool.eq_iff_iff]; simp; omega
  have hLI2 : (L = true → (40 : Int) < (s.size : Int)) ∧ (L = false → ¬ (40 : Int) < (s.size : Int)) := by rw [← hLI]; simp
  clear hL hLI
  clear hl hsz hT
  clear hR hse
  obtain ⟨w3, hw3⟩ : ∃ w3, (w.alloc (.cells #[.int .i64 4, .string s, .int .i64 i, .int .u64 b] 33)).alloc (.cells #[.int .i64 4, .string s, .int .i64 0, .int .u64 0] 33) = w3 := ⟨_, rfl⟩
  obtain ⟨hb3, hq, hu⟩ := hqq_of hw3
  have HQ := Lib.hid hq
  have HU := Lib.hid hu
  obtain ⟨p0, p1, p2, p3⟩ := hq w3 (Below.refl _ _)
  obtain ⟨r0, r1, r2, r3⟩ := hu w3 (Below.refl _ _)
  clear hq hu
  cases B <;> cases L <;> cases hi : (i == 0) <;> cases hb : (b == 0)
  all_goals
    clear hee
    obtain ⟨hT1, hT2⟩ := hLI2
    first
      | (have iL := hT1 rfl)
      | (have iL := hT2 rfl)
    clear hT1 hT2
    go_enter Tryd.func12, Tryd.ntmps12
    go_upto_region 18 with fail
    try rw [hw3]
    clear hw3
    go_wp2_with fail
    refine (cX _ hb3).mono ?_
    rintro e w4 ⟨rfl, hb4⟩
    clear p0 p1 p2 p3 r0 r1 r2 r3
    obtain ⟨p0, p1, p2, p3⟩ := HQ.out w4 hb4
    obtain ⟨r0, r1, r2, r3⟩ := HU.out w4 hb4
    have hbb := below_stepL hb3 hb3.size hb4
    clear hb4
    clear cX
    clear hb3
    go_wp2_with fail
    go_ret
    refine ⟨?_, hbb⟩
    rw [← HR.out]
    first
      | rfl
      | (simp [*]; done)
      | (simp_all; done)
set_option maxHeartbeats 8000000 in
theorem fault_hex (i b : Int) (l : List UInt8) (w : World) (hl : l.length ≤ 9223372036854775807) (h0 : 0 ≤ b) (h1 : b ≤ 18446744073709551615) :
    Calls Tryd.prog 12 #[.agg #[.int .i64 5, .string (str l), .int .i64 i, .int .u64 b]] w fun e w' => e = .returned (.int .i64 (tokC 5 l i b)) ∧ Below w.heap.size w w' := by
  have hsz := str_size l
  have hse : (str l).toList.isEmpty = l.isEmpty := by rw [str_toList]
  have hee : (str l).toList.isEmpty = true → (str l).toList = [] := fun h => by simpa using h
  have cX := fun W => badReal_any b W h0 h1
  have eN : (!nan b && !(b == 9223372036854775808)) = !(nan b || b == 9223372036854775808) := by cases nan b <;> cases (b == 9223372036854775808) <;> rfl
  obtain ⟨R, hR⟩ : ∃ R, tokC 5 l i b = R := ⟨_, rfl⟩
  rw [hR]
  have HR := Lib.hid hR
  rw [tokC_5, eN] at HR
  unfold ownT at HR
  rw [← hse] at HR
  generalize (nan b || b == 9223372036854775808) = B at *
  generalize str l = s at *
  clear hl hsz eN h0 h1
  clear hR hse
  obtain ⟨w3, hw3⟩ : ∃ w3, (w.alloc (.cells #[.int .i64 5, .string s, .int .i64 i, .int .u64 b] 33)).alloc (.cells #[.int .i64 5, .string ⟨#[]⟩, .int .i64 0, .int .u64 b] 33) = w3 := ⟨_, rfl⟩
  obtain ⟨hb3, hq, hu⟩ := hqq_of hw3
  have HQ := Lib.hid hq
  have HU := Lib.hid hu
  obtain ⟨p0, p1, p2, p3⟩ := hq w3 (Below.refl _ _)
  obtain ⟨r0, r1, r2, r3⟩ := hu w3 (Below.refl _ _)
  clear hq hu
  cases B <;> cases hi : (i == 0) <;> cases he : s.toList.isEmpty
  all_goals
    have he2 := hee
    rw [he] at he2
    first
      | (have he3 := he2 rfl)
      | (have he3 : ¬ s.toList = [] := fun h => by rw [h] at he; cases he)
    clear he2
    clear hee
    go_enter Tryd.func12, Tryd.ntmps12
    go_upto_region 22 with fail
    try rw [hw3]
    clear hw3
    go_wp2_with fail
    refine (cX _).mono ?_
    rintro e w4 ⟨rfl, rfl⟩
    have hbb := hb3
    clear cX
    clear hb3
    go_wp2_with fail
    go_ret
    refine ⟨?_, hbb⟩
    rw [← HR.out]
    first
      | rfl
      | (simp [*]; done)
      | (simp_all; done)
set_option maxHeartbeats 8000000 in
theorem fault_sign (i b : Int) (l : List UInt8) (w : World) (hl : l.length ≤ 9223372036854775807) :
    Calls Tryd.prog 12 #[.agg #[.int .i64 6, .string (str l), .int .i64 i, .int .u64 b]] w fun e w' => e = .returned (.int .i64 (tokC 6 l i b)) ∧ Below w.heap.size w w' := by
  have hsz := str_size l
  have hse : (str l).toList.isEmpty = l.isEmpty := by rw [str_toList]
  have hee : (str l).toList.isEmpty = true → (str l).toList = [] := fun h => by simpa using h
  have cX := fun W => isSignRef_any l W
  obtain ⟨R, hR⟩ : ∃ R, tokC 6 l i b = R := ⟨_, rfl⟩
  rw [hR]
  have HR := Lib.hid hR
  rw [tokC_6] at HR
  unfold ownT at HR
  rw [← hse] at HR
  generalize signB l = B at *
  generalize str l = s at *
  clear hl hsz
  clear hR hse
  obtain ⟨w3, hw3⟩ : ∃ w3, (w.alloc (.cells #[.int .i64 6, .string s, .int .i64 i, .int .u64 b] 33)).alloc (.cells #[.int .i64 6, .string s, .int .i64 0, .int .u64 0] 33) = w3 := ⟨_, rfl⟩
  obtain ⟨hb3, hq, hu⟩ := hqq_of hw3
  have HQ := Lib.hid hq
  have HU := Lib.hid hu
  obtain ⟨p0, p1, p2, p3⟩ := hq w3 (Below.refl _ _)
  obtain ⟨r0, r1, r2, r3⟩ := hu w3 (Below.refl _ _)
  clear hq hu
  cases B <;> cases hi : (i == 0) <;> cases hb : (b == 0)
  all_goals
    clear hee
    go_enter Tryd.func12, Tryd.ntmps12
    go_upto_region 25 with fail
    try rw [hw3]
    clear hw3
    go_wp2_with fail
    refine (cX _).mono ?_
    rintro e w4 ⟨rfl, hb4⟩
    clear p0 p1 p2 p3 r0 r1 r2 r3
    obtain ⟨p0, p1, p2, p3⟩ := HQ.out w4 hb4
    obtain ⟨r0, r1, r2, r3⟩ := HU.out w4 hb4
    have hbb := below_stepL hb3 hb3.size hb4
    clear hb4
    clear cX
    clear hb3
    go_wp2_with fail
    go_ret
    refine ⟨?_, hbb⟩
    rw [← HR.out]
    first
      | rfl
      | (simp [*]; done)
      | (simp_all; done)
set_option maxHeartbeats 8000000 in
theorem fault_word (i b : Int) (l : List UInt8) (w : World) (hl : l.length ≤ 9223372036854775807) :
    Calls Tryd.prog 12 #[.agg #[.int .i64 2, .string (str l), .int .i64 i, .int .u64 b]] w fun e w' => e = .returned (.int .i64 (tokC 2 l i b)) ∧ Below w.heap.size w w' := by
  have hsz := str_size l
  have hse : (str l).toList.isEmpty = l.isEmpty := by rw [str_toList]
  have hee : (str l).toList.isEmpty = true → (str l).toList = [] := fun h => by simpa using h
  have cX := fun W => isNameRef_any l W hl
  have cR := fun W => reach_any l greatsL W hl (by decide)
  rw [show greatsL.contains = isGr from funext greats_has] at cR
  have e2 := takeWhile_len isGr l
  obtain ⟨R, hR⟩ : ∃ R, tokC 2 l i b = R := ⟨_, rfl⟩
  rw [hR]
  have HR := Lib.hid hR
  rw [tokC_2] at HR
  unfold ownT wordB at HR
  rw [← hse] at HR
  generalize nameB l = NB at *
  generalize str l = s at *
  obtain ⟨L, hL⟩ : ∃ L, decide (8 < l.length) = L := ⟨_, rfl⟩
  rw [hL] at HR
  have hLI : decide ((8 : Int) < (s.size : Int)) = L := by rw [← hL, hsz, Bool.eq_iff_iff]; simp; omega
  have hLI2 : (L = true → (8 : Int) < (s.size : Int)) ∧ (L = false → ¬ (8 : Int) < (s.size : Int)) := by rw [← hLI]; simp
  clear hL hLI
  generalize l.all isGr = B at *
  generalize l.takeWhile isGr = TW at *
  have e3 : ((TW.length : Int) == (s.size : Int)) = B := by rw [← e2, hsz, Bool.eq_iff_iff]; simp; omega
  generalize TW.length = tl at *
  clear hl hsz e2
  clear hR hse
  obtain ⟨w3, hw3⟩ : ∃ w3, (w.alloc (.cells #[.int .i64 2, .string s, .int .i64 i, .int .u64 b] 33)).alloc (.cells #[.int .i64 2, .string s, .int .i64 0, .int .u64 0] 33) = w3 := ⟨_, rfl⟩
  obtain ⟨hb3, hq, hu⟩ := hqq_of hw3
  have HQ := Lib.hid hq
  have HU := Lib.hid hu
  obtain ⟨p0, p1, p2, p3⟩ := hq w3 (Below.refl _ _)
  obtain ⟨r0, r1, r2, r3⟩ := hu w3 (Below.refl _ _)
  clear hq hu
  cases he : s.toList.isEmpty
  · have he3 : ¬ s.toList = [] := fun h => by rw [h] at he; cases he
    cases B <;> cases L <;> cases hi : (i == 0) <;> cases hb : (b == 0)
    all_goals
      clear hee
      obtain ⟨hT1, hT2⟩ := hLI2
      first
        | (have iL := hT1 rfl)
        | (have iL := hT2 rfl)
      clear hT1 hT2
      go_enter Tryd.func12, Tryd.ntmps12
      go_upto_region 9 with fail
      try rw [hw3]
      clear hw3
      go_wp2_with fail
      refine (cX _).mono ?_
      rintro e w4 ⟨rfl, rfl⟩
      clear cX
      go_upto_region 12 with fail
      have hq0 := fun W hW => (HQ.out W hW).1
      have hq1 := fun W hW => (HQ.out W hW).2.1
      clear p0 p1 p2 p3 r0 r1 r2 r3
      refine wp_region_det 12 (by kernel_rfl) (by kernel_rfl) (by kernel_rfl) ?_
      simp only [List.take_succ_cons, List.take_zero, List.drop_succ_cons, List.drop_zero]
      iterate 2 (apply wpDet_plain _ rfl; (focus (intro W hW; have q0 := hq0 W hW; have q1 := hq1 W hW; go_simp; (first | exact ⟨rfl, Below.refl _ _⟩ | exact Below.refl _ _ | exact ⟨by simp [*], Below.refl _ _⟩))); simp only [Act.put, List.setIfInBounds_toArray, List.set_cons_zero, List.set_cons_succ])
      apply wpDet_plain (.bool true) rfl; (focus (intro W hW; have q0 := hq0 W hW; have q1 := hq1 W hW; go_simp; (first | exact ⟨rfl, Below.refl _ _⟩ | exact Below.refl _ _ | exact ⟨by simp [*], Below.refl _ _⟩))); simp only [Act.put, List.setIfInBounds_toArray, List.set_cons_zero, List.set_cons_succ]
      apply wpDet_plain (.bool true) rfl; (focus (intro W hW; have q0 := hq0 W hW; have q1 := hq1 W hW; go_simp; (first | exact ⟨rfl, Below.refl _ _⟩ | exact Below.refl _ _ | exact ⟨by simp [*], Below.refl _ _⟩))); simp only [Act.put, List.setIfInBounds_toArray, List.set_cons_zero, List.set_cons_succ]
      iterate 2 (apply wpDet_want _ (by kernel_rfl); (focus (intro W hW; have q0 := hq0 W hW; have q1 := hq1 W hW; go_simp; (first | exact ⟨rfl, Below.refl _ _⟩ | exact Below.refl _ _ | exact ⟨by simp [*], Below.refl _ _⟩))); simp only [Act.put, List.setIfInBounds_toArray, List.set_cons_zero, List.set_cons_succ])
      apply wpDet_want _ (by kernel_rfl); (focus (intro W hW; have q0 := hq0 W hW; have q1 := hq1 W hW; go_simp; exact (cR W).mono (fun e w' h => ⟨h.1, by rw [← h.2]; exact Below.refl _ _⟩))); simp only [Act.put, List.setIfInBounds_toArray, List.set_cons_zero, List.set_cons_succ]
      iterate 3 (apply wpDet_want _ (by kernel_rfl); (focus (intro W hW; have q0 := hq0 W hW; have q1 := hq1 W hW; go_simp; (first | exact ⟨rfl, Below.refl _ _⟩ | exact Below.refl _ _ | exact ⟨by simp [*], Below.refl _ _⟩))); simp only [Act.put, List.setIfInBounds_toArray, List.set_cons_zero, List.set_cons_succ])
      apply wpDet_want _ (by kernel_rfl); (focus (intro W hW; have q0 := hq0 W hW; have q1 := hq1 W hW; go_simp; (first | exact ⟨rfl, Below.refl _ _⟩ | exact Below.refl _ _ | exact ⟨by simp [*], Below.refl _ _⟩))); simp only [Act.put, List.setIfInBounds_toArray, List.set_cons_zero, List.set_cons_succ]
      apply wpDet_plain _ rfl; (focus (intro W hW; have q0 := hq0 W hW; have q1 := hq1 W hW; go_simp; (first | exact ⟨rfl, Below.refl _ _⟩ | exact Below.refl _ _ | exact ⟨by simp [*], Below.refl _ _⟩))); simp only [Act.put, List.setIfInBounds_toArray, List.set_cons_zero, List.set_cons_succ]
      refine wpDet_nil ?_; intro W hW
      have hbb := below_stepL hb3 hb3.size hW
      obtain ⟨p0, p1, p2, p3⟩ := HQ.out W hW
      obtain ⟨r0, r1, r2, r3⟩ := HU.out W hW
      clear hq0 hq1 hb3 hW cR
      go_wp2_with fail
      go_ret
      refine ⟨?_, hbb⟩
      rw [← HR.out]
      first
        | rfl
        | (simp [*]; done)
        | (simp_all; done)
  · have he3 : s.toList = [] := hee he
    cases B <;> cases L <;> cases hi : (i == 0) <;> cases hb : (b == 0)
    all_goals
      clear hee
      obtain ⟨hT1, hT2⟩ := hLI2
      first
        | (have iL := hT1 rfl)
        | (have iL := hT2 rfl)
      clear hT1 hT2
      go_enter Tryd.func12, Tryd.ntmps12
      go_upto_region 9 with fail
      try rw [hw3]
      clear hw3
      go_wp2_with fail
      refine (cX _).mono ?_
      rintro e w4 ⟨rfl, rfl⟩
      clear cX
      go_upto_region 12 with fail
      have hq0 := fun W hW => (HQ.out W hW).1
      have hq1 := fun W hW => (HQ.out W hW).2.1
      clear p0 p1 p2 p3 r0 r1 r2 r3
      refine wp_region_det 12 (by kernel_rfl) (by kernel_rfl) (by kernel_rfl) ?_
      simp only [List.take_succ_cons, List.take_zero, List.drop_succ_cons, List.drop_zero]
      iterate 2 (apply wpDet_plain _ rfl; (focus (intro W hW; have q0 := hq0 W hW; have q1 := hq1 W hW; go_simp; (first | exact ⟨rfl, Below.refl _ _⟩ | exact Below.refl _ _ | exact ⟨by simp [*], Below.refl _ _⟩))); simp only [Act.put, List.setIfInBounds_toArray, List.set_cons_zero, List.set_cons_succ])
      apply wpDet_plain (.bool false) rfl; (focus (intro W hW; have q0 := hq0 W hW; have q1 := hq1 W hW; go_simp; (first | exact ⟨rfl, Below.refl _ _⟩ | exact Below.refl _ _ | exact ⟨by simp [*], Below.refl _ _⟩))); simp only [Act.put, List.setIfInBounds_toArray, List.set_cons_zero, List.set_cons_succ]
      apply wpDet_plain (.bool false) rfl; (focus (intro W hW; have q0 := hq0 W hW; have q1 := hq1 W hW; go_simp; (first | exact ⟨rfl, Below.refl _ _⟩ | exact Below.refl _ _ | exact ⟨by simp [*], Below.refl _ _⟩))); simp only [Act.put, List.setIfInBounds_toArray, List.set_cons_zero, List.set_cons_succ]
      iterate 7 (refine wpDet_skip (by kernel_rfl) ?_; simp only [Act.put, List.setIfInBounds_toArray, List.set_cons_zero, List.set_cons_succ])
      apply wpDet_plain (.bool false) rfl; (focus (intro W hW; have q0 := hq0 W hW; have q1 := hq1 W hW; go_simp; (first | exact ⟨rfl, Below.refl _ _⟩ | exact Below.refl _ _ | exact ⟨by simp [*], Below.refl _ _⟩))); simp only [Act.put, List.setIfInBounds_toArray, List.set_cons_zero, List.set_cons_succ]
      refine wpDet_nil ?_; intro W hW
      have hbb := below_stepL hb3 hb3.size hW
      obtain ⟨p0, p1, p2, p3⟩ := HQ.out W hW
      obtain ⟨r0, r1, r2, r3⟩ := HU.out W hW
      clear hq0 hq1 hb3 hW cR
      go_wp2_with fail
      go_ret
      refine ⟨?_, hbb⟩
      rw [← HR.out]
      first
        | rfl
        | (simp [*]; done)
        | (simp_all; done)
/-- ████ TokenFault. -/
theorem tokenFault_any (k i b : Int) (l : List UInt8) (w : World) (h0 : 0 ≤ b) (h1 : b ≤ 18446744073709551615) (hl : l.length ≤ 9223372036854775807) (hT : Tabs w) :
    Calls Tryd.prog 12 #[.agg #[.int .i64 k, .string (str l), .int .i64 i, .int .u64 b]] w fun e w' => e = .returned (.int .i64 (tokC k l i b)) ∧ Below w.heap.size w w' := by
  rcases kcase7 k with (rfl | rfl | rfl | rfl | rfl | rfl) | ⟨k1, k2, k3, k4, k5, k6⟩
  · exact fault_name i b l w hl
  · exact fault_word i b l w hl
  · exact fault_num i b l w hl
  · exact fault_quote i b l w hl hT
  · exact fault_hex i b l w hl h0 h1
  · exact fault_sign i b l w hl
  · have e : tokC k l i b = 2 := by
      unfold tokC
      simp only [beq_eq_false_iff_ne, ne_eq] at k1 k2 k3 k4 k5 k6
      rw [if_pos (by omega)]
    rw [e]
    exact fault_other k i b (str l) w k1 k2 k3 k4 k5 k6
end Go.Proofs.YtlhoakpijfhljaaDoor
