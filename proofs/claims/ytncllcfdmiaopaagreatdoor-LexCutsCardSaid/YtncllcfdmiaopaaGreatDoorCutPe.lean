/-
  The reference's first: a sign.
  CONDITIONS: each theorem's own hypotheses; unicode/utf8's two tables hold what their initialisers lay ('Tabs').
-/
import Derived.Test.YtncllcfdmiaopaaGreatDoorCutP
namespace Go.Proofs.YtncllcfdmiaopaaGreatDoor
open Go.RowKit
set_option linter.unusedVariables false
set_option maxRecDepth 100000

set_option maxHeartbeats 4000000 in
theorem fr_sign (c : UInt8) (r : List UInt8) (w : World) (hl : (c :: r).length ≤ 1000000) (hT : Tabs w) (hSm : isSm c = false) (hGr : isGr c = false) (hDi : isDi c = false) (h39 : c ≠ 39) (h35 : c ≠ 35) :
    Calls Tryz.prog 23 #[.string (str (c :: r))] w (ReadPost (signT (c :: r)) w) := by
  have hsz := str_size (c :: r)
  have hg : ∀ h : 0 < (str (c :: r)).size, (str (c :: r))[0] = c := fun h => rfl
  have hhd := fun (j : Nat) (h2 : j ≤ (c :: r).length) W => head_str (c :: r) j (j : Int) rfl h2 W
  have cA1 := fun W => among_any c smallsL W (by decide)
  have cA2 := fun W => among_any c greatsL W (by decide)
  have cA3 := fun W => among_any c digitsL W (by decide)
  rw [smalls_has] at cA1
  rw [greats_has] at cA2
  rw [digits_has] at cA3
  rw [hSm] at cA1
  rw [hGr] at cA2
  rw [hDi] at cA3
  have hq1 := fun W => head_str (c :: r) 1 (1 : Int) rfl (by simp) W
  have hq2 := fun (h : 2 ≤ (c :: r).length) W => head_str (c :: r) 2 (2 : Int) rfl h W
  have hS := signR_two (c :: r) (by simp)
  have cS1 := fun W => isSignRef_any ((c :: r).take 1) W
  have cS2 := fun W => isSignRef_any ((c :: r).take 2) W
  have hl1 : ((c :: r).take 1).length = 1 := by simp
  have hl2 : 2 ≤ (c :: r).length → ((c :: r).take 2).length = 2 := fun h => by rw [List.length_take]; omega
  obtain ⟨R, hR⟩ : ∃ R, signT (c :: r) = R := ⟨_, rfl⟩
  rw [hR]
  unfold signT at hR
  rw [hS] at hR
  unfold ReadPost
  generalize str (c :: r) = s at *
  have h0 : 0 < s.size := by rw [hsz]; simp
  have hg0 := hg h0
  have h0I : (0 : Int) < (s.size : Int) := by omega
  have hsI : (s.size : Int) ≤ 1000000 := by omega
  rw [← hg0] at cA1 cA2 cA3
  have q39 : ((s[0].toNat : Int) == 39) = false := by rw [hg0]; exact u8_ne (by decide) h39
  have q35 : ((s[0].toNat : Int) == 35) = false := by rw [hg0]; exact u8_ne (by decide) h35
  generalize (c :: r).take 1 = T1 at *
  generalize (c :: r).take 2 = T2 at *
  generalize (c :: r).length = n at *
  generalize signB T1 = B1 at *
  generalize signB T2 = B2 at *
  have hn1 : T1 ≠ [] := fun e => by rw [e] at hl1; cases hl1
  have hn2 : 2 ≤ n → T2 ≠ [] := fun h e => by have := hl2 h; rw [e] at this; cases this
  have HR := Lib.hid hR
  have HN1 := Lib.hid hn1
  have HN2 := Lib.hid hn2
  have HL1 := Lib.hid hl1
  have HL2 := Lib.hid hl2
  clear hg hg0 hhd hSm hGr hDi h39 h35 hS hR hn1 hn2 hl1 hl2
  obtain ⟨S1, hS1⟩ : ∃ S1, str T1 = S1 := ⟨_, rfl⟩
  obtain ⟨S2, hS2⟩ : ∃ S2, str T2 = S2 := ⟨_, rfl⟩
  rw [hS1] at hq1 cS1
  rw [hS2] at hq2 cS2
  have HS1 := Lib.hid hS1
  have HS2 := Lib.hid hS2
  clear hS1 hS2
  obtain ⟨w2, hw2⟩ : ∃ w2, w.alloc (.cells #[.int .i64 0, .string ⟨#[]⟩, .int .i64 0, .int .u64 0] 34) = w2 := ⟨_, rfl⟩
  have hb2 : Below w.heap.size w w2 := by rw [← hw2]; exact (Below.refl _ _).alloc (Nat.le_refl _) _
  have z2 : Blk w2 w.heap.size 34 [.int .i64 0, .string ⟨#[]⟩, .int .i64 0, .int .u64 0] := by rw [← hw2]; exact Blk.new w #[.int .i64 0, .string ⟨#[]⟩, .int .i64 0, .int .u64 0] _
  have hq1a := hq1
  by_cases h2 : 2 ≤ n
  · have i2 : (1 : Int) < (s.size : Int) := by omega
    have i3 : (2 : Int) ≤ (s.size : Int) := by omega
    have hq2 := hq2 h2
    have HN2 := HN2.out h2
    have HL2 := HL2.out h2
    have HT2 : Hid (T2 ≠ [] ∧ T2.length = 2) := Lib.hid ⟨HN2, HL2⟩
    clear HN2 HL2
    go_enter Tryz.func23, Tryz.ntmps23
    go_upto_region 1 with fail
    try rw [hw2]
    clear hw2
    go_wp2_with fail
    refine (cA1 _).mono ?_
    rintro e w3 ⟨rfl, rfl⟩
    clear cA1
    go_wp2_with fail
    refine (cA2 _).mono ?_
    rintro e w3 ⟨rfl, rfl⟩
    clear cA2
    go_wp2_with fail
    refine (cA3 _).mono ?_
    rintro e w3 ⟨rfl, rfl⟩
    clear cA3
    go_wp2_with fail
    refine (cS2 _).mono ?_
    rintro e w3 ⟨rfl, hb3⟩
    clear cS2
    have z3 := z2.call hb3
    have hb03 := below_stepL hb2 hb2.size hb3
    clear hb2 z2 hb3
    cases B2 with
    | true =>
      have HRR : Hid (R = .ok ⟨6, T2, 0, 0⟩ 2) := by
        show _ = _
        rw [← HR.out]
        simp [h2, HT2.out.1, HT2.out.2]
      clear HR
      have c0 := z3.cell (j := 0) rfl
      have c1 := z3.cell (j := 1) rfl
      have c2 := z3.cell (j := 2) rfl
      have c3 := z3.cell (j := 3) rfl
      have y0 := z3.free 0
      have y1 := z3.free 1
      have y2 := z3.free 2
      have y3 := z3.free 3
      have hE := Lib.hid (below_set4 (a := .int .i64 6) (b := .string S2) (c := .int .i64 0) (d := .int .u64 0) hb03 (Nat.le_refl _))
      go_wp2_with fail
      refine bodyPost_ret (results_tok rfl _ _ w.heap.size _ _ _ _ rfl z3.set4) rfl ⟨_, _, _, _, _, _, rfl, ?_, hE.out⟩
      rw [HRR.out]; exact Lib.hid ⟨rfl, HS2.out.symm, rfl, rfl, rfl, rfl⟩
    | false =>
      cases B1 with
      | true =>
        have HRR : Hid (R = .ok ⟨6, T1, 0, 0⟩ 1) := by
          show _ = _
          rw [← HR.out]
          simp [HN1.out, HL1.out]
        clear HR
        go_wp2_with fail
        refine (cS1 _).mono ?_
        rintro e w4 ⟨rfl, hb4⟩
        clear cS1
        have z4 := z3.call hb4
        have hb04 := below_stepL hb03 hb03.size hb4
        have c0 := z4.cell (j := 0) rfl
        have c1 := z4.cell (j := 1) rfl
        have c2 := z4.cell (j := 2) rfl
        have c3 := z4.cell (j := 3) rfl
        have y0 := z4.free 0
        have y1 := z4.free 1
        have y2 := z4.free 2
        have y3 := z4.free 3
        have hE := Lib.hid (below_set4 (a := .int .i64 6) (b := .string S1) (c := .int .i64 0) (d := .int .u64 0) hb04 (Nat.le_refl _))
        go_wp2_with fail
        refine bodyPost_ret (results_tok rfl _ _ w.heap.size _ _ _ _ rfl z4.set4) rfl ⟨_, _, _, _, _, _, rfl, ?_, hE.out⟩
        rw [HRR.out]; exact Lib.hid ⟨rfl, HS1.out.symm, rfl, rfl, rfl, rfl⟩
      | false =>
        have HRR : Hid (R = .err 3) := by
          show _ = _
          rw [← HR.out]
          simp
        clear HR
        go_wp2_with fail
        refine (cS1 _).mono ?_
        rintro e w4 ⟨rfl, hb4⟩
        clear cS1
        have z4 := z3.call hb4
        have hb04 := below_stepL hb03 hb03.size hb4
        have c0 := z4.cell (j := 0) rfl
        have c1 := z4.cell (j := 1) rfl
        have c2 := z4.cell (j := 2) rfl
        have c3 := z4.cell (j := 3) rfl
        have y0 := z4.free 0
        have y1 := z4.free 1
        have y2 := z4.free 2
        have y3 := z4.free 3
        have hE := Lib.hid (below_set4 (a := .int .i64 0) (b := .string ⟨#[]⟩) (c := .int .i64 0) (d := .int .u64 0) hb04 (Nat.le_refl _))
        go_wp2_with fail
        refine bodyPost_ret (results_tok rfl _ _ w.heap.size _ _ _ _ rfl z4.set4) rfl ⟨_, _, _, _, _, _, rfl, ?_, hE.out⟩
        rw [HRR.out]; exact Lib.hid ⟨rfl, by decide⟩
  · have i2 : ¬ (1 : Int) < (s.size : Int) := by omega
    have HNO : ¬ (2 ≤ n ∧ B2 = true) := fun h => h2 h.1
    have HNO : ¬ 2 ≤ n := h2
    clear hq2 cS2
    go_enter Tryz.func23, Tryz.ntmps23
    go_upto_region 1 with fail
    try rw [hw2]
    clear hw2
    go_wp2_with fail
    refine (cA1 _).mono ?_
    rintro e w3 ⟨rfl, rfl⟩
    clear cA1
    go_wp2_with fail
    refine (cA2 _).mono ?_
    rintro e w3 ⟨rfl, rfl⟩
    clear cA2
    go_wp2_with fail
    refine (cA3 _).mono ?_
    rintro e w3 ⟨rfl, rfl⟩
    clear cA3
    cases B1 with
    | true =>
      have HRR : Hid (R = .ok ⟨6, T1, 0, 0⟩ 1) := by
        show _ = _
        rw [← HR.out]
        simp [HNO, HN1.out, HL1.out]
      clear HR
      go_wp2_with fail
      refine (cS1 _).mono ?_
      rintro e w4 ⟨rfl, hb4⟩
      clear cS1
      have z4 := z2.call hb4
      have hb04 := below_stepL hb2 hb2.size hb4
      have c0 := z4.cell (j := 0) rfl
      have c1 := z4.cell (j := 1) rfl
      have c2 := z4.cell (j := 2) rfl
      have c3 := z4.cell (j := 3) rfl
      have y0 := z4.free 0
      have y1 := z4.free 1
      have y2 := z4.free 2
      have y3 := z4.free 3
      have hE := Lib.hid (below_set4 (a := .int .i64 6) (b := .string S1) (c := .int .i64 0) (d := .int .u64 0) hb04 (Nat.le_refl _))
      go_wp2_with fail
      refine bodyPost_ret (results_tok rfl _ _ w.heap.size _ _ _ _ rfl z4.set4) rfl ⟨_, _, _, _, _, _, rfl, ?_, hE.out⟩
      rw [HRR.out]; exact Lib.hid ⟨rfl, HS1.out.symm, rfl, rfl, rfl, rfl⟩
    | false =>
      have HRR : Hid (R = .err 3) := by
        show _ = _
        rw [← HR.out]
        simp [HNO]
      clear HR
      go_wp2_with fail
      refine (cS1 _).mono ?_
      rintro e w4 ⟨rfl, hb4⟩
      clear cS1
      have z4 := z2.call hb4
      have hb04 := below_stepL hb2 hb2.size hb4
      have c0 := z4.cell (j := 0) rfl
      have c1 := z4.cell (j := 1) rfl
      have c2 := z4.cell (j := 2) rfl
      have c3 := z4.cell (j := 3) rfl
      have y0 := z4.free 0
      have y1 := z4.free 1
      have y2 := z4.free 2
      have y3 := z4.free 3
      have hE := Lib.hid (below_set4 (a := .int .i64 0) (b := .string ⟨#[]⟩) (c := .int .i64 0) (d := .int .u64 0) hb04 (Nat.le_refl _))
      go_wp2_with fail
      refine bodyPost_ret (results_tok rfl _ _ w.heap.size _ _ _ _ rfl z4.set4) rfl ⟨_, _, _, _, _, _, rfl, ?_, hE.out⟩
      rw [HRR.out]; exact Lib.hid ⟨rfl, by decide⟩
end Go.Proofs.YtncllcfdmiaopaaGreatDoor
