/-
  CONTRACT of table.Check.
  CONDITIONS: each theorem's own hypotheses.
-/
import Derived.Test.YtpneoaehkibdeaaDoorTabB
namespace Go.Proofs.YtpneoaehkibdeaaDoor
open Go.RowKit
set_option linter.unusedVariables false
set_option maxRecDepth 100000

theorem head_facts {W : World} {ao : Option Addr} {l : List Cl} (hC : Cols W ao l) (hne : l ≠ []) : ∃ (g o : Nat) (k : Int) (nl : Bool), ao = some ⟨g, o, none⟩ ∧ g < W.heap.size ∧ W.cell? ⟨g, o + 1, none⟩ = some (.int .i64 k) ∧ W.cell? ⟨g, o + 2, none⟩ = some (.bool nl) ∧ headB l = (k == 2 && !nl) := by
  rcases hC.2 with h | ⟨g, o, h1, h2, h3⟩
  · exact absurd h hne
  · cases l with
    | nil => exact absurd rfl hne
    | cons c r =>
      obtain ⟨-, q1, q2⟩ := h3 0 c rfl
      rw [Nat.zero_mul, Nat.add_zero] at q1 q2
      exact ⟨g, o, c.k, c.nl, h1, h2, q1, q2, rfl⟩
set_option maxHeartbeats 16000000 in
theorem tabCheck_any (t : Tb) (w : World) (hO : TbOk w t) (hT : Tabs w) (hS : SW w) :
    Calls Tryd.prog 9 #[.agg (tbV t).toArray] w fun e w' => e = .returned (.int .i64 (tabR t)) ∧ Below w.heap.size w w' := by
  have CLX : Hid (∀ W, Below w.heap.size w W → _) := Lib.hid (fun W h => lexCheck_any 1 0 0 t.name W (by decide) (by decide) hO.nm (tabs_below hT h) (hS.keep h (Nat.le_refl _)))
  rw [show tokC 1 t.name 0 0 = tokC 1 t.name 0 0 from rfl] at CLX
  have CCO : Hid (∀ W, Below w.heap.size w W → _) := Lib.hid (fun W h => columns_any t.cols t.ao t.cap W hO.c1 hO.c2 (hO.C.keep h) (tabs_below hT h) (hS.keep h (Nat.le_refl _)))
  have CD0 : Hid (t.cols ≠ [] → ∀ W, Below w.heap.size w W → _) := Lib.hid (fun hne W h => checkCells_any t.d0 t.cols t.ao t.cap W (hO.D0.keep h) hne hO.c1 hO.c2 (hO.C.keep h) (tabs_below hT h) (hS.keep h (Nat.le_refl _)))
  have CD1 : Hid (t.cols ≠ [] → ∀ W, Below w.heap.size w W → _) := Lib.hid (fun hne W h => checkCells_any t.d1 t.cols t.ao t.cap W (hO.D1.keep h) hne hO.c1 hO.c2 (hO.C.keep h) (tabs_below hT h) (hS.keep h (Nat.le_refl _)))
  have HHD : Hid (t.cols ≠ [] → ∃ (g o : Nat) (k : Int) (nl : Bool), t.ao = some ⟨g, o, none⟩ ∧ g < w.heap.size ∧ w.cell? ⟨g, o + 1, none⟩ = some (.int .i64 k) ∧ w.cell? ⟨g, o + 2, none⟩ = some (.bool nl) ∧ headB t.cols = (k == 2 && !nl)) := Lib.hid (fun hne => head_facts hO.C hne)
  obtain ⟨th, nm, cols, ao, cap, dx, dy⟩ := t
  obtain ⟨R, hR⟩ : ∃ R, tabR ⟨th, nm, cols, ao, cap, dx, dy⟩ = R := ⟨_, rfl⟩
  have hr := hR.symm
  rw [hR]
  unfold tabR at hr
  simp only at hr CLX CCO CD0 CD1 HHD
  obtain ⟨RX, hRX⟩ : ∃ R, drawR cols (drL dx) = R := ⟨_, rfl⟩
  obtain ⟨RY, hRY⟩ : ∃ R, drawR cols (drL dy) = R := ⟨_, rfl⟩
  obtain ⟨RC, hRC⟩ : ∃ R, colsR cols = R := ⟨_, rfl⟩
  obtain ⟨B, hB⟩ : ∃ B, (nameB nm && decide (nm.length ≤ 8)) = B := ⟨_, rfl⟩
  obtain ⟨TK, hTK⟩ : ∃ x, tokC 1 nm 0 0 = x := ⟨_, rfl⟩
  have hkb : (TK == 0) = B := by rw [← hTK, ← hB]; exact tokC_nmK nm
  rw [hRX, hRY, hRC, hB] at hr
  rw [hRX] at CD0
  rw [hRY] at CD1
  rw [hRC] at CCO
  rw [hTK] at CLX
  have HR := Lib.hid hr
  have HKB := Lib.hid hkb
  obtain ⟨m, hm⟩ : ∃ m, cols.length = m := ⟨_, rfl⟩
  have hcm : cols ≠ [] ↔ 0 < m := by rw [← hm]; exact List.length_pos_iff.symm
  rw [hm] at CCO CD0 CD1
  have HCM := Lib.hid hcm
  have HHN : Hid (m = 0 → headB cols = false) := Lib.hid (fun h => by
    have : cols = [] := List.eq_nil_of_length_eq_zero (by rw [hm]; exact h)
    rw [this]; rfl)
  have hcap : m ≤ cap := by rw [← hm]; exact hO.c1
  have hcp2 : cap ≤ 9223372036854775807 := hO.c2
  obtain ⟨HB, hHB⟩ : ∃ b, headB cols = b := ⟨_, rfl⟩
  rw [hHB] at HR HHD HHN
  clear hR hr hkb hRX hRY hRC hB hTK hcm hHB hO hT hS
  obtain ⟨⟨fx0, rx0, ax0, kx0⟩, ⟨fx1, rx1, ax1, kx1⟩, ⟨fx2, rx2, ax2, kx2⟩, ⟨fx3, rx3, ax3, kx3⟩⟩ := dx
  obtain ⟨⟨fy0, ry0, ay0, ky0⟩, ⟨fy1, ry1, ay1, ky1⟩, ⟨fy2, ry2, ay2, ky2⟩, ⟨fy3, ry3, ay3, ky3⟩⟩ := dy
  simp only [tbV, drV, ceV, List.cons_append, List.nil_append, hm] at CD0 CD1 ⊢
  clear hm
  generalize str nm = S at *
  generalize rx0.length = nx0 at *
  generalize rx1.length = nx1 at *
  generalize rx2.length = nx2 at *
  generalize rx3.length = nx3 at *
  generalize ry0.length = ny0 at *
  generalize ry1.length = ny1 at *
  generalize ry2.length = ny2 at *
  generalize ry3.length = ny3 at *
  have zt : Blk _ _ _ [_, _, _, _, _, _, _, _, _, _, _, _, _, _, _, _, _, _, _] := Blk.new w #[.bool th, .string S, .slice ao m cap, .bool fx0, .slice ax0 nx0 kx0, .bool fx1, .slice ax1 nx1 kx1, .bool fx2, .slice ax2 nx2 kx2, .bool fx3, .slice ax3 nx3 kx3, .bool fy0, .slice ay0 ny0 ky0, .bool fy1, .slice ay1 ny1 ky1, .bool fy2, .slice ay2 ny2 ky2, .bool fy3, .slice ay3 ny3 ky3] 29
  have hbt := (Below.refl w.heap.size w).alloc (Nat.le_refl _) (.cells #[.bool th, .string S, .slice ao m cap, .bool fx0, .slice ax0 nx0 kx0, .bool fx1, .slice ax1 nx1 kx1, .bool fx2, .slice ax2 nx2 kx2, .bool fx3, .slice ax3 nx3 kx3, .bool fy0, .slice ay0 ny0 ky0, .bool fy1, .slice ay1 ny1 ky1, .bool fy2, .slice ay2 ny2 ky2, .bool fy3, .slice ay3 ny3 ky3] 29)
  obtain ⟨w1, hw1⟩ : ∃ W, w.alloc (.cells #[.bool th, .string S, .slice ao m cap, .bool fx0, .slice ax0 nx0 kx0, .bool fx1, .slice ax1 nx1 kx1, .bool fx2, .slice ax2 nx2 kx2, .bool fx3, .slice ax3 nx3 kx3, .bool fy0, .slice ay0 ny0 ky0, .bool fy1, .slice ay1 ny1 ky1, .bool fy2, .slice ay2 ny2 ky2, .bool fy3, .slice ay3 ny3 ky3] 29) = W := ⟨_, rfl⟩
  rw [hw1] at zt hbt
  obtain ⟨bt, hbn⟩ : ∃ x, w.heap.size = x := ⟨_, rfl⟩
  rw [hbn] at zt
  have HZT := Lib.hid zt
  have HW1 := Lib.hid hw1
  have HBN := Lib.hid hbn
  have HBT := Lib.hid hbt
  clear zt hw1 hbn hbt
  go_enter Tryd.func9, Tryd.ntmps9
  go_upto_region 1 with fail
  rw [HW1.out, HBN.out]
  have q0 := HZT.out.cell (j := 0) rfl
  cases th with
  | false =>
    have hr : R = 5 := by rw [HR.out, if_pos rfl]
    have HRR := Lib.hid hr
    clear hr
    go_wp2_with fail
    go_ret
    exact ⟨by rw [HRR.out]; first | done | rfl, HBT.out⟩
  | true =>
    have hr := HR.out
    rw [if_neg (by decide)] at hr
    have HR2 := Lib.hid hr
    have q1 := HZT.out.cell (j := 1) rfl
    have cL := CLX.out w1 HBT.out
    clear hr
    go_wp2_with fail
    refine cL.mono ?_
    rintro e w2 ⟨rfl, hb2⟩
    have HB2 := Lib.hid (below_stepL HBT.out HBT.out.size hb2)
    have HZ2 := Lib.hid (HZT.out.call hb2)
    clear cL hb2 q0 q1
    by_cases hB : TK = 0
    · have hBt : B = true := by rw [← HKB.out, hB]; rfl
      subst hB
      have hr := HR2.out
      rw [hBt, if_neg (by decide)] at hr
      have HR3 := Lib.hid hr
      have q2 := HZ2.out.cell (j := 2) rfl
      have cC := CCO.out w2 HB2.out
      clear hr hBt
      go_wp2_with fail
      refine cC.mono ?_
      rintro e w3 ⟨rfl, hb3⟩
      have HB3 := Lib.hid (below_stepL HB2.out HB2.out.size hb3)
      have HZ3 := Lib.hid (HZ2.out.call hb3)
      clear cC hb3 q2
      by_cases hC : RC = 0
      · have hr := HR3.out
        rw [if_neg (fun h => h hC)] at hr
        have HR4 := Lib.hid hr
        subst hC
        have q2 := HZ3.out.cell (j := 2) rfl
        clear hr
        rcases Nat.eq_zero_or_pos m with hm0 | hm0
        · have hr : R = 3 := by rw [HR4.out, if_pos (HHN.out hm0)]
          have HRR := Lib.hid hr
          subst hm0
          clear hr
          go_wp2_with fail
          go_ret
          exact ⟨by rw [HRR.out]; first | done | rfl, HB3.out⟩
        · have hne := HCM.out.2 hm0
          obtain ⟨g, o, k, nl, hao, hg, g1, g2, g3⟩ := HHD.out hne
          have d1 := (HB3.out.cell (p := ⟨g, o + 1, none⟩) hg).trans g1
          have d2 := (HB3.out.cell (p := ⟨g, o + 2, none⟩) hg).trans g2
          have HNE := Lib.hid hne
          have HG3 := Lib.hid g3
          subst hao
          have i0 : ¬ m = 0 := by omega
          have i1 : (0 : Int) < (m : Int) := by omega
          have i2 : ¬ (m : Int) = 0 := by omega
          have i3 : ((m : Int) == 0) = false := beq_eq_false_iff_ne.2 (by omega)
          clear g1 g2 g3 hne hg
          by_cases hk : k = 2
          · cases nl with
            | true =>
              have hr : R = 3 := by rw [HR4.out, if_pos (by rw [HG3.out]; simp)]
              have HRR := Lib.hid hr
              subst hk
              clear hr
              go_wp2_with fail
              go_ret
              exact ⟨by rw [HRR.out]; first | done | rfl, HB3.out⟩
            | false =>
              have hr : R = if RX ≠ 0 then RX else RY := by rw [HR4.out, if_neg (by rw [HG3.out, hk]; decide)]
              have HRR := Lib.hid hr
              subst hk
              clear hr
              have q3 := HZ3.out.cell (j := 3) rfl
              have q4 := HZ3.out.cell (j := 4) rfl
              have q5 := HZ3.out.cell (j := 5) rfl
              have q6 := HZ3.out.cell (j := 6) rfl
              have q7 := HZ3.out.cell (j := 7) rfl
              have q8 := HZ3.out.cell (j := 8) rfl
              have q9 := HZ3.out.cell (j := 9) rfl
              have q10 := HZ3.out.cell (j := 10) rfl
              have q11 := HZ3.out.cell (j := 11) rfl
              have q12 := HZ3.out.cell (j := 12) rfl
              have q13 := HZ3.out.cell (j := 13) rfl
              have q14 := HZ3.out.cell (j := 14) rfl
              have q15 := HZ3.out.cell (j := 15) rfl
              have q16 := HZ3.out.cell (j := 16) rfl
              have q17 := HZ3.out.cell (j := 17) rfl
              have q18 := HZ3.out.cell (j := 18) rfl
              have x0 := fun W => ixD_0 (.bool fx0) (.slice ax0 nx0 kx0) (.bool fx1) (.slice ax1 nx1 kx1) (.bool fx2) (.slice ax2 nx2 kx2) (.bool fx3) (.slice ax3 nx3 kx3) (.bool fy0) (.slice ay0 ny0 ky0) (.bool fy1) (.slice ay1 ny1 ky1) (.bool fy2) (.slice ay2 ny2 ky2) (.bool fy3) (.slice ay3 ny3 ky3) W
              have x1 := fun W => ixD_1 (.bool fx0) (.slice ax0 nx0 kx0) (.bool fx1) (.slice ax1 nx1 kx1) (.bool fx2) (.slice ax2 nx2 kx2) (.bool fx3) (.slice ax3 nx3 kx3) (.bool fy0) (.slice ay0 ny0 ky0) (.bool fy1) (.slice ay1 ny1 ky1) (.bool fy2) (.slice ay2 ny2 ky2) (.bool fy3) (.slice ay3 ny3 ky3) W
              go_upto_region 11 with fail
              clear d1 d2 q2 q3 q4 q5 q6 q7 q8 q9 q10 q11 q12 q13 q14 q15 q16 q17 q18
              go_loopw [42] (fun ix wr => ∃ (j : Nat), j ≤ 2 ∧ ix = .int .i64 j ∧ Hid (1 ≤ j → RX = 0) ∧ Hid (2 ≤ j → RY = 0) ∧ Hid (Below w3.heap.size w3 wr)) (fun ix _ => 2 - (intOf ix).toNat)
              case atStart => exact ⟨0, Nat.zero_le _, rfl, Lib.hid (fun h => by omega), Lib.hid (fun h => by omega), Lib.hid (Below.refl _ _)⟩
              case round =>
                obtain ⟨j, hj, rfl, hx0, hy0, hbw⟩ := hrel
                rcases (show j = 0 ∨ j = 1 ∨ j = 2 by omega) with rfl | rfl | rfl
                · have z5 : Blk _ _ _ [_, _, _, _, _, _, _, _] := Blk.new wr #[.bool fx0, .slice ax0 nx0 kx0, .bool fx1, .slice ax1 nx1 kx1, .bool fx2, .slice ax2 nx2 kx2, .bool fx3, .slice ax3 nx3 kx3] 26
                  have hb5 := (Below.refl wr.heap.size wr).alloc (Nat.le_refl _) (.cells #[.bool fx0, .slice ax0 nx0 kx0, .bool fx1, .slice ax1 nx1 kx1, .bool fx2, .slice ax2 nx2 kx2, .bool fx3, .slice ax3 nx3 kx3] 26)
                  obtain ⟨wa, hwa⟩ : ∃ W, wr.alloc (.cells #[.bool fx0, .slice ax0 nx0 kx0, .bool fx1, .slice ax1 nx1 kx1, .bool fx2, .slice ax2 nx2 kx2, .bool fx3, .slice ax3 nx3 kx3] 26) = W := ⟨_, rfl⟩
                  rw [hwa] at z5 hb5
                  obtain ⟨m5, hm5⟩ : ∃ x, wr.heap.size = x := ⟨_, rfl⟩
                  rw [hm5] at z5
                  have HBA := Lib.hid (below_stepL hbw.out hbw.out.size hb5)
                  have HWA := Lib.hid hwa
                  have HM5 := Lib.hid hm5
                  have p2 := (HZ3.out.call HBA.out).cell (j := 2) rfl
                  have y0 := z5.cell (j := 0) rfl
                  have y1 := z5.cell (j := 1) rfl
                  have y2 := z5.cell (j := 2) rfl
                  have y3 := z5.cell (j := 3) rfl
                  have y4 := z5.cell (j := 4) rfl
                  have y5 := z5.cell (j := 5) rfl
                  have y6 := z5.cell (j := 6) rfl
                  have y7 := z5.cell (j := 7) rfl
                  have cD := CD0.out HNE.out wa (below_stepL HB3.out HB3.out.size HBA.out)
                  clear hwa hm5 z5 hb5 hbw
                  go_upto_region 13 with fail
                  rw [HWA.out, HM5.out]
                  go_wp2_with fail
                  refine cD.mono ?_
                  rintro e w5 ⟨rfl, hb6⟩
                  have HB6 := Lib.hid (below_stepL HBA.out HBA.out.size hb6)
                  clear cD hb6 p2 y0 y1 y2 y3 y4 y5 y6 y7 HWA HM5
                  by_cases hz : RX = 0
                  · have HX1 : Hid (1 ≤ 1 → RX = 0) := Lib.hid (fun _ => hz)
                    have HY1 : Hid (2 ≤ 1 → RY = 0) := Lib.hid (fun h => by omega)
                    clear hx0 hy0
                    go_wp2_with fail
                    go_roundw
                    case rel => exact ⟨1, by omega, by go_num, HX1, HY1, HB6⟩
                    case measure => simp [intOf]
                  · have hr : R = RX := by rw [HRR.out]; exact if_pos hz
                    have HRZ := Lib.hid hr
                    clear hr
                    go_wp2_with fail
                    go_ret
                    exact ⟨by rw [HRZ.out]; first | done | rfl, below_stepL HB3.out HB3.out.size HB6.out⟩
                · have z5 : Blk _ _ _ [_, _, _, _, _, _, _, _] := Blk.new wr #[.bool fy0, .slice ay0 ny0 ky0, .bool fy1, .slice ay1 ny1 ky1, .bool fy2, .slice ay2 ny2 ky2, .bool fy3, .slice ay3 ny3 ky3] 26
                  have hb5 := (Below.refl wr.heap.size wr).alloc (Nat.le_refl _) (.cells #[.bool fy0, .slice ay0 ny0 ky0, .bool fy1, .slice ay1 ny1 ky1, .bool fy2, .slice ay2 ny2 ky2, .bool fy3, .slice ay3 ny3 ky3] 26)
                  obtain ⟨wa, hwa⟩ : ∃ W, wr.alloc (.cells #[.bool fy0, .slice ay0 ny0 ky0, .bool fy1, .slice ay1 ny1 ky1, .bool fy2, .slice ay2 ny2 ky2, .bool fy3, .slice ay3 ny3 ky3] 26) = W := ⟨_, rfl⟩
                  rw [hwa] at z5 hb5
                  obtain ⟨m5, hm5⟩ : ∃ x, wr.heap.size = x := ⟨_, rfl⟩
                  rw [hm5] at z5
                  have HBA := Lib.hid (below_stepL hbw.out hbw.out.size hb5)
                  have HWA := Lib.hid hwa
                  have HM5 := Lib.hid hm5
                  have p2 := (HZ3.out.call HBA.out).cell (j := 2) rfl
                  have y0 := z5.cell (j := 0) rfl
                  have y1 := z5.cell (j := 1) rfl
                  have y2 := z5.cell (j := 2) rfl
                  have y3 := z5.cell (j := 3) rfl
                  have y4 := z5.cell (j := 4) rfl
                  have y5 := z5.cell (j := 5) rfl
                  have y6 := z5.cell (j := 6) rfl
                  have y7 := z5.cell (j := 7) rfl
                  have cD := CD1.out HNE.out wa (below_stepL HB3.out HB3.out.size HBA.out)
                  clear hwa hm5 z5 hb5 hbw
                  go_upto_region 13 with fail
                  rw [HWA.out, HM5.out]
                  go_wp2_with fail
                  refine cD.mono ?_
                  rintro e w5 ⟨rfl, hb6⟩
                  have HB6 := Lib.hid (below_stepL HBA.out HBA.out.size hb6)
                  clear cD hb6 p2 y0 y1 y2 y3 y4 y5 y6 y7 HWA HM5
                  by_cases hz : RY = 0
                  · have HX1 : Hid (1 ≤ 2 → RX = 0) := Lib.hid (fun _ => hx0.out (by omega))
                    have HY1 : Hid (2 ≤ 2 → RY = 0) := Lib.hid (fun _ => hz)
                    clear hx0 hy0
                    go_wp2_with fail
                    go_roundw
                    case rel => exact ⟨2, by omega, by go_num, HX1, HY1, HB6⟩
                    case measure => simp [intOf]
                  · have hr : R = RY := by rw [HRR.out]; exact if_neg (fun h => h (hx0.out (by omega)))
                    have HRZ := Lib.hid hr
                    clear hr
                    go_wp2_with fail
                    go_ret
                    exact ⟨by rw [HRZ.out]; first | done | rfl, below_stepL HB3.out HB3.out.size HB6.out⟩
                · have hr : R = 0 := by rw [HRR.out, if_neg (fun h => h (hx0.out (by omega)))]; exact hy0.out (by omega)
                  have HRZ := Lib.hid hr
                  clear hr
                  go_wp2_with fail
                  go_ret
                  exact ⟨by rw [HRZ.out]; first | done | rfl, below_stepL HB3.out HB3.out.size hbw.out⟩
          · have hr : R = 3 := by rw [HR4.out, if_pos (by rw [HG3.out]; simp [hk])]
            have HRR := Lib.hid hr
            clear hr
            go_wp2_with fail
            go_ret
            exact ⟨by rw [HRR.out]; first | done | rfl, HB3.out⟩
      · have hr : R = RC := by rw [HR3.out, if_pos hC]
        have HRR := Lib.hid hr
        clear hr
        go_wp2_with fail
        go_ret
        exact ⟨by rw [HRR.out]; first | done | rfl, HB3.out⟩
    · have hBf : B = false := by
        rw [← HKB.out]
        simpa using hB
      have hr : R = 3 := by rw [HR2.out, if_pos hBf]
      have HRR := Lib.hid hr
      clear hr hBf
      go_wp2_with fail
      go_ret
      exact ⟨by rw [HRR.out]; first | done | rfl, HB2.out⟩
end Go.Proofs.YtpneoaehkibdeaaDoor
