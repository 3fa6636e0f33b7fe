/-
  CONTRACT of the reference's TableFault.
  CONDITIONS: each theorem's own hypotheses.
-/
import Derived.Test.YtpneoaehkibdeaaDoorTabD
import Derived.Test.YtpneoaehkibdeaaDoorKindS
namespace Go.Proofs.YtpneoaehkibdeaaDoor
open Go.RowKit
set_option linter.unusedVariables false
set_option maxRecDepth 100000

set_option maxHeartbeats 16000000 in
theorem tabFault_any (t : Tb) (w : World) (hO : TbOk w t) (hT : Tabs w) (hS : SW w) :
    Calls Tryd.prog 10 #[.agg (tbV t).toArray] w fun e w' => e = .returned (.int .i64 (tabR t)) ∧ Below w.heap.size w w' := by
  have CLX : Hid (∀ W, _) := Lib.hid (fun W => isNameRef_any t.name W hO.nm)
  have CCO : Hid (∀ W, Below w.heap.size w W → _) := Lib.hid (fun W h => columnsFault_any t.cols t.ao t.cap W hO.c1 hO.c2 (hO.C.keep h))
  have CRF : Hid (∀ c : Ce, CeOk w c → ∀ W, Below w.heap.size w W → _) := Lib.hid (fun c hc W h => rowFault_any c.row c.ao c.cap t.cols t.ao t.cap W hc.1 hc.2.1 (hc.2.2.keep h) hO.c1 hO.c2 (hO.C.keep h) (tabs_below hT h))
  have CKX : Hid (t.cols ≠ [] → cellsR t.cols (drL t.d0) = 0 → ∀ W, Below w.heap.size w W → _) := Lib.hid (fun hne h0 W h => keysRef_any t.d0 W (hO.D0.keep h) (rows_of hne h0))
  have CKY : Hid (t.cols ≠ [] → cellsR t.cols (drL t.d1) = 0 → ∀ W, Below w.heap.size w W → _) := Lib.hid (fun hne h0 W h => keysRef_any t.d1 W (hO.D1.keep h) (rows_of hne h0))
  have HDX := Lib.hid hO.D0
  have HDY := Lib.hid hO.D1
  have HHD : Hid (t.cols ≠ [] → ∃ (g o : Nat) (k : Int) (nl : Bool), t.ao = some ⟨g, o, none⟩ ∧ g < w.heap.size ∧ w.cell? ⟨g, o + 1, none⟩ = some (.int .i64 k) ∧ w.cell? ⟨g, o + 2, none⟩ = some (.bool nl) ∧ headB t.cols = (k == 2 && !nl)) := Lib.hid (fun hne => head_facts hO.C hne)
  obtain ⟨th, nm, cols, ao, cap, dx, dy⟩ := t
  obtain ⟨R, hR⟩ : ∃ R, tabR ⟨th, nm, cols, ao, cap, dx, dy⟩ = R := ⟨_, rfl⟩
  have hr := hR.symm
  rw [hR]
  unfold tabR at hr
  simp only at hr CLX CCO CRF CKX CKY HDX HDY HHD
  obtain ⟨RX, hRX⟩ : ∃ R, drawR cols (drL dx) = R := ⟨_, rfl⟩
  obtain ⟨RY, hRY⟩ : ∃ R, drawR cols (drL dy) = R := ⟨_, rfl⟩
  obtain ⟨RC, hRC⟩ : ∃ R, colsR cols = R := ⟨_, rfl⟩
  obtain ⟨B, hB⟩ : ∃ B, (nameB nm && decide (nm.length ≤ 8)) = B := ⟨_, rfl⟩
  rw [hRX, hRY, hRC, hB] at hr
  obtain ⟨NB, hNB⟩ : ∃ b, nameB nm = b := ⟨_, rfl⟩
  rw [hNB] at hB CLX
  have hsz : ((str nm).size : Int) = (nm.length : Int) := by rw [str_size]
  obtain ⟨nl, hnl⟩ : ∃ n, nm.length = n := ⟨_, rfl⟩
  rw [hnl] at hB hsz
  obtain ⟨RXC, hXC⟩ : ∃ R, cellsR cols (drL dx) = R := ⟨_, rfl⟩
  obtain ⟨RYC, hYC⟩ : ∃ R, cellsR cols (drL dy) = R := ⟨_, rfl⟩
  obtain ⟨RXK, hXK⟩ : ∃ R, keysG [] (drL dx) = R := ⟨_, rfl⟩
  obtain ⟨RYK, hYK⟩ : ∃ R, keysG [] (drL dy) = R := ⟨_, rfl⟩
  have hxx : RX = if RXC ≠ 0 then RXC else RXK := by rw [← hRX, drawR, hXC, hXK]
  have hyy : RY = if RYC ≠ 0 then RYC else RYK := by rw [← hRY, drawR, hYC, hYK]
  rw [hXC, hXK] at CKX
  rw [hYC, hYK] at CKY
  have HXX := Lib.hid hxx
  have HYY := Lib.hid hyy
  obtain ⟨LX, hLX⟩ : ∃ l, drL dx = l := ⟨_, rfl⟩
  obtain ⟨LY, hLY⟩ : ∃ l, drL dy = l := ⟨_, rfl⟩
  rw [hLX] at hXC
  rw [hLY] at hYC
  have HXC : Hid (cellsR cols (LX.drop 0) = RXC) := Lib.hid hXC
  have HYC : Hid (cellsR cols (LY.drop 0) = RYC) := Lib.hid hYC
  have HLX : Hid (LX = drL dx) := Lib.hid hLX.symm
  have HLLX : Hid (LX.length = 4) := Lib.hid (by rw [← hLX]; rfl)
  have HLLY : Hid (LY.length = 4) := Lib.hid (by rw [← hLY]; rfl)
  have HLY : Hid (LY = drL dy) := Lib.hid hLY.symm
  have HCRX := Lib.hid (fun (j : Nat) (c : Ce) (h : LX[j]? = some c) => cellsR_cons cols LX j c h)
  have HCRY := Lib.hid (fun (j : Nat) (c : Ce) (h : LY[j]? = some c) => cellsR_cons cols LY j c h)
  rw [hRC] at CCO
  have HR := Lib.hid hr
  have HBB := Lib.hid hB
  obtain ⟨m, hm⟩ : ∃ m, cols.length = m := ⟨_, rfl⟩
  have hcm : cols ≠ [] ↔ 0 < m := by rw [← hm]; exact List.length_pos_iff.symm
  rw [hm] at CCO CRF
  have HCM := Lib.hid hcm
  have HHN : Hid (m = 0 → headB cols = false) := Lib.hid (fun h => by
    have : cols = [] := List.eq_nil_of_length_eq_zero (by rw [hm]; exact h)
    rw [this]; rfl)
  have hcap : m ≤ cap := by rw [← hm]; exact hO.c1
  have hcp2 : cap ≤ 9223372036854775807 := hO.c2
  obtain ⟨HB, hHB⟩ : ∃ b, headB cols = b := ⟨_, rfl⟩
  rw [hHB] at HR HHD HHN
  clear hR hr hxx hyy hLX hLY hXC hYC hXK hYK hNB hnl hRX hRY hRC hB hcm hHB hO hT hS
  obtain ⟨⟨fx0, rx0, ax0, kx0⟩, ⟨fx1, rx1, ax1, kx1⟩, ⟨fx2, rx2, ax2, kx2⟩, ⟨fx3, rx3, ax3, kx3⟩⟩ := dx
  obtain ⟨⟨fy0, ry0, ay0, ky0⟩, ⟨fy1, ry1, ay1, ky1⟩, ⟨fy2, ry2, ay2, ky2⟩, ⟨fy3, ry3, ay3, ky3⟩⟩ := dy
  simp only [tbV, drV, ceV, List.cons_append, List.nil_append, hm] at CKX CKY ⊢
  clear hm
  generalize str nm = S at *
  have HGX0 : Hid (LX[0]? = some ⟨fx0, rx0, ax0, kx0⟩) := Lib.hid (by rw [HLX.out]; rfl)
  have hcc := CRF.out ⟨fx0, rx0, ax0, kx0⟩ HDX.out.1
  simp only at hcc
  obtain ⟨nx0, hn⟩ : ∃ n, rx0.length = n := ⟨_, rfl⟩
  rw [hn] at hcc CKX ⊢
  have HNX0 := Lib.hid hn
  have CRX0 := Lib.hid hcc
  clear hn hcc
  have HGX1 : Hid (LX[1]? = some ⟨fx1, rx1, ax1, kx1⟩) := Lib.hid (by rw [HLX.out]; rfl)
  have hcc := CRF.out ⟨fx1, rx1, ax1, kx1⟩ HDX.out.2.1
  simp only at hcc
  obtain ⟨nx1, hn⟩ : ∃ n, rx1.length = n := ⟨_, rfl⟩
  rw [hn] at hcc CKX ⊢
  have HNX1 := Lib.hid hn
  have CRX1 := Lib.hid hcc
  clear hn hcc
  have HGX2 : Hid (LX[2]? = some ⟨fx2, rx2, ax2, kx2⟩) := Lib.hid (by rw [HLX.out]; rfl)
  have hcc := CRF.out ⟨fx2, rx2, ax2, kx2⟩ HDX.out.2.2.1
  simp only at hcc
  obtain ⟨nx2, hn⟩ : ∃ n, rx2.length = n := ⟨_, rfl⟩
  rw [hn] at hcc CKX ⊢
  have HNX2 := Lib.hid hn
  have CRX2 := Lib.hid hcc
  clear hn hcc
  have HGX3 : Hid (LX[3]? = some ⟨fx3, rx3, ax3, kx3⟩) := Lib.hid (by rw [HLX.out]; rfl)
  have hcc := CRF.out ⟨fx3, rx3, ax3, kx3⟩ HDX.out.2.2.2
  simp only at hcc
  obtain ⟨nx3, hn⟩ : ∃ n, rx3.length = n := ⟨_, rfl⟩
  rw [hn] at hcc CKX ⊢
  have HNX3 := Lib.hid hn
  have CRX3 := Lib.hid hcc
  clear hn hcc
  have HGY0 : Hid (LY[0]? = some ⟨fy0, ry0, ay0, ky0⟩) := Lib.hid (by rw [HLY.out]; rfl)
  have hcc := CRF.out ⟨fy0, ry0, ay0, ky0⟩ HDY.out.1
  simp only at hcc
  obtain ⟨ny0, hn⟩ : ∃ n, ry0.length = n := ⟨_, rfl⟩
  rw [hn] at hcc CKY ⊢
  have HNY0 := Lib.hid hn
  have CRY0 := Lib.hid hcc
  clear hn hcc
  have HGY1 : Hid (LY[1]? = some ⟨fy1, ry1, ay1, ky1⟩) := Lib.hid (by rw [HLY.out]; rfl)
  have hcc := CRF.out ⟨fy1, ry1, ay1, ky1⟩ HDY.out.2.1
  simp only at hcc
  obtain ⟨ny1, hn⟩ : ∃ n, ry1.length = n := ⟨_, rfl⟩
  rw [hn] at hcc CKY ⊢
  have HNY1 := Lib.hid hn
  have CRY1 := Lib.hid hcc
  clear hn hcc
  have HGY2 : Hid (LY[2]? = some ⟨fy2, ry2, ay2, ky2⟩) := Lib.hid (by rw [HLY.out]; rfl)
  have hcc := CRF.out ⟨fy2, ry2, ay2, ky2⟩ HDY.out.2.2.1
  simp only at hcc
  obtain ⟨ny2, hn⟩ : ∃ n, ry2.length = n := ⟨_, rfl⟩
  rw [hn] at hcc CKY ⊢
  have HNY2 := Lib.hid hn
  have CRY2 := Lib.hid hcc
  clear hn hcc
  have HGY3 : Hid (LY[3]? = some ⟨fy3, ry3, ay3, ky3⟩) := Lib.hid (by rw [HLY.out]; rfl)
  have hcc := CRF.out ⟨fy3, ry3, ay3, ky3⟩ HDY.out.2.2.2
  simp only at hcc
  obtain ⟨ny3, hn⟩ : ∃ n, ry3.length = n := ⟨_, rfl⟩
  rw [hn] at hcc CKY ⊢
  have HNY3 := Lib.hid hn
  have CRY3 := Lib.hid hcc
  clear hn hcc
  clear CRF HDX HDY HLX HLY
  have zt : Blk _ _ _ [_, _, _, _, _, _, _, _, _, _, _, _, _, _, _, _, _, _, _] := Blk.new w #[.bool th, .string S, .slice ao m cap, .bool fx0, .slice ax0 nx0 kx0, .bool fx1, .slice ax1 nx1 kx1, .bool fx2, .slice ax2 nx2 kx2, .bool fx3, .slice ax3 nx3 kx3, .bool fy0, .slice ay0 ny0 ky0, .bool fy1, .slice ay1 ny1 ky1, .bool fy2, .slice ay2 ny2 ky2, .bool fy3, .slice ay3 ny3 ky3] 29
  have hbt := (Below.refl w.heap.size w).alloc (Nat.le_refl _) (.cells #[.bool th, .string S, .slice ao m cap, .bool fx0, .slice ax0 nx0 kx0, .bool fx1, .slice ax1 nx1 kx1, .bool fx2, .slice ax2 nx2 kx2, .bool fx3, .slice ax3 nx3 kx3, .bool fy0, .slice ay0 ny0 ky0, .bool fy1, .slice ay1 ny1 ky1, .bool fy2, .slice ay2 ny2 ky2, .bool fy3, .slice ay3 ny3 ky3] 29)
  obtain ⟨w1, hw1⟩ : ∃ W, w.alloc (.cells #[.bool th, .string S, .slice ao m cap, .bool fx0, .slice ax0 nx0 kx0, .bool fx1, .slice ax1 nx1 kx1, .bool fx2, .slice ax2 nx2 kx2, .bool fx3, .slice ax3 nx3 kx3, .bool fy0, .slice ay0 ny0 ky0, .bool fy1, .slice ay1 ny1 ky1, .bool fy2, .slice ay2 ny2 ky2, .bool fy3, .slice ay3 ny3 ky3] 29) = W := ⟨_, rfl⟩
  rw [hw1] at zt hbt
  obtain ⟨bt, hbn⟩ : ∃ x, w.heap.size = x := ⟨_, rfl⟩
  rw [hbn] at zt
  have HZT := Lib.hid zt
  have HW1 := Lib.hid hw1
  have HBN := Lib.hid hbn
  have HBT := Lib.hid hbt
  clear zt hw1 hbn hbt
  go_enter Tryd.func10, Tryd.ntmps10
  go_upto_region 1 with fail
  rw [HW1.out, HBN.out]
  have q0 := HZT.out.cell (j := 0) rfl
  cases th with
  | false =>
    have hr : R = 5 := by rw [HR.out, if_pos rfl]
    have HRR := Lib.hid hr
    clear hr
    go_wp2_with fail
    go_ret
    exact ⟨by rw [HRR.out]; first | done | rfl, HBT.out⟩
  | true =>
    have hr := HR.out
    rw [if_neg (by decide)] at hr
    have HR2 := Lib.hid hr
    have q1 := HZT.out.cell (j := 1) rfl
    have cL := CLX.out w1
    clear hr
    by_cases hB : B = true
    · have hnb : NB = true := by
        have := HBB.out
        rw [hB] at this
        simp only [Bool.and_eq_true] at this
        exact this.1
      have hnl : ¬ (8 : Int) < (S.size : Int) := by
        have := HBB.out
        rw [hB] at this
        simp only [Bool.and_eq_true, decide_eq_true_eq] at this
        rw [hsz]; omega
      have hnlb : decide ((8 : Int) < (S.size : Int)) = false := decide_eq_false hnl
      subst hnb
      have hr := HR2.out
      rw [hB, if_neg (by decide)] at hr
      have HR3 := Lib.hid hr
      clear hr hB hsz
      go_wp2_with fail
      refine cL.mono ?_
      rintro e w2 ⟨rfl, hw2⟩
      subst hw2
      have HB2 := HBT
      have HZ2 := HZT
      clear cL q0
      have q2 := HZ2.out.cell (j := 2) rfl
      have cC := CCO.out _ HB2.out
      go_wp2_with fail
      refine cC.mono ?_
      rintro e w3 ⟨rfl, hb3⟩
      have HB3 := Lib.hid (below_stepL HB2.out HB2.out.size hb3)
      have HZ3 := Lib.hid (HZ2.out.call hb3)
      clear cC hb3 q2
      by_cases hC : RC = 0
      · have hr := HR3.out
        rw [if_neg (fun h => h hC)] at hr
        have HR4 := Lib.hid hr
        subst hC
        have q2 := HZ3.out.cell (j := 2) rfl
        clear hr
        rcases Nat.eq_zero_or_pos m with hm0 | hm0
        · have hr : R = 3 := by rw [HR4.out, if_pos (HHN.out hm0)]
          have HRR := Lib.hid hr
          subst hm0
          clear hr
          go_wp2_with fail
          go_ret
          exact ⟨by rw [HRR.out]; first | done | rfl, HB3.out⟩
        · have hne := HCM.out.2 hm0
          obtain ⟨g, o, k, nl, hao, hg, g1, g2, g3⟩ := HHD.out hne
          have d1 := (HB3.out.cell (p := ⟨g, o + 1, none⟩) hg).trans g1
          have d2 := (HB3.out.cell (p := ⟨g, o + 2, none⟩) hg).trans g2
          have HNE := Lib.hid hne
          have HG3 := Lib.hid g3
          subst hao
          have i0 : ¬ m = 0 := by omega
          have i1 : (0 : Int) < (m : Int) := by omega
          have i2 : ¬ (m : Int) = 0 := by omega
          have i3 : ((m : Int) == 0) = false := beq_eq_false_iff_ne.2 (by omega)
          clear g1 g2 g3 hne hg
          by_cases hk : k = 2
          · cases nl with
            | true =>
              have hr : R = 3 := by rw [HR4.out, if_pos (by rw [HG3.out]; simp)]
              have HRR := Lib.hid hr
              subst hk
              clear hr
              go_wp2_with fail
              go_ret
              exact ⟨by rw [HRR.out]; first | done | rfl, HB3.out⟩
            | false =>
              have hr : R = if RX ≠ 0 then RX else RY := by rw [HR4.out, if_neg (by rw [HG3.out, hk]; decide)]
              have HRR := Lib.hid hr
              subst hk
              clear hr
              have q3 := HZ3.out.cell (j := 3) rfl
              have q4 := HZ3.out.cell (j := 4) rfl
              have q5 := HZ3.out.cell (j := 5) rfl
              have q6 := HZ3.out.cell (j := 6) rfl
              have q7 := HZ3.out.cell (j := 7) rfl
              have q8 := HZ3.out.cell (j := 8) rfl
              have q9 := HZ3.out.cell (j := 9) rfl
              have q10 := HZ3.out.cell (j := 10) rfl
              have q11 := HZ3.out.cell (j := 11) rfl
              have q12 := HZ3.out.cell (j := 12) rfl
              have q13 := HZ3.out.cell (j := 13) rfl
              have q14 := HZ3.out.cell (j := 14) rfl
              have q15 := HZ3.out.cell (j := 15) rfl
              have q16 := HZ3.out.cell (j := 16) rfl
              have q17 := HZ3.out.cell (j := 17) rfl
              have q18 := HZ3.out.cell (j := 18) rfl
              have x0 := fun W => ixD_0 (.bool fx0) (.slice ax0 nx0 kx0) (.bool fx1) (.slice ax1 nx1 kx1) (.bool fx2) (.slice ax2 nx2 kx2) (.bool fx3) (.slice ax3 nx3 kx3) (.bool fy0) (.slice ay0 ny0 ky0) (.bool fy1) (.slice ay1 ny1 ky1) (.bool fy2) (.slice ay2 ny2 ky2) (.bool fy3) (.slice ay3 ny3 ky3) W
              have x1 := fun W => ixD_1 (.bool fx0) (.slice ax0 nx0 kx0) (.bool fx1) (.slice ax1 nx1 kx1) (.bool fx2) (.slice ax2 nx2 kx2) (.bool fx3) (.slice ax3 nx3 kx3) (.bool fy0) (.slice ay0 ny0 ky0) (.bool fy1) (.slice ay1 ny1 ky1) (.bool fy2) (.slice ay2 ny2 ky2) (.bool fy3) (.slice ay3 ny3 ky3) W
              go_upto_region 11 with fail
              clear d1 d2 q2 q3 q4 q5 q6 q7 q8 q9 q10 q11 q12 q13 q14 q15 q16 q17 q18
              go_loopw [52] (fun ix wr => ∃ (j : Nat), j ≤ 2 ∧ ix = .int .i64 j ∧ Hid (1 ≤ j → RX = 0) ∧ Hid (2 ≤ j → RY = 0) ∧ Hid (Below w3.heap.size w3 wr)) (fun ix _ => 2 - (intOf ix).toNat)
              case atStart => exact ⟨0, Nat.zero_le _, rfl, Lib.hid (fun h => by omega), Lib.hid (fun h => by omega), Lib.hid (Below.refl _ _)⟩
              case round =>
                obtain ⟨j, hj, rfl, hx0, hy0, hbw⟩ := hrel
                rcases (show j = 0 ∨ j = 1 ∨ j = 2 by omega) with rfl | rfl | rfl
                · have z5 : Blk _ _ _ [_, _, _, _, _, _, _, _] := Blk.new wr #[.bool fx0, .slice ax0 nx0 kx0, .bool fx1, .slice ax1 nx1 kx1, .bool fx2, .slice ax2 nx2 kx2, .bool fx3, .slice ax3 nx3 kx3] 26
                  have hb5 := (Below.refl wr.heap.size wr).alloc (Nat.le_refl _) (.cells #[.bool fx0, .slice ax0 nx0 kx0, .bool fx1, .slice ax1 nx1 kx1, .bool fx2, .slice ax2 nx2 kx2, .bool fx3, .slice ax3 nx3 kx3] 26)
                  obtain ⟨wa, hwa⟩ : ∃ W, wr.alloc (.cells #[.bool fx0, .slice ax0 nx0 kx0, .bool fx1, .slice ax1 nx1 kx1, .bool fx2, .slice ax2 nx2 kx2, .bool fx3, .slice ax3 nx3 kx3] 26) = W := ⟨_, rfl⟩
                  rw [hwa] at z5 hb5
                  obtain ⟨m5, hm5⟩ : ∃ x, wr.heap.size = x := ⟨_, rfl⟩
                  rw [hm5] at z5
                  have HBA := Lib.hid (below_stepL hbw.out hbw.out.size hb5)
                  have HZ5 := Lib.hid z5
                  have HWA := Lib.hid hwa
                  have HM5 := Lib.hid hm5
                  have HFIN : Hid (∀ c, RXC = c → c ≠ 0 → R = c) := Lib.hid (fun c h1 h2 => by
                    have h3 : RX = c := by rw [HXX.out, h1, if_pos h2]
                    rw [HRR.out]; rw [h3, if_pos h2])
                  have HFK : Hid (∀ c, RXC = 0 → RXK = c → c ≠ 0 → R = c) := Lib.hid (fun c h0 h1 h2 => by
                    have h3 : RX = c := by rw [HXX.out, if_neg (fun h => h h0), h1]
                    rw [HRR.out]; rw [h3, if_pos h2])
                  have HFZ : Hid (RXC = 0 → RXK = 0 → RX = 0) := Lib.hid (fun h0 h1 => by rw [HXX.out, if_neg (fun h => h h0), h1])
                  have y0 := HZ5.out.cell (j := 0) rfl
                  have y1 := HZ5.out.cell (j := 1) rfl
                  have y2 := HZ5.out.cell (j := 2) rfl
                  have y3 := HZ5.out.cell (j := 3) rfl
                  have y4 := HZ5.out.cell (j := 4) rfl
                  have y5 := HZ5.out.cell (j := 5) rfl
                  have y6 := HZ5.out.cell (j := 6) rfl
                  have y7 := HZ5.out.cell (j := 7) rfl
                  have v0 := fun W => ixA_0 (.bool fx0) (.slice ax0 nx0 kx0) (.bool fx1) (.slice ax1 nx1 kx1) (.bool fx2) (.slice ax2 nx2 kx2) (.bool fx3) (.slice ax3 nx3 kx3) W
                  have v1 := fun W => ixA_1 (.bool fx0) (.slice ax0 nx0 kx0) (.bool fx1) (.slice ax1 nx1 kx1) (.bool fx2) (.slice ax2 nx2 kx2) (.bool fx3) (.slice ax3 nx3 kx3) W
                  have v2 := fun W => ixA_2 (.bool fx0) (.slice ax0 nx0 kx0) (.bool fx1) (.slice ax1 nx1 kx1) (.bool fx2) (.slice ax2 nx2 kx2) (.bool fx3) (.slice ax3 nx3 kx3) W
                  have v3 := fun W => ixA_3 (.bool fx0) (.slice ax0 nx0 kx0) (.bool fx1) (.slice ax1 nx1 kx1) (.bool fx2) (.slice ax2 nx2 kx2) (.bool fx3) (.slice ax3 nx3 kx3) W
                  clear hwa hm5 z5 hb5 hbw
                  go_upto_region 13 with fail
                  rw [HWA.out, HM5.out]
                  clear HWA HM5
                  go_upto_region 14 with fail
                  clear y0 y1 y2 y3 y4 y5 y6 y7
                  go_loopw [56] (fun ix wr => ∃ (q : Nat), q ≤ 4 ∧ ix = .int .i64 q ∧ Hid (cellsR cols (LX.drop q) = RXC) ∧ Hid (Below wa.heap.size wa wr)) (fun ix _ => 4 - (intOf ix).toNat)
                  case atStart => exact ⟨0, Nat.zero_le _, rfl, HXC, Lib.hid (Below.refl _ _)⟩
                  case round =>
                    obtain ⟨q, hq, rfl, hkq, hbq⟩ := hrel
                    rcases (show q = 0 ∨ q = 1 ∨ q = 2 ∨ q = 3 ∨ q = 4 by omega) with rfl | rfl | rfl | rfl | rfl
                    · have z7 : Blk _ _ _ [_, _] := Blk.new wr #[.bool fx0, .slice ax0 nx0 kx0] 25
                      have hb7 := (Below.refl wr.heap.size wr).alloc (Nat.le_refl _) (.cells #[.bool fx0, .slice ax0 nx0 kx0] 25)
                      obtain ⟨wb, hwb⟩ : ∃ W, wr.alloc (.cells #[.bool fx0, .slice ax0 nx0 kx0] 25) = W := ⟨_, rfl⟩
                      rw [hwb] at z7 hb7
                      obtain ⟨m7, hm7⟩ : ∃ x, wr.heap.size = x := ⟨_, rfl⟩
                      rw [hm7] at z7
                      have HBQ := Lib.hid (below_stepL hbq.out hbq.out.size hb7)
                      have hb37 := below_stepL HBA.out HBA.out.size HBQ.out
                      have p0 := z7.cell (j := 0) rfl
                      have p1 := z7.cell (j := 1) rfl
                      have p2 := (HZ3.out.call hb37).cell (j := 2) rfl
                      have hkc := HCRX.out 0 _ HGX0.out
                      rw [hkq.out] at hkc
                      have HWB := Lib.hid hwb
                      have HM7 := Lib.hid hm7
                      have cR := CRX0.out wb (below_stepL HB3.out HB3.out.size hb37)
                      unfold cellR at hkc
                      simp only at hkc
                      cases fx0 with
                      | true =>
                        rw [if_pos rfl] at hkc
                        obtain ⟨X, hX⟩ : ∃ X, rowR rx0 cols = X := ⟨_, rfl⟩
                        rw [hX] at hkc cR
                        have HKC := Lib.hid hkc
                        clear hkc hX z7 hb7 hwb hm7 hkq hbq hb37
                        go_upto_region 16 with fail
                        rw [HWB.out, HM7.out]
                        go_wp2_with fail
                        refine cR.mono ?_
                        rintro e w8 ⟨rfl, hb8⟩
                        have HB8 := Lib.hid (below_stepL HBQ.out HBQ.out.size hb8)
                        clear cR p0 p1 p2 hb8 HWB HM7
                        by_cases hx : X = 0
                        · have HK1 : Hid (cellsR cols (LX.drop 1) = RXC) := Lib.hid (by rw [HKC.out, if_neg (fun h => h hx)])
                          subst hx
                          go_wp2_with fail
                          go_roundw
                          case rel => first | exact ⟨1, by omega, by go_num, HK1, HB8⟩ | ((repeat apply Exists.intro); refine And.intro ?_ rfl; exact ⟨1, by omega, by go_num, HK1, HB8⟩)
                          case measure => simp [intOf]
                        · have hr : R = X := HFIN.out X (by rw [HKC.out, if_pos hx]) hx
                          have HRZ := Lib.hid hr
                          clear hr
                          go_wp2_with fail
                          go_ret
                          exact ⟨by rw [HRZ.out]; first | done | rfl, below_stepL HB3.out HB3.out.size (below_stepL HBA.out HBA.out.size HB8.out)⟩
                      | false =>
                        simp only [Bool.false_eq_true, if_false] at hkc
                        rw [HNX0.out] at hkc
                        have HKC := Lib.hid hkc
                        clear hkc z7 hb7 hwb hm7 hkq hbq hb37 cR
                        rcases Nat.eq_zero_or_pos nx0 with hn | hn
                        · have HK1 : Hid (cellsR cols (LX.drop 1) = RXC) := Lib.hid (by rw [HKC.out, if_neg (by omega : ¬ 0 < nx0), if_neg (by decide)])
                          subst hn
                          go_upto_region 16 with fail
                          rw [HWB.out, HM7.out]
                          go_wp2_with fail
                          go_roundw
                          case rel => first | exact ⟨1, by omega, by go_num, HK1, HBQ⟩ | ((repeat apply Exists.intro); refine And.intro ?_ rfl; exact ⟨1, by omega, by go_num, HK1, HBQ⟩)
                          case measure => simp [intOf]
                        · have hr : R = 3 := HFIN.out 3 (by rw [HKC.out, if_pos hn, if_pos (by decide)]) (by decide)
                          have HRZ := Lib.hid hr
                          have e1 : ¬ (nx0 : Int) = 0 := by omega
                          have e2 : ¬ nx0 = 0 := by omega
                          clear hr
                          go_upto_region 16 with fail
                          rw [HWB.out, HM7.out]
                          go_wp2_with fail
                          go_ret
                          exact ⟨by rw [HRZ.out]; first | done | rfl, below_stepL HB3.out HB3.out.size (below_stepL HBA.out HBA.out.size HBQ.out)⟩
                    · have z7 : Blk _ _ _ [_, _] := Blk.new wr #[.bool fx1, .slice ax1 nx1 kx1] 25
                      have hb7 := (Below.refl wr.heap.size wr).alloc (Nat.le_refl _) (.cells #[.bool fx1, .slice ax1 nx1 kx1] 25)
                      obtain ⟨wb, hwb⟩ : ∃ W, wr.alloc (.cells #[.bool fx1, .slice ax1 nx1 kx1] 25) = W := ⟨_, rfl⟩
                      rw [hwb] at z7 hb7
                      obtain ⟨m7, hm7⟩ : ∃ x, wr.heap.size = x := ⟨_, rfl⟩
                      rw [hm7] at z7
                      have HBQ := Lib.hid (below_stepL hbq.out hbq.out.size hb7)
                      have hb37 := below_stepL HBA.out HBA.out.size HBQ.out
                      have p0 := z7.cell (j := 0) rfl
                      have p1 := z7.cell (j := 1) rfl
                      have p2 := (HZ3.out.call hb37).cell (j := 2) rfl
                      have hkc := HCRX.out 1 _ HGX1.out
                      rw [hkq.out] at hkc
                      have HWB := Lib.hid hwb
                      have HM7 := Lib.hid hm7
                      have cR := CRX1.out wb (below_stepL HB3.out HB3.out.size hb37)
                      unfold cellR at hkc
                      simp only at hkc
                      cases fx1 with
                      | true =>
                        rw [if_pos rfl] at hkc
                        obtain ⟨X, hX⟩ : ∃ X, rowR rx1 cols = X := ⟨_, rfl⟩
                        rw [hX] at hkc cR
                        have HKC := Lib.hid hkc
                        clear hkc hX z7 hb7 hwb hm7 hkq hbq hb37
                        go_upto_region 16 with fail
                        rw [HWB.out, HM7.out]
                        go_wp2_with fail
                        refine cR.mono ?_
                        rintro e w8 ⟨rfl, hb8⟩
                        have HB8 := Lib.hid (below_stepL HBQ.out HBQ.out.size hb8)
                        clear cR p0 p1 p2 hb8 HWB HM7
                        by_cases hx : X = 0
                        · have HK1 : Hid (cellsR cols (LX.drop 2) = RXC) := Lib.hid (by rw [HKC.out, if_neg (fun h => h hx)])
                          subst hx
                          go_wp2_with fail
                          go_roundw
                          case rel => first | exact ⟨2, by omega, by go_num, HK1, HB8⟩ | ((repeat apply Exists.intro); refine And.intro ?_ rfl; exact ⟨2, by omega, by go_num, HK1, HB8⟩)
                          case measure => simp [intOf]
                        · have hr : R = X := HFIN.out X (by rw [HKC.out, if_pos hx]) hx
                          have HRZ := Lib.hid hr
                          clear hr
                          go_wp2_with fail
                          go_ret
                          exact ⟨by rw [HRZ.out]; first | done | rfl, below_stepL HB3.out HB3.out.size (below_stepL HBA.out HBA.out.size HB8.out)⟩
                      | false =>
                        simp only [Bool.false_eq_true, if_false] at hkc
                        rw [HNX1.out] at hkc
                        have HKC := Lib.hid hkc
                        clear hkc z7 hb7 hwb hm7 hkq hbq hb37 cR
                        rcases Nat.eq_zero_or_pos nx1 with hn | hn
                        · have HK1 : Hid (cellsR cols (LX.drop 2) = RXC) := Lib.hid (by rw [HKC.out, if_neg (by omega : ¬ 0 < nx1), if_neg (by decide)])
                          subst hn
                          go_upto_region 16 with fail
                          rw [HWB.out, HM7.out]
                          go_wp2_with fail
                          go_roundw
                          case rel => first | exact ⟨2, by omega, by go_num, HK1, HBQ⟩ | ((repeat apply Exists.intro); refine And.intro ?_ rfl; exact ⟨2, by omega, by go_num, HK1, HBQ⟩)
                          case measure => simp [intOf]
                        · have hr : R = 3 := HFIN.out 3 (by rw [HKC.out, if_pos hn, if_pos (by decide)]) (by decide)
                          have HRZ := Lib.hid hr
                          have e1 : ¬ (nx1 : Int) = 0 := by omega
                          have e2 : ¬ nx1 = 0 := by omega
                          clear hr
                          go_upto_region 16 with fail
                          rw [HWB.out, HM7.out]
                          go_wp2_with fail
                          go_ret
                          exact ⟨by rw [HRZ.out]; first | done | rfl, below_stepL HB3.out HB3.out.size (below_stepL HBA.out HBA.out.size HBQ.out)⟩
                    · have z7 : Blk _ _ _ [_, _] := Blk.new wr #[.bool fx2, .slice ax2 nx2 kx2] 25
                      have hb7 := (Below.refl wr.heap.size wr).alloc (Nat.le_refl _) (.cells #[.bool fx2, .slice ax2 nx2 kx2] 25)
                      obtain ⟨wb, hwb⟩ : ∃ W, wr.alloc (.cells #[.bool fx2, .slice ax2 nx2 kx2] 25) = W := ⟨_, rfl⟩
                      rw [hwb] at z7 hb7
                      obtain ⟨m7, hm7⟩ : ∃ x, wr.heap.size = x := ⟨_, rfl⟩
                      rw [hm7] at z7
                      have HBQ := Lib.hid (below_stepL hbq.out hbq.out.size hb7)
                      have hb37 := below_stepL HBA.out HBA.out.size HBQ.out
                      have p0 := z7.cell (j := 0) rfl
                      have p1 := z7.cell (j := 1) rfl
                      have p2 := (HZ3.out.call hb37).cell (j := 2) rfl
                      have hkc := HCRX.out 2 _ HGX2.out
                      rw [hkq.out] at hkc
                      have HWB := Lib.hid hwb
                      have HM7 := Lib.hid hm7
                      have cR := CRX2.out wb (below_stepL HB3.out HB3.out.size hb37)
                      unfold cellR at hkc
                      simp only at hkc
                      cases fx2 with
                      | true =>
                        rw [if_pos rfl] at hkc
                        obtain ⟨X, hX⟩ : ∃ X, rowR rx2 cols = X := ⟨_, rfl⟩
                        rw [hX] at hkc cR
                        have HKC := Lib.hid hkc
                        clear hkc hX z7 hb7 hwb hm7 hkq hbq hb37
                        go_upto_region 16 with fail
                        rw [HWB.out, HM7.out]
                        go_wp2_with fail
                        refine cR.mono ?_
                        rintro e w8 ⟨rfl, hb8⟩
                        have HB8 := Lib.hid (below_stepL HBQ.out HBQ.out.size hb8)
                        clear cR p0 p1 p2 hb8 HWB HM7
                        by_cases hx : X = 0
                        · have HK1 : Hid (cellsR cols (LX.drop 3) = RXC) := Lib.hid (by rw [HKC.out, if_neg (fun h => h hx)])
                          subst hx
                          go_wp2_with fail
                          go_roundw
                          case rel => first | exact ⟨3, by omega, by go_num, HK1, HB8⟩ | ((repeat apply Exists.intro); refine And.intro ?_ rfl; exact ⟨3, by omega, by go_num, HK1, HB8⟩)
                          case measure => simp [intOf]
                        · have hr : R = X := HFIN.out X (by rw [HKC.out, if_pos hx]) hx
                          have HRZ := Lib.hid hr
                          clear hr
                          go_wp2_with fail
                          go_ret
                          exact ⟨by rw [HRZ.out]; first | done | rfl, below_stepL HB3.out HB3.out.size (below_stepL HBA.out HBA.out.size HB8.out)⟩
                      | false =>
                        simp only [Bool.false_eq_true, if_false] at hkc
                        rw [HNX2.out] at hkc
                        have HKC := Lib.hid hkc
                        clear hkc z7 hb7 hwb hm7 hkq hbq hb37 cR
                        rcases Nat.eq_zero_or_pos nx2 with hn | hn
                        · have HK1 : Hid (cellsR cols (LX.drop 3) = RXC) := Lib.hid (by rw [HKC.out, if_neg (by omega : ¬ 0 < nx2), if_neg (by decide)])
                          subst hn
                          go_upto_region 16 with fail
                          rw [HWB.out, HM7.out]
                          go_wp2_with fail
                          go_roundw
                          case rel => first | exact ⟨3, by omega, by go_num, HK1, HBQ⟩ | ((repeat apply Exists.intro); refine And.intro ?_ rfl; exact ⟨3, by omega, by go_num, HK1, HBQ⟩)
                          case measure => simp [intOf]
                        · have hr : R = 3 := HFIN.out 3 (by rw [HKC.out, if_pos hn, if_pos (by decide)]) (by decide)
                          have HRZ := Lib.hid hr
                          have e1 : ¬ (nx2 : Int) = 0 := by omega
                          have e2 : ¬ nx2 = 0 := by omega
                          clear hr
                          go_upto_region 16 with fail
                          rw [HWB.out, HM7.out]
                          go_wp2_with fail
                          go_ret
                          exact ⟨by rw [HRZ.out]; first | done | rfl, below_stepL HB3.out HB3.out.size (below_stepL HBA.out HBA.out.size HBQ.out)⟩
                    · have z7 : Blk _ _ _ [_, _] := Blk.new wr #[.bool fx3, .slice ax3 nx3 kx3] 25
                      have hb7 := (Below.refl wr.heap.size wr).alloc (Nat.le_refl _) (.cells #[.bool fx3, .slice ax3 nx3 kx3] 25)
                      obtain ⟨wb, hwb⟩ : ∃ W, wr.alloc (.cells #[.bool fx3, .slice ax3 nx3 kx3] 25) = W := ⟨_, rfl⟩
                      rw [hwb] at z7 hb7
                      obtain ⟨m7, hm7⟩ : ∃ x, wr.heap.size = x := ⟨_, rfl⟩
                      rw [hm7] at z7
                      have HBQ := Lib.hid (below_stepL hbq.out hbq.out.size hb7)
                      have hb37 := below_stepL HBA.out HBA.out.size HBQ.out
                      have p0 := z7.cell (j := 0) rfl
                      have p1 := z7.cell (j := 1) rfl
                      have p2 := (HZ3.out.call hb37).cell (j := 2) rfl
                      have hkc := HCRX.out 3 _ HGX3.out
                      rw [hkq.out] at hkc
                      have HWB := Lib.hid hwb
                      have HM7 := Lib.hid hm7
                      have cR := CRX3.out wb (below_stepL HB3.out HB3.out.size hb37)
                      unfold cellR at hkc
                      simp only at hkc
                      cases fx3 with
                      | true =>
                        rw [if_pos rfl] at hkc
                        obtain ⟨X, hX⟩ : ∃ X, rowR rx3 cols = X := ⟨_, rfl⟩
                        rw [hX] at hkc cR
                        have HKC := Lib.hid hkc
                        clear hkc hX z7 hb7 hwb hm7 hkq hbq hb37
                        go_upto_region 16 with fail
                        rw [HWB.out, HM7.out]
                        go_wp2_with fail
                        refine cR.mono ?_
                        rintro e w8 ⟨rfl, hb8⟩
                        have HB8 := Lib.hid (below_stepL HBQ.out HBQ.out.size hb8)
                        clear cR p0 p1 p2 hb8 HWB HM7
                        by_cases hx : X = 0
                        · have HK1 : Hid (cellsR cols (LX.drop 4) = RXC) := Lib.hid (by rw [HKC.out, if_neg (fun h => h hx)])
                          subst hx
                          go_wp2_with fail
                          go_roundw
                          case rel => first | exact ⟨4, by omega, by go_num, HK1, HB8⟩ | ((repeat apply Exists.intro); refine And.intro ?_ rfl; exact ⟨4, by omega, by go_num, HK1, HB8⟩)
                          case measure => simp [intOf]
                        · have hr : R = X := HFIN.out X (by rw [HKC.out, if_pos hx]) hx
                          have HRZ := Lib.hid hr
                          clear hr
                          go_wp2_with fail
                          go_ret
                          exact ⟨by rw [HRZ.out]; first | done | rfl, below_stepL HB3.out HB3.out.size (below_stepL HBA.out HBA.out.size HB8.out)⟩
                      | false =>
                        simp only [Bool.false_eq_true, if_false] at hkc
                        rw [HNX3.out] at hkc
                        have HKC := Lib.hid hkc
                        clear hkc z7 hb7 hwb hm7 hkq hbq hb37 cR
                        rcases Nat.eq_zero_or_pos nx3 with hn | hn
                        · have HK1 : Hid (cellsR cols (LX.drop 4) = RXC) := Lib.hid (by rw [HKC.out, if_neg (by omega : ¬ 0 < nx3), if_neg (by decide)])
                          subst hn
                          go_upto_region 16 with fail
                          rw [HWB.out, HM7.out]
                          go_wp2_with fail
                          go_roundw
                          case rel => first | exact ⟨4, by omega, by go_num, HK1, HBQ⟩ | ((repeat apply Exists.intro); refine And.intro ?_ rfl; exact ⟨4, by omega, by go_num, HK1, HBQ⟩)
                          case measure => simp [intOf]
                        · have hr : R = 3 := HFIN.out 3 (by rw [HKC.out, if_pos hn, if_pos (by decide)]) (by decide)
                          have HRZ := Lib.hid hr
                          have e1 : ¬ (nx3 : Int) = 0 := by omega
                          have e2 : ¬ nx3 = 0 := by omega
                          clear hr
                          go_upto_region 16 with fail
                          rw [HWB.out, HM7.out]
                          go_wp2_with fail
                          go_ret
                          exact ⟨by rw [HRZ.out]; first | done | rfl, below_stepL HB3.out HB3.out.size (below_stepL HBA.out HBA.out.size HBQ.out)⟩
                    · have hd := hkq.out
                      rw [List.drop_of_length_le (by rw [HLLX.out]; omega)] at hd
                      have HC0 : Hid (RXC = 0) := Lib.hid hd.symm
                      have cK := CKX.out HNE.out HC0.out wr (below_stepL (below_stepL HB3.out HB3.out.size HBA.out) (Nat.le_trans HB3.out.size HBA.out.size) hbq.out)
                      clear hd
                      have y0 := (HZ5.out.call hbq.out).cell (j := 0) rfl
                      have y1 := (HZ5.out.call hbq.out).cell (j := 1) rfl
                      have y2 := (HZ5.out.call hbq.out).cell (j := 2) rfl
                      have y3 := (HZ5.out.call hbq.out).cell (j := 3) rfl
                      have y4 := (HZ5.out.call hbq.out).cell (j := 4) rfl
                      have y5 := (HZ5.out.call hbq.out).cell (j := 5) rfl
                      have y6 := (HZ5.out.call hbq.out).cell (j := 6) rfl
                      have y7 := (HZ5.out.call hbq.out).cell (j := 7) rfl
                      go_wp2_with fail
                      refine cK.mono ?_
                      rintro e w5 ⟨rfl, hb6⟩
                      have HB6 := Lib.hid (below_stepL HBA.out HBA.out.size (below_stepL hbq.out hbq.out.size hb6))
                      clear cK hb6 y0 y1 y2 y3 y4 y5 y6 y7
                      by_cases hz : RXK = 0
                      · have hz0 := HFZ.out HC0.out hz
                        have HX1 : Hid (1 ≤ 1 → RX = 0) := Lib.hid (fun _ => hz0)
                        have HY1 : Hid (2 ≤ 1 → RY = 0) := Lib.hid (fun h => by omega)
                        clear hx0 hy0 hz0
                        go_wp2_with fail
                        go_roundw
                        case rel => first | exact ⟨1, by omega, by go_num, HX1, HY1, HB6⟩ | ((repeat apply Exists.intro); refine And.intro ?_ rfl; exact ⟨1, by omega, by go_num, HX1, HY1, HB6⟩)
                        case measure => simp [intOf]
                      · have hr : R = RXK := HFK.out _ HC0.out rfl hz
                        have HRZ := Lib.hid hr
                        clear hr
                        go_wp2_with fail
                        go_ret
                        exact ⟨by rw [HRZ.out]; first | done | rfl, below_stepL HB3.out HB3.out.size HB6.out⟩
                · have z5 : Blk _ _ _ [_, _, _, _, _, _, _, _] := Blk.new wr #[.bool fy0, .slice ay0 ny0 ky0, .bool fy1, .slice ay1 ny1 ky1, .bool fy2, .slice ay2 ny2 ky2, .bool fy3, .slice ay3 ny3 ky3] 26
                  have hb5 := (Below.refl wr.heap.size wr).alloc (Nat.le_refl _) (.cells #[.bool fy0, .slice ay0 ny0 ky0, .bool fy1, .slice ay1 ny1 ky1, .bool fy2, .slice ay2 ny2 ky2, .bool fy3, .slice ay3 ny3 ky3] 26)
                  obtain ⟨wa, hwa⟩ : ∃ W, wr.alloc (.cells #[.bool fy0, .slice ay0 ny0 ky0, .bool fy1, .slice ay1 ny1 ky1, .bool fy2, .slice ay2 ny2 ky2, .bool fy3, .slice ay3 ny3 ky3] 26) = W := ⟨_, rfl⟩
                  rw [hwa] at z5 hb5
                  obtain ⟨m5, hm5⟩ : ∃ x, wr.heap.size = x := ⟨_, rfl⟩
                  rw [hm5] at z5
                  have HBA := Lib.hid (below_stepL hbw.out hbw.out.size hb5)
                  have HZ5 := Lib.hid z5
                  have HWA := Lib.hid hwa
                  have HM5 := Lib.hid hm5
                  have HFIN : Hid (∀ c, RYC = c → c ≠ 0 → R = c) := Lib.hid (fun c h1 h2 => by
                    have h3 : RY = c := by rw [HYY.out, h1, if_pos h2]
                    rw [HRR.out]; rw [if_neg (fun h => h (hx0.out (by omega))), h3])
                  have HFK : Hid (∀ c, RYC = 0 → RYK = c → c ≠ 0 → R = c) := Lib.hid (fun c h0 h1 h2 => by
                    have h3 : RY = c := by rw [HYY.out, if_neg (fun h => h h0), h1]
                    rw [HRR.out]; rw [if_neg (fun h => h (hx0.out (by omega))), h3])
                  have HFZ : Hid (RYC = 0 → RYK = 0 → RY = 0) := Lib.hid (fun h0 h1 => by rw [HYY.out, if_neg (fun h => h h0), h1])
                  have y0 := HZ5.out.cell (j := 0) rfl
                  have y1 := HZ5.out.cell (j := 1) rfl
                  have y2 := HZ5.out.cell (j := 2) rfl
                  have y3 := HZ5.out.cell (j := 3) rfl
                  have y4 := HZ5.out.cell (j := 4) rfl
                  have y5 := HZ5.out.cell (j := 5) rfl
                  have y6 := HZ5.out.cell (j := 6) rfl
                  have y7 := HZ5.out.cell (j := 7) rfl
                  have v0 := fun W => ixA_0 (.bool fy0) (.slice ay0 ny0 ky0) (.bool fy1) (.slice ay1 ny1 ky1) (.bool fy2) (.slice ay2 ny2 ky2) (.bool fy3) (.slice ay3 ny3 ky3) W
                  have v1 := fun W => ixA_1 (.bool fy0) (.slice ay0 ny0 ky0) (.bool fy1) (.slice ay1 ny1 ky1) (.bool fy2) (.slice ay2 ny2 ky2) (.bool fy3) (.slice ay3 ny3 ky3) W
                  have v2 := fun W => ixA_2 (.bool fy0) (.slice ay0 ny0 ky0) (.bool fy1) (.slice ay1 ny1 ky1) (.bool fy2) (.slice ay2 ny2 ky2) (.bool fy3) (.slice ay3 ny3 ky3) W
                  have v3 := fun W => ixA_3 (.bool fy0) (.slice ay0 ny0 ky0) (.bool fy1) (.slice ay1 ny1 ky1) (.bool fy2) (.slice ay2 ny2 ky2) (.bool fy3) (.slice ay3 ny3 ky3) W
                  clear hwa hm5 z5 hb5 hbw
                  go_upto_region 13 with fail
                  rw [HWA.out, HM5.out]
                  clear HWA HM5
                  go_upto_region 14 with fail
                  clear y0 y1 y2 y3 y4 y5 y6 y7
                  go_loopw [56] (fun ix wr => ∃ (q : Nat), q ≤ 4 ∧ ix = .int .i64 q ∧ Hid (cellsR cols (LY.drop q) = RYC) ∧ Hid (Below wa.heap.size wa wr)) (fun ix _ => 4 - (intOf ix).toNat)
                  case atStart => exact ⟨0, Nat.zero_le _, rfl, HYC, Lib.hid (Below.refl _ _)⟩
                  case round =>
                    obtain ⟨q, hq, rfl, hkq, hbq⟩ := hrel
                    rcases (show q = 0 ∨ q = 1 ∨ q = 2 ∨ q = 3 ∨ q = 4 by omega) with rfl | rfl | rfl | rfl | rfl
                    · have z7 : Blk _ _ _ [_, _] := Blk.new wr #[.bool fy0, .slice ay0 ny0 ky0] 25
                      have hb7 := (Below.refl wr.heap.size wr).alloc (Nat.le_refl _) (.cells #[.bool fy0, .slice ay0 ny0 ky0] 25)
                      obtain ⟨wb, hwb⟩ : ∃ W, wr.alloc (.cells #[.bool fy0, .slice ay0 ny0 ky0] 25) = W := ⟨_, rfl⟩
                      rw [hwb] at z7 hb7
                      obtain ⟨m7, hm7⟩ : ∃ x, wr.heap.size = x := ⟨_, rfl⟩
                      rw [hm7] at z7
                      have HBQ := Lib.hid (below_stepL hbq.out hbq.out.size hb7)
                      have hb37 := below_stepL HBA.out HBA.out.size HBQ.out
                      have p0 := z7.cell (j := 0) rfl
                      have p1 := z7.cell (j := 1) rfl
                      have p2 := (HZ3.out.call hb37).cell (j := 2) rfl
                      have hkc := HCRY.out 0 _ HGY0.out
                      rw [hkq.out] at hkc
                      have HWB := Lib.hid hwb
                      have HM7 := Lib.hid hm7
                      have cR := CRY0.out wb (below_stepL HB3.out HB3.out.size hb37)
                      unfold cellR at hkc
                      simp only at hkc
                      cases fy0 with
                      | true =>
                        rw [if_pos rfl] at hkc
                        obtain ⟨X, hX⟩ : ∃ X, rowR ry0 cols = X := ⟨_, rfl⟩
                        rw [hX] at hkc cR
                        have HKC := Lib.hid hkc
                        clear hkc hX z7 hb7 hwb hm7 hkq hbq hb37
                        go_upto_region 16 with fail
                        rw [HWB.out, HM7.out]
                        go_wp2_with fail
                        refine cR.mono ?_
                        rintro e w8 ⟨rfl, hb8⟩
                        have HB8 := Lib.hid (below_stepL HBQ.out HBQ.out.size hb8)
                        clear cR p0 p1 p2 hb8 HWB HM7
                        by_cases hx : X = 0
                        · have HK1 : Hid (cellsR cols (LY.drop 1) = RYC) := Lib.hid (by rw [HKC.out, if_neg (fun h => h hx)])
                          subst hx
                          go_wp2_with fail
                          go_roundw
                          case rel => first | exact ⟨1, by omega, by go_num, HK1, HB8⟩ | ((repeat apply Exists.intro); refine And.intro ?_ rfl; exact ⟨1, by omega, by go_num, HK1, HB8⟩)
                          case measure => simp [intOf]
                        · have hr : R = X := HFIN.out X (by rw [HKC.out, if_pos hx]) hx
                          have HRZ := Lib.hid hr
                          clear hr
                          go_wp2_with fail
                          go_ret
                          exact ⟨by rw [HRZ.out]; first | done | rfl, below_stepL HB3.out HB3.out.size (below_stepL HBA.out HBA.out.size HB8.out)⟩
                      | false =>
                        simp only [Bool.false_eq_true, if_false] at hkc
                        rw [HNY0.out] at hkc
                        have HKC := Lib.hid hkc
                        clear hkc z7 hb7 hwb hm7 hkq hbq hb37 cR
                        rcases Nat.eq_zero_or_pos ny0 with hn | hn
                        · have HK1 : Hid (cellsR cols (LY.drop 1) = RYC) := Lib.hid (by rw [HKC.out, if_neg (by omega : ¬ 0 < ny0), if_neg (by decide)])
                          subst hn
                          go_upto_region 16 with fail
                          rw [HWB.out, HM7.out]
                          go_wp2_with fail
                          go_roundw
                          case rel => first | exact ⟨1, by omega, by go_num, HK1, HBQ⟩ | ((repeat apply Exists.intro); refine And.intro ?_ rfl; exact ⟨1, by omega, by go_num, HK1, HBQ⟩)
                          case measure => simp [intOf]
                        · have hr : R = 3 := HFIN.out 3 (by rw [HKC.out, if_pos hn, if_pos (by decide)]) (by decide)
                          have HRZ := Lib.hid hr
                          have e1 : ¬ (ny0 : Int) = 0 := by omega
                          have e2 : ¬ ny0 = 0 := by omega
                          clear hr
                          go_upto_region 16 with fail
                          rw [HWB.out, HM7.out]
                          go_wp2_with fail
                          go_ret
                          exact ⟨by rw [HRZ.out]; first | done | rfl, below_stepL HB3.out HB3.out.size (below_stepL HBA.out HBA.out.size HBQ.out)⟩
                    · have z7 : Blk _ _ _ [_, _] := Blk.new wr #[.bool fy1, .slice ay1 ny1 ky1] 25
                      have hb7 := (Below.refl wr.heap.size wr).alloc (Nat.le_refl _) (.cells #[.bool fy1, .slice ay1 ny1 ky1] 25)
                      obtain ⟨wb, hwb⟩ : ∃ W, wr.alloc (.cells #[.bool fy1, .slice ay1 ny1 ky1] 25) = W := ⟨_, rfl⟩
                      rw [hwb] at z7 hb7
                      obtain ⟨m7, hm7⟩ : ∃ x, wr.heap.size = x := ⟨_, rfl⟩
                      rw [hm7] at z7
                      have HBQ := Lib.hid (below_stepL hbq.out hbq.out.size hb7)
                      have hb37 := below_stepL HBA.out HBA.out.size HBQ.out
                      have p0 := z7.cell (j := 0) rfl
                      have p1 := z7.cell (j := 1) rfl
                      have p2 := (HZ3.out.call hb37).cell (j := 2) rfl
                      have hkc := HCRY.out 1 _ HGY1.out
                      rw [hkq.out] at hkc
                      have HWB := Lib.hid hwb
                      have HM7 := Lib.hid hm7
                      have cR := CRY1.out wb (below_stepL HB3.out HB3.out.size hb37)
                      unfold cellR at hkc
                      simp only at hkc
                      cases fy1 with
                      | true =>
                        rw [if_pos rfl] at hkc
                        obtain ⟨X, hX⟩ : ∃ X, rowR ry1 cols = X := ⟨_, rfl⟩
                        rw [hX] at hkc cR
                        have HKC := Lib.hid hkc
                        clear hkc hX z7 hb7 hwb hm7 hkq hbq hb37
                        go_upto_region 16 with fail
                        rw [HWB.out, HM7.out]
                        go_wp2_with fail
                        refine cR.mono ?_
                        rintro e w8 ⟨rfl, hb8⟩
                        have HB8 := Lib.hid (below_stepL HBQ.out HBQ.out.size hb8)
                        clear cR p0 p1 p2 hb8 HWB HM7
                        by_cases hx : X = 0
                        · have HK1 : Hid (cellsR cols (LY.drop 2) = RYC) := Lib.hid (by rw [HKC.out, if_neg (fun h => h hx)])
                          subst hx
                          go_wp2_with fail
                          go_roundw
                          case rel => first | exact ⟨2, by omega, by go_num, HK1, HB8⟩ | ((repeat apply Exists.intro); refine And.intro ?_ rfl; exact ⟨2, by omega, by go_num, HK1, HB8⟩)
                          case measure => simp [intOf]
                        · have hr : R = X := HFIN.out X (by rw [HKC.out, if_pos hx]) hx
                          have HRZ := Lib.hid hr
                          clear hr
                          go_wp2_with fail
                          go_ret
                          exact ⟨by rw [HRZ.out]; first | done | rfl, below_stepL HB3.out HB3.out.size (below_stepL HBA.out HBA.out.size HB8.out)⟩
                      | false =>
                        simp only [Bool.false_eq_true, if_false] at hkc
                        rw [HNY1.out] at hkc
                        have HKC := Lib.hid hkc
                        clear hkc z7 hb7 hwb hm7 hkq hbq hb37 cR
                        rcases Nat.eq_zero_or_pos ny1 with hn | hn
                        · have HK1 : Hid (cellsR cols (LY.drop 2) = RYC) := Lib.hid (by rw [HKC.out, if_neg (by omega : ¬ 0 < ny1), if_neg (by decide)])
                          subst hn
                          go_upto_region 16 with fail
                          rw [HWB.out, HM7.out]
                          go_wp2_with fail
                          go_roundw
                          case rel => first | exact ⟨2, by omega, by go_num, HK1, HBQ⟩ | ((repeat apply Exists.intro); refine And.intro ?_ rfl; exact ⟨2, by omega, by go_num, HK1, HBQ⟩)
                          case measure => simp [intOf]
                        · have hr : R = 3 := HFIN.out 3 (by rw [HKC.out, if_pos hn, if_pos (by decide)]) (by decide)
                          have HRZ := Lib.hid hr
                          have e1 : ¬ (ny1 : Int) = 0 := by omega
                          have e2 : ¬ ny1 = 0 := by omega
                          clear hr
                          go_upto_region 16 with fail
                          rw [HWB.out, HM7.out]
                          go_wp2_with fail
                          go_ret
                          exact ⟨by rw [HRZ.out]; first | done | rfl, below_stepL HB3.out HB3.out.size (below_stepL HBA.out HBA.out.size HBQ.out)⟩
                    · have z7 : Blk _ _ _ [_, _] := Blk.new wr #[.bool fy2, .slice ay2 ny2 ky2] 25
                      have hb7 := (Below.refl wr.heap.size wr).alloc (Nat.le_refl _) (.cells #[.bool fy2, .slice ay2 ny2 ky2] 25)
                      obtain ⟨wb, hwb⟩ : ∃ W, wr.alloc (.cells #[.bool fy2, .slice ay2 ny2 ky2] 25) = W := ⟨_, rfl⟩
                      rw [hwb] at z7 hb7
                      obtain ⟨m7, hm7⟩ : ∃ x, wr.heap.size = x := ⟨_, rfl⟩
                      rw [hm7] at z7
                      have HBQ := Lib.hid (below_stepL hbq.out hbq.out.size hb7)
                      have hb37 := below_stepL HBA.out HBA.out.size HBQ.out
                      have p0 := z7.cell (j := 0) rfl
                      have p1 := z7.cell (j := 1) rfl
                      have p2 := (HZ3.out.call hb37).cell (j := 2) rfl
                      have hkc := HCRY.out 2 _ HGY2.out
                      rw [hkq.out] at hkc
                      have HWB := Lib.hid hwb
                      have HM7 := Lib.hid hm7
                      have cR := CRY2.out wb (below_stepL HB3.out HB3.out.size hb37)
                      unfold cellR at hkc
                      simp only at hkc
                      cases fy2 with
                      | true =>
                        rw [if_pos rfl] at hkc
                        obtain ⟨X, hX⟩ : ∃ X, rowR ry2 cols = X := ⟨_, rfl⟩
                        rw [hX] at hkc cR
                        have HKC := Lib.hid hkc
                        clear hkc hX z7 hb7 hwb hm7 hkq hbq hb37
                        go_upto_region 16 with fail
                        rw [HWB.out, HM7.out]
                        go_wp2_with fail
                        refine cR.mono ?_
                        rintro e w8 ⟨rfl, hb8⟩
                        have HB8 := Lib.hid (below_stepL HBQ.out HBQ.out.size hb8)
                        clear cR p0 p1 p2 hb8 HWB HM7
                        by_cases hx : X = 0
                        · have HK1 : Hid (cellsR cols (LY.drop 3) = RYC) := Lib.hid (by rw [HKC.out, if_neg (fun h => h hx)])
                          subst hx
                          go_wp2_with fail
                          go_roundw
                          case rel => first | exact ⟨3, by omega, by go_num, HK1, HB8⟩ | ((repeat apply Exists.intro); refine And.intro ?_ rfl; exact ⟨3, by omega, by go_num, HK1, HB8⟩)
                          case measure => simp [intOf]
                        · have hr : R = X := HFIN.out X (by rw [HKC.out, if_pos hx]) hx
                          have HRZ := Lib.hid hr
                          clear hr
                          go_wp2_with fail
                          go_ret
                          exact ⟨by rw [HRZ.out]; first | done | rfl, below_stepL HB3.out HB3.out.size (below_stepL HBA.out HBA.out.size HB8.out)⟩
                      | false =>
                        simp only [Bool.false_eq_true, if_false] at hkc
                        rw [HNY2.out] at hkc
                        have HKC := Lib.hid hkc
                        clear hkc z7 hb7 hwb hm7 hkq hbq hb37 cR
                        rcases Nat.eq_zero_or_pos ny2 with hn | hn
                        · have HK1 : Hid (cellsR cols (LY.drop 3) = RYC) := Lib.hid (by rw [HKC.out, if_neg (by omega : ¬ 0 < ny2), if_neg (by decide)])
                          subst hn
                          go_upto_region 16 with fail
                          rw [HWB.out, HM7.out]
                          go_wp2_with fail
                          go_roundw
                          case rel => first | exact ⟨3, by omega, by go_num, HK1, HBQ⟩ | ((repeat apply Exists.intro); refine And.intro ?_ rfl; exact ⟨3, by omega, by go_num, HK1, HBQ⟩)
                          case measure => simp [intOf]
                        · have hr : R = 3 := HFIN.out 3 (by rw [HKC.out, if_pos hn, if_pos (by decide)]) (by decide)
                          have HRZ := Lib.hid hr
                          have e1 : ¬ (ny2 : Int) = 0 := by omega
                          have e2 : ¬ ny2 = 0 := by omega
                          clear hr
                          go_upto_region 16 with fail
                          rw [HWB.out, HM7.out]
                          go_wp2_with fail
                          go_ret
                          exact ⟨by rw [HRZ.out]; first | done | rfl, below_stepL HB3.out HB3.out.size (below_stepL HBA.out HBA.out.size HBQ.out)⟩
                    · have z7 : Blk _ _ _ [_, _] := Blk.new wr #[.bool fy3, .slice ay3 ny3 ky3] 25
                      have hb7 := (Below.refl wr.heap.size wr).alloc (Nat.le_refl _) (.cells #[.bool fy3, .slice ay3 ny3 ky3] 25)
                      obtain ⟨wb, hwb⟩ : ∃ W, wr.alloc (.cells #[.bool fy3, .slice ay3 ny3 ky3] 25) = W := ⟨_, rfl⟩
                      rw [hwb] at z7 hb7
                      obtain ⟨m7, hm7⟩ : ∃ x, wr.heap.size = x := ⟨_, rfl⟩
                      rw [hm7] at z7
                      have HBQ := Lib.hid (below_stepL hbq.out hbq.out.size hb7)
                      have hb37 := below_stepL HBA.out HBA.out.size HBQ.out
                      have p0 := z7.cell (j := 0) rfl
                      have p1 := z7.cell (j := 1) rfl
                      have p2 := (HZ3.out.call hb37).cell (j := 2) rfl
                      have hkc := HCRY.out 3 _ HGY3.out
                      rw [hkq.out] at hkc
                      have HWB := Lib.hid hwb
                      have HM7 := Lib.hid hm7
                      have cR := CRY3.out wb (below_stepL HB3.out HB3.out.size hb37)
                      unfold cellR at hkc
                      simp only at hkc
                      cases fy3 with
                      | true =>
                        rw [if_pos rfl] at hkc
                        obtain ⟨X, hX⟩ : ∃ X, rowR ry3 cols = X := ⟨_, rfl⟩
                        rw [hX] at hkc cR
                        have HKC := Lib.hid hkc
                        clear hkc hX z7 hb7 hwb hm7 hkq hbq hb37
                        go_upto_region 16 with fail
                        rw [HWB.out, HM7.out]
                        go_wp2_with fail
                        refine cR.mono ?_
                        rintro e w8 ⟨rfl, hb8⟩
                        have HB8 := Lib.hid (below_stepL HBQ.out HBQ.out.size hb8)
                        clear cR p0 p1 p2 hb8 HWB HM7
                        by_cases hx : X = 0
                        · have HK1 : Hid (cellsR cols (LY.drop 4) = RYC) := Lib.hid (by rw [HKC.out, if_neg (fun h => h hx)])
                          subst hx
                          go_wp2_with fail
                          go_roundw
                          case rel => first | exact ⟨4, by omega, by go_num, HK1, HB8⟩ | ((repeat apply Exists.intro); refine And.intro ?_ rfl; exact ⟨4, by omega, by go_num, HK1, HB8⟩)
                          case measure => simp [intOf]
                        · have hr : R = X := HFIN.out X (by rw [HKC.out, if_pos hx]) hx
                          have HRZ := Lib.hid hr
                          clear hr
                          go_wp2_with fail
                          go_ret
                          exact ⟨by rw [HRZ.out]; first | done | rfl, below_stepL HB3.out HB3.out.size (below_stepL HBA.out HBA.out.size HB8.out)⟩
                      | false =>
                        simp only [Bool.false_eq_true, if_false] at hkc
                        rw [HNY3.out] at hkc
                        have HKC := Lib.hid hkc
                        clear hkc z7 hb7 hwb hm7 hkq hbq hb37 cR
                        rcases Nat.eq_zero_or_pos ny3 with hn | hn
                        · have HK1 : Hid (cellsR cols (LY.drop 4) = RYC) := Lib.hid (by rw [HKC.out, if_neg (by omega : ¬ 0 < ny3), if_neg (by decide)])
                          subst hn
                          go_upto_region 16 with fail
                          rw [HWB.out, HM7.out]
                          go_wp2_with fail
                          go_roundw
                          case rel => first | exact ⟨4, by omega, by go_num, HK1, HBQ⟩ | ((repeat apply Exists.intro); refine And.intro ?_ rfl; exact ⟨4, by omega, by go_num, HK1, HBQ⟩)
                          case measure => simp [intOf]
                        · have hr : R = 3 := HFIN.out 3 (by rw [HKC.out, if_pos hn, if_pos (by decide)]) (by decide)
                          have HRZ := Lib.hid hr
                          have e1 : ¬ (ny3 : Int) = 0 := by omega
                          have e2 : ¬ ny3 = 0 := by omega
                          clear hr
                          go_upto_region 16 with fail
                          rw [HWB.out, HM7.out]
                          go_wp2_with fail
                          go_ret
                          exact ⟨by rw [HRZ.out]; first | done | rfl, below_stepL HB3.out HB3.out.size (below_stepL HBA.out HBA.out.size HBQ.out)⟩
                    · have hd := hkq.out
                      rw [List.drop_of_length_le (by rw [HLLY.out]; omega)] at hd
                      have HC0 : Hid (RYC = 0) := Lib.hid hd.symm
                      have cK := CKY.out HNE.out HC0.out wr (below_stepL (below_stepL HB3.out HB3.out.size HBA.out) (Nat.le_trans HB3.out.size HBA.out.size) hbq.out)
                      clear hd
                      have y0 := (HZ5.out.call hbq.out).cell (j := 0) rfl
                      have y1 := (HZ5.out.call hbq.out).cell (j := 1) rfl
                      have y2 := (HZ5.out.call hbq.out).cell (j := 2) rfl
                      have y3 := (HZ5.out.call hbq.out).cell (j := 3) rfl
                      have y4 := (HZ5.out.call hbq.out).cell (j := 4) rfl
                      have y5 := (HZ5.out.call hbq.out).cell (j := 5) rfl
                      have y6 := (HZ5.out.call hbq.out).cell (j := 6) rfl
                      have y7 := (HZ5.out.call hbq.out).cell (j := 7) rfl
                      go_wp2_with fail
                      refine cK.mono ?_
                      rintro e w5 ⟨rfl, hb6⟩
                      have HB6 := Lib.hid (below_stepL HBA.out HBA.out.size (below_stepL hbq.out hbq.out.size hb6))
                      clear cK hb6 y0 y1 y2 y3 y4 y5 y6 y7
                      by_cases hz : RYK = 0
                      · have hz0 := HFZ.out HC0.out hz
                        have HX1 : Hid (1 ≤ 2 → RX = 0) := Lib.hid (fun _ => hx0.out (by omega))
                        have HY1 : Hid (2 ≤ 2 → RY = 0) := Lib.hid (fun _ => hz0)
                        clear hx0 hy0 hz0
                        go_wp2_with fail
                        go_roundw
                        case rel => first | exact ⟨2, by omega, by go_num, HX1, HY1, HB6⟩ | ((repeat apply Exists.intro); refine And.intro ?_ rfl; exact ⟨2, by omega, by go_num, HX1, HY1, HB6⟩)
                        case measure => simp [intOf]
                      · have hr : R = RYK := HFK.out _ HC0.out rfl hz
                        have HRZ := Lib.hid hr
                        clear hr
                        go_wp2_with fail
                        go_ret
                        exact ⟨by rw [HRZ.out]; first | done | rfl, below_stepL HB3.out HB3.out.size HB6.out⟩
                · have hr : R = 0 := by rw [HRR.out, if_neg (fun h => h (hx0.out (by omega)))]; exact hy0.out (by omega)
                  have HRZ := Lib.hid hr
                  clear hr
                  go_wp2_with fail
                  go_ret
                  exact ⟨by rw [HRZ.out]; first | done | rfl, below_stepL HB3.out HB3.out.size hbw.out⟩
          · have hr : R = 3 := by rw [HR4.out, if_pos (by rw [HG3.out]; simp [hk])]
            have HRR := Lib.hid hr
            clear hr
            go_wp2_with fail
            go_ret
            exact ⟨by rw [HRR.out]; first | done | rfl, HB3.out⟩
      · have hr : R = RC := by rw [HR3.out, if_pos hC]
        have HRR := Lib.hid hr
        clear hr
        go_wp2_with fail
        go_ret
        exact ⟨by rw [HRR.out]; first | done | rfl, HB3.out⟩
    · have hBf : B = false := by simpa using hB
      have hr : R = 3 := by rw [HR2.out, if_pos hBf]
      have HRR := Lib.hid hr
      have hq := HBB.out
      rw [hBf] at hq
      clear hr hBf hB
      cases NB with
      | true =>
        have hnl : (8 : Int) < (S.size : Int) := by
          simp only [Bool.true_and, decide_eq_false_iff_not] at hq
          rw [hsz]; omega
        clear hq hsz
        go_wp2_with fail
        refine cL.mono ?_
        rintro e w2 ⟨rfl, hw2⟩
        subst hw2
        have HB2 := HBT
        clear cL
        go_wp2_with fail
        go_ret
        exact ⟨by rw [HRR.out]; first | done | rfl, HB2.out⟩
      | false =>
        clear hq hsz
        go_wp2_with fail
        refine cL.mono ?_
        rintro e w2 ⟨rfl, hw2⟩
        subst hw2
        have HB2 := HBT
        clear cL
        go_wp2_with fail
        go_ret
        exact ⟨by rw [HRR.out]; first | done | rfl, HB2.out⟩
end Go.Proofs.YtpneoaehkibdeaaDoor
