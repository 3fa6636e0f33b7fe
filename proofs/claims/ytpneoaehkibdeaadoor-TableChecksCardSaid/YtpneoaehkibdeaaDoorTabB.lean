/-
  CONTRACTS of package table's checks: keys, a cell, the cells of a drawer.
  CONDITIONS: each theorem's own hypotheses.
-/
import Derived.Test.YtpneoaehkibdeaaDoorTabA
import Derived.Test.YtpneoaehkibdeaaDoorKindQ
namespace Go.Proofs.YtpneoaehkibdeaaDoor
open Go.RowKit
set_option linter.unusedVariables false
set_option maxRecDepth 100000

theorem ix73_0 (v0 v1 v2 v3 v4 v5 v6 v7 : Value) (W : World) : (Instr.index 73 (.agg #[v0, v1, v2, v3, v4, v5, v6, v7]) (.int .i64 0)).run Tryd.prog W = .ok (.agg #[v0, v1]) W := by kernel_rfl
theorem ix73_1 (v0 v1 v2 v3 v4 v5 v6 v7 : Value) (W : World) : (Instr.index 73 (.agg #[v0, v1, v2, v3, v4, v5, v6, v7]) (.int .i64 1)).run Tryd.prog W = .ok (.agg #[v2, v3]) W := by kernel_rfl
theorem ix73_2 (v0 v1 v2 v3 v4 v5 v6 v7 : Value) (W : World) : (Instr.index 73 (.agg #[v0, v1, v2, v3, v4, v5, v6, v7]) (.int .i64 2)).run Tryd.prog W = .ok (.agg #[v4, v5]) W := by kernel_rfl
theorem ix73_3 (v0 v1 v2 v3 v4 v5 v6 v7 : Value) (W : World) : (Instr.index 73 (.agg #[v0, v1, v2, v3, v4, v5, v6, v7]) (.int .i64 3)).run Tryd.prog W = .ok (.agg #[v6, v7]) W := by kernel_rfl
theorem ixA_0 (v0 v1 v2 v3 v4 v5 v6 v7 : Value) (W : World) : (Instr.index 26 (.agg #[v0, v1, v2, v3, v4, v5, v6, v7]) (.int .i64 0)).run Tryd.prog W = .ok (.agg #[v0, v1]) W := by kernel_rfl
theorem ixA_1 (v0 v1 v2 v3 v4 v5 v6 v7 : Value) (W : World) : (Instr.index 26 (.agg #[v0, v1, v2, v3, v4, v5, v6, v7]) (.int .i64 1)).run Tryd.prog W = .ok (.agg #[v2, v3]) W := by kernel_rfl
theorem ixA_2 (v0 v1 v2 v3 v4 v5 v6 v7 : Value) (W : World) : (Instr.index 26 (.agg #[v0, v1, v2, v3, v4, v5, v6, v7]) (.int .i64 2)).run Tryd.prog W = .ok (.agg #[v4, v5]) W := by kernel_rfl
theorem ixA_3 (v0 v1 v2 v3 v4 v5 v6 v7 : Value) (W : World) : (Instr.index 26 (.agg #[v0, v1, v2, v3, v4, v5, v6, v7]) (.int .i64 3)).run Tryd.prog W = .ok (.agg #[v6, v7]) W := by kernel_rfl
theorem ixD_0 (v0 v1 v2 v3 v4 v5 v6 v7 v8 v9 v10 v11 v12 v13 v14 v15 : Value) (W : World) : (Instr.index 27 (.agg #[v0, v1, v2, v3, v4, v5, v6, v7, v8, v9, v10, v11, v12, v13, v14, v15]) (.int .i64 0)).run Tryd.prog W = .ok (.agg #[v0, v1, v2, v3, v4, v5, v6, v7]) W := by kernel_rfl
theorem ixD_1 (v0 v1 v2 v3 v4 v5 v6 v7 v8 v9 v10 v11 v12 v13 v14 v15 : Value) (W : World) : (Instr.index 27 (.agg #[v0, v1, v2, v3, v4, v5, v6, v7, v8, v9, v10, v11, v12, v13, v14, v15]) (.int .i64 1)).run Tryd.prog W = .ok (.agg #[v8, v9, v10, v11, v12, v13, v14, v15]) W := by kernel_rfl
theorem lies_of {W : World} {g : Nat} {T : TypeId} {c0 c1 c2 c3 : Ce} (h : Blk W g T (drV (c0, c1, c2, c3))) (hD : DrOk W (c0, c1, c2, c3)) (n : Nat) : LiesE W g 0 ((drL (c0, c1, c2, c3)).take n) := by
  intro j c hj
  have hj' : (drL (c0, c1, c2, c3))[j]? = some c := by
    rw [List.getElem?_take] at hj
    split at hj
    · exact hj
    · cases hj
  have hlt : j < 4 := (List.getElem?_eq_some_iff.1 hj').1
  rcases (show j = 0 ∨ j = 1 ∨ j = 2 ∨ j = 3 by omega) with rfl | rfl | rfl | rfl
  · cases hj'; exact ⟨h.cell (j := 0) rfl, h.cell (j := 1) rfl, hD.1⟩
  · cases hj'; exact ⟨h.cell (j := 2) rfl, h.cell (j := 3) rfl, hD.2.1⟩
  · cases hj'; exact ⟨h.cell (j := 4) rfl, h.cell (j := 5) rfl, hD.2.2.1⟩
  · cases hj'; exact ⟨h.cell (j := 6) rfl, h.cell (j := 7) rfl, hD.2.2.2⟩
theorem RowsE.take {l : List Ce} (h : RowsE l) (n : Nat) : RowsE (l.take n) := fun c hc => h c (List.mem_of_mem_take hc)
theorem keysP_cons (L : List Ce) (j : Nat) (c : Ce) (h : L[j]? = some c) : keysP (L.take j) (L.drop j) = if (c.full && hasK (L.take j) (keyC c)) = true then 8 else keysP (L.take (j + 1)) (L.drop (j + 1)) := by
  obtain ⟨hj, he⟩ := List.getElem?_eq_some_iff.1 h
  rw [List.drop_eq_getElem_cons hj, he, keysP, List.take_succ_eq_append_getElem hj, he]
set_option maxHeartbeats 16000000 in
theorem checkKeys_any (d : Dr) (w : World) (hD : DrOk w d) (hR : RowsE (drL d)) :
    Calls Tryd.prog 57 #[.agg (drV d).toArray] w fun e w' => e = .returned (.int .i64 (keysG [] (drL d))) ∧ Below w.heap.size w w' := by
  have hks := keys_same (drL d) []
  rw [show ((([] : List Ce).filter (fun x => x.full)).map keyC) = [] from rfl] at hks
  rw [← hks]
  obtain ⟨c0, c1, c2, c3⟩ := d
  obtain ⟨R, hRR⟩ : ∃ R, keysP [] (drL (c0, c1, c2, c3)) = R := ⟨_, rfl⟩
  rw [hRR]
  obtain ⟨L, hL⟩ : ∃ L, drL (c0, c1, c2, c3) = L := ⟨_, rfl⟩
  have z1 : Blk _ _ _ (drV (c0, c1, c2, c3)) := Blk.new w (drV (c0, c1, c2, c3)).toArray 73
  have hb1 := (Below.refl w.heap.size w).alloc (Nat.le_refl _) (.cells (drV (c0, c1, c2, c3)).toArray 73)
  obtain ⟨w1, hw1⟩ : ∃ W, w.alloc (.cells (drV (c0, c1, c2, c3)).toArray 73) = W := ⟨_, rfl⟩
  rw [hw1] at z1 hb1
  obtain ⟨b1, hbn⟩ : ∃ x, w.heap.size = x := ⟨_, rfl⟩
  rw [hbn] at z1
  have HST : Hid (∀ W, Below w1.heap.size w1 W → (∀ n, LiesE W b1 0 (L.take n)) ∧ b1 < W.heap.size ∧ ∀ (j : Nat) (c : Ce), L[j]? = some c → CeOk W c ∧ (c.full = true → c.row ≠ [])) := Lib.hid (fun W h => ⟨fun n => by rw [← hL]; exact lies_of (z1.call h) ((hD.keep hb1).keep h) n, (z1.call h).lt, fun j c hj => ⟨by
    have hd := (hD.keep hb1).keep h
    rw [← hL] at hj
    have hlt : j < 4 := (List.getElem?_eq_some_iff.1 hj).1
    rcases (show j = 0 ∨ j = 1 ∨ j = 2 ∨ j = 3 by omega) with rfl | rfl | rfl | rfl <;> cases hj
    · exact hd.1
    · exact hd.2.1
    · exact hd.2.2.1
    · exact hd.2.2.2, hR c (by rw [hL]; exact List.mem_of_getElem? hj)⟩⟩)
  have HKR : Hid (keysP (L.take 0) (L.drop 0) = R) := Lib.hid (by rw [List.take_zero, List.drop_zero, ← hL]; exact hRR)
  have HRE : Hid (RowsE L) := Lib.hid (by rw [← hL]; exact hR)
  have HG0 : Hid (L[0]? = some c0) := Lib.hid (by rw [← hL]; rfl)
  have HG1 : Hid (L[1]? = some c1) := Lib.hid (by rw [← hL]; rfl)
  have HG2 : Hid (L[2]? = some c2) := Lib.hid (by rw [← hL]; rfl)
  have HG3 : Hid (L[3]? = some c3) := Lib.hid (by rw [← hL]; rfl)
  have HLL : Hid (L.length = 4) := Lib.hid (by rw [← hL]; rfl)
  have HZ1 := Lib.hid z1
  have HW1 := Lib.hid hw1
  have HBN := Lib.hid hbn
  have HB1 := Lib.hid hb1
  clear hks hRR hL z1 hb1 hw1 hbn hD hR
  obtain ⟨f0, r0, a0, k0⟩ := c0
  obtain ⟨n0, hn0⟩ : ∃ n, r0.length = n := ⟨_, rfl⟩
  obtain ⟨f1, r1, a1, k1⟩ := c1
  obtain ⟨n1, hn1⟩ : ∃ n, r1.length = n := ⟨_, rfl⟩
  obtain ⟨f2, r2, a2, k2⟩ := c2
  obtain ⟨n2, hn2⟩ : ∃ n, r2.length = n := ⟨_, rfl⟩
  obtain ⟨f3, r3, a3, k3⟩ := c3
  obtain ⟨n3, hn3⟩ : ∃ n, r3.length = n := ⟨_, rfl⟩
  simp only [drV, ceV, List.cons_append, List.nil_append] at HZ1 HW1 ⊢
  rw [hn0] at HZ1 HW1 ⊢
  have HN0 := Lib.hid hn0
  clear hn0
  rw [hn1] at HZ1 HW1 ⊢
  have HN1 := Lib.hid hn1
  clear hn1
  rw [hn2] at HZ1 HW1 ⊢
  have HN2 := Lib.hid hn2
  clear hn2
  rw [hn3] at HZ1 HW1 ⊢
  have HN3 := Lib.hid hn3
  clear hn3
  go_enter Tryd.func57, Tryd.ntmps57
  go_upto_region 1 with fail
  rw [HW1.out, HBN.out]
  have q0 : w1.cell? ⟨b1, 0, none⟩ = some (.bool f0) := HZ1.out.cell (j := 0) rfl
  have q1 : w1.cell? ⟨b1, 1, none⟩ = some (.slice a0 n0 k0) := HZ1.out.cell (j := 1) rfl
  have q2 : w1.cell? ⟨b1, 2, none⟩ = some (.bool f1) := HZ1.out.cell (j := 2) rfl
  have q3 : w1.cell? ⟨b1, 3, none⟩ = some (.slice a1 n1 k1) := HZ1.out.cell (j := 3) rfl
  have q4 : w1.cell? ⟨b1, 4, none⟩ = some (.bool f2) := HZ1.out.cell (j := 4) rfl
  have q5 : w1.cell? ⟨b1, 5, none⟩ = some (.slice a2 n2 k2) := HZ1.out.cell (j := 5) rfl
  have q6 : w1.cell? ⟨b1, 6, none⟩ = some (.bool f3) := HZ1.out.cell (j := 6) rfl
  have q7 : w1.cell? ⟨b1, 7, none⟩ = some (.slice a3 n3 k3) := HZ1.out.cell (j := 7) rfl
  have x0 := fun W => ix73_0 (.bool f0) (.slice a0 n0 k0) (.bool f1) (.slice a1 n1 k1) (.bool f2) (.slice a2 n2 k2) (.bool f3) (.slice a3 n3 k3) W
  have x1 := fun W => ix73_1 (.bool f0) (.slice a0 n0 k0) (.bool f1) (.slice a1 n1 k1) (.bool f2) (.slice a2 n2 k2) (.bool f3) (.slice a3 n3 k3) W
  have x2 := fun W => ix73_2 (.bool f0) (.slice a0 n0 k0) (.bool f1) (.slice a1 n1 k1) (.bool f2) (.slice a2 n2 k2) (.bool f3) (.slice a3 n3 k3) W
  have x3 := fun W => ix73_3 (.bool f0) (.slice a0 n0 k0) (.bool f1) (.slice a1 n1 k1) (.bool f2) (.slice a2 n2 k2) (.bool f3) (.slice a3 n3 k3) W
  go_upto_region 2 with fail
  clear q0 q1 q2 q3 q4 q5 q6 q7
  go_loopw [6] (fun ix wr => ∃ (j : Nat), j ≤ 4 ∧ ix = .int .i64 j ∧ Hid (keysP (L.take j) (L.drop j) = R) ∧ Hid (Below w1.heap.size w1 wr)) (fun ix _ => 4 - (intOf ix).toNat)
  case atStart => exact ⟨0, Nat.zero_le _, rfl, HKR, Lib.hid (Below.refl _ _)⟩
  case round =>
    obtain ⟨j, hj, rfl, hkp0, hbw⟩ := hrel
    rcases (show j = 0 ∨ j = 1 ∨ j = 2 ∨ j = 3 ∨ j = 4 by omega) with rfl | rfl | rfl | rfl | rfl
    · have z4 : Blk _ _ _ [_, _] := Blk.new wr #[.bool f0, .slice a0 n0 k0] 25
      have hb4 := (Below.refl wr.heap.size wr).alloc (Nat.le_refl _) (.cells #[.bool f0, .slice a0 n0 k0] 25)
      obtain ⟨wa, hwa⟩ : ∃ W, wr.alloc (.cells #[.bool f0, .slice a0 n0 k0] 25) = W := ⟨_, rfl⟩
      rw [hwa] at z4 hb4
      obtain ⟨m4, hm4⟩ : ∃ x, wr.heap.size = x := ⟨_, rfl⟩
      rw [hm4] at z4
      have HP : Hid (∀ W, Below wa.heap.size wa W → W.cell? ⟨m4, 0, none⟩ = some (.bool f0) ∧ W.cell? ⟨m4, 1, none⟩ = some (.slice a0 n0 k0)) := Lib.hid (fun W h => ⟨(z4.call h).cell (j := 0) rfl, (z4.call h).cell (j := 1) rfl⟩)
      have HBA := Lib.hid (below_stepL hbw.out hbw.out.size hb4)
      have hkc := keysP_cons L 0 _ HG0.out
      rw [hkp0.out] at hkc
      have HWA := Lib.hid hwa
      have HM4 := Lib.hid hm4
      cases f0 with
      | false =>
        have HK1 : Hid (keysP (L.take 1) (L.drop 1) = R) := Lib.hid (by rw [hkc]; simp)
        clear hkc z4 hb4 hwa hm4 hkp0 hbw
        go_upto_region 4 with fail
        rw [HWA.out, HM4.out]
        obtain ⟨p0, p1⟩ := HP.out wa (Below.refl _ _)
        go_quiet (fail)
        have hbq := Lib.hid (below_dqC HBA.out nq)
        clear p0 p1
        go_wp2_with fail
        go_roundw
        case rel => exact ⟨1, by omega, by go_num, HK1, hbq⟩
        case measure => simp [intOf]
      | true =>
        obtain ⟨hce, hne⟩ := (HST.out wa HBA.out).2.2 0 _ HG0.out
        have hce3 := hce.2.2
        simp only at hce3 hne
        cases r0 with
        | nil => exact absurd rfl (hne (by first | rfl | trivial))
        | cons v r =>
        obtain ⟨ar, orr, hao, har, hkey⟩ := vals_head hce3
        have hkv : keyC ⟨true, v :: r, a0, k0⟩ = v.i := rfl
        rw [hkv] at hkc
        obtain ⟨z, hz⟩ : ∃ z, hasK (L.take 0) v.i = z := ⟨_, rfl⟩
        rw [hz] at hkc
        have hn0 : 0 < n0 := by rw [← HN0.out]; simp
        have CK : Hid (∀ W, Below wa.heap.size wa W → Calls Tryd.prog 64 #[.slice (some ⟨b1, 0, none⟩) 0 4, .slice (some ⟨ar, orr, none⟩) n0 k0] W fun e w' => e = .returned (.bool z) ∧ Below W.heap.size W w') := Lib.hid (fun W h => by
          have hs := HST.out W (below_stepL HBA.out HBA.out.size h)
          have := hasKey_any (L.take 0) b1 0 4 v.i ar orr n0 k0 W (by rw [List.length_take, HLL.out]; omega) hs.2.1 (hs.1 0) (HRE.out.take 0) (Nat.lt_of_lt_of_le har h.size) ((h.cell (p := ⟨ar, orr + 1, none⟩) har).trans hkey) hn0
          rw [List.length_take, HLL.out, hz] at this
          exact this)
        have HKC := Lib.hid hkc
        subst hao
        clear hkc z4 hb4 hwa hm4 hkp0 hbw hce hne hce3 har hkey hkv hz hn0
        go_upto_region 4 with fail
        rw [HWA.out, HM4.out]
        clear HWA HM4
        refine wp_region_det 9 (by kernel_rfl) (by kernel_rfl) (by kernel_rfl) ?_
        simp only [List.take_succ_cons, List.take_zero, List.drop_succ_cons, List.drop_zero]
        repeat (first
          | (apply wpDet_plain _ rfl; (focus (intro W hW; obtain ⟨p0, p1⟩ := HP.out W hW; go_simp; exact ⟨rfl, Below.refl _ _⟩)); simp only [Act.put, List.setIfInBounds_toArray, List.set_cons_zero, List.set_cons_succ])
          | (apply wpDet_want _ (by kernel_rfl); (focus (intro W hW; obtain ⟨p0, p1⟩ := HP.out W hW; go_simp; exact ⟨rfl, Below.refl _ _⟩)); simp only [Act.put, List.setIfInBounds_toArray, List.set_cons_zero, List.set_cons_succ])
          | (apply wpDet_want _ (by kernel_rfl); (focus (intro W hW; go_simp; refine (CK.out W hW).mono ?_; rintro e w' ⟨rfl, hb⟩; exact ⟨rfl, hb⟩)); simp only [Act.put, List.setIfInBounds_toArray, List.set_cons_zero, List.set_cons_succ]))
        refine wpDet_nil ?_
        intro W2 hW2
        have hb2 := Lib.hid (below_stepL HBA.out HBA.out.size hW2)
        clear hW2 HP CK
        cases z with
        | true =>
          go_wp2_with fail
          go_ret
          exact ⟨by rw [HKC.out]; rfl, below_stepL HB1.out HB1.out.size hb2.out⟩
        | false =>
          have HK1 : Hid (keysP (L.take 1) (L.drop 1) = R) := Lib.hid (by rw [HKC.out]; simp)
          go_wp2_with fail
          go_roundw
          case rel => exact ⟨1, by omega, by go_num, HK1, hb2⟩
          case measure => simp [intOf]
    · have z4 : Blk _ _ _ [_, _] := Blk.new wr #[.bool f1, .slice a1 n1 k1] 25
      have hb4 := (Below.refl wr.heap.size wr).alloc (Nat.le_refl _) (.cells #[.bool f1, .slice a1 n1 k1] 25)
      obtain ⟨wa, hwa⟩ : ∃ W, wr.alloc (.cells #[.bool f1, .slice a1 n1 k1] 25) = W := ⟨_, rfl⟩
      rw [hwa] at z4 hb4
      obtain ⟨m4, hm4⟩ : ∃ x, wr.heap.size = x := ⟨_, rfl⟩
      rw [hm4] at z4
      have HP : Hid (∀ W, Below wa.heap.size wa W → W.cell? ⟨m4, 0, none⟩ = some (.bool f1) ∧ W.cell? ⟨m4, 1, none⟩ = some (.slice a1 n1 k1)) := Lib.hid (fun W h => ⟨(z4.call h).cell (j := 0) rfl, (z4.call h).cell (j := 1) rfl⟩)
      have HBA := Lib.hid (below_stepL hbw.out hbw.out.size hb4)
      have hkc := keysP_cons L 1 _ HG1.out
      rw [hkp0.out] at hkc
      have HWA := Lib.hid hwa
      have HM4 := Lib.hid hm4
      cases f1 with
      | false =>
        have HK1 : Hid (keysP (L.take 2) (L.drop 2) = R) := Lib.hid (by rw [hkc]; simp)
        clear hkc z4 hb4 hwa hm4 hkp0 hbw
        go_upto_region 4 with fail
        rw [HWA.out, HM4.out]
        obtain ⟨p0, p1⟩ := HP.out wa (Below.refl _ _)
        go_quiet (fail)
        have hbq := Lib.hid (below_dqC HBA.out nq)
        clear p0 p1
        go_wp2_with fail
        go_roundw
        case rel => exact ⟨2, by omega, by go_num, HK1, hbq⟩
        case measure => simp [intOf]
      | true =>
        obtain ⟨hce, hne⟩ := (HST.out wa HBA.out).2.2 1 _ HG1.out
        have hce3 := hce.2.2
        simp only at hce3 hne
        cases r1 with
        | nil => exact absurd rfl (hne (by first | rfl | trivial))
        | cons v r =>
        obtain ⟨ar, orr, hao, har, hkey⟩ := vals_head hce3
        have hkv : keyC ⟨true, v :: r, a1, k1⟩ = v.i := rfl
        rw [hkv] at hkc
        obtain ⟨z, hz⟩ : ∃ z, hasK (L.take 1) v.i = z := ⟨_, rfl⟩
        rw [hz] at hkc
        have hn0 : 0 < n1 := by rw [← HN1.out]; simp
        have CK : Hid (∀ W, Below wa.heap.size wa W → Calls Tryd.prog 64 #[.slice (some ⟨b1, 0, none⟩) 1 4, .slice (some ⟨ar, orr, none⟩) n1 k1] W fun e w' => e = .returned (.bool z) ∧ Below W.heap.size W w') := Lib.hid (fun W h => by
          have hs := HST.out W (below_stepL HBA.out HBA.out.size h)
          have := hasKey_any (L.take 1) b1 0 4 v.i ar orr n1 k1 W (by rw [List.length_take, HLL.out]; omega) hs.2.1 (hs.1 1) (HRE.out.take 1) (Nat.lt_of_lt_of_le har h.size) ((h.cell (p := ⟨ar, orr + 1, none⟩) har).trans hkey) hn0
          rw [List.length_take, HLL.out, hz] at this
          exact this)
        have HKC := Lib.hid hkc
        subst hao
        clear hkc z4 hb4 hwa hm4 hkp0 hbw hce hne hce3 har hkey hkv hz hn0
        go_upto_region 4 with fail
        rw [HWA.out, HM4.out]
        clear HWA HM4
        refine wp_region_det 9 (by kernel_rfl) (by kernel_rfl) (by kernel_rfl) ?_
        simp only [List.take_succ_cons, List.take_zero, List.drop_succ_cons, List.drop_zero]
        repeat (first
          | (apply wpDet_plain _ rfl; (focus (intro W hW; obtain ⟨p0, p1⟩ := HP.out W hW; go_simp; exact ⟨rfl, Below.refl _ _⟩)); simp only [Act.put, List.setIfInBounds_toArray, List.set_cons_zero, List.set_cons_succ])
          | (apply wpDet_want _ (by kernel_rfl); (focus (intro W hW; obtain ⟨p0, p1⟩ := HP.out W hW; go_simp; exact ⟨rfl, Below.refl _ _⟩)); simp only [Act.put, List.setIfInBounds_toArray, List.set_cons_zero, List.set_cons_succ])
          | (apply wpDet_want _ (by kernel_rfl); (focus (intro W hW; go_simp; refine (CK.out W hW).mono ?_; rintro e w' ⟨rfl, hb⟩; exact ⟨rfl, hb⟩)); simp only [Act.put, List.setIfInBounds_toArray, List.set_cons_zero, List.set_cons_succ]))
        refine wpDet_nil ?_
        intro W2 hW2
        have hb2 := Lib.hid (below_stepL HBA.out HBA.out.size hW2)
        clear hW2 HP CK
        cases z with
        | true =>
          go_wp2_with fail
          go_ret
          exact ⟨by rw [HKC.out]; rfl, below_stepL HB1.out HB1.out.size hb2.out⟩
        | false =>
          have HK1 : Hid (keysP (L.take 2) (L.drop 2) = R) := Lib.hid (by rw [HKC.out]; simp)
          go_wp2_with fail
          go_roundw
          case rel => exact ⟨2, by omega, by go_num, HK1, hb2⟩
          case measure => simp [intOf]
    · have z4 : Blk _ _ _ [_, _] := Blk.new wr #[.bool f2, .slice a2 n2 k2] 25
      have hb4 := (Below.refl wr.heap.size wr).alloc (Nat.le_refl _) (.cells #[.bool f2, .slice a2 n2 k2] 25)
      obtain ⟨wa, hwa⟩ : ∃ W, wr.alloc (.cells #[.bool f2, .slice a2 n2 k2] 25) = W := ⟨_, rfl⟩
      rw [hwa] at z4 hb4
      obtain ⟨m4, hm4⟩ : ∃ x, wr.heap.size = x := ⟨_, rfl⟩
      rw [hm4] at z4
      have HP : Hid (∀ W, Below wa.heap.size wa W → W.cell? ⟨m4, 0, none⟩ = some (.bool f2) ∧ W.cell? ⟨m4, 1, none⟩ = some (.slice a2 n2 k2)) := Lib.hid (fun W h => ⟨(z4.call h).cell (j := 0) rfl, (z4.call h).cell (j := 1) rfl⟩)
      have HBA := Lib.hid (below_stepL hbw.out hbw.out.size hb4)
      have hkc := keysP_cons L 2 _ HG2.out
      rw [hkp0.out] at hkc
      have HWA := Lib.hid hwa
      have HM4 := Lib.hid hm4
      cases f2 with
      | false =>
        have HK1 : Hid (keysP (L.take 3) (L.drop 3) = R) := Lib.hid (by rw [hkc]; simp)
        clear hkc z4 hb4 hwa hm4 hkp0 hbw
        go_upto_region 4 with fail
        rw [HWA.out, HM4.out]
        obtain ⟨p0, p1⟩ := HP.out wa (Below.refl _ _)
        go_quiet (fail)
        have hbq := Lib.hid (below_dqC HBA.out nq)
        clear p0 p1
        go_wp2_with fail
        go_roundw
        case rel => exact ⟨3, by omega, by go_num, HK1, hbq⟩
        case measure => simp [intOf]
      | true =>
        obtain ⟨hce, hne⟩ := (HST.out wa HBA.out).2.2 2 _ HG2.out
        have hce3 := hce.2.2
        simp only at hce3 hne
        cases r2 with
        | nil => exact absurd rfl (hne (by first | rfl | trivial))
        | cons v r =>
        obtain ⟨ar, orr, hao, har, hkey⟩ := vals_head hce3
        have hkv : keyC ⟨true, v :: r, a2, k2⟩ = v.i := rfl
        rw [hkv] at hkc
        obtain ⟨z, hz⟩ : ∃ z, hasK (L.take 2) v.i = z := ⟨_, rfl⟩
        rw [hz] at hkc
        have hn0 : 0 < n2 := by rw [← HN2.out]; simp
        have CK : Hid (∀ W, Below wa.heap.size wa W → Calls Tryd.prog 64 #[.slice (some ⟨b1, 0, none⟩) 2 4, .slice (some ⟨ar, orr, none⟩) n2 k2] W fun e w' => e = .returned (.bool z) ∧ Below W.heap.size W w') := Lib.hid (fun W h => by
          have hs := HST.out W (below_stepL HBA.out HBA.out.size h)
          have := hasKey_any (L.take 2) b1 0 4 v.i ar orr n2 k2 W (by rw [List.length_take, HLL.out]; omega) hs.2.1 (hs.1 2) (HRE.out.take 2) (Nat.lt_of_lt_of_le har h.size) ((h.cell (p := ⟨ar, orr + 1, none⟩) har).trans hkey) hn0
          rw [List.length_take, HLL.out, hz] at this
          exact this)
        have HKC := Lib.hid hkc
        subst hao
        clear hkc z4 hb4 hwa hm4 hkp0 hbw hce hne hce3 har hkey hkv hz hn0
        go_upto_region 4 with fail
        rw [HWA.out, HM4.out]
        clear HWA HM4
        refine wp_region_det 9 (by kernel_rfl) (by kernel_rfl) (by kernel_rfl) ?_
        simp only [List.take_succ_cons, List.take_zero, List.drop_succ_cons, List.drop_zero]
        repeat (first
          | (apply wpDet_plain _ rfl; (focus (intro W hW; obtain ⟨p0, p1⟩ := HP.out W hW; go_simp; exact ⟨rfl, Below.refl _ _⟩)); simp only [Act.put, List.setIfInBounds_toArray, List.set_cons_zero, List.set_cons_succ])
          | (apply wpDet_want _ (by kernel_rfl); (focus (intro W hW; obtain ⟨p0, p1⟩ := HP.out W hW; go_simp; exact ⟨rfl, Below.refl _ _⟩)); simp only [Act.put, List.setIfInBounds_toArray, List.set_cons_zero, List.set_cons_succ])
          | (apply wpDet_want _ (by kernel_rfl); (focus (intro W hW; go_simp; refine (CK.out W hW).mono ?_; rintro e w' ⟨rfl, hb⟩; exact ⟨rfl, hb⟩)); simp only [Act.put, List.setIfInBounds_toArray, List.set_cons_zero, List.set_cons_succ]))
        refine wpDet_nil ?_
        intro W2 hW2
        have hb2 := Lib.hid (below_stepL HBA.out HBA.out.size hW2)
        clear hW2 HP CK
        cases z with
        | true =>
          go_wp2_with fail
          go_ret
          exact ⟨by rw [HKC.out]; rfl, below_stepL HB1.out HB1.out.size hb2.out⟩
        | false =>
          have HK1 : Hid (keysP (L.take 3) (L.drop 3) = R) := Lib.hid (by rw [HKC.out]; simp)
          go_wp2_with fail
          go_roundw
          case rel => exact ⟨3, by omega, by go_num, HK1, hb2⟩
          case measure => simp [intOf]
    · have z4 : Blk _ _ _ [_, _] := Blk.new wr #[.bool f3, .slice a3 n3 k3] 25
      have hb4 := (Below.refl wr.heap.size wr).alloc (Nat.le_refl _) (.cells #[.bool f3, .slice a3 n3 k3] 25)
      obtain ⟨wa, hwa⟩ : ∃ W, wr.alloc (.cells #[.bool f3, .slice a3 n3 k3] 25) = W := ⟨_, rfl⟩
      rw [hwa] at z4 hb4
      obtain ⟨m4, hm4⟩ : ∃ x, wr.heap.size = x := ⟨_, rfl⟩
      rw [hm4] at z4
      have HP : Hid (∀ W, Below wa.heap.size wa W → W.cell? ⟨m4, 0, none⟩ = some (.bool f3) ∧ W.cell? ⟨m4, 1, none⟩ = some (.slice a3 n3 k3)) := Lib.hid (fun W h => ⟨(z4.call h).cell (j := 0) rfl, (z4.call h).cell (j := 1) rfl⟩)
      have HBA := Lib.hid (below_stepL hbw.out hbw.out.size hb4)
      have hkc := keysP_cons L 3 _ HG3.out
      rw [hkp0.out] at hkc
      have HWA := Lib.hid hwa
      have HM4 := Lib.hid hm4
      cases f3 with
      | false =>
        have HK1 : Hid (keysP (L.take 4) (L.drop 4) = R) := Lib.hid (by rw [hkc]; simp)
        clear hkc z4 hb4 hwa hm4 hkp0 hbw
        go_upto_region 4 with fail
        rw [HWA.out, HM4.out]
        obtain ⟨p0, p1⟩ := HP.out wa (Below.refl _ _)
        go_quiet (fail)
        have hbq := Lib.hid (below_dqC HBA.out nq)
        clear p0 p1
        go_wp2_with fail
        go_roundw
        case rel => exact ⟨4, by omega, by go_num, HK1, hbq⟩
        case measure => simp [intOf]
      | true =>
        obtain ⟨hce, hne⟩ := (HST.out wa HBA.out).2.2 3 _ HG3.out
        have hce3 := hce.2.2
        simp only at hce3 hne
        cases r3 with
        | nil => exact absurd rfl (hne (by first | rfl | trivial))
        | cons v r =>
        obtain ⟨ar, orr, hao, har, hkey⟩ := vals_head hce3
        have hkv : keyC ⟨true, v :: r, a3, k3⟩ = v.i := rfl
        rw [hkv] at hkc
        obtain ⟨z, hz⟩ : ∃ z, hasK (L.take 3) v.i = z := ⟨_, rfl⟩
        rw [hz] at hkc
        have hn0 : 0 < n3 := by rw [← HN3.out]; simp
        have CK : Hid (∀ W, Below wa.heap.size wa W → Calls Tryd.prog 64 #[.slice (some ⟨b1, 0, none⟩) 3 4, .slice (some ⟨ar, orr, none⟩) n3 k3] W fun e w' => e = .returned (.bool z) ∧ Below W.heap.size W w') := Lib.hid (fun W h => by
          have hs := HST.out W (below_stepL HBA.out HBA.out.size h)
          have := hasKey_any (L.take 3) b1 0 4 v.i ar orr n3 k3 W (by rw [List.length_take, HLL.out]; omega) hs.2.1 (hs.1 3) (HRE.out.take 3) (Nat.lt_of_lt_of_le har h.size) ((h.cell (p := ⟨ar, orr + 1, none⟩) har).trans hkey) hn0
          rw [List.length_take, HLL.out, hz] at this
          exact this)
        have HKC := Lib.hid hkc
        subst hao
        clear hkc z4 hb4 hwa hm4 hkp0 hbw hce hne hce3 har hkey hkv hz hn0
        go_upto_region 4 with fail
        rw [HWA.out, HM4.out]
        clear HWA HM4
        refine wp_region_det 9 (by kernel_rfl) (by kernel_rfl) (by kernel_rfl) ?_
        simp only [List.take_succ_cons, List.take_zero, List.drop_succ_cons, List.drop_zero]
        repeat (first
          | (apply wpDet_plain _ rfl; (focus (intro W hW; obtain ⟨p0, p1⟩ := HP.out W hW; go_simp; exact ⟨rfl, Below.refl _ _⟩)); simp only [Act.put, List.setIfInBounds_toArray, List.set_cons_zero, List.set_cons_succ])
          | (apply wpDet_want _ (by kernel_rfl); (focus (intro W hW; obtain ⟨p0, p1⟩ := HP.out W hW; go_simp; exact ⟨rfl, Below.refl _ _⟩)); simp only [Act.put, List.setIfInBounds_toArray, List.set_cons_zero, List.set_cons_succ])
          | (apply wpDet_want _ (by kernel_rfl); (focus (intro W hW; go_simp; refine (CK.out W hW).mono ?_; rintro e w' ⟨rfl, hb⟩; exact ⟨rfl, hb⟩)); simp only [Act.put, List.setIfInBounds_toArray, List.set_cons_zero, List.set_cons_succ]))
        refine wpDet_nil ?_
        intro W2 hW2
        have hb2 := Lib.hid (below_stepL HBA.out HBA.out.size hW2)
        clear hW2 HP CK
        cases z with
        | true =>
          go_wp2_with fail
          go_ret
          exact ⟨by rw [HKC.out]; rfl, below_stepL HB1.out HB1.out.size hb2.out⟩
        | false =>
          have HK1 : Hid (keysP (L.take 4) (L.drop 4) = R) := Lib.hid (by rw [HKC.out]; simp)
          go_wp2_with fail
          go_roundw
          case rel => exact ⟨4, by omega, by go_num, HK1, hb2⟩
          case measure => simp [intOf]
    · have hd := hkp0.out
      rw [List.drop_of_length_le (by rw [HLL.out]; omega)] at hd
      have HD := Lib.hid hd
      clear hd
      go_wp2_with fail
      go_ret
      exact ⟨by rw [← HD.out]; rfl, below_stepL HB1.out HB1.out.size hbw.out⟩
--CUTB
theorem tabCell_any (c : Ce) (l : List Cl) (ao : Option Addr) (cap : Nat) (w : World) (hc : CeOk w c) (hcap : l.length ≤ cap) (hl : cap ≤ 9223372036854775807) (hC : Cols w ao l) (hT : Tabs w) (hS : SW w) :
    Calls Tryd.prog 56 #[.agg #[.bool c.full, .slice c.ao c.row.length c.cap], .slice ao l.length cap] w fun e w' => e = .returned (.int .i64 (cellR l c)) ∧ Below w.heap.size w w' := by
  obtain ⟨f, row, a, k⟩ := c
  obtain ⟨h1, h2, h3⟩ := hc
  simp only at h1 h2 h3 ⊢
  have z0 : Blk _ _ _ [_, _] := Blk.new w #[.bool f, .slice a row.length k] 25
  have hb0 := (Below.refl w.heap.size w).alloc (Nat.le_refl _) (.cells #[.bool f, .slice a row.length k] 25)
  obtain ⟨w0, hw0⟩ : ∃ W, w.alloc (.cells #[.bool f, .slice a row.length k] 25) = W := ⟨_, rfl⟩
  rw [hw0] at z0 hb0
  have q0 := z0.cell (j := 0) rfl
  have q1 := z0.cell (j := 1) rfl
  have cR := row_any row a k l ao cap w0 h1 h2 (h3.keep hb0) hcap hl (hC.keep hb0) (tabs_below hT hb0) (hS.keep hb0 (Nat.le_refl _))
  obtain ⟨R, hR⟩ : ∃ R, cellR l ⟨f, row, a, k⟩ = R := ⟨_, rfl⟩
  have hr : R = if f = true then rowR row l else if 0 < row.length then 3 else 0 := by rw [← hR]; rfl
  rw [hR]
  have HR := Lib.hid hr
  have HW := Lib.hid hw0
  have HB := Lib.hid hb0
  clear hR hr hw0 hb0 z0 hC hT hS h3
  cases f with
  | true =>
    obtain ⟨X, hX⟩ : ∃ X, rowR row l = X := ⟨_, rfl⟩
    rw [hX] at cR HR
    have HX : Hid (R = X) := Lib.hid (by rw [HR.out]; rfl)
    clear hX HR
    generalize row.length = n at *
    generalize l.length = m at *
    go_enter Tryd.func56, Tryd.ntmps56
    go_upto_region 1 with fail
    rw [HW.out]
    go_wp2_with fail
    refine cR.mono ?_
    rintro e w1 ⟨rfl, hb1⟩
    have hbb := below_stepL HB.out HB.out.size hb1
    clear cR
    go_wp2_with fail
    go_ret
    exact ⟨by rw [HX.out]; first | done | rfl, hbb⟩
  | false =>
    clear cR
    by_cases hn : 0 < row.length
    · have HX : Hid (R = 3) := Lib.hid (by rw [HR.out]; simp [hn])
      clear HR
      generalize row.length = n at *
      generalize l.length = m at *
      have hi : (0 : Int) < (n : Int) := by omega
      go_enter Tryd.func56, Tryd.ntmps56
      go_upto_region 1 with fail
      rw [HW.out]
      go_wp2_with fail
      go_ret
      exact ⟨by rw [HX.out]; first | done | rfl, HB.out⟩
    · have HX : Hid (R = 0) := Lib.hid (by rw [HR.out]; simp [hn])
      clear HR
      generalize row.length = n at *
      generalize l.length = m at *
      have hi : ¬ (0 : Int) < (n : Int) := by omega
      go_enter Tryd.func56, Tryd.ntmps56
      go_upto_region 1 with fail
      rw [HW.out]
      go_wp2_with fail
      go_ret
      exact ⟨by rw [HX.out]; first | done | rfl, HB.out⟩
theorem cellsR_cons (cols : List Cl) (L : List Ce) (j : Nat) (c : Ce) (h : L[j]? = some c) : cellsR cols (L.drop j) = if cellR cols c ≠ 0 then cellR cols c else cellsR cols (L.drop (j + 1)) := by
  obtain ⟨hj, he⟩ := List.getElem?_eq_some_iff.1 h
  rw [List.drop_eq_getElem_cons hj, he, cellsR]
set_option maxHeartbeats 16000000 in
theorem checkCells_any (d : Dr) (l : List Cl) (ao : Option Addr) (cap : Nat) (w : World) (hD : DrOk w d) (hne : l ≠ []) (hcap : l.length ≤ cap) (hl : cap ≤ 9223372036854775807) (hC : Cols w ao l) (hT : Tabs w) (hS : SW w) :
    Calls Tryd.prog 28 #[.agg (drV d).toArray, .slice ao l.length cap] w fun e w' => e = .returned (.int .i64 (drawR l (drL d))) ∧ Below w.heap.size w w' := by
  have CKK : Hid (cellsR l (drL d) = 0 → ∀ W, Below w.heap.size w W → Calls Tryd.prog 57 #[.agg (drV d).toArray] W fun e w' => e = .returned (.int .i64 (keysG [] (drL d))) ∧ Below W.heap.size W w') := Lib.hid (fun h0 W h => checkKeys_any d W (hD.keep h) (rows_of hne h0))
  obtain ⟨c0, c1, c2, c3⟩ := d
  obtain ⟨RK, hRK⟩ : ∃ R, keysG [] (drL (c0, c1, c2, c3)) = R := ⟨_, rfl⟩
  obtain ⟨RC, hRC⟩ : ∃ R, cellsR l (drL (c0, c1, c2, c3)) = R := ⟨_, rfl⟩
  have hRD : drawR l (drL (c0, c1, c2, c3)) = if RC ≠ 0 then RC else RK := by unfold drawR; rw [hRC, hRK]
  rw [hRK, hRC] at CKK
  obtain ⟨RD, hRDD⟩ : ∃ R, drawR l (drL (c0, c1, c2, c3)) = R := ⟨_, rfl⟩
  rw [hRDD] at hRD ⊢
  have HRD := Lib.hid hRD
  clear hRDD
  obtain ⟨L, hL⟩ : ∃ L, drL (c0, c1, c2, c3) = L := ⟨_, rfl⟩
  have z1 : Blk _ _ _ (drV (c0, c1, c2, c3)) := Blk.new w (drV (c0, c1, c2, c3)).toArray 73
  have hb1 := (Below.refl w.heap.size w).alloc (Nat.le_refl _) (.cells (drV (c0, c1, c2, c3)).toArray 73)
  obtain ⟨w1, hw1⟩ : ∃ W, w.alloc (.cells (drV (c0, c1, c2, c3)).toArray 73) = W := ⟨_, rfl⟩
  rw [hw1] at z1 hb1
  obtain ⟨b1, hbn⟩ : ∃ x, w.heap.size = x := ⟨_, rfl⟩
  rw [hbn] at z1
  have CKC : Hid (∀ (j : Nat) (c : Ce), L[j]? = some c → ∀ W, Below w.heap.size w W → Calls Tryd.prog 56 #[.agg #[.bool c.full, .slice c.ao c.row.length c.cap], .slice ao l.length cap] W fun e w' => e = .returned (.int .i64 (cellR l c)) ∧ Below W.heap.size W w') := Lib.hid (fun j c hj W h => tabCell_any c l ao cap W (by
    have hd := hD.keep h
    rw [← hL] at hj
    have hlt : j < 4 := (List.getElem?_eq_some_iff.1 hj).1
    rcases (show j = 0 ∨ j = 1 ∨ j = 2 ∨ j = 3 by omega) with rfl | rfl | rfl | rfl <;> cases hj
    · exact hd.1
    · exact hd.2.1
    · exact hd.2.2.1
    · exact hd.2.2.2) hcap hl (hC.keep h) (tabs_below hT h) (hS.keep h (Nat.le_refl _)))
  have HKR : Hid (cellsR l (L.drop 0) = RC) := Lib.hid (by rw [List.drop_zero, ← hL]; exact hRC)
  have HG0 : Hid (L[0]? = some c0) := Lib.hid (by rw [← hL]; rfl)
  have HG1 : Hid (L[1]? = some c1) := Lib.hid (by rw [← hL]; rfl)
  have HG2 : Hid (L[2]? = some c2) := Lib.hid (by rw [← hL]; rfl)
  have HG3 : Hid (L[3]? = some c3) := Lib.hid (by rw [← hL]; rfl)
  have HLL : Hid (L.length = 4) := Lib.hid (by rw [← hL]; rfl)
  have HCR := fun (j : Nat) (c : Ce) (h : L[j]? = some c) => cellsR_cons l L j c h
  have HCRH := Lib.hid HCR
  have HZ1 := Lib.hid z1
  have HW1 := Lib.hid hw1
  have HBN := Lib.hid hbn
  have HB1 := Lib.hid hb1
  clear HCR hRK hRC hRD hL z1 hb1 hw1 hbn hD hC hT hS hne
  obtain ⟨f0, r0, a0, k0⟩ := c0
  obtain ⟨n0, hn0⟩ : ∃ n, r0.length = n := ⟨_, rfl⟩
  obtain ⟨f1, r1, a1, k1⟩ := c1
  obtain ⟨n1, hn1⟩ : ∃ n, r1.length = n := ⟨_, rfl⟩
  obtain ⟨f2, r2, a2, k2⟩ := c2
  obtain ⟨n2, hn2⟩ : ∃ n, r2.length = n := ⟨_, rfl⟩
  obtain ⟨f3, r3, a3, k3⟩ := c3
  obtain ⟨n3, hn3⟩ : ∃ n, r3.length = n := ⟨_, rfl⟩
  simp only [drV, ceV, List.cons_append, List.nil_append] at HZ1 HW1 CKK ⊢
  rw [hn0] at HZ1 HW1 CKK ⊢
  have HN0 := Lib.hid hn0
  clear hn0
  rw [hn1] at HZ1 HW1 CKK ⊢
  have HN1 := Lib.hid hn1
  clear hn1
  rw [hn2] at HZ1 HW1 CKK ⊢
  have HN2 := Lib.hid hn2
  clear hn2
  rw [hn3] at HZ1 HW1 CKK ⊢
  have HN3 := Lib.hid hn3
  clear hn3
  obtain ⟨m, hm⟩ : ∃ m, l.length = m := ⟨_, rfl⟩
  rw [hm] at CKC hcap ⊢
  clear hm
  go_enter Tryd.func28, Tryd.ntmps28
  go_upto_region 1 with fail
  rw [HW1.out, HBN.out]
  have q0 : w1.cell? ⟨b1, 0, none⟩ = some (.bool f0) := HZ1.out.cell (j := 0) rfl
  have q1 : w1.cell? ⟨b1, 1, none⟩ = some (.slice a0 n0 k0) := HZ1.out.cell (j := 1) rfl
  have q2 : w1.cell? ⟨b1, 2, none⟩ = some (.bool f1) := HZ1.out.cell (j := 2) rfl
  have q3 : w1.cell? ⟨b1, 3, none⟩ = some (.slice a1 n1 k1) := HZ1.out.cell (j := 3) rfl
  have q4 : w1.cell? ⟨b1, 4, none⟩ = some (.bool f2) := HZ1.out.cell (j := 4) rfl
  have q5 : w1.cell? ⟨b1, 5, none⟩ = some (.slice a2 n2 k2) := HZ1.out.cell (j := 5) rfl
  have q6 : w1.cell? ⟨b1, 6, none⟩ = some (.bool f3) := HZ1.out.cell (j := 6) rfl
  have q7 : w1.cell? ⟨b1, 7, none⟩ = some (.slice a3 n3 k3) := HZ1.out.cell (j := 7) rfl
  have x0 := fun W => ix73_0 (.bool f0) (.slice a0 n0 k0) (.bool f1) (.slice a1 n1 k1) (.bool f2) (.slice a2 n2 k2) (.bool f3) (.slice a3 n3 k3) W
  have x1 := fun W => ix73_1 (.bool f0) (.slice a0 n0 k0) (.bool f1) (.slice a1 n1 k1) (.bool f2) (.slice a2 n2 k2) (.bool f3) (.slice a3 n3 k3) W
  have x2 := fun W => ix73_2 (.bool f0) (.slice a0 n0 k0) (.bool f1) (.slice a1 n1 k1) (.bool f2) (.slice a2 n2 k2) (.bool f3) (.slice a3 n3 k3) W
  have x3 := fun W => ix73_3 (.bool f0) (.slice a0 n0 k0) (.bool f1) (.slice a1 n1 k1) (.bool f2) (.slice a2 n2 k2) (.bool f3) (.slice a3 n3 k3) W
  go_upto_region 2 with fail
  clear q0 q1 q2 q3 q4 q5 q6 q7
  go_loopw [9] (fun ix wr => ∃ (j : Nat), j ≤ 4 ∧ ix = .int .i64 j ∧ Hid (cellsR l (L.drop j) = RC) ∧ Hid (Below w1.heap.size w1 wr)) (fun ix _ => 4 - (intOf ix).toNat)
  case atStart => exact ⟨0, Nat.zero_le _, rfl, HKR, Lib.hid (Below.refl _ _)⟩
  case round =>
    obtain ⟨j, hj, rfl, hkp0, hbw⟩ := hrel
    rcases (show j = 0 ∨ j = 1 ∨ j = 2 ∨ j = 3 ∨ j = 4 by omega) with rfl | rfl | rfl | rfl | rfl
    · have z4 : Blk _ _ _ [_, _] := Blk.new wr #[.bool f0, .slice a0 n0 k0] 25
      have hb4 := (Below.refl wr.heap.size wr).alloc (Nat.le_refl _) (.cells #[.bool f0, .slice a0 n0 k0] 25)
      obtain ⟨wa, hwa⟩ : ∃ W, wr.alloc (.cells #[.bool f0, .slice a0 n0 k0] 25) = W := ⟨_, rfl⟩
      rw [hwa] at z4 hb4
      obtain ⟨m4, hm4⟩ : ∃ x, wr.heap.size = x := ⟨_, rfl⟩
      rw [hm4] at z4
      have HBA := Lib.hid (below_stepL hbw.out hbw.out.size hb4)
      have hkc := HCRH.out 0 _ HG0.out
      rw [hkp0.out] at hkc
      have HWA := Lib.hid hwa
      have HM4 := Lib.hid hm4
      have p0 := z4.cell (j := 0) rfl
      have p1 := z4.cell (j := 1) rfl
      have cC := CKC.out 0 _ HG0.out wa (below_stepL HB1.out HB1.out.size HBA.out)
      simp only at cC
      rw [HN0.out] at cC
      obtain ⟨X, hX⟩ : ∃ X, cellR l ⟨f0, r0, a0, k0⟩ = X := ⟨_, rfl⟩
      rw [hX] at cC hkc
      have HKC := Lib.hid hkc
      clear hkc z4 hb4 hwa hm4 hkp0 hbw hX
      go_upto_region 4 with fail
      rw [HWA.out, HM4.out]
      go_wp2_with fail
      refine cC.mono ?_
      rintro e w5 ⟨rfl, hb5⟩
      have HB5 := Lib.hid (below_stepL HBA.out HBA.out.size hb5)
      clear cC p0 p1 hb5 HWA HM4
      by_cases hx : X = 0
      · have HK1 : Hid (cellsR l (L.drop 1) = RC) := Lib.hid (by rw [HKC.out, if_neg (fun h => h hx)])
        subst hx
        go_wp2_with fail
        go_roundw
        case rel => exact ⟨1, by omega, by go_num, HK1, HB5⟩
        case measure => simp [intOf]
      · have HRX : Hid (RC = X) := Lib.hid (by rw [HKC.out, if_pos hx])
        have HX := Lib.hid hx
        go_wp2_with fail
        go_ret
        exact ⟨by rw [HRD.out, HRX.out, if_pos HX.out]; first | done | rfl, below_stepL HB1.out HB1.out.size HB5.out⟩
    · have z4 : Blk _ _ _ [_, _] := Blk.new wr #[.bool f1, .slice a1 n1 k1] 25
      have hb4 := (Below.refl wr.heap.size wr).alloc (Nat.le_refl _) (.cells #[.bool f1, .slice a1 n1 k1] 25)
      obtain ⟨wa, hwa⟩ : ∃ W, wr.alloc (.cells #[.bool f1, .slice a1 n1 k1] 25) = W := ⟨_, rfl⟩
      rw [hwa] at z4 hb4
      obtain ⟨m4, hm4⟩ : ∃ x, wr.heap.size = x := ⟨_, rfl⟩
      rw [hm4] at z4
      have HBA := Lib.hid (below_stepL hbw.out hbw.out.size hb4)
      have hkc := HCRH.out 1 _ HG1.out
      rw [hkp0.out] at hkc
      have HWA := Lib.hid hwa
      have HM4 := Lib.hid hm4
      have p0 := z4.cell (j := 0) rfl
      have p1 := z4.cell (j := 1) rfl
      have cC := CKC.out 1 _ HG1.out wa (below_stepL HB1.out HB1.out.size HBA.out)
      simp only at cC
      rw [HN1.out] at cC
      obtain ⟨X, hX⟩ : ∃ X, cellR l ⟨f1, r1, a1, k1⟩ = X := ⟨_, rfl⟩
      rw [hX] at cC hkc
      have HKC := Lib.hid hkc
      clear hkc z4 hb4 hwa hm4 hkp0 hbw hX
      go_upto_region 4 with fail
      rw [HWA.out, HM4.out]
      go_wp2_with fail
      refine cC.mono ?_
      rintro e w5 ⟨rfl, hb5⟩
      have HB5 := Lib.hid (below_stepL HBA.out HBA.out.size hb5)
      clear cC p0 p1 hb5 HWA HM4
      by_cases hx : X = 0
      · have HK1 : Hid (cellsR l (L.drop 2) = RC) := Lib.hid (by rw [HKC.out, if_neg (fun h => h hx)])
        subst hx
        go_wp2_with fail
        go_roundw
        case rel => exact ⟨2, by omega, by go_num, HK1, HB5⟩
        case measure => simp [intOf]
      · have HRX : Hid (RC = X) := Lib.hid (by rw [HKC.out, if_pos hx])
        have HX := Lib.hid hx
        go_wp2_with fail
        go_ret
        exact ⟨by rw [HRD.out, HRX.out, if_pos HX.out]; first | done | rfl, below_stepL HB1.out HB1.out.size HB5.out⟩
    · have z4 : Blk _ _ _ [_, _] := Blk.new wr #[.bool f2, .slice a2 n2 k2] 25
      have hb4 := (Below.refl wr.heap.size wr).alloc (Nat.le_refl _) (.cells #[.bool f2, .slice a2 n2 k2] 25)
      obtain ⟨wa, hwa⟩ : ∃ W, wr.alloc (.cells #[.bool f2, .slice a2 n2 k2] 25) = W := ⟨_, rfl⟩
      rw [hwa] at z4 hb4
      obtain ⟨m4, hm4⟩ : ∃ x, wr.heap.size = x := ⟨_, rfl⟩
      rw [hm4] at z4
      have HBA := Lib.hid (below_stepL hbw.out hbw.out.size hb4)
      have hkc := HCRH.out 2 _ HG2.out
      rw [hkp0.out] at hkc
      have HWA := Lib.hid hwa
      have HM4 := Lib.hid hm4
      have p0 := z4.cell (j := 0) rfl
      have p1 := z4.cell (j := 1) rfl
      have cC := CKC.out 2 _ HG2.out wa (below_stepL HB1.out HB1.out.size HBA.out)
      simp only at cC
      rw [HN2.out] at cC
      obtain ⟨X, hX⟩ : ∃ X, cellR l ⟨f2, r2, a2, k2⟩ = X := ⟨_, rfl⟩
      rw [hX] at cC hkc
      have HKC := Lib.hid hkc
      clear hkc z4 hb4 hwa hm4 hkp0 hbw hX
      go_upto_region 4 with fail
      rw [HWA.out, HM4.out]
      go_wp2_with fail
      refine cC.mono ?_
      rintro e w5 ⟨rfl, hb5⟩
      have HB5 := Lib.hid (below_stepL HBA.out HBA.out.size hb5)
      clear cC p0 p1 hb5 HWA HM4
      by_cases hx : X = 0
      · have HK1 : Hid (cellsR l (L.drop 3) = RC) := Lib.hid (by rw [HKC.out, if_neg (fun h => h hx)])
        subst hx
        go_wp2_with fail
        go_roundw
        case rel => exact ⟨3, by omega, by go_num, HK1, HB5⟩
        case measure => simp [intOf]
      · have HRX : Hid (RC = X) := Lib.hid (by rw [HKC.out, if_pos hx])
        have HX := Lib.hid hx
        go_wp2_with fail
        go_ret
        exact ⟨by rw [HRD.out, HRX.out, if_pos HX.out]; first | done | rfl, below_stepL HB1.out HB1.out.size HB5.out⟩
    · have z4 : Blk _ _ _ [_, _] := Blk.new wr #[.bool f3, .slice a3 n3 k3] 25
      have hb4 := (Below.refl wr.heap.size wr).alloc (Nat.le_refl _) (.cells #[.bool f3, .slice a3 n3 k3] 25)
      obtain ⟨wa, hwa⟩ : ∃ W, wr.alloc (.cells #[.bool f3, .slice a3 n3 k3] 25) = W := ⟨_, rfl⟩
      rw [hwa] at z4 hb4
      obtain ⟨m4, hm4⟩ : ∃ x, wr.heap.size = x := ⟨_, rfl⟩
      rw [hm4] at z4
      have HBA := Lib.hid (below_stepL hbw.out hbw.out.size hb4)
      have hkc := HCRH.out 3 _ HG3.out
      rw [hkp0.out] at hkc
      have HWA := Lib.hid hwa
      have HM4 := Lib.hid hm4
      have p0 := z4.cell (j := 0) rfl
      have p1 := z4.cell (j := 1) rfl
      have cC := CKC.out 3 _ HG3.out wa (below_stepL HB1.out HB1.out.size HBA.out)
      simp only at cC
      rw [HN3.out] at cC
      obtain ⟨X, hX⟩ : ∃ X, cellR l ⟨f3, r3, a3, k3⟩ = X := ⟨_, rfl⟩
      rw [hX] at cC hkc
      have HKC := Lib.hid hkc
      clear hkc z4 hb4 hwa hm4 hkp0 hbw hX
      go_upto_region 4 with fail
      rw [HWA.out, HM4.out]
      go_wp2_with fail
      refine cC.mono ?_
      rintro e w5 ⟨rfl, hb5⟩
      have HB5 := Lib.hid (below_stepL HBA.out HBA.out.size hb5)
      clear cC p0 p1 hb5 HWA HM4
      by_cases hx : X = 0
      · have HK1 : Hid (cellsR l (L.drop 4) = RC) := Lib.hid (by rw [HKC.out, if_neg (fun h => h hx)])
        subst hx
        go_wp2_with fail
        go_roundw
        case rel => exact ⟨4, by omega, by go_num, HK1, HB5⟩
        case measure => simp [intOf]
      · have HRX : Hid (RC = X) := Lib.hid (by rw [HKC.out, if_pos hx])
        have HX := Lib.hid hx
        go_wp2_with fail
        go_ret
        exact ⟨by rw [HRD.out, HRX.out, if_pos HX.out]; first | done | rfl, below_stepL HB1.out HB1.out.size HB5.out⟩
    · have hd := hkp0.out
      rw [List.drop_of_length_le (by rw [HLL.out]; omega)] at hd
      have hd2 : RC = 0 := hd.symm
      have cK := CKK.out hd2 wr (below_stepL HB1.out HB1.out.size hbw.out)
      have HD := Lib.hid hd2
      clear hd hd2 CKC HCRH
      have q0 := (hbw.out.cell (p := ⟨b1, 0, none⟩) HZ1.out.lt).trans (HZ1.out.cell (j := 0) rfl)
      have q1 := (hbw.out.cell (p := ⟨b1, 1, none⟩) HZ1.out.lt).trans (HZ1.out.cell (j := 1) rfl)
      have q2 := (hbw.out.cell (p := ⟨b1, 2, none⟩) HZ1.out.lt).trans (HZ1.out.cell (j := 2) rfl)
      have q3 := (hbw.out.cell (p := ⟨b1, 3, none⟩) HZ1.out.lt).trans (HZ1.out.cell (j := 3) rfl)
      have q4 := (hbw.out.cell (p := ⟨b1, 4, none⟩) HZ1.out.lt).trans (HZ1.out.cell (j := 4) rfl)
      have q5 := (hbw.out.cell (p := ⟨b1, 5, none⟩) HZ1.out.lt).trans (HZ1.out.cell (j := 5) rfl)
      have q6 := (hbw.out.cell (p := ⟨b1, 6, none⟩) HZ1.out.lt).trans (HZ1.out.cell (j := 6) rfl)
      have q7 := (hbw.out.cell (p := ⟨b1, 7, none⟩) HZ1.out.lt).trans (HZ1.out.cell (j := 7) rfl)
      go_wp2_with fail
      refine cK.mono ?_
      rintro e w5 ⟨rfl, hb5⟩
      have HB5 := Lib.hid (below_stepL hbw.out hbw.out.size hb5)
      clear cK hb5 q0 q1 q2 q3 q4 q5 q6 q7
      go_wp2_with fail
      go_ret
      exact ⟨by rw [HRD.out, HD.out, if_neg (by decide)]; first | done | rfl, below_stepL HB1.out HB1.out.size HB5.out⟩
end Go.Proofs.YtpneoaehkibdeaaDoor
