/-
  CONTRACT of package kinds' ofOperation, over that of ofGood at parts of less depth.
  CONDITIONS: each theorem's own hypotheses.
-/
import Derived.Test.YtoleaahnpcbkkaaDoorKindY
namespace Go.Proofs.YtoleaahnpcbkkaaDoor
open Go.RowKit
set_option linter.unusedVariables false
set_option maxRecDepth 100000

theorem kP_take (cs : List Cl) (l : List T) (j : Nat) (t : T) (h : l[j]? = some t) : kP cs (l.take (j + 1)) = kP cs (l.take j) ++ [((kT cs t).k, (kT cs t).n)] := by
  obtain ⟨hj, he⟩ := List.getElem?_eq_some_iff.1 h
  rw [kP_map, kP_map, List.take_succ_eq_append_getElem hj, List.map_append, he]; rfl
theorem kP_len (cs : List Cl) (l : List T) : (kP cs l).length = l.length := by rw [kP_map, List.length_map]
theorem fst_snoc0 (m : List (Int × Bool)) (p : Int × Bool) (h : m.length = 0) : fstK (m ++ [p]) 0 = p.1 ∧ fstK (m ++ [p]) 1 = 0 := by
  rw [List.eq_nil_of_length_eq_zero h]; exact ⟨rfl, rfl⟩
theorem fst_snoc1 (m : List (Int × Bool)) (p : Int × Bool) (h : m.length = 1) : fstK (m ++ [p]) 0 = fstK m 0 ∧ fstK (m ++ [p]) 1 = p.1 := by
  match m, h with
  | [x], _ => exact ⟨rfl, rfl⟩
theorem nulls_snoc (m : List (Int × Bool)) (k : Int) (b : Bool) : nullsK (m ++ [(k, b)]) = nullsK m + (if b = true then 1 else 0) := by
  unfold nullsK
  rw [List.filter_append, List.length_append]
  cases b <;> rfl
/-- What the parts' kinds and nulls are behind j of them. -/
structure PartsAt (cs : List Cl) (l : List T) (j : Nat) (x0 x1 : Int) (nn : Nat) : Prop where
  a : fstK (kP cs (l.take j)) 0 = x0
  b : fstK (kP cs (l.take j)) 1 = x1
  c : nullsK (kP cs (l.take j)) = nn
theorem PartsAt.zero (cs : List Cl) (l : List T) : PartsAt cs l 0 0 0 0 := ⟨rfl, rfl, rfl⟩
theorem PartsAt.step0 {cs : List Cl} {l : List T} {x0 x1 : Int} {nn : Nat} {t : T} (h : PartsAt cs l 0 x0 x1 nn) (ht : l[0]? = some t) : PartsAt cs l 1 (kT cs t).k x1 (nn + if (kT cs t).n = true then 1 else 0) := by
  have e := kP_take cs l 0 t ht
  have hl : (kP cs (l.take 0)).length = 0 := by rw [kP_len]; simp
  have h2 := fst_snoc0 _ ((kT cs t).k, (kT cs t).n) hl
  refine ⟨by rw [e]; exact h2.1, by rw [e, h2.2]; exact h.b, by rw [e, nulls_snoc, h.c]⟩
theorem PartsAt.step1 {cs : List Cl} {l : List T} {x0 x1 : Int} {nn : Nat} {t : T} (h : PartsAt cs l 1 x0 x1 nn) (ht : l[1]? = some t) : PartsAt cs l 2 x0 (kT cs t).k (nn + if (kT cs t).n = true then 1 else 0) := by
  have e := kP_take cs l 1 t ht
  have hl : (kP cs (l.take 1)).length = 1 := by rw [kP_len, List.length_take]; have := (List.getElem?_eq_some_iff.1 ht).1; omega
  have h2 := fst_snoc1 _ ((kT cs t).k, (kT cs t).n) hl
  refine ⟨by rw [e, h2.1]; exact h.a, by rw [e]; exact h2.2, by rw [e, nulls_snoc, h.c]⟩
set_option maxHeartbeats 16000000 in
theorem ofOperation_step (n : Nat) (IH : OfOk n) : OfOp (n + 1) := by
  rintro ⟨⟨op, k, i, b, s, nm⟩, l⟩ ao cap cs aoc capc w hdp hf ho1 ho2 hA hl hcl hC
  have hdl : deepL l ≤ n := by simp only [T.deep] at hdp; omega
  obtain ⟨hnF, hlF⟩ := formT_open _ l hf
  obtain ⟨⟨q1, q2⟩, hp, _, _⟩ := nodeF_open _ _ hnF
  simp only [T.nd] at ho1 ho2
  simp only at q1 q2 hp
  have hL2 : l.length ≤ 2 := by rw [hp]; unfold partsN; split <;> (try split) <;> omega
  have hK : kT cs (T.mk ⟨op, k, i, b, s, nm⟩ l) = if kF cs l ≠ 0 then ⟨0, false, kF cs l⟩ else opK op (kP cs l) := by simp only [kT]; rw [if_neg ho1, if_neg ho2]
  simp only [AtT] at hA
  rw [exprV_cells]
  simp only [T.nd, T.kids] at hl ⊢
  obtain ⟨R, hR⟩ : ∃ R, kT cs (T.mk ⟨op, k, i, b, s, nm⟩ l) = R := ⟨_, rfl⟩
  rw [hR]
  rw [hR] at hK
  have hlF2 : ∀ t ∈ l, formT t = 0 := formL_mem l hlF
  have hkf : ∀ (x0 x1 : Int) (nn : Nat), PartsAt cs l l.length x0 x1 nn → (∀ (i : Nat) (u : T), l[i]? = some u → i < l.length → (kT cs u).f = 0) → R = if asksK op x0 x1 = true then ⟨givesK op x0 x1, mayK op nn, 0⟩ else ⟨0, false, 2⟩ := by
    intro x0 x1 nn hpa hg
    have h0 := kF_good cs l (fun i u hu => hg i u hu (List.getElem?_eq_some_iff.1 hu).1)
    rw [hK, if_neg (by rw [h0]; decide)]
    unfold opK
    have := hpa.a; have h1 := hpa.b; have h2 := hpa.c
    rw [List.take_length] at this h1 h2
    rw [this, h1, h2]
  have hkb : ∀ (j : Nat) (t : T), l[j]? = some t → (∀ (i : Nat) (u : T), l[i]? = some u → i < j → (kT cs u).f = 0) → (kT cs t).f ≠ 0 → R = ⟨0, false, (kT cs t).f⟩ := by
    intro j t ht hg hb
    have h0 := kF_bad cs l j t ht hg hb
    rw [hK, if_pos (by rw [h0]; exact hb), h0]
  have HKF := Lib.hid hkf
  have HKB := Lib.hid hkb
  have HF2 := Lib.hid hlF2
  have HIH := Lib.hid IH
  have HDL := Lib.hid hdl
  have HA := Lib.hid hA.2
  have HC := Lib.hid hC
  have hop : 3 ≤ op := by omega
  clear hkf hkb hK hR IH hdl hA hlF hlF2 hnF hf hp hdp ho1 ho2 q1 hC
  obtain ⟨L, hL⟩ : ∃ L, l.length = L := ⟨_, rfl⟩
  rw [hL] at hl hL2 ⊢
  have HL := Lib.hid hL
  obtain ⟨m, hm⟩ : ∃ m, cs.length = m := ⟨_, rfl⟩
  rw [hm] at hcl ⊢
  have HM := Lib.hid hm
  clear hL hm
  generalize str s = S
  generalize str nm = N
  obtain ⟨w2, hw2⟩ : ∃ w2, (w.alloc (.cells #[.int .i64 op, .int .i64 k, .int .i64 i, .int .u64 b, .string S, .string N, .slice ao L cap] 31)).alloc (.cells #[.int .i64 0, .int .i64 0] 84) = w2 := ⟨_, rfl⟩
  have hb2 : Below w.heap.size w w2 := by rw [← hw2]; exact ((Below.refl _ _).alloc (Nat.le_refl _) _).alloc (by simp) _
  have p0 : w2.cell? ⟨w.heap.size, 0, none⟩ = some (.int .i64 op) := by rw [← hw2]; simp
  have p6 : w2.cell? ⟨w.heap.size, 6, none⟩ = some (.slice ao L cap) := by rw [← hw2]; simp
  have zP : Blk w2 (w.heap.size + 1) 84 [.int .i64 0, .int .i64 0] := by
    rw [← hw2]
    exact Blk.atNew #[.int .i64 0, .int .i64 0] _ (by simp)
  go_enter Tryd.func35, Tryd.ntmps35
  go_upto_region 2 with fail
  try rw [hw2]
  clear hw2
  go_wp2_with fail
  go_loopw [8, 14] (fun q i wr => ∃ (j nn : Nat) (x0 x1 : Int), j ≤ L ∧ nn ≤ j ∧ i = .int .i64 j ∧ q = .int .i64 nn ∧ Hid (∀ (i : Nat) (u : T), l[i]? = some u → i < j → (kT cs u).f = 0) ∧ Hid (PartsAt cs l j x0 x1 nn) ∧ Hid (Below w.heap.size w wr) ∧ wr.cell? ⟨w.heap.size, 0, none⟩ = some (.int .i64 op) ∧ Hid (w.heap.size + 1 < wr.heap.size) ∧ Blk wr (w.heap.size + 1) 84 [.int .i64 x0, .int .i64 x1]) (fun _ i _ => L - (intOf i).toNat)
  case atStart => exact ⟨0, 0, 0, 0, Nat.zero_le _, Nat.zero_le _, rfl, rfl, Lib.hid (fun i u _ h => absurd h (Nat.not_lt_zero _)), Lib.hid (PartsAt.zero cs l), Lib.hid hb2, p0, Lib.hid zP.lt, zP⟩
  case round =>
    clear p0 p6 zP hb2
    obtain ⟨j, nn, x0, x1, hj, hnn, rfl, rfl, hall, hpa, hbw, y0, hgs, zP⟩ := hrel
    by_cases hlt : j < L
    · have iI : (j : Int) < (L : Int) := by omega
      have hjl : j < l.length := by rw [HL.out]; exact hlt
      obtain ⟨t, htj⟩ : ∃ t, l[j]? = some t := ⟨l[j], List.getElem?_eq_getElem hjl⟩
      obtain ⟨a, o', rfl, ha, hnode⟩ := AtL.at HA.out j t htj
      rw [Nat.zero_add] at hnode
      obtain ⟨ao', cap', n1, n2, nA, z0, z1, z2, z3, z4, z5, z6⟩ := hnode.cells
      have d0 := (hbw.out.cell (p := ⟨a, o' + j * 7, none⟩) ha).trans z0
      have d1 := (hbw.out.cell (p := ⟨a, o' + j * 7 + 1, none⟩) ha).trans z1
      have d2 := (hbw.out.cell (p := ⟨a, o' + j * 7 + 2, none⟩) ha).trans z2
      have d3 := (hbw.out.cell (p := ⟨a, o' + j * 7 + 3, none⟩) ha).trans z3
      have d4 := (hbw.out.cell (p := ⟨a, o' + j * 7 + 4, none⟩) ha).trans z4
      have d5 := (hbw.out.cell (p := ⟨a, o' + j * 7 + 5, none⟩) ha).trans z5
      have d6 := (hbw.out.cell (p := ⟨a, o' + j * 7 + 6, none⟩) ha).trans z6
      have hdt : t.deep ≤ n := Nat.le_trans (deepK_mem htj) HDL.out
      have hft := HF2.out t (List.mem_of_getElem? htj)
      have cC := fun W (hW : Below w.heap.size w W) => HIH.out t ao' cap' cs aoc capc W hdt hft (nA.keep hW) (by omega) (by rw [HM.out]; exact hcl) (HC.out.keep hW)
      rw [HM.out] at cC
      simp only [exprV_cells] at cC
      have hbad := HKB.out j t htj hall.out
      have hnext : (kT cs t).f = 0 → ∀ (i : Nat) (u : T), l[i]? = some u → i < j + 1 → (kT cs u).f = 0 := by
        intro h i u hu hi
        rcases Nat.lt_or_ge i j with h1 | h1
        · exact hall.out i u hu h1
        · obtain rfl : i = j := by omega
          rw [htj] at hu; cases hu; exact h
      have hpn : ∃ x0' x1' : Int, PartsAt cs l (j + 1) x0' x1' (nn + if (kT cs t).n = true then 1 else 0) ∧ ((([.int .i64 x0, .int .i64 x1] : List Value)).set j (.int .i64 (kT cs t).k)) = [.int .i64 x0', .int .i64 x1'] := by
        rcases (show j = 0 ∨ j = 1 by omega) with rfl | rfl
        · exact ⟨_, _, hpa.out.step0 htj, rfl⟩
        · exact ⟨_, _, hpa.out.step1 htj, rfl⟩
      obtain ⟨x0', x1', hpn, hset⟩ := hpn
      have HPN := Lib.hid hpn
      have HBAD := Lib.hid hbad
      have HNEXT := Lib.hid hnext
      have HSET := Lib.hid hset
      obtain ⟨Rk, Rn, Rf⟩ : R3 := kT cs t
      generalize hKT : kT cs t = KT at *
      obtain ⟨Rk, Rn, Rf⟩ := KT
      simp only at cC HPN HBAD HNEXT HSET
      generalize t.kids.length = KL at *
      generalize t.nd = nd at *
      obtain ⟨op', k', i', b', s', nm'⟩ := nd
      simp only at d0 d1 d2 d3 d4 d5 d6 cC
      generalize str s' = S' at *
      generalize str nm' = N' at *
      obtain ⟨wa, hwa⟩ : ∃ wa, wr.alloc (.cells #[.int .i64 op', .int .i64 k', .int .i64 i', .int .u64 b', .string S', .string N', .slice ao' KL cap'] 31) = wa := ⟨_, rfl⟩
      have hbA : Below wr.heap.size wr wa := by rw [← hwa]; exact (Below.refl _ _).alloc (Nat.le_refl _) _
      have zT : Blk wa wr.heap.size 31 [.int .i64 op', .int .i64 k', .int .i64 i', .int .u64 b', .string S', .string N', .slice ao' KL cap'] := by rw [← hwa]; exact Blk.new wr #[.int .i64 op', .int .i64 k', .int .i64 i', .int .u64 b', .string S', .string N', .slice ao' KL cap'] _
      have hb0a := below_stepL hbw.out hbw.out.size hbA
      have zPa := zP.call hbA
      have y0a := (hbA.cell (p := ⟨w.heap.size, 0, none⟩) (by have := hgs.out; show w.heap.size < _; omega)).trans y0
      have hgsa : w.heap.size + 1 < wa.heap.size := Nat.lt_of_lt_of_le hgs.out hbA.size
      have cc := cC wa hb0a
      clear z0 z1 z2 z3 z4 z5 z6 hnode htj nA cC hjl n1 hdt hft hbad hnext hall hpn hset hpa hKT y0 zP hgs
      go_upto_region 6 with fail
      try rw [hwa]
      clear hwa d0 d1 d2 d3 d4 d5 d6 hbA hbw
      generalize wr.heap.size = g at *
      have p0 := zT.cell (j := 0) rfl
      have p1 := zT.cell (j := 1) rfl
      have p2 := zT.cell (j := 2) rfl
      have p3 := zT.cell (j := 3) rfl
      have p4 := zT.cell (j := 4) rfl
      have p5 := zT.cell (j := 5) rfl
      have p6 := zT.cell (j := 6) rfl
      go_wp2_with fail
      refine cc.mono ?_
      rintro e w3 ⟨rfl, hb3⟩
      have hb03 := below_stepL hb0a hb0a.size hb3
      have zP3 := zPa.call hb3
      have y03 := (hb3.cell (p := ⟨w.heap.size, 0, none⟩) (by show w.heap.size < _; omega)).trans y0a
      have hgs3 : w.heap.size + 1 < w3.heap.size := Nat.lt_of_lt_of_le hgsa hb3.size
      clear cc p0 p1 p2 p3 p4 p5 p6 zT hb3 hb0a zPa y0a hgsa
      have zS := zP3.set j (.int .i64 Rk)
      rw [HSET.out] at zS
      have hbS : Below w.heap.size w (w3.setCell ⟨w.heap.size + 1, j, none⟩ (.int .i64 Rk)) := hb03.setCell (p := ⟨w.heap.size + 1, j, none⟩) (by show w.heap.size ≤ w.heap.size + 1; omega) _
      have j2 : (j : Int) < 2 := by omega
      have hcl : ∃ v0, w3.cell? ⟨w.heap.size + 1, j, none⟩ = some v0 := by
        rcases (show j = 0 ∨ j = 1 by omega) with rfl | rfl
        · exact ⟨_, zP3.cell (j := 0) rfl⟩
        · exact ⟨_, zP3.cell (j := 1) rfl⟩
      obtain ⟨v0, hcl⟩ := hcl
      have hfr := zP3.free j
      have y0S : (w3.setCell ⟨w.heap.size + 1, j, none⟩ (.int .i64 Rk)).cell? ⟨w.heap.size, 0, none⟩ = some (.int .i64 op) := (((Below.refl (w.heap.size + 1) w3).setCell (p := ⟨w.heap.size + 1, j, none⟩) (Nat.le_refl _) (.int .i64 Rk)).cell (p := ⟨w.heap.size, 0, none⟩) (Nat.lt_succ_self _)).trans y03
      have hgsS : w.heap.size + 1 < (w3.setCell ⟨w.heap.size + 1, j, none⟩ (.int .i64 Rk)).heap.size := by simpa using hgs3
      obtain ⟨wS, hwS⟩ : ∃ wS, w3.setCell ⟨w.heap.size + 1, j, none⟩ (.int .i64 Rk) = wS := ⟨_, rfl⟩
      rw [hwS] at zS hbS y0S hgsS
      go_upto_region 7 with fail
      try rw [hwS]
      clear hwS hcl hfr zP3 y03 hgs3 hb03
      by_cases hz : Rf = 0
      · have z1 : (Rf != 0) = false := by rw [hz]; rfl
        have HN := Lib.hid (HNEXT.out hz)
        clear HBAD HNEXT hz
        cases Rn
        · have HP2 : Hid (PartsAt cs l (j + 1) x0' x1' nn) := HPN.out
          clear HPN
          go_wp2_with fail
          go_roundw
          case rel => exact ⟨j + 1, nn, x0', x1', by omega, by omega, by go_num, rfl, HN, HP2, Lib.hid hbS, y0S, Lib.hid hgsS, zS⟩
          case measure => simp [intOf]; omega
        · have HP2 : Hid (PartsAt cs l (j + 1) x0' x1' (nn + 1)) := HPN.out
          clear HPN
          go_wp2_with fail
          go_roundw
          case rel => exact ⟨j + 1, nn + 1, x0', x1', by omega, by omega, by go_num, by go_num, HN, HP2, Lib.hid hbS, y0S, Lib.hid hgsS, zS⟩
          case measure => simp [intOf]; omega
      · have z1 : (Rf != 0) = true := by simpa using hz
        have HN := Lib.hid (HBAD.out hz)
        clear HBAD HNEXT hz HPN
        go_wp2_with fail
        go_ret3
        exact ⟨by rw [HN.out]; rfl, hbS⟩
    · have iI : ¬ (j : Int) < (L : Int) := by omega
      have hjL : j = L := by omega
      subst hjL
      have HR : Hid (R = if asksK op x0 x1 = true then ⟨givesK op x0 x1, mayK op nn, 0⟩ else ⟨0, false, 2⟩) := Lib.hid (HKF.out x0 x1 nn (by rw [HL.out]; exact hpa.out) (fun i u hu _ => hall.out i u hu (by have := (List.getElem?_eq_some_iff.1 hu).1; rw [HL.out] at this; exact this)))
      have hbw1 := hbw.out
      clear hall hpa HKF HKB HF2 HIH HDL HA HC HL hbw
      have q0 := zP.cell (j := 0) rfl
      have q1 := zP.cell (j := 1) rfl
      have hgs1 := hgs.out
      obtain ⟨A, hA⟩ : ∃ A, asksK op x0 x1 = A := ⟨_, rfl⟩
      rw [hA] at HR
      have HA2 := Lib.hid hA
      clear hA
      go_upto_region 12 with fail
      go_cut [40] (fun x wx => x = .bool (!A) ∧ Hid (Below w.heap.size w wx) ∧ wx.cell? ⟨w.heap.size, 0, none⟩ = some (.int .i64 op) ∧ wx.cell? ⟨w.heap.size + 1, 0, none⟩ = some (.int .i64 x0) ∧ wx.cell? ⟨w.heap.size + 1, 1, none⟩ = some (.int .i64 x1))
      case first =>
        clear HR
        have hA := HA2.out
        clear HA2
        by_cases k1 : op = 3 ∨ op = 5 ∨ op = 6 ∨ op = 7 ∨ op = 8 ∨ op = 4 ∨ op = 15 ∨ op = 16 ∨ op = 18 ∨ op = 19
        · have cA := fun W => asksEach_any op W k1
          have hA2 : (fitsK x0 (asks0 op) && fitsK x1 (asks0 op)) = A := by
            rw [← hA]; unfold asksK asks0
            rcases k1 with rfl | rfl | rfl | rfl | rfl | rfl | rfl | rfl | rfl | rfl <;> rfl
          generalize asks0 op = AK at *
          have cE := fun g W h1 h2 => eachFits_any x0 x1 AK g W h1 h2
          rw [hA2] at cE
          clear hA hA2 k1
          go_region_with (first
            | (go_at_call 54; refine (cA _).mono ?_; rintro e w5 ⟨rfl, hb5, hs5, hc5⟩; have hbb5 : Below w.heap.size w w5 := below_stepL hbw1.drew hbw1.size hb5; have t0 := (hb5.cell (p := ⟨w.heap.size, 0, none⟩) (Nat.lt_of_succ_lt hgs1)).trans y0; have t1 := (hb5.cell (p := ⟨w.heap.size + 1, 0, none⟩) hgs1).trans q0; have t2 := (hb5.cell (p := ⟨w.heap.size + 1, 1, none⟩) hgs1).trans q1; have hgs5 := Nat.lt_of_lt_of_le hgs1 hb5.size; clear cA)
            | (go_at_call 77; refine (cE _ _ (by assumption) (by assumption)).mono ?_; rintro e w6 ⟨rfl, hb6⟩; have hbb6 : Below w.heap.size w w6 := below_stepL hbb5 hbb5.size hb6; have u0 := (hb6.cell (p := ⟨w.heap.size, 0, none⟩) (Nat.lt_of_succ_lt hgs5)).trans t0; have u1 := (hb6.cell (p := ⟨w.heap.size + 1, 0, none⟩) hgs5).trans t1; have u2 := (hb6.cell (p := ⟨w.heap.size + 1, 1, none⟩) hgs5).trans t2; clear cE))
          all_goals go_wp2_with fail
          all_goals go_meet
          all_goals exact ⟨rfl, Lib.hid hbb6, u0, u1, u2⟩
        · by_cases k2 : op = 17
          · subst k2
            have hA2 : A = true := by rw [← hA]; rfl
            subst hA2
            have cE := fun W => asksAny_any x0 x1 W
            have cA := fun W => asksNone_any W
            clear hA k1
            go_region_with (first
              | (go_at_call 54; refine (cA _).mono ?_; rintro e w5 ⟨rfl, rfl⟩; clear cA)
              | (go_at_call 68; refine (cE _).mono ?_; rintro e w6 ⟨rfl, hb6⟩; have hbb6 : Below w.heap.size w w6 := below_stepL hbw1.drew hbw1.size hb6; have u0 := (hb6.cell (p := ⟨w.heap.size, 0, none⟩) (Nat.lt_of_succ_lt hgs1)).trans y0; have u1 := (hb6.cell (p := ⟨w.heap.size + 1, 0, none⟩) hgs1).trans q0; have u2 := (hb6.cell (p := ⟨w.heap.size + 1, 1, none⟩) hgs1).trans q1; clear cE))
            all_goals go_wp2_with fail
            all_goals go_meet
            all_goals exact ⟨rfl, Lib.hid hbb6, u0, u1, u2⟩
          · have k3 : op = 9 ∨ op = 10 ∨ op = 11 ∨ op = 12 ∨ op = 13 ∨ op = 14 ∨ op = 20 := by omega
            have hA2 : fitsK x0 x1 = A := by
              rw [← hA]; unfold asksK
              rcases k3 with rfl | rfl | rfl | rfl | rfl | rfl | rfl <;> rfl
            have cE := fun W => asksFits_any x0 x1 W
            rw [hA2] at cE
            have cA := fun W => asksOne_any op W k3
            clear hA hA2 k1 k2 k3
            go_region_with (first
              | (go_at_call 54; refine (cA _).mono ?_; rintro e w5 ⟨rfl, rfl⟩; clear cA)
              | (go_at_call 69; refine (cE _).mono ?_; rintro e w6 ⟨rfl, hb6⟩; have hbb6 : Below w.heap.size w w6 := below_stepL hbw1.drew hbw1.size hb6; have u0 := (hb6.cell (p := ⟨w.heap.size, 0, none⟩) (Nat.lt_of_succ_lt hgs1)).trans y0; have u1 := (hb6.cell (p := ⟨w.heap.size + 1, 0, none⟩) hgs1).trans q0; have u2 := (hb6.cell (p := ⟨w.heap.size + 1, 1, none⟩) hgs1).trans q1; clear cE))
            all_goals go_wp2_with fail
            all_goals go_meet
            all_goals exact ⟨rfl, Lib.hid hbb6, u0, u1, u2⟩
      case rest =>
        clear y0 zP q0 q1 hbw1 hgs hgs1
        obtain ⟨rfl, hbx, y0, q0, q1⟩ := hcut
        have hbx1 := hbx.out
        cases A
        · have HR2 : Hid (R = ⟨0, false, 2⟩) := HR.out
          clear HR
          go_wp2_with fail
          go_ret3
          exact ⟨by rw [HR2.out]; rfl, hbx1⟩
        · have HR2 : Hid (R = ⟨givesK op x0 x1, mayK op nn, 0⟩) := HR.out
          have cG := fun W => gives_any op x0 x1 W
          have cM := fun W => mayBeNull_any op nn W
          have hsx : w.heap.size < wc.heap.size := World.block_lt_of_cell? wc ⟨w.heap.size, 0, none⟩ y0
          clear HR HA2
          generalize givesK op x0 x1 = GK at *
          generalize mayK op nn = MK at *
          go_upto_region 14 with fail
          go_region_with (first
            | (go_at_call 55; refine (cG _).mono ?_; rintro e w5 ⟨rfl, hb5⟩; have hbb5 : Below w.heap.size w w5 := below_stepL hbx1.drew hbx1.size hb5; have t0 := (hb5.cell (p := ⟨w.heap.size, 0, none⟩) hsx).trans y0; clear cG)
            | (go_at_call 56; refine (cM _).mono ?_; rintro e w6 ⟨rfl, rfl⟩; clear cM))
          all_goals go_wp2_with fail
          all_goals go_ret3
          all_goals exact ⟨by rw [HR2.out]; rfl, hbb5⟩
end Go.Proofs.YtoleaahnpcbkkaaDoor
