/-
  CONTRACT of the reference's kindOf, over columns that may be.
  CONDITIONS: each theorem's own hypotheses.
-/
import Derived.Test.YtoleaahnpcbkkaaDoorKindP
import Derived.Test.YtoleaahnpcbkkaaDoorKindZ
import Derived.Test.YtoleaahnpcbkkaaDoorKindC
namespace Go.Proofs.YtoleaahnpcbkkaaDoor
open Go.RowKit
set_option linter.unusedVariables false
set_option maxRecDepth 100000

def KofOk (n : Nat) : Prop := ∀ (t : T) (ao : Option Addr) (cap : Nat) (cs : List Cl) (aoc : Option Addr) (capc : Nat) (w : World), t.deep ≤ n → formT t = 0 → colsR cs = 0 → AtT w t ao → t.kids.length ≤ 9223372036854775807 → cs.length ≤ 9223372036854775807 → Cols w aoc cs →
    Calls Tryd.prog 23 #[exprV t ao cap, .slice aoc cs.length capc] w fun e w' => e = .returned (.tuple #[.int .i64 (kT cs t).k, .bool (kT cs t).n, .int .i64 (kT cs t).f]) ∧ Below w.heap.size w w'
theorem kof_lit (n : Nat) (t : T) (ao : Option Addr) (cap : Nat) (cs : List Cl) (aoc : Option Addr) (capc : Nat) (w : World) (h1 : t.nd.op = 1) :
    Calls Tryd.prog 23 #[exprV t ao cap, .slice aoc cs.length capc] w fun e w' => e = .returned (.tuple #[.int .i64 (kT cs t).k, .bool (kT cs t).n, .int .i64 (kT cs t).f]) ∧ Below w.heap.size w w' := by
  rw [kT_lit cs t h1]
  simp only [exprV_cells]
  generalize t.kids.length = L at *
  generalize t.nd = nd at *
  obtain ⟨op, k, i, b, s, nm⟩ := nd
  simp only at h1 ⊢
  subst h1
  generalize str s = S
  generalize str nm = N
  go_enter Tryd.func23, Tryd.ntmps23
  go_upto_region 2 with fail
  go_quiet (fail)
  have hbq := below_dqK ((Below.refl w.heap.size w).alloc (Nat.le_refl _) (.cells #[.int .i64 1, .int .i64 k, .int .i64 i, .int .u64 b, .string S, .string N, .slice ao L cap] 31)) nq
  go_wp2_with fail
  go_ret3
  exact ⟨rfl, hbq⟩
set_option maxHeartbeats 8000000 in
theorem kof_col (t : T) (ao : Option Addr) (cap : Nat) (cs : List Cl) (aoc : Option Addr) (capc : Nat) (w : World) (h2 : t.nd.op = 2) (hc0 : colsR cs = 0) (hl : cs.length ≤ 9223372036854775807) (hC : Cols w aoc cs) :
    Calls Tryd.prog 23 #[exprV t ao cap, .slice aoc cs.length capc] w fun e w' => e = .returned (.tuple #[.int .i64 (kT cs t).k, .bool (kT cs t).n, .int .i64 (kT cs t).f]) ∧ Below w.heap.size w w' := by
  rw [kT_col cs t h2]
  simp only [exprV_cells]
  generalize t.kids.length = L at *
  generalize t.nd = nd at *
  obtain ⟨op, k, i, b, s, nm⟩ := nd
  simp only at h2 ⊢
  subst h2
  generalize str s = S
  obtain ⟨w1, hw1⟩ : ∃ w1, w.alloc (.cells #[.int .i64 2, .int .i64 k, .int .i64 i, .int .u64 b, .string S, .string (str nm), .slice ao L cap] 31) = w1 := ⟨_, rfl⟩
  have hb1 : Below w.heap.size w w1 := by rw [← hw1]; exact (Below.refl _ _).alloc (Nat.le_refl _) _
  have c1 := columnAt_any cs aoc capc nm w1 hl (hC.keep hb1)
  rw [place_same cs nm hc0] at c1
  have hz := Blk.new w #[.int .i64 2, .int .i64 k, .int .i64 i, .int .u64 b, .string S, .string (str nm), .slice ao L cap] 31
  rw [hw1] at hz
  have p0 := hz.cell (j := 0) rfl
  have p5 := hz.cell (j := 5) rfl
  clear hz
  unfold colK
  rcases placeN_at nm cs 0 with h1 | ⟨j, c, hj, h1⟩
  · rw [h1] at c1 ⊢
    rw [if_pos (by decide)]
    generalize cs.length = m at *
    generalize str nm = N at *
    clear hC h1 hc0
    go_enter Tryd.func23, Tryd.ntmps23
    go_upto_region 1 with fail
    try rw [hw1]
    clear hw1
    go_wp2_with fail
    refine c1.mono ?_
    rintro e w2 ⟨rfl, rfl⟩
    clear c1
    go_wp2_with fail
    go_ret3
    exact ⟨rfl, hb1⟩
  · rw [Nat.zero_add] at h1
    rw [h1] at c1 ⊢
    rw [if_neg (by omega), Int.toNat_natCast, hj]
    have hjl : j < cs.length := (List.getElem?_eq_some_iff.1 hj).1
    rcases hC.2 with hn | ⟨a, o, rfl, ha, hlies⟩
    · rw [hn] at hjl; exact absurd hjl (Nat.not_lt_zero _)
    obtain ⟨x0, x1, x2⟩ := hlies j c hj
    have d1 := (hb1.cell (p := ⟨a, o + j * 3 + 1, none⟩) ha).trans x1
    have d2 := (hb1.cell (p := ⟨a, o + j * 3 + 2, none⟩) ha).trans x2
    generalize cs.length = m at *
    generalize str nm = N at *
    clear hC h1 hlies hj x0 x1 x2 hc0
    obtain ⟨cn, ck, cl⟩ := c
    simp only at d1 d2 ⊢
    have hjI : (j : Int) < (m : Int) := by omega
    have hj0 : (0 : Int) ≤ (j : Int) := by omega
    have hng : decide ((j : Int) < 0) = false := decide_eq_false (by omega)
    go_enter Tryd.func23, Tryd.ntmps23
    go_upto_region 1 with fail
    try rw [hw1]
    clear hw1
    go_wp2_with fail
    refine c1.mono ?_
    rintro e w2 ⟨rfl, rfl⟩
    clear c1
    go_upto_region 7 with fail
    go_quiet (fail)
    have hbq := below_dqK hb1 nq
    go_wp2_with fail
    go_ret3
    exact ⟨rfl, hbq⟩
theorem foldK_take (op : Int) (cs : List Cl) (l : List T) (j : Nat) (t : T) (h : l[j]? = some t) : foldK op (kP cs (l.take (j + 1))) = stepK op (foldK op (kP cs (l.take j))) ((kT cs t).k, (kT cs t).n) := by
  rw [kP_take cs l j t h, foldK_snoc]
/-- What the reference's step leaves, by cases. -/
theorem stepK_cases (op : Int) (so al : Bool) (ak : Int) (cl : Bool) (k : Int) (n : Bool) :
    ((op = 17 ∨ k = 0) ∧ stepK op ⟨so, al, ak, cl⟩ (k, n) = ⟨so || n, al && n, ak, cl⟩) ∨
    ((op ≠ 17 ∧ k ≠ 0 ∧ ak = 0) ∧ stepK op ⟨so, al, ak, cl⟩ (k, n) = ⟨so || n, al && n, k, cl⟩) ∨
    ((op ≠ 17 ∧ k ≠ 0 ∧ ak ≠ 0) ∧ stepK op ⟨so, al, ak, cl⟩ (k, n) = ⟨so || n, al && n, ak, cl || (k != ak)⟩) := by
  by_cases h : op = 17 ∨ k = 0
  · left
    exact ⟨h, by unfold stepK; rw [if_pos h]⟩
  · right
    by_cases h0 : ak = 0
    · left
      refine ⟨⟨fun e => h (.inl e), fun e => h (.inr e), h0⟩, ?_⟩
      unfold stepK
      rw [if_neg h]
      simp [h0]
    · right
      refine ⟨⟨fun e => h (.inl e), fun e => h (.inr e), h0⟩, ?_⟩
      unfold stepK
      rw [if_neg h]
      simp [h0]
set_option maxHeartbeats 32000000 in
theorem kof_step (n : Nat) (IH : KofOk n) : KofOk (n + 1) := by
  rintro ⟨⟨op, k, i, b, s, nm⟩, l⟩ ao cap cs aoc capc w hdp hf hc0 hA hl hcl hC
  by_cases h1 : op = 1
  · exact kof_lit n _ ao cap cs aoc capc w h1
  by_cases h2 : op = 2
  · exact kof_col _ ao cap cs aoc capc w h2 hc0 hcl hC
  have hdl : deepL l ≤ n := by simp only [T.deep] at hdp; omega
  obtain ⟨hnF, hlF⟩ := formT_open _ l hf
  obtain ⟨⟨q1, q2⟩, hp, _, _⟩ := nodeF_open _ _ hnF
  simp only at q1 q2 hp
  have hK : kT cs (T.mk ⟨op, k, i, b, s, nm⟩ l) = if kF cs l ≠ 0 then ⟨0, false, kF cs l⟩ else opR op (kP cs l) := by
    have e := opR_kP cs (colsR_rng cs hc0) ⟨op, k, i, b, s, nm⟩ l hf h1 h2
    simp only at e
    rw [e]
    simp only [kT]; rw [if_neg h1, if_neg h2]
  simp only [AtT] at hA
  rw [exprV_cells]
  simp only [T.nd, T.kids] at hl ⊢
  obtain ⟨R, hR⟩ : ∃ R, kT cs (T.mk ⟨op, k, i, b, s, nm⟩ l) = R := ⟨_, rfl⟩
  rw [hR]
  rw [hR] at hK
  have hlF2 : ∀ t ∈ l, formT t = 0 := formL_mem l hlF
  have hkf : ∀ (S : S4), foldK op (kP cs (l.take l.length)) = S → (∀ (i : Nat) (u : T), l[i]? = some u → i < l.length → (kT cs u).f = 0) → R = if S.clash = true then ⟨0, false, 2⟩ else if op = 17 then ⟨1, false, 0⟩ else if op = 20 then ⟨S.asks, S.all, 0⟩ else ⟨gives0 op, S.some, 0⟩ := by
    intro S hS hg
    have h0 := kF_good cs l (fun i u hu => hg i u hu (List.getElem?_eq_some_iff.1 hu).1)
    rw [hK, if_neg (by rw [h0]; decide)]
    unfold opR
    rw [List.take_length] at hS
    rw [hS]
  have hkb : ∀ (j : Nat) (t : T), l[j]? = some t → (∀ (i : Nat) (u : T), l[i]? = some u → i < j → (kT cs u).f = 0) → (kT cs t).f ≠ 0 → R = ⟨0, false, (kT cs t).f⟩ := by
    intro j t ht hg hb
    have h0 := kF_bad cs l j t ht hg hb
    rw [hK, if_pos (by rw [h0]; exact hb), h0]
  have cA := asksFor_any op
  have h3 : 3 ≤ op ∧ op ≤ 20 := by omega
  have HKF := Lib.hid hkf
  have HKB := Lib.hid hkb
  have HF2 := Lib.hid hlF2
  have HIH := Lib.hid IH
  have HDL := Lib.hid hdl
  have HA := Lib.hid hA.2
  have HC := Lib.hid hC
  have HC0 := Lib.hid hc0
  have o1 : (op == 1) = false := by simpa using h1
  have o2 : (op == 2) = false := by simpa using h2
  clear hkf hkb hK hR IH hdl hA hlF hlF2 hnF hf hp hdp hC hc0 q1 q2
  have cA2 := fun W => cA W h3
  clear cA h3
  have HSK := fun so al ak cl kk nn => Lib.hid (stepK_cases op so al ak cl kk nn)
  have HFT := fun j t (h : l[j]? = some t) => Lib.hid (foldK_take op cs l j t h)
  have hA0 : Hid (foldK op (kP cs (l.take 0)) = ⟨false, true, asks0 op, false⟩) := Lib.hid rfl
  obtain ⟨A0, hA0e⟩ : ∃ A0, asks0 op = A0 := ⟨_, rfl⟩
  obtain ⟨G0, hG0e⟩ : ∃ G0, gives0 op = G0 := ⟨_, rfl⟩
  rw [hA0e] at cA2 hA0
  rw [hG0e] at cA2 HKF
  clear hA0e hG0e
  obtain ⟨L, hL⟩ : ∃ L, l.length = L := ⟨_, rfl⟩
  rw [hL] at hl ⊢
  have HL := Lib.hid hL
  obtain ⟨m, hm⟩ : ∃ m, cs.length = m := ⟨_, rfl⟩
  rw [hm] at hcl ⊢
  have HM := Lib.hid hm
  clear hL hm
  generalize str s = S
  generalize str nm = N
  obtain ⟨w2, hw2⟩ : ∃ w2, w.alloc (.cells #[.int .i64 op, .int .i64 k, .int .i64 i, .int .u64 b, .string S, .string N, .slice ao L cap] 31) = w2 := ⟨_, rfl⟩
  have hb2 : Below w.heap.size w w2 := by rw [← hw2]; exact (Below.refl _ _).alloc (Nat.le_refl _) _
  have hz2 := Blk.new w #[.int .i64 op, .int .i64 k, .int .i64 i, .int .u64 b, .string S, .string N, .slice ao L cap] 31
  rw [hw2] at hz2
  have p0 := hz2.cell (j := 0) rfl
  have p6 := hz2.cell (j := 6) rfl
  have hsz := hz2.lt
  clear hz2
  go_enter Tryd.func23, Tryd.ntmps23
  go_upto_region 1 with fail
  try rw [hw2]
  clear hw2
  go_wp2_with fail
  refine (cA2 _).mono ?_
  rintro e w5 ⟨rfl, rfl⟩
  clear cA2
  go_wp2_with fail
  go_loopw [8, 9, 10, 12, 56] (fun xs xa xk xc i wr => ∃ (j : Nat) (so al : Bool) (ak : Int) (cl : Bool), j ≤ L ∧ i = .int .i64 j ∧ xs = .bool so ∧ xa = .bool al ∧ xk = .int .i64 ak ∧ xc = .bool cl ∧ Hid (∀ (i : Nat) (u : T), l[i]? = some u → i < j → (kT cs u).f = 0) ∧ Hid (foldK op (kP cs (l.take j)) = ⟨so, al, ak, cl⟩) ∧ Hid (Below w.heap.size w wr) ∧ wr.cell? ⟨w.heap.size, 0, none⟩ = some (.int .i64 op) ∧ Hid (w.heap.size < wr.heap.size)) (fun _ _ _ _ i _ => L - (intOf i).toNat)
  case atStart => exact ⟨0, false, true, A0, false, Nat.zero_le _, rfl, rfl, rfl, rfl, rfl, Lib.hid (fun i u _ h => absurd h (Nat.not_lt_zero _)), hA0, Lib.hid hb2, p0, Lib.hid hsz⟩
  case round =>
    clear p0 p6 hb2 hsz
    obtain ⟨j, so, al, ak, cl, hj, rfl, rfl, rfl, rfl, rfl, hall, hfo, hbw, y0, hgs⟩ := hrel
    by_cases hlt : j < L
    · have iI : (j : Int) < (L : Int) := by omega
      have hjl : j < l.length := by rw [HL.out]; exact hlt
      obtain ⟨t, htj⟩ : ∃ t, l[j]? = some t := ⟨l[j], List.getElem?_eq_getElem hjl⟩
      obtain ⟨a, o', rfl, ha, hnode⟩ := AtL.at HA.out j t htj
      rw [Nat.zero_add] at hnode
      obtain ⟨ao', cap', n1, n2, nA, z0, z1, z2, z3, z4, z5, z6⟩ := hnode.cells
      have d0 := (hbw.out.cell (p := ⟨a, o' + j * 7, none⟩) ha).trans z0
      have d1 := (hbw.out.cell (p := ⟨a, o' + j * 7 + 1, none⟩) ha).trans z1
      have d2 := (hbw.out.cell (p := ⟨a, o' + j * 7 + 2, none⟩) ha).trans z2
      have d3 := (hbw.out.cell (p := ⟨a, o' + j * 7 + 3, none⟩) ha).trans z3
      have d4 := (hbw.out.cell (p := ⟨a, o' + j * 7 + 4, none⟩) ha).trans z4
      have d5 := (hbw.out.cell (p := ⟨a, o' + j * 7 + 5, none⟩) ha).trans z5
      have d6 := (hbw.out.cell (p := ⟨a, o' + j * 7 + 6, none⟩) ha).trans z6
      have hdt : t.deep ≤ n := Nat.le_trans (deepK_mem htj) HDL.out
      have hft := HF2.out t (List.mem_of_getElem? htj)
      have cC := fun W (hW : Below w.heap.size w W) => HIH.out t ao' cap' cs aoc capc W hdt hft HC0.out (nA.keep hW) (by omega) (by rw [HM.out]; exact hcl) (HC.out.keep hW)
      rw [HM.out] at cC
      simp only [exprV_cells] at cC
      have hbad := HKB.out j t htj hall.out
      have hnext : (kT cs t).f = 0 → ∀ (i : Nat) (u : T), l[i]? = some u → i < j + 1 → (kT cs u).f = 0 := by
        intro h i u hu hi
        rcases Nat.lt_or_ge i j with h1 | h1
        · exact hall.out i u hu h1
        · obtain rfl : i = j := by omega
          rw [htj] at hu; cases hu; exact h
      have hpn := (HFT j t htj).out
      rw [hfo.out] at hpn
      have HPN := Lib.hid hpn
      have HBAD := Lib.hid hbad
      have HNEXT := Lib.hid hnext
      generalize hKT : kT cs t = KT at *
      obtain ⟨Rk, Rn, Rf⟩ := KT
      simp only at cC HPN HBAD HNEXT
      have HSK2 := HSK so al ak cl Rk Rn
      generalize t.kids.length = KL at *
      generalize t.nd = nd at *
      obtain ⟨op', k', i', b', s', nm'⟩ := nd
      simp only at d0 d1 d2 d3 d4 d5 d6 cC
      generalize str s' = S' at *
      generalize str nm' = N' at *
      obtain ⟨wa, hwa⟩ : ∃ wa, wr.alloc (.cells #[.int .i64 op', .int .i64 k', .int .i64 i', .int .u64 b', .string S', .string N', .slice ao' KL cap'] 31) = wa := ⟨_, rfl⟩
      have hbA : Below wr.heap.size wr wa := by rw [← hwa]; exact (Below.refl _ _).alloc (Nat.le_refl _) _
      have zT : Blk wa wr.heap.size 31 [.int .i64 op', .int .i64 k', .int .i64 i', .int .u64 b', .string S', .string N', .slice ao' KL cap'] := by rw [← hwa]; exact Blk.new wr #[.int .i64 op', .int .i64 k', .int .i64 i', .int .u64 b', .string S', .string N', .slice ao' KL cap'] _
      have hb0a := below_stepL hbw.out hbw.out.size hbA
      have y0a := (hbA.cell (p := ⟨w.heap.size, 0, none⟩) hgs.out).trans y0
      have hgsa : w.heap.size < wa.heap.size := Nat.lt_of_lt_of_le hgs.out hbA.size
      have cc := cC wa hb0a
      clear z0 z1 z2 z3 z4 z5 z6 hnode htj nA cC hjl n1 hdt hft hbad hnext hall hpn hfo hKT y0 hgs HSK HFT
      go_upto_region 14 with fail
      try rw [hwa]
      clear hwa d0 d1 d2 d3 d4 d5 d6 hbA hbw
      generalize wr.heap.size = g at *
      have p0 := zT.cell (j := 0) rfl
      have p1 := zT.cell (j := 1) rfl
      have p2 := zT.cell (j := 2) rfl
      have p3 := zT.cell (j := 3) rfl
      have p4 := zT.cell (j := 4) rfl
      have p5 := zT.cell (j := 5) rfl
      have p6 := zT.cell (j := 6) rfl
      go_wp2_with fail
      refine cc.mono ?_
      rintro e w3 ⟨rfl, hb3⟩
      have hb03 := below_stepL hb0a hb0a.size hb3
      have y03 := (hb3.cell (p := ⟨w.heap.size, 0, none⟩) hgsa).trans y0a
      have hgs3 : w.heap.size < w3.heap.size := Nat.lt_of_lt_of_le hgsa hb3.size
      clear cc p0 p1 p2 p3 p4 p5 p6 zT hb3 hb0a y0a hgsa
      by_cases hz : Rf = 0
      · have z1 : (Rf != 0) = false := by rw [hz]; rfl
        have HN := Lib.hid (HNEXT.out hz)
        clear HBAD HNEXT hz
        rcases HSK2.out with ⟨hcc, hs⟩ | ⟨⟨hc1, hc2, hc3⟩, hs⟩ | ⟨⟨hc1, hc2, hc3⟩, hs⟩
        · have HP2 : Hid (foldK op (kP cs (l.take (j + 1))) = ⟨so || Rn, al && Rn, ak, cl⟩) := Lib.hid (HPN.out.trans hs)
          clear HPN hs HSK2
          by_cases h17 : op = 17
          · have e1 : (op == 17) = true := by simp [h17]
            clear hcc h17
            cases so <;> cases al
            all_goals go_wp2_with fail
            all_goals go_roundw
            all_goals first
              | exact ⟨j + 1, _, _, ak, cl, by omega, by go_num, rfl, rfl, rfl, rfl, HN, HP2, Lib.hid hb03, y03, Lib.hid hgs3⟩
              | (simp [intOf]; omega)
          · have e1 : (op == 17) = false := by simpa using h17
            have e2 : (Rk == 0) = true := by simp; omega
            clear hcc h17
            cases so <;> cases al
            all_goals go_wp2_with fail
            all_goals go_roundw
            all_goals first
              | exact ⟨j + 1, _, _, ak, cl, by omega, by go_num, rfl, rfl, rfl, rfl, HN, HP2, Lib.hid hb03, y03, Lib.hid hgs3⟩
              | (simp [intOf]; omega)
        · have HP2 : Hid (foldK op (kP cs (l.take (j + 1))) = ⟨so || Rn, al && Rn, Rk, cl⟩) := Lib.hid (HPN.out.trans hs)
          have e1 : (op == 17) = false := by simpa using hc1
          have e2 : (Rk == 0) = false := by simpa using hc2
          have e3 : (ak == 0) = true := by simpa using hc3
          have e4 : (Rk != Rk) = false := by simp
          clear HPN hs HSK2 hc1 hc2 hc3
          cases so <;> cases al <;> cases cl
          all_goals go_wp2_with fail
          all_goals go_roundw
          all_goals first
            | exact ⟨j + 1, _, _, Rk, _, by omega, by go_num, rfl, rfl, rfl, rfl, HN, HP2, Lib.hid hb03, y03, Lib.hid hgs3⟩
            | (simp [intOf]; omega)
        · have HP2 : Hid (foldK op (kP cs (l.take (j + 1))) = ⟨so || Rn, al && Rn, ak, cl || (Rk != ak)⟩) := Lib.hid (HPN.out.trans hs)
          have e1 : (op == 17) = false := by simpa using hc1
          have e2 : (Rk == 0) = false := by simpa using hc2
          have e3 : (ak == 0) = false := by simpa using hc3
          obtain ⟨B, hB⟩ : ∃ B, (Rk != ak) = B := ⟨_, rfl⟩
          rw [hB] at HP2
          clear HPN hs HSK2 hc1 hc2 hc3
          cases so <;> cases al <;> cases cl
          all_goals go_wp2_with fail
          all_goals go_roundw
          all_goals first
            | exact ⟨j + 1, _, _, ak, _, by omega, by go_num, rfl, rfl, rfl, rfl, HN, HP2, Lib.hid hb03, y03, Lib.hid hgs3⟩
            | (simp [intOf]; omega)
      · have z1 : (Rf != 0) = true := by simpa using hz
        have HN := Lib.hid (HBAD.out hz)
        clear HBAD HNEXT hz HPN HSK2
        go_wp2_with fail
        go_ret3
        exact ⟨by rw [HN.out]; rfl, hb03⟩
    · have iI : ¬ (j : Int) < (L : Int) := by omega
      have hjL : j = L := by omega
      subst hjL
      have hR := HKF.out ⟨so, al, ak, cl⟩ (by rw [HL.out]; exact hfo.out) (fun i u hu _ => hall.out i u hu (by have := (List.getElem?_eq_some_iff.1 hu).1; rw [HL.out] at this; exact this))
      simp only at hR
      have hbw1 := hbw.out
      clear hall hfo HKF HKB HF2 HIH HDL HA HC HL hbw HSK HFT HC0 hgs
      cases cl
      · rw [if_neg (by decide)] at hR
        by_cases h17 : op = 17
        · rw [if_pos h17] at hR
          have e1 : (op == 17) = true := by simp [h17]
          have HR := Lib.hid hR
          clear hR h17
          go_wp2_with fail
          go_ret3
          exact ⟨by rw [HR.out]; rfl, hbw1⟩
        · rw [if_neg h17] at hR
          have e1 : (op == 17) = false := by simpa using h17
          by_cases h20 : op = 20
          · rw [if_pos h20] at hR
            have e2 : (op == 20) = true := by simp [h20]
            have HR := Lib.hid hR
            clear hR h17 h20
            go_wp2_with fail
            go_ret3
            exact ⟨by rw [HR.out]; rfl, hbw1⟩
          · rw [if_neg h20] at hR
            have e2 : (op == 20) = false := by simpa using h20
            have HR := Lib.hid hR
            clear hR h17 h20
            go_wp2_with fail
            go_ret3
            exact ⟨by rw [HR.out]; rfl, hbw1⟩
      · rw [if_pos rfl] at hR
        have HR := Lib.hid hR
        clear hR
        go_wp2_with fail
        go_ret3
        exact ⟨by rw [HR.out]; rfl, hbw1⟩
theorem kof_any : ∀ n : Nat, KofOk n := by
  intro n
  induction n with
  | zero => intro t ao cap cs aoc capc w hd; have := T.deep_eq t; omega
  | succ n ih => exact kof_step n ih
theorem ofOk_any : ∀ n : Nat, OfOk n := by
  intro n
  induction n with
  | zero => intro t ao cap cs aoc capc w hd; have := T.deep_eq t; omega
  | succ n ih => exact ofGood_of (n + 1) (ofOperation_step n ih)
end Go.Proofs.YtoleaahnpcbkkaaDoor
