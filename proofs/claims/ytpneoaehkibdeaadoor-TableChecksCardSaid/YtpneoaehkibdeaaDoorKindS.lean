/-
  CONTRACT of the reference's RowFault; the walk of the law 'chirographlaw.KindsRows'.
  CONDITIONS: each theorem's own hypotheses; the tables 'Tabs' and package lex's signs 'SW' hold what their initialisers lay.
-/
import Derived.Test.YtpneoaehkibdeaaDoorKindQ
namespace Go.Proofs.YtpneoaehkibdeaaDoor
open Go.RowKit
set_option linter.unusedVariables false
set_option maxRecDepth 100000

set_option maxHeartbeats 8000000 in
theorem rowFault_any (row : List Vl) (aor : Option Addr) (capr : Nat) (l : List Cl) (ao : Option Addr) (cap : Nat) (w : World) (hcr : row.length ≤ capr) (hlr : capr ≤ 9223372036854775807) (hV : Vals w aor row) (hcap : l.length ≤ cap) (hl : cap ≤ 9223372036854775807) (hC : Cols w ao l) (hT : Tabs w) :
    Calls Tryd.prog 31 #[.slice aor row.length capr, .slice ao l.length cap] w fun e w' => e = .returned (.int .i64 (rowR row l)) ∧ Below w.heap.size w w' := by
  obtain ⟨R, hR⟩ : ∃ R, rowR row l = R := ⟨_, rfl⟩
  rw [hR]
  obtain ⟨m, hm⟩ : ∃ m, l.length = m := ⟨_, rfl⟩
  obtain ⟨r, hr⟩ : ∃ r, row.length = r := ⟨_, rfl⟩
  have cC := columnsFault_any l ao cap w hcap hl hC
  unfold rowR at hR
  by_cases hz : colsR l = 0
  · rw [if_neg (by simpa using hz)] at hR
    rw [hz] at cC
    by_cases hlen : r = m
    · rw [if_neg (by rw [hm, hr]; simpa using hlen)] at hR
      have hkd := fun j c (h : l[j]? = some c) => colsR_kinds hz j c h
      have hbad := fun j v c h1 h2 h3 h4 => cellsF_bad row l j v c h1 h2 h3 h4
      have hgood := cellsF_good row l
      rw [hR] at hbad hgood
      subst hlen
      rw [hm] at cC hcap ⊢
      rw [hr] at hcr ⊢
      have HM := Lib.hid hm
      have HR := Lib.hid hr
      have HKD := Lib.hid hkd
      have HBAD := Lib.hid hbad
      have HGOOD := Lib.hid hgood
      have HV := Lib.hid hV
      have HC := Lib.hid hC
      have HT := Lib.hid hT
      have hrr : ((r : Int) != (r : Int)) = false := by simp
      clear hR hm hr hkd hbad hgood hV hC hT hz
      go_enter Tryd.func31, Tryd.ntmps31
      go_wp2_with fail
      refine cC.mono ?_
      rintro e w1 ⟨rfl, hb1⟩
      clear cC
      go_wp2_with fail
      go_loopw [21] (fun i wr => ∃ j : Nat, j ≤ r ∧ i = .int .i64 j ∧ Hid (∀ (i : Nat) (x : Vl) (y : Cl), row[i]? = some x → l[i]? = some y → i < j → cellF x y = 0) ∧ Below w.heap.size w wr) (fun i _ => r - (intOf i).toNat)
      case atStart => exact ⟨0, Nat.zero_le _, rfl, Lib.hid (fun i x y _ _ h => absurd h (Nat.not_lt_zero _)), hb1⟩
      case round =>
        obtain ⟨j, hj, rfl, hal, hbw⟩ := hrel
        by_cases hlt : j < r
        · have iI : (j : Int) < (r : Int) := by omega
          have hjl : j < l.length := by rw [HM.out]; exact hlt
          have hjr : j < row.length := by rw [HR.out]; exact hlt
          obtain ⟨c, hcj⟩ : ∃ c, l[j]? = some c := ⟨l[j], List.getElem?_eq_getElem hjl⟩
          obtain ⟨v, hvj⟩ : ∃ v, row[j]? = some v := ⟨row[j], List.getElem?_eq_getElem hjr⟩
          have hfv := HV.out.1 v (List.mem_of_getElem? hvj)
          have hck := HKD.out j c hcj
          have hZ : cellF v c = if chkV v ≠ 0 then chkV v else if v.k = c.k then 0 else if v.k = 0 then (if c.nl = true then 0 else 12) else 2 := rfl
          have cK := fun W (hW : Below w.heap.size w W) => fault_any v.k v.i v.b (str v.s) W hfv.i0 hfv.i1 hfv.b0 hfv.b1 (tabs_below HT.out hW)
          have hY : chk v.k v.i v.b (str v.s) = chkV v := rfl
          rw [hY] at cK
          clear hY
          rcases HC.out.2 with h0 | ⟨a, o, rfl, ha, hcl⟩
          · rw [h0] at hjl; simp at hjl
          rcases HV.out.2 with h0 | ⟨a2, o2, rfl, ha2, hvl⟩
          · rw [h0] at hjr; simp at hjr
          obtain ⟨x0, x1, x2⟩ := hcl j c hcj
          obtain ⟨y0, y1, y2, y3⟩ := hvl j v hvj
          have d0 := (hbw.cell (p := ⟨a2, o2 + j * 4, none⟩) ha2).trans y0
          have d1 := (hbw.cell (p := ⟨a2, o2 + j * 4 + 1, none⟩) ha2).trans y1
          have d2 := (hbw.cell (p := ⟨a2, o2 + j * 4 + 2, none⟩) ha2).trans y2
          have d3 := (hbw.cell (p := ⟨a2, o2 + j * 4 + 3, none⟩) ha2).trans y3
          have hbd := fun (h : cellF v c ≠ 0) => HBAD.out j v c hvj hcj hal.out h
          have hgo := fun (h : cellF v c = 0) => (show ∀ (i : Nat) (x : Vl) (y : Cl), row[i]? = some x → l[i]? = some y → i < j + 1 → cellF x y = 0 from fun i x y hx hy hi => by
            rcases Nat.lt_or_ge i j with h1 | h1
            · exact hal.out i x y hx hy h1
            · obtain rfl : i = j := by omega
              rw [hcj] at hy; rw [hvj] at hx; cases hx; cases hy; exact h)
          have HBD := Lib.hid hbd
          have HGO := Lib.hid hgo
          clear hbd hgo hcl hvl hcj hvj hjl hjr hal hfv
          generalize cellF v c = Z at *
          generalize chkV v = Y at *
          obtain ⟨vk, vi, vb, vs⟩ := v
          obtain ⟨n, k, nl⟩ := c
          simp only at d0 d1 d2 d3 x0 x1 x2 cK hZ hck
          generalize str vs = S at *
          generalize str n = N at *
          have e0 := (hbw.cell (p := ⟨a, o + j * 3, none⟩) ha).trans x0
          have e1 := (hbw.cell (p := ⟨a, o + j * 3 + 1, none⟩) ha).trans x1
          have e2 := (hbw.cell (p := ⟨a, o + j * 3 + 2, none⟩) ha).trans x2
          obtain ⟨wa, hwa⟩ : ∃ wa, wr.alloc (.cells #[.int .i64 vk, .int .i64 vi, .int .u64 vb, .string S] 39) = wa := ⟨_, rfl⟩
          have hbA : Below w.heap.size w wa := by rw [← hwa]; exact hbw.alloc hbw.size _
          have hbB : Below wr.heap.size wr wa := by rw [← hwa]; exact (Below.refl _ _).alloc (Nat.le_refl _) _
          have f0 := (hbB.cell (p := ⟨a, o + j * 3, none⟩) (Nat.lt_of_lt_of_le ha hbw.size)).trans e0
          have f1 := (hbB.cell (p := ⟨a, o + j * 3 + 1, none⟩) (Nat.lt_of_lt_of_le ha hbw.size)).trans e1
          have f2 := (hbB.cell (p := ⟨a, o + j * 3 + 2, none⟩) (Nat.lt_of_lt_of_le ha hbw.size)).trans e2
          have zT : Blk wa wr.heap.size 39 [.int .i64 vk, .int .i64 vi, .int .u64 vb, .string S] := by rw [← hwa]; exact Blk.new wr #[.int .i64 vk, .int .i64 vi, .int .u64 vb, .string S] _
          have cc := cK wa hbA
          clear cK x0 x1 x2 y0 y1 y2 y3
          go_upto_region 9 with fail
          try rw [hwa]
          have hga : wr.heap.size < wa.heap.size := zT.lt
          have haw := Nat.lt_of_lt_of_le ha hbA.size
          clear hwa d0 d1 d2 d3 e0 e1 e2 hbw hbB
          generalize wr.heap.size = g at *
          have p0 := zT.cell (j := 0) rfl
          have p1 := zT.cell (j := 1) rfl
          have p2 := zT.cell (j := 2) rfl
          have p3 := zT.cell (j := 3) rfl
          go_wp2_with fail
          refine cc.mono ?_
          rintro e w2 ⟨rfl, hb⟩
          have hbb : Below w.heap.size w w2 := below_stepL hbA hbA.size hb
          have q0 := (hb.cell (p := ⟨g, 0, none⟩) hga).trans p0
          have r1 := (hb.cell (p := ⟨a, o + j * 3 + 1, none⟩) haw).trans f1
          have r2 := (hb.cell (p := ⟨a, o + j * 3 + 2, none⟩) haw).trans f2
          clear cc p0 p1 p2 p3 zT f0 f1 f2 hb hbA
          by_cases hy : Y = 0
          · have z1 : (Y != 0) = false := by rw [hy]; rfl
            rw [if_neg (by simpa using hy)] at hZ
            clear hy
            by_cases h0 : vk = 0
            · have h1 : ¬ vk = k := by omega
              rw [if_neg h1, if_pos h0] at hZ
              have d2 : (vk == 0) = true := by simpa using h0
              clear h0 h1
              cases nl
              · have hZ2 : Z = 12 := by rw [hZ]; rfl
                clear hZ
                have HN := Lib.hid (HBD.out (by rw [hZ2]; decide))
                subst hZ2
                clear HBD HGO
                go_wp2_with fail
                go_ret
                exact ⟨by rw [HN.out]; rfl, hbb⟩
              · have hZ2 : Z = 0 := by rw [hZ]; rfl
                clear hZ
                have HN := Lib.hid (HGO.out (by rw [hZ2]))
                clear HBD HGO hZ2
                go_wp2_with fail
                go_roundw
                case rel => exact ⟨j + 1, by omega, by go_num, HN, hbb⟩
                case measure => simp [intOf]; omega
            · have d2 : (vk == 0) = false := by simpa using h0
              by_cases h1 : vk = k
              · have hZ2 : Z = 0 := by rw [hZ, if_pos h1]
                have d3 : (vk == k) = true := by simpa using h1
                have d4 : (vk != k) = false := by simp [bne, d3]
                clear hZ h0 h1
                have HN := Lib.hid (HGO.out (by rw [hZ2]))
                clear HBD HGO hZ2
                go_upto_region 15 with fail
                go_quiet (fail)
                go_wp2_with fail
                go_roundw
                case rel => exact ⟨j + 1, by omega, by go_num, HN, below_dqC hbb _⟩
                case measure => simp [intOf]; omega
              · have hZ2 : Z = 2 := by rw [hZ, if_neg h1, if_neg h0]
                have d3 : (vk == k) = false := by simpa using h1
                have d4 : (vk != k) = true := by simp [bne, d3]
                clear hZ h0
                have HN := Lib.hid (HBD.out (by rw [hZ2]; decide))
                subst hZ2
                clear HBD HGO
                go_upto_region 15 with fail
                go_quiet (fail)
                go_wp2_with fail
                go_ret
                exact ⟨by rw [HN.out]; rfl, below_dqC hbb _⟩
          · have z1 : (Y != 0) = true := by simpa using hy
            have hZ2 : Z = Y := by rw [hZ, if_pos hy]
            have HN := Lib.hid (HBD.out (by rw [hZ2]; exact hy))
            subst hZ2
            clear HBD HGO hZ hy
            go_wp2_with fail
            go_ret
            exact ⟨by rw [HN.out]; rfl, hbb⟩

        · have iI : ¬ (j : Int) < (r : Int) := by omega
          have HP := Lib.hid (HGOOD.out (fun i x y hx hy => hal.out i x y hx hy (by have := (List.getElem?_eq_some_iff.1 hx).1; rw [HR.out] at this; omega)))
          go_wp2_with fail
          go_ret
          exact ⟨by rw [HP.out]; rfl, hbw⟩
    · have HRR : Hid (R = 1) := by show _ = _; rw [← hR, if_pos (by rw [hm, hr]; simpa using hlen)]
      have e1 : ¬ (r : Int) = (m : Int) := by omega
      have e2 : ((r : Int) == (m : Int)) = false := by simpa using e1
      have e3 : ((r : Int) != (m : Int)) = true := by simpa using e1
      rw [hm] at cC hcap ⊢
      rw [hr] at hcr ⊢
      clear hR hm hr hV hC hT hz hlen
      go_enter Tryd.func31, Tryd.ntmps31
      go_wp2_with fail
      refine cC.mono ?_
      rintro e w1 ⟨rfl, hb1⟩
      clear cC
      go_wp2_with fail
      go_ret
      exact ⟨by rw [HRR.out]; rfl, hb1⟩
  · rw [if_pos hz] at hR
    rw [hR] at cC hz
    have z1 : (R != 0) = true := by simpa using hz
    rw [hm] at cC hcap ⊢
    rw [hr] at hcr ⊢
    clear hR hm hr hV hC hT hz
    go_enter Tryd.func31, Tryd.ntmps31
    go_wp2_with fail
    refine cC.mono ?_
    rintro e w1 ⟨rfl, hb1⟩
    clear cC
    go_wp2_with fail
    go_ret
    exact ⟨rfl, hb1⟩
end Go.Proofs.YtpneoaehkibdeaaDoor
