/-
  CONTRACTS of package kinds' checkCell and Row.
  CONDITIONS: each theorem's own hypotheses; the tables 'Tabs' and package lex's signs 'SW' hold what their initialisers lay.
-/
import Derived.Test.YtpneoaehkibdeaaDoorKindR
namespace Go.Proofs.YtpneoaehkibdeaaDoor
open Go.RowKit
set_option linter.unusedVariables false
set_option maxRecDepth 100000

set_option maxHeartbeats 4000000 in
theorem checkCell_any (v : Vl) (c : Cl) (w : World) (hv : FitV v) (hk : 1 ≤ c.k) (hT : Tabs w) :
    Calls Tryd.prog 63 #[.agg #[.int .i64 v.k, .int .i64 v.i, .int .u64 v.b, .string (str v.s)], .agg #[.string (str c.n), .int .i64 c.k, .bool c.nl]] w fun e w' => e = .returned (.int .i64 (cellF v c)) ∧ Below w.heap.size w w' := by
  have cC := fun W (hW : Below w.heap.size w W) => check_any v.k v.i v.b (str v.s) W hv.b0 hv.b1 (by rw [str_size]; exact hv.s1) (tabs_below hT hW)
  unfold cellF chkV
  generalize chk v.k v.i v.b (str v.s) = Z at *
  obtain ⟨vk, vi, vb, vs⟩ := v
  obtain ⟨n, k, nl⟩ := c
  simp only at cC hk ⊢
  generalize str vs = S at *
  generalize str n = N at *
  clear hv hT
  by_cases hz : Z = 0
  · rw [if_neg (by simpa using hz)]
    have z1 : (Z != 0) = false := by rw [hz]; rfl
    clear hz
    by_cases h1 : vk = k
    · rw [if_pos h1]
      have d1 : (vk == k) = true := by simpa using h1
      clear h1
      go_enter Tryd.func63, Tryd.ntmps63
      go_wp2_with fail
      refine (cC _ (((Below.refl _ _).alloc (Nat.le_refl _) _).alloc (by simp) _)).mono ?_
      rintro e w1 ⟨rfl, hb⟩
      have hbb : Below w.heap.size w w1 := (((Below.refl _ _).alloc (Nat.le_refl _) _).alloc (by simp) _).trans (hb.mono (by simp; omega))
      have p0 := (bcellK hb w.heap.size 0 (by simp; omega)).trans (show _ = some (.int .i64 vk) by simp)
      have p1 := (bcellK hb (w.heap.size + 1) 1 (by simp)).trans (show _ = some (.int .i64 k) by simp)
      have p2 := (bcellK hb (w.heap.size + 1) 2 (by simp)).trans (show _ = some (.bool nl) by simp)
      clear cC hb
      go_wp2_with fail
      go_ret
      exact ⟨by first | rfl | simp [*], hbb⟩
    · rw [if_neg h1]
      have d1 : (vk == k) = false := by simpa using h1
      clear h1
      by_cases h0 : vk = 0
      · rw [if_pos h0]
        have d2 : (vk == 0) = true := by simpa using h0
        clear h0
        cases nl
        · rw [if_neg (by decide)]
          go_enter Tryd.func63, Tryd.ntmps63
          go_wp2_with fail
          refine (cC _ (((Below.refl _ _).alloc (Nat.le_refl _) _).alloc (by simp) _)).mono ?_
          rintro e w1 ⟨rfl, hb⟩
          have hbb : Below w.heap.size w w1 := (((Below.refl _ _).alloc (Nat.le_refl _) _).alloc (by simp) _).trans (hb.mono (by simp; omega))
          have p0 := (bcellK hb w.heap.size 0 (by simp; omega)).trans (show _ = some (.int .i64 vk) by simp)
          have p1 := (bcellK hb (w.heap.size + 1) 1 (by simp)).trans (show _ = some (.int .i64 k) by simp)
          have p2 := (bcellK hb (w.heap.size + 1) 2 (by simp)).trans (show _ = some (.bool false) by simp)
          clear cC hb
          go_wp2_with fail
          go_ret
          exact ⟨by first | rfl | simp [*], hbb⟩
        · rw [if_pos rfl]
          go_enter Tryd.func63, Tryd.ntmps63
          go_wp2_with fail
          refine (cC _ (((Below.refl _ _).alloc (Nat.le_refl _) _).alloc (by simp) _)).mono ?_
          rintro e w1 ⟨rfl, hb⟩
          have hbb : Below w.heap.size w w1 := (((Below.refl _ _).alloc (Nat.le_refl _) _).alloc (by simp) _).trans (hb.mono (by simp; omega))
          have p0 := (bcellK hb w.heap.size 0 (by simp; omega)).trans (show _ = some (.int .i64 vk) by simp)
          have p1 := (bcellK hb (w.heap.size + 1) 1 (by simp)).trans (show _ = some (.int .i64 k) by simp)
          have p2 := (bcellK hb (w.heap.size + 1) 2 (by simp)).trans (show _ = some (.bool true) by simp)
          clear cC hb
          go_wp2_with fail
          go_ret
          exact ⟨by first | rfl | simp [*], hbb⟩
      · rw [if_neg h0]
        have d2 : (vk == 0) = false := by simpa using h0
        clear h0
        go_enter Tryd.func63, Tryd.ntmps63
        go_wp2_with fail
        refine (cC _ (((Below.refl _ _).alloc (Nat.le_refl _) _).alloc (by simp) _)).mono ?_
        rintro e w1 ⟨rfl, hb⟩
        have hbb : Below w.heap.size w w1 := (((Below.refl _ _).alloc (Nat.le_refl _) _).alloc (by simp) _).trans (hb.mono (by simp; omega))
        have p0 := (bcellK hb w.heap.size 0 (by simp; omega)).trans (show _ = some (.int .i64 vk) by simp)
        have p1 := (bcellK hb (w.heap.size + 1) 1 (by simp)).trans (show _ = some (.int .i64 k) by simp)
        have p2 := (bcellK hb (w.heap.size + 1) 2 (by simp)).trans (show _ = some (.bool nl) by simp)
        clear cC hb
        go_wp2_with fail
        go_ret
        exact ⟨by first | rfl | simp [*], hbb⟩
  · rw [if_pos hz]
    have z1 : (Z != 0) = true := by simpa using hz
    clear hz
    go_enter Tryd.func63, Tryd.ntmps63
    go_wp2_with fail
    refine (cC _ (((Below.refl _ _).alloc (Nat.le_refl _) _).alloc (by simp) _)).mono ?_
    rintro e w1 ⟨rfl, hb⟩
    have hbb : Below w.heap.size w w1 := (((Below.refl _ _).alloc (Nat.le_refl _) _).alloc (by simp) _).trans (hb.mono (by simp; omega))
    have p0 := (bcellK hb w.heap.size 0 (by simp; omega)).trans (show _ = some (.int .i64 vk) by simp)
    have p1 := (bcellK hb (w.heap.size + 1) 1 (by simp)).trans (show _ = some (.int .i64 k) by simp)
    have p2 := (bcellK hb (w.heap.size + 1) 2 (by simp)).trans (show _ = some (.bool nl) by simp)
    clear cC hb
    go_wp2_with fail
    go_ret
    exact ⟨by first | rfl | simp [*], hbb⟩
set_option maxHeartbeats 8000000 in
theorem row_any (row : List Vl) (aor : Option Addr) (capr : Nat) (l : List Cl) (ao : Option Addr) (cap : Nat) (w : World) (hcr : row.length ≤ capr) (hlr : capr ≤ 9223372036854775807) (hV : Vals w aor row) (hcap : l.length ≤ cap) (hl : cap ≤ 9223372036854775807) (hC : Cols w ao l) (hT : Tabs w) (hS : SW w) :
    Calls Tryd.prog 34 #[.slice aor row.length capr, .slice ao l.length cap] w fun e w' => e = .returned (.int .i64 (rowR row l)) ∧ Below w.heap.size w w' := by
  obtain ⟨R, hR⟩ : ∃ R, rowR row l = R := ⟨_, rfl⟩
  rw [hR]
  obtain ⟨m, hm⟩ : ∃ m, l.length = m := ⟨_, rfl⟩
  obtain ⟨r, hr⟩ : ∃ r, row.length = r := ⟨_, rfl⟩
  have cC := columns_any l ao cap w hcap hl hC hT hS
  unfold rowR at hR
  by_cases hz : colsR l = 0
  · rw [if_neg (by simpa using hz)] at hR
    rw [hz] at cC
    by_cases hlen : r = m
    · rw [if_neg (by rw [hm, hr]; simpa using hlen)] at hR
      have hkd := fun j c (h : l[j]? = some c) => colsR_kinds hz j c h
      have hbad := fun j v c h1 h2 h3 h4 => cellsF_bad row l j v c h1 h2 h3 h4
      have hgood := cellsF_good row l
      rw [hR] at hbad hgood
      subst hlen
      rw [hm] at cC hcap ⊢
      rw [hr] at hcr ⊢
      have HM := Lib.hid hm
      have HR := Lib.hid hr
      have HKD := Lib.hid hkd
      have HBAD := Lib.hid hbad
      have HGOOD := Lib.hid hgood
      have HV := Lib.hid hV
      have HC := Lib.hid hC
      have HT := Lib.hid hT
      have hrr : ((r : Int) != (r : Int)) = false := by simp
      clear hR hm hr hkd hbad hgood hV hC hT hz
      go_enter Tryd.func34, Tryd.ntmps34
      go_wp2_with fail
      refine cC.mono ?_
      rintro e w1 ⟨rfl, hb1⟩
      clear cC
      go_wp2_with fail
      go_loopw [21] (fun i wr => ∃ j : Nat, j ≤ r ∧ i = .int .i64 j ∧ Hid (∀ (i : Nat) (x : Vl) (y : Cl), row[i]? = some x → l[i]? = some y → i < j → cellF x y = 0) ∧ Below w.heap.size w wr) (fun i _ => r - (intOf i).toNat)
      case atStart => exact ⟨0, Nat.zero_le _, rfl, Lib.hid (fun i x y _ _ h => absurd h (Nat.not_lt_zero _)), hb1⟩
      case round =>
        obtain ⟨j, hj, rfl, hal, hbw⟩ := hrel
        by_cases hlt : j < r
        · have iI : (j : Int) < (r : Int) := by omega
          have hjl : j < l.length := by rw [HM.out]; exact hlt
          have hjr : j < row.length := by rw [HR.out]; exact hlt
          obtain ⟨c, hcj⟩ : ∃ c, l[j]? = some c := ⟨l[j], List.getElem?_eq_getElem hjl⟩
          obtain ⟨v, hvj⟩ : ∃ v, row[j]? = some v := ⟨row[j], List.getElem?_eq_getElem hjr⟩
          have hfv := HV.out.1 v (List.mem_of_getElem? hvj)
          have hck := HKD.out j c hcj
          have cK := fun W (hW : Below w.heap.size w W) => checkCell_any v c W hfv hck (tabs_below HT.out hW)
          rcases HC.out.2 with h0 | ⟨a, o, rfl, ha, hcl⟩
          · rw [h0] at hjl; simp at hjl
          rcases HV.out.2 with h0 | ⟨a2, o2, rfl, ha2, hvl⟩
          · rw [h0] at hjr; simp at hjr
          obtain ⟨x0, x1, x2⟩ := hcl j c hcj
          obtain ⟨y0, y1, y2, y3⟩ := hvl j v hvj
          have d0 := (hbw.cell (p := ⟨a2, o2 + j * 4, none⟩) ha2).trans y0
          have d1 := (hbw.cell (p := ⟨a2, o2 + j * 4 + 1, none⟩) ha2).trans y1
          have d2 := (hbw.cell (p := ⟨a2, o2 + j * 4 + 2, none⟩) ha2).trans y2
          have d3 := (hbw.cell (p := ⟨a2, o2 + j * 4 + 3, none⟩) ha2).trans y3
          have hbd := fun (h : cellF v c ≠ 0) => HBAD.out j v c hvj hcj hal.out h
          have hgo := fun (h : cellF v c = 0) => (show ∀ (i : Nat) (x : Vl) (y : Cl), row[i]? = some x → l[i]? = some y → i < j + 1 → cellF x y = 0 from fun i x y hx hy hi => by
            rcases Nat.lt_or_ge i j with h1 | h1
            · exact hal.out i x y hx hy h1
            · obtain rfl : i = j := by omega
              rw [hcj] at hy; rw [hvj] at hx; cases hx; cases hy; exact h)
          have HBD := Lib.hid hbd
          have HGO := Lib.hid hgo
          clear hbd hgo hcl hvl hcj hvj hjl hjr hal hfv
          generalize cellF v c = Z at *
          obtain ⟨vk, vi, vb, vs⟩ := v
          obtain ⟨n, k, nl⟩ := c
          simp only at d0 d1 d2 d3 x0 x1 x2 cK
          generalize str vs = S at *
          generalize str n = N at *
          have e0 := (hbw.cell (p := ⟨a, o + j * 3, none⟩) ha).trans x0
          have e1 := (hbw.cell (p := ⟨a, o + j * 3 + 1, none⟩) ha).trans x1
          have e2 := (hbw.cell (p := ⟨a, o + j * 3 + 2, none⟩) ha).trans x2
          obtain ⟨wa, hwa⟩ : ∃ wa, wr.alloc (.cells #[.int .i64 vk, .int .i64 vi, .int .u64 vb, .string S] 39) = wa := ⟨_, rfl⟩
          have hbA : Below w.heap.size w wa := by rw [← hwa]; exact hbw.alloc hbw.size _
          have hbB : Below wr.heap.size wr wa := by rw [← hwa]; exact (Below.refl _ _).alloc (Nat.le_refl _) _
          have f0 := (hbB.cell (p := ⟨a, o + j * 3, none⟩) (Nat.lt_of_lt_of_le ha hbw.size)).trans e0
          have f1 := (hbB.cell (p := ⟨a, o + j * 3 + 1, none⟩) (Nat.lt_of_lt_of_le ha hbw.size)).trans e1
          have f2 := (hbB.cell (p := ⟨a, o + j * 3 + 2, none⟩) (Nat.lt_of_lt_of_le ha hbw.size)).trans e2
          have zT : Blk wa wr.heap.size 39 [.int .i64 vk, .int .i64 vi, .int .u64 vb, .string S] := by rw [← hwa]; exact Blk.new wr #[.int .i64 vk, .int .i64 vi, .int .u64 vb, .string S] _
          have cc := cK wa.drew hbA.drew
          clear cK x0 x1 x2 y0 y1 y2 y3
          go_upto_region 9 with fail
          try rw [hwa]
          clear hwa d0 d1 d2 d3 e0 e1 e2 hbw hbB
          generalize wr.heap.size = g at *
          have p0 := zT.cell (j := 0) rfl
          have p1 := zT.cell (j := 1) rfl
          have p2 := zT.cell (j := 2) rfl
          have p3 := zT.cell (j := 3) rfl
          by_cases hz : Z = 0
          · have z1 : (Z != 0) = false := by rw [hz]; rfl
            have HN := Lib.hid (HGO.out hz)
            clear HBD HGO hz
            go_region_with (go_at_call 63; refine cc.mono ?_; rintro e w2 ⟨rfl, hb⟩; have hbb : Below w.heap.size w w2 := below_stepL hbA.drew hbA.size hb)
            all_goals go_wp2_with fail
            all_goals go_roundw
            all_goals first
              | exact ⟨j + 1, by omega, by go_num, HN, by assumption⟩
              | (simp [intOf]; omega)
          · have z1 : (Z != 0) = true := by simpa using hz
            have HN := Lib.hid (HBD.out hz)
            clear HBD HGO hz
            go_region_with (go_at_call 63; refine cc.mono ?_; rintro e w2 ⟨rfl, hb⟩; have hbb : Below w.heap.size w w2 := below_stepL hbA.drew hbA.size hb)
            all_goals go_wp2_with fail
            all_goals go_ret
            all_goals exact ⟨by rw [HN.out]; rfl, by assumption⟩
        · have iI : ¬ (j : Int) < (r : Int) := by omega
          have HP := Lib.hid (HGOOD.out (fun i x y hx hy => hal.out i x y hx hy (by have := (List.getElem?_eq_some_iff.1 hx).1; rw [HR.out] at this; omega)))
          go_wp2_with fail
          go_ret
          exact ⟨by rw [HP.out]; rfl, hbw⟩
    · have HRR : Hid (R = 1) := by show _ = _; rw [← hR, if_pos (by rw [hm, hr]; simpa using hlen)]
      have e1 : ¬ (r : Int) = (m : Int) := by omega
      have e2 : ((r : Int) == (m : Int)) = false := by simpa using e1
      have e3 : ((r : Int) != (m : Int)) = true := by simpa using e1
      rw [hm] at cC hcap ⊢
      rw [hr] at hcr ⊢
      clear hR hm hr hV hC hT hz hlen
      go_enter Tryd.func34, Tryd.ntmps34
      go_wp2_with fail
      refine cC.mono ?_
      rintro e w1 ⟨rfl, hb1⟩
      clear cC
      go_wp2_with fail
      go_ret
      exact ⟨by rw [HRR.out]; rfl, hb1⟩
  · rw [if_pos hz] at hR
    rw [hR] at cC hz
    have z1 : (R != 0) = true := by simpa using hz
    rw [hm] at cC hcap ⊢
    rw [hr] at hcr ⊢
    clear hR hm hr hV hC hT hz
    go_enter Tryd.func34, Tryd.ntmps34
    go_wp2_with fail
    refine cC.mono ?_
    rintro e w1 ⟨rfl, hb1⟩
    clear cC
    go_wp2_with fail
    go_ret
    exact ⟨rfl, hb1⟩
end Go.Proofs.YtpneoaehkibdeaaDoor
