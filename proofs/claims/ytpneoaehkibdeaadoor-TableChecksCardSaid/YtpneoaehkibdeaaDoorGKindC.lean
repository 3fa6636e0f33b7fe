/-
  MERGED: KindA, KindB, KindC.
  CONDITIONS: each theorem's own hypotheses.
-/
import Derived.Test.YtpneoaehkibdeaaDoorKindO
import Derived.Test.YtpneoaehkibdeaaDoorGLexC
import Derived.Test.YtpneoaehkibdeaaDoorBlk
import Derived.Laws.EntriesVeiled
import Derived.BigQuiet

/-! CONTRACTS of package kinds: where a column of a name stands; what is wrong with a column; Columns. CONDITIONS: each theorem's own hypotheses; the tables 'Tabs' and package lex's signs 'SW' hold what their initialisers lay. -/
namespace Go.Proofs.YtpneoaehkibdeaaDoor
open Go.RowKit
set_option linter.unusedVariables false
set_option maxRecDepth 100000

theorem placeN_hit (n : List UInt8) : ∀ (l : List Cl) (q j : Nat) (c : Cl), l[j]? = some c → c.n = n → (∀ (i : Nat) (x : Cl), l[i]? = some x → i < j → x.n ≠ n) → placeN n l q = ((q + j : Nat) : Int)
  | [], q, j, c, h, _, _ => by simp at h
  | x :: l, q, 0, c, h, hc, _ => by
    simp only [List.getElem?_cons_zero, Option.some.injEq] at h
    subst h
    have e : placeN n (x :: l) q = if (x.n == n) = true then (q : Int) else placeN n l (q + 1) := rfl
    rw [e, if_pos (by rw [hc]; simp)]; simp
  | x :: l, q, j + 1, c, h, hc, hg => by
    have e : placeN n (x :: l) q = if (x.n == n) = true then (q : Int) else placeN n l (q + 1) := rfl
    have h0 := hg 0 x rfl (by omega)
    rw [e, if_neg (by simpa using h0), placeN_hit n l (q + 1) j c (by simpa using h) hc (fun i y hy hi => hg (i + 1) y (by simpa using hy) (by omega))]
    congr 1; omega
theorem placeN_none (n : List UInt8) : ∀ (l : List Cl) (q : Nat), (∀ (i : Nat) (x : Cl), l[i]? = some x → x.n ≠ n) → placeN n l q = -1
  | [], q, _ => rfl
  | x :: l, q, hg => by
    have e : placeN n (x :: l) q = if (x.n == n) = true then (q : Int) else placeN n l (q + 1) := rfl
    have h0 := hg 0 x rfl
    rw [e, if_neg (by simpa using h0), placeN_none n l (q + 1) (fun i y hy => hg (i + 1) y (by simpa using hy))]
set_option maxHeartbeats 2000000 in
theorem isNamed_any (c : Cl) (n : List UInt8) (b : Nat) (w : World) (hb : b < w.heap.size) (hc : w.cell? ⟨b, 0, none⟩ = some (.string (str n))) :
    Calls Tryd.prog 109 #[.agg #[.string (str c.n), .int .i64 c.k, .bool c.nl], .pointer (some ⟨b, 0, none⟩)] w fun e w' => e = .returned (.bool (c.n == n)) ∧ Below w.heap.size w w' := by
  have hq : ((str c.n).toList == (str n).toList) = (c.n == n) := str_beq c.n n
  obtain ⟨B, hB⟩ : ∃ B, (c.n == n) = B := ⟨_, rfl⟩
  rw [hB] at hq ⊢
  have hc2 : ∀ o, (w.alloc o).cell? ⟨b, 0, none⟩ = some (.string (str n)) := fun o => (((Below.refl w.heap.size w).alloc (Nat.le_refl _) o).cell (p := ⟨b, 0, none⟩) hb).trans hc
  generalize str c.n = S at *
  generalize str n = N at *
  clear hB hc
  go_enter Tryd.func109, Tryd.ntmps109
  go_wp2_with fail
  go_ret
  exact ⟨by first | rfl | (rw [← hq]; rfl) | simp [hq], (Below.refl _ _).alloc (Nat.le_refl _) _⟩
set_option maxHeartbeats 4000000 in
theorem indexFunc_any (l : List Cl) (ao : Option Addr) (cap : Nat) (n : List UInt8) (b : Nat) (w : World) (hl : l.length ≤ 9223372036854775807) (hC : Cols w ao l) (hb : b < w.heap.size) (hc : w.cell? ⟨b, 0, none⟩ = some (.string (str n))) :
    Calls Tryd.prog 108 #[.slice ao l.length cap, .func (.func 109) #[] #[.pointer (some ⟨b, 0, none⟩)]] w fun e w' => e = .returned (.int .i64 (placeN n l 0)) ∧ Below w.heap.size w w' := by
  obtain ⟨P, hP⟩ : ∃ P, placeN n l 0 = P := ⟨_, rfl⟩
  rw [hP]
  have hhit := fun j c h1 h2 h3 => placeN_hit n l 0 j c h1 h2 h3
  have hnone := placeN_none n l 0
  rw [hP] at hhit hnone
  obtain ⟨m, hm⟩ : ∃ m, l.length = m := ⟨_, rfl⟩
  rw [hm] at hl ⊢
  have HM := Lib.hid hm
  have HH := Lib.hid hhit
  have HN := Lib.hid hnone
  have HC := Lib.hid hC
  clear hhit hnone hP hm hC
  go_enter Tryd.func108, Tryd.ntmps108
  go_wp2_with fail
  go_loopw [8] (fun i wr => ∃ j : Nat, j ≤ m ∧ i = .int .i64 j ∧ Hid (∀ (i : Nat) (x : Cl), l[i]? = some x → i < j → x.n ≠ n) ∧ Below w.heap.size w wr) (fun i _ => m - (intOf i).toNat)
  case atStart => exact ⟨0, Nat.zero_le _, rfl, Lib.hid (fun i x _ h => absurd h (Nat.not_lt_zero _)), Below.refl _ _⟩
  case round =>
    obtain ⟨j, hj, rfl, hal, hbw⟩ := hrel
    by_cases hlt : j < m
    · have iI : (j : Int) < (m : Int) := by omega
      have hjl : j < l.length := by rw [HM.out]; exact hlt
      obtain ⟨c, hcj⟩ : ∃ c, l[j]? = some c := ⟨l[j], List.getElem?_eq_getElem hjl⟩
      rcases HC.out.2 with h0 | ⟨a, o, rfl, ha, hcl⟩
      · rw [h0] at hjl; simp at hjl
      obtain ⟨x0, x1, x2⟩ := hcl j c hcj
      have d0 := (hbw.cell (p := ⟨a, o + j * 3, none⟩) ha).trans x0
      have d1 := (hbw.cell (p := ⟨a, o + j * 3 + 1, none⟩) ha).trans x1
      have d2 := (hbw.cell (p := ⟨a, o + j * 3 + 2, none⟩) ha).trans x2
      have cC := isNamed_any c n b wr (Nat.lt_of_lt_of_le hb hbw.size) ((hbw.cell (p := ⟨b, 0, none⟩) hb).trans hc)
      have hx1 := fun (h : c.n = n) => HH.out j c hcj h hal.out
      have hx2 := fun (h : c.n ≠ n) => (show ∀ (i : Nat) (x : Cl), l[i]? = some x → i < j + 1 → x.n ≠ n from fun i x hx hi => by
        rcases Nat.lt_or_ge i j with h1 | h1
        · exact hal.out i x hx h1
        · obtain rfl : i = j := by omega
          rw [hcj] at hx; cases hx; exact h)
      have HX1 := Lib.hid hx1
      have HX2 := Lib.hid hx2
      clear hx1 hx2 hcl hcj hjl x0 x1 x2 hal
      by_cases hn : c.n = n
      · have hb1 : (c.n == n) = true := by simpa using hn
        rw [hb1] at cC
        have HP := Lib.hid (HX1.out hn)
        clear HX1 HX2 hn hb1
        generalize str c.n = S at *
        go_wp2_with fail
        refine cC.mono ?_
        rintro e w1 ⟨rfl, hb2⟩
        have hbb := below_stepL hbw hbw.size hb2
        clear cC hb2 d0 d1 d2
        go_wp2_with fail
        go_ret
        exact ⟨by rw [HP.out, Nat.zero_add]; rfl, hbb⟩
      · have hb1 : (c.n == n) = false := by simpa using hn
        rw [hb1] at cC
        have HP := Lib.hid (HX2.out hn)
        clear HX1 HX2 hn hb1
        generalize str c.n = S at *
        go_wp2_with fail
        refine cC.mono ?_
        rintro e w1 ⟨rfl, hb2⟩
        have hbb := below_stepL hbw hbw.size hb2
        clear cC hb2 d0 d1 d2
        go_wp2_with fail
        go_roundw
        case rel => exact ⟨j + 1, by omega, by go_num, HP, hbb⟩
        case measure => simp [intOf]; omega
    · have iI : ¬ (j : Int) < (m : Int) := by omega
      have HP := Lib.hid (HN.out (fun i x hx => hal.out i x hx (by have := (List.getElem?_eq_some_iff.1 hx).1; rw [HM.out] at this; omega)))
      go_wp2_with fail
      go_ret
      exact ⟨by rw [HP.out]; rfl, hbw⟩
set_option maxHeartbeats 2000000 in
theorem placeOf_any (l : List Cl) (ao : Option Addr) (cap : Nat) (n : List UInt8) (w : World) (hl : l.length ≤ 9223372036854775807) (hC : Cols w ao l) :
    Calls Tryd.prog 87 #[.string (str n), .slice ao l.length cap] w fun e w' => e = .returned (.int .i64 (placeN n l 0)) ∧ Below w.heap.size w w' := by
  have c := indexFunc_any l ao cap n w.heap.size (w.alloc (.cells #[.string (str n)] 9)) hl (hC.keep ((Below.refl _ _).alloc (Nat.le_refl _) _)) (by simp) (by simp)
  generalize placeN n l 0 = P at *
  generalize l.length = m at *
  generalize str n = N at *
  clear hC
  go_enter Tryd.func87, Tryd.ntmps87
  go_wp2_with fail
  refine c.mono ?_
  rintro e w1 ⟨rfl, hb⟩
  have hbb : Below w.heap.size w w1 := ((Below.refl _ _).alloc (Nat.le_refl _) _).trans (hb.mono (by simp))
  clear c hb
  go_wp2_with fail
  go_ret
  exact ⟨rfl, hbb⟩
end Go.Proofs.YtpneoaehkibdeaaDoor

/-! CONTRACTS of package kinds: what is wrong with a column behind others; Columns. CONDITIONS: each theorem's own hypotheses; the tables 'Tabs' and package lex's signs 'SW' hold what their initialisers lay. -/
namespace Go.Proofs.YtpneoaehkibdeaaDoor
open Go.RowKit
set_option linter.unusedVariables false
set_option maxRecDepth 100000

theorem bcellK {W w1 : World} (hb : Below W.heap.size W w1) : (∀ b o, b < W.heap.size → w1.cell? ⟨b, o, none⟩ = W.cell? ⟨b, o, none⟩) :=
  fun b o h => hb.cell (p := ⟨b, o, none⟩) h
theorem Cols.take {w : World} {ao : Option Addr} {l : List Cl} (h : Cols w ao l) (j : Nat) : Cols w ao (l.take j) := by
  refine ⟨fun c hc => h.1 c (List.mem_of_mem_take hc), ?_⟩
  rcases h.2 with rfl | ⟨a, o, e, ha, hl⟩
  · left; simp
  · right
    refine ⟨a, o, e, ha, fun i c hc => hl i c ?_⟩
    rw [List.getElem?_take] at hc
    split at hc
    · exact hc
    · cases hc
set_option maxHeartbeats 4000000 in
theorem checkColumn_any (c : Cl) (l : List Cl) (ao : Option Addr) (cap : Nat) (w : World) (hf : FitC c) (hl : l.length ≤ 9223372036854775807) (hC : Cols w ao l) (hT : Tabs w) (hS : SW w) :
    Calls Tryd.prog 55 #[.agg #[.string (str c.n), .int .i64 c.k, .bool c.nl], .slice ao l.length cap] w fun e w' => e = .returned (.int .i64 (colF c l)) ∧ Below w.heap.size w w' := by
  have cL := fun W (hW : Below w.heap.size w W) => lexCheck_any 1 0 0 c.n W (by decide) (by decide) hf.n1 (tabs_below hT hW) (hS.keep hW (Nat.le_refl _))
  have cP := fun W (hW : Below w.heap.size w W) => placeOf_any l ao cap c.n W hl (hC.keep hW)
  have hp := placeN_any c.n l 0
  have hk0 := hf.k0
  have hk1 := hf.k1
  unfold colF
  generalize hAny : l.any (fun x => x.n == c.n) = A at *
  generalize placeN c.n l 0 = P at *
  generalize tokC 1 c.n 0 0 = Z at *
  generalize l.length = m at *
  obtain ⟨n, k, nl⟩ := c
  simp only at cL cP hk0 hk1 ⊢
  generalize str n = N at *
  clear hf hC hT hS hAny
  by_cases hz : Z = 0
  · rw [if_neg (by simpa using hz)]
    have z1 : (Z != 0) = false := by rw [hz]; rfl
    by_cases hk : k < 1 ∨ 4 < k
    · rw [if_pos hk]
      clear cP hp hz
      by_cases h1 : k < 1
      · have d1 : decide (k < 1) = true := decide_eq_true h1
        clear hk
        go_enter Tryd.func55, Tryd.ntmps55
        go_wp2_with fail
        refine (cL _ ((Below.refl _ _).alloc (Nat.le_refl _) _)).mono ?_
        rintro e w1 ⟨rfl, hb⟩
        have hbb : Below w.heap.size w w1 := ((Below.refl _ _).alloc (Nat.le_refl _) _).trans (hb.mono (by simp))
        have p1 := (bcellK hb w.heap.size 1 (by simp)).trans (show _ = some (.int .i64 k) by simp)
        clear cL hb
        go_wp2_with fail
        go_ret
        exact ⟨rfl, hbb⟩
      · have h4 : 4 < k := by omega
        have d1 : decide (k < 1) = false := decide_eq_false h1
        have d2 : decide (4 < k) = true := decide_eq_true h4
        clear hk h1
        go_enter Tryd.func55, Tryd.ntmps55
        go_wp2_with fail
        refine (cL _ ((Below.refl _ _).alloc (Nat.le_refl _) _)).mono ?_
        rintro e w1 ⟨rfl, hb⟩
        have hbb : Below w.heap.size w w1 := ((Below.refl _ _).alloc (Nat.le_refl _) _).trans (hb.mono (by simp))
        have p1 := (bcellK hb w.heap.size 1 (by simp)).trans (show _ = some (.int .i64 k) by simp)
        clear cL hb
        go_wp2_with fail
        go_ret
        exact ⟨rfl, hbb⟩
    · rw [if_neg hk]
      have d1 : decide (k < 1) = false := decide_eq_false (by omega)
      have d2 : decide (4 < k) = false := decide_eq_false (by omega)
      cases A
      · have hP : ¬ 0 ≤ P := fun h => by have := hp.1 h; cases this
        clear hk hz hp
        go_enter Tryd.func55, Tryd.ntmps55
        go_wp2_with fail
        refine (cL _ ((Below.refl _ _).alloc (Nat.le_refl _) _)).mono ?_
        rintro e w1 ⟨rfl, hb⟩
        have hbb : Below w.heap.size w w1 := ((Below.refl _ _).alloc (Nat.le_refl _) _).trans (hb.mono (by simp))
        have p0 := (bcellK hb w.heap.size 0 (by simp)).trans (show _ = some (.string N) by simp)
        have p1 := (bcellK hb w.heap.size 1 (by simp)).trans (show _ = some (.int .i64 k) by simp)
        have c2 := cP w1 hbb
        clear cL cP hb
        go_wp2_with fail
        refine c2.mono ?_
        rintro e w2 ⟨rfl, hb2⟩
        have hb3 := below_stepL hbb hbb.size hb2
        clear c2 hb2 hbb p0 p1
        go_wp2_with fail
        go_ret
        exact ⟨rfl, hb3⟩
      · have hP : 0 ≤ P := hp.2 rfl
        clear hk hz hp
        go_enter Tryd.func55, Tryd.ntmps55
        go_wp2_with fail
        refine (cL _ ((Below.refl _ _).alloc (Nat.le_refl _) _)).mono ?_
        rintro e w1 ⟨rfl, hb⟩
        have hbb : Below w.heap.size w w1 := ((Below.refl _ _).alloc (Nat.le_refl _) _).trans (hb.mono (by simp))
        have p0 := (bcellK hb w.heap.size 0 (by simp)).trans (show _ = some (.string N) by simp)
        have p1 := (bcellK hb w.heap.size 1 (by simp)).trans (show _ = some (.int .i64 k) by simp)
        have c2 := cP w1 hbb
        clear cL cP hb
        go_wp2_with fail
        refine c2.mono ?_
        rintro e w2 ⟨rfl, hb2⟩
        have hb3 := below_stepL hbb hbb.size hb2
        clear c2 hb2 hbb p0 p1
        go_wp2_with fail
        go_ret
        exact ⟨rfl, hb3⟩
  · rw [if_pos hz]
    have z1 : (Z != 0) = true := by simpa using hz
    clear cP hp hz
    go_enter Tryd.func55, Tryd.ntmps55
    go_wp2_with fail
    refine (cL _ ((Below.refl _ _).alloc (Nat.le_refl _) _)).mono ?_
    rintro e w1 ⟨rfl, hb⟩
    have hbb : Below w.heap.size w w1 := ((Below.refl _ _).alloc (Nat.le_refl _) _).trans (hb.mono (by simp))
    clear cL hb
    go_wp2_with fail
    go_ret
    exact ⟨rfl, hbb⟩
set_option maxHeartbeats 8000000 in
theorem columns_any (l : List Cl) (ao : Option Addr) (cap : Nat) (w : World) (hcap : l.length ≤ cap) (hl : cap ≤ 9223372036854775807) (hC : Cols w ao l) (hT : Tabs w) (hS : SW w) :
    Calls Tryd.prog 27 #[.slice ao l.length cap] w fun e w' => e = .returned (.int .i64 (colsR l)) ∧ Below w.heap.size w w' := by
  obtain ⟨R, hR⟩ : ∃ R, colsR l = R := ⟨_, rfl⟩
  rw [hR]
  obtain ⟨m, hm⟩ : ∃ m, l.length = m := ⟨_, rfl⟩
  by_cases h5 : 5 < m
  · have HR : Hid (R = 1) := by show _ = _; rw [← hR]; unfold colsR; rw [if_pos (by omega)]
    rw [hm] at hcap ⊢
    have i5 : (5 : Int) < (m : Int) := by omega
    clear hR hC hT hS hm h5
    go_enter Tryd.func27, Tryd.ntmps27
    go_wp2_with fail
    go_ret
    exact ⟨by rw [HR.out]; rfl, Below.refl _ _⟩
  · have i5 : ¬ (5 : Int) < (m : Int) := by omega
    have hbad := fun j c h1 h2 h3 => colsR_bad (l := l) (j := j) (c := c) (by omega) h1 h2 h3
    have hgood := fun h => colsR_good (l := l) (by omega) h
    rw [hR] at hbad hgood
    rw [hm] at hcap ⊢
    have HM := Lib.hid hm
    have HBAD := Lib.hid hbad
    have HGOOD := Lib.hid hgood
    have HC := Lib.hid hC
    have HT := Lib.hid hT
    have HS := Lib.hid hS
    have hm5 : m ≤ 5 := by omega
    clear hR hbad hgood hm hC hT hS h5
    go_enter Tryd.func27, Tryd.ntmps27
    go_wp2_with fail
    go_loopw [11] (fun i wr => ∃ j : Nat, j ≤ m ∧ i = .int .i64 j ∧ Hid (∀ (i : Nat) (x : Cl), l[i]? = some x → i < j → colF x (l.take i) = 0) ∧ Below w.heap.size w wr) (fun i _ => m - (intOf i).toNat)
    case atStart => exact ⟨0, Nat.zero_le _, rfl, Lib.hid (fun i x _ h => absurd h (Nat.not_lt_zero _)), Below.refl _ _⟩
    case round =>
      obtain ⟨j, hj, rfl, hal, hbw⟩ := hrel
      by_cases hlt : j < m
      · have iI : (j : Int) < (m : Int) := by omega
        have hjl : j < l.length := by rw [HM.out]; exact hlt
        obtain ⟨c, hcj⟩ : ∃ c, l[j]? = some c := ⟨l[j], List.getElem?_eq_getElem hjl⟩
        have hfc := HC.out.1 c (List.mem_of_getElem? hcj)
        have cK := fun W (hW : Below w.heap.size w W) => checkColumn_any c (l.take j) ao cap W hfc (by rw [List.length_take]; omega) ((HC.out.take j).keep hW) (tabs_below HT.out hW) (HS.out.keep hW (Nat.le_refl _))
        rw [show (l.take j).length = j by rw [List.length_take]; omega] at cK
        rcases HC.out.2 with h0 | ⟨a, o, rfl, ha, hcl⟩
        · rw [h0] at hjl; simp at hjl
        obtain ⟨x0, x1, x2⟩ := hcl j c hcj
        have d0 := (hbw.cell (p := ⟨a, o + j * 3, none⟩) ha).trans x0
        have d1 := (hbw.cell (p := ⟨a, o + j * 3 + 1, none⟩) ha).trans x1
        have d2 := (hbw.cell (p := ⟨a, o + j * 3 + 2, none⟩) ha).trans x2
        have hbd := fun (h : colF c (l.take j) ≠ 0) => HBAD.out j c hcj hal.out h
        have hgo := fun (h : colF c (l.take j) = 0) => (show ∀ (i : Nat) (x : Cl), l[i]? = some x → i < j + 1 → colF x (l.take i) = 0 from fun i x hx hi => by
          rcases Nat.lt_or_ge i j with h1 | h1
          · exact hal.out i x hx h1
          · obtain rfl : i = j := by omega
            rw [hcj] at hx; cases hx; exact h)
        have HBD := Lib.hid hbd
        have HGO := Lib.hid hgo
        clear hbd hgo hcl hcj hjl x0 x1 x2 hal hfc
        generalize colF c (l.take j) = Z at *
        obtain ⟨n, k, nl⟩ := c
        simp only at d0 d1 d2 cK
        generalize str n = N at *
        obtain ⟨wa, hwa⟩ : ∃ wa, wr.alloc (.cells #[.string N, .int .i64 k, .bool nl] 67) = wa := ⟨_, rfl⟩
        have hbA : Below w.heap.size w wa := by rw [← hwa]; exact hbw.alloc hbw.size _
        have zT : Blk wa wr.heap.size 67 [.string N, .int .i64 k, .bool nl] := by rw [← hwa]; exact Blk.new wr #[.string N, .int .i64 k, .bool nl] _
        have cc := cK wa.drew hbA.drew
        clear cK
        go_upto_region 6 with fail
        try rw [hwa]
        clear hwa d0 d1 d2 hbw
        generalize wr.heap.size = g at *
        have p0 := zT.cell (j := 0) rfl
        have p1 := zT.cell (j := 1) rfl
        have p2 := zT.cell (j := 2) rfl
        have jc : (j : Int) ≤ (cap : Int) := by omega
        by_cases hz : Z = 0
        · have z1 : (Z != 0) = false := by rw [hz]; rfl
          have HN := Lib.hid (HGO.out hz)
          clear HBD HGO hz
          go_region_with (go_at_call 55; refine cc.mono ?_; rintro e w1 ⟨rfl, hb⟩; have hbb : Below w.heap.size w w1 := below_stepL hbA.drew hbA.size hb)
          all_goals go_wp2_with fail
          all_goals go_roundw
          all_goals first
            | exact ⟨j + 1, by omega, by go_num, HN, by assumption⟩
            | (simp [intOf]; omega)
        · have z1 : (Z != 0) = true := by simpa using hz
          have HN := Lib.hid (HBD.out hz)
          clear HBD HGO hz
          go_region_with (go_at_call 55; refine cc.mono ?_; rintro e w1 ⟨rfl, hb⟩; have hbb : Below w.heap.size w w1 := below_stepL hbA.drew hbA.size hb)
          all_goals go_wp2_with fail
          all_goals go_ret
          all_goals exact ⟨by rw [HN.out]; rfl, by assumption⟩
      · have iI : ¬ (j : Int) < (m : Int) := by omega
        have HP := Lib.hid (HGOOD.out (fun i x hx => hal.out i x hx (by have := (List.getElem?_eq_some_iff.1 hx).1; rw [HM.out] at this; omega)))
        go_wp2_with fail
        go_ret
        exact ⟨by rw [HP.out]; rfl, hbw⟩
end Go.Proofs.YtpneoaehkibdeaaDoor

/-! CONTRACTS of the reference's columnAt and ColumnsFault; the walk of the law 'chirographlaw.KindsColumns'. CONDITIONS: each theorem's own hypotheses; the tables 'Tabs' and package lex's signs 'SW' hold what their initialisers lay. -/
namespace Go.Proofs.YtpneoaehkibdeaaDoor
open Go.RowKit
set_option linter.unusedVariables false
set_option maxRecDepth 100000

theorem tokC_nmK (l : List UInt8) : (tokC 1 l 0 0 == 0) = (nameB l && decide (l.length ≤ 8)) := by
  have h1 : tooL 1 l = decide (8 < l.length) := by unfold tooL; rw [if_pos (by decide)]
  have h2 : (ownT 1 l 0 0 && goodT 1 l 0 0) = nameB l := by simp [ownT, goodT]
  unfold tokC
  rw [if_neg (by decide), h1, h2]
  by_cases h : 8 < l.length
  · rw [decide_eq_true h, if_pos rfl]
    have : decide (l.length ≤ 8) = false := decide_eq_false (by omega)
    rw [this]; simp
  · have h3 : decide (l.length ≤ 8) = true := decide_eq_true (by omega)
    rw [decide_eq_false h, if_neg (by decide), h3]
    cases nameB l <;> rfl
theorem below_dqC {B : Nat} {a w : World} (h : Below B a w) : ∀ q, Below B a (w.drewN q)
  | 0 => h
  | q + 1 => (below_dqC h q).drew
set_option maxHeartbeats 4000000 in
theorem columnAt_any (l : List Cl) (ao : Option Addr) (cap : Nat) (n : List UInt8) (w : World) (hl : l.length ≤ 9223372036854775807) (hC : Cols w ao l) :
    Calls Tryd.prog 60 #[.slice ao l.length cap, .string (str n)] w fun e w' => e = .returned (.int .i64 (placeL n l l.length)) ∧ w = w' := by
  obtain ⟨P, hP⟩ : ∃ P, placeL n l l.length = P := ⟨_, rfl⟩
  rw [hP]
  have hbeq := fun c : Cl => str_beq c.n n
  obtain ⟨m, hm⟩ : ∃ m, l.length = m := ⟨_, rfl⟩
  rw [hm] at hP hl ⊢
  have HM := Lib.hid hm
  have HP := Lib.hid hP
  have HC := Lib.hid hC
  have HQ := Lib.hid hbeq
  generalize str n = N at *
  clear hP hm hC hbeq
  go_enter Tryd.func60, Tryd.ntmps60
  go_wp2_with fail
  go_loopw [5] (fun i wr => ∃ (j : Nat) (z : Int), j ≤ m ∧ i = .int .i64 z ∧ z = (j : Int) - 1 ∧ Hid (placeL n l j = P) ∧ wr = w) (fun i _ => (intOf i + 1).toNat)
  case atStart => exact ⟨m, (m : Int) - 1, Nat.le_refl _, rfl, rfl, HP, rfl⟩
  case round =>
    obtain ⟨j, z, hj, rfl, hz, hp, rfl⟩ := hrel
    cases j with
    | zero =>
      have hz0 : z = -1 := by omega
      have i0 : ¬ 0 ≤ z := by omega
      have hp2 : Hid (P = -1) := by show _ = _; rw [← hp.out]; rfl
      clear hz
      go_wp2_with fail
      go_ret
      exact ⟨by first | (rw [hp2.out]; rfl) | rw [hp2.out], by first | rfl | trivial⟩
    | succ q =>
      obtain rfl : z = (q : Int) := by omega
      have i0 : 0 ≤ (q : Int) := by omega
      have iq : (q : Int) < (m : Int) := by omega
      have hql : q < l.length := by rw [HM.out]; omega
      obtain ⟨c, hcq⟩ : ∃ c, l[q]? = some c := ⟨l[q], List.getElem?_eq_getElem hql⟩
      rcases HC.out.2 with h0 | ⟨a, o, rfl, ha, hcl⟩
      · rw [h0] at hql; simp at hql
      obtain ⟨d0, _, _⟩ := hcl q c hcq
      have hb := HQ.out c
      have e : placeL n l (q + 1) = if (l[q]?.map (fun x => x.n == n)) = some true then (q : Int) else placeL n l q := rfl
      have hp2 := hp.out
      rw [e, hcq, Option.map_some] at hp2
      cases hB : (c.n == n)
      · rw [hB] at hp2 hb
        rw [if_neg (by simp)] at hp2
        have HP2 := Lib.hid hp2
        generalize str c.n = S at *
        clear hz hcl hcq hp2 hB e hql
        go_wp2_with fail
        go_roundw
        case rel => exact ⟨q, (q : Int) - 1, by omega, rfl, rfl, HP2, by first | rfl | trivial⟩
        case measure => simp [intOf] <;> omega
      · rw [hB] at hp2 hb
        rw [if_pos rfl] at hp2
        have HP2 := Lib.hid hp2
        generalize str c.n = S at *
        clear hz hcl hcq hp2 hB e hql
        go_wp2_with fail
        go_ret
        exact ⟨by first | (rw [← HP2.out]; rfl) | rw [← HP2.out], by first | rfl | trivial⟩
set_option maxHeartbeats 8000000 in
theorem columnsFault_any (l : List Cl) (ao : Option Addr) (cap : Nat) (w : World) (hcap : l.length ≤ cap) (hl : cap ≤ 9223372036854775807) (hC : Cols w ao l) :
    Calls Tryd.prog 30 #[.slice ao l.length cap] w fun e w' => e = .returned (.int .i64 (colsR l)) ∧ Below w.heap.size w w' := by
  obtain ⟨R, hR⟩ : ∃ R, colsR l = R := ⟨_, rfl⟩
  rw [hR]
  obtain ⟨m, hm⟩ : ∃ m, l.length = m := ⟨_, rfl⟩
  by_cases h5 : 5 < m
  · have HR : Hid (R = 1) := by show _ = _; rw [← hR]; unfold colsR; rw [if_pos (by omega)]
    rw [hm] at hcap ⊢
    have i5 : (5 : Int) < (m : Int) := by omega
    clear hR hC hm h5
    go_enter Tryd.func30, Tryd.ntmps30
    go_wp2_with fail
    go_ret
    exact ⟨by rw [HR.out]; rfl, Below.refl _ _⟩
  · have i5 : ¬ (5 : Int) < (m : Int) := by omega
    have hbad := fun j c h1 h2 h3 => colsR_bad (l := l) (j := j) (c := c) (by omega) h1 h2 h3
    have hgood := fun h => colsR_good (l := l) (by omega) h
    rw [hR] at hbad hgood
    rw [hm] at hcap ⊢
    have HM := Lib.hid hm
    have HBAD := Lib.hid hbad
    have HGOOD := Lib.hid hgood
    have HC := Lib.hid hC
    have hm5 : m ≤ 5 := by omega
    clear hR hbad hgood hm hC h5
    go_enter Tryd.func30, Tryd.ntmps30
    go_wp2_with fail
    go_loopw [10] (fun i wr => ∃ j : Nat, j ≤ m ∧ i = .int .i64 j ∧ Hid (∀ (i : Nat) (x : Cl), l[i]? = some x → i < j → colF x (l.take i) = 0) ∧ Below w.heap.size w wr) (fun i _ => m - (intOf i).toNat)
    case atStart => exact ⟨0, Nat.zero_le _, rfl, Lib.hid (fun i x _ h => absurd h (Nat.not_lt_zero _)), Below.refl _ _⟩
    case round =>
      obtain ⟨j, hj, rfl, hal, hbw⟩ := hrel
      by_cases hlt : j < m
      · have iI : (j : Int) < (m : Int) := by omega
        have hjl : j < l.length := by rw [HM.out]; exact hlt
        obtain ⟨c, hcj⟩ : ∃ c, l[j]? = some c := ⟨l[j], List.getElem?_eq_getElem hjl⟩
        have hfc := HC.out.1 c (List.mem_of_getElem? hcj)
        have cA := fun W (hW : Below w.heap.size w W) => columnAt_any (l.take j) ao cap c.n W (by rw [List.length_take]; omega) ((HC.out.take j).keep hW)
        rw [show (l.take j).length = j by rw [List.length_take]; omega] at cA
        have cN := fun W => isNameRef_any c.n W hfc.n1
        rcases HC.out.2 with h0 | ⟨a, o, rfl, ha, hcl⟩
        · rw [h0] at hjl; simp at hjl
        obtain ⟨x0, x1, x2⟩ := hcl j c hcj
        have d0 := (hbw.cell (p := ⟨a, o + j * 3, none⟩) ha).trans x0
        have d1 := (hbw.cell (p := ⟨a, o + j * 3 + 1, none⟩) ha).trans x1
        have d2 := (hbw.cell (p := ⟨a, o + j * 3 + 2, none⟩) ha).trans x2
        have hbd := fun (h : colF c (l.take j) ≠ 0) => HBAD.out j c hcj hal.out h
        have hgo := fun (h : colF c (l.take j) = 0) => (show ∀ (i : Nat) (x : Cl), l[i]? = some x → i < j + 1 → colF x (l.take i) = 0 from fun i x hx hi => by
          rcases Nat.lt_or_ge i j with h1 | h1
          · exact hal.out i x hx h1
          · obtain rfl : i = j := by omega
            rw [hcj] at hx; cases hx; exact h)
        have HBD := Lib.hid hbd
        have HGO := Lib.hid hgo
        have htok := tokC_nmK c.n
        have hpl := placeL_any c.n (l.take j) j (by rw [List.length_take]; omega)
        rw [List.take_take, Nat.min_self] at hpl
        have hF : colF c (l.take j) = if tokC 1 c.n 0 0 ≠ 0 then 3 else if c.k < 1 ∨ 4 < c.k then 2 else if (l.take j).any (fun x => x.n == c.n) = true then 8 else 0 := rfl
        have hk0 := hfc.k0
        have hk1 := hfc.k1
        have hsz := str_size c.n
        have hn1 := hfc.n1
        clear hbd hgo hcl hcj hjl x0 x1 x2 hal hfc
        generalize (l.take j).any (fun x => x.n == c.n) = A at *
        generalize placeL c.n (l.take j) j = P at *
        generalize colF c (l.take j) = Z at *
        generalize tokC 1 c.n 0 0 = Y at *
        generalize nameB c.n = BN at *
        obtain ⟨n, k, nl⟩ := c
        simp only at d0 d1 d2 cA cN hF hk0 hk1 hsz hn1 htok
        obtain ⟨nn, hnn⟩ : ∃ nn, n.length = nn := ⟨_, rfl⟩
        rw [hnn] at hsz hn1 htok
        generalize str n = N at *
        have hszI : (N.size : Int) = (nn : Int) := by omega
        clear hsz hnn
        obtain ⟨wa, hwa⟩ : ∃ wa, wr.alloc (.cells #[.string N, .int .i64 k, .bool nl] 67) = wa := ⟨_, rfl⟩
        have hbA : Below w.heap.size w wa := by rw [← hwa]; exact hbw.alloc hbw.size _
        have zT : Blk wa wr.heap.size 67 [.string N, .int .i64 k, .bool nl] := by rw [← hwa]; exact Blk.new wr #[.string N, .int .i64 k, .bool nl] _
        have cA2 := fun q => cA (wa.drewN q) (below_dqC hbA q)
        have cN2 := cN wa
        clear cA cN
        have HF := Lib.hid hF
        clear hF
        go_upto_region 6 with fail
        try rw [hwa]
        clear hwa d0 d1 d2 hbw
        generalize wr.heap.size = g at *
        have p0 := zT.cell (j := 0) rfl
        have p1 := zT.cell (j := 1) rfl
        have p2 := zT.cell (j := 2) rfl
        have jc : (j : Int) ≤ (cap : Int) := by omega
        cases BN
        · -- no name
          have hZ : Z = 3 := by
            rw [HF.out, if_pos]
            intro h; rw [h] at htok; simp at htok
          have HN := Lib.hid (HBD.out (by rw [hZ]; decide))
          subst hZ
          clear HBD HGO HF htok hpl cA2
          go_wp2_with fail
          refine cN2.mono ?_
          rintro e w2 ⟨rfl, hw2⟩
          subst hw2
          clear cN2
          go_wp2_with fail
          go_ret
          exact ⟨by rw [HN.out]; rfl, hbA⟩
        · by_cases h8 : nn ≤ 8
          · have hY : Y = 0 := by rw [decide_eq_true h8] at htok; simpa using htok
            have i8 : decide (8 < (nn : Int)) = false := decide_eq_false (by omega)
            have hF2 : Z = if k < 1 ∨ 4 < k then 2 else if A = true then 8 else 0 := by rw [HF.out, if_neg (by rw [hY]; simp)]
            clear HF htok h8
            by_cases hk : k < 1 ∨ 4 < k
            · rw [if_pos hk] at hF2
              have HN := Lib.hid (HBD.out (by rw [hF2]; decide))
              have e1 : (k == 1) = false := by simpa using (show k ≠ 1 by omega)
              have e2 : (k == 2) = false := by simpa using (show k ≠ 2 by omega)
              have e3 : (k == 3) = false := by simpa using (show k ≠ 3 by omega)
              have e4 : (k == 4) = false := by simpa using (show k ≠ 4 by omega)
              have g1 : ¬ k = 1 := by omega
              have g2 : ¬ k = 2 := by omega
              have g3 : ¬ k = 3 := by omega
              have g4 : ¬ k = 4 := by omega
              have f1 : (k != 1) = true := by simpa using g1
              have f2 : (k != 2) = true := by simpa using g2
              have f3 : (k != 3) = true := by simpa using g3
              have f4 : (k != 4) = true := by simpa using g4
              subst hF2
              clear HBD HGO hpl cA2 hk
              go_wp2_with fail
              refine cN2.mono ?_
              rintro e w2 ⟨rfl, hw2⟩
              subst hw2
              clear cN2
              go_wp2_with fail
              go_ret
              exact ⟨by rw [HN.out]; rfl, hbA⟩
            · rw [if_neg hk] at hF2
              have hk4 : k = 1 ∨ k = 2 ∨ k = 3 ∨ k = 4 := by omega
              clear hk
              cases A
              · have hP : ¬ 0 ≤ P := fun h => by have := hpl.1 h; cases this
                have HN := Lib.hid (HGO.out (by rw [hF2]; rfl))
                clear HBD HGO hF2 hpl
                rcases hk4 with rfl | rfl | rfl | rfl
                all_goals
                  go_wp2_with fail
                  refine cN2.mono ?_
                  rintro e w2 ⟨rfl, hw2⟩
                  subst hw2
                  clear cN2
                  go_upto_region 10 with fail
                  go_quiet ((go_at_call 60; exact (cA2 _).mono fun e w' h => ⟨h.1, _, h.2.symm⟩))
                  go_wp2_with fail
                  go_roundw
                  case rel => exact ⟨j + 1, by omega, by go_num, HN, below_dqC hbA _⟩
                  case measure => simp [intOf]; omega
              · have hP : 0 ≤ P := hpl.2 rfl
                have hZ : Z = 8 := by rw [hF2]; rfl
                have HN := Lib.hid (HBD.out (by rw [hZ]; decide))
                subst hZ
                clear HBD HGO hF2 hpl
                rcases hk4 with rfl | rfl | rfl | rfl
                all_goals
                  go_wp2_with fail
                  refine cN2.mono ?_
                  rintro e w2 ⟨rfl, hw2⟩
                  subst hw2
                  clear cN2
                  go_upto_region 10 with fail
                  go_quiet ((go_at_call 60; exact (cA2 _).mono fun e w' h => ⟨h.1, _, h.2.symm⟩))
                  go_wp2_with fail
                  go_ret
                  exact ⟨by rw [HN.out]; rfl, below_dqC hbA _⟩
          · have i8 : decide (8 < (nn : Int)) = true := decide_eq_true (by omega)
            have hZ : Z = 3 := by
              rw [HF.out, if_pos]
              intro h; rw [h, decide_eq_false h8] at htok; simp at htok
            have HN := Lib.hid (HBD.out (by rw [hZ]; decide))
            subst hZ
            clear HBD HGO HF htok hpl cA2
            go_wp2_with fail
            refine cN2.mono ?_
            rintro e w2 ⟨rfl, hw2⟩
            subst hw2
            clear cN2
            go_wp2_with fail
            go_ret
            exact ⟨by rw [HN.out]; rfl, hbA⟩
      · have iI : ¬ (j : Int) < (m : Int) := by omega
        have HP := Lib.hid (HGOOD.out (fun i x hx => hal.out i x hx (by have := (List.getElem?_eq_some_iff.1 hx).1; rw [HM.out] at this; omega)))
        go_wp2_with fail
        go_ret
        exact ⟨by rw [HP.out]; rfl, hbw⟩
end Go.Proofs.YtpneoaehkibdeaaDoor
