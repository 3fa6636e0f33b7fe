/-
  CONTRACT of package slots' levels: the walk.
  CONDITIONS: package sum's roundWords hold what their initialiser lays ('KW').
-/
import Derived.Test.YtdpfjhhcgaeiiabDoorSlotE
namespace Go.Proofs.YtdpfjhhcgaeiiabDoor
open Go.RowKit CodeMath Go.Proofs.YtdpfjhhcgaeiiabDoor.FrameMath
set_option linter.unusedVariables false
set_option maxRecDepth 100000

theorem tower_tail (m : Int) (h : Nat) (rows : List (List UInt8)) : tower m h rows = rows :: (tower m h rows).tail := by
  cases h <;> rfl
set_option maxHeartbeats 4000000 in
theorem levels_any (m : Int) (l : List Sl) (ao : Option Addr) (cap : Nat) (w : World) (m0 : -9223372036854775808 ≤ m) (m1 : m ≤ 9223372036854775807) (hc : l.length ≤ cap) (hq : cap ≤ 9223372036854775807) (hS : Slots w ao l) (hT : KW w) (h : Nat) (hh : isPow l.length = true → l.length = 2 ^ h) :
    Calls Tryd.prog 30 #[.int .i64 m, .slice ao l.length cap] w (TreePost m h (levelsR m l) w) := by
  have cM := fun W => mode_any m W m0 m1
  have cN := fun W => isNumber_any (l.length : Int) (by omega) (by omega) W
  have hBB := Below.refl w.heap.size w
  obtain ⟨R, hR⟩ : ∃ R, levelsR m l = R := ⟨_, rfl⟩
  rw [hR]
  unfold levelsR at hR
  cases hm : isMode m with
  | false =>
    rw [if_pos hm] at hR
    subst hR
    rw [hm] at cM
    clear hm cN hh hc
    generalize l.length = n
    go_enter Tryd.func30, Tryd.ntmps30
    go_wp2_with fail
    refine (cM _).mono ?_
    rintro e w1 ⟨rfl, rfl⟩
    go_wp2_with fail
    go_ret2
    exact ⟨rfl, hBB⟩
  | true =>
    rw [if_neg (by rw [hm]; decide)] at hR
    rw [hm] at cM
    cases hp : isPow l.length with
    | false =>
      rw [if_pos hp] at hR
      subst hR
      rw [hp] at cN
      clear hm hh hc hp
      generalize l.length = n at *
      go_enter Tryd.func30, Tryd.ntmps30
      go_wp2_with fail
      refine (cM _).mono ?_
      rintro e w1 ⟨rfl, rfl⟩
      go_wp2_with fail
      refine (cN _).mono ?_
      rintro e w1 ⟨rfl, rfl⟩
      go_wp2_with fail
      go_ret2
      exact ⟨rfl, hBB⟩
    | true =>
      rw [if_neg (by rw [hp]; decide)] at hR
      rw [hp] at cN
      have hlh := hh hp
      obtain ⟨k, hk6, hk⟩ := pow_of hp
      have hl64 : l.length ≤ 64 := by rw [hk]; exact Nat.pow_le_pow_right (by decide) hk6
      have hh6 : h ≤ 6 := by
        rcases Nat.lt_or_ge 6 h with h7 | h7
        · exfalso
          have h8 : 2 ^ 7 ≤ 2 ^ h := Nat.pow_le_pow_right (by decide) h7
          have e7 : 2 ^ 7 = 128 := by decide
          omega
        · exact h7
      have cL := leaves_any m l ao cap w m0 m1 hc hq hl64 hS hT
      rw [hR] at cL
      cases R with
      | err q =>
        have q0 := leavesR_ne m l q hR
        clear hm hh hc hp hR hlh hk hl64
        generalize l.length = n at *
        go_enter Tryd.func30, Tryd.ntmps30
        go_wp2_with fail
        refine (cM _).mono ?_
        rintro e w1 ⟨rfl, rfl⟩
        go_wp2_with fail
        refine (cN _).mono ?_
        rintro e w1 ⟨rfl, rfl⟩
        go_wp2_with fail
        refine cL.mono ?_
        rintro e w1 ⟨rfl, hb1⟩
        clear cL cM cN
        go_wp2_with fail
        go_ret2
        exact ⟨rfl, hb1⟩
      | ok rows =>
        have hfit := Fit.leaves hR hl64
        have hrl := leavesR_length m l rows hR
        rw [← hrl] at hlh cL hl64 cN ⊢
        obtain ⟨TW, hTW⟩ : ∃ TW, tower m h rows = TW := ⟨_, rfl⟩
        have HTW := Lib.hid hTW
        have HLH := Lib.hid hlh
        have HFIT := Lib.hid hfit
        have hh6I := Lib.hid hh6
        obtain ⟨n, hn⟩ : ∃ n, rows.length = n := ⟨_, rfl⟩
        have HN := Lib.hid hn
        rw [hn] at cL cN hl64 ⊢
        clear hh hc hp hR hlh hk hrl hfit hTW hn hh6 hBB
        go_enter Tryd.func30, Tryd.ntmps30
        go_wp2_with fail
        refine (cM _).mono ?_
        rintro e w1 ⟨rfl, rfl⟩
        go_wp2_with fail
        refine (cN _).mono ?_
        rintro e w1 ⟨rfl, rfl⟩
        go_wp2_with fail
        refine cL.mono ?_
        rintro e w1 ⟨g, rfl, hg, hlv, hb1⟩
        clear cL cM cN
        go_wp2_with fail
        have hT1 := OwnT.one w1 w.heap.size g rows n HN.out hlv hb1.size
        have hlv1 := hlv.keep ((Below.refl _ _).alloc (Nat.le_refl w1.heap.size) (.cells #[.slice (some ⟨g, 0, none⟩) n n] 23))
        have hb2 := hb1.alloc hb1.size (.cells #[.slice (some ⟨g, 0, none⟩) n n] 23)
        clear hlv
        go_loopw [6, 8] (fun u6 u8 wr => ∃ (h' : Nat) (cur : List (List UInt8)) (acc : List (List (List UInt8))) (g' nn : Nat), u6 = .slice (some ⟨g', 0, none⟩) nn nn ∧ Hid (cur.length = nn) ∧ Hid (nn = 2 ^ h') ∧ Hid (Fit cur) ∧ LevB wr g' cur ∧ OwnT wr w.heap.size u8 acc ∧ Hid (acc ++ (tower m h' cur).tail = TW) ∧ Hid (acc.length + h' = h + 1) ∧ Hid (h' ≤ h) ∧ Below w.heap.size w wr) (fun u6 _ _ => lenS u6)
        case atStart => exact ⟨h, rows, [rows], g, n, rfl, HN, Lib.hid (by rw [← HN.out, HLH.out]), HFIT, hlv1, hT1, Lib.hid (by rw [List.singleton_append, ← tower_tail, HTW.out]), Lib.hid (by simp; omega), Lib.hid (Nat.le_refl _), hb2⟩
        case round =>
          obtain ⟨h', cur, acc, g', nn, rfl, hcn, hnn, hft, hlc, hot, htw, hal, hhh, hbr⟩ := hrel
          clear hlv1 hT1 hb2
          cases h' with
          | zero =>
            obtain rfl : nn = 1 := hnn.out
            have hTA : Hid (TW = acc) := by
              have := htw.out
              show _ = _
              rw [← this]
              show acc ++ [] = acc
              rw [List.append_nil]
            clear hnn hft hal hhh htw hcn hlc
            go_wp2_with fail
            go_ret2
            show TreePost m h (.ok rows) w _ _
            refine ⟨_, rfl, ?_, hbr⟩
            rw [HTW.out, hTA.out]
            exact hot
          | succ q =>
            have hq := hhh.out
            have hh := hh6I.out
            have hpw : 2 ^ (q + 1) = 2 * 2 ^ q := by rw [Nat.pow_succ, Nat.mul_comm]
            have hpp : 0 < 2 ^ q := Nat.pow_pos (by decide)
            have hp64 : 2 ^ (q + 1) ≤ 2 ^ 6 := Nat.pow_le_pow_right (by decide) (by omega)
            have e6 : 2 ^ 6 = 64 := by decide
            have hnv := hnn.out
            obtain ⟨k2, hk2⟩ : ∃ k2, 2 ^ q = k2 := ⟨_, rfl⟩
            have hnn2 : nn = 2 * k2 := by omega
            have hk1 : 0 < k2 := by omega
            have hk32 : k2 ≤ 32 := by omega
            have cU := nodes_any m hm m0 m1 cur (some ⟨g', 0, none⟩) nn wr (by rw [hcn.out]; omega) hft.out.max hlc.lines (hT.keep hbr (Nat.le_refl _))
            rw [hcn.out, show nn / 2 = k2 by omega] at cU
            have hup := up_length m cur
            rw [hcn.out, show nn / 2 = k2 by omega] at hup
            have HUP := Lib.hid hup
            have HK := Lib.hid hk2.symm
            have HF := Lib.hid (Fit.up (m := m) hft.out k2 (by rw [hcn.out, hnn2]))
            have HTW2 : Hid ((acc ++ [up m cur]) ++ (tower m q (up m cur)).tail = TW) := by
              have := htw.out
              show _ = _
              rw [← this, List.append_assoc, List.singleton_append, ← tower_tail]
              rfl
            have HAL2 : Hid ((acc ++ [up m cur]).length + q = h + 1) := by have := hal.out; show _ = _; rw [List.length_append]; simp; omega
            have HQH : Hid (q ≤ h) := Nat.le_trans (Nat.le_succ q) hq
            have hac : acc.length ≤ 1000000 := by have := hal.out; omega
            generalize up m cur = UP at *
            have nI : (1 : Int) < nn := by omega
            have HN2 := Lib.hid hnn2
            have HK1 := Lib.hid hk1
            clear hnn hft hal hhh htw hcn hlc hpw hpp hp64 e6 hk2 hup hq hh hnv hnn2 hk1 hk32
            go_wp2_with fail
            refine cU.mono ?_
            rintro e w2 ⟨g2, rfl, hg2, hl2, hb3⟩
            have hbb := below_step hbr hbr.size hb3
            have hot2 := hot.keep hb3
            have hs2 := hbb.size
            clear cU hot hb3 hbr hg2
            go_wp2_with (first
              | (at_builtin; refine wpList_append_level rfl _ _ rfl w.heap.size _ _ rfl hot2 g2 UP k2 _ HUP.out rfl rfl hl2 hac hs2 ?_; intro v5 w5 ho5 hl5 hb5)
              | fail)
            go_roundw
            case rel => exact ⟨q, UP, _, g2, k2, rfl, HUP, HK, HF, hl5, ho5, HTW2, HAL2, HQH, hbb.trans hb5⟩
            case measure => have := HN2.out; have := HK1.out; simp [lenS]; omega
end Go.Proofs.YtdpfjhhcgaeiiabDoor
