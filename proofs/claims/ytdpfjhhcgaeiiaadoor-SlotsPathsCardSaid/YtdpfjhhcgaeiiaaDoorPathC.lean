/-
  CONTRACT of the reference's PathOf; THE WALK of the law 'chirographlaw.SlotsPaths'.
  CONDITIONS: package sum's roundWords hold what their initialiser lays ('KW').
-/
import Derived.Test.YtdpfjhhcgaeiiaaDoorPathB
import Derived.Test.YtdpfjhhcgaeiiaaDoorListsL
namespace Go.Proofs.YtdpfjhhcgaeiiaaDoor
open Go.RowKit CodeMath Go.Proofs.YtdpfjhhcgaeiiaaDoor.FrameMath
set_option linter.unusedVariables false
set_option maxRecDepth 100000

theorem sliceS_mid (ao : Option Addr) (n cap lo hi : Nat) (x y : Int) (hx : x = (lo : Int)) (hy : y = (hi : Int)) (h1 : lo ≤ hi) (h2 : hi ≤ cap) (W : World) : (Instr.slice 22 (.slice ao n cap) (some (.int .i64 x)) (some (.int .i64 y)) none).run Tryd.prog W = .ok (.slice (pieceS ao lo cap) (hi - lo) (cap - lo)) W := by
  subst hx hy
  have hs : (sizeOf (Tryd.prog.elem 22)).run Tryd.prog W = .ok 3 W := by kernel_rfl
  have h := run_slice_lh (P := Tryd.prog) W 22 ao n cap (by kernel_rfl) .i64 .i64 (lo : Int) (hi : Int) (by omega) (by omega) (by omega)
  rw [h, hs, Int.toNat_natCast, Int.toNat_natCast]
  rfl
set_option maxHeartbeats 1500000 in
theorem PathOf_any (m : Int) (l : List Sl) (ao : Option Addr) (cap : Nat) (i : Int) (w : World) (m0 : -9223372036854775808 ≤ m) (m1 : m ≤ 9223372036854775807) (hc : l.length ≤ cap) (hq : cap ≤ 9223372036854775807) (i0 : -9223372036854775808 ≤ i) (i1 : i ≤ 9223372036854775807) (hS : Slots w ao l) (h : Nat) (h6 : h ≤ 6) (hh : isPow l.length = true → l.length = 2 ^ h) :
    Calls Tryd.prog 16 #[.int .i64 m, .slice ao l.length cap, .int .i64 i] w (LinesPost (pathR m h l i) w) := by
  have cF := slotsFault_any m l ao cap w m0 m1 hc hq hS
  unfold pathR
  cases hR : levelsR m l with
  | err q =>
    rw [hR] at cF
    have q0 := levelsR_ne hR
    rw [show faultOf (.err q) = q from rfl] at cF
    show Calls _ _ _ _ (LinesPost (.err q) w)
    clear hh hc hR hS
    generalize l.length = n at *
    go_enter Tryd.func16, Tryd.ntmps16
    go_wp2_with fail
    refine cF.mono ?_
    rintro e w1 ⟨rfl, hb1⟩
    clear cF
    go_wp2_with fail
    go_ret2
    exact ⟨rfl, hb1⟩
  | ok rows =>
    rw [hR] at cF
    rw [show faultOf (.ok rows) = 0 from rfl] at cF
    obtain ⟨hm, hp, hlv⟩ := levelsR_ok hR
    have hrl := leavesR_length m l rows hlv
    have hlh := hh hp
    show Calls _ _ _ _ (LinesPost (if 0 ≤ i ∧ i < l.length then .ok (wayB m rows i.toNat h) else .err 6) w)
    by_cases hi : 0 ≤ i ∧ i < l.length
    · rw [if_pos hi]
      obtain ⟨p, rfl⟩ : ∃ p : Nat, i = p := ⟨i.toNat, by omega⟩
      rw [Int.toNat_natCast]
      have hp2 : p < 2 ^ h := by omega
      have hwl := wayB_length m rows p h
      have hwa := wayB_at m rows p h
      have hpI : (p : Int) < l.length := hi.2
      have h64 : 2 ^ h ≤ 64 := by
        have h9 : 2 ^ h ≤ 2 ^ 6 := Nat.pow_le_pow_right (by decide) h6
        have e6 : 2 ^ 6 = 64 := by decide
        omega
      have hR0 : ∀ t, t < h → ∀ W, Below w.heap.size w W → sib p t * 2 ^ t + 2 ^ t ≤ 2 ^ h ∧ Calls Tryd.prog 46 #[.int .i64 m, .slice (pieceS ao (sib p t * 2 ^ t) cap) (2 ^ t) (cap - sib p t * 2 ^ t)] W fun e w' => ∃ v, e = .returned v ∧ RowT w' v (blockB m rows t (sib p t)) ∧ Below W.heap.size W w' := fun t ht W hW => by
        have hs := sib_lt h t p h6 ht hp2
        have e : 2 ^ h = 2 ^ (h - t) * 2 ^ t := by rw [← Nat.pow_add]; congr 1; omega
        have hle : sib p t * 2 ^ t + 2 ^ t ≤ 2 ^ h := by
          have h1 := Nat.mul_le_mul_right (2 ^ t) (show sib p t + 1 ≤ 2 ^ (h - t) from hs)
          rw [Nat.add_mul, Nat.one_mul] at h1
          omega
        have hl1 : ((l.drop (sib p t * 2 ^ t)).take (2 ^ t)).length = 2 ^ t := by rw [List.length_take, List.length_drop]; omega
        have h1 := (leavesR_take m (sib p t * 2 ^ t) l rows hlv).2
        have h2 := (leavesR_take m (2 ^ t) _ _ h1).1
        have c := rootOf_any m hm m0 m1 t (by omega) _ _ (pieceS ao (sib p t * 2 ^ t) cap) (cap - sib p t * 2 ^ t) W hl1 h2 (by omega) (by omega) (((hS.keep hW).drop _ cap hc).take _)
        rw [hl1] at c
        exact ⟨hle, c⟩
      have HSS := Lib.hid (fun t => sib_small h t p h6 hp2)
      have HR0 := Lib.hid hR0
      have HWL := Lib.hid hwl
      have HWA := Lib.hid hwa
      rw [hlh] at hc hpI cF ⊢
      have HPW : Hid (∀ t, t ≤ h → (2 ^ t < 2 ^ h ↔ t < h) ∧ 2 ^ t ≤ 2 ^ h) := fun t ht => ⟨⟨fun hx => by
        rcases Nat.lt_or_ge t h with h1 | h1
        · exact h1
        · exfalso
          have := Nat.pow_le_pow_right (n := 2) (by decide) h1
          omega, fun hx => Nat.pow_lt_pow_right (by decide) hx⟩, Nat.pow_le_pow_right (by decide) ht⟩
      obtain ⟨n, hn⟩ : ∃ n, 2 ^ h = n := ⟨_, rfl⟩
      have HN := Lib.hid hn
      rw [hn] at hc hpI h64 hp2 cF ⊢
      generalize wayB m rows p h = PB at *
      have p64 : (p : Int) < 64 := by omega
      have nI : (n : Int) ≤ 64 := by omega
      have pI0 : ¬ (p : Int) < 0 := by omega
      have pI1 : ¬ (n : Int) ≤ p := by omega
      clear hh hR hS hp hlv hrl hR0 hwl hwa hi hlh hn hm
      go_enter Tryd.func16, Tryd.ntmps16
      go_wp2_with fail
      refine cF.mono ?_
      rintro e w1 ⟨rfl, hb1⟩
      clear cF
      go_wp2_with fail
      generalize Value.bool (decide ((p : Int) < 0) || decide (n ≤ p)) = vb3
      generalize Value.bool (decide ((p : Int) < 0)) = vb1
      generalize Value.bool (decide (n ≤ p)) = vb2
      go_loopw [9, 10] (fun v sz wr => ∃ (t k : Nat), t ≤ h ∧ sz = .int .i64 k ∧ Hid (2 ^ t = k) ∧ OwnL wr w.heap.size v (PB.take t) ∧ Below w.heap.size w wr) (fun _ sz _ => n - (intOf sz).toNat)
      case atStart => exact ⟨0, 1, Nat.zero_le _, rfl, Lib.hid rfl, by rw [List.take_zero]; exact OwnL.nil _ _, hb1⟩
      case round =>
        obtain ⟨t, k, htn, rfl, hk, ho, hbr⟩ := hrel
        clear hb1
        have hpw := HPW.out t htn
        rw [HN.out, hk.out] at hpw
        by_cases hlt : t < h
        · have kI : (k : Int) < n := by have := hpw.1.2 hlt; omega
          obtain ⟨hle, cR⟩ := HR0.out t hlt wr hbr
          have hss := HSS.out t
          have hpq := hss.2
          have hsx := xor_one (p / 2 ^ t) hss.2
          rw [show (p / 2 ^ t) ^^^ 1 = sib p t from rfl] at hsx
          rw [HN.out] at hle
          rw [hk.out] at hle cR hsx hpq
          have hpqI : ((p / k : Nat) : Int) < 65 := by omega
          have hsb : ((sib p t : Nat) : Int) ≤ 64 := by omega
          have hk0 : 0 < k := by rw [← hk.out]; exact Nat.pow_pos (by decide)
          have k0I : (0 : Int) < k := by omega
          have hkne : ¬ (k : Int) = 0 := by omega
          have hd1 : (p : Int).tdiv (k : Int) = ((p / k : Nat) : Int) := by
            rw [Int.tdiv_eq_ediv_of_nonneg (by omega)]
            exact (Int.natCast_ediv p k).symm
          have hnx : Hid (PB.take t ++ [blockB m rows t (sib p t)] = PB.take (t + 1)) := by
            show _ = _
            rw [take_next PB t _ (HWA.out t hlt)]
          have hk2 : Hid (2 ^ (t + 1) = k * 2) := by show _ = _; rw [Nat.pow_succ, hk.out]
          have hln : (PB.take t).length ≤ 1000000 := by rw [List.length_take]; omega
          obtain ⟨lo, hlo⟩ : ∃ lo, sib p t * k = lo := ⟨_, rfl⟩
          rw [hlo] at hle cR
          have hmul : ((sib p t : Nat) : Int) * (k : Int) = (lo : Int) := by rw [← hlo]; exact (Int.natCast_mul _ _).symm
          have s1 := fun W => sliceS_mid ao n cap lo (lo + k) (lo : Int) ((lo : Int) + (k : Int)) rfl (by omega) (by omega) (by omega) W
          rw [show lo + k - lo = k by omega] at s1
          have loI : (lo : Int) + k ≤ 64 := by omega
          have HLT := Lib.hid hlt
          have HKN := Lib.hid (show k < n by omega)
          have HK0 := Lib.hid hk0
          generalize blockB m rows t (sib p t) = BB at *
          generalize sib p t = q at *
          generalize p / k = pq at *
          generalize pieceS ao lo cap = AO at *
          generalize cap - lo = cl at *
          generalize PB.take t = PT at *
          have hs1 := hbr.size
          clear hlt hpw hk hle hss hlo hk0
          go_wp2_with fail
          refine cR.mono ?_
          rintro e w2 ⟨v2, rfl, hr2, hb2⟩
          have hbb := below_step hbr hbr.size hb2
          have ho2 := ho.keep hb2
          have hs2 := hbb.size
          obtain ⟨a2, n2, c2, rfl⟩ : ∃ a n k, v2 = .slice a n k := by obtain ⟨a, k, e, _⟩ := hr2; exact ⟨_, _, _, e⟩
          clear cR ho hb2 hbr
          go_wp2_with (first
            | (at_builtin; refine wpList_append_line rfl _ _ rfl w.heap.size _ _ rfl ho2 _ BB _ rfl rfl hr2 hln hs2 ?_; intro v5 w5 ho5 hb5)
            | fail)
          go_roundw
          case rel => exact ⟨t + 1, k * 2, HLT.out, by go_num, hk2, by rw [← hnx.out]; exact ho5, hbb.trans hb5⟩
          case measure => have := HKN.out; have := HK0.out; simp [intOf]; omega
        · have hie : t = h := by omega
          have kI : ¬ (k : Int) < n := by
            have h1 : ¬ k < n := fun hx => hlt (hpw.1.1 hx)
            omega
          rw [hie, List.take_of_length_le (by rw [HWL.out]; exact Nat.le_refl _)] at ho
          obtain ⟨a2, c2, rfl, g1, g2, g3, g4⟩ := ho.lines
          clear hlt hie hpw hk ho g1 g2 g3
          go_wp2_with fail
          go_ret2
          exact ⟨_, _, rfl, g4, hbr⟩
    · rw [if_neg hi]
      have hiI : i < 0 ∨ (¬ i < 0 ∧ (l.length : Int) ≤ i) := by omega
      clear hh hc hR hS hp hlv hrl hi hlh hm
      generalize l.length = n at *
      rcases hiI with hiI | ⟨hiI, hiJ⟩
      all_goals
        go_enter Tryd.func16, Tryd.ntmps16
        go_wp2_with fail
        refine cF.mono ?_
        rintro e w1 ⟨rfl, hb1⟩
        go_wp2_with fail
        go_ret2
        exact ⟨rfl, hb1⟩
end Go.Proofs.YtdpfjhhcgaeiiaaDoor
