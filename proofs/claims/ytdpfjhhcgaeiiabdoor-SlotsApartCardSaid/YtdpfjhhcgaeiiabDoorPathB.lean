/-
  CONTRACT of package slots' Path.
  CONDITIONS: package sum's roundWords hold what their initialiser lays ('KW').
-/
import Derived.Test.YtdpfjhhcgaeiiabDoorPathA
import Derived.Test.YtdpfjhhcgaeiiabDoorPlace
namespace Go.Proofs.YtdpfjhhcgaeiiabDoor
open Go.RowKit CodeMath Go.Proofs.YtdpfjhhcgaeiiabDoor.FrameMath
set_option linter.unusedVariables false
set_option maxRecDepth 100000

set_option maxHeartbeats 4000000 in
theorem Path_any (m : Int) (l : List Sl) (ao : Option Addr) (cap : Nat) (i : Int) (w : World) (m0 : -9223372036854775808 ≤ m) (m1 : m ≤ 9223372036854775807) (hc : l.length ≤ cap) (hq : cap ≤ 9223372036854775807) (i0 : -9223372036854775808 ≤ i) (i1 : i ≤ 9223372036854775807) (hS : Slots w ao l) (hT : KW w) (h : Nat) (h6 : h ≤ 6) (hh : isPow l.length = true → l.length = 2 ^ h) :
    Calls Tryd.prog 22 #[.int .i64 m, .slice ao l.length cap, .int .i64 i] w (LinesPost (pathR m h l i) w) := by
  have cL := levels_any m l ao cap w m0 m1 hc hq hS hT h hh
  have cP := fun b hb W => isPlace_any i (l.length : Int) b hb W i0 i1
  unfold pathR
  cases hR : levelsR m l with
  | err q =>
    rw [hR] at cL
    have q0 := levelsR_ne hR
    show Calls _ _ _ _ (LinesPost (.err q) w)
    clear hh hc hR hS cP
    generalize l.length = n at *
    go_enter Tryd.func22, Tryd.ntmps22
    go_wp2_with fail
    refine cL.mono ?_
    rintro e w1 ⟨rfl, hb1⟩
    clear cL
    go_wp2_with fail
    go_ret2
    exact ⟨rfl, hb1⟩
  | ok rows =>
    rw [hR] at cL
    obtain ⟨_, hp, hlv⟩ := levelsR_ok hR
    have hrl := leavesR_length m l rows hlv
    have hlh := hh hp
    by_cases hi : 0 ≤ i ∧ i < l.length
    · have cP' := cP true (decide_eq_true hi)
      show Calls _ _ _ _ (LinesPost (if 0 ≤ i ∧ i < l.length then .ok (wayB m rows i.toNat h) else .err 6) w)
      rw [if_pos hi]
      obtain ⟨p, rfl⟩ : ∃ p : Nat, i = p := ⟨i.toNat, by omega⟩
      rw [Int.toNat_natCast]
      have hp2 : p < 2 ^ h := by omega
      have hpt := fun t ht => tower_path m h t p rows h6 ht hp2 (by rw [hrl, hlh])
      have hsl := fun t ht => sib_lt h t p h6 ht hp2
      have hss := fun t => sib_small h t p h6 hp2
      have htl := tower_length m h rows
      have hwl := wayB_length m rows p h
      have hwa := wayB_at m rows p h
      have HPT := Lib.hid hpt
      have HSL := Lib.hid hsl
      have HSS := Lib.hid hss
      have HTL := Lib.hid htl
      have HWL := Lib.hid hwl
      have HWA := Lib.hid hwa
      have hI : (h : Int) ≤ 6 := by omega
      have p64 : (p : Int) < 64 := by
        have h64 : 2 ^ h ≤ 2 ^ 6 := Nat.pow_le_pow_right (by decide) h6
        have e6 : 2 ^ 6 = 64 := by decide
        omega
      generalize wayB m rows p h = PB at *
      obtain ⟨i0', hi', hz0, hz1, hz2⟩ := info_parts infoL
      clear hh hc hR hS hp hlv hrl hpt hsl hss htl hwl hwa cP hi hlh hp2
      generalize l.length = n at *
      go_enter Tryd.func22, Tryd.ntmps22
      go_wp2_with fail
      refine cL.mono ?_
      rintro e w1 ⟨v1, rfl, hot, hb1⟩
      clear cL
      go_wp2_with fail
      refine (cP' _).mono ?_
      rintro e w2 ⟨rfl, rfl⟩
      clear cP'
      obtain ⟨us, hown, hlev⟩ := hot
      rw [HTL.out] at hown
      rcases hown.2 with ⟨_, h0⟩ | ⟨gt, ct, cur, rfl, k1, k2, k3, k4, k5, k6⟩
      · omega
      · have hcellT : Hid (∀ t u, us[t]? = some u → t < h + 1 → w1.cell? ⟨gt, t, none⟩ = some u) := fun t u hu ht => by
          rw [cell_of_block k2]
          rw [← k6, List.getElem?_take_of_lt (by omega)] at hu
          simpa using hu
        have hgt : gt < w1.heap.size := (Array.getElem?_eq_some_iff.1 k2).1
        have hI1 : (h : Int) + 1 - 1 = h := by omega
        clear hown k1 k2 k3 k4 k5 k6
        go_wp2_with (first
          | (with_reducible refine wpList_make_full _ rfl (.tmp 29) (.tmp 29) 23 rfl w1.heap.size 28 i0' (.slice none 0 0) 1 Tryd.underlying23 hi' hz0 hz1 .i64 .i64 (h : Int) (h : Int) h rfl rfl rfl rfl (by rw [hz2]; omega) (by unfold maxLen; omega) (Nat.le_refl _) ?_; intro w2 ho2 hg2)
          | fail)
        have hB2 : Below w1.heap.size w1 w2 := (Below.refl _ _).grown hg2 (Nat.le_refl _) (fun k h => by cases h)
        have hL2 := LevB.fresh ho2
        clear ho2 hg2 hi' hz0 hz1 hz2
        go_loopw [33] (fun ix wr => ∃ t : Nat, t ≤ h ∧ ix = .int .i64 t ∧ LevB wr w1.heap.size (PB.take t ++ List.replicate (h - t) []) ∧ Below w1.heap.size w1 wr) (fun ix _ => h - (intOf ix).toNat)
        case atStart => exact ⟨0, Nat.zero_le _, rfl, by simpa using hL2, hB2⟩
        case round =>
          obtain ⟨t, htn, rfl, hlv, hbr⟩ := hrel
          clear hL2 hB2
          by_cases hlt : t < h
          · have tI : (t : Int) < h := by omega
            obtain ⟨lev, hl1, hl2, hl3⟩ := HPT.out t hlt
            obtain ⟨g3, hu3, us3, b1, b2, b3⟩ := hlev t lev hl1
            obtain ⟨u, hu4, hr4⟩ := b3 _ _ hl3
            have d1 := (hbr.cell (p := ⟨gt, t, none⟩) hgt).trans (hcellT.out t _ hu3 (by omega))
            have d2 := (hbr.cell (p := ⟨g3, sib p t, none⟩) b1.lt).trans (b1.cell hu4)
            have hr5 := hr4.keep hbr
            have hfill : Hid ((PB.take t ++ List.replicate (h - t) []).set t (blockB m rows t (sib p t)) = PB.take (t + 1) ++ List.replicate (h - (t + 1)) []) := by
              show _ = _
              rw [fill_next (PB.take t) h t _ (by rw [List.length_take]; have := HWL.out; omega) hlt, take_next PB t _ (HWA.out t hlt)]
            have hlen : (PB.take t ++ List.replicate (h - t) []).length = h := by rw [List.length_append, List.length_take, List.length_replicate]; have := HWL.out; omega
            have HLT := Lib.hid hlt
            obtain ⟨⟨u0, hu0⟩, hf0⟩ := hlv.cell t (by rw [hlen]; exact hlt)
            obtain ⟨a2, n2, c2, rfl⟩ : ∃ a n k, u = .slice a n k := by obtain ⟨a, k, e, _⟩ := hr4; exact ⟨_, _, _, e⟩
            have hlv3 := hlv.set t _ _ hr5
            rw [hfill.out] at hlv3
            have hbb3 := hbr.grown (grown_set wr ⟨w1.heap.size, t, none⟩ (.slice a2 n2 c2)) hbr.size (fun k h => by cases h; exact Nat.le_refl _)
            have hsx := xor_one (p / 2 ^ t) (HSS.out t).2
            have hsl' := HSL.out t hlt
            rw [← hl2] at hsl'
            have hsI : ((sib p t : Nat) : Int) < (lev.length : Int) := by omega
            rw [show (p / 2 ^ t) ^^^ 1 = sib p t from rfl] at hsx
            have hdv : (p : Int) / 2 ^ t = ((p / 2 ^ t : Nat) : Int) := by simp
            generalize sib p t = q at *
            generalize p / 2 ^ t = pq at *
            generalize lev.length = ll at *
            generalize PB.take t ++ List.replicate (h - t) [] = RS at *
            generalize blockB m rows t q = BB at *
            clear hl1 hl2 hl3 hu3 b1 b2 b3 hu4 hr4 hr5 hlv hfill hlen hlt hsl'
            go_wp2_with fail
            go_roundw
            case rel => exact ⟨t + 1, HLT.out, by go_num, hlv3, hbb3⟩
            case measure => have := HLT.out; simp [intOf]; omega
          · have tI : ¬ (t : Int) < h := by omega
            have hie : t = h := by omega
            have hlv2 : LevB wr w1.heap.size PB := by
              rw [hie, Nat.sub_self, List.take_of_length_le (by rw [HWL.out]; exact Nat.le_refl _)] at hlv
              simpa using hlv
            have hbb := below_step hb1 hb1.size hbr
            clear hlt hie hlv
            go_wp2_with fail
            go_ret2
            exact ⟨_, _, by rw [HWL.out]; rfl, hlv2.lines, hbb⟩
    · have cP' := cP false (decide_eq_false hi)
      show Calls _ _ _ _ (LinesPost (if 0 ≤ i ∧ i < l.length then .ok (wayB m rows i.toNat h) else .err 6) w)
      rw [if_neg hi]
      clear hh hc hR hS hp hlv hrl cP hi hlh
      generalize l.length = n at *
      go_enter Tryd.func22, Tryd.ntmps22
      go_wp2_with fail
      refine cL.mono ?_
      rintro e w1 ⟨v1, rfl, hot, hb1⟩
      clear cL
      go_wp2_with fail
      refine (cP' _).mono ?_
      rintro e w2 ⟨rfl, rfl⟩
      go_wp2_with fail
      go_ret2
      exact ⟨rfl, hb1⟩
end Go.Proofs.YtdpfjhhcgaeiiabDoor
