/-
  CONTRACT of the reference's skip.
  CONDITIONS: each theorem's own hypotheses.
-/
import Derived.Test.YtncllcfdmiaopaaGreatDoorCutA
namespace Go.Proofs.YtncllcfdmiaopaaGreatDoor
open Go.RowKit
set_option linter.unusedVariables false
set_option maxRecDepth 100000

theorem rem_none (l : List UInt8) (h : Lib.hasPrefix l [45, 45] = false) : remL l = 0 := by unfold remL; rw [if_neg (by simp [h])]
theorem rem_some (l : List UInt8) (h : Lib.hasPrefix l [45, 45] = true) : remL l = (l.takeWhile notNl).length := by unfold remL; rw [if_pos h]
theorem rem_pos (l : List UInt8) (h : Lib.hasPrefix l [45, 45] = true) : 2 ≤ remL l := by
  rw [rem_some l h]
  match l, h with
  | [], h => cases h
  | [a], h => simp [Lib.hasPrefix] at h
  | a :: b :: l, h =>
    have h1 := Lib.hasPrefix_of_take (a :: b :: l) [45, 45]
    rw [h] at h1
    simp at h1
    obtain ⟨rfl, rfl⟩ := h1
    have e : notNl 45 = true := by decide
    rw [List.takeWhile_cons_of_pos e, List.takeWhile_cons_of_pos e]
    simp
theorem tw_ge (p : UInt8 → Bool) : ∀ (l : List UInt8) (m : Nat), (l.take m).all p = true → m ≤ l.length → m ≤ (l.takeWhile p).length
  | l, 0, _, _ => Nat.zero_le _
  | [], m + 1, _, h => by simp at h
  | c :: l, m + 1, h, hm => by
    simp only [List.take_succ_cons, List.all_cons, Bool.and_eq_true] at h
    rw [List.takeWhile_cons_of_pos h.1]
    have := tw_ge p l m h.2 (by simpa using hm)
    simp; omega
set_option maxHeartbeats 4000000 in
theorem skip_any (l : List UInt8) (w : World) (hl : l.length ≤ 4611686018427387904) :
    Calls Tryz.prog 22 #[.string (str l)] w fun e w' => e = .returned (.int .i64 (gapR l : Nat)) ∧ w = w' := by
  have cB := fun t W => reach_any (l.drop t) [32, 9, 10] W (by rw [List.length_drop]; omega) (by decide)
  rw [show ([32, 9, 10] : List UInt8).contains = isBl from funext blanks_has] at cB
  have hcut := fun (t : Nat) (h : t ≤ l.length) W => drop_str l t (t : Int) rfl h W
  have hcut2 := fun (t : Nat) (x y : Int) (hx : x = (t : Int)) (hy : y = ((t + 2 : Nat) : Int)) (h : t + 2 ≤ l.length) W => cut_str l t (t + 2) x y hx hy (by omega) h W
  have hsz := str_size l
  obtain ⟨G, hG⟩ : ∃ G, gapR l = G := ⟨_, rfl⟩
  rw [hG]
  obtain ⟨n, hn⟩ : ∃ n, l.length = n := ⟨_, rfl⟩
  rw [hn] at hcut hcut2 hl hsz
  have HG0 : Hid (G = 0 + gapR (l.drop 0)) := Lib.hid (by rw [List.drop_zero, hG]; simp)
  have HN := Lib.hid hn
  obtain ⟨s, hs⟩ : ∃ s, str l = s := ⟨_, rfl⟩
  rw [hs] at hcut hcut2 hsz ⊢
  have hget : ∀ j (h : j < s.size) (h' : j < l.length), s[j] = l[j] := by subst hs; exact fun j h h' => rfl
  have CB := Lib.hid cB
  have HC := Lib.hid hcut
  have HC2 := Lib.hid hcut2
  have HG := Lib.hid hget
  have HSZ := Lib.hid hsz
  have hsb : (s.size : Int) ≤ 4611686018427387904 := by omega
  clear hG hn cB hcut hcut2 hget hs hsz
  go_enter Tryz.func22, Tryz.ntmps22
  go_wp2
  go_loopw [3] (fun i wr => ∃ t : Nat, t ≤ n ∧ i = .int .i64 t ∧ Hid (G = t + gapR (l.drop t)) ∧ wr = w) (fun i _ => n - (intOf i).toNat)
  case atStart => exact ⟨0, Nat.zero_le _, rfl, HG0, rfl⟩
  case round =>
    obtain ⟨t, ht, rfl, hA, hw⟩ := hrel
    clear HG0
    subst hw
    have hdl : (l.drop t).length = n - t := by rw [List.length_drop, HN.out]
    by_cases hlt : t < n
    · have i0 : (t : Int) < (s.size : Int) := by have := HSZ.out; omega
      have q1 := HC.out t ht
      have cb := CB.out t wr
      have hble := blanks_le (l.drop t)
      rw [hdl] at hble
      have hbl : ((l.drop t).takeWhile isBl).length = blanks (l.drop t) := rfl
      rw [hbl] at cb
      have hstep := gapR_step (l.drop t)
      have hs0 : stepG (l.drop t) = if 0 < blanks (l.drop t) then blanks (l.drop t) else remL (l.drop t) := rfl
      by_cases ha : 0 < blanks (l.drop t)
      · rw [if_pos ha] at hs0
        rw [hs0, if_neg (by omega), List.drop_drop] at hstep
        have HE : Hid (G = (t + blanks (l.drop t)) + gapR (l.drop (t + blanks (l.drop t)))) := by show _ = _; have := hA.out; omega
        generalize blanks (l.drop t) = a at *
        generalize str (l.drop t) = s1 at *
        have ia : (0 : Int) < (a : Int) := by omega
        clear hbl hstep hs0 CB HC HC2 HG hA hdl
        go_wp2_with fail
        refine cb.mono ?_
        rintro e w1 ⟨rfl, rfl⟩
        clear cb
        go_wp2_with fail
        go_roundw
        case rel => exact ⟨t + a, by omega, by go_num, HE, by first | rfl | trivial⟩
        case measure => simp [intOf]; omega
      · rw [if_neg ha] at hs0
        rw [hs0] at hstep
        have ia : ¬ (0 : Int) < ((blanks (l.drop t) : Nat) : Int) := by omega
        have hpre := Lib.hasPrefix_of_take (l.drop t) [45, 45]
        cases hp : Lib.hasPrefix (l.drop t) [45, 45] with
        | false =>
          rw [rem_none _ hp, if_pos rfl] at hstep
          have HE : Hid (G = t) := by show _ = _; have := hA.out; omega
          generalize blanks (l.drop t) = a at *
          by_cases h2 : n - t < 2
          · have i2 : (s.size : Int) - (t : Int) < 2 := by have := HSZ.out; omega
            generalize str (l.drop t) = s1 at *
            clear hbl hstep hs0 CB HC HC2 HG hA hdl hpre hp h2
            go_wp2_with fail
            refine cb.mono ?_
            rintro e w1 ⟨rfl, rfl⟩
            clear cb
            go_wp2_with fail
            go_ret
            exact ⟨by rw [HE.out]; rfl, by first | rfl | trivial⟩
          · have i2 : ¬ (s.size : Int) - (t : Int) < 2 := by have := HSZ.out; omega
            have q2 := HC2.out t (t : Int) ((t : Int) + 2) rfl (by omega) (by omega)
            have hne : ((str (((l.drop t).take (t + 2 - t)))).toList == [45, 45]) = false := by
              rw [str_toList, show t + 2 - t = 2 by omega]
              rw [hp] at hpre
              simp only [List.length_cons, List.length_nil, Nat.zero_add, Bool.and_eq_false_iff, decide_eq_false_iff_not] at hpre
              rcases hpre with h | h
              · omega
              · exact h
            generalize str (l.drop t) = s1 at *
            generalize str ((l.drop t).take (t + 2 - t)) = s2 at *
            have e9 : (s2.toList != [45, 45]) = true := by simp only [bne]; rw [hne]; rfl
            clear hbl hstep hs0 CB HC HC2 HG hA hdl hpre hp h2
            go_wp2_with fail
            refine cb.mono ?_
            rintro e w1 ⟨rfl, rfl⟩
            clear cb
            go_wp2_with fail
            go_ret
            exact ⟨by rw [HE.out]; rfl, by first | rfl | trivial⟩
        | true =>
          have hrp := rem_pos _ hp
          have hrle := remL_le (l.drop t)
          have hrs := rem_some _ hp
          rw [if_neg (by omega), List.drop_drop] at hstep
          have HE : Hid (G = (t + remL (l.drop t)) + gapR (l.drop (t + remL (l.drop t)))) := by show _ = _; have := hA.out; omega
          have h2 : t + 2 ≤ n := by rw [hp] at hpre; simp at hpre; omega
          have i2 : ¬ (s.size : Int) - (t : Int) < 2 := by have := HSZ.out; omega
          have q2 := HC2.out t (t : Int) ((t : Int) + 2) rfl (by omega) (by omega)
          have hne : ((str (((l.drop t).take (t + 2 - t)))).toList == [45, 45]) = true := by
            rw [str_toList, show t + 2 - t = 2 by omega]
            rw [hp] at hpre
            simp only [Bool.and_eq_true] at hpre
            exact hpre.2
          rw [hdl] at hrle
          have HRS := Lib.hid hrs
          generalize remL (l.drop t) = r at *
          generalize blanks (l.drop t) = a at *
          generalize str (l.drop t) = s1 at *
          generalize str ((l.drop t).take (t + 2 - t)) = s2 at *
          have e9 : (s2.toList != [45, 45]) = false := by simp only [bne]; rw [hne]; rfl
          clear hbl hstep hs0 CB HC HC2 hA hdl hpre hp hrs
          go_wp2_with fail
          refine cb.mono ?_
          rintro e w1 ⟨rfl, rfl⟩
          clear cb
          go_wp2_with fail
          obtain ⟨w9, hw9⟩ : ∃ w9, w9 = wr := ⟨_, rfl⟩
          go_loopw [3] (fun i wr2 => ∃ j : Nat, t ≤ j ∧ j ≤ t + r ∧ i = .int .i64 j ∧ Hid (((l.drop t).take (j - t)).all notNl = true) ∧ wr2 = w9) (fun i _ => t + r - (intOf i).toNat)
          case atStart => exact ⟨t, Nat.le_refl _, by omega, rfl, Lib.hid (by simp), hw9.symm⟩
          case round =>
            obtain ⟨j, hj1, hj2, rfl, hJ, rfl⟩ := hrel
            have hdl : (l.drop t).length = n - t := by rw [List.length_drop, HN.out]
            by_cases hjn : j < n
            · have hjs : j < s.size := by rw [HSZ.out]; exact hjn
              have ij : (j : Int) < (s.size : Int) := by omega
              have hjl : j < l.length := by rw [HN.out]; exact hjn
              have hg := HG.out j hjs hjl
              have hdj : (l.drop t)[j - t]'(by omega) = s[j] := by rw [hg, List.getElem_drop]; congr 1; omega
              by_cases hc : s[j] = 10
              · have hr : r = j - t := by
                  have h1 := takeWhile_at notNl (l.drop t) (j - t) hJ.out (fun h => by rw [hdj, hc]; decide)
                  have h3 := HRS.out
                  rw [h1, List.length_take] at h3
                  omega
                have hE2 : t + r = j := by omega
                have htj : t < j := by omega
                have hq : ((s[j].toNat : Int) != 10) = false := by rw [hc]; rfl
                rw [hE2] at HE
                clear hdj hg hc hjl hr hJ hdl HRS hj2 hE2
                go_wp2_with fail
                go_roundw
                case rel => exact ⟨j, by omega, rfl, HE, by first | rfl | trivial | exact hw9 | exact hw9.symm⟩
                case measure => simp [intOf]; omega
              · have hq : ((s[j].toNat : Int) != 10) = true := by
                  simp only [bne_iff_ne, ne_eq]
                  intro e
                  exact hc (UInt8.toNat_inj.1 (by simpa using (by omega : s[j].toNat = 10)))
                have hJ2 : ((l.drop t).take (j + 1 - t)).all notNl = true := by
                  rw [show j + 1 - t = j - t + 1 by omega]
                  refine all_take_succ notNl _ _ (by omega) hJ.out ?_
                  rw [hdj]
                  unfold notNl
                  have : s[j].toNat ≠ 10 := fun e => hc (UInt8.toNat_inj.1 (by simpa using e))
                  simp [this]
                have hge := tw_ge notNl (l.drop t) (j + 1 - t) hJ2 (by omega)
                rw [← HRS.out] at hge
                have HJ2 := Lib.hid hJ2
                clear hdj hg hc hjl hJ hJ2 hdl HRS HE
                go_wp2_with fail
                go_roundw
                case rel => exact ⟨j + 1, by omega, by omega, by go_num, HJ2, by first | rfl | trivial | exact hw9 | exact hw9.symm⟩
                case measure => simp [intOf]; omega
            · have hr : r = j - t := by
                have h1 := takeWhile_at notNl (l.drop t) (j - t) hJ.out (fun h => by omega)
                have h3 := HRS.out
                rw [h1, List.length_take] at h3
                omega
              have ij : ¬ (j : Int) < (s.size : Int) := by have := HSZ.out; omega
              have hE2 : t + r = j := by omega
              have htj : t < j := by omega
              have hjn2 : j ≤ n := by omega
              rw [hE2] at HE
              clear hJ hdl HRS hj2 hE2 hr
              go_wp2_with fail
              go_roundw
              case rel => exact ⟨j, by omega, rfl, HE, by first | rfl | trivial | exact hw9 | exact hw9.symm⟩
              case measure => simp [intOf]; omega
    · have i0 : ¬ (t : Int) < (s.size : Int) := by have := HSZ.out; omega
      have HE : Hid (G = t) := by
        show _ = _
        have := hA.out
        rw [show l.drop t = [] from List.drop_of_length_le (by rw [HN.out]; omega)] at this
        rw [this]; rfl
      clear hA CB HC HC2 HG
      go_wp2_with fail
      go_ret
      exact ⟨by rw [HE.out]; rfl, by first | rfl | trivial⟩
end Go.Proofs.YtncllcfdmiaopaaGreatDoor
