/-
  CONTRACT of the reference's IncludeOf; THE WALK of the law 'chirographlaw.RollIncludes'.
  CONDITIONS: package sum's roundWords hold what their initialiser lays ('KW').
-/
import Derived.Test.YtdpfjhhcgaeiiaaDoorRollU
import Derived.Test.YtdpfjhhcgaeiiaaDoorListsL
namespace Go.Proofs.YtdpfjhhcgaeiiaaDoor
open Go.RowKit CodeMath Go.Proofs.YtdpfjhhcgaeiiaaDoor.FrameMath
set_option linter.unusedVariables false
set_option maxRecDepth 100000

theorem incP_two (m : Int) (h : Nat) (l : List (List UInt8)) (i : Nat) (h2 : 2 ≤ l.length) : incP m (h + 1) l i = if i < hf l.length then incP m h (l.take (hf l.length)) i ++ [rootL m (l.drop (hf l.length))] else incP m h (l.drop (hf l.length)) (i - hf l.length) ++ [rootL m (l.take (hf l.length))] := by
  show (if l.length ≤ 1 then [] else _) = _
  rw [if_neg (by omega)]
theorem incP_len (m : Int) : ∀ (h : Nat) (l : List (List UInt8)) (i : Nat), (incP m h l i).length ≤ h
  | 0, l, i => Nat.le_refl _
  | h + 1, l, i => by
    simp only [incP]
    split
    · simp
    · split
      · rw [List.length_append]
        have := incP_len m h (l.take (hf l.length)) i
        simp; omega
      · rw [List.length_append]
        have := incP_len m h (l.drop (hf l.length)) (i - hf l.length)
        simp; omega
set_option maxHeartbeats 8000000 in
theorem IncludeOf_any (m : Int) (l : List (List UInt8)) (ap : Option Addr) (cap : Nat) (i : Int) (w : World) (m0 : -9223372036854775808 ≤ m) (m1 : m ≤ 9223372036854775807) (hc : l.length ≤ cap) (hq : cap ≤ 9223372036854775807) (i0 : -9223372036854775808 ≤ i) (i1 : i ≤ 9223372036854775807) (hB : ∀ x ∈ l, x.length ≤ 140737488351232) (hl : Lines w ap l) :
    Calls Tryd.prog 29 #[.int .i64 m, .slice ap l.length cap, .int .i64 i] w (LinesPost (incTop m l i) w) := by
  have cF := fun W => rollFault_any m l.length ap cap W m0 m1 (by omega)
  have hBB := Below.refl w.heap.size w
  obtain ⟨FIN, hF⟩ : ∃ r, incTop m l i = r := ⟨_, rfl⟩
  rw [hF]
  unfold incTop at hF
  obtain ⟨r, hr⟩ : ∃ r, refR m l.length = r := ⟨_, rfl⟩
  rw [hr] at cF hF
  by_cases h0 : r = 0
  · subst h0
    rw [if_neg (by decide)] at hF
    obtain ⟨hm, hn0, hn64⟩ := refR_zero hr
    have h64 : l.length ≤ 64 := by omega
    have cR := rollOf_any m hm m0 m1 l ap cap w h64 hc hq hB hl
    by_cases hi : 0 ≤ i ∧ i < l.length
    · rw [if_neg (by simpa using hi)] at hF
      obtain ⟨p, rfl⟩ : ∃ p : Nat, i = p := ⟨i.toNat, by omega⟩
      rw [Int.toNat_natCast] at hF
      have hpI0 : ¬ (p : Int) < 0 := by omega
      have hpI1 : ¬ (l.length : Int) ≤ (p : Int) := by omega
      cases hR : rollR m l with
      | err c =>
        have c0 := rollR_ne m _ l c (Nat.le_refl _) hR
        rw [hR] at hF cR
        simp only at hF
        subst hF
        generalize l.length = n at *
        clear hr hB hc hq hn0 hn64 hm hi h64 hR hl
        go_enter Tryd.func29, Tryd.ntmps29
        go_wp2_with fail
        refine (cF _).mono ?_
        rintro ex w1 ⟨rfl, rfl⟩
        clear cF
        go_wp2_with fail
        refine cR.mono ?_
        rintro ex w2 ⟨rfl, hb2⟩
        clear cR
        go_wp2_with fail
        go_ret2
        exact ⟨rfl, hb2⟩
      | ok z =>
        rw [hR] at hF cR
        simp only at hF
        subst hF
        have h6 : l.length ≤ 2 ^ 6 := h64
        have hpl : p < l.length := by omega
        obtain ⟨PP, hPP⟩ : ∃ P, incP m 6 l p = P := ⟨_, rfl⟩
        have HPP := Lib.hid hPP
        have hPl := incP_len m 6 l p
        rw [hPP] at hPl ⊢
        have HPL := Lib.hid hPl
        obtain ⟨n, hn⟩ : ∃ n, l.length = n := ⟨_, rfl⟩
        have HN := Lib.hid hn
        have HALL := Lib.hid (And.intro h6 (And.intro hpl (And.intro h64 (And.intro hc (And.intro hq hB)))))
        have HM := Lib.hid hm
        have HZ := Lib.hid hR
        rw [hn] at cF cR hpI1 ⊢
        clear hr hB hc hq hn0 hn64 hm hi h64 hR h6 hpl hn hPP hPl
        go_enter Tryd.func29, Tryd.ntmps29
        go_wp2_with fail
        refine (cF _).mono ?_
        rintro ex w1 ⟨rfl, rfl⟩
        clear cF
        go_wp2_with fail
        refine cR.mono ?_
        rintro ex w2 ⟨v2, rfl, hr2, hb2⟩
        obtain ⟨a2, k2, rfl, -⟩ := id hr2
        clear cR hr2
        go_wp2_with fail
        go_loopw [1, 2, 11] (fun ul ui ud wr => ∃ (h : Nat) (cur : List (List UInt8)) (j : Nat) (a : Option Addr) (L c : Nat) (acc : List (List UInt8)), ul = .slice a L c ∧ Hid (cur.length = L) ∧ Hid (L ≤ c ∧ c ≤ 9223372036854775807) ∧ ui = .int .i64 (j : Int) ∧ Hid (j < L) ∧ Hid (L ≤ 2 ^ h) ∧ Hid (L ≤ 64) ∧ Hid (∀ x ∈ cur, x.length ≤ 140737488351232) ∧ Hid (∃ z, rollR m cur = .ok z) ∧ Hid (Lines w a cur) ∧ OwnL wr w.heap.size ud acc ∧ Hid (incP m h cur j ++ acc.reverse = PP) ∧ Below w.heap.size w wr) (fun ul _ _ _ => lenS ul)
        case atStart => exact ⟨6, l, p, ap, n, cap, [], rfl, HN, Lib.hid ⟨by have := HALL.out.2.2.2.1; have := HN.out; omega, HALL.out.2.2.2.2.1⟩, rfl, Lib.hid (by have := HALL.out; have := HN.out; show p < n; omega), Lib.hid (by have := HALL.out; have := HN.out; show n ≤ 64; omega), Lib.hid (by have := HALL.out; have := HN.out; show n ≤ 64; omega), Lib.hid HALL.out.2.2.2.2.2, Lib.hid ⟨z, HZ.out⟩, Lib.hid hl, OwnL.nil _ _, Lib.hid (by simp; exact HPP.out), hb2⟩
        case round =>
          obtain ⟨h, cur, j, a, L, c, acc, rfl, hL, hLc, rfl, hj, hLh, hL64, hBc, hzc, hlc, hoc, hpc, hbr⟩ := hrel
          clear hb2
          by_cases h2 : 2 ≤ L
          · cases h with
            | zero => have := hLh.out; simp at this; omega
            | succ h =>
              have hcl := hL.out
              obtain ⟨k0, k1, k2⟩ := hf_lt h2
              obtain ⟨z1, z2⟩ := parts_ok (m := m) (e := 0) (l := cur) (by omega) (.inr hzc.out)
              have hfu := hf_fuel h2 hLh.out
              rw [hcl] at z1 z2
              have hB1 : ∀ x ∈ cur.take (hf L), x.length ≤ 140737488351232 := fun x hx => hBc.out x (List.mem_of_mem_take hx)
              have hB2 : ∀ x ∈ cur.drop (hf L), x.length ≤ 140737488351232 := fun x hx => hBc.out x (List.mem_of_mem_drop hx)
              have lt1 : (cur.take (hf L)).length = hf L := by rw [List.length_take]; omega
              have ld1 : (cur.drop (hf L)).length = L - hf L := by rw [List.length_drop, hcl]
              have hLine1 := hlc.out.take (hf L)
              have hLine2 := hlc.out.dropc (hf L) c (by have := hLc.out.1; omega)
              have cW := fun W => below_any L h2 hL64.out W
              obtain ⟨K, hK⟩ : ∃ K, hf L = K := ⟨_, rfl⟩
              have hinc := incP_two m h cur j (by omega)
              rw [hcl, hK] at hinc
              rw [hK] at cW k0 k1 k2 z1 z2 hfu hB1 hB2 lt1 ld1 hLine1 hLine2
              have HS1 := Lib.hid (fun W => sliceL_head a L c K (by have := hLc.out.1; omega) W)
              have HS2 := Lib.hid (fun W => sliceL_tail a L c K (by omega) W)
              have L64I : (L : Int) ≤ 64 := by have := hL64.out; omega
              have LI2 : (1 : Int) < (L : Int) := by omega
              have hac : acc.length ≤ 1000000 := by
                have h1 := congrArg List.length hpc.out
                rw [List.length_append, List.length_reverse] at h1
                have := HPL.out
                omega
              have KI : (K : Int) ≤ 64 := by omega
              have jI : (j : Int) ≤ 64 := by have := hj.out; omega
              have HK := Lib.hid (And.intro k0 (And.intro k1 k2))
              by_cases hik : j < K
              · have hikI : (j : Int) < (K : Int) := by omega
                rw [if_pos hik] at hinc
                obtain ⟨zb, hzb⟩ : ∃ z, rollR m (cur.drop K) = .ok z := by
                  rcases z2 with h9 | h9
                  · exact absurd rfl h9
                  · exact h9
                have cD := fun W hl => rollOf_any m HM.out m0 m1 (cur.drop K) (pieceA a K c) (c - K) W (by omega) (by have := hLc.out.1; omega) (by have := hLc.out.2; omega) hB2 hl
                rw [hzb, ld1] at cD
                rw [rootL_ok hzb] at hinc
                have HP2 : Hid (incP m h (cur.take K) j ++ (acc ++ [zb]).reverse = PP) := by
                  show _ = _
                  rw [← hpc.out, hinc]; simp
                have HB1 := Lib.hid hB1
                have HL1 := Lib.hid lt1
                have HC1 : Hid (K ≤ c ∧ c ≤ 9223372036854775807) := by have := hLc.out; exact ⟨by omega, this.2⟩
                have HZ1 : Hid (∃ z, rollR m (cur.take K) = .ok z) := by
                  rcases z1 with h9 | h9
                  · exact absurd rfl h9
                  · exact h9
                have HF1 := Lib.hid hfu
                have HJ1 := Lib.hid hik
                have HK64 : Hid (K ≤ 64) := by have := hL64.out; show K ≤ 64; omega
                have q2 := HS2.out
                have q1 := HS1.out
                have HLN1 := Lib.hid hLine1
                have q2 := HS2.out
                have q1 := HS1.out
                generalize pieceA a K c = a9 at *
                generalize L - K = r9 at *
                generalize c - K = c9 at *
                have hLn2 := hLine2.keep hbr
                clear hL hLc hj hLh hL64 hBc hzc hlc hpc k0 k1 k2 z1 z2 hfu hB1 hB2 lt1 ld1 hK hinc hik hzb hcl HS1 HS2 h2 hLine1 hLine2
                go_wp2_with fail
                refine (cW _).mono ?_
                rintro ex w3 ⟨rfl, rfl⟩
                clear cW
                go_wp2_with fail
                refine (cD _ hLn2).mono ?_
                rintro ex w4 ⟨v4, rfl, hr4, hb4⟩
                have ho4 := hoc.keep hb4
                have hb5 := below_step hbr hbr.size hb4
                have hs5 := hb5.size
                obtain ⟨a4, k4, rfl, -⟩ := id hr4
                generalize hzl : zb.length = zbl at *
                clear cD hLn2 hoc hb4 q1 q2 hzl
                go_wp2_with (first
                  | (at_builtin; refine wpList_append_line rfl _ _ rfl w.heap.size _ acc rfl ho4 _ zb _ rfl rfl hr4 hac hs5 ?_; intro v6 w6 ho6 hb6)
                  | fail)
                have hb7 := hb5.trans hb6
                go_roundw
                case rel => exact ⟨h, cur.take K, j, a, K, c, acc ++ [zb], rfl, HL1, HC1, rfl, HJ1, HF1, HK64, HB1, HZ1, HLN1, ho6, HP2, hb7⟩
                case measure => have := HK.out; simp [lenS]; omega
              · have hikI : ¬ (j : Int) < (K : Int) := by omega
                rw [if_neg hik] at hinc
                obtain ⟨zb, hzb⟩ : ∃ z, rollR m (cur.take K) = .ok z := by
                  rcases z1 with h9 | h9
                  · exact absurd rfl h9
                  · exact h9
                have cD := fun W hl => rollOf_any m HM.out m0 m1 (cur.take K) a c W (by omega) (by have := hLc.out.1; omega) (by have := hLc.out.2; omega) hB1 hl
                rw [hzb, lt1] at cD
                rw [rootL_ok hzb] at hinc
                have HP2 : Hid (incP m h (cur.drop K) (j - K) ++ (acc ++ [zb]).reverse = PP) := by
                  show _ = _
                  rw [← hpc.out, hinc]; simp
                have HB1 := Lib.hid hB2
                have HL1 := Lib.hid ld1
                have HC1 : Hid (L - K ≤ c - K ∧ c - K ≤ 9223372036854775807) := by have := hLc.out; exact ⟨by omega, by omega⟩
                have HZ1 : Hid (∃ z, rollR m (cur.drop K) = .ok z) := by
                  rcases z2 with h9 | h9
                  · exact absurd rfl h9
                  · exact h9
                have HF1 : Hid (L - K ≤ 2 ^ h) := by show L - K ≤ 2 ^ h; omega
                have HJ1 : Hid (j - K < L - K) := by have := hj.out; show j - K < L - K; omega
                have HK64 : Hid (L - K ≤ 64) := by have := hL64.out; show L - K ≤ 64; omega
                have HLN1 := Lib.hid hLine2
                have HM9 := Lib.hid (show L - K < L by omega)
                have hjK : (j : Int) - (K : Int) = ((j - K : Nat) : Int) := by omega
                have hwJ : IntKind.i64.wrap ((j - K : Nat) : Int) = ((j - K : Nat) : Int) := by rw [IntKind.wrap_i64]; omega
                generalize pieceA a K c = a9 at *
                generalize L - K = r9 at *
                generalize c - K = c9 at *
                generalize j - K = j9 at *
                have q2 := HS2.out
                have hLn2 := hLine1.keep hbr
                clear hL hLc hj hLh hL64 hBc hzc hlc hpc k0 k1 k2 z1 z2 hfu hB1 hB2 lt1 ld1 hK hinc hik hzb hcl h2 hLine1 hLine2
                go_wp2_with fail
                refine (cW _).mono ?_
                rintro ex w3 ⟨rfl, rfl⟩
                clear cW
                go_upto_region 15 with fail
                clear q2
                refine wp_region_det 12 (by kernel_rfl) (by kernel_rfl) (by kernel_rfl) ?_
                simp only [List.take_succ_cons, List.take_zero, List.drop_succ_cons, List.drop_zero]
                iterate 12 (apply wpDet_plain _ rfl; (focus (intro W hW; have z1 := HS1.out W; have z2 := HS2.out W; go_simp; exact ⟨rfl, Below.refl _ _⟩)); simp only [Act.put, List.setIfInBounds_toArray, List.set_cons_zero, List.set_cons_succ])
                refine wpDet_nil ?_
                intro V hV
                have hLn3 := hLn2.keep hV
                have hoV := hoc.keep hV
                have hbV := below_step hbr hbr.size hV
                clear HS1 HS2 hLn2 hoc hV
                go_wp2_with fail
                refine (cD _ hLn3).mono ?_
                rintro ex w4 ⟨v4, rfl, hr4, hb4⟩
                have ho4 := hoV.keep hb4
                have hb5 := below_step hbV hbV.size hb4
                have hs5 := hb5.size
                obtain ⟨a4, k4, rfl, -⟩ := id hr4
                generalize hzl : zb.length = zbl at *
                clear cD hLn3 hoV hb4 hzl
                go_wp2_with (first
                  | (at_builtin; refine wpList_append_line rfl _ _ rfl w.heap.size _ acc rfl ho4 _ zb _ rfl rfl hr4 hac hs5 ?_; intro v6 w6 ho6 hb6)
                  | fail)
                have hb7 := hb5.trans hb6
                go_roundw
                case rel => exact ⟨h, cur.drop K, j9, a9, r9, c9, acc ++ [zb], rfl, HL1, HC1, rfl, HJ1, HF1, HK64, HB1, HZ1, HLN1, ho6, HP2, hb7⟩
                case measure => have := HM9.out; simp [lenS]; omega
          · have LI2 : ¬ (1 : Int) < (L : Int) := by omega
            have hPA : Hid (acc.reverse = PP) := by
              show _ = _
              rw [← hpc.out, incP_one m h cur j (by have := hL.out; omega)]; rfl
            have hac64 : acc.length ≤ 64 := by
              have h1 := congrArg List.length hPA.out
              rw [List.length_reverse] at h1
              have := HPL.out
              omega
            have cT := turnedRound_any w.heap.size u11 acc wr hac64 hoc
            obtain ⟨au, cu, rfl, -⟩ := id hoc.lines
            clear hL hLc hj hLh hL64 hBc hzc hlc hpc h2 hac64 hoc
            go_wp2_with fail
            refine cT.mono ?_
            rintro ex w3 ⟨v3, rfl, ho3, hb3⟩
            have hbb := below_step hbr hbr.size hb3
            rw [hPA.out] at ho3
            obtain ⟨av, cv, rfl, -, -, -, hl3⟩ := ho3.lines
            clear cT ho3 hb3
            go_wp2_with fail
            go_ret2
            exact ⟨_, _, rfl, hl3, hbb⟩
    · rw [if_pos hi] at hF
      subst hF
      have hcs : i < 0 ∨ (¬ i < 0 ∧ (l.length : Int) ≤ i) := by omega
      generalize l.length = n at *
      clear hr hB hc hi hn0 hn64 hm hl cR hq h64
      rcases hcs with hiI | ⟨hiI, hiJ⟩
      all_goals
        go_enter Tryd.func29, Tryd.ntmps29
        go_wp2_with fail
        refine (cF _).mono ?_
        rintro ex w1 ⟨rfl, rfl⟩
        clear cF
        go_wp2_with fail
        go_ret2
        exact ⟨rfl, hBB⟩
  · rw [if_pos h0] at hF
    subst hF
    generalize l.length = n at *
    clear hr hB hc hl hq
    go_enter Tryd.func29, Tryd.ntmps29
    go_wp2_with fail
    refine (cF _).mono ?_
    rintro ex w1 ⟨rfl, rfl⟩
    clear cF
    go_wp2_with fail
    go_ret2
    exact ⟨rfl, hBB⟩
end Go.Proofs.YtdpfjhhcgaeiiaaDoor
