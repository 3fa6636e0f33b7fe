/-
  CONTRACTS of package roll's Extend, CheckExtend.
  CONDITIONS: package sum's roundWords hold what their initialiser lays ('KW').
-/
import Derived.Test.YtdpfjhhcgaeiiaaDoorRollI
import Derived.Test.YtdpfjhhcgaeiiaaDoorRollX
import Derived.Test.YtdpfjhhcgaeiiaaDoorRollE
namespace Go.Proofs.YtdpfjhhcgaeiiaaDoor
open Go.RowKit CodeMath Go.Proofs.YtdpfjhhcgaeiiaaDoor.FrameMath
set_option linter.unusedVariables false
set_option maxRecDepth 100000

set_option maxHeartbeats 4000000 in
theorem Extend_any (m : Int) (l : List (List UInt8)) (ap : Option Addr) (cap : Nat) (i : Int) (w : World) (m0 : -9223372036854775808 ≤ m) (m1 : m ≤ 9223372036854775807) (hc : l.length ≤ cap) (hq : cap ≤ 9223372036854775807) (i0 : -9223372036854775808 ≤ i) (i1 : i ≤ 9223372036854775807) (hB : ∀ x ∈ l, x.length ≤ 140737488351232) (hl : Lines w ap l) (hT : KW w) :
    Calls Tryd.prog 32 #[.int .i64 m, .slice ap l.length cap, .int .i64 i] w (LinesQ (extTop m l i) w) := by
  have cR := fun W => refuse_any m (l.length : Int) W m0 m1 (by omega) (by omega)
  have hBB := Below.refl w.heap.size w
  obtain ⟨FIN, hF⟩ : ∃ r, extTop m l i = r := ⟨_, rfl⟩
  rw [hF]
  unfold extTop at hF
  obtain ⟨r, hr⟩ : ∃ r, refR m l.length = r := ⟨_, rfl⟩
  rw [hr] at cR hF
  by_cases h0 : r = 0
  · subst h0
    rw [if_neg (by decide)] at hF
    obtain ⟨hm, hn0, hn64⟩ := refR_zero hr
    by_cases hi : 0 ≤ i ∧ i ≤ l.length
    · rw [if_neg (by omega)] at hF
      obtain ⟨p, rfl⟩ : ∃ p : Nat, i = p := ⟨i.toNat, by omega⟩
      rw [Int.toNat_natCast] at hF
      have hiI0 : ¬ (p : Int) < 0 := by omega
      have hiI1 : ¬ (l.length : Int) < (p : Int) := by omega
      have hba : ∀ o, Below w.heap.size w (w.alloc o) := fun o => (Below.refl _ _).alloc (Nat.le_refl _) o
      have hnew := DigW.new w m
      have cT := fun W hl hT hD => rootD_any w.heap.size m m0 m1 _ l ap cap 0 W (Nat.le_refl _) (by omega) hc hq hB hl hT hD
      have hne := fun c h => rollR_ne m _ l c (Nat.le_refl _) h
      cases hR : rollR m l with
      | err c =>
        rw [hR] at hF cT hne
        simp only at hF
        subst hF
        rw [stD_err] at cT
        have c0 := hne c rfl
        have cI' := fun W hp hl hT hD => extension_any w.heap.size m c m0 m1 6 l p true ap cap W (by omega) (by omega) hp (by omega) hc hq hB (.inl c0) hl hT hD
        generalize extP m 6 l p true = T at *
        generalize l.length = n at *
        clear hr hB hc hq hn0 hn64 hm hi hne hR
        go_enter Tryd.func32, Tryd.ntmps32
        go_wp2_with fail
        refine (cR _).mono ?_
        rintro ex w1 ⟨rfl, rfl⟩
        clear cR
        go_wp2_with fail
        refine (cT _ (hl.keep (hba _)) (hT.keep (hba _) (Nat.le_refl _)) hnew).mono ?_
        rintro ex w2 ⟨v2, rfl, hr2, hD2, hg2⟩
        have hb2 := below_new hg2
        have hl2 := hl.keep hb2
        have hT2 := hT.keep hb2 (Nat.le_refl _)
        by_cases hp0 : p = 0
        · subst hp0
          have cB := told_bad w.heap.size m c c0 (.slice none 0 0) w2 hD2
          clear cT hl hT hba hnew hr2 cI' hl2 hT2
          go_wp2_with fail
          refine cB.mono ?_
          rintro ex w4 ⟨rfl, hb4⟩
          have hb5 := below_step hb2 hb2.size hb4
          clear cB
          go_wp2_with fail
          go_ret2
          exact ⟨rfl, hb5⟩
        · have hpI : ¬ (p : Int) = 0 := by omega
          have hp1 : 1 ≤ p := by omega
          have cI := fun W => cI' W hp1
          clear cT hl hT hba hnew hr2 cI' hp1 hp0
          go_wp2_with fail
          refine (cI _ hl2 hT2 hD2).mono ?_
          rintro ex w3 ⟨v3, rows, rfl, ho3, hrl, hr0, hD3, hg3⟩
          have hb3 := below_new (grown_trans hg2 hg3)
          have cB := told_bad w.heap.size m c c0 v3 w3 hD3
          obtain ⟨ao2, ca2, rfl, _⟩ := ho3.lines
          generalize rows.length = rn at *
          clear cI hl2 hT2 hD2 hg2 hg3 ho3 hr0 hb2 hrl
          go_wp2_with fail
          refine cB.mono ?_
          rintro ex w4 ⟨rfl, hb4⟩
          have hb5 := below_step hb3 hb3.size hb4
          clear cB
          go_wp2_with fail
          go_ret2
          exact ⟨rfl, hb5⟩
      | ok z =>
        rw [hR] at hF cT
        simp only at hF
        subst hF
        rw [stD_ok] at cT
        have cI' := fun W hp hl hT hD => extension_any w.heap.size m 0 m0 m1 6 l p true ap cap W (by omega) (by omega) hp (by omega) hc hq hB (.inr ⟨z, hR⟩) hl hT hD
        generalize extP m 6 l p true = T at *
        obtain ⟨TT, hTT⟩ : ∃ x, (if (p : Int) = 0 then [] else T) = x := ⟨_, rfl⟩
        rw [hTT]
        have HTT := Lib.hid hTT
        clear hTT
        have HN64 := Lib.hid hn64
        generalize l.length = n at *
        clear hr hB hc hq hn0 hn64 hm hi hne hR
        go_enter Tryd.func32, Tryd.ntmps32
        go_wp2_with fail
        refine (cR _).mono ?_
        rintro ex w1 ⟨rfl, rfl⟩
        clear cR
        go_wp2_with fail
        refine (cT _ (hl.keep (hba _)) (hT.keep (hba _) (Nat.le_refl _)) hnew).mono ?_
        rintro ex w2 ⟨v2, rfl, hr2, hD2, hg2⟩
        have hb2 := below_new hg2
        have hl2 := hl.keep hb2
        have hT2 := hT.keep hb2 (Nat.le_refl _)
        by_cases hp0 : p = 0
        · subst hp0
          have cB := told_good w.heap.size m none 0 0 w2 hD2
          clear cT hl hT hba hnew hr2 cI' hl2 hT2
          go_wp2_with fail
          refine cB.mono ?_
          rintro ex w4 ⟨rfl, hb4⟩
          have hb5 := below_step hb2 hb2.size hb4
          clear cB
          go_wp2_with fail
          go_ret2
          have HT0 : TT = [] := HTT.out.symm.trans (if_pos rfl)
          subst HT0
          exact ⟨none, 0, rfl, Nat.le_refl _, by decide, .inl rfl, hb5⟩
        · have hpI : ¬ (p : Int) = 0 := by omega
          have hp1 : 1 ≤ p := by omega
          have cI := fun W => cI' W hp1
          have HT2 := Lib.hid (HTT.out.symm.trans (if_neg hpI))
          clear cT hl hT hba hnew hr2 cI' hp1 hp0
          go_wp2_with fail
          refine (cI _ hl2 hT2 hD2).mono ?_
          rintro ex w3 ⟨v3, rows, rfl, ho3, hrl, hr0, hD3, hg3⟩
          have hb3 := below_new (grown_trans hg2 hg3)
          obtain ⟨ao2, ca2, rfl, q1, q2, q3, q4⟩ := ho3.lines
          obtain rfl := hr0 rfl
          have cB := told_good w.heap.size m ao2 rows.length ca2 w3 hD3
          have HQ := Lib.hid (And.intro q1 q2)
          generalize hrn : rows.length = rn at *
          have HRN := Lib.hid hrn
          clear cI hl2 hT2 hD2 hg2 hg3 ho3 hr0 hb2 hrl q1 q2 q3 hrn
          go_wp2_with fail
          refine cB.mono ?_
          rintro ex w4 ⟨rfl, hb4⟩
          have hb5 := below_step hb3 hb3.size hb4
          have q5 := q4.keep hb4
          clear cB q4
          go_wp2_with fail
          go_ret2
          have HT3 := HT2.out
          subst HT3
          exact ⟨_, _, by rw [HRN.out]; rfl, by rw [HRN.out]; exact HQ.out.1, HQ.out.2, q5, hb5⟩
    · rw [if_pos (by omega)] at hF
      subst hF
      have hcs : i < 0 ∨ (¬ i < 0 ∧ (l.length : Int) < i) := by omega
      generalize l.length = n at *
      clear hr hB hc hi hn0 hn64 hm hl hT
      rcases hcs with hiI | ⟨hiI, hiJ⟩
      all_goals
        go_enter Tryd.func32, Tryd.ntmps32
        go_wp2_with fail
        refine (cR _).mono ?_
        rintro ex w1 ⟨rfl, rfl⟩
        clear cR
        go_wp2_with fail
        go_ret2
        exact ⟨rfl, hBB⟩
  · rw [if_pos h0] at hF
    subst hF
    generalize l.length = n at *
    clear hr hB hc hl hT
    go_enter Tryd.func32, Tryd.ntmps32
    go_wp2_with fail
    refine (cR _).mono ?_
    rintro ex w1 ⟨rfl, rfl⟩
    clear cR
    go_wp2_with fail
    go_ret2
    exact ⟨rfl, hBB⟩
end Go.Proofs.YtdpfjhhcgaeiiaaDoor
