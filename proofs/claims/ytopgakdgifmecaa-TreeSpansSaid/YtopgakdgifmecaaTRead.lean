/-
  CONTRACTS of package tree's read and Check.
  CONDITIONS: each theorem's own hypotheses.
-/
import Derived.Test.YtopgakdgifmecaaTReadP
namespace Go.Proofs.Ytopgakdgifmecaa
open Go.RowKit
set_option linter.unusedVariables false
set_option maxRecDepth 100000

/-- What a reading leaves. -/
structure RdOk (ns : List Nq) (w w' : World) (po : Option Addr) : Prop where
  low : Below w.heap.size w w'
  root : readC ns = 0 → ∃ (p : Nat) (F : List Nat), po = some ⟨p, 0, none⟩ ∧ NdT w' (rootQ ns) p F ∧ F.Nodup ∧ (∀ b ∈ F, w.heap.size ≤ b ∧ b < w'.heap.size) ∧ linkR ns.length 0 ns (List.replicate ns.length false) = true ∧ ns.length ≤ 100
set_option maxHeartbeats 16000000 in
theorem read_any (ns : List Nq) (ao : Option Addr) (cap : Nat) (w : World) (hl : ns.length ≤ 9223372036854775806) (hF : FewKeys ns) (hS : Nodes w ao ns) :
    Calls Try.prog 28 #[.agg #[.slice ao ns.length cap]] w fun e w' => ∃ po, e = .returned (.tuple #[.pointer po, .int .i64 (readC ns)]) ∧ RdOk ns w w' po := by
  obtain ⟨R, hR⟩ : ∃ R, readC ns = R := ⟨_, rfl⟩
  rw [hR]
  have cS := fun W (hW : Below w.heap.size w W) => small_any ns ao cap W hl hF (hS.keep hW)
  have hsm : smallQ ns = true → ns.length ≤ 100 := fun h => by
    unfold smallQ at h
    simp only [Bool.and_eq_true, decide_eq_true_eq] at h
    exact h.2.1
  have cL := fun W (hW : Below w.heap.size w W) (h : smallQ ns = true) => linked_any ns ao cap W (hsm h) hF (hS.keep hW)
  have cB := fun W (hW : Below w.heap.size w W) (h : smallQ ns = true) (hn : 0 < ns.length) (hk : linkR ns.length 0 ns (List.replicate ns.length false) = true) => branch_any ns ao cap (hsm h) ns.length 0 W (hS.keep hW) hn (by omega) (link_good ns hk hn).1
  have hgood := fun (h : smallQ ns = true) (hk : linkR ns.length 0 ns (List.replicate ns.length false) = true) => root_good ns hk (hsm h)
  have hzero : ns.length = 0 → rootQ ns = .mk [] [] := fun h => by unfold rootQ; rw [h]; rfl
  have cD : ∀ W p F, NdT W (rootQ ns) p F → htT (rootQ ns) < 101 → Calls Try.prog 43 #[.pointer (some ⟨p, 0, none⟩)] W fun e w' => e = .returned (.tuple #[.int .i64 ((deT (rootQ ns)).d : Int), .bool (deT (rootQ ns)).e]) ∧ Below W.heap.size W w' := fun W p F h1 h2 => depth_any 101 (by decide) _ p F W h1 h2
  have cR : ∀ W p F, NdT W (rootQ ns) p F → fitT (rootQ ns) → htT (rootQ ns) < 101 → (flatT (rootQ ns)).length ≤ 300 → Calls Try.prog 44 #[.pointer (some ⟨p, 0, none⟩)] W fun e w' => e = .returned (.bool (riseR ((flatT (rootQ ns)).map Prod.fst))) ∧ Below W.heap.size W w' := fun W p F h1 h2 h3 h4 => rising_any 101 _ p F W h1 h2 h3 (by omega)
  obtain ⟨b1, hb1⟩ : ∃ b, smallQ ns = b := ⟨_, rfl⟩
  obtain ⟨b2, hb2⟩ : ∃ b, linkR ns.length 0 ns (List.replicate ns.length false) = b := ⟨_, rfl⟩
  obtain ⟨e3, he3⟩ : ∃ b, (deT (rootQ ns)).e = b := ⟨_, rfl⟩
  obtain ⟨e4, he4⟩ : ∃ b, riseR ((flatT (rootQ ns)).map Prod.fst) = b := ⟨_, rfl⟩
  have hR0 := hR
  have HRC : Hid ((b1 = false → R = 1) ∧ (b1 = true → b2 = false → R = 3) ∧ (b1 = true → b2 = true → e3 = false → R = 3) ∧ (b1 = true → b2 = true → e3 = true → e4 = false → R = 3) ∧ (b1 = true → b2 = true → e3 = true → e4 = true → R = 0)) := Lib.hid (by
    unfold readC at hR
    rw [hb1, hb2, he3, he4] at hR
    refine ⟨fun h => ?_, fun h h2 => ?_, fun h h2 h3 => ?_, fun h h2 h3 h4 => ?_, fun h h2 h3 h4 => ?_⟩
    · rw [← hR, if_pos h]
    · rw [← hR, if_neg (by rw [h]; decide), if_pos h2]
    · rw [← hR, if_neg (by rw [h]; decide), if_neg (by rw [h2]; decide), if_pos h3]
    · rw [← hR, if_neg (by rw [h]; decide), if_neg (by rw [h2]; decide), if_neg (by rw [h3]; decide), if_pos h4]
    · rw [← hR, if_neg (by rw [h]; decide), if_neg (by rw [h2]; decide), if_neg (by rw [h3]; decide), if_neg (by rw [h4]; decide)])
  have hRD := Lib.hid hR0
  have HCD := Lib.hid cD
  have HCR := Lib.hid cR
  have HGD := Lib.hid hgood
  have HSM := Lib.hid hsm
  have HCB := Lib.hid cB
  have HCL := Lib.hid cL
  have HZ := Lib.hid hzero
  rw [hb1] at cS
  have HB1 := Lib.hid hb1
  have HB2 := Lib.hid hb2
  obtain ⟨L, hL⟩ : ∃ L, ns.length = L := ⟨_, rfl⟩
  rw [hL] at cS hl ⊢
  have HL := Lib.hid hL
  have z0 := Blk.new w #[.slice ao L cap] 24
  have hb0 := (Below.refl w.heap.size w).alloc (Nat.le_refl _) (.cells #[.slice ao L cap] 24)
  generalize hw0 : w.alloc (.cells #[.slice ao L cap] 24) = w0 at z0 hb0
  have HW0 := Lib.hid hw0
  have p0 := z0.cell (j := 0) rfl
  have hzl := z0.lt
  have HP : Hid (∀ W, Below w0.heap.size w0 W → W.cell? ⟨w.heap.size, 0, none⟩ = some (.slice ao L cap)) := Lib.hid (fun W hW => (hW.cell (p := ⟨w.heap.size, 0, none⟩) hzl).trans p0)
  have cS0 := cS w0 hb0
  clear cS cL cB cD cR hgood hzero hsm hF hS hR hR0 hb1 hb2 hL hw0 z0 hzl
  go_enter Try.func28, Try.ntmps28
  go_upto_region 1 with fail
  rw [HW0.out]
  clear HW0
  go_wp2_with fail
  refine cS0.mono ?_
  rintro e w1 ⟨rfl, hbw1⟩
  have HLW1 := Lib.hid (below_stepE hb0 hb0.size hbw1)
  have HX1 := Lib.hid hbw1
  have p1 := HP.out w1 hbw1
  clear cS0 p0 hb0 hbw1
  cases b1
  · have hR1 : R = 1 := HRC.out.1 (by simp)
    have HR1 := Lib.hid hR1
    have HLO := Lib.hid (HLW1.out)
    clear hR1
    go_wp2_with fail
    go_ret2
    exact ⟨none, by rw [HR1.out]; rfl, HLO.out, fun h => by rw [hRD.out, HR1.out] at h; omega⟩
  · have cl := HCL.out w1 HLW1.out HB1.out
    rw [HB2.out, HL.out] at cl
    go_wp2_with fail
    refine cl.mono ?_
    rintro e w2 ⟨rfl, hbw2⟩
    have HLW2 := Lib.hid (below_stepE HLW1.out HLW1.out.size hbw2)
    have HX2 := Lib.hid (below_stepE HX1.out HX1.out.size hbw2)
    have p2 := HP.out w2 HX2.out
    clear cl p1 hbw2 HLW1 HX1
    cases b2
    · have hR1 : R = 3 := HRC.out.2.1 (by simp) (by simp)
      have HR1 := Lib.hid hR1
      have HLO := Lib.hid (HLW2.out)
      clear hR1
      go_wp2_with fail
      go_ret2
      exact ⟨none, by rw [HR1.out]; rfl, HLO.out, fun h => by rw [hRD.out, HR1.out] at h; omega⟩
    · have z3 := Blk.new w2 #[.slice none 0 0, .slice none 0 0] 83
      have hb3 := (Below.refl w2.heap.size w2).alloc (Nat.le_refl _) (.cells #[.slice none 0 0, .slice none 0 0] 83)
      have n3 : (w2.alloc (.cells #[.slice none 0 0, .slice none 0 0] 83)).heap.size = w2.heap.size + 1 := by simp
      generalize hw3 : w2.alloc (.cells #[.slice none 0 0, .slice none 0 0] 83) = w3 at z3 hb3 n3
      have HW3 := Lib.hid hw3
      have HLW3 := Lib.hid (below_stepE HLW2.out HLW2.out.size hb3)
      have HX3 := Lib.hid (below_stepE HX2.out HX2.out.size hb3)
      have HZ3 := Lib.hid z3
      have HN3 := Lib.hid n3
      have p3 := HP.out w3 HX3.out
      clear hw3 z3 hb3 n3 p2
      go_upto_region 6 with fail
      rw [HW3.out]
      clear HW3
      by_cases hn : 0 < L
      · have iL : (0 : Int) < (L : Int) := by omega
        have cb := HCB.out w3 HLW3.out HB1.out (by rw [HL.out]; exact hn) HB2.out
        rw [HL.out] at cb
        go_wp2_with fail
        refine cb.mono ?_
        rintro e w4 ⟨p, F, rfl, hbr⟩
        clear cb p3
        have hnd : NdT w4 (rootQ ns) p F := by have := hbr.nd; unfold rootQ; rw [HL.out]; exact this
        have hnod := hbr.nodup
        have hfr : ∀ b ∈ F, w.heap.size ≤ b ∧ b < w4.heap.size := fun b hb => ⟨Nat.le_trans HLW3.out.size (hbr.fr b hb).1, (hbr.fr b hb).2⟩
        have hlw := below_stepE HLW3.out HLW3.out.size hbr.low
        clear hbr
        have cd := HCD.out _ _ _ hnd (HGD.out HB1.out HB2.out).2.1
        have HND := Lib.hid hnd
        have HNOD := Lib.hid hnod
        have HFR := Lib.hid hfr
        have HLW := Lib.hid hlw
        rw [he3] at cd
        clear hnd hnod hfr hlw
        go_wp2_with fail
        refine cd.mono ?_
        rintro e w5 ⟨rfl, hb5⟩
        clear cd
        have HLW5 := Lib.hid (below_stepE HLW.out HLW.out.size hb5)
        have hnd5 := HND.out.below hb5
        have HFR5 : Hid (∀ b ∈ F, w.heap.size ≤ b ∧ b < w5.heap.size) := Lib.hid (fun b hb => ⟨(HFR.out b hb).1, Nat.lt_of_lt_of_le (HFR.out b hb).2 hb5.size⟩)
        clear hb5 HLW HFR HND
        cases e3
        · have hR1 : R = 3 := HRC.out.2.2.1 (by simp) (by simp) (by simp)
          have HR1 := Lib.hid hR1
          have HLO := Lib.hid (HLW5.out)
          clear hR1
          go_wp2_with fail
          go_ret2
          exact ⟨none, by rw [HR1.out]; rfl, HLO.out, fun h => by rw [hRD.out, HR1.out] at h; omega⟩
        · have cr := HCR.out _ _ _ hnd5 (HGD.out HB1.out HB2.out).1 (HGD.out HB1.out HB2.out).2.1 (HGD.out HB1.out HB2.out).2.2
          have HND5 := Lib.hid hnd5
          rw [he4] at cr
          clear hnd5
          go_wp2_with fail
          refine cr.mono ?_
          rintro e w6 ⟨rfl, hb6⟩
          clear cr
          have HLW6 := Lib.hid (below_stepE HLW5.out HLW5.out.size hb6)
          have HND6 := Lib.hid (HND5.out.below hb6)
          have HFR6 : Hid (∀ b ∈ F, w.heap.size ≤ b ∧ b < w6.heap.size) := Lib.hid (fun b hb => ⟨(HFR5.out b hb).1, Nat.lt_of_lt_of_le (HFR5.out b hb).2 hb6.size⟩)
          clear hb6 HLW5 HND5 HFR5
          cases e4
          · have hR1 : R = 3 := HRC.out.2.2.2.1 (by simp) (by simp) (by simp) (by simp)
            have HR1 := Lib.hid hR1
            have HLO := Lib.hid (HLW6.out)
            clear hR1
            go_wp2_with fail
            go_ret2
            exact ⟨none, by rw [HR1.out]; rfl, HLO.out, fun h => by rw [hRD.out, HR1.out] at h; omega⟩
          · have hR1 : R = 0 := HRC.out.2.2.2.2 (by simp) (by simp) (by simp) (by simp)
            have HR1 := Lib.hid hR1
            clear hR1
            go_wp2_with fail
            go_ret2
            exact ⟨some ⟨p, 0, none⟩, by rw [HR1.out]; rfl, HLW6.out, fun _ => ⟨p, F, rfl, HND6.out, HNOD.out, HFR6.out, HB2.out, HSM.out HB1.out⟩⟩
      · have iL : ¬ (0 : Int) < (L : Int) := by omega
        obtain ⟨F, hF⟩ : ∃ F : List Nat, F = [w2.heap.size] := ⟨_, rfl⟩
        have hnd : NdT w3 (rootQ ns) w2.heap.size F := by
          rw [HZ.out (by rw [HL.out]; omega), hF]
          simp only [NdT, NdL]
          exact ⟨.slice none 0 0, .slice none 0 0, [], [], HZ3.out, OwnE.nil _ _, OwnK.nil _ _, ⟨rfl, rfl⟩, rfl⟩
        have hnod : F.Nodup := by rw [hF]; simp
        have hfr : ∀ b ∈ F, w.heap.size ≤ b ∧ b < w3.heap.size := fun b hb => by
          rw [hF, List.mem_singleton] at hb
          subst hb
          exact ⟨HLW2.out.size, by rw [HN3.out]; omega⟩
        have hlw := HLW3.out
        clear hF
        have cd := HCD.out _ _ _ hnd (HGD.out HB1.out HB2.out).2.1
        have HND := Lib.hid hnd
        have HNOD := Lib.hid hnod
        have HFR := Lib.hid hfr
        have HLW := Lib.hid hlw
        rw [he3] at cd
        clear hnd hnod hfr hlw
        go_wp2_with fail
        refine cd.mono ?_
        rintro e w5 ⟨rfl, hb5⟩
        clear cd
        have HLW5 := Lib.hid (below_stepE HLW.out HLW.out.size hb5)
        have hnd5 := HND.out.below hb5
        have HFR5 : Hid (∀ b ∈ F, w.heap.size ≤ b ∧ b < w5.heap.size) := Lib.hid (fun b hb => ⟨(HFR.out b hb).1, Nat.lt_of_lt_of_le (HFR.out b hb).2 hb5.size⟩)
        clear hb5 HLW HFR HND
        cases e3
        · have hR1 : R = 3 := HRC.out.2.2.1 (by simp) (by simp) (by simp)
          have HR1 := Lib.hid hR1
          have HLO := Lib.hid (HLW5.out)
          clear hR1
          go_wp2_with fail
          go_ret2
          exact ⟨none, by rw [HR1.out]; rfl, HLO.out, fun h => by rw [hRD.out, HR1.out] at h; omega⟩
        · have cr := HCR.out _ _ _ hnd5 (HGD.out HB1.out HB2.out).1 (HGD.out HB1.out HB2.out).2.1 (HGD.out HB1.out HB2.out).2.2
          have HND5 := Lib.hid hnd5
          rw [he4] at cr
          clear hnd5
          go_wp2_with fail
          refine cr.mono ?_
          rintro e w6 ⟨rfl, hb6⟩
          clear cr
          have HLW6 := Lib.hid (below_stepE HLW5.out HLW5.out.size hb6)
          have HND6 := Lib.hid (HND5.out.below hb6)
          have HFR6 : Hid (∀ b ∈ F, w.heap.size ≤ b ∧ b < w6.heap.size) := Lib.hid (fun b hb => ⟨(HFR5.out b hb).1, Nat.lt_of_lt_of_le (HFR5.out b hb).2 hb6.size⟩)
          clear hb6 HLW5 HND5 HFR5
          cases e4
          · have hR1 : R = 3 := HRC.out.2.2.2.1 (by simp) (by simp) (by simp) (by simp)
            have HR1 := Lib.hid hR1
            have HLO := Lib.hid (HLW6.out)
            clear hR1
            go_wp2_with fail
            go_ret2
            exact ⟨none, by rw [HR1.out]; rfl, HLO.out, fun h => by rw [hRD.out, HR1.out] at h; omega⟩
          · have hR1 : R = 0 := HRC.out.2.2.2.2 (by simp) (by simp) (by simp) (by simp)
            have HR1 := Lib.hid hR1
            clear hR1
            go_wp2_with fail
            go_ret2
            exact ⟨some ⟨w2.heap.size, 0, none⟩, by rw [HR1.out]; rfl, HLW6.out, fun _ => ⟨w2.heap.size, F, rfl, HND6.out, HNOD.out, HFR6.out, HB2.out, HSM.out HB1.out⟩⟩
set_option maxHeartbeats 4000000 in
theorem check_any (ns : List Nq) (ao : Option Addr) (cap : Nat) (w : World) (hl : ns.length ≤ 9223372036854775806) (hF : FewKeys ns) (hS : Nodes w ao ns) :
    Calls Try.prog 13 #[.agg #[.slice ao ns.length cap]] w fun e w' => e = .returned (.int .i64 (readC ns)) ∧ Below w.heap.size w w' := by
  have cR := fun W (hW : Below w.heap.size w W) => read_any ns ao cap W hl hF (hS.keep hW)
  have z0 := Blk.new w #[.slice ao ns.length cap] 24
  have hb0 := (Below.refl w.heap.size w).alloc (Nat.le_refl _) (.cells #[.slice ao ns.length cap] 24)
  generalize hw0 : w.alloc (.cells #[.slice ao ns.length cap] 24) = w0 at z0 hb0
  have HW0 := Lib.hid hw0
  have p0 := z0.cell (j := 0) rfl
  have c0 := cR w0 hb0
  have HB0 := Lib.hid hb0
  generalize ns.length = L at *
  clear cR hS hF hl hw0 z0 hb0
  go_enter Try.func13, Try.ntmps13
  go_upto_region 1 with fail
  rw [HW0.out]
  clear HW0
  go_wp2_with fail
  refine c0.mono ?_
  rintro e w1 ⟨po, rfl, hr⟩
  have HR := Lib.hid (below_stepE HB0.out HB0.out.size hr.low)
  clear c0 p0 hr HB0
  go_wp2_with fail
  go_ret
  exact ⟨rfl, HR.out⟩
end Go.Proofs.Ytopgakdgifmecaa
