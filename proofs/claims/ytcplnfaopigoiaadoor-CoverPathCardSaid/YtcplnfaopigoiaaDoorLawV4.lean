/-
  THE WALK of the law 'chirographkeep.CoverPath'.
  CONDITIONS: package sum's roundWords hold what their initialiser lays ('KW').
-/
import Derived.Test.YtcplnfaopigoiaaDoorCovL
import Derived.Test.YtcplnfaopigoiaaDoorCovM
import Derived.Test.YtcplnfaopigoiaaDoorCovQ
import Derived.Test.YtcplnfaopigoiaaDoorPathK
import Derived.Test.YtcplnfaopigoiaaDoorListsK
namespace Go.Proofs.YtcplnfaopigoiaaDoor
open Go.RowKit CodeMath Go.Proofs.YtcplnfaopigoiaaDoor.FrameMath
set_option linter.unusedVariables false
set_option maxRecDepth 100000

theorem bit_at (p k : Nat) (hp : p < 16) (hk : k < 5) : bits .and .i64 ((p : Int) / 2 ^ k) 1 = (((p / 2 ^ k) % 2 : Nat) : Int) := by
  have key : ∀ (p : Fin 16) (k : Fin 5), bits .and .i64 ((p.1 : Int) / 2 ^ k.1) 1 = (((p.1 / 2 ^ k.1) % 2 : Nat) : Int) := by decide +kernel
  exact key ⟨p, hp⟩ ⟨k, hk⟩
def EndF (gC base : Nat) (w0 : World) (vS vR vT vL vG pS pT slA slB : Value) (p : Nat) (LR : List (List UInt8)) : Nat → Value → World → Prop
  | 0, v, _ => v = .int .i64 0
  | 1, v, _ => v = .bool true
  | 2, v, _ => v = .bool true
  | 3, v, _ => v = .int .i64 0
  | 4, v, _ => v = .bool true
  | 5, v, _ => v = .bool true
  | 6, v, _ => v = .bool true
  | 7, v, _ => v = .pointer (some ⟨gC, 0, none⟩)
  | 8, v, _ => v = vS
  | 9, v, _ => v = .int .i64 1
  | 10, v, _ => v = .bool true
  | 11, v, _ => v = .bool true
  | 12, v, _ => v = .bool true
  | 13, v, _ => v = .pointer (some ⟨gC, 0, none⟩)
  | 14, v, _ => v = vS
  | 15, v, _ => v = pS
  | 16, v, _ => v = slA
  | 17, v, _ => v = vT
  | 18, v, _ => v = .int .i64 (p : Int)
  | 19, v, _ => v = pT
  | 20, v, _ => v = slB
  | 21, v, _ => v = .bool true
  | 22, v, _ => v = .bool true
  | 23, v, _ => v = .bool true
  | 24, v, _ => v = .pointer (some ⟨gC, 1, none⟩)
  | 25, v, _ => v = vR
  | 26, v, _ => v = vL
  | 27, v, _ => v = vG
  | 28, v, w => OwnV w base w0 v LR
  | 29, v, _ => v = .bool true
  | 30, v, _ => v = .bool true
  | _, _, _ => True
set_option maxHeartbeats 40000000 in
theorem coverPath_walk (mode : Int) (l : List R) (ao : Option Addr) (cap : Nat) (at_ : Int) (w : World) (hT : KW w) (m0 : -9223372036854775808 ≤ mode) (m1 : mode ≤ 9223372036854775807) (hc : l.length ≤ cap) (hq : cap ≤ 9223372036854775807) (hR : Raws w ao l) (a0 : -9223372036854775808 ≤ at_) (a1 : at_ ≤ 9223372036854775807) :
    Calls Tryd.prog 8 #[.int .i64 mode, .slice ao l.length cap, .int .i64 at_] w fun e w' => e = .returned (.bool true) ∧ Below w.heap.size w w' := by
  have cM := fun W => modeOf_any mode W m0 m1
  have hmode := modeOf_mode mode
  have hm0 : 1 ≤ 1 + mode % 2 := by omega
  have hm2 : 1 + mode % 2 ≤ 2 := by omega
  generalize 1 + mode % 2 = m at *
  have cS := slotsOf_any l ao cap w hc hq hR
  clear hc hq hR
  generalize l.length = n at *
  go_enter Tryd.func8, Tryd.ntmps8
  go_wp2_with fail
  refine (cM _).mono ?_
  rintro e w1 ⟨rfl, rfl⟩
  clear cM
  go_wp2_with fail
  refine cS.mono ?_
  rintro e w1 ⟨v1, S, h, rfl, ho, hl, h4, hg, hb1⟩
  clear cS
  obtain ⟨a2, k2, rfl, hc2, hq2, -, hS⟩ := ho.slots
  obtain ⟨rows, hr, hlv, hroot, hrl, hpw⟩ := levels_good m hmode S h (by omega) hl hg
  have hS16 : S.length ≤ 16 := by
    rw [hl]
    have h9 : 2 ^ h ≤ 2 ^ 4 := Nat.pow_le_pow_right (by decide) h4
    have e4 : 2 ^ 4 = 16 := by decide
    omega
  have hS0 : 0 < S.length := by rw [hl]; exact Nat.pow_pos (by decide)
  have cP := fun W => picked_any at_ (S.length : Int) W (by omega) (by omega) a0 a1
  obtain ⟨p, hp⟩ : ∃ p : Nat, at_ % (S.length : Int) = p := ⟨(at_ % (S.length : Int)).toNat, by
    have := Int.emod_nonneg at_ (show (S.length : Int) ≠ 0 by omega)
    omega⟩
  have hpl : p < S.length := by
    have := Int.emod_lt_of_pos at_ (show (0 : Int) < (S.length : Int) by omega)
    omega
  rw [hp] at cP
  have hpath : pathR m h S (p : Int) = .ok (wayB m rows p h) := by
    unfold pathR
    rw [hlv]
    simp only [Int.toNat_natCast]
    rw [if_pos (by omega)]
  have cW := fun W hW hk => Path_any m S a2 k2 (p : Int) W (by omega) (by omega) hc2 hq2 (by omega) (by omega) hW hk h (by omega) (fun _ => hl)
  rw [hpath] at cW
  obtain ⟨x, hx⟩ : ∃ x, S[p]? = some x := ⟨_, List.getElem?_eq_getElem hpl⟩
  have hwl := wayB_length m rows p h
  obtain ⟨z, hz⟩ : ∃ z : Int, ((2 ^ p : Nat) : Int) = z := ⟨_, rfl⟩
  have hz2 : (2 : Int) ^ p = z := by rw [← hz]; simp
  have hz1 : (1 : Int) * 2 ^ p = z := by rw [hz2]; omega
  have hzb : 0 ≤ z ∧ z ≤ 32768 := by
    have h9 : 2 ^ p ≤ 2 ^ 15 := Nat.pow_le_pow_right (by decide) (by omega)
    have e9 : 2 ^ 15 = 32768 := by decide
    rw [← hz]
    exact ⟨Int.natCast_nonneg _, by exact_mod_cast (show 2 ^ p ≤ 32768 by omega)⟩
  have hz0 := hzb.1
  have hz3 := hzb.2
  have cO := fun W => opens_any S.length a2 k2 z W (by omega) (by omega) (by omega)
  have hopl : opensL S.length z = hotL S.length p := by rw [← hz]; exact hot_opens _ _ hS16 (by omega)
  rw [hopl] at cO
  have hol := hot_length S.length p
  have hcov := cov_hot m h h4 p rows (by omega) (by rw [leavesR_length m S rows hr, hl])
  rw [← hl] at hcov
  have hcnt := hot_count S.length p hpl
  have hsl := selO_length S (hotL S.length p) hol.symm
  have hpre : ((hotL S.length p).take p).count true = 0 := by rw [hot_take _ _ _ (by omega)]; exact count_none (hot_not p p (Nat.le_refl _))
  have hsx := selO_at S (hotL S.length p) p x hol.symm hx (by rw [hot_at _ _ _ hpl]; simp)
  rw [hpre] at hsx
  have hT1 := hT.keep hb1 (Nat.le_refl _)
  have cV := fun W (hW : Below w1.heap.size w1 W) aO cO' h1 h2 h3 => CoverOf_any m S a2 k2 (hotL S.length p) aO cO' W (by omega) (by omega) hc2 hq2 (hS.keep hW) h1 h2 h3 (hT1.keep hW (Nat.le_refl _)) h (by omega) (fun _ => hl)
  unfold CovPost at cV
  rw [hlv] at cV
  simp only [if_pos hol] at cV
  rw [hcov] at cV
  rw [hcnt] at hsl
  have hway : ∀ k, k < h → (wayB m rows p h)[k]? = some ((fun t => blockB m rows t (sib p t)) k) := fun k hk => wayB_at m rows p h k hk
  have hlen := sides_length (fun t => blockB m rows t (sib p t)) p h
  generalize (fun t => blockB m rows t (sib p t)) = f at *
  generalize wayB m rows p h = WB at *
  generalize selO S (hotL S.length p) = SS at *
  generalize hotL S.length p = o at *
  have hSS := hS
  rcases hS with h0 | ⟨ga, go, rfl, hga, hel⟩
  · rw [h0] at hS0; simp at hS0
  obtain ⟨us, ud, s0, s1, s2, s3, s4⟩ := hel p x hx
  obtain ⟨sl, hsln⟩ : ∃ sl, S.length = sl := ⟨_, rfl⟩
  rw [hsln] at hS16 hS0 cP hpl cW cV cO hol ⊢
  have hplI : (p : Int) < sl := by omega
  have HOL := Lib.hid hol
  rw [hol] at cV
  have hI4 : (h : Int) ≤ 4 := by omega
  have HW := Lib.hid hway
  have hp16 : p < 16 := by omega
  have hpI : (p : Int) ≤ 15 := by omega
  clear hp hpath hroot hrl hlv hr hl hg hpw hx hel ho hc2 hq2 hsln hcov hcnt hpre hopl hzb hz hmode hway hT
  go_wp2_with fail
  refine (cP _).mono ?_
  rintro e w2 ⟨rfl, rfl⟩
  clear cP
  have c := cW _ hSS hT1
  clear cW
  go_wp2_with fail
  refine c.mono ?_
  rintro e w3 ⟨ap, cp, rfl, hl3, hb3⟩
  clear c
  rw [hwl]
  go_wp2_with fail
  refine (cO _).mono ?_
  rintro e w4 ⟨v4, rfl, hoo, hb4⟩
  obtain ⟨aO, cO', rfl, o1, o2, o3⟩ := hoo.bools
  rw [HOL.out] at o1 ⊢
  have hb14 := below_step hb3 hb3.size hb4
  have cv := cV w4 hb14 aO cO' o1 o2 o3
  clear cO cV
  go_wp2_with fail
  refine cv.mono ?_
  rintro e w4' ⟨⟨sv, rv, rfl, hSl, hRl⟩, hb4'⟩
  obtain ⟨gS, kS, ta, tb, rfl, -, hgS, t0, t1, t2, t3, t4, -⟩ := hSl.at 0 x hsx
  obtain ⟨aR, kR, rfl, r1, r2, -, rL⟩ := hRl.lines
  rw [hsl]
  obtain ⟨ro, hro⟩ : ∃ k, (leftK f p h ++ rightK f p h).length = k := ⟨_, rfl⟩
  have HRO := Lib.hid hro
  rw [hro] at r1 ⊢
  have hba : Below w4'.heap.size w4' (w4'.alloc (.cells #[.slice (some ⟨gS, 0, none⟩) 1 kS, .slice aR ro kR] 26)) := (Below.refl _ _).alloc (Nat.le_refl _) _
  have zC : Blk (w4'.alloc (.cells #[.slice (some ⟨gS, 0, none⟩) 1 kS, .slice aR ro kR] 26)) w4'.heap.size 26 [.slice (some ⟨gS, 0, none⟩) 1 kS, .slice aR ro kR] := Blk.new w4' #[.slice (some ⟨gS, 0, none⟩) 1 kS, .slice aR ro kR] _
  have hb45 := below_step hb4' hb4'.size hba
  have hb35 := below_step hb4 hb4.size hb45
  have hb15 := below_step hb3 hb3.size hb35
  have hl5 := hl3.keep hb35
  have rL5 := rL.keep hba
  have hgS5 := Nat.lt_of_lt_of_le hgS hba.size
  have u0 := (hba.cell (p := ⟨gS, 0 * 3, none⟩) hgS).trans t0
  have u1 := (hba.cell (p := ⟨gS, 0 * 3 + 1, none⟩) hgS).trans t1
  have u2 := (hba.cell (p := ⟨gS, 0 * 3 + 2, none⟩) hgS).trans t2
  have t35 := t3.row.keep hba
  have t45 := t4.row.keep hba
  have x0 := (hb15.cell (p := ⟨ga, go + p * 3, none⟩) hga).trans s0
  have x1 := (hb15.cell (p := ⟨ga, go + p * 3 + 1, none⟩) hga).trans s1
  have x2 := (hb15.cell (p := ⟨ga, go + p * 3 + 2, none⟩) hga).trans s2
  have x3 := s3.keep hb15
  have x4 := s4.keep hb15
  have hga5 := Nat.lt_of_lt_of_le hga hb15.size
  clear cv hSl hRl rL t0 t1 t2 t3 t4 s0 s1 s2 s3 s4 hb4' hb45 hb35 hb4 hb3 hb14 hba hl3 hoo o1 o2 o3 hro
  go_upto_region 5 with fail
  generalize w4'.alloc (.cells #[.slice (some ⟨gS, 0, none⟩) 1 kS, .slice aR ro kR] 26) = w5 at *
  generalize w4'.heap.size = gC at *
  have hb05 := below_step hb1 hb1.size hb15
  have HK := Lib.hid (And.intro zC (And.intro rL5 (And.intro t35 (And.intro t45 (And.intro x3 (And.intro x4 (And.intro r1 r2)))))))
  have HCC := Lib.hid (And.intro u0 (And.intro u1 (And.intro u2 (And.intro x0 (And.intro x1 (And.intro x2 (And.intro hgS5 hga5)))))))
  have HLN := Lib.hid hlen
  have HWL := Lib.hid hwl
  have HL5 := Lib.hid hl5
  have hBB := Below.refl w5.heap.size w5
  clear zC rL5 t35 t45 x3 x4 r1 r2 u0 u1 u2 x0 x1 x2 hgS5 hga5 hb1 hb15 hgS hga hlen hwl hl5 hsx hsl hol hT1 hSS
  go_wp2_with fail
  go_loopw [14, 15, 16, 17, 45] (fun vl vg _ _ ix wr => ∃ k : Nat, k ≤ h ∧ ix = .int .i64 k ∧ OwnV wr w5.heap.size w5 vl (leftK f p k) ∧ OwnV wr w5.heap.size w5 vg (rightK f p k) ∧ Hid (vl.ownBlock = none ∨ vl.ownBlock ≠ vg.ownBlock) ∧ Below w5.heap.size w5 wr) (fun _ _ _ _ ix _ => h - (intOf ix).toNat)
  case atStart => exact ⟨0, Nat.zero_le _, rfl, OwnV.nil _ _ _, OwnV.nil _ _ _, Lib.hid (.inl rfl), hBB⟩
  case round =>
    obtain ⟨k, hk, rfl, hoL, hoG, hne, hb5⟩ := hrel
    clear hBB
    by_cases hlt : k < h
    · have kI : (k : Int) < h := by omega
      have H1 := Lib.hid hlt
      have hwk := HW.out k hlt
      have hl5 := HL5.out
      rcases hl5 with h0 | ⟨gp, op, rfl, hgp, hat⟩
      · rw [h0] at hwk; simp at hwk
      obtain ⟨ay, cy, y0, y1, y2, y3, y4⟩ := hat k (f k) hwk
      have hcell := (hb5.cell (p := ⟨gp, op + k, none⟩) hgp).trans y0
      have hrow : RowV w5 (.slice ay (f k).length cy) (f k) := ⟨ay, cy, rfl, y1, y2, y3, y4⟩
      have hone := OwnV.one wr w5.heap.size w5 (.slice ay (f k).length cy) (f k) hb5.size hrow
      have hba : Below wr.heap.size wr (wr.alloc (.cells #[.slice ay (f k).length cy] 32)) := (Below.refl _ _).alloc (Nat.le_refl _) _
      have hoL1 := hoL.keep hba
      have hoG1 := hoG.keep hba
      have hs1 := Nat.le_trans hb5.size hba.size
      have hbw1 : Below w5.heap.size w5 (wr.alloc (.cells #[.slice ay (f k).length cy] 32)) := below_step hb5 hb5.size hba
      have hLb := hoL.lt
      have hGb := hoG.lt
      have hln := sides_length f p k
      have hszn : wr.heap.size < (wr.alloc (.cells #[.slice ay (f k).length cy] 32)).heap.size := by
        show wr.heap.size < (wr.heap.push _).size
        rw [Array.size_push]; omega
      have hbit := bit_at p k hp16 (by omega)
      obtain ⟨fk, hfk⟩ : ∃ y, f k = y := ⟨_, rfl⟩
      have HFK := Lib.hid hfk
      rw [hfk] at hcell hone hba hoL1 hoG1 hs1 hbw1 hszn
      have k4 : k ≤ 4 := by omega
      clear hwk y0 y1 y2 y3 y4 hat hlt hrow hoL hoG hfk
      by_cases hodd : (p / 2 ^ k) % 2 = 1
      · rw [hodd] at hbit
        have hL1 : leftK f p (k + 1) = [fk] ++ leftK f p k := by simp only [leftK]; rw [if_pos hodd, HFK.out]; rfl
        have hG1 : rightK f p (k + 1) = rightK f p k := by simp only [rightK]; rw [if_pos hodd]
        have HL1 := Lib.hid hL1
        have HG1 := Lib.hid hG1
        have HO := Lib.hid hodd
        clear hodd hL1 hG1
        generalize fk.length = fl at *
        go_wp2_with (first
          | (at_builtin; refine wpList_append_vals rfl _ _ rfl w5.heap.size w5 _ [fk] rfl hone w5.heap.size _ (leftK f p k) rfl hoL1 (by have := hln.1; simp; omega) hs1 ?_; intro v5 w6 ho5 hg5 hat5)
          | fail)
        have hG6 := hoG1.apart hg5 (by
          cases hv : u15.ownBlock with
          | none => exact .inl rfl
          | some b =>
            refine .inr fun hh => ?_
            have := (hGb b hv).2
            have h7 : b = wr.heap.size := Option.some.inj hh
            omega)
        have hb6 := hbw1.grown hg5 hs1 (fun b hb => by have h7 : wr.heap.size = b := Option.some.inj hb; have := hb5.size; omega)
        have hne6 : Hid (v5.ownBlock = none ∨ v5.ownBlock ≠ u15.ownBlock) := by
          refine .inr fun hh => ?_
          rcases hat5 with h7 | h7
          · rw [hh] at h7
            have := (hGb wr.heap.size h7).2
            omega
          · rw [hh] at h7
            have := (hGb _ h7).2
            omega
        rw [← HL1.out] at ho5
        rw [← HG1.out] at hG6
        go_roundw
        case rel => exact ⟨k + 1, H1.out, by go_num, ho5, hG6, hne6, hb6⟩
        case measure => have := H1.out; simp [intOf]; omega
      · have h00 : (p / 2 ^ k) % 2 = 0 := by omega
        rw [h00] at hbit
        have hL1 : leftK f p (k + 1) = leftK f p k := by simp only [leftK]; rw [if_neg hodd]
        have hG1 : rightK f p (k + 1) = rightK f p k ++ [fk] := by simp only [rightK]; rw [if_neg hodd, HFK.out]
        have HL1 := Lib.hid hL1
        have HG1 := Lib.hid hG1
        clear hodd hL1 hG1 h00
        generalize fk.length = fl at *
        go_wp2_with (first
          | (at_builtin; refine wpList_append_vals rfl _ _ rfl w5.heap.size w5 _ (rightK f p k) rfl hoG1 w5.heap.size _ [fk] rfl hone (by have := hln.2; simp; omega) hs1 ?_; intro v5 w6 ho5 hg5 hat5)
          | fail)
        have hL6 := hoL1.apart hg5 hne.out
        have hb6 := hbw1.grown hg5 hs1 (fun b hb => (hGb b hb).1)
        have hne6 : Hid (u14.ownBlock = none ∨ u14.ownBlock ≠ v5.ownBlock) := by
          rcases hne.out with h7 | h7
          · exact .inl h7
          · rcases hat5 with h8 | h8
            · exact .inr (by rw [h8]; exact h7)
            · refine .inr fun hh => ?_
              rw [h8] at hh
              have := (hLb _ hh).2
              omega
        rw [← HG1.out] at ho5
        rw [← HL1.out] at hL6
        go_roundw
        case rel => exact ⟨k + 1, H1.out, by go_num, hL6, ho5, hne6, hb6⟩
        case measure => have := H1.out; simp [intOf]; omega
    · have kI : ¬ (k : Int) < h := by omega
      obtain rfl : k = h := by omega
      have hll : (leftK f p k).length + (rightK f p k).length ≤ 1000000 := by have := HLN.out; omega
      obtain ⟨zC, rL5, t35, t45, x3, x4, r1, r2⟩ := HK.out
      obtain ⟨u0, u1, u2, x0, x1, x2, hgS5, hga5⟩ := HCC.out
      have hro := HRO.out
      have cK : Hid (∀ W, Below w5.heap.size w5 W → ∀ aL cL, Lines W aL (leftK f p k ++ rightK f p k) → ro ≤ cL → cL ≤ 9223372036854775807 → Calls Tryd.prog 25 #[.slice aR ro kR, .slice aL ro cL] W fun e w' => e = .returned (.bool true) ∧ Below W.heap.size W w') := Lib.hid fun W hW aL cL hL h1 h2 => by
        have := keepLists_any (leftK f p k ++ rightK f p k) (leftK f p k ++ rightK f p k) aR aL kR cL W (rL5.keep hW) hL (by omega) (by omega)
        rw [hro, decide_eq_true (rfl : leftK f p k ++ rightK f p k = leftK f p k ++ rightK f p k)] at this
        exact this
      have CS : Hid (∀ W, Below w5.heap.size w5 W → Calls Tryd.prog 20 #[.agg #[.bool x.f, ta, tb], .agg #[.bool x.f, us, ud]] W fun e w' => e = .returned (.bool true) ∧ Below W.heap.size W w') := Lib.hid fun W hW => by
        have := sameSlot_any x x ta tb us ud W (t35.keep hW) (t45.keep hW) (x3.keep hW) (x4.keep hW)
        rw [decide_eq_true (rfl : x = x)] at this
        exact this
      have QQ : Hid (∀ W, Below w5.heap.size w5 W → W.cell? ⟨gC, 0, none⟩ = some (.slice (some ⟨gS, 0, none⟩) 1 kS) ∧ W.cell? ⟨gC, 1, none⟩ = some (.slice aR ro kR) ∧ W.cell? ⟨gS, 0, none⟩ = some (.bool x.f) ∧ W.cell? ⟨gS, 1, none⟩ = some ta ∧ W.cell? ⟨gS, 2, none⟩ = some tb ∧ W.cell? ⟨ga, go + p * 3, none⟩ = some (.bool x.f) ∧ W.cell? ⟨ga, go + p * 3 + 1, none⟩ = some us ∧ W.cell? ⟨ga, go + p * 3 + 2, none⟩ = some ud) := Lib.hid fun W hW =>
        ⟨(zC.call hW).cell (j := 0) rfl, (zC.call hW).cell (j := 1) rfl, (hW.cell (p := ⟨gS, 0, none⟩) hgS5).trans u0, (hW.cell (p := ⟨gS, 1, none⟩) hgS5).trans u1, (hW.cell (p := ⟨gS, 2, none⟩) hgS5).trans u2, (hW.cell (p := ⟨ga, go + p * 3, none⟩) hga5).trans x0, (hW.cell (p := ⟨ga, go + p * 3 + 1, none⟩) hga5).trans x1, (hW.cell (p := ⟨ga, go + p * 3 + 2, none⟩) hga5).trans x2⟩
      obtain ⟨a5, k5, rfl, -⟩ := id t35
      obtain ⟨a6, k6, rfl, -⟩ := id t45
      obtain ⟨a7, k7, rfl, -⟩ := id x3
      obtain ⟨a8, k8, rfl, -⟩ := id x4
      generalize x.s.length = n5 at *
      generalize x.d.length = n6 at *
      generalize x.f = xf at *
      clear zC rL5 t35 t45 x3 x4 r1 r2 u0 u1 u2 x0 x1 x2 hgS5 hga5 hne HK HCC HW HL5
      generalize leftK f p k = LL at *
      generalize rightK f p k = RR at *
      have hBend := below_step hb05 hb05.size hb5
      go_upto_region 13 with fail
      refine wp_region_chain 31 [21, 28, 29] (by kernel_rfl) (by kernel_rfl) (by kernel_rfl) (EndF gC w5.heap.size w5 (.slice (some ⟨gS, 0, none⟩) 1 kS) (.slice aR ro kR) (.slice (some ⟨ga, go, none⟩) sl k2) u14 u15 (.pointer (some ⟨gS, 0, none⟩)) (.pointer (some ⟨ga, go + p * 3, none⟩)) (.agg #[.bool xf, .slice a5 n5 k5, .slice a6 n6 k6]) (.agg #[.bool xf, .slice a7 n5 k7, .slice a8 n6 k8]) p (LL ++ RR)) (fun s W => wr.heap.size ≤ W.heap.size ∧ Below w5.heap.size w5 W ∧ (s < 2 → Below wr.heap.size wr W) ∧ (s < 2 → OwnV W w5.heap.size w5 u14 LL ∧ OwnV W w5.heap.size w5 u15 RR)) (fun s w w' => s ≠ 1 → Below w.heap.size w w') ?hF ?h0 ?hstep ?hcall ?hdone
      case hF =>
        intro s i hs j v W W' hjn hne hpb h he
        rcases (show j = 0 ∨ j = 1 ∨ j = 2 ∨ j = 3 ∨ j = 4 ∨ j = 5 ∨ j = 6 ∨ j = 7 ∨ j = 8 ∨ j = 9 ∨ j = 10 ∨ j = 11 ∨ j = 12 ∨ j = 13 ∨ j = 14 ∨ j = 15 ∨ j = 16 ∨ j = 17 ∨ j = 18 ∨ j = 19 ∨ j = 20 ∨ j = 21 ∨ j = 22 ∨ j = 23 ∨ j = 24 ∨ j = 25 ∨ j = 26 ∨ j = 27 ∨ j = 28 ∨ j = 29 ∨ j = 30 by omega) with rfl | rfl | rfl | rfl | rfl | rfl | rfl | rfl | rfl | rfl | rfl | rfl | rfl | rfl | rfl | rfl | rfl | rfl | rfl | rfl | rfl | rfl | rfl | rfl | rfl | rfl | rfl | rfl | rfl | rfl | rfl
        · exact h
        · exact h
        · exact h
        · exact h
        · exact h
        · exact h
        · exact h
        · exact h
        · exact h
        · exact h
        · exact h
        · exact h
        · exact h
        · exact h
        · exact h
        · exact h
        · exact h
        · exact h
        · exact h
        · exact h
        · exact h
        · exact h
        · exact h
        · exact h
        · exact h
        · exact h
        · exact h
        · exact h
        · rcases s with _ | _ | _ | s
          · exact h.keep (he (by decide))
          · obtain rfl : 28 = i := by simpa using hs
            exact absurd rfl hne
          · exact h.keep (he (by decide))
          · simp at hs
        · exact h
        · exact h
      case h0 => exact ⟨Nat.le_refl _, hb5.trans (Below.drew (Below.refl _ _)), fun _ => Below.drew (Below.refl _ _), fun _ => ⟨hoL.keep (Below.drew (Below.refl _ _)), hoG.keep (Below.drew (Below.refl _ _))⟩⟩
      case hstep =>
        intro j hj hni s vs act W K ha' hst hd hu hK
        simp only [fillF, Act.put, List.take_succ_cons, List.take_zero, List.setIfInBounds_toArray, List.set_cons_zero, List.set_cons_succ] at ha'
        subst ha'
        clear hu
        have q := QQ.out W hst.2.1
        obtain ⟨q0, q1, q2, q3, q4, q5, q6, q7⟩ := q
        rcases (show j = 0 ∨ j = 1 ∨ j = 2 ∨ j = 3 ∨ j = 4 ∨ j = 5 ∨ j = 6 ∨ j = 7 ∨ j = 8 ∨ j = 9 ∨ j = 10 ∨ j = 11 ∨ j = 12 ∨ j = 13 ∨ j = 14 ∨ j = 15 ∨ j = 16 ∨ j = 17 ∨ j = 18 ∨ j = 19 ∨ j = 20 ∨ j = 21 ∨ j = 22 ∨ j = 23 ∨ j = 24 ∨ j = 25 ∨ j = 26 ∨ j = 27 ∨ j = 28 ∨ j = 29 ∨ j = 30 by omega) with rfl | rfl | rfl | rfl | rfl | rfl | rfl | rfl | rfl | rfl | rfl | rfl | rfl | rfl | rfl | rfl | rfl | rfl | rfl | rfl | rfl | rfl | rfl | rfl | rfl | rfl | rfl | rfl | rfl | rfl | rfl
        · refine wpOp_step rfl (fun K' hK' => ?_)
          go_simp
          exact hK' _ _ (hK _ rfl)
        · have e0 : vs 0 = .int .i64 0 := hd 0 (by kernel_rfl)
          simp only [e0] at hK ⊢
          refine wpOp_step rfl (fun K' hK' => ?_)
          go_simp
          exact hK' _ _ (hK _ rfl)
        · have e1 : vs 1 = .bool true := hd 1 (by kernel_rfl)
          simp only [e1] at hK ⊢
          refine wpOp_step rfl (fun K' hK' => ?_)
          go_simp
          exact hK' _ _ (hK _ rfl)
        · have e2 : vs 2 = .bool true := hd 2 (by kernel_rfl)
          simp only [e2] at hK ⊢
          refine wpOp_step rfl (fun K' hK' => ?_)
          go_simp
          exact hK' _ _ (hK _ rfl)
        · have e2 : vs 2 = .bool true := hd 2 (by kernel_rfl)
          have e3 : vs 3 = .int .i64 0 := hd 3 (by kernel_rfl)
          simp only [e2, e3] at hK ⊢
          refine wpOp_step rfl (fun K' hK' => ?_)
          go_simp
          exact hK' _ _ (hK _ rfl)
        · have e2 : vs 2 = .bool true := hd 2 (by kernel_rfl)
          have e4 : vs 4 = .bool true := hd 4 (by kernel_rfl)
          simp only [e2, e4] at hK ⊢
          refine wpOp_step rfl (fun K' hK' => ?_)
          go_simp
          exact hK' _ _ (hK _ rfl)
        · have e5 : vs 5 = .bool true := hd 5 (by kernel_rfl)
          simp only [e5] at hK ⊢
          refine wpOp_step rfl (fun K' hK' => ?_)
          go_simp
          exact hK' _ _ (hK _ rfl)
        · have e6 : vs 6 = .bool true := hd 6 (by kernel_rfl)
          simp only [e6] at hK ⊢
          refine wpOp_step rfl (fun K' hK' => ?_)
          go_simp
          exact hK' _ _ (hK _ rfl)
        · have e6 : vs 6 = .bool true := hd 6 (by kernel_rfl)
          have e7 : vs 7 = .pointer (some ⟨gC, 0, none⟩) := hd 7 (by kernel_rfl)
          simp only [e6, e7] at hK ⊢
          refine wpOp_step rfl (fun K' hK' => ?_)
          go_simp
          exact hK' _ _ (hK _ rfl)
        · have e6 : vs 6 = .bool true := hd 6 (by kernel_rfl)
          have e8 : vs 8 = (.slice (some ⟨gS, 0, none⟩) 1 kS) := hd 8 (by kernel_rfl)
          simp only [e6, e8] at hK ⊢
          refine wpOp_step rfl (fun K' hK' => ?_)
          go_simp
          exact hK' _ _ (hK _ rfl)
        · have e6 : vs 6 = .bool true := hd 6 (by kernel_rfl)
          have e9 : vs 9 = .int .i64 1 := hd 9 (by kernel_rfl)
          simp only [e6, e9] at hK ⊢
          refine wpOp_step rfl (fun K' hK' => ?_)
          go_simp
          exact hK' _ _ (hK _ rfl)
        · have e6 : vs 6 = .bool true := hd 6 (by kernel_rfl)
          have e10 : vs 10 = .bool true := hd 10 (by kernel_rfl)
          simp only [e6, e10] at hK ⊢
          refine wpOp_step rfl (fun K' hK' => ?_)
          go_simp
          exact hK' _ _ (hK _ rfl)
        · have e11 : vs 11 = .bool true := hd 11 (by kernel_rfl)
          simp only [e11] at hK ⊢
          refine wpOp_step rfl (fun K' hK' => ?_)
          go_simp
          exact hK' _ _ (hK _ rfl)
        · have e12 : vs 12 = .bool true := hd 12 (by kernel_rfl)
          simp only [e12] at hK ⊢
          refine wpOp_step rfl (fun K' hK' => ?_)
          go_simp
          exact hK' _ _ (hK _ rfl)
        · have e12 : vs 12 = .bool true := hd 12 (by kernel_rfl)
          have e13 : vs 13 = .pointer (some ⟨gC, 0, none⟩) := hd 13 (by kernel_rfl)
          simp only [e12, e13] at hK ⊢
          refine wpOp_step rfl (fun K' hK' => ?_)
          go_simp
          exact hK' _ _ (hK _ rfl)
        · have e12 : vs 12 = .bool true := hd 12 (by kernel_rfl)
          have e14 : vs 14 = (.slice (some ⟨gS, 0, none⟩) 1 kS) := hd 14 (by kernel_rfl)
          simp only [e12, e14] at hK ⊢
          refine wpOp_step rfl (fun K' hK' => ?_)
          go_simp
          exact hK' _ _ (hK _ rfl)
        · have e12 : vs 12 = .bool true := hd 12 (by kernel_rfl)
          have e15 : vs 15 = (.pointer (some ⟨gS, 0, none⟩)) := hd 15 (by kernel_rfl)
          simp only [e12, e15] at hK ⊢
          refine wpOp_step rfl (fun K' hK' => ?_)
          go_simp
          exact hK' _ _ (hK _ rfl)
        · have e12 : vs 12 = .bool true := hd 12 (by kernel_rfl)
          simp only [e12] at hK ⊢
          refine wpOp_step rfl (fun K' hK' => ?_)
          go_simp
          exact hK' _ _ (hK _ rfl)
        · have e12 : vs 12 = .bool true := hd 12 (by kernel_rfl)
          simp only [e12] at hK ⊢
          refine wpOp_step rfl (fun K' hK' => ?_)
          go_simp
          exact hK' _ _ (hK _ rfl)
        · have e12 : vs 12 = .bool true := hd 12 (by kernel_rfl)
          have e17 : vs 17 = (.slice (some ⟨ga, go, none⟩) sl k2) := hd 17 (by kernel_rfl)
          have e18 : vs 18 = .int .i64 (p : Int) := hd 18 (by kernel_rfl)
          simp only [e12, e17, e18] at hK ⊢
          refine wpOp_step rfl (fun K' hK' => ?_)
          go_simp
          exact hK' _ _ (hK _ rfl)
        · have e12 : vs 12 = .bool true := hd 12 (by kernel_rfl)
          have e19 : vs 19 = (.pointer (some ⟨ga, go + p * 3, none⟩)) := hd 19 (by kernel_rfl)
          simp only [e12, e19] at hK ⊢
          refine wpOp_step rfl (fun K' hK' => ?_)
          go_simp
          exact hK' _ _ (hK _ rfl)
        · exact (hni (by decide)).elim
        · have e12 : vs 12 = .bool true := hd 12 (by kernel_rfl)
          have e21 : vs 21 = .bool true := hd 21 (by kernel_rfl)
          simp only [e12, e21] at hK ⊢
          refine wpOp_step rfl (fun K' hK' => ?_)
          go_simp
          exact hK' _ _ (hK _ rfl)
        · have e22 : vs 22 = .bool true := hd 22 (by kernel_rfl)
          simp only [e22] at hK ⊢
          refine wpOp_step rfl (fun K' hK' => ?_)
          go_simp
          exact hK' _ _ (hK _ rfl)
        · have e23 : vs 23 = .bool true := hd 23 (by kernel_rfl)
          simp only [e23] at hK ⊢
          refine wpOp_step rfl (fun K' hK' => ?_)
          go_simp
          exact hK' _ _ (hK _ rfl)
        · have e23 : vs 23 = .bool true := hd 23 (by kernel_rfl)
          have e24 : vs 24 = .pointer (some ⟨gC, 1, none⟩) := hd 24 (by kernel_rfl)
          simp only [e23, e24] at hK ⊢
          refine wpOp_step rfl (fun K' hK' => ?_)
          go_simp
          exact hK' _ _ (hK _ rfl)
        · have e23 : vs 23 = .bool true := hd 23 (by kernel_rfl)
          simp only [e23] at hK ⊢
          refine wpOp_step rfl (fun K' hK' => ?_)
          go_simp
          exact hK' _ _ (hK _ rfl)
        · have e23 : vs 23 = .bool true := hd 23 (by kernel_rfl)
          simp only [e23] at hK ⊢
          refine wpOp_step rfl (fun K' hK' => ?_)
          go_simp
          exact hK' _ _ (hK _ rfl)
        · exact (hni (by decide)).elim
        · exact (hni (by decide)).elim
        · have e23 : vs 23 = .bool true := hd 23 (by kernel_rfl)
          have e29 : vs 29 = .bool true := hd 29 (by kernel_rfl)
          simp only [e23, e29] at hK ⊢
          refine wpOp_step rfl (fun K' hK' => ?_)
          go_simp
          exact hK' _ _ (hK _ rfl)
      case hcall =>
        intro s j hs vs act W K ha' hst hd hK
        simp only [fillF, Act.put, List.take_succ_cons, List.take_zero, List.setIfInBounds_toArray, List.set_cons_zero, List.set_cons_succ] at ha'
        subst ha'
        rcases s with _ | _ | _ | s
        · obtain rfl : 21 = j := by simpa using hs
          have e12 : vs 12 = .bool true := hd 12 (by kernel_rfl)
          have e16 : vs 16 = (.agg #[.bool xf, .slice a5 n5 k5, .slice a6 n6 k6]) := hd 16 (by kernel_rfl)
          have e20 : vs 20 = (.agg #[.bool xf, .slice a7 n5 k7, .slice a8 n6 k8]) := hd 20 (by kernel_rfl)
          simp only [e12, e16, e20] at hK ⊢
          refine wpOp_step rfl (fun K' hK' => ?_)
          go_simp
          refine (CS.out W hst.2.1).mono ?_
          rintro e W' ⟨rfl, hbel⟩
          exact hK' _ _ (hK _ _ rfl (fun _ => hbel) ⟨Nat.le_trans hst.1 hbel.size, below_step hst.2.1 hst.2.1.size hbel, fun hh => below_step (hst.2.2.1 (by decide)) (hst.2.2.1 (by decide)).size hbel, fun hh => ⟨(hst.2.2.2 (by decide)).1.keep hbel, (hst.2.2.2 (by decide)).2.keep hbel⟩⟩)
        · obtain rfl : 28 = j := by simpa using hs
          have e23 : vs 23 = .bool true := hd 23 (by kernel_rfl)
          have e26 : vs 26 = u14 := hd 26 (by kernel_rfl)
          have e27 : vs 27 = u15 := hd 27 (by kernel_rfl)
          simp only [e23, e26, e27] at hK ⊢
          have hoL' := (hst.2.2.2 (by decide)).1
          have hoG' := (hst.2.2.2 (by decide)).2
          refine wpOp_step rfl (fun K' hK' => ?_)
          rw [if_pos (by simp [Region.wanted]; first | rfl | simp [yielded])]
          refine wp_append_vals (.tmp 90) (.tmp 91) rfl w5.heap.size w5 u14 LL rfl hoL' w5.heap.size u15 RR rfl hoG' hll hst.2.1.size ?_
          intro v' w' ho hg _
          exact hK' _ _ (hK v' w' ho (fun hh => absurd rfl hh) ⟨Nat.le_trans hst.1 hg.size, hst.2.1.grown hg hst.2.1.size (fun b hb => (hoL'.lt b hb).1), fun hh => absurd hh (by decide), fun hh => absurd hh (by decide)⟩)
        · obtain rfl : 29 = j := by simpa using hs
          have e23 : vs 23 = .bool true := hd 23 (by kernel_rfl)
          have e25 : vs 25 = (.slice aR ro kR) := hd 25 (by kernel_rfl)
          have y28 : OwnV W w5.heap.size w5 (vs 28) (LL ++ RR) := hd 28 (by kernel_rfl)
          simp only [e23, e25] at hK ⊢
          obtain ⟨aL, cL, eL, l1, l2, -, l3⟩ := y28.lines hst.2.1
          rw [hro] at eL l1
          have ck := cK.out W hst.2.1 aL cL l3 l1 l2
          simp only [eL] at hK ⊢
          refine wpOp_step rfl (fun K' hK' => ?_)
          go_simp
          refine ck.mono ?_
          rintro e W' ⟨rfl, hbel⟩
          exact hK' _ _ (hK _ _ rfl (fun _ => hbel) ⟨Nat.le_trans hst.1 hbel.size, below_step hst.2.1 hst.2.1.size hbel, fun hh => absurd hh (by decide), fun hh => absurd hh (by decide)⟩)
        · simp at hs
      case hdone =>
        intro vs act W ha' hst hf
        simp only [fillF, Act.put, List.take_succ_cons, List.take_zero, List.drop_succ_cons, List.drop_zero, List.setIfInBounds_toArray, List.set_cons_zero, List.set_cons_succ] at ha' ⊢
        subst ha'
        have e30 : vs 30 = .bool true := hf 30 (by decide)
        simp only [e30]
        go_wp2_with fail
        go_ret
        exact ⟨rfl, below_step hb05 hb05.size hst.2.1⟩
end Go.Proofs.YtcplnfaopigoiaaDoor
