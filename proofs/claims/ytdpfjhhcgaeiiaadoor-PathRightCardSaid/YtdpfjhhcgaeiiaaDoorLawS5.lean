/-
  THE WALK of the law 'chirographkeep.PathRight'.
  CONDITIONS: package sum's roundWords hold what their initialiser lays ('KW').
-/
import Derived.Test.YtdpfjhhcgaeiiaaDoorPathK
namespace Go.Proofs.YtdpfjhhcgaeiiaaDoor
open Go.RowKit CodeMath Go.Proofs.YtdpfjhhcgaeiiaaDoor.FrameMath
set_option linter.unusedVariables false
set_option maxRecDepth 100000

set_option maxHeartbeats 2000000 in
theorem pathRight_walk (mode : Int) (l : List R) (ao : Option Addr) (cap : Nat) (at_ : Int) (w : World) (hT : KW w) (m0 : -9223372036854775808 ≤ mode) (m1 : mode ≤ 9223372036854775807) (hc : l.length ≤ cap) (hq : cap ≤ 9223372036854775807) (hR : Raws w ao l) (a0 : -9223372036854775808 ≤ at_) (a1 : at_ ≤ 9223372036854775807) :
    Calls Tryd.prog 12 #[.int .i64 mode, .slice ao l.length cap, .int .i64 at_] w fun e w' => e = .returned (.bool true) ∧ Below w.heap.size w w' := by
  have cM := fun W => modeOf_any mode W m0 m1
  have hmode := modeOf_mode mode
  have hm0 : 1 ≤ 1 + mode % 2 := by omega
  have hm2 : 1 + mode % 2 ≤ 2 := by omega
  generalize 1 + mode % 2 = m at *
  have cS := slotsOf_any l ao cap w hc hq hR
  clear hc hq hR
  generalize l.length = n at *
  go_enter Tryd.func12, Tryd.ntmps12
  go_wp2_with fail
  refine (cM _).mono ?_
  rintro e w1 ⟨rfl, rfl⟩
  clear cM
  go_wp2_with fail
  refine cS.mono ?_
  rintro e w1 ⟨v1, S, h, rfl, ho, hl, h4, hg, hb1⟩
  clear cS
  obtain ⟨a2, k2, rfl, hc2, hq2, -, hS⟩ := ho.slots
  obtain ⟨rows, hr, hlv, hroot, hrl, hpw⟩ := levels_good m hmode S h (by omega) hl hg
  have hS16 : S.length ≤ 16 := by
    rw [hl]
    have h9 : 2 ^ h ≤ 2 ^ 4 := Nat.pow_le_pow_right (by decide) h4
    have e4 : 2 ^ 4 = 16 := by decide
    omega
  have hS0 : 0 < S.length := by rw [hl]; exact Nat.pow_pos (by decide)
  have cP := fun W => picked_any at_ (S.length : Int) W (by omega) (by omega) a0 a1
  obtain ⟨p, hp⟩ : ∃ p : Nat, at_ % (S.length : Int) = p := ⟨(at_ % (S.length : Int)).toNat, by
    have := Int.emod_nonneg at_ (show (S.length : Int) ≠ 0 by omega)
    omega⟩
  have hpl : p < S.length := by
    have := Int.emod_lt_of_pos at_ (show (0 : Int) < (S.length : Int) by omega)
    omega
  rw [hp] at cP
  have cR := Root_any m S a2 k2 w1 (by omega) (by omega) hc2 hq2 hS (hT.keep hb1 (Nat.le_refl _)) h (fun _ => hl)
  rw [hroot] at cR
  have hpath : pathR m h S (p : Int) = .ok (wayB m rows p h) := by
    unfold pathR
    rw [hlv]
    simp only [Int.toNat_natCast]
    rw [if_pos (by omega)]
  have cW := fun W hW hk => Path_any m S a2 k2 (p : Int) W (by omega) (by omega) hc2 hq2 (by omega) (by omega) hW hk h (by omega) (fun _ => hl)
  rw [hpath] at cW
  obtain ⟨x, hx⟩ : ∃ x, S[p]? = some x := ⟨_, List.getElem?_eq_getElem hpl⟩
  have hchk := check_right m hmode S rows p h (by omega) hl hr x hx hpw
  have hwl := wayB_length m rows p h
  have hwe := wayB_each m rows p h (by omega) (by rw [leavesR_length m S rows hr, hl]) (leavesR_each m S rows hr) (by omega)
  have cC := fun ar cr us ud ap cp W hr' hs hd hl' hk => CheckPath_any m (rootB m h rows) ar cr (S.length : Int) (p : Int) x.f x.s x.d us ud (wayB m rows p h) ap cp h (by omega) (fun _ => by rw [hl]) W (by omega) (by omega) (by omega) (by omega) (by omega) (by omega) hr' hs hd (by rw [hwl]; omega) (fun b hb => by have := hwe b hb; omega) hl' hk
  rw [hchk] at cC
  rcases hS with h0 | ⟨ga, go, rfl, hga, hel⟩
  · rw [h0] at hS0; simp at hS0
  obtain ⟨us, ud, s0, s1, s2, s3, s4⟩ := hel p x hx
  have hSS : Slots w1 (some ⟨ga, go, none⟩) S := .inr ⟨ga, go, rfl, hga, hel⟩
  obtain ⟨a5, k5, rfl, -⟩ := id s3
  obtain ⟨a6, k6, rfl, -⟩ := id s4
  have hsh : (1 : Int) * 2 ^ h = (S.length : Int) := by rw [hl]; simp
  have hsh2 : (2 : Int) ^ h = (S.length : Int) := by rw [hl]; simp
  have hT1 := hT.keep hb1 (Nat.le_refl _)
  have hI4 : (h : Int) ≤ 4 := by omega
  have HWL := Lib.hid hwl
  generalize rootB m h rows = RB at *
  generalize wayB m rows p h = WB at *
  obtain ⟨sl, hsl⟩ : ∃ sl, S.length = sl := ⟨_, rfl⟩
  rw [hsl] at hS16 hS0 cP hpl cR cW cC hsh hsh2 ⊢
  have hplI : (p : Int) < sl := by omega
  have HLI := Lib.hid hl
  have hgt : 0 < RB.length := hrl
  clear hp hpath hroot hlv hr hchk hwl hwe hl hg hpw hx hel ho hc2 hq2 hsl hpl
  go_wp2_with fail
  refine (cP _).mono ?_
  rintro e w2 ⟨rfl, rfl⟩
  clear cP
  go_wp2_with fail
  refine cR.mono ?_
  rintro e w2 ⟨v2, rfl, hr2, hb2⟩
  clear cR
  have c := cW w2 (hSS.keep hb2) (hT1.keep hb2 (Nat.le_refl _))
  clear cW
  obtain ⟨ar, kr, rfl, i1, i2, i3, i4⟩ := hr2.row
  go_wp2_with fail
  refine c.mono ?_
  rintro e w3 ⟨ap, cp, rfl, hl3, hb3⟩
  clear c
  have hb13 := below_step hb2 hb2.size hb3
  have hbb := below_step hb1 hb1.size hb13
  have c := cC ar kr _ _ ap cp w3 (i4.keep hb3) (s3.keep hb13) (s4.keep hb13) hl3 (hT1.keep hb13 (Nat.le_refl _))
  have d0 := (hb13.cell (p := ⟨ga, go + p * 3, none⟩) hga).trans s0
  have d1 := (hb13.cell (p := ⟨ga, go + p * 3 + 1, none⟩) hga).trans s1
  have d2 := (hb13.cell (p := ⟨ga, go + p * 3 + 2, none⟩) hga).trans s2
  rw [HWL.out] at c ⊢
  clear cC s0 s1 s2 s3 s4 hr2 i1 i2 i3 i4 hl3 hb1 hb2 hb3 hb13 hSS hT1 hT hga
  generalize x.s.length = l5 at *
  generalize x.d.length = l6 at *
  obtain ⟨rl, hrl'⟩ : ∃ rl, RB.length = rl := ⟨_, rfl⟩
  rw [hrl'] at c hgt ⊢
  have hgtI : (0 : Int) < rl := by omega
  clear hrl' hrl
  go_wp2_with fail
  refine c.mono ?_
  rintro e w4 ⟨rfl, hb4⟩
  have hbb4 := below_step hbb hbb.size hb4
  clear c
  go_wp2_with fail
  go_ret
  exact ⟨rfl, hbb4⟩
end Go.Proofs.YtdpfjhhcgaeiiaaDoor
