/-
  THE WALK of the law 'chirographkeep.IncludeSound'.
  CONDITIONS: package sum's roundWords hold what their initialiser lays ('KW').
-/
import Derived.Test.YtdpfjhhcgaeiiabDoorLawT1
namespace Go.Proofs.YtdpfjhhcgaeiiabDoor
open Go.RowKit CodeMath Go.Proofs.YtdpfjhhcgaeiiabDoor.FrameMath
set_option linter.unusedVariables false
set_option maxRecDepth 100000

theorem inc_fault_sound (S : List (List UInt8)) (h64 : S.length ≤ 64) (z : List UInt8) (hz : rollR 2 S = .ok z) (p : Nat) (x y : List UInt8) (hx : S[p]? = some x) (path : List (List UInt8)) (h : incFaultR 2 z (S.length : Int) (p : Int) y path = 0) : y = x := by
  have hp := (List.getElem?_eq_some_iff.1 hx).1
  have e6 : 2 ^ 6 = 64 := by decide
  unfold incFaultR at h
  rw [refR_fit 2 rfl _ h64, if_neg (by decide), if_neg (by omega), Int.toNat_natCast, Int.toNat_natCast] at h
  split at h
  · cases h
  · rename_i v hv
    split at h
    · rename_i hvz
      subst hvz
      exact inc_sound 6 S p x y v path (by omega) hx hz hv
    · cases h
set_option maxHeartbeats 4000000 in
theorem includeSound_walk (l : List R) (ao : Option Addr) (cap : Nat) (at_ : Int) (y : List UInt8) (ay : Option Addr) (cy : Nat) (path : List (List UInt8)) (aq : Option Addr) (cq : Nat) (w : World) (hT : KW w) (hc : l.length ≤ cap) (hq : cap ≤ 9223372036854775807) (hR : Raws w ao l) (a0 : -9223372036854775808 ≤ at_) (a1 : at_ ≤ 9223372036854775807) (hcy : y.length ≤ cy) (hqy : cy ≤ 9223372036854775807) (hry : y.length ≤ 140737488351232) (hny : ay = none → cy = 0) (hy : Bytes w ay y) (hcq : path.length ≤ cq) (hqq : cq ≤ 9223372036854775807) (hrq : path.length ≤ 140737488351232 ∧ ∀ l ∈ path, l.length ≤ 140737488351232) (hlq : Lines w aq path) :
    Calls Tryd.prog 8 #[.slice ao l.length cap, .int .i64 at_, .slice ay y.length cy, .slice aq path.length cq] w fun e w' => e = .returned (.bool true) ∧ Below w.heap.size w w' := by
  have hmode : isMode 2 = true := rfl
  have cS := entK_any l ao cap w hc hq hR
  have kc := fun (W : World) (C : Array Value) (n c g : Nat) (hg : g = W.heap.size) => Joins.run_convert_bytes_const_at (P := Tryd.prog) W 28 5 C n c g hg Tryd.underlying28 Tryd.underlying5
  obtain ⟨hX1, hX21, hX12⟩ := entX_facts l
  have hel := entL_length l
  obtain ⟨z, hz, hz0, hzl, -⟩ := roll_fits 2 hmode (entX l).length (entX l) (Nat.le_refl _) (by omega) hX12
  have hXe : entX l = entL l ++ [[120]] := rfl
  generalize entX l = S at *
  generalize entL l = E at *
  have HXE := Lib.hid hXe
  have HEL := Lib.hid hel
  clear hc hq hR hXe hel
  generalize l.length = n at *
  have hrv : RowV w (.slice ay y.length cy) y := ⟨ay, cy, rfl, hcy, hqy, hny, hy⟩
  clear hcy hqy hny hy
  have HCQ := Lib.hid (And.intro hcq hqq)
  have HRQ := Lib.hid hrq
  have HRY := Lib.hid hry
  clear hcq hqq hrq hry
  obtain ⟨ly, hly⟩ : ∃ k, y.length = k := ⟨_, rfl⟩
  have HLY := Lib.hid hly
  obtain ⟨lq, hlq2⟩ : ∃ k, path.length = k := ⟨_, rfl⟩
  have HLQ := Lib.hid hlq2
  rw [hly] at hrv ⊢
  rw [hlq2]
  clear hly hlq2
  go_enter Tryd.func8, Tryd.ntmps8
  go_wp2_with fail
  refine cS.mono ?_
  rintro e w1 ⟨v1, rfl, ho, hb1⟩
  clear cS
  have hba1 : Below w1.heap.size w1 (w1.alloc (.cells #[.int .u8 120] 5 (1, 2))) := (Below.refl _ _).alloc (Nat.le_refl _) _
  have hrow := rowT_litF w1 120 120 rfl (1, 2) w1.heap.size rfl
  have ho1 := ho.keep hba1
  have hb11 := below_step hb1 hb1.size hba1
  have hs11 := hb11.size
  obtain ⟨ao1, ca1, rfl, -⟩ := ho1.lines
  generalize hEn : E.length = en at *
  have HEN := Lib.hid hEn
  clear hEn
  go_wp2_with (first
    | (at_builtin; refine wpList_append_line rfl _ _ rfl w.heap.size _ E rfl ho1 _ [120] _ rfl (by simp) hrow (by have := HEL.out; have := HEN.out; omega) hs11 ?_; intro v5 w5 ho5 hb5)
    | fail)
  have hb05 := hb11.trans hb5
  rw [← HXE.out] at ho5
  obtain ⟨a6, c6, rfl, q1, q2, -, hl5⟩ := ho5.lines
  have hT5 := hT.keep hb05 (Nat.le_refl _)
  clear ho ho1 hba1 hrow hb1 hb11 hs11 ho5 hb5 hT kc HXE HEL HEN
  have cP := fun W => picked_any at_ (S.length : Int) W (by omega) (by omega) a0 a1
  obtain ⟨p, hp⟩ : ∃ p : Nat, at_ % (S.length : Int) = p := ⟨(at_ % (S.length : Int)).toNat, by
    have := Int.emod_nonneg at_ (show (S.length : Int) ≠ 0 by omega)
    omega⟩
  have hpl : p < S.length := by
    have := Int.emod_lt_of_pos at_ (show (0 : Int) < (S.length : Int) by omega)
    omega
  rw [hp] at cP
  obtain ⟨x, hx⟩ : ∃ x, S[p]? = some x := ⟨_, List.getElem?_eq_getElem hpl⟩
  have hSB : ∀ y ∈ S, y.length ≤ 140737488351232 := fun y hy => by have := hX12 y hy; omega
  have cR := rollTop_any 2 S a6 c6 w5 (by decide) (by decide) q1 q2 hSB hl5 hT5
  rw [topR_right 2 hmode S (by omega) z hz] at cR
  have cI := fun W hl hT => Include_any 2 S a6 c6 (p : Int) W (by decide) (by decide) q1 q2 (by omega) (by omega) hSB hl hT
  rw [incTop_right 2 hmode S (by omega) z hz p hpl] at cI
  have hPB : ∀ y ∈ incP 2 6 S p, y.length ≤ 140737488351232 := fun y hy => by have := incP_small 2 6 S p y hy; omega
  have hyl : y.length ≤ 140737488351232 := HRY.out
  have cC1 := fun at_ ct W ht he hl hT => CheckInclude_any 2 z at_ ct (S.length : Int) (p : Int) y ay cy path aq cq W (by decide) (by decide) (by omega) (by omega) (by omega) (by omega) ht he hyl HCQ.out.1 HCQ.out.2 HRQ.out.2 hl hT
  have cC2 := fun at_ ct ap cp W ht he hc hq hl hT => CheckInclude_any 2 z at_ ct (S.length : Int) (p : Int) y ay cy (incP 2 6 S p) ap cp W (by decide) (by decide) (by omega) (by omega) (by omega) (by omega) ht he hyl hc hq hPB hl hT
  have hs1 := inc_fault_sound S (by omega) z hz p x y hx path
  have hs2 := inc_fault_sound S (by omega) z hz p x y hx (incP 2 6 S p)
  have hs3 : y = x → incFaultR 2 z (S.length : Int) (p : Int) y (incP 2 6 S p) = 0 := fun h => by rw [h]; exact inc_fault_right 2 hmode S (by omega) z hz p x hx
  obtain ⟨r1, hr1⟩ : ∃ r, incFaultR 2 z (S.length : Int) (p : Int) y path = r := ⟨_, rfl⟩
  obtain ⟨r2, hr2⟩ : ∃ r, incFaultR 2 z (S.length : Int) (p : Int) y (incP 2 6 S p) = r := ⟨_, rfl⟩
  rw [hr1] at cC1 hs1
  rw [hr2] at cC2 hs2 hs3
  generalize incP 2 6 S p = P at *
  rcases hl5 with h0 | ⟨al, ol, rfl, hal, h3⟩
  · rw [h0] at hX1; simp at hX1
  obtain ⟨A1, c1, d1, d2, d3, d4, d5⟩ := h3 p x hx
  have hrx : RowV w5 (.slice A1 x.length c1) x := ⟨A1, c1, rfl, d2, d3, d4, d5⟩
  have hl5 : Lines w5 (some ⟨al, ol, none⟩) S := .inr ⟨al, ol, rfl, hal, h3⟩
  obtain ⟨sl, hsl⟩ : ∃ sl, S.length = sl := ⟨_, rfl⟩
  obtain ⟨pl, hpl2⟩ : ∃ k, P.length = k := ⟨_, rfl⟩
  have HPL := Lib.hid hpl2
  rw [hsl] at cP cR cI cC1 cC2 hX21 hX1 hpl q1 ⊢
  rw [HLY.out] at cC1 cC2
  rw [HLQ.out] at cC1
  have hplI : (p : Int) < sl := by omega
  have hslI : (sl : Int) ≤ 21 := by omega
  have hgt : 0 < z.length := hz0
  have HX := Lib.hid hx
  -- three cases
  have hcs : (y = x ∧ r1 = 0 ∧ r2 = 0) ∨ (y = x ∧ r1 ≠ 0 ∧ r2 = 0) ∨ (y ≠ x ∧ r1 ≠ 0 ∧ r2 ≠ 0) := by
    by_cases h : y = x
    · by_cases h1 : r1 = 0
      · exact .inl ⟨h, h1, hs3 h⟩
      · exact .inr (.inl ⟨h, h1, hs3 h⟩)
    · exact .inr (.inr ⟨h, fun h1 => h (hs1 h1), fun h1 => h (hs2 h1)⟩)
  have HCS := Lib.hid hcs
  have hry5 := hrv.keep hb05
  have hlq5 := hlq.keep hb05
  clear hcs hs1 hs2 hs3 hr1 hr2 hp hx hsl hpl hPB hSB hX12 hz hzl hX1 q1 q2 hmode h3 d2 d3 d4 d5 hz0 hpl2 hyl hrv hlq
  go_wp2_with fail
  go_simp
  go_wp2_with fail
  refine (cP _).mono ?_
  rintro e w6 ⟨rfl, rfl⟩
  clear cP
  go_wp2_with fail
  refine cR.mono ?_
  rintro e w6 ⟨v6, rfl, hr6, hb6⟩
  clear cR
  have hl6 := hl5.keep hb6
  have hT6 := hT5.keep hb6 (Nat.le_refl _)
  obtain ⟨ar, kr, rfl, i1, i2, i3, i4⟩ := hr6.row
  clear hr6
  go_wp2_with fail
  refine (cI _ hl6 hT6).mono ?_
  rintro e w7 ⟨ap, cp, rfl, j1, j2, hl7, hb7⟩
  clear cI
  have hb57 := below_step hb6 hb6.size hb7
  have hbb := below_step hb05 hb05.size hb57
  have i7 := i4.keep hb7
  have hT7 := hT6.keep hb7 (Nat.le_refl _)
  have c := cC1 ar kr w7 i7 (hry5.keep hb57) (hlq5.keep hb57) hT7
  rw [HPL.out] at j1 cC2 ⊢
  clear cC1 hl6 hT6 hl5 hT5 i1 i2 i3 i4
  go_wp2_with fail
  refine c.mono ?_
  rintro e w8 ⟨rfl, hb8⟩
  have hb78 := hb8
  have hb58 := below_step hb57 hb57.size hb8
  have hbb8 := below_step hbb hbb.size hb8
  have c := cC2 ar kr ap cp w8 (i7.keep hb8) (hry5.keep hb58) j1 j2 (hl7.keep hb8) (hT7.keep hb8 (Nat.le_refl _))
  clear cC2 i7 hT7 hl7 j1 j2 hb8 hb78
  go_wp2_with fail
  refine c.mono ?_
  rintro e w9 ⟨rfl, hb9⟩
  have hb59 := below_step hb58 hb58.size hb9
  have hbb9 := below_step hbb8 hbb8.size hb9
  clear c hb58 hb9 hbb8
  obtain ⟨_, _, ey, -, -, -, y4⟩ := id (hry5.keep hb59)
  obtain ⟨ea, -, -⟩ := Value.slice.inj ey
  subst ea
  have hrx9 := hrx.keep hb59
  obtain ⟨_, _, ex, -, -, -, x4⟩ := id hrx9
  obtain ⟨ea, -, -⟩ := Value.slice.inj ex
  subst ea
  have HC := Lib.hid (fun W (hW : Below w9.heap.size w9 W) => (⟨((below_step hb59 hb59.size hW).cell (p := ⟨al, ol + p, none⟩) hal).trans d1, bytes_string (cap := cy) (y4.keep hW), bytes_string (cap := c1) (x4.keep hW)⟩ : _ ∧ _ ∧ _))
  rw [HLY.out] at HC
  clear hrx hrx9 hry5 hlq5 ey ex y4 x4 hb59 hal d1 hb57 hb6 hb7
  obtain ⟨zl, hzl'⟩ : ∃ rl, z.length = rl := ⟨_, rfl⟩
  rw [hzl'] at hgt ⊢
  have hgtI : (0 : Int) < zl := by omega
  clear hzl'
  generalize x.length = lx at *
  rcases HCS.out with ⟨hyx, h1, h2⟩ | ⟨hyx, h1, h2⟩ | ⟨hyx, h1, h2⟩
  · have hse : (y == x) = true := by simp [hyx]
    subst h1
    subst h2
    clear HCS hyx
    go_upto_region 7 with fail
    refine wp_region_det 9 (by kernel_rfl) (by kernel_rfl) (by kernel_rfl) ?_
    simp only [List.take_succ_cons, List.take_zero, List.drop_succ_cons, List.drop_zero]
    iterate 9 (apply wpDet_plain _ rfl; (focus (intro W hW; obtain ⟨s1, s2, s3⟩ := HC.out W hW; go_simp; exact ⟨rfl, Below.refl _ _⟩)); simp only [Act.put, List.setIfInBounds_toArray, List.set_cons_zero, List.set_cons_succ])
    refine wpDet_nil ?_
    intro W hW
    have hbW := below_step hbb9 hbb9.size hW
    clear HC
    go_wp2_with fail
    go_ret
    exact ⟨rfl, hbW⟩
  · have hse : (y == x) = true := by simp [hyx]
    have hb1 : (r1 == 0) = false := by simp [h1]
    subst h2
    clear HCS hyx
    go_upto_region 7 with fail
    refine wp_region_det 9 (by kernel_rfl) (by kernel_rfl) (by kernel_rfl) ?_
    simp only [List.take_succ_cons, List.take_zero, List.drop_succ_cons, List.drop_zero]
    iterate 9 (apply wpDet_plain _ rfl; (focus (intro W hW; obtain ⟨s1, s2, s3⟩ := HC.out W hW; go_simp; exact ⟨rfl, Below.refl _ _⟩)); simp only [Act.put, List.setIfInBounds_toArray, List.set_cons_zero, List.set_cons_succ])
    refine wpDet_nil ?_
    intro W hW
    have hbW := below_step hbb9 hbb9.size hW
    clear HC
    go_wp2_with fail
    go_ret
    exact ⟨rfl, hbW⟩
  · have hse : (y == x) = false := by simp [hyx]
    have hb1 : (r1 == 0) = false := by simp [h1]
    have hb2 : (r2 == 0) = false := by simp [h2]
    clear HCS hyx
    go_upto_region 7 with fail
    refine wp_region_det 9 (by kernel_rfl) (by kernel_rfl) (by kernel_rfl) ?_
    simp only [List.take_succ_cons, List.take_zero, List.drop_succ_cons, List.drop_zero]
    iterate 9 (apply wpDet_plain _ rfl; (focus (intro W hW; obtain ⟨s1, s2, s3⟩ := HC.out W hW; go_simp; exact ⟨rfl, Below.refl _ _⟩)); simp only [Act.put, List.setIfInBounds_toArray, List.set_cons_zero, List.set_cons_succ])
    refine wpDet_nil ?_
    intro W hW
    have hbW := below_step hbb9 hbb9.size hW
    clear HC
    go_wp2_with fail
    go_ret
    exact ⟨rfl, hbW⟩
end Go.Proofs.YtdpfjhhcgaeiiabDoor
