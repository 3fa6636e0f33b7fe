/-
  THE WALK of the law 'chirographkeep.IncludeRight'.
  CONDITIONS: package sum's roundWords hold what their initialiser lays ('KW').
-/
import Derived.Test.YtdpfjhhcgaeiiabDoorEntK
import Derived.Test.YtdpfjhhcgaeiiabDoorPathK
namespace Go.Proofs.YtdpfjhhcgaeiiabDoor
open Go.RowKit CodeMath Go.Proofs.YtdpfjhhcgaeiiabDoor.FrameMath
set_option linter.unusedVariables false
set_option maxRecDepth 100000

theorem rowT_litF (W : World) (c : UInt8) (x : Int) (hx : x = c.toNat) (fz : Nat × Nat) (g : Nat) (hg : g = W.heap.size) : RowT (W.alloc (.cells #[.int .u8 x] 5 fz)) (.slice (some ⟨g, 0, none⟩) 1 1) [c] := by
  subst hx hg
  refine ⟨_, 1, rfl, Nat.le_refl _, by decide, (fun h => by cases h), .inr ⟨W.heap.size, #[.int .u8 (c.toNat : Int)], 5, fz, rfl, ?_, .inl rfl, fun j y hy => ?_⟩⟩
  · show (W.heap.push _)[W.heap.size]? = _
    simp
  · obtain rfl : j = 0 := by have := (List.getElem?_eq_some_iff.1 hy).1; simp at this; exact this
    simp at hy; subst hy; rfl
/-- The entries of the laws: those of raw things, and one more. -/
def entX (l : List R) : List (List UInt8) := entL l ++ [[120]]
theorem entX_facts (l : List R) : 1 ≤ (entX l).length ∧ (entX l).length ≤ 21 ∧ ∀ x ∈ entX l, x.length ≤ 12 := by
  have h1 := entL_length l
  refine ⟨by unfold entX; simp, by unfold entX; simp; omega, fun x hx => ?_⟩
  unfold entX at hx
  rcases List.mem_append.1 hx with h | h
  · exact entL_each l x h
  · simp at h; subst h; decide
theorem refR_fit (m : Int) (hm : isMode m = true) (n : Nat) (h : n ≤ 64) : refR m n = 0 := by
  unfold refR
  rw [if_neg (by rw [hm]; decide), if_neg (by omega)]
theorem inc_fault_right (m : Int) (hm : isMode m = true) (S : List (List UInt8)) (h64 : S.length ≤ 64) (z : List UInt8) (hz : rollR m S = .ok z) (p : Nat) (x : List UInt8) (hx : S[p]? = some x) : incFaultR m z (S.length : Int) (p : Int) x (incP m 6 S p) = 0 := by
  have hp := (List.getElem?_eq_some_iff.1 hx).1
  have e6 : 2 ^ 6 = 64 := by decide
  unfold incFaultR
  rw [refR_fit m hm _ h64, if_neg (by decide), if_neg (by omega), Int.toNat_natCast, Int.toNat_natCast, inc_right m 6 S p x z (by omega) hx hz]
  simp
theorem incTop_right (m : Int) (hm : isMode m = true) (S : List (List UInt8)) (h64 : S.length ≤ 64) (z : List UInt8) (hz : rollR m S = .ok z) (p : Nat) (hp : p < S.length) : incTop m S (p : Int) = .ok (incP m 6 S p) := by
  unfold incTop
  rw [refR_fit m hm _ h64, if_neg (by decide), if_neg (by omega), hz, Int.toNat_natCast]
theorem topR_right (m : Int) (hm : isMode m = true) (S : List (List UInt8)) (h64 : S.length ≤ 64) (z : List UInt8) (hz : rollR m S = .ok z) : topR m S = (z, 0) := by
  unfold topR
  rw [refR_fit m hm _ h64, if_neg (by decide), hz]
  rfl
theorem few_shift (k n : Nat) (h : k = 0 ∨ 2 ^ (k - 1) < n) (hn : n ≤ 21) : k = 0 ∨ (1 ≤ k ∧ k ≤ 5 ∧ wrap64 (2 ^ (k - 1)) = ((2 ^ (k - 1) : Nat) : Int) ∧ ((2 ^ (k - 1) : Nat) : Int) < n) := by
  rcases h with h | h
  · exact .inl h
  · by_cases hk : k = 0
    · exact .inl hk
    · right
      have hk5 : k - 1 < 5 := by
        rcases Nat.lt_or_ge (k - 1) 5 with h9 | h9
        · exact h9
        · exfalso
          have : 2 ^ 5 ≤ 2 ^ (k - 1) := Nat.pow_le_pow_right (by decide) h9
          have e5 : 2 ^ 5 = 32 := by decide
          omega
      have key : ∀ q : Fin 6, wrap64 (2 ^ q.1) = ((2 ^ q.1 : Nat) : Int) := by decide +kernel
      exact ⟨by omega, by omega, key ⟨k - 1, by omega⟩, by omega⟩
set_option maxHeartbeats 4000000 in
theorem includeRight_walk (mode : Int) (l : List R) (ao : Option Addr) (cap : Nat) (at_ : Int) (w : World) (hT : KW w) (m0 : -9223372036854775808 ≤ mode) (m1 : mode ≤ 9223372036854775807) (hc : l.length ≤ cap) (hq : cap ≤ 9223372036854775807) (hR : Raws w ao l) (a0 : -9223372036854775808 ≤ at_) (a1 : at_ ≤ 9223372036854775807) :
    Calls Tryd.prog 7 #[.int .i64 mode, .slice ao l.length cap, .int .i64 at_] w fun e w' => e = .returned (.bool true) ∧ Below w.heap.size w w' := by
  have cM := fun W => modeOf_any mode W m0 m1
  have hmode := modeOf_mode mode
  have hm0 : 1 ≤ 1 + mode % 2 := by omega
  have hm2 : 1 + mode % 2 ≤ 2 := by omega
  generalize 1 + mode % 2 = m at *
  have cS := entK_any l ao cap w hc hq hR
  have kc := fun (W : World) (C : Array Value) (n c g : Nat) (hg : g = W.heap.size) => Joins.run_convert_bytes_const_at (P := Tryd.prog) W 28 5 C n c g hg Tryd.underlying28 Tryd.underlying5
  obtain ⟨hX1, hX21, hX12⟩ := entX_facts l
  have hel := entL_length l
  obtain ⟨z, hz, hz0, hzl, -⟩ := roll_fits m hmode (entX l).length (entX l) (Nat.le_refl _) (by omega) hX12
  have hXe : entX l = entL l ++ [[120]] := rfl
  generalize entX l = S at *
  generalize entL l = E at *
  have HXE := Lib.hid hXe
  have HEL := Lib.hid hel
  clear hc hq hR hXe hel
  generalize l.length = n at *
  go_enter Tryd.func7, Tryd.ntmps7
  go_wp2_with fail
  refine (cM _).mono ?_
  rintro e w1 ⟨rfl, rfl⟩
  clear cM
  go_wp2_with fail
  refine cS.mono ?_
  rintro e w1 ⟨v1, rfl, ho, hb1⟩
  clear cS
  have hba1 : Below w1.heap.size w1 (w1.alloc (.cells #[.int .u8 120] 5 (1, 2))) := (Below.refl _ _).alloc (Nat.le_refl _) _
  have hrow := rowT_litF w1 120 120 rfl (1, 2) w1.heap.size rfl
  have ho1 := ho.keep hba1
  have hb11 := below_step hb1 hb1.size hba1
  have hs11 := hb11.size
  obtain ⟨ao1, ca1, rfl, -⟩ := ho1.lines
  generalize hEn : E.length = en at *
  have HEN := Lib.hid hEn
  clear hEn
  go_wp2_with (first
    | (at_builtin; refine wpList_append_line rfl _ _ rfl w.heap.size _ E rfl ho1 _ [120] _ rfl (by simp) hrow (by have := HEL.out; have := HEN.out; omega) hs11 ?_; intro v5 w5 ho5 hb5)
    | fail)
  have hb05 := hb11.trans hb5
  rw [← HXE.out] at ho5
  obtain ⟨a6, c6, rfl, q1, q2, -, hl5⟩ := ho5.lines
  have hT5 := hT.keep hb05 (Nat.le_refl _)
  clear ho ho1 hba1 hrow hb1 hb11 hs11 ho5 hb5 hT kc HXE HEL HEN
  have cP := fun W => picked_any at_ (S.length : Int) W (by omega) (by omega) a0 a1
  obtain ⟨p, hp⟩ : ∃ p : Nat, at_ % (S.length : Int) = p := ⟨(at_ % (S.length : Int)).toNat, by
    have := Int.emod_nonneg at_ (show (S.length : Int) ≠ 0 by omega)
    omega⟩
  have hpl : p < S.length := by
    have := Int.emod_lt_of_pos at_ (show (0 : Int) < (S.length : Int) by omega)
    omega
  rw [hp] at cP
  obtain ⟨x, hx⟩ : ∃ x, S[p]? = some x := ⟨_, List.getElem?_eq_getElem hpl⟩
  have hSB : ∀ y ∈ S, y.length ≤ 140737488351232 := fun y hy => by have := hX12 y hy; omega
  have cR := rollTop_any m S a6 c6 w5 (by omega) (by omega) q1 q2 hSB hl5 hT5
  rw [topR_right m hmode S (by omega) z hz] at cR
  have cI := fun W hl hT => Include_any m S a6 c6 (p : Int) W (by omega) (by omega) q1 q2 (by omega) (by omega) hSB hl hT
  rw [incTop_right m hmode S (by omega) z hz p hpl] at cI
  have hfew := few_shift _ _ (incP_few m 6 S p hX1) hX21
  have hPB : ∀ y ∈ incP m 6 S p, y.length ≤ 140737488351232 := fun y hy => by have := incP_small m 6 S p y hy; omega
  have cC := fun at_ ct ae ce ap cp W ht he hc hq hl hT => CheckInclude_any m z at_ ct (S.length : Int) (p : Int) x ae ce (incP m 6 S p) ap cp W (by omega) (by omega) (by omega) (by omega) (by omega) (by omega) ht he (by have := hX12 x (List.mem_of_getElem? hx); omega) hc hq hPB hl hT
  rw [inc_fault_right m hmode S (by omega) z hz p x hx] at cC
  generalize incP m 6 S p = P at *
  rcases hl5 with h0 | ⟨al, ol, rfl, hal, h3⟩
  · rw [h0] at hX1; simp at hX1
  obtain ⟨A1, c1, d1, d2, d3, d4, d5⟩ := h3 p x hx
  have hrx : RowV w5 (.slice A1 x.length c1) x := ⟨A1, c1, rfl, d2, d3, d4, d5⟩
  have hl5 : Lines w5 (some ⟨al, ol, none⟩) S := .inr ⟨al, ol, rfl, hal, h3⟩
  obtain ⟨sl, hsl⟩ : ∃ sl, S.length = sl := ⟨_, rfl⟩
  obtain ⟨pl, hpl2⟩ : ∃ k, P.length = k := ⟨_, rfl⟩
  have HPL := Lib.hid hpl2
  rw [hsl] at cP cR cI cC hfew hX21 hX1 hpl q1 ⊢
  rw [hpl2] at hfew
  have hplI : (p : Int) < sl := by omega
  have hslI : (sl : Int) ≤ 21 := by omega
  have HFEW := Lib.hid hfew
  have hgt : 0 < z.length := hz0
  clear hfew hp hx hsl hpl hPB hSB hX12 hz hzl hX1 q1 q2 hmode h3 d2 d3 d4 d5 hz0 hpl2
  go_wp2_with fail
  go_simp
  go_wp2_with fail
  refine (cP _).mono ?_
  rintro e w6 ⟨rfl, rfl⟩
  clear cP
  go_wp2_with fail
  refine cR.mono ?_
  rintro e w6 ⟨v6, rfl, hr6, hb6⟩
  clear cR
  have hl6 := hl5.keep hb6
  have hT6 := hT5.keep hb6 (Nat.le_refl _)
  obtain ⟨ar, kr, rfl, i1, i2, i3, i4⟩ := hr6.row
  go_wp2_with fail
  refine (cI _ hl6 hT6).mono ?_
  rintro e w7 ⟨ap, cp, rfl, j1, j2, hl7, hb7⟩
  clear cI
  have hb57 := below_step hb6 hb6.size hb7
  have hbb := below_step hb05 hb05.size hb57
  have c := cC ar kr _ _ ap cp w7 (i4.keep hb7) (hrx.keep hb57) j1 j2 hl7 (hT6.keep hb7 (Nat.le_refl _))
  have d9 := (hb57.cell (p := ⟨al, ol + p, none⟩) hal).trans d1
  rw [HPL.out] at c ⊢
  clear cC hl6 hT6 hl5 hT5 hrx hr6 i1 i2 i3 i4 j1 j2 hl7 hb6 hb7 hb57 hb05 d1 hal
  generalize x.length = lx at *
  obtain ⟨zl, hzl'⟩ : ∃ rl, z.length = rl := ⟨_, rfl⟩
  rw [hzl'] at c hgt ⊢
  have hgtI : (0 : Int) < zl := by omega
  clear hzl'
  rcases HFEW.out with rfl | ⟨f1, f2, f3, f4⟩
  · go_wp2_with fail
    refine c.mono ?_
    rintro e w8 ⟨rfl, hb8⟩
    have hbb8 := below_step hbb hbb.size hb8
    clear c
    go_wp2_with fail
    go_ret
    exact ⟨rfl, hbb8⟩
  · have g3 : ¬ (pl : Int) = 0 := by omega
    have g4 : (pl : Int) ≤ 5 := by omega
    have g5 : (1 : Int) ≤ pl := by omega
    obtain ⟨pw, hpw⟩ : ∃ q : Int, ((2 ^ (pl - 1) : Nat) : Int) = q := ⟨_, rfl⟩
    rw [hpw] at f3 f4
    clear f1 f2 hpw HFEW HPL
    go_wp2_with fail
    refine c.mono ?_
    rintro e w8 ⟨rfl, hb8⟩
    have hbb8 := below_step hbb hbb.size hb8
    clear c
    go_wp2_with fail
    go_ret
    exact ⟨rfl, hbb8⟩
end Go.Proofs.YtdpfjhhcgaeiiabDoor
