/-
  THE WALK of the law 'chirographkeep.ExtendRight'.
  CONDITIONS: package sum's roundWords hold what their initialiser lays ('KW').
-/
import Derived.Test.YtdpfjhhcgaeiiabDoorLawT1
import Derived.Test.YtdpfjhhcgaeiiabDoorRollK
namespace Go.Proofs.YtdpfjhhcgaeiiabDoor
open Go.RowKit CodeMath Go.Proofs.YtdpfjhhcgaeiiabDoor.FrameMath
set_option linter.unusedVariables false
set_option maxRecDepth 100000

theorem sliceL_first (ap : Option Addr) (n cap k : Nat) (hk : k ≤ cap) (W : World) : (Instr.slice 23 (.slice ap n cap) none (some (.int .i64 (k : Int))) none).run Tryd.prog W = .ok (.slice ap k cap) W := by
  have hs : (sizeOf (Tryd.prog.elem 23)).run Tryd.prog W = .ok 1 W := by kernel_rfl
  have h := run_slice_h (P := Tryd.prog) W 23 ap n cap (by kernel_rfl) .i64 (k : Int) (by omega) (by omega)
  rw [h, hs, Int.toNat_natCast]
  simp only [Result.andThen, sliced, Nat.sub_zero]
  cases ap with
  | none => simp
  | some a => simp [Addr.add]
def extPath (m : Int) (S : List (List UInt8)) (k : Nat) : List (List UInt8) := if (k : Int) = 0 then [] else extP m 6 S k true
theorem extTop_right (m : Int) (hm : isMode m = true) (S : List (List UInt8)) (h64 : S.length ≤ 64) (z : List UInt8) (hz : rollR m S = .ok z) (k : Nat) (hk : k ≤ S.length) : extTop m S (k : Int) = .ok (extPath m S k) := by
  unfold extTop extPath
  rw [refR_fit m hm _ h64, if_neg (by decide), if_neg (by omega), hz, Int.toNat_natCast]
theorem parts_fit (m : Int) (hm : isMode m = true) (S : List (List UInt8)) (h64 : S.length ≤ 64) (hx : ∀ x ∈ S, x.length ≤ 12) : ∀ l', l' <:+: S → ∃ y, rollR m l' = .ok y := fun l' h => by
  obtain ⟨y, hy, _⟩ := roll_fits m hm l'.length l' (Nat.le_refl _) (by have := h.length_le; omega) (fun x hxl => hx x (h.subset hxl))
  exact ⟨y, hy⟩
theorem ext_fault_right (m : Int) (hm : isMode m = true) (S : List (List UInt8)) (h1 : 1 ≤ S.length) (h64 : S.length ≤ 64) (hall : ∀ l', l' <:+: S → ∃ y, rollR m l' = .ok y) (z z' : List UInt8) (hz : rollR m S = .ok z) (k : Nat) (hk : k ≤ S.length) (hz' : rollR m (S.take k) = .ok z') : extFaultR m z' (k : Int) z (S.length : Int) (extPath m S k) = 0 := by
  have e6 : 2 ^ 6 = 64 := by decide
  unfold extFaultR extPath
  rw [refR_fit m hm _ h64, if_neg (by decide), if_neg (by omega), Int.toNat_natCast, Int.toNat_natCast]
  by_cases hk0 : k = 0
  · subst hk0
    rw [List.take_zero] at hz'
    have hp : (if ((0 : Nat) : Int) = 0 then ([] : List (List UInt8)) else extP m 6 S 0 true) = [] := if_pos rfl
    rw [hp, if_pos (show ((0 : Nat) : Int) = 0 from rfl), if_pos ⟨rfl, (rootL_ok hz').symm, fun h => by omega⟩]
  · have hkn : ¬ (k : Int) = 0 := by omega
    simp only [if_neg hkn]
    obtain ⟨w, hw, hx⟩ := ext_right m z' 6 S k true z hall (by omega) (by omega) hk hz (fun _ => hz')
    rw [hz'] at hw
    cases hw
    rw [show (if true = true then z' else []) = z' from rfl] at hx
    rw [hx, if_pos rfl]
theorem extPath_small (m : Int) (S : List (List UInt8)) (k : Nat) (h21 : S.length ≤ 32) : (extPath m S k).length ≤ 6 ∧ ∀ y ∈ extPath m S k, y.length ≤ 16777300 := by
  unfold extPath
  split
  · exact ⟨by simp, by simp⟩
  · have e5 : 2 ^ 5 = 32 := by decide
    exact ⟨extP_few m 6 5 S k true (by omega) (by omega), extP_small m 6 S k true⟩
set_option maxHeartbeats 4000000 in
theorem extendRight_walk (mode : Int) (l : List R) (ao : Option Addr) (cap : Nat) (at_ : Int) (w : World) (hT : KW w) (m0 : -9223372036854775808 ≤ mode) (m1 : mode ≤ 9223372036854775807) (hc : l.length ≤ cap) (hq : cap ≤ 9223372036854775807) (hR : Raws w ao l) (a0 : -9223372036854775808 ≤ at_) (a1 : at_ ≤ 9223372036854775807) :
    Calls Tryd.prog 9 #[.int .i64 mode, .slice ao l.length cap, .int .i64 at_] w fun e w' => e = .returned (.bool true) ∧ Below w.heap.size w w' := by
  have cM := fun W => modeOf_any mode W m0 m1
  have hmode := modeOf_mode mode
  have hm0 : 1 ≤ 1 + mode % 2 := by omega
  have hm2 : 1 + mode % 2 ≤ 2 := by omega
  generalize 1 + mode % 2 = m at *
  have cS := entK_any l ao cap w hc hq hR
  have kc := fun (W : World) (C : Array Value) (n c g : Nat) (hg : g = W.heap.size) => Joins.run_convert_bytes_const_at (P := Tryd.prog) W 28 5 C n c g hg Tryd.underlying28 Tryd.underlying5
  obtain ⟨hX1, hX21, hX12⟩ := entX_facts l
  have hel := entL_length l
  obtain ⟨z, hz, hz0, hzl, -⟩ := roll_fits m hmode (entX l).length (entX l) (Nat.le_refl _) (by omega) hX12
  have hXe : entX l = entL l ++ [[120]] := rfl
  generalize entX l = S at *
  generalize entL l = E at *
  have HXE := Lib.hid hXe
  have HEL := Lib.hid hel
  clear hc hq hR hXe hel
  generalize l.length = n at *
  go_enter Tryd.func9, Tryd.ntmps9
  go_wp2_with fail
  refine (cM _).mono ?_
  rintro e w1 ⟨rfl, rfl⟩
  clear cM
  go_wp2_with fail
  refine cS.mono ?_
  rintro e w1 ⟨v1, rfl, ho, hb1⟩
  clear cS
  have hba1 : Below w1.heap.size w1 (w1.alloc (.cells #[.int .u8 120] 5 (1, 2))) := (Below.refl _ _).alloc (Nat.le_refl _) _
  have hrow := rowT_litF w1 120 120 rfl (1, 2) w1.heap.size rfl
  have ho1 := ho.keep hba1
  have hb11 := below_step hb1 hb1.size hba1
  have hs11 := hb11.size
  obtain ⟨ao1, ca1, rfl, -⟩ := ho1.lines
  generalize hEn : E.length = en at *
  have HEN := Lib.hid hEn
  clear hEn
  go_wp2_with (first
    | (at_builtin; refine wpList_append_line rfl _ _ rfl w.heap.size _ E rfl ho1 _ [120] _ rfl (by simp) hrow (by have := HEL.out; have := HEN.out; omega) hs11 ?_; intro v5 w5 ho5 hb5)
    | fail)
  have hb05 := hb11.trans hb5
  rw [← HXE.out] at ho5
  obtain ⟨a6, c6, rfl, q1, q2, -, hl5⟩ := ho5.lines
  have hT5 := hT.keep hb05 (Nat.le_refl _)
  clear ho ho1 hba1 hrow hb1 hb11 hs11 ho5 hb5 hT kc HXE HEL HEN
  have cP := fun W => picked_any at_ ((S.length : Int) + 1) W (by omega) (by omega) a0 a1
  obtain ⟨p, hp⟩ : ∃ p : Nat, at_ % ((S.length : Int) + 1) = p := ⟨(at_ % ((S.length : Int) + 1)).toNat, by
    have := Int.emod_nonneg at_ (show (S.length : Int) + 1 ≠ 0 by omega)
    omega⟩
  have hpl : p ≤ S.length := by
    have := Int.emod_lt_of_pos at_ (show (0 : Int) < (S.length : Int) + 1 by omega)
    omega
  rw [hp] at cP
  have hSB : ∀ y ∈ S, y.length ≤ 140737488351232 := fun y hy => by have := hX12 y hy; omega
  have hall := parts_fit m hmode S (by omega) hX12
  obtain ⟨z', hz', hz0', hzl', -⟩ := roll_fits m hmode (S.take p).length (S.take p) (Nat.le_refl _) (by rw [List.length_take]; omega) (fun x hx => hX12 x (List.mem_of_mem_take hx))
  have hfr := ext_fault_right m hmode S hX1 (by omega) hall z z' hz p hpl hz'
  have htl : (S.take p).length = p := by rw [List.length_take]; omega
  have cA := rollTop_any m (S.take p) a6 c6 w5 (by omega) (by omega) (by omega) q2 (fun x hx => hSB x (List.mem_of_mem_take hx)) (hl5.take p) hT5
  rw [topR_right m hmode (S.take p) (by omega) z' hz', htl] at cA
  have cR := fun W hl hT => rollTop_any m S a6 c6 W (by omega) (by omega) q1 q2 hSB hl hT
  rw [topR_right m hmode S (by omega) z hz] at cR
  have cI := fun W hl hT => Extend_any m S a6 c6 (p : Int) W (by omega) (by omega) q1 q2 (by omega) (by omega) hSB hl hT
  rw [extTop_right m hmode S (by omega) z hz p hpl] at cI
  obtain ⟨hP6, hPB0⟩ := extPath_small m S p (by omega)
  have hPB : ∀ y ∈ extPath m S p, y.length ≤ 140737488351232 := fun y hy => by have := hPB0 y hy; omega
  have cC := fun ao_ co at_ ct ap cp W ho ht hc hq hl hT => CheckExtend_any m z' ao_ co (p : Int) z at_ ct (S.length : Int) (extPath m S p) ap cp W (by omega) (by omega) (by omega) (by omega) (by omega) (by omega) ho (by rw [List.length_take] at hzl'; omega) ht hc hq hPB hl hT
  rw [hfr] at cC
  have s1 := fun W => sliceL_first a6 S.length c6 p (by omega) W
  generalize extPath m S p = P at *
  obtain ⟨sl, hsl⟩ : ∃ sl, S.length = sl := ⟨_, rfl⟩
  obtain ⟨pl, hpl2⟩ : ∃ k, P.length = k := ⟨_, rfl⟩
  have HPL := Lib.hid hpl2
  rw [hsl] at cP cR cI cC hX21 hX1 hpl q1 s1 ⊢
  rw [hpl2] at hP6
  have hplI : (p : Int) ≤ sl := by omega
  have hslI : (sl : Int) ≤ 21 := by omega
  have hgt : 0 < z'.length := hz0'
  have hP6I : (pl : Int) ≤ 6 := by omega
  clear hp hsl hpl hPB hPB0 hSB hX12 hz hzl hX1 q1 q2 hmode hz0 hpl2 hall hfr hz' hz0' hzl' htl
  go_wp2_with fail
  go_simp
  go_wp2_with fail
  refine (cP _).mono ?_
  rintro e w6 ⟨rfl, rfl⟩
  clear cP
  go_wp2_with fail
  have q8 := s1 w5
  refine cA.mono ?_
  rintro e w6 ⟨v6, rfl, hr6, hb6⟩
  clear cA s1 q8
  have hl6 := hl5.keep hb6
  have hT6 := hT5.keep hb6 (Nat.le_refl _)
  obtain ⟨ar, kr, rfl, i1, i2, i3, i4⟩ := hr6.row
  go_wp2_with fail
  refine (cR _ hl6 hT6).mono ?_
  rintro e w7 ⟨v7, rfl, hr7, hb7⟩
  clear cR
  have hl7 := hl6.keep hb7
  have hT7 := hT6.keep hb7 (Nat.le_refl _)
  obtain ⟨az, ks, rfl, j1, j2, j3, j4⟩ := hr7.row
  go_wp2_with fail
  refine (cI _ hl7 hT7).mono ?_
  rintro e w8 ⟨ap, cp, rfl, k1, k2, hl8, hb8⟩
  clear cI
  have hb68 := below_step hb7 hb7.size hb8
  have hbb := below_step hb05 hb05.size (below_step hb6 hb6.size hb68)
  have c := cC ar kr az ks ap cp w8 (hr6.row.keep hb68) (j4.keep hb8) k1 k2 hl8 (hT7.keep hb8 (Nat.le_refl _))
  rw [HPL.out] at c ⊢
  clear cC hl7 hT7 hl6 hT6 hl5 hT5 hr6 hr7 i1 i2 i3 i4 j1 j2 j3 j4 k1 k2 hl8 hb6 hb7 hb8 hb68 hb05
  obtain ⟨zl, hzl2⟩ : ∃ rl, z'.length = rl := ⟨_, rfl⟩
  rw [hzl2] at c hgt ⊢
  have hgtI : (0 : Int) < zl := by omega
  clear hzl2
  generalize z.length = zl2 at *
  go_wp2_with fail
  refine c.mono ?_
  rintro e w9 ⟨rfl, hb9⟩
  have hbb9 := below_step hbb hbb.size hb9
  clear c
  go_wp2_with fail
  go_ret
  exact ⟨rfl, hbb9⟩
end Go.Proofs.YtdpfjhhcgaeiiabDoor
