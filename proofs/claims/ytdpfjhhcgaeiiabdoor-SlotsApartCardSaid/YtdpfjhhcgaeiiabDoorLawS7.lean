/-
  THE WALK of the law 'chirographkeep.SlotsApart'.
  CONDITIONS: package sum's roundWords hold what their initialiser lays ('KW').
-/
import Derived.Test.YtdpfjhhcgaeiiabDoorPathK
import Derived.Test.YtdpfjhhcgaeiiabDoorSlotN
namespace Go.Proofs.YtdpfjhhcgaeiiabDoor
open Go.RowKit CodeMath Go.Proofs.YtdpfjhhcgaeiiabDoor.FrameMath
set_option linter.unusedVariables false
set_option maxRecDepth 100000

set_option maxHeartbeats 2000000 in
theorem slotsApart_walk (l : List R) (ao : Option Addr) (cap : Nat) (at_ : Int) (rk ra rb : Int) (rs : ByteArray) (w : World) (hT : KW w) (hc : l.length ≤ cap) (hq : cap ≤ 9223372036854775807) (hR : Raws w ao l) (a0 : -9223372036854775808 ≤ at_) (a1 : at_ ≤ 9223372036854775807)
    (wk : (Lit.int .i64 rk).wf = true) (wa : (Lit.int .i64 ra).wf = true) (wb : (Lit.int .i64 rb).wf = true) (hs : rs.size ≤ 9223372036854775807) :
    Calls Tryd.prog 6 #[.slice ao l.length cap, .int .i64 at_, .agg #[.int .i64 rk, .int .i64 ra, .int .i64 rb, .string rs]] w fun e w' => e = .returned (.bool true) ∧ Below w.heap.size w w' := by
  have hba := (Below.refl w.heap.size w).alloc (Nat.le_refl _) (.cells #[.int .i64 rk, .int .i64 ra, .int .i64 rb, .string rs] 38)
  have bx : Blk (w.alloc (.cells #[.int .i64 rk, .int .i64 ra, .int .i64 rb, .string rs] 38)) w.heap.size 38 [.int .i64 rk, .int .i64 ra, .int .i64 rb, .string rs] := Blk.new w _ _
  have cS := slotsOf_any l ao cap _ hc hq (hR.keep hba)
  have cO := fun W => slotOf_any ⟨rk, ra, rb, rs⟩ ⟨(bounds_i64 wk).1, (bounds_i64 wk).2, (bounds_i64 wa).1, (bounds_i64 wa).2⟩ W
  have hyg := R.slot_good ⟨rk, ra, rb, rs⟩
  obtain ⟨y, hy⟩ : ∃ y, R.slot ⟨rk, ra, rb, rs⟩ = y := ⟨_, rfl⟩
  rw [hy] at cO hyg
  simp only at cO
  clear hc hq hR wk wa wb hs hy
  generalize l.length = n at *
  go_enter Tryd.func6, Tryd.ntmps6
  go_wp2_with fail
  refine cS.mono ?_
  rintro e w1 ⟨v1, S, h, rfl, ho, hl, h4, hg, hb01⟩
  clear cS
  have bx1 := bx.call hb01
  have hb1 := below_step hba hba.size hb01
  have hT1 := hT.keep hb1 (Nat.le_refl _)
  have hS16 : S.length ≤ 16 := by
    rw [hl]
    have h9 : 2 ^ h ≤ 2 ^ 4 := Nat.pow_le_pow_right (by decide) h4
    have e4 : 2 ^ 4 = 16 := by decide
    omega
  have hS0 : 0 < S.length := by rw [hl]; exact Nat.pow_pos (by decide)
  have cP := fun W => picked_any at_ (S.length : Int) W (by omega) (by omega) a0 a1
  obtain ⟨p, hp⟩ : ∃ p : Nat, at_ % (S.length : Int) = p := ⟨(at_ % (S.length : Int)).toNat, by
    have := Int.emod_nonneg at_ (show (S.length : Int) ≠ 0 by omega)
    omega⟩
  have hpl : p < S.length := by
    have := Int.emod_lt_of_pos at_ (show (0 : Int) < (S.length : Int) by omega)
    omega
  rw [hp] at cP
  obtain ⟨x, hx⟩ : ∃ x, S[p]? = some x := ⟨_, List.getElem?_eq_getElem hpl⟩
  -- the other list
  have hl2 : (S.set p y).length = 2 ^ h := by rw [List.length_set]; exact hl
  have hg2 : ∀ z ∈ S.set p y, z.Good := fun z hz => by
    rcases List.mem_or_eq_of_mem_set hz with hz | rfl
    · exact hg z hz
    · exact hyg
  have hy2 : (S.set p y)[p]? = some y := List.getElem?_set_self hpl
  obtain ⟨rows, hr, hlv, hroot, hrl, hpw⟩ := levels_good 2 rfl S h (by omega) hl hg
  obtain ⟨rows2, hr2, hlv2, hroot2, hrl2, hpw2⟩ := levels_good 2 rfl (S.set p y) h (by omega) hl2 hg2
  have hsame : (rootB 2 h rows == rootB 2 h rows2) = decide (x = y) := by
    by_cases he : x = y
    · rw [decide_eq_true he]
      have : S.set p y = S := by
        rw [← he]
        refine List.ext_getElem? fun i => ?_
        by_cases hi : p = i
        · subst hi; rw [List.getElem?_set_self hpl, hx]
        · rw [List.getElem?_set_ne hi]
      rw [this] at hr2
      rw [hr] at hr2
      cases hr2
      simp
    · rw [decide_eq_false he]
      refine beq_false_of_ne fun hh => he ?_
      have e1 := rootB_inj h rows rows2 (by omega) (by rw [leavesR_length 2 S rows hr, hl]) (by rw [leavesR_length 2 _ rows2 hr2, hl2]) (leavesR_each 2 S rows hr) (leavesR_each 2 _ rows2 hr2) hh
      rw [← e1] at hr2
      have e2 := leavesR_inj _ _ _ hr hr2
      have h1 := hx
      rw [e2, hy2] at h1
      exact (Option.some.inj h1).symm
  have cR1 := fun ao cap W hc hq hS hT => Root_any 2 S ao cap W (by decide) (by decide) hc hq hS hT h (fun _ => hl)
  have cR2 := fun ao cap W hc hq hS hT => Root_any 2 (S.set p y) ao cap W (by decide) (by decide) hc hq hS hT h (fun _ => hl2)
  rw [hroot] at cR1
  rw [hroot2] at cR2
  rw [List.length_set] at cR2
  obtain ⟨sl, hsl⟩ : ∃ sl, S.length = sl := ⟨_, rfl⟩
  obtain ⟨g1, cap1, us, ud, rfl, hgb, hgl, s0, s1, s2, s3, s4, -⟩ := ho.at p x hx
  have HSL := Lib.hid hsl
  rw [hsl] at hS16 hS0 cP hpl cR1 cR2 ho ⊢
  have hplI : (p : Int) < sl := by omega
  have hpp := hplI
  generalize rootB 2 h rows = RA at *
  generalize rootB 2 h rows2 = RB at *
  have HX := Lib.hid hx
  have HY := Lib.hid hy2
  have HPL := Lib.hid hpl
  have H0 := Lib.hid hS0
  have H16 := Lib.hid hS16
  obtain ⟨a5, k5, rfl, -⟩ := id s3
  obtain ⟨a6, k6, rfl, -⟩ := id s4
  clear hp hroot hroot2 hlv hlv2 hr hr2 hl hl2 hg hg2 hpw hpw2 hx hy2 hyg hsl hpl hS0 h4
  have ho0 : OwnSl (w1.alloc (.cells #[] 40)) w1.heap.size (.slice (some ⟨w1.heap.size, 0, none⟩) 0 0) [] := ⟨[], World.ownsRow_lit w1 #[] 0 (Nat.le_refl _) (by decide) rfl, fun i l h => by simp at h⟩
  have hbl : Below w1.heap.size w1 (w1.alloc (.cells #[] 40)) := (Below.refl _ _).alloc (Nat.le_refl _) _
  have ho1 := ho.keep hbl
  go_upto_region 3 with (first
    | (at_builtin; refine wpList_append_slots rfl _ _ rfl w1.heap.size _ rfl ho0 _ _ S rfl ho1 (by rw [HSL.out]; exact H0.out) (by have := HSL.out; have := H16.out; omega) hbl.size ?_; intro v5 w5 ho5 hb5)
    | fail)
  have hb15 := hbl.trans hb5
  obtain ⟨g5, cap5, _, _, rfl, hg5b, hg5l, -⟩ := ho5.at p x HX.out
  rw [HSL.out] at ho5 ⊢
  have bx5 := bx1.call hb15
  have p0 : w5.cell? ⟨w.heap.size, 0, none⟩ = some (.int .i64 rk) := bx5.cell rfl
  have p1 : w5.cell? ⟨w.heap.size, 1, none⟩ = some (.int .i64 ra) := bx5.cell rfl
  have p2 : w5.cell? ⟨w.heap.size, 2, none⟩ = some (.int .i64 rb) := bx5.cell rfl
  have p3 : w5.cell? ⟨w.heap.size, 3, none⟩ = some (.string rs) := bx5.cell rfl
  clear ho0 ho1 hbl hb5 bx bx1 bx5 hba hb01
  go_wp2_with fail
  refine (cP _).mono ?_
  rintro e w6 ⟨rfl, rfl⟩
  clear cP
  go_wp2_with fail
  refine (cO _).mono ?_
  rintro e w6 ⟨u1, u2, rfl, hu1, hu2, hb6⟩
  clear cO p0 p1 p2 p3
  obtain ⟨a7, k7, rfl, -⟩ := id hu1
  obtain ⟨a8, k8, rfl, -⟩ := id hu2
  have ho6 := ho5.keep hb6
  have hb16 := below_step hb15 hb15.size hb6
  have ht6 := ho6.put HSL.out p (by rw [HSL.out]; exact HPL.out) y y.f rfl _ _ hu1 hu2
  obtain ⟨g9, cap9, c1, c2, e9, -, -, t0, t1, t2, t3, t4, t5⟩ := ho6.at p x HX.out
  obtain ⟨e91, -, -⟩ := Value.slice.inj e9
  simp only [Option.some.injEq, Addr.mk.injEq, and_true] at e91
  subst e91
  obtain ⟨_, _, rfl, -⟩ := id t3
  obtain ⟨_, _, rfl, -⟩ := id t4
  have f0 := t5 (p * 3)
  have f1 := t5 (p * 3 + 1)
  have f2 := t5 (p * 3 + 2)
  have hb17 : Below w1.heap.size w1 (((w6.setCell ⟨g5, p * 3, none⟩ (.bool y.f)).setCell ⟨g5, p * 3 + 1, none⟩ (.slice a7 y.s.length k7)).setCell ⟨g5, p * 3 + 2, none⟩ (.slice a8 y.d.length k8)) := ((hb16.setCell (p := ⟨g5, p * 3, none⟩) hg5b _).setCell (p := ⟨g5, p * 3 + 1, none⟩) hg5b _).setCell (p := ⟨g5, p * 3 + 2, none⟩) hg5b _
  clear hb6 ho5 ho6 t3 t4 t5 e9 hu1 hu2 hb15 hb16
  generalize x.s.length = l5 at *
  generalize x.d.length = l6 at *
  go_upto_region 5 with fail
  generalize (((w6.setCell ⟨g5, p * 3, none⟩ (.bool y.f)).setCell ⟨g5, p * 3 + 1, none⟩ (.slice a7 y.s.length k7)).setCell ⟨g5, p * 3 + 2, none⟩ (.slice a8 y.d.length k8)) = w7 at *
  clear t0 t1 t2 f0 f1 f2
  have hb07 := below_step hb1 hb1.size hb17
  have ho7 := ho.keep hb17
  obtain ⟨ag, kg, eg, gq1, gq2, -, hSg⟩ := ho7.slots
  rw [HSL.out] at eg gq1
  cases eg
  have c := cR1 _ _ w7 gq1 gq2 hSg (hT1.keep hb17 (Nat.le_refl _))
  clear cR1
  go_wp2_with fail
  refine c.mono ?_
  rintro e w8 ⟨v8, rfl, hr8, hb8⟩
  clear c hSg gq1 gq2
  obtain ⟨a9, k9, rfl, i1, i2, i3, i4⟩ := hr8.row
  have ht8 := ht6.keep hb8
  have hl8 : (S.set p y).length = sl := by rw [List.length_set]; exact HSL.out
  obtain ⟨ah, kh, eh, gq1, gq2, -, hSh⟩ := ht8.slots
  rw [hl8] at eh gq1
  cases eh
  have hb18 := below_step hb17 hb17.size hb8
  have c := cR2 _ _ w8 gq1 gq2 hSh (hT1.keep hb18 (Nat.le_refl _))
  clear cR2
  go_wp2_with fail
  refine c.mono ?_
  rintro e w9 ⟨v9, rfl, hr9, hb9⟩
  clear c hSh gq1 gq2
  have hb19 := below_step hb18 hb18.size hb9
  have hb09 := below_step hb07 hb07.size (below_step hb8 hb8.size hb9)
  obtain ⟨a10, k10, rfl, j1, j2, j3, j4⟩ := hr9.row
  have i5 := i4.keep hb9
  have ho9 := ho.keep hb19
  have ht9 := ht8.keep hb9
  obtain ⟨gA, cA, uA, vA, eA, -, hgA, x0, x1, x2, x3, x4, -⟩ := ho9.at p x HX.out
  obtain ⟨gB, cB, uB, vB, eB, -, hgB, y0, y1, y2, y3, y4, -⟩ := ht9.at p y HY.out
  rw [HSL.out] at eA
  rw [hl8] at eB
  cases eA
  cases eB
  have cE := fun W hW => sameSlot_any x y _ _ _ _ W ((x3.keep hW).row) ((x4.keep hW).row) ((y3.keep hW).row) ((y4.keep hW).row)
  obtain ⟨_, _, rfl, -⟩ := id x3
  obtain ⟨_, _, rfl, -⟩ := id x4
  obtain ⟨_, _, rfl, -⟩ := id y3
  obtain ⟨_, _, rfl, -⟩ := id y4
  have HE := Lib.hid cE
  have HC := Lib.hid (fun W (hW : Below w9.heap.size w9 W) => (⟨(hW.cell (p := ⟨g1, p * 3, none⟩) hgA).trans x0, (hW.cell (p := ⟨g1, p * 3 + 1, none⟩) hgA).trans x1, (hW.cell (p := ⟨g1, p * 3 + 2, none⟩) hgA).trans x2, (hW.cell (p := ⟨g5, p * 3, none⟩) hgB).trans y0, (hW.cell (p := ⟨g5, p * 3 + 1, none⟩) hgB).trans y1, (hW.cell (p := ⟨g5, p * 3 + 2, none⟩) hgB).trans y2, bytes_string (cap := k9) (i5.keep hW), bytes_string (cap := k10) (j4.keep hW)⟩ : _ ∧ _ ∧ _ ∧ _ ∧ _ ∧ _ ∧ _ ∧ _))
  have hgt : (0 : Int) < RA.length := by omega
  have hgtN : 0 < RA.length := by omega
  generalize decide (x = y) = sm at *
  clear ho ho7 ho9 ht6 ht8 ht9 x0 x1 x2 x3 x4 y0 y1 y2 y3 y4 cE hr8 hr9 i1 i2 i3 i4 i5 j1 j2 j3 j4 hb8 hb9 hb18 hb19 hb17 hb1 hrl hrl2
  generalize RA.length = la at *
  generalize RB.length = lb at *
  cases sm
  all_goals
    go_upto_region 7 with fail
    refine wp_region_det 28 (by kernel_rfl) (by kernel_rfl) (by kernel_rfl) ?_
    simp only [List.take_succ_cons, List.take_zero, List.drop_succ_cons, List.drop_zero]
    (apply wpDet_plain _ rfl; (focus (intro W hW; obtain ⟨q0, q1, q2, q3, q4, q5, q6, q7⟩ := HC.out W hW; go_simp; exact ⟨rfl, Below.refl _ _⟩)); simp only [Act.put, List.setIfInBounds_toArray, List.set_cons_zero, List.set_cons_succ])
    (apply wpDet_plain _ rfl; (focus (intro W hW; obtain ⟨q0, q1, q2, q3, q4, q5, q6, q7⟩ := HC.out W hW; go_simp; exact ⟨rfl, Below.refl _ _⟩)); simp only [Act.put, List.setIfInBounds_toArray, List.set_cons_zero, List.set_cons_succ])
    (apply wpDet_plain _ rfl; (focus (intro W hW; obtain ⟨q0, q1, q2, q3, q4, q5, q6, q7⟩ := HC.out W hW; go_simp; exact ⟨rfl, Below.refl _ _⟩)); simp only [Act.put, List.setIfInBounds_toArray, List.set_cons_zero, List.set_cons_succ])
    (apply wpDet_want _ (by kernel_rfl); (focus (intro W hW; obtain ⟨q0, q1, q2, q3, q4, q5, q6, q7⟩ := HC.out W hW; go_simp; exact ⟨rfl, Below.refl _ _⟩)); simp only [Act.put, List.setIfInBounds_toArray, List.set_cons_zero, List.set_cons_succ])
    (apply wpDet_want _ (by kernel_rfl); (focus (intro W hW; obtain ⟨q0, q1, q2, q3, q4, q5, q6, q7⟩ := HC.out W hW; go_simp; exact ⟨rfl, Below.refl _ _⟩)); simp only [Act.put, List.setIfInBounds_toArray, List.set_cons_zero, List.set_cons_succ])
    (apply wpDet_plain _ rfl; (focus (intro W hW; obtain ⟨q0, q1, q2, q3, q4, q5, q6, q7⟩ := HC.out W hW; go_simp; exact ⟨rfl, Below.refl _ _⟩)); simp only [Act.put, List.setIfInBounds_toArray, List.set_cons_zero, List.set_cons_succ])
    (apply wpDet_plain _ rfl; (focus (intro W hW; obtain ⟨q0, q1, q2, q3, q4, q5, q6, q7⟩ := HC.out W hW; go_simp; exact ⟨rfl, Below.refl _ _⟩)); simp only [Act.put, List.setIfInBounds_toArray, List.set_cons_zero, List.set_cons_succ])
    (apply wpDet_want _ (by kernel_rfl); (focus (intro W hW; obtain ⟨q0, q1, q2, q3, q4, q5, q6, q7⟩ := HC.out W hW; go_simp; exact ⟨rfl, Below.refl _ _⟩)); simp only [Act.put, List.setIfInBounds_toArray, List.set_cons_zero, List.set_cons_succ])
    (apply wpDet_want _ (by kernel_rfl); (focus (intro W hW; obtain ⟨q0, q1, q2, q3, q4, q5, q6, q7⟩ := HC.out W hW; go_simp; exact ⟨rfl, Below.refl _ _⟩)); simp only [Act.put, List.setIfInBounds_toArray, List.set_cons_zero, List.set_cons_succ])
    (apply wpDet_want _ (by kernel_rfl); (focus (intro W hW; obtain ⟨q0, q1, q2, q3, q4, q5, q6, q7⟩ := HC.out W hW; go_simp; exact ⟨rfl, Below.refl _ _⟩)); simp only [Act.put, List.setIfInBounds_toArray, List.set_cons_zero, List.set_cons_succ])
    (apply wpDet_plain _ rfl; (focus (intro W hW; obtain ⟨q0, q1, q2, q3, q4, q5, q6, q7⟩ := HC.out W hW; go_simp; exact ⟨rfl, Below.refl _ _⟩)); simp only [Act.put, List.setIfInBounds_toArray, List.set_cons_zero, List.set_cons_succ])
    (apply wpDet_plain _ rfl; (focus (intro W hW; obtain ⟨q0, q1, q2, q3, q4, q5, q6, q7⟩ := HC.out W hW; go_simp; exact ⟨rfl, Below.refl _ _⟩)); simp only [Act.put, List.setIfInBounds_toArray, List.set_cons_zero, List.set_cons_succ])
    (apply wpDet_want _ (by kernel_rfl); (focus (intro W hW; obtain ⟨q0, q1, q2, q3, q4, q5, q6, q7⟩ := HC.out W hW; go_simp; exact ⟨rfl, Below.refl _ _⟩)); simp only [Act.put, List.setIfInBounds_toArray, List.set_cons_zero, List.set_cons_succ])
    (apply wpDet_want _ (by kernel_rfl); (focus (intro W hW; obtain ⟨q0, q1, q2, q3, q4, q5, q6, q7⟩ := HC.out W hW; go_simp; exact ⟨rfl, Below.refl _ _⟩)); simp only [Act.put, List.setIfInBounds_toArray, List.set_cons_zero, List.set_cons_succ])
    (apply wpDet_want _ (by kernel_rfl); (focus (intro W hW; obtain ⟨q0, q1, q2, q3, q4, q5, q6, q7⟩ := HC.out W hW; go_simp; exact ⟨rfl, Below.refl _ _⟩)); simp only [Act.put, List.setIfInBounds_toArray, List.set_cons_zero, List.set_cons_succ])
    (apply wpDet_want _ (by kernel_rfl); (focus (intro W hW; obtain ⟨q0, q1, q2, q3, q4, q5, q6, q7⟩ := HC.out W hW; go_simp; exact ⟨rfl, Below.refl _ _⟩)); simp only [Act.put, List.setIfInBounds_toArray, List.set_cons_zero, List.set_cons_succ])
    (apply wpDet_want _ (by kernel_rfl); (focus (intro W hW; obtain ⟨q0, q1, q2, q3, q4, q5, q6, q7⟩ := HC.out W hW; go_simp; exact ⟨rfl, Below.refl _ _⟩)); simp only [Act.put, List.setIfInBounds_toArray, List.set_cons_zero, List.set_cons_succ])
    (apply wpDet_want _ (by kernel_rfl); (focus (intro W hW; obtain ⟨q0, q1, q2, q3, q4, q5, q6, q7⟩ := HC.out W hW; go_simp; exact ⟨rfl, Below.refl _ _⟩)); simp only [Act.put, List.setIfInBounds_toArray, List.set_cons_zero, List.set_cons_succ])
    (apply wpDet_want _ (by kernel_rfl); (focus (intro W hW; obtain ⟨q0, q1, q2, q3, q4, q5, q6, q7⟩ := HC.out W hW; go_simp; exact ⟨rfl, Below.refl _ _⟩)); simp only [Act.put, List.setIfInBounds_toArray, List.set_cons_zero, List.set_cons_succ])
    (apply wpDet_want _ (by kernel_rfl); (focus (intro W hW; obtain ⟨q0, q1, q2, q3, q4, q5, q6, q7⟩ := HC.out W hW; go_simp; exact ⟨rfl, Below.refl _ _⟩)); simp only [Act.put, List.setIfInBounds_toArray, List.set_cons_zero, List.set_cons_succ])
    (apply wpDet_want _ (by kernel_rfl); (focus (intro W hW; obtain ⟨q0, q1, q2, q3, q4, q5, q6, q7⟩ := HC.out W hW; go_simp; exact ⟨rfl, Below.refl _ _⟩)); simp only [Act.put, List.setIfInBounds_toArray, List.set_cons_zero, List.set_cons_succ])
    (apply wpDet_want _ (by kernel_rfl); (focus (intro W hW; obtain ⟨q0, q1, q2, q3, q4, q5, q6, q7⟩ := HC.out W hW; go_simp; exact ⟨rfl, Below.refl _ _⟩)); simp only [Act.put, List.setIfInBounds_toArray, List.set_cons_zero, List.set_cons_succ])
    (apply wpDet_want _ (by kernel_rfl); (focus (intro W hW; obtain ⟨q0, q1, q2, q3, q4, q5, q6, q7⟩ := HC.out W hW; go_simp; exact ⟨rfl, Below.refl _ _⟩)); simp only [Act.put, List.setIfInBounds_toArray, List.set_cons_zero, List.set_cons_succ])
    (apply wpDet_want _ (by kernel_rfl); (focus (intro W hW; obtain ⟨q0, q1, q2, q3, q4, q5, q6, q7⟩ := HC.out W hW; go_simp; exact ⟨rfl, Below.refl _ _⟩)); simp only [Act.put, List.setIfInBounds_toArray, List.set_cons_zero, List.set_cons_succ])
    (apply wpDet_want _ (by kernel_rfl); (focus (intro W hW; obtain ⟨q0, q1, q2, q3, q4, q5, q6, q7⟩ := HC.out W hW; go_simp; exact ⟨rfl, Below.refl _ _⟩)); simp only [Act.put, List.setIfInBounds_toArray, List.set_cons_zero, List.set_cons_succ])
    (apply wpDet_want _ (by kernel_rfl); (focus (intro W hW; have c := HE.out W hW; go_simp; (with_reducible refine c.mono ?_); rintro e w' ⟨rfl, hb⟩; exact ⟨rfl, hb⟩)); simp only [Act.put, List.setIfInBounds_toArray, List.set_cons_zero, List.set_cons_succ])
    (apply wpDet_want _ (by kernel_rfl); (focus (intro W hW; obtain ⟨q0, q1, q2, q3, q4, q5, q6, q7⟩ := HC.out W hW; go_simp; exact ⟨rfl, Below.refl _ _⟩)); simp only [Act.put, List.setIfInBounds_toArray, List.set_cons_zero, List.set_cons_succ])
    (apply wpDet_plain _ rfl; (focus (intro W hW; obtain ⟨q0, q1, q2, q3, q4, q5, q6, q7⟩ := HC.out W hW; go_simp; exact ⟨rfl, Below.refl _ _⟩)); simp only [Act.put, List.setIfInBounds_toArray, List.set_cons_zero, List.set_cons_succ])
    refine wpDet_nil ?_
    intro W9 hW9
    have hBB := below_step hb09 hb09.size hW9
    clear HC HE
    go_wp2_with fail
    go_ret
    exact ⟨rfl, hBB⟩
end Go.Proofs.YtdpfjhhcgaeiiabDoor
