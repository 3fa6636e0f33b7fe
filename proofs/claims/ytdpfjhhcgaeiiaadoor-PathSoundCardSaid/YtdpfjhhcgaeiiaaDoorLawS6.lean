/-
  THE WALK of the law 'chirographkeep.PathSound'.
  CONDITIONS: package sum's roundWords hold what their initialiser lays ('KW').
-/
import Derived.Test.YtdpfjhhcgaeiiaaDoorPathK
namespace Go.Proofs.YtdpfjhhcgaeiiaaDoor
open Go.RowKit CodeMath Go.Proofs.YtdpfjhhcgaeiiaaDoor.FrameMath
set_option linter.unusedVariables false
set_option maxRecDepth 100000

set_option maxHeartbeats 2000000 in
theorem pathSound_walk (l : List R) (ao : Option Addr) (cap : Nat) (at_ : Int) (rk ra rb : Int) (rs : ByteArray) (path : List (List UInt8)) (ap : Option Addr) (cp : Nat) (w : World) (hT : KW w) (hc : l.length ≤ cap) (hq : cap ≤ 9223372036854775807) (hR : Raws w ao l) (a0 : -9223372036854775808 ≤ at_) (a1 : at_ ≤ 9223372036854775807)
    (wk : (Lit.int .i64 rk).wf = true) (wa : (Lit.int .i64 ra).wf = true) (wb : (Lit.int .i64 rb).wf = true) (hs : rs.size ≤ 9223372036854775807) (hcp : path.length ≤ cp) (hqp : cp ≤ 9223372036854775807) (hrp : path.length ≤ 140737488351232 ∧ ∀ x ∈ path, x.length ≤ 140737488351232) (hlp : Lines w ap path) :
    Calls Tryd.prog 13 #[.slice ao l.length cap, .int .i64 at_, .agg #[.int .i64 rk, .int .i64 ra, .int .i64 rb, .string rs], .slice ap path.length cp] w fun e w' => e = .returned (.bool true) ∧ Below w.heap.size w w' := by
  have hba := (Below.refl w.heap.size w).alloc (Nat.le_refl _) (.cells #[.int .i64 rk, .int .i64 ra, .int .i64 rb, .string rs] 60)
  have bx : Blk (w.alloc (.cells #[.int .i64 rk, .int .i64 ra, .int .i64 rb, .string rs] 60)) w.heap.size 60 [.int .i64 rk, .int .i64 ra, .int .i64 rb, .string rs] := Blk.new w _ _
  have cS := slotsOf_any l ao cap _ hc hq (hR.keep hba)
  have cO := fun W => slotOf_any ⟨rk, ra, rb, rs⟩ ⟨(bounds_i64 wk).1, (bounds_i64 wk).2, (bounds_i64 wa).1, (bounds_i64 wa).2⟩ W
  obtain ⟨y, hy⟩ : ∃ y, R.slot ⟨rk, ra, rb, rs⟩ = y := ⟨_, rfl⟩
  rw [hy] at cO
  simp only at cO
  clear hc hq hR wk wa wb hs hy hcp hqp
  generalize l.length = n at *
  obtain ⟨pl, hpln⟩ : ∃ pl, path.length = pl := ⟨_, rfl⟩
  have HPLN := Lib.hid hpln
  have hrp1 := hrp.1
  rw [hpln] at hrp1 ⊢
  clear hpln
  go_enter Tryd.func13, Tryd.ntmps13
  go_wp2_with fail
  refine cS.mono ?_
  rintro e w1 ⟨v1, S, h, rfl, ho, hl, h4, hg, hb01⟩
  clear cS
  have bx1 := bx.call hb01
  have hb1 := below_step hba hba.size hb01
  obtain ⟨a2, k2, rfl, hc2, hq2, -, hS⟩ := ho.slots
  obtain ⟨rows, hr, hlv, hroot, hrl, hpw⟩ := levels_good 2 rfl S h (by omega) hl hg
  have hS16 : S.length ≤ 16 := by
    rw [hl]
    have h9 : 2 ^ h ≤ 2 ^ 4 := Nat.pow_le_pow_right (by decide) h4
    have e4 : 2 ^ 4 = 16 := by decide
    omega
  have hS0 : 0 < S.length := by rw [hl]; exact Nat.pow_pos (by decide)
  have cP := fun W => picked_any at_ (S.length : Int) W (by omega) (by omega) a0 a1
  obtain ⟨p, hp⟩ : ∃ p : Nat, at_ % (S.length : Int) = p := ⟨(at_ % (S.length : Int)).toNat, by
    have := Int.emod_nonneg at_ (show (S.length : Int) ≠ 0 by omega)
    omega⟩
  have hpl : p < S.length := by
    have := Int.emod_lt_of_pos at_ (show (0 : Int) < (S.length : Int) by omega)
    omega
  rw [hp] at cP
  have hT1 := hT.keep hb1 (Nat.le_refl _)
  have cR := Root_any 2 S a2 k2 w1 (by decide) (by decide) hc2 hq2 hS hT1 h (fun _ => hl)
  rw [hroot] at cR
  have hpath : pathR 2 h S (p : Int) = .ok (wayB 2 rows p h) := by
    unfold pathR
    rw [hlv]
    simp only [Int.toNat_natCast]
    rw [if_pos (by omega)]
  have cW := fun W hW hk => Path_any 2 S a2 k2 (p : Int) W (by decide) (by decide) hc2 hq2 (by omega) (by omega) hW hk h (by omega) (fun _ => hl)
  rw [hpath] at cW
  obtain ⟨x, hx⟩ : ∃ x, S[p]? = some x := ⟨_, List.getElem?_eq_getElem hpl⟩
  have hchk := check_right 2 rfl S rows p h (by omega) hl hr x hx hpw
  have hsnd := check_sound S rows p h (by omega) hl hr x hx y.f y.s y.d
  have hwl := wayB_length 2 rows p h
  have hwe := wayB_each 2 rows p h (by omega) (by rw [leavesR_length 2 S rows hr, hl]) (leavesR_each 2 S rows hr) (by omega)
  have cC1 := fun ar cr us ud W hr' hs hd hl' hk => CheckPath_any 2 (rootB 2 h rows) ar cr (S.length : Int) (p : Int) y.f y.s y.d us ud path ap cp h (by omega) (fun _ => by rw [hl]) W (by decide) (by decide) (by omega) (by omega) (by omega) (by omega) hr' hs hd (by have := hrp.1; omega) hrp.2 hl' hk
  have cC2 := fun ar cr us ud ap cp W hr' hs hd hl' hk => CheckPath_any 2 (rootB 2 h rows) ar cr (S.length : Int) (p : Int) y.f y.s y.d us ud (wayB 2 rows p h) ap cp h (by omega) (fun _ => by rw [hl]) W (by decide) (by decide) (by omega) (by omega) (by omega) (by omega) hr' hs hd (by rw [hwl]; omega) (fun b hb => by have := hwe b hb; omega) hl' hk
  obtain ⟨sm, hsm⟩ : ∃ sm, decide (y = x) = sm := ⟨_, rfl⟩
  obtain ⟨R1, hR1⟩ : ∃ R1, checkR 2 (rootB 2 h rows) (S.length : Int) (p : Int) y.f y.s y.d path h = R1 := ⟨_, rfl⟩
  obtain ⟨R2, hR2⟩ : ∃ R2, checkR 2 (rootB 2 h rows) (S.length : Int) (p : Int) y.f y.s y.d (wayB 2 rows p h) h = R2 := ⟨_, rfl⟩
  have hyx : ∀ pth, checkR 2 (rootB 2 h rows) (S.length : Int) (p : Int) y.f y.s y.d pth h = 0 → y = x := fun pth h0 => by
    obtain ⟨e1, e2, e3⟩ := hsnd pth h0
    obtain ⟨yf, ys, yd⟩ := y
    obtain ⟨xf, xs, xd⟩ := x
    simp only at e1 e2 e3
    rw [e1, e2, e3]
  have H1 : Hid (R1 = 0 → sm = true) := Lib.hid fun h0 => by rw [← hsm]; exact decide_eq_true (hyx path (hR1.trans h0))
  have H2 : Hid ((R2 == 0) = sm) := by
    show _ = _
    rw [← hsm]
    by_cases hh : y = x
    · rw [decide_eq_true hh]
      have : R2 = 0 := by rw [← hR2, hh]; exact hchk
      rw [this]; rfl
    · rw [decide_eq_false hh]
      have : ¬ R2 = 0 := fun h0 => hh (hyx _ (hR2.trans h0))
      simpa using this
  rw [hR1] at cC1
  rw [hR2] at cC2
  rcases hS with h0 | ⟨ga, go, rfl, hga, hel⟩
  · rw [h0] at hS0; simp at hS0
  obtain ⟨us, ud, s0, s1, s2, s3, s4⟩ := hel p x hx
  have cE := fun u1 u2 W h1 h2 h3 h4 => sameSlot_any y x u1 u2 us ud W h1 h2 h3 h4
  rw [hsm] at cE
  have hSS : Slots w1 (some ⟨ga, go, none⟩) S := .inr ⟨ga, go, rfl, hga, hel⟩
  obtain ⟨a5, k5, rfl, -⟩ := id s3
  obtain ⟨a6, k6, rfl, -⟩ := id s4
  have HWL := Lib.hid hwl
  generalize rootB 2 h rows = RB at *
  generalize wayB 2 rows p h = WB at *
  obtain ⟨sl, hsl⟩ : ∃ sl, S.length = sl := ⟨_, rfl⟩
  rw [hsl] at hS16 hS0 cP hpl cR cW cC1 cC2 ⊢
  have hplI : (p : Int) < sl := by omega
  have hI4 : (h : Int) ≤ 4 := by omega
  have hgt : 0 < RB.length := hrl
  clear hp hpath hroot hlv hr hchk hsnd hyx hR1 hR2 hsm hwl hwe hl hg hpw hx hel ho hc2 hq2 hsl hpl hrl hrp
  go_wp2_with fail
  refine (cP _).mono ?_
  rintro e w2 ⟨rfl, rfl⟩
  clear cP
  go_wp2_with fail
  refine cR.mono ?_
  rintro e w2 ⟨v2, rfl, hr2, hb2⟩
  clear cR
  have c := cW w2 (hSS.keep hb2) (hT1.keep hb2 (Nat.le_refl _))
  clear cW
  obtain ⟨ar, kr, rfl, i1, i2, i3, i4⟩ := hr2.row
  go_wp2_with fail
  refine c.mono ?_
  rintro e w3 ⟨aq, cq, rfl, hl3, hb3⟩
  clear c
  have hb13 := below_step hb2 hb2.size hb3
  have bx3 := bx1.call hb13
  have p0 : w3.cell? ⟨w.heap.size, 0, none⟩ = some (.int .i64 rk) := bx3.cell rfl
  have p1 : w3.cell? ⟨w.heap.size, 1, none⟩ = some (.int .i64 ra) := bx3.cell rfl
  have p2 : w3.cell? ⟨w.heap.size, 2, none⟩ = some (.int .i64 rb) := bx3.cell rfl
  have p3 : w3.cell? ⟨w.heap.size, 3, none⟩ = some (.string rs) := bx3.cell rfl
  clear bx bx1 bx3 hb01 hba
  generalize x.s.length = l5 at *
  generalize x.d.length = l6 at *
  obtain ⟨rl, hrl'⟩ : ∃ rl, RB.length = rl := ⟨_, rfl⟩
  rw [hrl'] at cC1 cC2 hgt ⊢
  have hgtI : (0 : Int) < rl := by omega
  rw [HWL.out] at cC2 ⊢
  clear hrl'
  go_wp2_with fail
  refine (cO _).mono ?_
  rintro e w4 ⟨u1, u2, rfl, hu1, hu2, hb4⟩
  clear cO p0 p1 p2 p3
  obtain ⟨a7, k7, rfl, -⟩ := id hu1
  obtain ⟨a8, k8, rfl, -⟩ := id hu2
  have hb14 := below_step hb13 hb13.size hb4
  have hl4 := hl3.keep hb4
  have j4 := i4.keep (below_step hb3 hb3.size hb4)
  clear hl3 i1 i2 i3 i4 hr2 hb2 hb3 hb4 hb13
  generalize y.s.length = l7 at *
  generalize y.d.length = l8 at *
  go_upto_region 6 with fail
  have hba4 : Below w.heap.size w (w4.alloc (.cells #[.bool y.f, .slice a7 l7 k7, .slice a8 l8 k8] 31)) := (below_step hb1 hb1.size hb14).alloc (below_step hb1 hb1.size hb14).size _
  have hb15 : Below w1.heap.size w1 (w4.alloc (.cells #[.bool y.f, .slice a7 l7 k7, .slice a8 l8 k8] 31)) := hb14.alloc hb14.size _
  have hb45 : Below w4.heap.size w4 (w4.alloc (.cells #[.bool y.f, .slice a7 l7 k7, .slice a8 l8 k8] 31)) := (Below.refl _ _).alloc (Nat.le_refl _) _
  have b5 : Blk (w4.alloc (.cells #[.bool y.f, .slice a7 l7 k7, .slice a8 l8 k8] 31)) w4.heap.size 31 [.bool y.f, .slice a7 l7 k7, .slice a8 l8 k8] := Blk.new w4 _ _
  generalize w4.alloc (.cells #[.bool y.f, .slice a7 l7 k7, .slice a8 l8 k8] 31) = w5 at *
  generalize w4.heap.size = g5 at b5 ⊢
  have r1 := hu1.row.keep hb45
  have r2 := hu2.row.keep hb45
  have c := cC1 ar kr _ _ w5 (j4.keep hb45) r1 r2 (hlp.keep hba4) (hT.keep hba4 (Nat.le_refl _))
  have hl5 := hl4.keep hb45
  have j5 := j4.keep hb45
  have q0 : w5.cell? ⟨g5, 0, none⟩ = some (.bool y.f) := b5.cell rfl
  have q1 : w5.cell? ⟨g5, 1, none⟩ = some (.slice a7 l7 k7) := b5.cell rfl
  have q2 : w5.cell? ⟨g5, 2, none⟩ = some (.slice a8 l8 k8) := b5.cell rfl
  rw [HPLN.out] at c
  clear cC1 hl4 j4 hb45 hu1 hu2 hb14 hlp
  go_wp2_with fail
  refine c.mono ?_
  rintro e w6 ⟨rfl, hb6⟩
  clear c q0 q1 q2
  have hb16 := below_step hb15 hb15.size hb6
  have hb06 := below_step hba4 hba4.size hb6
  have b6 := b5.call hb6
  have c := cC2 ar kr _ _ aq cq w6 (j5.keep hb6) (r1.keep hb6) (r2.keep hb6) (hl5.keep hb6) (hT.keep hb06 (Nat.le_refl _))
  have q0 : w6.cell? ⟨g5, 0, none⟩ = some (.bool y.f) := b6.cell rfl
  have q1 : w6.cell? ⟨g5, 1, none⟩ = some (.slice a7 l7 k7) := b6.cell rfl
  have q2 : w6.cell? ⟨g5, 2, none⟩ = some (.slice a8 l8 k8) := b6.cell rfl
  have r16 := r1.keep hb6
  have r26 := r2.keep hb6
  clear cC2 hl5 j5 hb15 hba4 b5 r1 r2 hT hT1 hSS
  generalize hR1b : (R1 == 0) = ok at *
  have H3 : Hid (ok = true → sm = true) := Lib.hid fun h => H1.out (by rw [← hR1b] at h; simpa using h)
  clear H1
  go_wp2_with fail
  refine c.mono ?_
  rintro e w7 ⟨rfl, hb7⟩
  clear c q0 q1 q2
  have hb17 := below_step hb16 hb16.size hb7
  have hb07 := below_step hb06 hb06.size hb7
  have b7 := b6.call hb7
  have r17 := r16.keep hb7
  have r27 := r26.keep hb7
  have HC : Hid (∀ W, Below w7.heap.size w7 W → (W.cell? ⟨g5, 0, none⟩ = some (.bool y.f) ∧ W.cell? ⟨g5, 1, none⟩ = some (.slice a7 l7 k7) ∧ W.cell? ⟨g5, 2, none⟩ = some (.slice a8 l8 k8)) ∧ (W.cell? ⟨ga, go + p * 3, none⟩ = some (.bool x.f) ∧ W.cell? ⟨ga, go + p * 3 + 1, none⟩ = some (.slice a5 l5 k5) ∧ W.cell? ⟨ga, go + p * 3 + 2, none⟩ = some (.slice a6 l6 k6))) := Lib.hid fun W hW => ⟨⟨(b7.call hW).cell rfl, (b7.call hW).cell rfl, (b7.call hW).cell rfl⟩, ((below_step hb17 hb17.size hW).cell (p := ⟨ga, go + p * 3, none⟩) hga).trans s0, ((below_step hb17 hb17.size hW).cell (p := ⟨ga, go + p * 3 + 1, none⟩) hga).trans s1, ((below_step hb17 hb17.size hW).cell (p := ⟨ga, go + p * 3 + 2, none⟩) hga).trans s2⟩
  have HE : Hid (∀ W, Below w7.heap.size w7 W → Calls Tryd.prog 41 #[.agg #[.bool y.f, .slice a7 l7 k7, .slice a8 l8 k8], .agg #[.bool x.f, .slice a5 l5 k5, .slice a6 l6 k6]] W fun e w' => e = .returned (.bool sm) ∧ Below W.heap.size W w') := Lib.hid fun W hW => cE _ _ W (r17.keep hW) (r27.keep hW) (s3.keep (below_step hb17 hb17.size hW)) (s4.keep (below_step hb17 hb17.size hW))
  have H22 := H2.out
  clear H2 b6 b7 r16 r26 r17 r27 hb6 hb7 hb16 hb06 s0 s1 s2 s3 s4 cE hga hb17 hb1
  clear hR1b
  have hcase : (ok = true ∧ sm = true) ∨ (ok = false ∧ sm = true) ∨ (ok = false ∧ sm = false) := by
    have := H3.out
    cases ok <;> cases sm <;> simp_all
  clear H3
  rcases hcase with ⟨rfl, rfl⟩ | ⟨rfl, rfl⟩ | ⟨rfl, rfl⟩
  · go_upto_region 8 with fail
    refine wp_region_det 33 (by kernel_rfl) (by kernel_rfl) (by kernel_rfl) ?_
    simp only [List.take_succ_cons, List.take_zero, List.drop_succ_cons, List.drop_zero]
    (apply wpDet_plain _ rfl; (focus (intro W hW; obtain ⟨⟨q0, q1, q2⟩, q3, q4, q5⟩ := HC.out W hW; go_simp; exact ⟨rfl, Below.refl _ _⟩)); simp only [Act.put, List.setIfInBounds_toArray, List.set_cons_zero, List.set_cons_succ])
    (apply wpDet_plain _ rfl; (focus (intro W hW; obtain ⟨⟨q0, q1, q2⟩, q3, q4, q5⟩ := HC.out W hW; go_simp; exact ⟨rfl, Below.refl _ _⟩)); simp only [Act.put, List.setIfInBounds_toArray, List.set_cons_zero, List.set_cons_succ])
    (apply wpDet_plain _ rfl; (focus (intro W hW; obtain ⟨⟨q0, q1, q2⟩, q3, q4, q5⟩ := HC.out W hW; go_simp; exact ⟨rfl, Below.refl _ _⟩)); simp only [Act.put, List.setIfInBounds_toArray, List.set_cons_zero, List.set_cons_succ])
    (apply wpDet_want _ (by kernel_rfl); (focus (intro W hW; obtain ⟨⟨q0, q1, q2⟩, q3, q4, q5⟩ := HC.out W hW; go_simp; exact ⟨rfl, Below.refl _ _⟩)); simp only [Act.put, List.setIfInBounds_toArray, List.set_cons_zero, List.set_cons_succ])
    (apply wpDet_want _ (by kernel_rfl); (focus (intro W hW; obtain ⟨⟨q0, q1, q2⟩, q3, q4, q5⟩ := HC.out W hW; go_simp; exact ⟨rfl, Below.refl _ _⟩)); simp only [Act.put, List.setIfInBounds_toArray, List.set_cons_zero, List.set_cons_succ])
    (apply wpDet_plain _ rfl; (focus (intro W hW; obtain ⟨⟨q0, q1, q2⟩, q3, q4, q5⟩ := HC.out W hW; go_simp; exact ⟨rfl, Below.refl _ _⟩)); simp only [Act.put, List.setIfInBounds_toArray, List.set_cons_zero, List.set_cons_succ])
    (apply wpDet_plain _ rfl; (focus (intro W hW; obtain ⟨⟨q0, q1, q2⟩, q3, q4, q5⟩ := HC.out W hW; go_simp; exact ⟨rfl, Below.refl _ _⟩)); simp only [Act.put, List.setIfInBounds_toArray, List.set_cons_zero, List.set_cons_succ])
    (apply wpDet_want _ (by kernel_rfl); (focus (intro W hW; obtain ⟨⟨q0, q1, q2⟩, q3, q4, q5⟩ := HC.out W hW; go_simp; exact ⟨rfl, Below.refl _ _⟩)); simp only [Act.put, List.setIfInBounds_toArray, List.set_cons_zero, List.set_cons_succ])
    (apply wpDet_want _ (by kernel_rfl); (focus (intro W hW; obtain ⟨⟨q0, q1, q2⟩, q3, q4, q5⟩ := HC.out W hW; go_simp; exact ⟨rfl, Below.refl _ _⟩)); simp only [Act.put, List.setIfInBounds_toArray, List.set_cons_zero, List.set_cons_succ])
    (apply wpDet_want _ (by kernel_rfl); (focus (intro W hW; obtain ⟨⟨q0, q1, q2⟩, q3, q4, q5⟩ := HC.out W hW; go_simp; exact ⟨rfl, Below.refl _ _⟩)); simp only [Act.put, List.setIfInBounds_toArray, List.set_cons_zero, List.set_cons_succ])
    (apply wpDet_plain _ rfl; (focus (intro W hW; obtain ⟨⟨q0, q1, q2⟩, q3, q4, q5⟩ := HC.out W hW; go_simp; exact ⟨rfl, Below.refl _ _⟩)); simp only [Act.put, List.setIfInBounds_toArray, List.set_cons_zero, List.set_cons_succ])
    (apply wpDet_plain _ rfl; (focus (intro W hW; obtain ⟨⟨q0, q1, q2⟩, q3, q4, q5⟩ := HC.out W hW; go_simp; exact ⟨rfl, Below.refl _ _⟩)); simp only [Act.put, List.setIfInBounds_toArray, List.set_cons_zero, List.set_cons_succ])
    (apply wpDet_want _ (by kernel_rfl); (focus (intro W hW; obtain ⟨⟨q0, q1, q2⟩, q3, q4, q5⟩ := HC.out W hW; go_simp; exact ⟨rfl, Below.refl _ _⟩)); simp only [Act.put, List.setIfInBounds_toArray, List.set_cons_zero, List.set_cons_succ])
    (apply wpDet_want _ (by kernel_rfl); (focus (intro W hW; obtain ⟨⟨q0, q1, q2⟩, q3, q4, q5⟩ := HC.out W hW; go_simp; exact ⟨rfl, Below.refl _ _⟩)); simp only [Act.put, List.setIfInBounds_toArray, List.set_cons_zero, List.set_cons_succ])
    (apply wpDet_want _ (by kernel_rfl); (focus (intro W hW; obtain ⟨⟨q0, q1, q2⟩, q3, q4, q5⟩ := HC.out W hW; go_simp; exact ⟨rfl, Below.refl _ _⟩)); simp only [Act.put, List.setIfInBounds_toArray, List.set_cons_zero, List.set_cons_succ])
    (apply wpDet_want _ (by kernel_rfl); (focus (intro W hW; obtain ⟨⟨q0, q1, q2⟩, q3, q4, q5⟩ := HC.out W hW; go_simp; exact ⟨rfl, Below.refl _ _⟩)); simp only [Act.put, List.setIfInBounds_toArray, List.set_cons_zero, List.set_cons_succ])
    (apply wpDet_want _ (by kernel_rfl); (focus (intro W hW; obtain ⟨⟨q0, q1, q2⟩, q3, q4, q5⟩ := HC.out W hW; go_simp; exact ⟨rfl, Below.refl _ _⟩)); simp only [Act.put, List.setIfInBounds_toArray, List.set_cons_zero, List.set_cons_succ])
    (apply wpDet_want _ (by kernel_rfl); (focus (intro W hW; obtain ⟨⟨q0, q1, q2⟩, q3, q4, q5⟩ := HC.out W hW; go_simp; exact ⟨rfl, Below.refl _ _⟩)); simp only [Act.put, List.setIfInBounds_toArray, List.set_cons_zero, List.set_cons_succ])
    (apply wpDet_want _ (by kernel_rfl); (focus (intro W hW; obtain ⟨⟨q0, q1, q2⟩, q3, q4, q5⟩ := HC.out W hW; go_simp; exact ⟨rfl, Below.refl _ _⟩)); simp only [Act.put, List.setIfInBounds_toArray, List.set_cons_zero, List.set_cons_succ])
    (apply wpDet_want _ (by kernel_rfl); (focus (intro W hW; obtain ⟨⟨q0, q1, q2⟩, q3, q4, q5⟩ := HC.out W hW; go_simp; exact ⟨rfl, Below.refl _ _⟩)); simp only [Act.put, List.setIfInBounds_toArray, List.set_cons_zero, List.set_cons_succ])
    (apply wpDet_want _ (by kernel_rfl); (focus (intro W hW; have c := HE.out W hW; go_simp; (with_reducible refine c.mono ?_); rintro e w' ⟨rfl, hb⟩; exact ⟨rfl, hb⟩)); simp only [Act.put, List.setIfInBounds_toArray, List.set_cons_zero, List.set_cons_succ])
    (apply wpDet_want _ (by kernel_rfl); (focus (intro W hW; obtain ⟨⟨q0, q1, q2⟩, q3, q4, q5⟩ := HC.out W hW; go_simp; exact ⟨rfl, Below.refl _ _⟩)); simp only [Act.put, List.setIfInBounds_toArray, List.set_cons_zero, List.set_cons_succ])
    (apply wpDet_plain _ rfl; (focus (intro W hW; obtain ⟨⟨q0, q1, q2⟩, q3, q4, q5⟩ := HC.out W hW; go_simp; exact ⟨rfl, Below.refl _ _⟩)); simp only [Act.put, List.setIfInBounds_toArray, List.set_cons_zero, List.set_cons_succ])
    (apply wpDet_plain _ rfl; (focus (intro W hW; obtain ⟨⟨q0, q1, q2⟩, q3, q4, q5⟩ := HC.out W hW; go_simp; exact ⟨rfl, Below.refl _ _⟩)); simp only [Act.put, List.setIfInBounds_toArray, List.set_cons_zero, List.set_cons_succ])
    (apply wpDet_want _ (by kernel_rfl); (focus (intro W hW; obtain ⟨⟨q0, q1, q2⟩, q3, q4, q5⟩ := HC.out W hW; go_simp; exact ⟨rfl, Below.refl _ _⟩)); simp only [Act.put, List.setIfInBounds_toArray, List.set_cons_zero, List.set_cons_succ])
    (apply wpDet_want _ (by kernel_rfl); (focus (intro W hW; obtain ⟨⟨q0, q1, q2⟩, q3, q4, q5⟩ := HC.out W hW; go_simp; exact ⟨rfl, Below.refl _ _⟩)); simp only [Act.put, List.setIfInBounds_toArray, List.set_cons_zero, List.set_cons_succ])
    (apply wpDet_want _ (by kernel_rfl); (focus (intro W hW; obtain ⟨⟨q0, q1, q2⟩, q3, q4, q5⟩ := HC.out W hW; go_simp; exact ⟨rfl, Below.refl _ _⟩)); simp only [Act.put, List.setIfInBounds_toArray, List.set_cons_zero, List.set_cons_succ])
    (apply wpDet_want _ (by kernel_rfl); (focus (intro W hW; obtain ⟨⟨q0, q1, q2⟩, q3, q4, q5⟩ := HC.out W hW; go_simp; exact ⟨rfl, Below.refl _ _⟩)); simp only [Act.put, List.setIfInBounds_toArray, List.set_cons_zero, List.set_cons_succ])
    (apply wpDet_want _ (by kernel_rfl); (focus (intro W hW; obtain ⟨⟨q0, q1, q2⟩, q3, q4, q5⟩ := HC.out W hW; go_simp; exact ⟨rfl, Below.refl _ _⟩)); simp only [Act.put, List.setIfInBounds_toArray, List.set_cons_zero, List.set_cons_succ])
    (apply wpDet_want _ (by kernel_rfl); (focus (intro W hW; obtain ⟨⟨q0, q1, q2⟩, q3, q4, q5⟩ := HC.out W hW; go_simp; exact ⟨rfl, Below.refl _ _⟩)); simp only [Act.put, List.setIfInBounds_toArray, List.set_cons_zero, List.set_cons_succ])
    (apply wpDet_want _ (by kernel_rfl); (focus (intro W hW; have c := HE.out W hW; go_simp; (with_reducible refine c.mono ?_); rintro e w' ⟨rfl, hb⟩; exact ⟨rfl, hb⟩)); simp only [Act.put, List.setIfInBounds_toArray, List.set_cons_zero, List.set_cons_succ])
    (apply wpDet_want _ (by kernel_rfl); (focus (intro W hW; obtain ⟨⟨q0, q1, q2⟩, q3, q4, q5⟩ := HC.out W hW; go_simp; exact ⟨rfl, Below.refl _ _⟩)); simp only [Act.put, List.setIfInBounds_toArray, List.set_cons_zero, List.set_cons_succ])
    (apply wpDet_plain _ rfl; (focus (intro W hW; obtain ⟨⟨q0, q1, q2⟩, q3, q4, q5⟩ := HC.out W hW; go_simp; exact ⟨rfl, Below.refl _ _⟩)); simp only [Act.put, List.setIfInBounds_toArray, List.set_cons_zero, List.set_cons_succ])
    refine wpDet_nil ?_
    intro W9 hW9
    have hBB := below_step hb07 hb07.size hW9
    clear HC HE
    go_wp2_with fail
    go_ret
    exact ⟨rfl, hBB⟩
  · go_upto_region 8 with fail
    refine wp_region_det 33 (by kernel_rfl) (by kernel_rfl) (by kernel_rfl) ?_
    simp only [List.take_succ_cons, List.take_zero, List.drop_succ_cons, List.drop_zero]
    (apply wpDet_plain _ rfl; (focus (intro W hW; obtain ⟨⟨q0, q1, q2⟩, q3, q4, q5⟩ := HC.out W hW; go_simp; exact ⟨rfl, Below.refl _ _⟩)); simp only [Act.put, List.setIfInBounds_toArray, List.set_cons_zero, List.set_cons_succ])
    (apply wpDet_plain _ rfl; (focus (intro W hW; obtain ⟨⟨q0, q1, q2⟩, q3, q4, q5⟩ := HC.out W hW; go_simp; exact ⟨rfl, Below.refl _ _⟩)); simp only [Act.put, List.setIfInBounds_toArray, List.set_cons_zero, List.set_cons_succ])
    (apply wpDet_plain _ rfl; (focus (intro W hW; obtain ⟨⟨q0, q1, q2⟩, q3, q4, q5⟩ := HC.out W hW; go_simp; exact ⟨rfl, Below.refl _ _⟩)); simp only [Act.put, List.setIfInBounds_toArray, List.set_cons_zero, List.set_cons_succ])
    (apply wpDet_want _ (by kernel_rfl); (focus (intro W hW; obtain ⟨⟨q0, q1, q2⟩, q3, q4, q5⟩ := HC.out W hW; go_simp; exact ⟨rfl, Below.refl _ _⟩)); simp only [Act.put, List.setIfInBounds_toArray, List.set_cons_zero, List.set_cons_succ])
    (apply wpDet_want _ (by kernel_rfl); (focus (intro W hW; obtain ⟨⟨q0, q1, q2⟩, q3, q4, q5⟩ := HC.out W hW; go_simp; exact ⟨rfl, Below.refl _ _⟩)); simp only [Act.put, List.setIfInBounds_toArray, List.set_cons_zero, List.set_cons_succ])
    (apply wpDet_plain _ rfl; (focus (intro W hW; obtain ⟨⟨q0, q1, q2⟩, q3, q4, q5⟩ := HC.out W hW; go_simp; exact ⟨rfl, Below.refl _ _⟩)); simp only [Act.put, List.setIfInBounds_toArray, List.set_cons_zero, List.set_cons_succ])
    (apply wpDet_plain _ rfl; (focus (intro W hW; obtain ⟨⟨q0, q1, q2⟩, q3, q4, q5⟩ := HC.out W hW; go_simp; exact ⟨rfl, Below.refl _ _⟩)); simp only [Act.put, List.setIfInBounds_toArray, List.set_cons_zero, List.set_cons_succ])
    (apply wpDet_want _ (by kernel_rfl); (focus (intro W hW; obtain ⟨⟨q0, q1, q2⟩, q3, q4, q5⟩ := HC.out W hW; go_simp; exact ⟨rfl, Below.refl _ _⟩)); simp only [Act.put, List.setIfInBounds_toArray, List.set_cons_zero, List.set_cons_succ])
    (apply wpDet_want _ (by kernel_rfl); (focus (intro W hW; obtain ⟨⟨q0, q1, q2⟩, q3, q4, q5⟩ := HC.out W hW; go_simp; exact ⟨rfl, Below.refl _ _⟩)); simp only [Act.put, List.setIfInBounds_toArray, List.set_cons_zero, List.set_cons_succ])
    (apply wpDet_want _ (by kernel_rfl); (focus (intro W hW; obtain ⟨⟨q0, q1, q2⟩, q3, q4, q5⟩ := HC.out W hW; go_simp; exact ⟨rfl, Below.refl _ _⟩)); simp only [Act.put, List.setIfInBounds_toArray, List.set_cons_zero, List.set_cons_succ])
    (apply wpDet_plain _ rfl; (focus (intro W hW; obtain ⟨⟨q0, q1, q2⟩, q3, q4, q5⟩ := HC.out W hW; go_simp; exact ⟨rfl, Below.refl _ _⟩)); simp only [Act.put, List.setIfInBounds_toArray, List.set_cons_zero, List.set_cons_succ])
    (apply wpDet_plain _ rfl; (focus (intro W hW; obtain ⟨⟨q0, q1, q2⟩, q3, q4, q5⟩ := HC.out W hW; go_simp; exact ⟨rfl, Below.refl _ _⟩)); simp only [Act.put, List.setIfInBounds_toArray, List.set_cons_zero, List.set_cons_succ])
    (apply wpDet_want _ (by kernel_rfl); (focus (intro W hW; obtain ⟨⟨q0, q1, q2⟩, q3, q4, q5⟩ := HC.out W hW; go_simp; exact ⟨rfl, Below.refl _ _⟩)); simp only [Act.put, List.setIfInBounds_toArray, List.set_cons_zero, List.set_cons_succ])
    (apply wpDet_want _ (by kernel_rfl); (focus (intro W hW; obtain ⟨⟨q0, q1, q2⟩, q3, q4, q5⟩ := HC.out W hW; go_simp; exact ⟨rfl, Below.refl _ _⟩)); simp only [Act.put, List.setIfInBounds_toArray, List.set_cons_zero, List.set_cons_succ])
    (apply wpDet_want _ (by kernel_rfl); (focus (intro W hW; obtain ⟨⟨q0, q1, q2⟩, q3, q4, q5⟩ := HC.out W hW; go_simp; exact ⟨rfl, Below.refl _ _⟩)); simp only [Act.put, List.setIfInBounds_toArray, List.set_cons_zero, List.set_cons_succ])
    (refine wpDet_skip (by kernel_rfl) ?_; simp only [Act.put, List.setIfInBounds_toArray, List.set_cons_zero, List.set_cons_succ])
    (refine wpDet_skip (by kernel_rfl) ?_; simp only [Act.put, List.setIfInBounds_toArray, List.set_cons_zero, List.set_cons_succ])
    (refine wpDet_skip (by kernel_rfl) ?_; simp only [Act.put, List.setIfInBounds_toArray, List.set_cons_zero, List.set_cons_succ])
    (refine wpDet_skip (by kernel_rfl) ?_; simp only [Act.put, List.setIfInBounds_toArray, List.set_cons_zero, List.set_cons_succ])
    (refine wpDet_skip (by kernel_rfl) ?_; simp only [Act.put, List.setIfInBounds_toArray, List.set_cons_zero, List.set_cons_succ])
    (refine wpDet_skip (by kernel_rfl) ?_; simp only [Act.put, List.setIfInBounds_toArray, List.set_cons_zero, List.set_cons_succ])
    (apply wpDet_want _ (by kernel_rfl); (focus (intro W hW; obtain ⟨⟨q0, q1, q2⟩, q3, q4, q5⟩ := HC.out W hW; go_simp; exact ⟨rfl, Below.refl _ _⟩)); simp only [Act.put, List.setIfInBounds_toArray, List.set_cons_zero, List.set_cons_succ])
    (apply wpDet_plain _ rfl; (focus (intro W hW; obtain ⟨⟨q0, q1, q2⟩, q3, q4, q5⟩ := HC.out W hW; go_simp; exact ⟨rfl, Below.refl _ _⟩)); simp only [Act.put, List.setIfInBounds_toArray, List.set_cons_zero, List.set_cons_succ])
    (apply wpDet_plain _ rfl; (focus (intro W hW; obtain ⟨⟨q0, q1, q2⟩, q3, q4, q5⟩ := HC.out W hW; go_simp; exact ⟨rfl, Below.refl _ _⟩)); simp only [Act.put, List.setIfInBounds_toArray, List.set_cons_zero, List.set_cons_succ])
    (apply wpDet_want _ (by kernel_rfl); (focus (intro W hW; obtain ⟨⟨q0, q1, q2⟩, q3, q4, q5⟩ := HC.out W hW; go_simp; exact ⟨rfl, Below.refl _ _⟩)); simp only [Act.put, List.setIfInBounds_toArray, List.set_cons_zero, List.set_cons_succ])
    (apply wpDet_want _ (by kernel_rfl); (focus (intro W hW; obtain ⟨⟨q0, q1, q2⟩, q3, q4, q5⟩ := HC.out W hW; go_simp; exact ⟨rfl, Below.refl _ _⟩)); simp only [Act.put, List.setIfInBounds_toArray, List.set_cons_zero, List.set_cons_succ])
    (apply wpDet_want _ (by kernel_rfl); (focus (intro W hW; obtain ⟨⟨q0, q1, q2⟩, q3, q4, q5⟩ := HC.out W hW; go_simp; exact ⟨rfl, Below.refl _ _⟩)); simp only [Act.put, List.setIfInBounds_toArray, List.set_cons_zero, List.set_cons_succ])
    (apply wpDet_want _ (by kernel_rfl); (focus (intro W hW; obtain ⟨⟨q0, q1, q2⟩, q3, q4, q5⟩ := HC.out W hW; go_simp; exact ⟨rfl, Below.refl _ _⟩)); simp only [Act.put, List.setIfInBounds_toArray, List.set_cons_zero, List.set_cons_succ])
    (apply wpDet_want _ (by kernel_rfl); (focus (intro W hW; obtain ⟨⟨q0, q1, q2⟩, q3, q4, q5⟩ := HC.out W hW; go_simp; exact ⟨rfl, Below.refl _ _⟩)); simp only [Act.put, List.setIfInBounds_toArray, List.set_cons_zero, List.set_cons_succ])
    (apply wpDet_want _ (by kernel_rfl); (focus (intro W hW; obtain ⟨⟨q0, q1, q2⟩, q3, q4, q5⟩ := HC.out W hW; go_simp; exact ⟨rfl, Below.refl _ _⟩)); simp only [Act.put, List.setIfInBounds_toArray, List.set_cons_zero, List.set_cons_succ])
    (apply wpDet_want _ (by kernel_rfl); (focus (intro W hW; have c := HE.out W hW; go_simp; (with_reducible refine c.mono ?_); rintro e w' ⟨rfl, hb⟩; exact ⟨rfl, hb⟩)); simp only [Act.put, List.setIfInBounds_toArray, List.set_cons_zero, List.set_cons_succ])
    (apply wpDet_want _ (by kernel_rfl); (focus (intro W hW; obtain ⟨⟨q0, q1, q2⟩, q3, q4, q5⟩ := HC.out W hW; go_simp; exact ⟨rfl, Below.refl _ _⟩)); simp only [Act.put, List.setIfInBounds_toArray, List.set_cons_zero, List.set_cons_succ])
    (apply wpDet_plain _ rfl; (focus (intro W hW; obtain ⟨⟨q0, q1, q2⟩, q3, q4, q5⟩ := HC.out W hW; go_simp; exact ⟨rfl, Below.refl _ _⟩)); simp only [Act.put, List.setIfInBounds_toArray, List.set_cons_zero, List.set_cons_succ])
    refine wpDet_nil ?_
    intro W9 hW9
    have hBB := below_step hb07 hb07.size hW9
    clear HC HE
    go_wp2_with fail
    go_ret
    exact ⟨rfl, hBB⟩
  · go_upto_region 8 with fail
    refine wp_region_det 33 (by kernel_rfl) (by kernel_rfl) (by kernel_rfl) ?_
    simp only [List.take_succ_cons, List.take_zero, List.drop_succ_cons, List.drop_zero]
    (apply wpDet_plain _ rfl; (focus (intro W hW; obtain ⟨⟨q0, q1, q2⟩, q3, q4, q5⟩ := HC.out W hW; go_simp; exact ⟨rfl, Below.refl _ _⟩)); simp only [Act.put, List.setIfInBounds_toArray, List.set_cons_zero, List.set_cons_succ])
    (apply wpDet_plain _ rfl; (focus (intro W hW; obtain ⟨⟨q0, q1, q2⟩, q3, q4, q5⟩ := HC.out W hW; go_simp; exact ⟨rfl, Below.refl _ _⟩)); simp only [Act.put, List.setIfInBounds_toArray, List.set_cons_zero, List.set_cons_succ])
    (apply wpDet_plain _ rfl; (focus (intro W hW; obtain ⟨⟨q0, q1, q2⟩, q3, q4, q5⟩ := HC.out W hW; go_simp; exact ⟨rfl, Below.refl _ _⟩)); simp only [Act.put, List.setIfInBounds_toArray, List.set_cons_zero, List.set_cons_succ])
    (apply wpDet_want _ (by kernel_rfl); (focus (intro W hW; obtain ⟨⟨q0, q1, q2⟩, q3, q4, q5⟩ := HC.out W hW; go_simp; exact ⟨rfl, Below.refl _ _⟩)); simp only [Act.put, List.setIfInBounds_toArray, List.set_cons_zero, List.set_cons_succ])
    (apply wpDet_want _ (by kernel_rfl); (focus (intro W hW; obtain ⟨⟨q0, q1, q2⟩, q3, q4, q5⟩ := HC.out W hW; go_simp; exact ⟨rfl, Below.refl _ _⟩)); simp only [Act.put, List.setIfInBounds_toArray, List.set_cons_zero, List.set_cons_succ])
    (apply wpDet_plain _ rfl; (focus (intro W hW; obtain ⟨⟨q0, q1, q2⟩, q3, q4, q5⟩ := HC.out W hW; go_simp; exact ⟨rfl, Below.refl _ _⟩)); simp only [Act.put, List.setIfInBounds_toArray, List.set_cons_zero, List.set_cons_succ])
    (apply wpDet_plain _ rfl; (focus (intro W hW; obtain ⟨⟨q0, q1, q2⟩, q3, q4, q5⟩ := HC.out W hW; go_simp; exact ⟨rfl, Below.refl _ _⟩)); simp only [Act.put, List.setIfInBounds_toArray, List.set_cons_zero, List.set_cons_succ])
    (apply wpDet_want _ (by kernel_rfl); (focus (intro W hW; obtain ⟨⟨q0, q1, q2⟩, q3, q4, q5⟩ := HC.out W hW; go_simp; exact ⟨rfl, Below.refl _ _⟩)); simp only [Act.put, List.setIfInBounds_toArray, List.set_cons_zero, List.set_cons_succ])
    (apply wpDet_want _ (by kernel_rfl); (focus (intro W hW; obtain ⟨⟨q0, q1, q2⟩, q3, q4, q5⟩ := HC.out W hW; go_simp; exact ⟨rfl, Below.refl _ _⟩)); simp only [Act.put, List.setIfInBounds_toArray, List.set_cons_zero, List.set_cons_succ])
    (apply wpDet_want _ (by kernel_rfl); (focus (intro W hW; obtain ⟨⟨q0, q1, q2⟩, q3, q4, q5⟩ := HC.out W hW; go_simp; exact ⟨rfl, Below.refl _ _⟩)); simp only [Act.put, List.setIfInBounds_toArray, List.set_cons_zero, List.set_cons_succ])
    (apply wpDet_plain _ rfl; (focus (intro W hW; obtain ⟨⟨q0, q1, q2⟩, q3, q4, q5⟩ := HC.out W hW; go_simp; exact ⟨rfl, Below.refl _ _⟩)); simp only [Act.put, List.setIfInBounds_toArray, List.set_cons_zero, List.set_cons_succ])
    (apply wpDet_plain _ rfl; (focus (intro W hW; obtain ⟨⟨q0, q1, q2⟩, q3, q4, q5⟩ := HC.out W hW; go_simp; exact ⟨rfl, Below.refl _ _⟩)); simp only [Act.put, List.setIfInBounds_toArray, List.set_cons_zero, List.set_cons_succ])
    (apply wpDet_want _ (by kernel_rfl); (focus (intro W hW; obtain ⟨⟨q0, q1, q2⟩, q3, q4, q5⟩ := HC.out W hW; go_simp; exact ⟨rfl, Below.refl _ _⟩)); simp only [Act.put, List.setIfInBounds_toArray, List.set_cons_zero, List.set_cons_succ])
    (apply wpDet_want _ (by kernel_rfl); (focus (intro W hW; obtain ⟨⟨q0, q1, q2⟩, q3, q4, q5⟩ := HC.out W hW; go_simp; exact ⟨rfl, Below.refl _ _⟩)); simp only [Act.put, List.setIfInBounds_toArray, List.set_cons_zero, List.set_cons_succ])
    (apply wpDet_want _ (by kernel_rfl); (focus (intro W hW; obtain ⟨⟨q0, q1, q2⟩, q3, q4, q5⟩ := HC.out W hW; go_simp; exact ⟨rfl, Below.refl _ _⟩)); simp only [Act.put, List.setIfInBounds_toArray, List.set_cons_zero, List.set_cons_succ])
    (refine wpDet_skip (by kernel_rfl) ?_; simp only [Act.put, List.setIfInBounds_toArray, List.set_cons_zero, List.set_cons_succ])
    (refine wpDet_skip (by kernel_rfl) ?_; simp only [Act.put, List.setIfInBounds_toArray, List.set_cons_zero, List.set_cons_succ])
    (refine wpDet_skip (by kernel_rfl) ?_; simp only [Act.put, List.setIfInBounds_toArray, List.set_cons_zero, List.set_cons_succ])
    (refine wpDet_skip (by kernel_rfl) ?_; simp only [Act.put, List.setIfInBounds_toArray, List.set_cons_zero, List.set_cons_succ])
    (refine wpDet_skip (by kernel_rfl) ?_; simp only [Act.put, List.setIfInBounds_toArray, List.set_cons_zero, List.set_cons_succ])
    (refine wpDet_skip (by kernel_rfl) ?_; simp only [Act.put, List.setIfInBounds_toArray, List.set_cons_zero, List.set_cons_succ])
    (apply wpDet_want _ (by kernel_rfl); (focus (intro W hW; obtain ⟨⟨q0, q1, q2⟩, q3, q4, q5⟩ := HC.out W hW; go_simp; exact ⟨rfl, Below.refl _ _⟩)); simp only [Act.put, List.setIfInBounds_toArray, List.set_cons_zero, List.set_cons_succ])
    (apply wpDet_plain _ rfl; (focus (intro W hW; obtain ⟨⟨q0, q1, q2⟩, q3, q4, q5⟩ := HC.out W hW; go_simp; exact ⟨rfl, Below.refl _ _⟩)); simp only [Act.put, List.setIfInBounds_toArray, List.set_cons_zero, List.set_cons_succ])
    (apply wpDet_plain _ rfl; (focus (intro W hW; obtain ⟨⟨q0, q1, q2⟩, q3, q4, q5⟩ := HC.out W hW; go_simp; exact ⟨rfl, Below.refl _ _⟩)); simp only [Act.put, List.setIfInBounds_toArray, List.set_cons_zero, List.set_cons_succ])
    (apply wpDet_want _ (by kernel_rfl); (focus (intro W hW; obtain ⟨⟨q0, q1, q2⟩, q3, q4, q5⟩ := HC.out W hW; go_simp; exact ⟨rfl, Below.refl _ _⟩)); simp only [Act.put, List.setIfInBounds_toArray, List.set_cons_zero, List.set_cons_succ])
    (apply wpDet_want _ (by kernel_rfl); (focus (intro W hW; obtain ⟨⟨q0, q1, q2⟩, q3, q4, q5⟩ := HC.out W hW; go_simp; exact ⟨rfl, Below.refl _ _⟩)); simp only [Act.put, List.setIfInBounds_toArray, List.set_cons_zero, List.set_cons_succ])
    (apply wpDet_want _ (by kernel_rfl); (focus (intro W hW; obtain ⟨⟨q0, q1, q2⟩, q3, q4, q5⟩ := HC.out W hW; go_simp; exact ⟨rfl, Below.refl _ _⟩)); simp only [Act.put, List.setIfInBounds_toArray, List.set_cons_zero, List.set_cons_succ])
    (apply wpDet_want _ (by kernel_rfl); (focus (intro W hW; obtain ⟨⟨q0, q1, q2⟩, q3, q4, q5⟩ := HC.out W hW; go_simp; exact ⟨rfl, Below.refl _ _⟩)); simp only [Act.put, List.setIfInBounds_toArray, List.set_cons_zero, List.set_cons_succ])
    (apply wpDet_want _ (by kernel_rfl); (focus (intro W hW; obtain ⟨⟨q0, q1, q2⟩, q3, q4, q5⟩ := HC.out W hW; go_simp; exact ⟨rfl, Below.refl _ _⟩)); simp only [Act.put, List.setIfInBounds_toArray, List.set_cons_zero, List.set_cons_succ])
    (apply wpDet_want _ (by kernel_rfl); (focus (intro W hW; obtain ⟨⟨q0, q1, q2⟩, q3, q4, q5⟩ := HC.out W hW; go_simp; exact ⟨rfl, Below.refl _ _⟩)); simp only [Act.put, List.setIfInBounds_toArray, List.set_cons_zero, List.set_cons_succ])
    (apply wpDet_want _ (by kernel_rfl); (focus (intro W hW; have c := HE.out W hW; go_simp; (with_reducible refine c.mono ?_); rintro e w' ⟨rfl, hb⟩; exact ⟨rfl, hb⟩)); simp only [Act.put, List.setIfInBounds_toArray, List.set_cons_zero, List.set_cons_succ])
    (apply wpDet_want _ (by kernel_rfl); (focus (intro W hW; obtain ⟨⟨q0, q1, q2⟩, q3, q4, q5⟩ := HC.out W hW; go_simp; exact ⟨rfl, Below.refl _ _⟩)); simp only [Act.put, List.setIfInBounds_toArray, List.set_cons_zero, List.set_cons_succ])
    (apply wpDet_plain _ rfl; (focus (intro W hW; obtain ⟨⟨q0, q1, q2⟩, q3, q4, q5⟩ := HC.out W hW; go_simp; exact ⟨rfl, Below.refl _ _⟩)); simp only [Act.put, List.setIfInBounds_toArray, List.set_cons_zero, List.set_cons_succ])
    refine wpDet_nil ?_
    intro W9 hW9
    have hBB := below_step hb07 hb07.size hW9
    clear HC HE
    go_wp2_with fail
    go_ret
    exact ⟨rfl, hBB⟩
end Go.Proofs.YtdpfjhhcgaeiiaaDoor
