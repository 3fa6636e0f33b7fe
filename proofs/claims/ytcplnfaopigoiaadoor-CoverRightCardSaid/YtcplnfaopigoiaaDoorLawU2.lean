/-
  THE WALK of the law 'chirographkeep.CoverRight'.
  CONDITIONS: package sum's roundWords hold what their initialiser lays ('KW').
-/
import Derived.Test.YtcplnfaopigoiaaDoorCovE
import Derived.Test.YtcplnfaopigoiaaDoorCovL
import Derived.Test.YtcplnfaopigoiaaDoorCovM
import Derived.Test.YtcplnfaopigoiaaDoorPathK
namespace Go.Proofs.YtcplnfaopigoiaaDoor
open Go.RowKit CodeMath Go.Proofs.YtcplnfaopigoiaaDoor.FrameMath
set_option linter.unusedVariables false
set_option maxRecDepth 100000

theorem covR_small (m : Int) : ∀ (h : Nat), h ≤ 6 → ∀ (rows : List (List UInt8)) (o : List Bool), rows.length = 2 ^ h → (∀ b ∈ rows, b.length ≤ 600) → ∀ r ∈ covR m h rows o, r.length ≤ 100000
  | 0, h6, rows, o, hl, hb, r, hr => by
    unfold covR at hr
    split at hr
    · cases hr
    · simp at hr; subst hr
      have := rootB_length m 0 rows hl hb
      omega
  | h + 1, h6, rows, o, hl, hb, r, hr => by
    have e1 : 2 ^ (h + 1) = 2 * 2 ^ h := by rw [Nat.pow_succ, Nat.mul_comm]
    unfold covR at hr
    split at hr
    · rcases List.mem_append.1 hr with hr | hr
      · exact covR_small m h (by omega) _ _ (by rw [List.length_take]; omega) (fun b hx => hb b (List.mem_of_mem_take hx)) r hr
      · exact covR_small m h (by omega) _ _ (by rw [List.length_drop]; omega) (fun b hx => hb b (List.mem_of_mem_drop hx)) r hr
    · simp at hr; subst hr
      have := rootB_length m (h + 1) rows hl hb
      have h64 : 2 ^ (h + 1) ≤ 2 ^ 6 := Nat.pow_le_pow_right (by decide) h6
      have e6 : 2 ^ 6 = 64 := by decide
      have hm64 : 2 ^ (h + 1) * 642 ≤ 64 * 642 := Nat.mul_le_mul_right _ (by omega)
      omega
theorem rtd_right (m : Int) (hm : isMode m = true) (h : Nat) (h6 : h ≤ 6) (l : List Sl) (rows : List (List UInt8)) (o : List Bool) (hl : l.length = 2 ^ h) (ho : o.length = l.length) (hp : isPow (l.length : Int) = true) (hr : leavesR m l = .ok rows) : rtdR m h o (selO l o) (covR m h rows o) = .ok (rootB m h rows) := by
  rw [rtdR_last m h o _ _ hm (by rw [ho]; exact hp)]
  have := rt_right m hm h h6 l rows o [] [] hl (by rw [ho]; exact hl) hr
  rw [List.append_nil, List.append_nil] at this
  rw [this]
  rfl
set_option maxHeartbeats 4000000 in
theorem coverRight_walk (mode : Int) (l : List R) (ao : Option Addr) (cap : Nat) (which : Int) (w : World) (hT : KW w) (m0 : -9223372036854775808 ≤ mode) (m1 : mode ≤ 9223372036854775807) (hc : l.length ≤ cap) (hq : cap ≤ 9223372036854775807) (hR : Raws w ao l) (a0 : -9223372036854775808 ≤ which) (a1 : which ≤ 9223372036854775807) :
    Calls Tryd.prog 5 #[.int .i64 mode, .slice ao l.length cap, .int .i64 which] w fun e w' => e = .returned (.bool true) ∧ Below w.heap.size w w' := by
  have cM := fun W => modeOf_any mode W m0 m1
  have hmode := modeOf_mode mode
  have hm0 : 1 ≤ 1 + mode % 2 := by omega
  have hm2 : 1 + mode % 2 ≤ 2 := by omega
  generalize 1 + mode % 2 = m at *
  have cS := slotsOf_any l ao cap w hc hq hR
  clear hc hq hR
  generalize l.length = n at *
  go_enter Tryd.func5, Tryd.ntmps5
  go_wp2_with fail
  refine (cM _).mono ?_
  rintro e w1 ⟨rfl, rfl⟩
  clear cM
  go_wp2_with fail
  refine cS.mono ?_
  rintro e w1 ⟨v1, S, h, rfl, ho, hl, h4, hg, hb1⟩
  clear cS
  obtain ⟨a2, k2, rfl, hc2, hq2, -, hS⟩ := ho.slots
  obtain ⟨rows, hr, hlv, hroot, hrl, hpw⟩ := levels_good m hmode S h (by omega) hl hg
  have hS16 : S.length ≤ 16 := by
    rw [hl]
    have h9 : 2 ^ h ≤ 2 ^ 4 := Nat.pow_le_pow_right (by decide) h4
    have e4 : 2 ^ 4 = 16 := by decide
    omega
  have hS0 : 0 < S.length := by rw [hl]; exact Nat.pow_pos (by decide)
  have cO := opens_any S.length a2 k2 which w1 (by omega) a0 a1
  have hol := opensL_length S.length which
  generalize opensL S.length which = o at *
  have hT1 := hT.keep hb1 (Nat.le_refl _)
  have cR := fun W (hW : Below w1.heap.size w1 W) => Root_any m S a2 k2 W (by omega) (by omega) hc2 hq2 (hS.keep hW) (hT1.keep hW (Nat.le_refl _)) h (fun _ => hl)
  rw [hroot] at cR
  have cV := fun W (hW : Below w1.heap.size w1 W) aO cO' h1 h2 h3 => CoverOf_any m S a2 k2 o aO cO' W (by omega) (by omega) hc2 hq2 (hS.keep hW) h1 h2 h3 (hT1.keep hW (Nat.le_refl _)) h (by omega) (fun _ => hl)
  have hcs := covR_small m h (by omega) rows o (by rw [leavesR_length m S rows hr, hl]) (leavesR_each m S rows hr)
  have hrd := rtd_right m hmode h (by omega) S rows o hl hol hpw hr
  have cD := fun W (hW : Below w1.heap.size w1 W) aO cO' h1 h2 h3 aS cS s1 s2 hs aR cR' r1 r2 hl' => Rooted_any m o aO cO' (selO S o) aS cS (covR m h rows o) aR cR' W (by omega) (by omega) h1 h2 h3 s1 s2 hs r1 r2 (fun r hr => by have := hcs r hr; omega) hl' (hT1.keep hW (Nat.le_refl _)) h (by omega) (fun _ => by rw [hol, hl])
  rw [hrd] at cD
  have hsl := selO_length S o hol.symm
  have hat := fun i x => selO_at S o i x hol.symm
  have HAT := Lib.hid hat
  have HSL := Lib.hid hsl
  unfold CovPost at cV
  rw [hlv] at cV
  simp only [if_pos hol] at cV
  have HS := Lib.hid ho
  have HOL := Lib.hid hol
  generalize rootB m h rows = RB at *
  generalize covR m h rows o = CV at *
  generalize hSS : selO S o = SS at *
  have HRL : Hid (0 < RB.length) := hrl
  obtain ⟨sn, hsn⟩ : ∃ k, S.length = k := ⟨_, rfl⟩
  have HSN := Lib.hid hsn
  rw [hsn] at cO hol hS16 hS0 cR cV ⊢
  obtain ⟨on, hon⟩ : ∃ k, o.length = k := ⟨_, rfl⟩
  rw [hon] at hol cV cD
  obtain rfl : sn = on := hol.symm
  have HON := Lib.hid hon
  have hb0 := hb1
  have HB := Lib.hid hb1
  clear hc2 hq2 hS hlv hr hroot hrl hpw hcs hrd hg hT hT1 hl h4 hmode hsn hon ho hsl hat hSS hb1
  have hnI : (sn : Int) ≤ 16 := by omega
  go_wp2_with fail
  refine cO.mono ?_
  rintro e w2 ⟨v2, rfl, hoo, hb2⟩
  obtain ⟨aO, cO', rfl, o1, o2, o3⟩ := hoo.bools
  rw [HON.out] at o1 ⊢
  have hoo' := hoo
  have cr := cR w2 hb2
  clear cO cR hoo
  go_wp2_with fail
  refine cr.mono ?_
  rintro e w3 ⟨v3, rfl, hr3, hb3⟩
  obtain ⟨a3, k3, rfl, -⟩ := id hr3
  have hb23 := below_step hb2 hb2.size hb3
  have cv := cV w3 hb23 aO cO' o1 o2 (o3.keep hb3)
  have HR3 := Lib.hid hr3
  generalize hRB : RB.length = rb at *
  have HRB := Lib.hid hRB
  clear cr cV hr3 hRB
  go_wp2_with fail
  refine cv.mono ?_
  rintro e w4 ⟨⟨sv, rv, rfl, hSl, hRl⟩, hb4⟩
  obtain ⟨aS, kS, hsv, u1, u2, -, u4⟩ := hSl.slots
  obtain ⟨aR, kR, hrv, t1, t2, -, t4⟩ := hRl.lines
  subst hsv hrv
  have hba : Below w4.heap.size w4 (w4.alloc (.cells #[.slice aS SS.length kS, .slice aR CV.length kR] 26)) := (Below.refl _ _).alloc (Nat.le_refl _) _
  have zc : Blk (w4.alloc (.cells #[.slice aS SS.length kS, .slice aR CV.length kR] 26)) w4.heap.size 26 [.slice aS SS.length kS, .slice aR CV.length kR] := Blk.new w4 #[.slice aS SS.length kS, .slice aR CV.length kR] _
  have hb24 := below_step hb23 hb23.size hb4
  have hb25 := below_step hb24 hb24.size hba
  have hb35 := below_step hb4 hb4.size hba
  have hb3o := below_step hb3 hb3.size hb35
  have cd := cD _ hb25 aO cO' o1 o2 (o3.keep hb3o) aS kS u1 u2 (u4.keep hba) aR kR t1 t2 (t4.keep hba)
  have HSV := Lib.hid (hSl.keep hba)
  have HO3 := Lib.hid (o3.keep hb3o)
  have HS5 := Lib.hid (HS.out.keep hb25)
  have HR5 := Lib.hid (HR3.out.keep hb35)
  have hbb := below_step hb0 hb0.size hb25
  generalize hSSl : SS.length = ssl at *
  generalize CV.length = cvl at *
  have HSSL := Lib.hid hSSl
  have hm : 1 ≤ m ∧ m ≤ 2 := ⟨hm0, hm2⟩
  clear cv cD hSl hRl u1 u2 u4 t1 t2 t4 hb24 hb35 hb3o o3 o1 hb2 hb3 hb4 hb23 HR3 HS HB hb0 hb25 hSSl
  go_upto_region 5 with fail
  generalize w4.alloc (.cells #[.slice aS ssl kS, .slice aR cvl kR] 26) = w5 at *
  have q0 := zc.cell (j := 0) rfl
  have q1 := zc.cell (j := 1) rfl
  go_wp2_with fail
  refine cd.mono ?_
  rintro e w6 ⟨v6, rfl, hr6, hb6⟩
  obtain ⟨a6, k6, rfl, -⟩ := id hr6
  have HR6 := Lib.hid hr6
  have HZC := Lib.hid (zc.call hb6)
  have HSV6 := Lib.hid (HSV.out.keep hb6)
  have HO6 := Lib.hid (HO3.out.keep hb6)
  have HS6 := Lib.hid (HS5.out.keep hb6)
  have HR36 := Lib.hid (HR5.out.keep hb6)
  have hbb6 := below_step hbb hbb.size hb6
  rw [HRB.out]
  clear cd q0 q1 hb6 zc hba hr6 HSV HO3 HS5 HR5 hbb
  go_wp2_with fail
  have hB0 := Below.refl w6.heap.size w6
  go_loopw [16, 47] (fun cx ix wr => ∃ i c : Nat, i ≤ sn ∧ ix = .int .i64 i ∧ cx = .int .i64 c ∧ Hid ((o.take i).count true = c) ∧ Below w6.heap.size w6 wr) (fun _ ix _ => sn - (intOf ix).toNat)
  case atStart => exact ⟨0, 0, Nat.zero_le _, rfl, rfl, Lib.hid rfl, hB0⟩
  case round =>
    obtain ⟨i, c, hi, rfl, rfl, hcn, hbr⟩ := hrel
    clear hB0
    by_cases hlt : i < sn
    · have iI : (i : Int) < sn := by omega
      have H1 := Lib.hid hlt
      obtain ⟨b, hb⟩ : ∃ b, o[i]? = some b := ⟨_, List.getElem?_eq_getElem (by rw [HON.out]; exact hlt)⟩
      have hnx := Lib.hid (count_next o i b hb)
      rcases HO6.out with h0 | ⟨gb, kb, e1, h2, h3⟩
      · rw [h0] at hb; simp at hb
      subst e1
      have hcell := (hbr.cell (p := ⟨gb, kb + i, none⟩) h2).trans (h3 i b hb)
      cases b with
      | false =>
        clear hlt hb h2 h3
        go_wp2_with fail
        go_roundw
        case rel => exact ⟨i + 1, c, H1.out, by go_num, rfl, by have := hnx.out; rw [hcn.out] at this; exact this, hbr⟩
        case measure => have := H1.out; simp [intOf]; omega
      | true =>
        obtain ⟨x, hx⟩ : ∃ x, S[i]? = some x := ⟨_, List.getElem?_eq_getElem (by rw [HSN.out]; exact hlt)⟩
        have hsx := HAT.out i x hx hb
        rw [hcn.out] at hsx
        have hcl : c < ssl := by have := (List.getElem?_eq_some_iff.1 hsx).1; rw [HSSL.out] at this; exact this
        have cI : (c : Int) < (ssl : Int) := by omega
        have cI2 : (c : Int) ≤ 16 := by
          have h5 := HSL.out
          have h6 := List.count_le_length (a := true) (l := o)
          rw [HON.out] at h6
          omega
        have hge : ((c : Int) ≥ (ssl : Int)) = False := by simp; omega
        obtain ⟨gS, cpS, ua, ub, eS, -, hgS, s0, s1, s2, s3, s4, -⟩ := HSV6.out.at c x hsx
        obtain ⟨es1, -, -⟩ := Value.slice.inj eS
        subst es1
        obtain ⟨gT, cpT, ta, tb, eT, -, hgT, t0, t1, t2, t3, t4, -⟩ := HS6.out.at i x hx
        obtain ⟨et1, -, -⟩ := Value.slice.inj eT
        subst et1
        have Q : Hid (∀ W, Below wr.heap.size wr W → W.cell? ⟨w4.heap.size, 0, none⟩ = some (.slice (some ⟨gS, 0, none⟩) ssl kS) ∧ W.cell? ⟨gS, c * 3, none⟩ = some (.bool x.f) ∧ W.cell? ⟨gS, c * 3 + 1, none⟩ = some ua ∧ W.cell? ⟨gS, c * 3 + 2, none⟩ = some ub ∧ W.cell? ⟨gT, i * 3, none⟩ = some (.bool x.f) ∧ W.cell? ⟨gT, i * 3 + 1, none⟩ = some ta ∧ W.cell? ⟨gT, i * 3 + 2, none⟩ = some tb) := fun W hW => by
          have hq := below_step hbr hbr.size hW
          exact ⟨(HZC.out.call hq).cell rfl, (hq.cell (p := ⟨gS, c * 3, none⟩) hgS).trans s0, (hq.cell (p := ⟨gS, c * 3 + 1, none⟩) hgS).trans s1, (hq.cell (p := ⟨gS, c * 3 + 2, none⟩) hgS).trans s2, (hq.cell (p := ⟨gT, i * 3, none⟩) hgT).trans t0, (hq.cell (p := ⟨gT, i * 3 + 1, none⟩) hgT).trans t1, (hq.cell (p := ⟨gT, i * 3 + 2, none⟩) hgT).trans t2⟩
        have CS : Hid (∀ W, Below wr.heap.size wr W → Calls Tryd.prog 20 #[.agg #[.bool x.f, ua, ub], .agg #[.bool x.f, ta, tb]] W fun e w' => e = .returned (.bool true) ∧ Below W.heap.size W w') := fun W hW => by
          have hq := below_step hbr hbr.size hW
          have := sameSlot_any x x ua ub ta tb W (s3.row.keep hq) (s4.row.keep hq) (t3.row.keep hq) (t4.row.keep hq)
          rw [decide_eq_true (rfl : x = x)] at this
          exact this
        obtain ⟨xa, xk, rfl, -⟩ := id s3
        obtain ⟨xb, xl, rfl, -⟩ := id s4
        obtain ⟨ya, yk, rfl, -⟩ := id t3
        obtain ⟨yb, yl, rfl, -⟩ := id t4
        generalize x.s.length = l1 at *
        generalize x.d.length = l2 at *
        generalize x.f = xf at *
        clear hlt hb h2 h3 hsx hcl eS eT s0 s1 s2 s3 s4 t0 t1 t2 t3 t4 hgS hgT hge hx
        go_upto_region 11 with fail
        refine wp_region_det 18 (by kernel_rfl) (by kernel_rfl) (by kernel_rfl) ?_
        simp only [List.take_succ_cons, List.take_zero, List.drop_succ_cons, List.drop_zero]
        have cN : c < ssl := by omega
        have iN : i < sn := by omega
        have hgeI : decide ((c : Int) ≥ (ssl : Int)) = false := by simp; omega
        have hgeI2 : ¬ (ssl : Int) ≤ (c : Int) := by omega
        iterate 4 (apply wpDet_plain _ rfl; (focus (intro W hW; have qq := Q.out W hW; obtain ⟨z0, z1, z2, z3, z4, z5, z6⟩ := qq; go_simp; exact ⟨rfl, Below.refl _ _⟩)); simp only [Act.put, List.setIfInBounds_toArray, List.set_cons_zero, List.set_cons_succ])
        apply wpDet_plain (.bool false) rfl; (focus (intro W hW; go_simp; first | exact Below.refl _ _ | exact ⟨rfl, Below.refl _ _⟩)); simp only [Act.put, List.setIfInBounds_toArray, List.set_cons_zero, List.set_cons_succ]
        iterate 1 (apply wpDet_plain _ rfl; (focus (intro W hW; have qq := Q.out W hW; obtain ⟨z0, z1, z2, z3, z4, z5, z6⟩ := qq; go_simp; exact ⟨rfl, Below.refl _ _⟩)); simp only [Act.put, List.setIfInBounds_toArray, List.set_cons_zero, List.set_cons_succ])
        iterate 9 (apply wpDet_want _ (by kernel_rfl); (focus (intro W hW; have qq := Q.out W hW; obtain ⟨z0, z1, z2, z3, z4, z5, z6⟩ := qq; go_simp; exact ⟨rfl, Below.refl _ _⟩)); simp only [Act.put, List.setIfInBounds_toArray, List.set_cons_zero, List.set_cons_succ])
        apply wpDet_want _ (by kernel_rfl); (focus (intro W hW; go_simp; exact CS.out W hW)); simp only [Act.put, List.setIfInBounds_toArray, List.set_cons_zero, List.set_cons_succ]
        iterate 1 (apply wpDet_want _ (by kernel_rfl); (focus (intro W hW; have qq := Q.out W hW; obtain ⟨z0, z1, z2, z3, z4, z5, z6⟩ := qq; go_simp; exact ⟨rfl, Below.refl _ _⟩)); simp only [Act.put, List.setIfInBounds_toArray, List.set_cons_zero, List.set_cons_succ])
        iterate 1 (apply wpDet_plain _ rfl; (focus (intro W hW; have qq := Q.out W hW; obtain ⟨z0, z1, z2, z3, z4, z5, z6⟩ := qq; go_simp; exact ⟨rfl, Below.refl _ _⟩)); simp only [Act.put, List.setIfInBounds_toArray, List.set_cons_zero, List.set_cons_succ])
        refine wpDet_nil ?_; intro W hW
        have hbr2 := below_step hbr hbr.size hW
        clear Q CS hW hcell
        go_wp2_with fail
        go_roundw
        case rel => exact ⟨i + 1, c + 1, H1.out, by go_num, by go_num, by have := hnx.out; rw [hcn.out] at this; exact this, hbr2⟩
        case measure => have := H1.out; simp [intOf]; omega
    · have iI : ¬ (i : Int) < sn := by omega
      obtain rfl : i = sn := by omega
      have hcs : c = ssl := by
        have h5 := HSL.out
        have h6 := hcn.out
        rw [List.take_of_length_le (by rw [HON.out]; exact Nat.le_refl _)] at h6
        omega
      subst hcs
      have q0 := (HZC.out.call hbr).cell (j := 0) rfl
      obtain ⟨_, _, e6, -, -, -, b6⟩ := (HR6.out.row).keep hbr
      obtain ⟨_, _, e3, -, -, -, b3⟩ := (HR36.out.row).keep hbr
      obtain ⟨e6a, -, e6c⟩ := Value.slice.inj e6
      subst e6a e6c
      obtain ⟨e3a, -, e3c⟩ := Value.slice.inj e3
      subst e3a e3c
      have k6' := bytes_string (cap := k6) b6
      have k3' := bytes_string (cap := k3) b3
      have hgt : (0 : Int) < (rb : Int) := by have := HRL.out; omega
      have hbb7 := below_step hbb6 hbb6.size hbr
      rw [HRB.out] at k6' k3'
      clear e6 e3 b6 b3 hlt
      go_wp2_with fail
      go_ret
      exact ⟨by first | rfl | simp, hbb7⟩
end Go.Proofs.YtcplnfaopigoiaaDoor
