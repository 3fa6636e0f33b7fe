/-
  THE WALK of the law 'chirographkeep.RollApart'.
  CONDITIONS: package sum's roundWords hold what their initialiser lays ('KW').
-/
import Derived.Test.YtcplnfaopigoiaaDoorAppL
import Derived.Test.YtcplnfaopigoiaaDoorEntA
import Derived.Test.YtcplnfaopigoiaaDoorListsK
import Derived.Test.YtcplnfaopigoiaaDoorPicked
import Derived.Test.YtcplnfaopigoiaaDoorRollC
import Derived.Test.YtcplnfaopigoiaaDoorRollQ
namespace Go.Proofs.YtcplnfaopigoiaaDoor
open Go.RowKit CodeMath Go.Proofs.YtcplnfaopigoiaaDoor.FrameMath
set_option linter.unusedVariables false
set_option maxRecDepth 100000

theorem topR_good (m : Int) (hm : isMode m = true) (S : List (List UInt8)) (h64 : S.length ≤ 64) (z : List UInt8) (hz : rollR m S = .ok z) : topR m S = (z, 0) := by
  unfold topR
  rw [show refR m S.length = 0 by unfold refR; rw [if_neg (by rw [hm]; decide), if_neg (by omega)], if_neg (by decide), hz]
  rfl
theorem sliceL_front (ap : Option Addr) (n cap k : Nat) (hk : k ≤ cap) (W : World) : (Instr.slice 24 (.slice ap n cap) none (some (.int .i64 (k : Int))) none).run Tryd.prog W = .ok (.slice ap k cap) W := by
  have hs : (sizeOf (Tryd.prog.elem 24)).run Tryd.prog W = .ok 1 W := by kernel_rfl
  have h := run_slice_h (P := Tryd.prog) W 24 ap n cap (by kernel_rfl) .i64 (k : Int) (by omega) (by omega)
  rw [h, hs, Int.toNat_natCast]
  simp only [Result.andThen, sliced, Nat.sub_zero]
  cases ap with
  | none => simp
  | some a => simp [Addr.add]
theorem ownL_empty (w : World) (base : Nat) (hb : base ≤ w.heap.size) : OwnL (w.alloc (.cells #[] 32)) base (.slice (some ⟨w.heap.size, 0, none⟩) 0 0) [] :=
  ⟨[], World.ownsRow_lit w #[] 0 hb (by decide) rfl, fun i l h => by simp at h⟩
theorem roll_same (A D : List (List UInt8)) (z z' : List UInt8) (hz : rollR 2 A = .ok z) (hz' : rollR 2 D = .ok z') : (z == z') = decide (A = D) := by
  by_cases h : A = D
  · subst h
    rw [hz] at hz'
    cases hz'
    simp
  · rw [decide_eq_false h]
    refine beq_false_of_ne fun hh => h ?_
    subst hh
    exact rollR_inj A.length A D z (Nat.le_refl _) hz hz'
theorem OwnL.typedV {w : World} {base : Nat} {v : Value} {l : List (List UInt8)} (h : OwnL w base v l) (b : Nat) (hb : v.ownBlock = some b) : (∃ cur fz, w.heap[b]? = some (.cells cur 32 fz)) ∧ base ≤ b ∧ b < w.heap.size := by
  obtain ⟨us, h1, h2⟩ := h
  exact ⟨ownsRow_typed h1 b hb, h1.lt b hb⟩
def CatF (B : Nat) (A C : List (List UInt8)) (va vb vc : Value) (nb k : Nat) : Nat → Nat → Value → World → Prop
  | s, 0, v, w => s = 1 → OwnL w B v []
  | _, 1, v, _ => v = va
  | s, 2, v, w => s = 2 → OwnL w B v A
  | _, 3, v, _ => v = vb
  | _, 4, v, _ => v = vb
  | _, 5, v, _ => v = .int .i64 (nb : Int)
  | _, 6, v, _ => v = .int .i64 (k : Int)
  | _, 7, v, _ => v = vc
  | s, 8, v, w => s = 3 → OwnL w B v (A ++ C)
  | _, _, _, _ => True

set_option maxHeartbeats 4000000 in
theorem rollApart_walk (l : List R) (ao : Option Addr) (cap : Nat) (l2 : List R) (ao2 : Option Addr) (cap2 : Nat) (alike : Int) (w : World) (hT : KW w) (hc : l.length ≤ cap) (hq : cap ≤ 9223372036854775807) (hR : Raws w ao l) (hc2 : l2.length ≤ cap2) (hq2 : cap2 ≤ 9223372036854775807) (hR2 : Raws w ao2 l2) (a0 : -9223372036854775808 ≤ alike) (a1 : alike ≤ 9223372036854775807) :
    Calls Tryd.prog 9 #[.slice ao l.length cap, .slice ao2 l2.length cap2, .int .i64 alike] w fun e w' => e = .returned (.bool true) ∧ Below w.heap.size w w' := by
  have cS := entK_any l ao cap w hc hq hR
  have cS2 := fun W (hW : Below w.heap.size w W) => entK_any l2 ao2 cap2 W hc2 hq2 (hR2.keep hW)
  have hA20 := entL_length l
  have hA12 := entL_each l
  have hB20 := entL_length l2
  have hB12 := entL_each l2
  have cP := fun W => picked_any alike 3 W (by decide) (by decide) a0 a1
  generalize alike % 3 = q at *
  generalize entL l = A at *
  generalize entL l2 = B at *
  clear hc hq hR hc2 hq2 hR2
  generalize l.length = n at *
  generalize l2.length = n2 at *
  go_enter Tryd.func9, Tryd.ntmps9
  go_wp2_with fail
  refine cS.mono ?_
  rintro e w1 ⟨v1, rfl, hoA, hb1⟩
  have c2 := cS2 w1 hb1
  clear cS cS2
  obtain ⟨aA, cA, rfl, qA1, qA2, qA3, lA⟩ := hoA.linesT
  go_wp2_with fail
  refine c2.mono ?_
  rintro e w2 ⟨v2, rfl, hoB, hb2⟩
  clear c2
  obtain ⟨aB, cB, rfl, qB1, qB2, qB3, lB⟩ := hoB.linesT
  go_wp2_with fail
  refine (cP _).mono ?_
  rintro e w3 ⟨rfl, rfl⟩
  clear cP
  have hb02 := below_step hb1 hb1.size hb2
  have lA2 := lA.keep hb2
  obtain ⟨aX, cX, eX, -, -, -, hLA⟩ := hoA.lines
  cases eX
  by_cases hp : q = 0
  · obtain ⟨k, hk⟩ : ∃ k, min B.length 1 = k := ⟨_, rfl⟩
    have hmin : ∀ (ts : Array TypeId) (t : TypeId) (W : World), (Builtin.min_ ts t #[.int .i64 (B.length : Int), .int .i64 1]).run Tryd.prog W = .ok (.int .i64 (k : Int)) W := fun ts t W => by
      rw [run_min_int2, ← hk]
      congr 2
      split <;> omega
    have hsl := fun W => sliceL_front aB B.length cB k (by omega) W
    have hCl : (B.take k).length = k := by rw [List.length_take]; omega
    have lC := lB.take k
    obtain ⟨C, hC⟩ : ∃ C, B.take k = C := ⟨_, rfl⟩
    rw [hC] at hCl lC
    have hC12 : ∀ x ∈ C, x.length ≤ 12 := fun x hx => by rw [← hC] at hx; exact hB12 x (List.mem_of_mem_take hx)
    have hk1 : k ≤ 1 := by omega
    have hkc : k ≤ cB := by omega
    go_upto_region 3 with fail
    refine wp_region_chain2 9 [0, 2, 8] (by kernel_rfl) (by kernel_rfl) (by kernel_rfl) (CatF w2.heap.size A C (.slice aA A.length cA) (.slice aB B.length cB) (.slice aB k cB) B.length k) (fun s W => w2.heap.size ≤ W.heap.size ∧ Below w2.heap.size w2 W) (fun s w w' => True) ?hF ?h0 ?hstep ?hcall ?hdone
    case hF =>
      intro s i hs j v W W' hjn hne hpb h he
      rcases (show j = 0 ∨ j = 1 ∨ j = 2 ∨ j = 3 ∨ j = 4 ∨ j = 5 ∨ j = 6 ∨ j = 7 ∨ j = 8 by omega) with rfl | rfl | rfl | rfl | rfl | rfl | rfl | rfl | rfl
      · intro h1
        obtain rfl : s = 0 := by omega
        exact absurd (by simpa using hs) hne
      · exact h
      · intro h1
        obtain rfl : s = 1 := by omega
        exact absurd (by simpa using hs) hne
      · exact h
      · exact h
      · exact h
      · exact h
      · exact h
      · intro h1
        obtain rfl : s = 2 := by omega
        exact absurd (by simpa using hs) hne
    case h0 => exact ⟨Nat.le_refl _, Below.drew (Below.refl _ _)⟩
    case hstep =>
      intro j hj hni s vs act W K ha' hst hd hu hK
      simp only [fillF, Act.put, List.take_succ_cons, List.take_zero, List.setIfInBounds_toArray, List.set_cons_zero, List.set_cons_succ] at ha'
      subst ha'
      clear hu
      rcases (show j = 0 ∨ j = 1 ∨ j = 2 ∨ j = 3 ∨ j = 4 ∨ j = 5 ∨ j = 6 ∨ j = 7 ∨ j = 8 by omega) with rfl | rfl | rfl | rfl | rfl | rfl | rfl | rfl | rfl
      · exact (hni (by decide)).elim
      · refine wpOp_step rfl (fun K' hK' => ?_)
        go_simp
        exact hK' _ _ (hK _ rfl)
      · exact (hni (by decide)).elim
      · refine wpOp_step rfl (fun K' hK' => ?_)
        go_simp
        exact hK' _ _ (hK _ rfl)
      · refine wpOp_step rfl (fun K' hK' => ?_)
        go_simp
        exact hK' _ _ (hK _ rfl)
      · have e4 : vs 4 = .slice aB B.length cB := hd 4 (by kernel_rfl)
        simp only [e4] at hK ⊢
        refine wpOp_step rfl (fun K' hK' => ?_)
        go_simp
        exact hK' _ _ (hK _ rfl)
      · have e5 : vs 5 = .int .i64 (B.length : Int) := hd 5 (by kernel_rfl)
        simp only [e5] at hK ⊢
        refine wpOp_step rfl (fun K' hK' => ?_)
        go_simp
        exact hK' _ _ (hK _ rfl)
      · have e3 : vs 3 = .slice aB B.length cB := hd 3 (by kernel_rfl)
        have e6 : vs 6 = .int .i64 (k : Int) := hd 6 (by kernel_rfl)
        simp only [e3, e6] at hK ⊢
        refine wpOp_step rfl (fun K' hK' => ?_)
        go_simp
        exact hK' _ _ (hK _ rfl)
      · exact (hni (by decide)).elim
    case hcall =>
      intro s j hs vs act W K ha' hst hd hK
      simp only [fillF, Act.put, List.take_succ_cons, List.take_zero, List.setIfInBounds_toArray, List.set_cons_zero, List.set_cons_succ] at ha'
      subst ha'
      rcases s with _ | _ | _ | s
      · obtain rfl : 0 = j := by simpa using hs
        refine wpOp_step rfl (fun K' hK' => ?_)
        go_simp
        refine hK' _ _ (hK _ _ (fun _ => ownL_empty W _ hst.1) trivial ⟨Nat.le_trans hst.1 ?_, hst.2.alloc hst.1 _⟩)
        exact ((Below.refl W.heap.size W).alloc (Nat.le_refl _) _).size
      · obtain rfl : 2 = j := by simpa using hs
        have e0 : OwnL W w2.heap.size (vs 0) [] := hd 0 (by kernel_rfl) rfl
        have e1 : vs 1 = .slice aA A.length cA := hd 1 (by kernel_rfl)
        simp only [e1] at hK ⊢
        refine wpOp_step rfl (fun K' hK' => ?_)
        rw [if_pos (by simp [Region.wanted])]
        refine wp_append_rows (.tmp 20) (.tmp 21) rfl w2.heap.size (vs 0) [] rfl e0 A aA A.length cA rfl rfl qA3 qA1 (lA2.keep hst.2) (by simp; omega) hst.1 ?_
        intro v' w' ho hg
        refine hK' _ _ (hK v' w' (fun _ => by simpa using ho) trivial ⟨Nat.le_trans hst.1 hg.size, hst.2.grown hg hst.1 (fun b hb => (e0.typedV b hb).2.1)⟩)
      · obtain rfl : 8 = j := by simpa using hs
        have e2 : OwnL W w2.heap.size (vs 2) A := hd 2 (by kernel_rfl) rfl
        have e7 : vs 7 = .slice aB k cB := hd 7 (by kernel_rfl)
        simp only [e7] at hK ⊢
        refine wpOp_step rfl (fun K' hK' => ?_)
        rw [if_pos (by simp [Region.wanted])]
        refine wp_append_rows (.tmp 22) (.tmp 27) rfl w2.heap.size (vs 2) A rfl e2 C aB k cB hCl rfl qB3 hkc (lC.keep hst.2) (by omega) hst.1 ?_
        intro v' w' ho hg
        refine hK' _ _ (hK v' w' (fun _ => ho) trivial ⟨Nat.le_trans hst.1 hg.size, hst.2.grown hg hst.1 (fun b hb => (e2.typedV b hb).2.1)⟩)
      · simp at hs
    case hdone =>
      intro vs act W ha' hst hf
      simp only [fillF, Act.put, List.take_succ_cons, List.take_zero, List.drop_succ_cons, List.drop_zero, List.setIfInBounds_toArray, List.set_cons_zero, List.set_cons_succ] at ha' ⊢
      subst ha'
      have hoD : OwnL W w2.heap.size (vs 8) (A ++ C) := hf 8 (by decide) rfl
      have hbW := hst.2
      clear hst hf hmin hsl
      generalize vs 8 = v8 at *
      have hDl : (A ++ C).length ≤ 21 := by rw [List.length_append]; omega
      have hD12 : ∀ x ∈ A ++ C, x.length ≤ 12 := fun x hx => by
        rcases List.mem_append.1 hx with h | h
        · exact hA12 x h
        · exact hC12 x h
      generalize A ++ C = D at *
      obtain ⟨z, hz, hz0, hzl, -⟩ := roll_fits 2 rfl A.length A (Nat.le_refl _) (by omega) hA12
      obtain ⟨z', hz', hz0', hzl', -⟩ := roll_fits 2 rfl D.length D (Nat.le_refl _) (by omega) hD12
      have hsame := roll_same A D z z' hz hz'
      have hAB : ∀ y ∈ A, y.length ≤ 140737488351232 := fun y hy => by have := hA12 y hy; omega
      have hDB : ∀ y ∈ D, y.length ≤ 140737488351232 := fun y hy => by have := hD12 y hy; omega
      obtain ⟨aD, cD, eD, qD1, qD2, -, hLD⟩ := hoD.lines
      subst eD
      have cR1 := fun W hl hT => rollTop_any 2 A aA cA W (by decide) (by decide) qA1 qA2 hAB hl hT
      rw [topR_good 2 rfl A (by omega) z hz] at cR1
      have cR2 := fun W hl hT => rollTop_any 2 D aD cD W (by decide) (by decide) qD1 qD2 hDB hl hT
      rw [topR_good 2 rfl D (by omega) z' hz'] at cR2
      have cK := fun W hl hl' => keepLists_any A D aA aD cA cD W hl hl' (by omega) (by omega)
      have hzI : (0 : Int) < z.length := by omega
      have hLAW := hLA.keep (below_step hb2 hb2.size hbW)
      have hb0W := below_step hb02 hb02.size hbW
      have hTW := hT.keep hb0W (Nat.le_refl _)
      generalize decide (A = D) = sm at *
      obtain ⟨nA, hnA⟩ : ∃ k, A.length = k := ⟨_, rfl⟩
      obtain ⟨nD, hnD⟩ : ∃ k, D.length = k := ⟨_, rfl⟩
      rw [hnA] at cR1 cK ⊢
      rw [hnD] at cR2 cK ⊢
      clear hz hz' hDl hD12 hAB hDB hoD
      go_wp2_with fail
      refine (cR1 _ hLAW hTW).mono ?_
      rintro e w5 ⟨v5, rfl, hr5, hb5⟩
      have hr5 : RowT w5 v5 z := hr5
      clear cR1
      obtain ⟨a5, k5, rfl, -⟩ := id hr5
      go_wp2_with fail
      refine (cR2 _ (hLD.keep hb5) (hTW.keep hb5 (Nat.le_refl _))).mono ?_
      rintro e w6 ⟨v6, rfl, hr6, hb6⟩
      have hr6 : RowT w6 v6 z' := hr6
      clear cR2
      obtain ⟨a6, k6, rfl, j1, j2, j3, j4⟩ := hr6.row
      obtain ⟨a5', k5', e5, i1, i2, i3, i4⟩ := (hr5.keep hb6).row
      cases e5
      have hLA6 := (hLAW.keep hb5).keep hb6
      have hLD6 := (hLD.keep hb5).keep hb6
      have HE := Lib.hid (fun W (hW : Below w6.heap.size w6 W) => cK W (hLA6.keep hW) (hLD6.keep hW))
      have HC := Lib.hid (fun W (hW : Below w6.heap.size w6 W) => (⟨bytes_string (cap := k5) (i4.keep hW), bytes_string (cap := k6) (j4.keep hW)⟩ : _ ∧ _))
      have hb06 := below_step hb0W hb0W.size (below_step hb5 hb5.size hb6)
      clear cK hLA6 hLD6 hLAW hLD hr5 hr6 i1 i2 i3 i4 j1 j2 j3 j4 hb5 hb6 hTW hb0W hz0' hzl hzl'
      generalize z.length = lz at *
      generalize z'.length = lz' at *
      cases sm
      all_goals
        go_upto_region 6 with fail
        refine wp_region_det 22 (by kernel_rfl) (by kernel_rfl) (by kernel_rfl) ?_
        simp only [List.take_succ_cons, List.take_zero, List.drop_succ_cons, List.drop_zero]
        (apply wpDet_plain _ rfl; (focus (intro W hW; obtain ⟨q0, q1⟩ := HC.out W hW; go_simp; exact ⟨rfl, Below.refl _ _⟩)); simp only [Act.put, List.setIfInBounds_toArray, List.set_cons_zero, List.set_cons_succ])
        (apply wpDet_plain _ rfl; (focus (intro W hW; obtain ⟨q0, q1⟩ := HC.out W hW; go_simp; exact ⟨rfl, Below.refl _ _⟩)); simp only [Act.put, List.setIfInBounds_toArray, List.set_cons_zero, List.set_cons_succ])
        (apply wpDet_plain _ rfl; (focus (intro W hW; obtain ⟨q0, q1⟩ := HC.out W hW; go_simp; exact ⟨rfl, Below.refl _ _⟩)); simp only [Act.put, List.setIfInBounds_toArray, List.set_cons_zero, List.set_cons_succ])
        (apply wpDet_want _ (by kernel_rfl); (focus (intro W hW; obtain ⟨q0, q1⟩ := HC.out W hW; go_simp; exact ⟨rfl, Below.refl _ _⟩)); simp only [Act.put, List.setIfInBounds_toArray, List.set_cons_zero, List.set_cons_succ])
        (apply wpDet_want _ (by kernel_rfl); (focus (intro W hW; obtain ⟨q0, q1⟩ := HC.out W hW; go_simp; exact ⟨rfl, Below.refl _ _⟩)); simp only [Act.put, List.setIfInBounds_toArray, List.set_cons_zero, List.set_cons_succ])
        (apply wpDet_plain _ rfl; (focus (intro W hW; obtain ⟨q0, q1⟩ := HC.out W hW; go_simp; exact ⟨rfl, Below.refl _ _⟩)); simp only [Act.put, List.setIfInBounds_toArray, List.set_cons_zero, List.set_cons_succ])
        (apply wpDet_plain _ rfl; (focus (intro W hW; obtain ⟨q0, q1⟩ := HC.out W hW; go_simp; exact ⟨rfl, Below.refl _ _⟩)); simp only [Act.put, List.setIfInBounds_toArray, List.set_cons_zero, List.set_cons_succ])
        (apply wpDet_want _ (by kernel_rfl); (focus (intro W hW; obtain ⟨q0, q1⟩ := HC.out W hW; go_simp; exact ⟨rfl, Below.refl _ _⟩)); simp only [Act.put, List.setIfInBounds_toArray, List.set_cons_zero, List.set_cons_succ])
        (apply wpDet_want _ (by kernel_rfl); (focus (intro W hW; obtain ⟨q0, q1⟩ := HC.out W hW; go_simp; exact ⟨rfl, Below.refl _ _⟩)); simp only [Act.put, List.setIfInBounds_toArray, List.set_cons_zero, List.set_cons_succ])
        (apply wpDet_want _ (by kernel_rfl); (focus (intro W hW; obtain ⟨q0, q1⟩ := HC.out W hW; go_simp; exact ⟨rfl, Below.refl _ _⟩)); simp only [Act.put, List.setIfInBounds_toArray, List.set_cons_zero, List.set_cons_succ])
        (apply wpDet_plain _ rfl; (focus (intro W hW; obtain ⟨q0, q1⟩ := HC.out W hW; go_simp; exact ⟨rfl, Below.refl _ _⟩)); simp only [Act.put, List.setIfInBounds_toArray, List.set_cons_zero, List.set_cons_succ])
        (apply wpDet_plain _ rfl; (focus (intro W hW; obtain ⟨q0, q1⟩ := HC.out W hW; go_simp; exact ⟨rfl, Below.refl _ _⟩)); simp only [Act.put, List.setIfInBounds_toArray, List.set_cons_zero, List.set_cons_succ])
        (apply wpDet_want _ (by kernel_rfl); (focus (intro W hW; obtain ⟨q0, q1⟩ := HC.out W hW; go_simp; exact ⟨rfl, Below.refl _ _⟩)); simp only [Act.put, List.setIfInBounds_toArray, List.set_cons_zero, List.set_cons_succ])
        (apply wpDet_want _ (by kernel_rfl); (focus (intro W hW; obtain ⟨q0, q1⟩ := HC.out W hW; go_simp; exact ⟨rfl, Below.refl _ _⟩)); simp only [Act.put, List.setIfInBounds_toArray, List.set_cons_zero, List.set_cons_succ])
        (apply wpDet_want _ (by kernel_rfl); (focus (intro W hW; obtain ⟨q0, q1⟩ := HC.out W hW; go_simp; exact ⟨rfl, Below.refl _ _⟩)); simp only [Act.put, List.setIfInBounds_toArray, List.set_cons_zero, List.set_cons_succ])
        (apply wpDet_want _ (by kernel_rfl); (focus (intro W hW; obtain ⟨q0, q1⟩ := HC.out W hW; go_simp; exact ⟨rfl, Below.refl _ _⟩)); simp only [Act.put, List.setIfInBounds_toArray, List.set_cons_zero, List.set_cons_succ])
        (apply wpDet_want _ (by kernel_rfl); (focus (intro W hW; obtain ⟨q0, q1⟩ := HC.out W hW; go_simp; exact ⟨rfl, Below.refl _ _⟩)); simp only [Act.put, List.setIfInBounds_toArray, List.set_cons_zero, List.set_cons_succ])
        (apply wpDet_want _ (by kernel_rfl); (focus (intro W hW; obtain ⟨q0, q1⟩ := HC.out W hW; go_simp; exact ⟨rfl, Below.refl _ _⟩)); simp only [Act.put, List.setIfInBounds_toArray, List.set_cons_zero, List.set_cons_succ])
        (apply wpDet_want _ (by kernel_rfl); (focus (intro W hW; obtain ⟨q0, q1⟩ := HC.out W hW; go_simp; exact ⟨rfl, Below.refl _ _⟩)); simp only [Act.put, List.setIfInBounds_toArray, List.set_cons_zero, List.set_cons_succ])
        (apply wpDet_want _ (by kernel_rfl); (focus (intro W hW; have c := HE.out W hW; go_simp; (with_reducible refine c.mono ?_); rintro e w' ⟨rfl, hb⟩; exact ⟨rfl, hb⟩)); simp only [Act.put, List.setIfInBounds_toArray, List.set_cons_zero, List.set_cons_succ])
        (apply wpDet_want _ (by kernel_rfl); (focus (intro W hW; obtain ⟨q0, q1⟩ := HC.out W hW; go_simp; exact ⟨rfl, Below.refl _ _⟩)); simp only [Act.put, List.setIfInBounds_toArray, List.set_cons_zero, List.set_cons_succ])
        (apply wpDet_plain _ rfl; (focus (intro W hW; obtain ⟨q0, q1⟩ := HC.out W hW; go_simp; exact ⟨rfl, Below.refl _ _⟩)); simp only [Act.put, List.setIfInBounds_toArray, List.set_cons_zero, List.set_cons_succ])
        refine wpDet_nil ?_
        intro W9 hW9
        have hBB := below_step hb06 hb06.size hW9
        clear HC HE
        go_wp2_with fail
        go_ret
        exact ⟨rfl, hBB⟩
  · have hbW := Below.refl w2.heap.size w2
    have hoD := hoB
    have hDl : B.length ≤ 21 := by omega
    have hD12 := hB12
    clear hoB
    obtain ⟨z, hz, hz0, hzl, -⟩ := roll_fits 2 rfl A.length A (Nat.le_refl _) (by omega) hA12
    obtain ⟨z', hz', hz0', hzl', -⟩ := roll_fits 2 rfl B.length B (Nat.le_refl _) (by omega) hD12
    have hsame := roll_same A B z z' hz hz'
    have hAB : ∀ y ∈ A, y.length ≤ 140737488351232 := fun y hy => by have := hA12 y hy; omega
    have hDB : ∀ y ∈ B, y.length ≤ 140737488351232 := fun y hy => by have := hD12 y hy; omega
    obtain ⟨aD, cD, eD, qD1, qD2, -, hLD⟩ := hoD.lines
    cases eD
    have cR1 := fun W hl hT => rollTop_any 2 A aA cA W (by decide) (by decide) qA1 qA2 hAB hl hT
    rw [topR_good 2 rfl A (by omega) z hz] at cR1
    have cR2 := fun W hl hT => rollTop_any 2 B aB cB W (by decide) (by decide) qD1 qD2 hDB hl hT
    rw [topR_good 2 rfl B (by omega) z' hz'] at cR2
    have cK := fun W hl hl' => keepLists_any A B aA aB cA cB W hl hl' (by omega) (by omega)
    have hzI : (0 : Int) < z.length := by omega
    have hLAW := hLA.keep (below_step hb2 hb2.size hbW)
    have hb0W := below_step hb02 hb02.size hbW
    have hTW := hT.keep hb0W (Nat.le_refl _)
    generalize decide (A = B) = sm at *
    obtain ⟨nA, hnA⟩ : ∃ k, A.length = k := ⟨_, rfl⟩
    obtain ⟨nD, hnD⟩ : ∃ k, B.length = k := ⟨_, rfl⟩
    rw [hnA] at cR1 cK ⊢
    rw [hnD] at cR2 cK ⊢
    clear hz hz' hDl hD12 hAB hDB hoD
    go_wp2_with fail
    refine (cR1 _ hLAW hTW).mono ?_
    rintro e w5 ⟨v5, rfl, hr5, hb5⟩
    have hr5 : RowT w5 v5 z := hr5
    clear cR1
    obtain ⟨a5, k5, rfl, -⟩ := id hr5
    go_wp2_with fail
    refine (cR2 _ (hLD.keep hb5) (hTW.keep hb5 (Nat.le_refl _))).mono ?_
    rintro e w6 ⟨v6, rfl, hr6, hb6⟩
    have hr6 : RowT w6 v6 z' := hr6
    clear cR2
    obtain ⟨a6, k6, rfl, j1, j2, j3, j4⟩ := hr6.row
    obtain ⟨a5', k5', e5, i1, i2, i3, i4⟩ := (hr5.keep hb6).row
    cases e5
    have hLA6 := (hLAW.keep hb5).keep hb6
    have hLD6 := (hLD.keep hb5).keep hb6
    have HE := Lib.hid (fun W (hW : Below w6.heap.size w6 W) => cK W (hLA6.keep hW) (hLD6.keep hW))
    have HC := Lib.hid (fun W (hW : Below w6.heap.size w6 W) => (⟨bytes_string (cap := k5) (i4.keep hW), bytes_string (cap := k6) (j4.keep hW)⟩ : _ ∧ _))
    have hb06 := below_step hb0W hb0W.size (below_step hb5 hb5.size hb6)
    clear cK hLA6 hLD6 hLAW hLD hr5 hr6 i1 i2 i3 i4 j1 j2 j3 j4 hb5 hb6 hTW hb0W hz0' hzl hzl'
    generalize z.length = lz at *
    generalize z'.length = lz' at *
    cases sm
    all_goals
      go_upto_region 6 with fail
      refine wp_region_det 22 (by kernel_rfl) (by kernel_rfl) (by kernel_rfl) ?_
      simp only [List.take_succ_cons, List.take_zero, List.drop_succ_cons, List.drop_zero]
      (apply wpDet_plain _ rfl; (focus (intro W hW; obtain ⟨q0, q1⟩ := HC.out W hW; go_simp; exact ⟨rfl, Below.refl _ _⟩)); simp only [Act.put, List.setIfInBounds_toArray, List.set_cons_zero, List.set_cons_succ])
      (apply wpDet_plain _ rfl; (focus (intro W hW; obtain ⟨q0, q1⟩ := HC.out W hW; go_simp; exact ⟨rfl, Below.refl _ _⟩)); simp only [Act.put, List.setIfInBounds_toArray, List.set_cons_zero, List.set_cons_succ])
      (apply wpDet_plain _ rfl; (focus (intro W hW; obtain ⟨q0, q1⟩ := HC.out W hW; go_simp; exact ⟨rfl, Below.refl _ _⟩)); simp only [Act.put, List.setIfInBounds_toArray, List.set_cons_zero, List.set_cons_succ])
      (apply wpDet_want _ (by kernel_rfl); (focus (intro W hW; obtain ⟨q0, q1⟩ := HC.out W hW; go_simp; exact ⟨rfl, Below.refl _ _⟩)); simp only [Act.put, List.setIfInBounds_toArray, List.set_cons_zero, List.set_cons_succ])
      (apply wpDet_want _ (by kernel_rfl); (focus (intro W hW; obtain ⟨q0, q1⟩ := HC.out W hW; go_simp; exact ⟨rfl, Below.refl _ _⟩)); simp only [Act.put, List.setIfInBounds_toArray, List.set_cons_zero, List.set_cons_succ])
      (apply wpDet_plain _ rfl; (focus (intro W hW; obtain ⟨q0, q1⟩ := HC.out W hW; go_simp; exact ⟨rfl, Below.refl _ _⟩)); simp only [Act.put, List.setIfInBounds_toArray, List.set_cons_zero, List.set_cons_succ])
      (apply wpDet_plain _ rfl; (focus (intro W hW; obtain ⟨q0, q1⟩ := HC.out W hW; go_simp; exact ⟨rfl, Below.refl _ _⟩)); simp only [Act.put, List.setIfInBounds_toArray, List.set_cons_zero, List.set_cons_succ])
      (apply wpDet_want _ (by kernel_rfl); (focus (intro W hW; obtain ⟨q0, q1⟩ := HC.out W hW; go_simp; exact ⟨rfl, Below.refl _ _⟩)); simp only [Act.put, List.setIfInBounds_toArray, List.set_cons_zero, List.set_cons_succ])
      (apply wpDet_want _ (by kernel_rfl); (focus (intro W hW; obtain ⟨q0, q1⟩ := HC.out W hW; go_simp; exact ⟨rfl, Below.refl _ _⟩)); simp only [Act.put, List.setIfInBounds_toArray, List.set_cons_zero, List.set_cons_succ])
      (apply wpDet_want _ (by kernel_rfl); (focus (intro W hW; obtain ⟨q0, q1⟩ := HC.out W hW; go_simp; exact ⟨rfl, Below.refl _ _⟩)); simp only [Act.put, List.setIfInBounds_toArray, List.set_cons_zero, List.set_cons_succ])
      (apply wpDet_plain _ rfl; (focus (intro W hW; obtain ⟨q0, q1⟩ := HC.out W hW; go_simp; exact ⟨rfl, Below.refl _ _⟩)); simp only [Act.put, List.setIfInBounds_toArray, List.set_cons_zero, List.set_cons_succ])
      (apply wpDet_plain _ rfl; (focus (intro W hW; obtain ⟨q0, q1⟩ := HC.out W hW; go_simp; exact ⟨rfl, Below.refl _ _⟩)); simp only [Act.put, List.setIfInBounds_toArray, List.set_cons_zero, List.set_cons_succ])
      (apply wpDet_want _ (by kernel_rfl); (focus (intro W hW; obtain ⟨q0, q1⟩ := HC.out W hW; go_simp; exact ⟨rfl, Below.refl _ _⟩)); simp only [Act.put, List.setIfInBounds_toArray, List.set_cons_zero, List.set_cons_succ])
      (apply wpDet_want _ (by kernel_rfl); (focus (intro W hW; obtain ⟨q0, q1⟩ := HC.out W hW; go_simp; exact ⟨rfl, Below.refl _ _⟩)); simp only [Act.put, List.setIfInBounds_toArray, List.set_cons_zero, List.set_cons_succ])
      (apply wpDet_want _ (by kernel_rfl); (focus (intro W hW; obtain ⟨q0, q1⟩ := HC.out W hW; go_simp; exact ⟨rfl, Below.refl _ _⟩)); simp only [Act.put, List.setIfInBounds_toArray, List.set_cons_zero, List.set_cons_succ])
      (apply wpDet_want _ (by kernel_rfl); (focus (intro W hW; obtain ⟨q0, q1⟩ := HC.out W hW; go_simp; exact ⟨rfl, Below.refl _ _⟩)); simp only [Act.put, List.setIfInBounds_toArray, List.set_cons_zero, List.set_cons_succ])
      (apply wpDet_want _ (by kernel_rfl); (focus (intro W hW; obtain ⟨q0, q1⟩ := HC.out W hW; go_simp; exact ⟨rfl, Below.refl _ _⟩)); simp only [Act.put, List.setIfInBounds_toArray, List.set_cons_zero, List.set_cons_succ])
      (apply wpDet_want _ (by kernel_rfl); (focus (intro W hW; obtain ⟨q0, q1⟩ := HC.out W hW; go_simp; exact ⟨rfl, Below.refl _ _⟩)); simp only [Act.put, List.setIfInBounds_toArray, List.set_cons_zero, List.set_cons_succ])
      (apply wpDet_want _ (by kernel_rfl); (focus (intro W hW; obtain ⟨q0, q1⟩ := HC.out W hW; go_simp; exact ⟨rfl, Below.refl _ _⟩)); simp only [Act.put, List.setIfInBounds_toArray, List.set_cons_zero, List.set_cons_succ])
      (apply wpDet_want _ (by kernel_rfl); (focus (intro W hW; have c := HE.out W hW; go_simp; (with_reducible refine c.mono ?_); rintro e w' ⟨rfl, hb⟩; exact ⟨rfl, hb⟩)); simp only [Act.put, List.setIfInBounds_toArray, List.set_cons_zero, List.set_cons_succ])
      (apply wpDet_want _ (by kernel_rfl); (focus (intro W hW; obtain ⟨q0, q1⟩ := HC.out W hW; go_simp; exact ⟨rfl, Below.refl _ _⟩)); simp only [Act.put, List.setIfInBounds_toArray, List.set_cons_zero, List.set_cons_succ])
      (apply wpDet_plain _ rfl; (focus (intro W hW; obtain ⟨q0, q1⟩ := HC.out W hW; go_simp; exact ⟨rfl, Below.refl _ _⟩)); simp only [Act.put, List.setIfInBounds_toArray, List.set_cons_zero, List.set_cons_succ])
      refine wpDet_nil ?_
      intro W9 hW9
      have hBB := below_step hb06 hb06.size hW9
      clear HC HE
      go_wp2_with fail
      go_ret
      exact ⟨rfl, hBB⟩
end Go.Proofs.YtcplnfaopigoiaaDoor
