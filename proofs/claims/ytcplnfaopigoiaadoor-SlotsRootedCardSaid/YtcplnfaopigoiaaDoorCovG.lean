/-
  CONTRACT of the reference's Rooted; THE WALK of the law 'chirographlaw.SlotsRooted'.
  CONDITIONS: package sum's roundWords hold what their initialiser lays ('KW').
-/
import Derived.Test.YtcplnfaopigoiaaDoorCovF
import Derived.Test.YtcplnfaopigoiaaDoorSame
namespace Go.Proofs.YtcplnfaopigoiaaDoor
open Go.RowKit CodeMath Go.Proofs.YtcplnfaopigoiaaDoor.FrameMath
set_option linter.unusedVariables false
set_option maxRecDepth 100000

set_option maxHeartbeats 4000000 in
theorem RootedRef_any (m : Int) (o : List Bool) (ao : Option Addr) (co : Nat) (S : List Sl) (aS : Option Addr) (cS : Nat) (R : List (List UInt8)) (aR : Option Addr) (cR : Nat) (w : World) (m0 : -9223372036854775808 ≤ m) (m1 : m ≤ 9223372036854775807) (ho : o.length ≤ co) (hq : co ≤ 9223372036854775807) (hO : Bools w ao o)
    (s1 : S.length ≤ cS) (s2 : cS ≤ 9223372036854775807) (hS : Slots w aS S) (r1 : R.length ≤ cR) (r2 : cR ≤ 9223372036854775807) (hR : ∀ r ∈ R, r.length ≤ 140737488351232) (hL : Lines w aR R) (h : Nat) (h6 : h ≤ 6) (hh : isPow o.length = true → o.length = 2 ^ h) :
    Calls Tryd.prog 14 #[.int .i64 m, .slice ao o.length co, .agg #[.slice aS S.length cS, .slice aR R.length cR]] w fun e w' => (match rtdR m h o S R with
      | .err c => e = .returned (.tuple #[.slice none 0 0, .int .i64 c])
      | .ok b => ∃ v, e = .returned (.tuple #[v, .int .i64 0]) ∧ RowV w' v b) ∧ Below w.heap.size w w' := by
  have cM := fun W => badMode_any m W m0 m1
  have cN := fun W => whole_any (o.length : Int) (by omega) (by omega) W
  have hb1 : Below w.heap.size w (w.alloc (.cells #[.slice aS S.length cS, .slice aR R.length cR] 26)) := (Below.refl _ _).alloc (Nat.le_refl _) _
  have hz : CovB (w.alloc (.cells #[.slice aS S.length cS, .slice aR R.length cR] 26)) w.heap.size (.slice aS S.length cS) (.slice aR R.length cR) := Blk.new w #[.slice aS S.length cS, .slice aR R.length cR] 26
  cases hm : isMode m with
  | false =>
    rw [hm] at cM
    have e : rtdR m h o S R = .err 2 := by unfold rtdR; rw [hm]; rfl
    rw [e]
    clear cN hh ho hO hS hL s1 r1 hR e hz
    generalize o.length = n at *
    generalize S.length = sl at *
    generalize R.length = rl at *
    go_enter Tryd.func14, Tryd.ntmps14
    go_wp2_with fail
    refine (cM _).mono ?_
    rintro e w1 ⟨rfl, rfl⟩
    clear cM
    go_wp2_with fail
    go_ret2
    exact ⟨rfl, hb1⟩
  | true =>
    rw [hm] at cM
    cases hp : isPow o.length with
    | false =>
      rw [hp] at cN
      have e : rtdR m h o S R = .err 1 := by unfold rtdR; rw [hm, hp]; rfl
      rw [e]
      clear hh ho hO hS hL s1 r1 hR e hp hz
      generalize o.length = n at *
      generalize S.length = sl at *
      generalize R.length = rl at *
      go_enter Tryd.func14, Tryd.ntmps14
      go_wp2_with fail
      refine (cM _).mono ?_
      rintro e w1 ⟨rfl, rfl⟩
      clear cM
      go_wp2_with fail
      refine (cN _).mono ?_
      rintro e w1 ⟨rfl, hbN⟩
      clear cN
      go_wp2_with fail
      go_ret2
      exact ⟨rfl, below_step hb1 hb1.size hbN⟩
    | true =>
      rw [hp] at cN
      have hlh := hh hp
      rw [rtd_unc m h o S R hm hp hlh]
      have h64 : 2 ^ h ≤ 2 ^ 6 := Nat.pow_le_pow_right (by decide) h6
      have e6 : 2 ^ 6 = 64 := by decide
      have cC := fun W (hW : Below w.heap.size w W) => count_any o ao co W (by omega) (hO.keep hW)
      have cT := fun W (hW : Below w.heap.size w W) => rests_any h h6 o ao co W hlh ho hq (hO.keep hW)
      have cU := fun W (hW : Below w.heap.size w W) h1 h2 => uncovered_any m m0 m1 h h6 o ao co S aS cS R aR cR W hlh ho hq (hO.keep hW) h1 s1 s2 (hS.keep hW) h2 r1 r2 hR (hL.keep hW)
      have sm1 := List.count_le_length (a := true) (l := o)
      have sm2 := resN_small h o
      have hnc : ((o.count true : Nat) : Int) ≤ 64 := by omega
      have hnr : ((resN h o : Nat) : Int) ≤ 64 := by omega
      obtain ⟨w1, hw1⟩ : ∃ w1, w.alloc (.cells #[.slice aS S.length cS, .slice aR R.length cR] 26) = w1 := ⟨_, rfl⟩
      rw [hw1] at hb1 hz
      have Q0 : ∀ W, Below w1.heap.size w1 W → W.cell? ⟨w.heap.size, 0, none⟩ = some (.slice aS S.length cS) := fun W hW => Blk.cell (hz.keep hW) rfl
      have Q1 : ∀ W, Below w1.heap.size w1 W → W.cell? ⟨w.heap.size, 1, none⟩ = some (.slice aR R.length cR) := fun W hW => Blk.cell (hz.keep hW) rfl
      have HC := Lib.hid (fun W (hW : Below w1.heap.size w1 W) => cC W (below_step hb1 hb1.size hW))
      have HT := Lib.hid (fun W (hW : Below w1.heap.size w1 W) => cT W (below_step hb1 hb1.size hW))
      have HU := Lib.hid (fun W (hW : Below w1.heap.size w1 W) => cU W (below_step hb1 hb1.size hW))
      generalize uncR m h o S R = U at *
      generalize resN h o = x2 at *
      generalize o.count true = x1 at *
      have HB := Lib.hid hb1
      clear cC cT cU hh ho hO hS hL s1 s2 r1 r2 hR hp hm hlh h64 e6 h6 hb1 hz sm1 sm2
      by_cases hx1 : S.length = x1
      · by_cases hx2 : R.length = x2
        · rw [if_neg (by omega)]
          have HU2 := Lib.hid (fun W hW => HU.out W hW hx1 hx2)
          clear HU
          generalize o.length = n at *
          generalize S.length = sl at *
          generalize R.length = rl at *
          have hi1 : ((sl : Int) != (x1 : Int)) = false := by simp; omega
          have hi2 : ((rl : Int) != (x2 : Int)) = false := by simp; omega
          clear hx1 hx2
          go_enter Tryd.func14, Tryd.ntmps14
          go_upto_region 1 with fail
          clear hw1
          go_wp2_with fail
          refine (cM _).mono ?_
          rintro e w2 ⟨rfl, rfl⟩
          clear cM
          go_wp2_with fail
          refine (cN _).mono ?_
          rintro e w3 ⟨rfl, hb3⟩
          have HB3 := Lib.hid hb3
          clear cN
          go_upto_region 5 with fail
          refine wp_region_det 14 (by kernel_rfl) (by kernel_rfl) (by kernel_rfl) ?_
          simp only [List.take_succ_cons, List.take_zero, List.drop_succ_cons, List.drop_zero]
          iterate 4 (apply wpDet_plain _ rfl; (focus (intro W hW; have q0 := Q0 W (below_step hb3 hb3.size hW); go_simp; exact ⟨rfl, Below.refl _ _⟩)); simp only [Act.put, List.setIfInBounds_toArray, List.set_cons_zero, List.set_cons_succ])
          apply wpDet_plain _ rfl; (focus (intro W hW; go_simp; exact (HC.out W (below_step hb3 hb3.size hW)).mono (fun e w' hh => ⟨hh.1, by rw [← hh.2]; exact Below.refl _ _⟩))); simp only [Act.put, List.setIfInBounds_toArray, List.set_cons_zero, List.set_cons_succ]
          apply wpDet_plain (.bool false) rfl; (focus (intro W hW; go_simp; exact Below.refl _ _)); simp only [Act.put, List.setIfInBounds_toArray, List.set_cons_zero, List.set_cons_succ]
          apply wpDet_plain _ rfl; (focus (intro W hW; go_simp; exact ⟨rfl, Below.refl _ _⟩)); simp only [Act.put, List.setIfInBounds_toArray, List.set_cons_zero, List.set_cons_succ]
          iterate 4 (apply wpDet_want _ (by kernel_rfl); (focus (intro W hW; have q0 := Q1 W (below_step hb3 hb3.size hW); go_simp; exact ⟨rfl, Below.refl _ _⟩)); simp only [Act.put, List.setIfInBounds_toArray, List.set_cons_zero, List.set_cons_succ])
          apply wpDet_want _ (by kernel_rfl); (focus (intro W hW; go_simp; exact HT.out W (below_step hb3 hb3.size hW))); simp only [Act.put, List.setIfInBounds_toArray, List.set_cons_zero, List.set_cons_succ]
          apply wpDet_want (.bool false) (by kernel_rfl); (focus (intro W hW; go_simp; exact Below.refl _ _)); simp only [Act.put, List.setIfInBounds_toArray, List.set_cons_zero, List.set_cons_succ]
          apply wpDet_plain _ rfl; (focus (intro W hW; go_simp; exact ⟨rfl, Below.refl _ _⟩)); simp only [Act.put, List.setIfInBounds_toArray, List.set_cons_zero, List.set_cons_succ]
          refine wpDet_nil ?_; intro W hW
          have hW1 := below_step hb3 hb3.size hW
          have cU := HU2.out W hW1
          have q0 := Q0 W hW1
          have q1 := Q1 W hW1
          have HB5 := Lib.hid (below_step HB.out HB.out.size hW1)
          clear hW hW1 hb3 Q0 Q1 hi1 hi2
          go_wp2_with fail
          refine cU.mono ?_
          intro e W6 hpost
          clear cU q0 q1
          cases U with
          | none =>
            obtain ⟨⟨v, rfl⟩, hb6⟩ := hpost
            have hbb := below_step HB5.out HB5.out.size hb6
            clear hb6
            go_wp2_with fail
            go_ret2
            exact ⟨rfl, hbb⟩
          | some x =>
            obtain ⟨⟨v, rfl, hr⟩, hb6⟩ := hpost
            have hbb := below_step HB5.out HB5.out.size hb6
            obtain ⟨a6, k6, rfl, -⟩ := id hr
            have HR6 := Lib.hid hr
            clear hb6 hr
            generalize x.length = lx at *
            go_wp2_with fail
            go_ret2
            exact ⟨⟨_, rfl, HR6.out⟩, hbb⟩
        · rw [if_pos (.inr hx2)]
          clear HU
          generalize o.length = n at *
          generalize S.length = sl at *
          generalize R.length = rl at *
          have hi1 : ((sl : Int) != (x1 : Int)) = false := by simp; omega
          have hi2 : ((rl : Int) != (x2 : Int)) = true := by simp; omega
          clear hx1 hx2
          go_enter Tryd.func14, Tryd.ntmps14
          go_upto_region 1 with fail
          clear hw1
          go_wp2_with fail
          refine (cM _).mono ?_
          rintro e w2 ⟨rfl, rfl⟩
          clear cM
          go_wp2_with fail
          refine (cN _).mono ?_
          rintro e w3 ⟨rfl, hb3⟩
          have HB3 := Lib.hid hb3
          clear cN
          go_upto_region 5 with fail
          refine wp_region_det 14 (by kernel_rfl) (by kernel_rfl) (by kernel_rfl) ?_
          simp only [List.take_succ_cons, List.take_zero, List.drop_succ_cons, List.drop_zero]
          iterate 4 (apply wpDet_plain _ rfl; (focus (intro W hW; have q0 := Q0 W (below_step hb3 hb3.size hW); go_simp; exact ⟨rfl, Below.refl _ _⟩)); simp only [Act.put, List.setIfInBounds_toArray, List.set_cons_zero, List.set_cons_succ])
          apply wpDet_plain _ rfl; (focus (intro W hW; go_simp; exact (HC.out W (below_step hb3 hb3.size hW)).mono (fun e w' hh => ⟨hh.1, by rw [← hh.2]; exact Below.refl _ _⟩))); simp only [Act.put, List.setIfInBounds_toArray, List.set_cons_zero, List.set_cons_succ]
          apply wpDet_plain (.bool false) rfl; (focus (intro W hW; go_simp; exact Below.refl _ _)); simp only [Act.put, List.setIfInBounds_toArray, List.set_cons_zero, List.set_cons_succ]
          apply wpDet_plain _ rfl; (focus (intro W hW; go_simp; exact ⟨rfl, Below.refl _ _⟩)); simp only [Act.put, List.setIfInBounds_toArray, List.set_cons_zero, List.set_cons_succ]
          iterate 4 (apply wpDet_want _ (by kernel_rfl); (focus (intro W hW; have q0 := Q1 W (below_step hb3 hb3.size hW); go_simp; exact ⟨rfl, Below.refl _ _⟩)); simp only [Act.put, List.setIfInBounds_toArray, List.set_cons_zero, List.set_cons_succ])
          apply wpDet_want _ (by kernel_rfl); (focus (intro W hW; go_simp; exact HT.out W (below_step hb3 hb3.size hW))); simp only [Act.put, List.setIfInBounds_toArray, List.set_cons_zero, List.set_cons_succ]
          apply wpDet_want (.bool true) (by kernel_rfl); (focus (intro W hW; go_simp; exact Below.refl _ _)); simp only [Act.put, List.setIfInBounds_toArray, List.set_cons_zero, List.set_cons_succ]
          apply wpDet_plain _ rfl; (focus (intro W hW; go_simp; exact ⟨rfl, Below.refl _ _⟩)); simp only [Act.put, List.setIfInBounds_toArray, List.set_cons_zero, List.set_cons_succ]
          refine wpDet_nil ?_; intro W hW
          have hbb := below_step HB.out HB.out.size (below_step hb3 hb3.size hW)
          clear hW hb3 Q0 Q1 hi1 hi2
          go_wp2_with fail
          go_ret2
          exact ⟨rfl, hbb⟩
      · rw [if_pos (.inl hx1)]
        clear HU
        generalize o.length = n at *
        generalize S.length = sl at *
        generalize R.length = rl at *
        have hi1 : ((sl : Int) != (x1 : Int)) = true := by simp; omega
        clear hx1
        go_enter Tryd.func14, Tryd.ntmps14
        go_upto_region 1 with fail
        clear hw1
        go_wp2_with fail
        refine (cM _).mono ?_
        rintro e w2 ⟨rfl, rfl⟩
        clear cM
        go_wp2_with fail
        refine (cN _).mono ?_
        rintro e w3 ⟨rfl, hb3⟩
        clear cN
        go_upto_region 5 with fail
        refine wp_region_det 14 (by kernel_rfl) (by kernel_rfl) (by kernel_rfl) ?_
        simp only [List.take_succ_cons, List.take_zero, List.drop_succ_cons, List.drop_zero]
        iterate 4 (apply wpDet_plain _ rfl; (focus (intro W hW; have q0 := Q0 W (below_step hb3 hb3.size hW); go_simp; exact ⟨rfl, Below.refl _ _⟩)); simp only [Act.put, List.setIfInBounds_toArray, List.set_cons_zero, List.set_cons_succ])
        apply wpDet_plain _ rfl; (focus (intro W hW; go_simp; exact (HC.out W (below_step hb3 hb3.size hW)).mono (fun e w' hh => ⟨hh.1, by rw [← hh.2]; exact Below.refl _ _⟩))); simp only [Act.put, List.setIfInBounds_toArray, List.set_cons_zero, List.set_cons_succ]
        apply wpDet_plain (.bool true) rfl; (focus (intro W hW; go_simp; exact Below.refl _ _)); simp only [Act.put, List.setIfInBounds_toArray, List.set_cons_zero, List.set_cons_succ]
        apply wpDet_plain _ rfl; (focus (intro W hW; go_simp; exact ⟨rfl, Below.refl _ _⟩)); simp only [Act.put, List.setIfInBounds_toArray, List.set_cons_zero, List.set_cons_succ]
        iterate 6 (refine wpDet_skip (by kernel_rfl) ?_; simp only [Act.put, List.setIfInBounds_toArray, List.set_cons_zero, List.set_cons_succ])
        apply wpDet_plain _ rfl; (focus (intro W hW; go_simp; exact ⟨rfl, Below.refl _ _⟩)); simp only [Act.put, List.setIfInBounds_toArray, List.set_cons_zero, List.set_cons_succ]
        refine wpDet_nil ?_; intro W hW
        have hbb := below_step HB.out HB.out.size (below_step hb3 hb3.size hW)
        clear hW hb3 Q0 Q1 hi1
        go_wp2_with fail
        go_ret2
        exact ⟨rfl, hbb⟩
end Go.Proofs.YtcplnfaopigoiaaDoor
