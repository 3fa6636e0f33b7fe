/-
  CONTRACT of the reference's climbed.
  CONDITIONS: each theorem's own hypotheses.
-/
import Derived.Test.YtdpfjhhcgaeiiaaDoorClimbP
import Derived.Test.YtdpfjhhcgaeiiaaDoorSlotI
namespace Go.Proofs.YtdpfjhhcgaeiiaaDoor
open Go.RowKit CodeMath Go.Proofs.YtdpfjhhcgaeiiaaDoor.FrameMath
set_option linter.unusedVariables false
set_option maxRecDepth 100000

theorem sliceL_first (ao : Option Addr) (n cap m : Nat) (hm : m ≤ cap) (W : World) : (Instr.slice 23 (.slice ao n cap) none (some (.int .i64 (m : Int))) none).run Tryd.prog W = .ok (.slice ao m cap) W := by
  have hs : (sizeOf (Tryd.prog.elem 23)).run Tryd.prog W = .ok 1 W := by kernel_rfl
  have h := run_slice_h (P := Tryd.prog) W 23 ao n cap (by kernel_rfl) .i64 (m : Int) (by omega) (by omega)
  rw [h, hs, Int.toNat_natCast]
  simp only [Result.andThen, sliced, Nat.sub_zero]
  cases ao with
  | none => simp
  | some a => simp [Addr.add]
theorem Lines.front {w : World} {ao : Option Addr} {r s : List (List UInt8)} (h : Lines w ao (r ++ s)) : Lines w ao r := by
  rcases h with h | ⟨a, o, h1, h2, h3⟩
  · left; exact (List.append_eq_nil_iff.1 h).1
  · exact .inr ⟨a, o, h1, h2, fun i l hi => h3 i l (by rw [List.getElem?_append_left (List.getElem?_eq_some_iff.1 hi).1]; exact hi)⟩
def ClimbF (m N : Int) (k p pm : Nat) (DV L : Value) (ap : Option Addr) (ln lm cp : Nat) (R : DR) : Nat → Value → World → Prop
  | 0, v, _ => v = .int .i64 m
  | 1, v, _ => v = .int .i64 N
  | 2, v, _ => v = .int .i64 (k : Int)
  | 3, v, _ => v = .int .i64 (p : Int)
  | 4, v, _ => v = .int .i64 N
  | 5, v, _ => v = .int .i64 (k : Int)
  | 6, v, _ => v = .int .i64 (pm : Int)
  | 7, v, _ => v = DV
  | 8, v, _ => v = L
  | 9, v, _ => v = L
  | 10, v, _ => v = .int .i64 (ln : Int)
  | 11, v, _ => v = .int .i64 (lm : Int)
  | 12, v, _ => v = .slice ap lm cp
  | 13, v, w => ∃ u, v = .tuple #[u, .bool (bR R)] ∧ ClU R u w
  | 14, v, w => ∃ u, v = .tuple #[u, .bool (bR R)] ∧ ClU R u w
  | 15, v, w => ClU R v w
  | 16, v, _ => v = .bool (bR R)
  | 17, v, w => ClU R v w
  | _, _, _ => True
theorem climbF_keep {m N : Int} {k p pm : Nat} {DV L : Value} {ap : Option Addr} {ln lm cp : Nat} {R : DR} (i : Nat) (v : Value) (w w' : World) (h : ClimbF m N k p pm DV L ap ln lm cp R i v w) (he : Below w.heap.size w w') : ClimbF m N k p pm DV L ap ln lm cp R i v w' := by
  unfold ClimbF at *
  split at h <;> (try exact h) <;> (try exact trivial)
  · obtain ⟨u, h1, h2⟩ := h; exact ⟨u, h1, h2.keep he⟩
  · obtain ⟨u, h1, h2⟩ := h; exact ⟨u, h1, h2.keep he⟩
  · exact h.keep he
  · exact h.keep he
set_option maxHeartbeats 4000000 in
theorem climbed_any (m : Int) (m0 : -9223372036854775808 ≤ m) (m1 : m ≤ 9223372036854775807) : ∀ (h : Nat), h ≤ 6 → ∀ (rows : List (List UInt8)) (N : Int) (p : Nat) (d : List UInt8) (dv : Value) (ap : Option Addr) (cp : Nat) (w : World), N = (2 ^ h : Nat) → p < 2 ^ h → rows.length ≤ cp → cp ≤ 9223372036854775807 → (∀ b ∈ rows, b.length ≤ 140737488351232) → d.length ≤ 140737488351232 → Lines w ap rows → RowT w dv d →
    Calls Tryd.prog 56 #[.int .i64 m, .int .i64 N, .int .i64 (p : Int), dv, .slice ap rows.length cp] w (ClPost (clR m p h d rows) w) := by
  intro h
  induction h with
  | zero =>
    intro h6 rows N p d dv ap cp w hN hp hc hq hL hd hl hv
    obtain rfl : N = 1 := by rw [hN]; rfl
    obtain rfl : p = 0 := by simpa using hp
    have hBB := Below.refl w.heap.size w
    obtain ⟨ad, nd, kd, rfl⟩ : ∃ a n k, dv = .slice a n k := by obtain ⟨a, k, e, _⟩ := id hv; exact ⟨_, _, _, e⟩
    by_cases h0 : rows.length = 0
    · have hr : clR m 0 0 d rows = .ok d := by
        rw [List.eq_nil_of_length_eq_zero h0]; rfl
      rw [hr, h0]
      clear hL hd hN hp hc hl hr h0
      go_enter Tryd.func56, Tryd.ntmps56
      go_wp2_with fail
      go_ret2
      exact ⟨_, rfl, (fun x hx => by cases hx; exact hv), hBB⟩
    · have hr : clR m 0 0 d rows = .err 10 := by unfold clR; rw [if_neg h0]
      rw [hr]
      have h0I : ¬ (rows.length : Int) = 0 := by omega
      clear hL hd hN hp hl hr
      generalize rows.length = ln at *
      go_enter Tryd.func56, Tryd.ntmps56
      go_wp2_with fail
      go_ret2
      exact ⟨_, (by have c1 : ((ln : Int) == 0) = false := by simpa using h0I
                    first | rfl | (rw [c1]; rfl)), (fun x hx => by cases hx), hBB⟩
  | succ h IH =>
    intro h6 rows N p d dv ap cp w hN hp hc hq hL hd hl hv
    have e1 : 2 ^ (h + 1) = 2 ^ h + 2 ^ h := by rw [Nat.pow_succ]; omega
    rw [e1] at hN hp
    have hBB := Below.refl w.heap.size w
    obtain ⟨ad, nd, kd, rfl⟩ : ∃ a n k, dv = .slice a n k := by obtain ⟨a, k, e, _⟩ := id hv; exact ⟨_, _, _, e⟩
    obtain ⟨k, hk⟩ : ∃ k, 2 ^ h = k := ⟨_, rfl⟩
    have hk0 : 0 < k := by rw [← hk]; exact Nat.pow_pos (by decide)
    have hk32 : k ≤ 32 := by
      have h9 : 2 ^ h ≤ 2 ^ 5 := Nat.pow_le_pow_right (by decide) (by omega)
      have e5 : 2 ^ 5 = 32 := by decide
      omega
    have hN1 : ¬ N = 1 := by omega
    rcases List.eq_nil_or_concat rows with rfl | ⟨r, b, hcc⟩
    · have hr : clR m p (h + 1) d [] = .err 10 := by unfold clR; rw [if_neg (by simp)]
      rw [hr]
      have e0 : ([] : List (List UInt8)).length = 0 := rfl
      rw [e0]
      clear hL hd hN hp hl hr e0 hk e1
      go_enter Tryd.func56, Tryd.ntmps56
      go_wp2_with fail
      go_ret2
      exact ⟨_, rfl, (fun x hx => by cases hx), hBB⟩
    · rw [List.concat_eq_append] at hcc
      subst hcc
      rw [clR_end m p h d b r hp]
      have hlr : (r ++ [b]).length = r.length + 1 := by simp
      have hrlen : ∀ x, clR m (p % 2 ^ h) h d r = .ok x → x.length ≤ 140737488351232 := fun x hx => clR_len hd hx
      have cX0 := fun W hW => IH (by omega) r (k : Int) (p % 2 ^ h) d (.slice ad nd kd) ap cp W (by rw [hk]) (Nat.mod_lt _ (Nat.pow_pos (by decide))) (by omega) hq (fun x hx => hL x (by simp [hx])) hd ((hl.keep hW).front) (hv.keep hW)
      have hlb := hL b (by simp)
      rw [hk] at hp hN hrlen cX0 ⊢
      obtain ⟨R, hR⟩ : ∃ R, clR m (p % k) h d r = R := ⟨_, rfl⟩
      rw [hR] at cX0 hrlen ⊢
      obtain ⟨bt, hbt⟩ : ∃ x, decide (k ≤ p) = x := ⟨_, rfl⟩
      rw [hbt]
      have hlast : (r ++ [b])[r.length]? = some b := by rw [List.getElem?_append_right (Nat.le_refl _), Nat.sub_self]; rfl
      rcases hl with h0 | ⟨ga, go, rfl, hga, h3⟩
      · simp at h0
      obtain ⟨A1, k1, c1, q1, q2, q3, q4⟩ := h3 _ b hlast
      have hrb : RowV w (.slice A1 b.length k1) b := ⟨A1, k1, rfl, q1, q2, q3, q4⟩
      rw [hlr] at hc ⊢
      generalize r.length = lm at *
      generalize b.length = lb at hrb c1
      obtain ⟨pm, hpm⟩ : ∃ pm, p % k = pm := ⟨_, rfl⟩
      rw [hpm] at cX0
      have hdiv : N.tdiv 2 = (k : Int) := by rw [Int.tdiv_eq_ediv_of_nonneg (by omega)]; omega
      have hmod : (p : Int).tmod (k : Int) = (pm : Int) := by rw [Int.tmod_eq_emod_of_nonneg (by omega), ← hpm]; exact (Int.natCast_emod p k).symm
      have hkI0 : ¬ (k : Int) = 0 := by omega
      have hkI : (k : Int) ≤ 32 := by omega
      have hpI : (p : Int) ≤ 64 := by omega
      have hpmI : (pm : Int) ≤ 64 := by
        have : pm ≤ p := by rw [← hpm]; exact Nat.mod_le _ _
        omega
      have hNI : N ≤ 64 := by omega
      have hNI0 : 0 ≤ N := by omega
      have hlmI : (lm : Int) ≤ 9223372036854775806 := by omega
      have s1 := fun W => sliceL_first (some ⟨ga, go, none⟩) (lm + 1) cp lm (by omega) W
      have hln : ((lm + 1 : Nat) : Int) = (lm : Int) + 1 := by omega
      have hsub : (lm : Int) + 1 - 1 = lm := by omega
      have hwk : IntKind.i64.wrap (k : Int) = (k : Int) := by
        simp [IntKind.wrap, IntKind.bits, IntKind.signed]
        omega
      have hwp : IntKind.i64.wrap (pm : Int) = (pm : Int) := by
        simp [IntKind.wrap, IntKind.bits, IntKind.signed]
        omega
      have hwl : IntKind.i64.wrap (lm : Int) = (lm : Int) := by
        simp [IntKind.wrap, IntKind.bits, IntKind.signed]
        omega
      have hkN0 : ¬ k = 0 := by omega
      have HBT := Lib.hid hbt
      have HRL := Lib.hid hrlen
      have HRB := Lib.hid hrb
      have HLB := Lib.hid hlb
      have cX : ∀ W, Below w.heap.size w W → _ := fun W hW => cX0 W hW
      clear IH hk e1 hp hpm hR hN hL hd hv h3 q1 q2 q3 q4 hlast hlr hc hbt hrlen hrb cX0 hk0 hlb hq
      go_enter Tryd.func56, Tryd.ntmps56
      go_upto_region 6 with fail
      generalize (N == 1) = bq1
      generalize ((lm : Int) + 1 == 0) = bq2
      refine wp_region_facts' 18 (by kernel_rfl) (by kernel_rfl) (ClimbF m N k p pm (.slice ad nd kd) (.slice (some ⟨ga, go, none⟩) (lm + 1) cp) (some ⟨ga, go, none⟩) (lm + 1) lm cp R) (fun W => Below w.heap.size w W) (fun W W' => Below W.heap.size W W') ?hC ?hF ?h0 ?hstep ?hdone
      case hC => exact fun W W' hc he => below_step hc hc.size he
      case hF => exact climbF_keep
      case h0 => exact (Below.refl _ _).drew
      case hstep =>
        intro i hi vs act W K ha' hc hd hu hK
        simp only [fillF, Act.put, List.take_succ_cons, List.take_zero, List.setIfInBounds_toArray, List.set_cons_zero, List.set_cons_succ] at ha'
        subst ha'
        rcases (show i = 0 ∨ i = 1 ∨ i = 2 ∨ i = 3 ∨ i = 4 ∨ i = 5 ∨ i = 6 ∨ i = 7 ∨ i = 8 ∨ i = 9 ∨ i = 10 ∨ i = 11 ∨ i = 12 ∨ i = 13 ∨ i = 14 ∨ i = 15 ∨ i = 16 ∨ i = 17 by omega) with rfl | rfl | rfl | rfl | rfl | rfl | rfl | rfl | rfl | rfl | rfl | rfl | rfl | rfl | rfl | rfl | rfl | rfl
        · refine wpOp_step rfl (fun K' hK' => ?_)
          go_simp
          exact hK' _ _ (hK _ _ rfl (Below.refl _ _))
        · refine wpOp_step rfl (fun K' hK' => ?_)
          go_simp
          exact hK' _ _ (hK _ _ rfl (Below.refl _ _))
        · have e1 : vs 1 = .int .i64 N := hd 1 (by kernel_rfl)
          simp only [e1] at hK ⊢
          refine wpOp_step rfl (fun K' hK' => ?_)
          go_simp
          exact hK' _ _ (hK _ _ rfl (Below.refl _ _))
        · refine wpOp_step rfl (fun K' hK' => ?_)
          go_simp
          exact hK' _ _ (hK _ _ rfl (Below.refl _ _))
        · refine wpOp_step rfl (fun K' hK' => ?_)
          go_simp
          exact hK' _ _ (hK _ _ rfl (Below.refl _ _))
        · have e4 : vs 4 = .int .i64 N := hd 4 (by kernel_rfl)
          simp only [e4] at hK ⊢
          refine wpOp_step rfl (fun K' hK' => ?_)
          go_simp
          exact hK' _ _ (hK _ _ rfl (Below.refl _ _))
        · have e3 : vs 3 = .int .i64 (p : Int) := hd 3 (by kernel_rfl)
          have e5 : vs 5 = .int .i64 (k : Int) := hd 5 (by kernel_rfl)
          simp only [e3, e5] at hK ⊢
          refine wpOp_step rfl (fun K' hK' => ?_)
          go_simp
          exact hK' _ _ (hK _ _ rfl (Below.refl _ _))
        · have u17 := hu 17 _ rfl (.inr (by kernel_rfl))
          simp only [slotOf] at u17
          simp only [u17] at hK ⊢
          refine wpOp_step rfl (fun K' hK' => ?_)
          go_simp
          exact hK' _ _ (hK _ _ rfl (Below.refl _ _))
        · refine wpOp_step rfl (fun K' hK' => ?_)
          go_simp
          exact hK' _ _ (hK _ _ rfl (Below.refl _ _))
        · refine wpOp_step rfl (fun K' hK' => ?_)
          go_simp
          exact hK' _ _ (hK _ _ rfl (Below.refl _ _))
        · have e9 : vs 9 = .slice (some ⟨ga, go, none⟩) (lm + 1) cp := hd 9 (by kernel_rfl)
          simp only [e9] at hK ⊢
          refine wpOp_step rfl (fun K' hK' => ?_)
          go_simp
          exact hK' _ _ (hK _ _ rfl (Below.refl _ _))
        · have e10 : vs 10 = .int .i64 ((lm : Int) + 1) := hd 10 (by kernel_rfl)
          simp only [e10] at hK ⊢
          refine wpOp_step rfl (fun K' hK' => ?_)
          go_simp
          exact hK' _ _ (hK _ _ rfl (Below.refl _ _))
        · have e8 : vs 8 = .slice (some ⟨ga, go, none⟩) (lm + 1) cp := hd 8 (by kernel_rfl)
          have e11 : vs 11 = .int .i64 (lm : Int) := hd 11 (by kernel_rfl)
          simp only [e8, e11] at hK ⊢
          have q1 := s1 W
          refine wpOp_step rfl (fun K' hK' => ?_)
          go_simp
          exact hK' _ _ (hK _ _ rfl (Below.refl _ _))
        · have e0 : vs 0 = .int .i64 m := hd 0 (by kernel_rfl)
          have e2 : vs 2 = .int .i64 (k : Int) := hd 2 (by kernel_rfl)
          have e6 : vs 6 = .int .i64 (pm : Int) := hd 6 (by kernel_rfl)
          have e7 : vs 7 = .slice ad nd kd := hd 7 (by kernel_rfl)
          have e12 : vs 12 = .slice (some ⟨ga, go, none⟩) lm cp := hd 12 (by kernel_rfl)
          simp only [e0, e2, e6, e7, e12] at hK ⊢
          refine wpOp_step rfl (fun K' hK' => ?_)
          go_simp
          with_reducible refine (cX W hc).mono ?_
          rintro e w' ⟨u, rfl, ho, hb⟩
          exact hK' _ _ (hK _ _ ⟨u, rfl, ho⟩ hb)
        · obtain ⟨u13, e13, y13⟩ := hd 13 (by kernel_rfl)
          simp only [e13] at hK ⊢
          refine wpOp_step rfl (fun K' hK' => ?_)
          go_simp
          exact hK' _ _ (hK _ _ ⟨u13, rfl, y13⟩ (Below.refl _ _))
        · obtain ⟨u14, e14, y14⟩ := hd 14 (by kernel_rfl)
          simp only [e14] at hK ⊢
          refine wpOp_step rfl (fun K' hK' => ?_)
          go_simp
          exact hK' _ _ (hK _ _ y14 (Below.refl _ _))
        · obtain ⟨u14, e14, y14⟩ := hd 14 (by kernel_rfl)
          simp only [e14] at hK ⊢
          refine wpOp_step rfl (fun K' hK' => ?_)
          go_simp
          exact hK' _ _ (hK _ _ rfl (Below.refl _ _))
        · have y15 : ClU R (vs 15) W := hd 15 (by kernel_rfl)
          refine wpOp_step rfl (fun K' hK' => ?_)
          go_simp
          exact hK' _ _ (hK _ _ y15 (Below.refl _ _))
      case hdone =>
        intro vs act W ha' hc hf
        simp only [fillF, Act.put, List.take_succ_cons, List.take_zero, List.setIfInBounds_toArray, List.set_cons_zero, List.set_cons_succ] at ha'
        subst ha'
        have f16 : vs 16 = .bool (bR R) := hf 16 (by decide)
        have f17 : ClU R (vs 17) W := hf 17 (by decide)
        simp only [Nat.zero_add, Nat.reduceAdd, f16]
        generalize vs 17 = u17 at *
        clear hf cX s1
        cases R with
        | err c =>
          rw [show bR (.err c) = false from rfl]
          clear f16 f17
          go_wp2_with fail
          go_ret2
          exact ⟨_, rfl, (fun x hx => by cases hx), hc⟩
        | ok x =>
          have hrx := f17 x rfl
          rw [show bR (.ok x) = true from rfl]
          clear f16 f17
          obtain ⟨a5, n5, k5, rfl⟩ : ∃ a n k, u17 = .slice a n k := by obtain ⟨a, k, e, _⟩ := id hrx; exact ⟨_, _, _, e⟩
          have hlx := HRL.out x rfl
          have hba : ∀ o, Below w.heap.size w (W.alloc o) := fun o => hc.alloc hc.size o
          have hba2 : ∀ o o', Below w.heap.size w ((W.alloc o).alloc o') := fun o o' => (hba o).alloc (hba o).size o'
          have hbW : ∀ o, Below W.heap.size W (W.alloc o) := fun o => (Below.refl _ _).alloc (Nat.le_refl _) o
          have hz : ∀ o, (W.alloc o).heap.size = W.heap.size + 1 := fun o => by simp
          have hrb2 := HRB.out.keep hc
          have hrx2 := hrx.row
          cases bt with
          | false =>
            have hpkI : ¬ (k : Int) ≤ p := by have := of_decide_eq_false HBT.out; omega
            have hlin := lines_two W _ _ 29 _ _ hrx2 hrb2
            have cD := fun ap W' h => DigestOf_any m 2 [x, b] ap 2 W' m0 m1 (by decide) (by decide) (by simp) (fun l hl => by simp at hl; rcases hl with rfl | rfl <;> first | exact hlx | exact HLB.out) h
            rw [show [x, b].length = 2 from rfl] at cD
            have hst : stepR m false (.ok x) b = digR m 2 [x, b] := rfl
            cases hD : digR m 2 [x, b] with
            | err c =>
              have HD := Lib.hid (hst.trans hD)
              have c0 := digR_ne hD
              rw [hD] at cD
              clear hD hst HRB HLB HRL hrb2 hrx2 hrx hlx
              go_wp2_with fail
              refine (cD _ _ hlin).mono ?_
              rintro e w3 ⟨rfl, hb3⟩
              have hbb := below_step (hba _) (hba _).size hb3
              clear cD
              go_wp2_with fail
              go_ret2
              refine ⟨_, (by
                have c1 : (c == 0) = false := by simpa using c0
                rw [HD.out]
                first
                  | rfl
                  | (rw [show bR (.err c) = (c == 0) from c1.symm]; rfl)
                  | (rw [show bR (.err c) = (c == 0) from c1.symm])), ?_, hbb⟩
              intro x' hx'
              rw [HD.out] at hx'
              cases hx'
            | ok y =>
              have HD := Lib.hid (hst.trans hD)
              rw [hD] at cD
              clear hD hst HRB HLB HRL hrb2 hrx2 hrx hlx
              go_wp2_with fail
              refine (cD _ _ hlin).mono ?_
              rintro e w3 ⟨v3, rfl, hr3, hb3⟩
              have hbb := below_step (hba _) (hba _).size hb3
              clear cD
              go_wp2_with fail
              go_ret2
              refine ⟨_, by rw [HD.out]; rfl, ?_, hbb⟩
              intro x' hx'
              rw [HD.out] at hx'
              cases hx'
              exact hr3
          | true =>
            have hpkI : (k : Int) ≤ p := by have := of_decide_eq_true HBT.out; omega
            have hlin := lines_two (W.alloc (.cells #[.slice a5 n5 k5, .slice A1 lb k1] 29)) _ _ 29 _ _ (hrb2.keep (hbW _)) (hrx2.keep (hbW _))
            rw [hz] at hlin
            have cD := fun ap W' h => DigestOf_any m 2 [b, x] ap 2 W' m0 m1 (by decide) (by decide) (by simp) (fun l hl => by simp at hl; rcases hl with rfl | rfl <;> first | exact hlx | exact HLB.out) h
            rw [show [b, x].length = 2 from rfl] at cD
            have hst : stepR m true (.ok x) b = digR m 2 [b, x] := rfl
            cases hD : digR m 2 [b, x] with
            | err c =>
              have HD := Lib.hid (hst.trans hD)
              have c0 := digR_ne hD
              rw [hD] at cD
              clear hD hst HRB HLB HRL hrb2 hrx2 hrx hlx
              go_wp2_with fail
              refine (cD _ _ hlin).mono ?_
              rintro e w3 ⟨rfl, hb3⟩
              have hbb := below_step (hba2 _ _) (hba2 _ _).size hb3
              clear cD
              go_wp2_with fail
              go_ret2
              refine ⟨_, (by
                have c1 : (c == 0) = false := by simpa using c0
                rw [HD.out]
                first
                  | rfl
                  | (rw [show bR (.err c) = (c == 0) from c1.symm]; rfl)
                  | (rw [show bR (.err c) = (c == 0) from c1.symm])), ?_, hbb⟩
              intro x' hx'
              rw [HD.out] at hx'
              cases hx'
            | ok y =>
              have HD := Lib.hid (hst.trans hD)
              rw [hD] at cD
              clear hD hst HRB HLB HRL hrb2 hrx2 hrx hlx
              go_wp2_with fail
              refine (cD _ _ hlin).mono ?_
              rintro e w3 ⟨v3, rfl, hr3, hb3⟩
              have hbb := below_step (hba2 _ _) (hba2 _ _).size hb3
              clear cD
              go_wp2_with fail
              go_ret2
              refine ⟨_, by rw [HD.out]; rfl, ?_, hbb⟩
              intro x' hx'
              rw [HD.out] at hx'
              cases hx'
              exact hr3
end Go.Proofs.YtdpfjhhcgaeiiaaDoor
