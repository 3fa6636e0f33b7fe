/-
  CONTRACT of package slots' Leaf.
  CONDITIONS: package sum's roundWords hold what their initialiser lays ('KW').
-/
import Derived.Test.YtdpfjhhcgaeiiabDoorSlotA
import Derived.Test.YtdpfjhhcgaeiiabDoorSaltA
import Derived.Deep.Cut
namespace Go.Proofs.YtdpfjhhcgaeiiabDoor
open Go.RowKit CodeMath Go.Proofs.YtdpfjhhcgaeiiabDoor.FrameMath
set_option linter.unusedVariables false
set_option maxRecDepth 100000

def leafR (m : Int) (f : Bool) (s d : List UInt8) : DR := if isMode m = false then .err 2 else if f = false ∧ 0 < d.length then .err 3 else if 80 < s.length ∨ 400 < d.length then .err 1 else .ok (digB m 1 [s, contB f d])
theorem digR_leaf (m : Int) (hm : isMode m = true) (f : Bool) (s d : List UInt8) (h1 : ¬ 80 < s.length) (h2 : ¬ 400 < d.length) : digR m 1 [s, contB f d] = .ok (digB m 1 [s, contB f d]) := by
  have hc := contB_length f d
  unfold digR
  rw [if_neg (by rw [hm]; decide), if_neg (by omega), if_neg (by simp only [total, List.length_cons, List.length_nil]; omega)]
  rfl
def LeafF (m : Int) (g : Nat) (f : Bool) (a1 ad : Option Addr) (n1 k1 nd cd : Nat) (S C D : List UInt8) : Nat → Value → World → Prop
  | 0, v, _ => v = .int .i64 m
  | 1, v, _ => v = .pointer (some ⟨g, 1, none⟩)
  | 2, v, _ => v = .slice a1 n1 k1
  | 3, v, _ => v = .agg #[.bool f, .slice a1 n1 k1, .slice ad nd cd]
  | 4, v, w => ∃ a n k, v = .slice a n k ∧ RowT w (.slice a n k) C
  | 5, v, w => ∃ h, v = .slice (some ⟨h, 0, none⟩) 2 2 ∧ Lines w (some ⟨h, 0, none⟩) [S, C]
  | 6, v, w => ∃ u, v = .tuple #[u, .int .i64 0] ∧ RowT w u D
  | 7, v, w => RowT w v D
  | 8, v, _ => v = .int .i64 0
  | 9, v, w => RowT w v D
  | _, _, _ => True
theorem leafF_keep {m : Int} {g : Nat} {f : Bool} {a1 ad : Option Addr} {n1 k1 nd cd : Nat} {S C D : List UInt8} (i : Nat) (v : Value) (w w' : World) (h : LeafF m g f a1 ad n1 k1 nd cd S C D i v w) (he : Below w.heap.size w w') : LeafF m g f a1 ad n1 k1 nd cd S C D i v w' := by
  unfold LeafF at *
  split at h <;> (try exact h) <;> (try exact trivial)
  · obtain ⟨a, n, k, h1, h2⟩ := h; exact ⟨a, n, k, h1, h2.keep he⟩
  · obtain ⟨q, h1, h2⟩ := h; exact ⟨q, h1, h2.keep he⟩
  · obtain ⟨u, h1, h2⟩ := h; exact ⟨u, h1, h2.keep he⟩
  · exact h.keep he
  · exact h.keep he
set_option maxHeartbeats 4000000 in
theorem Leaf_any (m : Int) (f : Bool) (s d : List UInt8) (us ud : Value) (w : World) (m0 : -9223372036854775808 ≤ m) (m1 : m ≤ 9223372036854775807) (hs : RowV w us s) (hd : RowV w ud d) (hT : KW w) :
    Calls Tryd.prog 39 #[.int .i64 m, .agg #[.bool f, us, ud]] w (DigPost (leafR m f s d) w) := by
  have cM := fun W => mode_any m W m0 m1
  obtain ⟨R, hR⟩ : ∃ R, leafR m f s d = R := ⟨_, rfl⟩
  rw [hR]
  unfold leafR at hR
  have hsW := hs
  have hdW := hd
  obtain ⟨a1, k1, rfl, s1, s2, s3, s4⟩ := hs
  obtain ⟨ad, cd, rfl, d1, d2, d3, d4⟩ := hd
  have hba : ∀ o, Below w.heap.size w (w.alloc o) := fun o => (Below.refl _ _).alloc (Nat.le_refl _) o
  cases hm : isMode m with
  | false =>
    rw [if_pos hm] at hR
    subst hR
    rw [hm] at cM
    clear hm hsW hdW s1 d1
    generalize s.length = n1
    generalize d.length = nd
    go_enter Tryd.func39, Tryd.ntmps39
    go_wp2_with fail
    refine (cM _).mono ?_
    rintro e w1 ⟨rfl, rfl⟩
    go_wp2_with fail
    go_ret2
    exact ⟨rfl, hba _⟩
  | true =>
    rw [if_neg (by rw [hm]; decide)] at hR
    rw [hm] at cM
    by_cases h3 : f = false ∧ 0 < d.length
    · rw [if_pos h3] at hR
      subst hR
      obtain ⟨rfl, h3⟩ := h3
      have hI : (0 : Int) < d.length := by omega
      clear hm hsW hdW s1 d1 h3
      generalize s.length = n1 at *
      generalize d.length = nd at *
      go_enter Tryd.func39, Tryd.ntmps39
      go_wp2_with fail
      refine (cM _).mono ?_
      rintro e w1 ⟨rfl, rfl⟩
      go_wp2_with fail
      go_ret2
      exact ⟨rfl, hba _⟩
    · rw [if_neg h3] at hR
      by_cases h4 : 80 < s.length ∨ 400 < d.length
      · rw [if_pos h4] at hR
        subst hR
        have h3I : f = true ∨ d = [] := by
          cases f
          · right; exact List.eq_nil_of_length_eq_zero (Nat.eq_zero_of_not_pos fun h => h3 ⟨rfl, h⟩)
          · exact .inl rfl
        rcases h3I with rfl | rfl
        · have h4I : (80 : Int) < s.length ∨ (¬ (80 : Int) < s.length ∧ (400 : Int) < d.length) := by omega
          clear hm hsW hdW s1 d1 h3 h4
          generalize s.length = n1 at *
          generalize d.length = nd at *
          rcases h4I with h4I | ⟨h4I, h5I⟩
          all_goals
            go_enter Tryd.func39, Tryd.ntmps39
            go_wp2_with fail
            refine (cM _).mono ?_
            rintro e w1 ⟨rfl, rfl⟩
            go_wp2_with fail
            go_ret2
            exact ⟨rfl, hba _⟩
        · have h4I : (80 : Int) < s.length := by
            rw [show ([] : List UInt8).length = 0 from rfl] at h4
            omega
          clear hm hsW hdW s1 d1 h3 h4
          rw [show ([] : List UInt8).length = 0 from rfl]
          generalize s.length = n1 at *
          cases f
          all_goals
            go_enter Tryd.func39, Tryd.ntmps39
            go_wp2_with fail
            refine (cM _).mono ?_
            rintro e w1 ⟨rfl, rfl⟩
            go_wp2_with fail
            go_ret2
            exact ⟨rfl, hba _⟩
      · rw [if_neg h4] at hR
        subst hR
        have h3I : f = true ∨ (f = false ∧ d = []) := by
          cases f
          · right; exact ⟨rfl, List.eq_nil_of_length_eq_zero (Nat.eq_zero_of_not_pos fun h => h3 ⟨rfl, h⟩)⟩
          · exact .inl rfl
        have h4I : ¬ (80 : Int) < s.length := by omega
        have h5I : ¬ (400 : Int) < d.length := by omega
        have hcl := contB_length f d
        have cC0 := fun W h => content_any f (.slice a1 s.length k1) a1 s.length k1 rfl d ad cd W d1 d3 h (by omega)
        have cD0 := fun ap W h hk => Digest_any m 1 [s, contB f d] ap 2 W m0 m1 (by decide) (by decide) (by simp) (fun l hl => by simp at hl; rcases hl with rfl | rfl <;> omega) h hk
        rw [digR_leaf m hm f s d (by omega) (by omega), show [s, contB f d].length = 2 from rfl] at cD0
        generalize digB m 1 [s, contB f d] = D at *
        generalize contB f d = C at *
        have HSW : Hid (∀ W, Below w.heap.size w W → RowV W (.slice a1 s.length k1) s) := fun W hW => hsW.keep hW
        obtain ⟨n1, hn1⟩ : ∃ n, s.length = n := ⟨_, rfl⟩
        rw [hn1] at cC0 h4I HSW ⊢
        clear hm hsW hdW s1 s2 s3 s4 d1 d2 d3 h3 h4 hcl hn1
        rcases h3I with rfl | ⟨rfl, rfl⟩
        · generalize d.length = nd at *
          go_enter Tryd.func39, Tryd.ntmps39
          go_wp2_with fail
          refine (cM _).mono ?_
          rintro e w1 ⟨rfl, rfl⟩
          clear cM
          go_upto_region 7 with fail
          have hb0 := hba (.cells #[.bool true, .slice a1 n1 k1, .slice ad nd cd] 40)
          have z0 : (w.alloc (.cells #[.bool true, .slice a1 n1 k1, .slice ad nd cd] 40)).cell? ⟨w.heap.size, 0, none⟩ = some (.bool true) := by rw [World.cell?_alloc_new]; rfl
          have z1 : (w.alloc (.cells #[.bool true, .slice a1 n1 k1, .slice ad nd cd] 40)).cell? ⟨w.heap.size, 1, none⟩ = some (.slice a1 n1 k1) := by rw [World.cell?_alloc_new]; rfl
          have z2 : (w.alloc (.cells #[.bool true, .slice a1 n1 k1, .slice ad nd cd] 40)).cell? ⟨w.heap.size, 2, none⟩ = some (.slice ad nd cd) := by rw [World.cell?_alloc_new]; rfl
          have hlt : w.heap.size < (w.alloc (.cells #[.bool true, .slice a1 n1 k1, .slice ad nd cd] 40)).heap.size := by simp
          generalize w.alloc (.cells #[.bool true, .slice a1 n1 k1, .slice ad nd cd] 40) = W0 at *
          have HC0 : Hid (∀ W, Below W0.heap.size W0 W → W.cell? ⟨w.heap.size, 0, none⟩ = some (.bool true)) := fun W hW => (hW.cell (p := ⟨w.heap.size, 0, none⟩) hlt).trans z0
          have HC1 : Hid (∀ W, Below W0.heap.size W0 W → W.cell? ⟨w.heap.size, 1, none⟩ = some (.slice a1 n1 k1)) := fun W hW => (hW.cell (p := ⟨w.heap.size, 1, none⟩) hlt).trans z1
          have HC2 : Hid (∀ W, Below W0.heap.size W0 W → W.cell? ⟨w.heap.size, 2, none⟩ = some (.slice ad nd cd)) := fun W hW => (hW.cell (p := ⟨w.heap.size, 2, none⟩) hlt).trans z2
          have hbW : ∀ W, Below W0.heap.size W0 W → Below w.heap.size w W := fun W hW => below_step hb0 hb0.size hW
          have HS : Hid (∀ W, Below W0.heap.size W0 W → RowV W (.slice a1 n1 k1) s) := fun W hW => HSW.out W (hbW W hW)
          have cC := fun W (hW : Below W0.heap.size W0 W) => cC0 W (d4.keep (hbW W hW))
          have cD := fun ap W h (hW : Below W0.heap.size W0 W) => cD0 ap W h (hT.keep (hbW W hW) (Nat.le_refl _))
          clear z0 z1 z2 hlt HSW cC0 cD0 hba
          refine wp_region_facts' 10 (by kernel_rfl) (by kernel_rfl) (LeafF m w.heap.size true a1 ad n1 k1 nd cd s C D) (fun W => Below W0.heap.size W0 W) (fun W W' => Below W.heap.size W W') ?hC ?hF ?h0 ?hstep ?hdone
          case hC => exact fun W W' hc he => below_step hc hc.size he
          case hF => exact leafF_keep
          case h0 => exact (Below.refl _ _).drew
          case hstep =>
            intro i hi vs a W K ha hc hd hu hK
            simp only [fillF, Act.put, List.take_succ_cons, List.take_zero, List.setIfInBounds_toArray, List.set_cons_zero, List.set_cons_succ] at ha
            subst ha
            clear hu
            rcases (show i = 0 ∨ i = 1 ∨ i = 2 ∨ i = 3 ∨ i = 4 ∨ i = 5 ∨ i = 6 ∨ i = 7 ∨ i = 8 ∨ i = 9 by omega) with rfl | rfl | rfl | rfl | rfl | rfl | rfl | rfl | rfl | rfl
            · refine wpOp_step rfl (fun K' hK' => ?_)
              go_simp
              exact hK' _ _ (hK _ _ rfl (Below.refl _ _))
            · refine wpOp_step rfl (fun K' hK' => ?_)
              go_simp
              exact hK' _ _ (hK _ _ rfl (Below.refl _ _))
            · have e1 : vs 1 = .pointer (some ⟨w.heap.size, 1, none⟩) := hd 1 (by kernel_rfl)
              simp only [e1] at hK ⊢
              have q1 := HC1.out W hc
              refine wpOp_step rfl (fun K' hK' => ?_)
              go_simp
              exact hK' _ _ (hK _ _ rfl (Below.refl _ _))
            · have q0 := HC0.out W hc
              have q1 := HC1.out W hc
              have q2 := HC2.out W hc
              refine wpOp_step rfl (fun K' hK' => ?_)
              go_simp
              exact hK' _ _ (hK _ _ rfl (Below.refl _ _))
            · have e3 : vs 3 = .agg #[.bool true, .slice a1 n1 k1, .slice ad nd cd] := hd 3 (by kernel_rfl)
              simp only [e3] at hK ⊢
              refine wpOp_step rfl (fun K' hK' => ?_)
              go_simp
              with_reducible refine (cC W hc).mono ?_
              rintro e w' ⟨v', rfl, ho, hb⟩
              have ho' := ho
              obtain ⟨a, k, e, _⟩ := ho'
              exact hK' _ _ (hK _ _ ⟨_, _, _, e, by rw [← e]; exact ho⟩ hb)
            · have e2 : vs 2 = .slice a1 n1 k1 := hd 2 (by kernel_rfl)
              obtain ⟨a4, n4, k4, e4, y4⟩ := hd 4 (by kernel_rfl)
              simp only [e2, e4] at hK ⊢
              refine wpOp_step rfl (fun K' hK' => ?_)
              go_simp
              exact hK' _ _ (hK _ _ ⟨_, rfl, lines_two W _ _ _ _ _ (HS.out W hc) y4.row⟩ ((Below.refl _ _).alloc (Nat.le_refl _) _))
            · have e0 : vs 0 = .int .i64 m := hd 0 (by kernel_rfl)
              obtain ⟨g5, e5, y5⟩ := hd 5 (by kernel_rfl)
              simp only [e0, e5] at hK ⊢
              refine wpOp_step rfl (fun K' hK' => ?_)
              go_simp
              with_reducible refine (cD _ W y5 hc).mono ?_
              rintro e w' ⟨u, rfl, hr, hb⟩
              exact hK' _ _ (hK _ _ ⟨u, rfl, hr⟩ hb)
            · obtain ⟨u6, e6, y6⟩ := hd 6 (by kernel_rfl)
              simp only [e6] at hK ⊢
              refine wpOp_step rfl (fun K' hK' => ?_)
              go_simp
              exact hK' _ _ (hK _ _ y6 (Below.refl _ _))
            · obtain ⟨u6, e6, y6⟩ := hd 6 (by kernel_rfl)
              simp only [e6] at hK ⊢
              refine wpOp_step rfl (fun K' hK' => ?_)
              go_simp
              exact hK' _ _ (hK _ _ rfl (Below.refl _ _))
            · have y7 : RowT W (vs 7) D := hd 7 (by kernel_rfl)
              refine wpOp_step rfl (fun K' hK' => ?_)
              go_simp
              exact hK' _ _ (hK _ _ y7 (Below.refl _ _))
          case hdone =>
            intro vs a W ha hc hf
            simp only [fillF, Act.put, List.take_succ_cons, List.take_zero, List.setIfInBounds_toArray, List.set_cons_zero, List.set_cons_succ] at ha
            subst ha
            have f8 : vs 8 = .int .i64 0 := hf 8 (by decide)
            have f9 : RowT W (vs 9) D := hf 9 (by decide)
            simp only [Nat.zero_add, Nat.reduceAdd, f8]
            have hBB := hbW W hc
            clear hf cC cD
            go_wp2_with fail
            go_ret2
            exact ⟨_, rfl, f9, hBB⟩
        · rw [show ([] : List UInt8).length = 0 from rfl] at cC0 ⊢
          clear h5I
          go_enter Tryd.func39, Tryd.ntmps39
          go_wp2_with fail
          refine (cM _).mono ?_
          rintro e w1 ⟨rfl, rfl⟩
          clear cM
          go_upto_region 7 with fail
          have hb0 := hba (.cells #[.bool false, .slice a1 n1 k1, .slice ad 0 cd] 40)
          have z0 : (w.alloc (.cells #[.bool false, .slice a1 n1 k1, .slice ad 0 cd] 40)).cell? ⟨w.heap.size, 0, none⟩ = some (.bool false) := by rw [World.cell?_alloc_new]; rfl
          have z1 : (w.alloc (.cells #[.bool false, .slice a1 n1 k1, .slice ad 0 cd] 40)).cell? ⟨w.heap.size, 1, none⟩ = some (.slice a1 n1 k1) := by rw [World.cell?_alloc_new]; rfl
          have z2 : (w.alloc (.cells #[.bool false, .slice a1 n1 k1, .slice ad 0 cd] 40)).cell? ⟨w.heap.size, 2, none⟩ = some (.slice ad 0 cd) := by rw [World.cell?_alloc_new]; rfl
          have hlt : w.heap.size < (w.alloc (.cells #[.bool false, .slice a1 n1 k1, .slice ad 0 cd] 40)).heap.size := by simp
          generalize w.alloc (.cells #[.bool false, .slice a1 n1 k1, .slice ad 0 cd] 40) = W0 at *
          have HC0 : Hid (∀ W, Below W0.heap.size W0 W → W.cell? ⟨w.heap.size, 0, none⟩ = some (.bool false)) := fun W hW => (hW.cell (p := ⟨w.heap.size, 0, none⟩) hlt).trans z0
          have HC1 : Hid (∀ W, Below W0.heap.size W0 W → W.cell? ⟨w.heap.size, 1, none⟩ = some (.slice a1 n1 k1)) := fun W hW => (hW.cell (p := ⟨w.heap.size, 1, none⟩) hlt).trans z1
          have HC2 : Hid (∀ W, Below W0.heap.size W0 W → W.cell? ⟨w.heap.size, 2, none⟩ = some (.slice ad 0 cd)) := fun W hW => (hW.cell (p := ⟨w.heap.size, 2, none⟩) hlt).trans z2
          have hbW : ∀ W, Below W0.heap.size W0 W → Below w.heap.size w W := fun W hW => below_step hb0 hb0.size hW
          have HS : Hid (∀ W, Below W0.heap.size W0 W → RowV W (.slice a1 n1 k1) s) := fun W hW => HSW.out W (hbW W hW)
          have cC := fun W (hW : Below W0.heap.size W0 W) => cC0 W (d4.keep (hbW W hW))
          have cD := fun ap W h (hW : Below W0.heap.size W0 W) => cD0 ap W h (hT.keep (hbW W hW) (Nat.le_refl _))
          clear z0 z1 z2 hlt HSW cC0 cD0 hba
          refine wp_region_facts' 10 (by kernel_rfl) (by kernel_rfl) (LeafF m w.heap.size false a1 ad n1 k1 0 cd s C D) (fun W => Below W0.heap.size W0 W) (fun W W' => Below W.heap.size W W') ?hC ?hF ?h0 ?hstep ?hdone
          case hC => exact fun W W' hc he => below_step hc hc.size he
          case hF => exact leafF_keep
          case h0 => exact (Below.refl _ _).drew
          case hstep =>
            intro i hi vs a W K ha hc hd hu hK
            simp only [fillF, Act.put, List.take_succ_cons, List.take_zero, List.setIfInBounds_toArray, List.set_cons_zero, List.set_cons_succ] at ha
            subst ha
            clear hu
            rcases (show i = 0 ∨ i = 1 ∨ i = 2 ∨ i = 3 ∨ i = 4 ∨ i = 5 ∨ i = 6 ∨ i = 7 ∨ i = 8 ∨ i = 9 by omega) with rfl | rfl | rfl | rfl | rfl | rfl | rfl | rfl | rfl | rfl
            · refine wpOp_step rfl (fun K' hK' => ?_)
              go_simp
              exact hK' _ _ (hK _ _ rfl (Below.refl _ _))
            · refine wpOp_step rfl (fun K' hK' => ?_)
              go_simp
              exact hK' _ _ (hK _ _ rfl (Below.refl _ _))
            · have e1 : vs 1 = .pointer (some ⟨w.heap.size, 1, none⟩) := hd 1 (by kernel_rfl)
              simp only [e1] at hK ⊢
              have q1 := HC1.out W hc
              refine wpOp_step rfl (fun K' hK' => ?_)
              go_simp
              exact hK' _ _ (hK _ _ rfl (Below.refl _ _))
            · have q0 := HC0.out W hc
              have q1 := HC1.out W hc
              have q2 := HC2.out W hc
              refine wpOp_step rfl (fun K' hK' => ?_)
              go_simp
              exact hK' _ _ (hK _ _ rfl (Below.refl _ _))
            · have e3 : vs 3 = .agg #[.bool false, .slice a1 n1 k1, .slice ad 0 cd] := hd 3 (by kernel_rfl)
              simp only [e3] at hK ⊢
              refine wpOp_step rfl (fun K' hK' => ?_)
              go_simp
              with_reducible refine (cC W hc).mono ?_
              rintro e w' ⟨v', rfl, ho, hb⟩
              have ho' := ho
              obtain ⟨a, k, e, _⟩ := ho'
              exact hK' _ _ (hK _ _ ⟨_, _, _, e, by rw [← e]; exact ho⟩ hb)
            · have e2 : vs 2 = .slice a1 n1 k1 := hd 2 (by kernel_rfl)
              obtain ⟨a4, n4, k4, e4, y4⟩ := hd 4 (by kernel_rfl)
              simp only [e2, e4] at hK ⊢
              refine wpOp_step rfl (fun K' hK' => ?_)
              go_simp
              exact hK' _ _ (hK _ _ ⟨_, rfl, lines_two W _ _ _ _ _ (HS.out W hc) y4.row⟩ ((Below.refl _ _).alloc (Nat.le_refl _) _))
            · have e0 : vs 0 = .int .i64 m := hd 0 (by kernel_rfl)
              obtain ⟨g5, e5, y5⟩ := hd 5 (by kernel_rfl)
              simp only [e0, e5] at hK ⊢
              refine wpOp_step rfl (fun K' hK' => ?_)
              go_simp
              with_reducible refine (cD _ W y5 hc).mono ?_
              rintro e w' ⟨u, rfl, hr, hb⟩
              exact hK' _ _ (hK _ _ ⟨u, rfl, hr⟩ hb)
            · obtain ⟨u6, e6, y6⟩ := hd 6 (by kernel_rfl)
              simp only [e6] at hK ⊢
              refine wpOp_step rfl (fun K' hK' => ?_)
              go_simp
              exact hK' _ _ (hK _ _ y6 (Below.refl _ _))
            · obtain ⟨u6, e6, y6⟩ := hd 6 (by kernel_rfl)
              simp only [e6] at hK ⊢
              refine wpOp_step rfl (fun K' hK' => ?_)
              go_simp
              exact hK' _ _ (hK _ _ rfl (Below.refl _ _))
            · have y7 : RowT W (vs 7) D := hd 7 (by kernel_rfl)
              refine wpOp_step rfl (fun K' hK' => ?_)
              go_simp
              exact hK' _ _ (hK _ _ y7 (Below.refl _ _))
          case hdone =>
            intro vs a W ha hc hf
            simp only [fillF, Act.put, List.take_succ_cons, List.take_zero, List.setIfInBounds_toArray, List.set_cons_zero, List.set_cons_succ] at ha
            subst ha
            have f8 : vs 8 = .int .i64 0 := hf 8 (by decide)
            have f9 : RowT W (vs 9) D := hf 9 (by decide)
            simp only [Nat.zero_add, Nat.reduceAdd, f8]
            have hBB := hbW W hc
            clear hf cC cD
            go_wp2_with fail
            go_ret2
            exact ⟨_, rfl, f9, hBB⟩
end Go.Proofs.YtdpfjhhcgaeiiabDoor
