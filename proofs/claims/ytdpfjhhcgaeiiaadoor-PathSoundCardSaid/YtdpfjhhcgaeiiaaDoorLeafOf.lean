/-
  CONTRACT of the reference's LeafOf.
  CONDITIONS: each theorem's own hypotheses.
-/
import Derived.Test.YtdpfjhhcgaeiiaaDoorLeaf
import Derived.Test.YtdpfjhhcgaeiiaaDoorDigB
namespace Go.Proofs.YtdpfjhhcgaeiiaaDoor
open Go.RowKit CodeMath Go.Proofs.YtdpfjhhcgaeiiaaDoor.FrameMath
set_option linter.unusedVariables false
set_option maxRecDepth 100000

set_option maxHeartbeats 4000000 in
theorem LeafOf_any (m : Int) (f : Bool) (s d : List UInt8) (us ud : Value) (w : World) (m0 : -9223372036854775808 ≤ m) (m1 : m ≤ 9223372036854775807) (hs : RowV w us s) (hd : RowV w ud d) :
    Calls Tryd.prog 55 #[.int .i64 m, .agg #[.bool f, us, ud]] w (DigPost (leafR m f s d) w) := by
  have cM := fun W => badMode_any m W m0 m1
  obtain ⟨R, hR⟩ : ∃ R, leafR m f s d = R := ⟨_, rfl⟩
  rw [hR]
  unfold leafR at hR
  have hsW := hs
  have hdW := hd
  obtain ⟨a1, k1, rfl, s1, s2, s3, s4⟩ := hs
  obtain ⟨ad, cd, rfl, d1, d2, d3, d4⟩ := hd
  have hba : ∀ o, Below w.heap.size w (w.alloc o) := fun o => (Below.refl _ _).alloc (Nat.le_refl _) o
  cases hm : isMode m with
  | false =>
    rw [if_pos hm] at hR
    subst hR
    rw [hm] at cM
    clear hm hsW hdW s1 d1
    generalize s.length = n1
    generalize d.length = nd
    go_enter Tryd.func55, Tryd.ntmps55
    go_wp2_with fail
    refine (cM _).mono ?_
    rintro e w1 ⟨rfl, rfl⟩
    go_wp2_with fail
    go_ret2
    exact ⟨rfl, hba _⟩
  | true =>
    rw [if_neg (by rw [hm]; decide)] at hR
    rw [hm] at cM
    by_cases h3 : f = false ∧ 0 < d.length
    · rw [if_pos h3] at hR
      subst hR
      obtain ⟨rfl, h3⟩ := h3
      have hI : (0 : Int) < d.length := by omega
      clear hm hsW hdW s1 d1 h3
      generalize s.length = n1 at *
      generalize d.length = nd at *
      go_enter Tryd.func55, Tryd.ntmps55
      go_wp2_with fail
      refine (cM _).mono ?_
      rintro e w1 ⟨rfl, rfl⟩
      go_wp2_with fail
      go_ret2
      exact ⟨rfl, hba _⟩
    · rw [if_neg h3] at hR
      by_cases h4 : 80 < s.length ∨ 400 < d.length
      · rw [if_pos h4] at hR
        subst hR
        have h3I : f = true ∨ d = [] := by
          cases f
          · right; exact List.eq_nil_of_length_eq_zero (Nat.eq_zero_of_not_pos fun h => h3 ⟨rfl, h⟩)
          · exact .inl rfl
        rcases h3I with rfl | rfl
        · have h4I : (80 : Int) < s.length ∨ (¬ (80 : Int) < s.length ∧ (400 : Int) < d.length) := by omega
          clear hm hsW hdW s1 d1 h3 h4
          generalize s.length = n1 at *
          generalize d.length = nd at *
          rcases h4I with h4I | ⟨h4I, h5I⟩
          all_goals
            go_enter Tryd.func55, Tryd.ntmps55
            go_wp2_with fail
            refine (cM _).mono ?_
            rintro e w1 ⟨rfl, rfl⟩
            go_wp2_with fail
            go_ret2
            exact ⟨rfl, hba _⟩
        · have h4I : (80 : Int) < s.length := by
            rw [show ([] : List UInt8).length = 0 from rfl] at h4
            omega
          clear hm hsW hdW s1 d1 h3 h4
          rw [show ([] : List UInt8).length = 0 from rfl]
          generalize s.length = n1 at *
          cases f
          all_goals
            go_enter Tryd.func55, Tryd.ntmps55
            go_wp2_with fail
            refine (cM _).mono ?_
            rintro e w1 ⟨rfl, rfl⟩
            go_wp2_with fail
            go_ret2
            exact ⟨rfl, hba _⟩
      · rw [if_neg h4] at hR
        subst hR
        have h3I : f = true ∨ (f = false ∧ d = []) := by
          cases f
          · right; exact ⟨rfl, List.eq_nil_of_length_eq_zero (Nat.eq_zero_of_not_pos fun h => h3 ⟨rfl, h⟩)⟩
          · exact .inl rfl
        have h4I : ¬ (80 : Int) < s.length := by omega
        have h5I : ¬ (400 : Int) < d.length := by omega
        have cv1 := fun W => bytesOf_T (contB f d) W (by have := contB_length f d; omega)
        have cD0 := fun ap W h => DigestOf_any m 1 [s, contB f d] ap 2 W m0 m1 (by decide) (by decide) (by simp) (fun l hl => by have := contB_length f d; simp at hl; rcases hl with rfl | rfl <;> omega) h
        rw [digR_leaf m hm f s d (by omega) (by omega), show [s, contB f d].length = 2 from rfl] at cD0
        generalize digB m 1 [s, contB f d] = D at *
        have HSW : Hid (∀ W, Below w.heap.size w W → RowV W (.slice a1 s.length k1) s) := fun W hW => hsW.keep hW
        obtain ⟨n1, hn1⟩ : ∃ n, s.length = n := ⟨_, rfl⟩
        rw [hn1] at h4I HSW ⊢
        have csd := fun W (h : Bytes W ad d) => bytes_string (cap := cd) h
        have hz1 : str [1] ++ str d = str (1 :: d) := str_append [1] d
        have zz : ¬ 9223372036854775807 < (str [1]).size + (str d).size := by rw [str_size, str_size]; simp; omega
        have c1 : contB true d = 1 :: d := rfl
        have c0 : contB false d = [0] := rfl
        clear hm hsW hdW s1 s2 s3 s4 d1 d2 d3 h3 h4 hn1
        rcases h3I with rfl | ⟨rfl, rfl⟩
        · rw [c1] at cv1 cD0
          generalize 1 :: d = C at *
          rw [show (⟨d.toArray⟩ : ByteArray) = str d from rfl] at csd
          generalize str C = SC at *
          generalize str d = SD at *
          have h01 : str [1] = (⟨#[1]⟩ : ByteArray) := rfl
          rw [h01] at hz1 zz
          clear c1 c0
          generalize d.length = nd at *
          generalize C.length = nc at *
          go_enter Tryd.func55, Tryd.ntmps55
          go_wp2_with fail
          refine (cM _).mono ?_
          rintro e w1 ⟨rfl, rfl⟩
          clear cM
          have hb0 := hba (.cells #[.bool true, .slice a1 n1 k1, .slice ad nd cd] 31)
          have q1 := csd _ (d4.keep hb0)
          go_upto_region 10 with fail
          obtain ⟨g4, k4, w4, q4, hr4, hb4⟩ := cv1 (w.alloc (.cells #[.bool true, .slice a1 n1 k1, .slice ad nd cd] 31))
          have hbb4 := below_step hb0 hb0.size hb4
          have hlin := fun T => lines_two w4 _ _ T _ _ (HSW.out w4 hbb4) hr4.row
          have hba4 : ∀ o, Below w.heap.size w (w4.alloc o) := fun o => hbb4.alloc hbb4.size o
          clear hr4 HSW csd q1 hz1 zz
          go_wp2_with fail
          refine (cD0 _ _ (hlin _)).mono ?_
          rintro e w5 ⟨v5, rfl, hr5, hb5⟩
          have hbb5 := below_step (hba4 _) (hba4 _).size hb5
          clear cD0 hlin hba4 q4
          go_wp2_with fail
          go_ret2
          exact ⟨_, rfl, hr5, hbb5⟩
        · rw [c0] at cv1 cD0
          clear hz1 zz c1 c0 csd
          have h01 : str [0] = (⟨#[0]⟩ : ByteArray) := rfl
          rw [h01] at cv1
          rw [show ([] : List UInt8).length = 0 from rfl]
          rw [show ([0] : List UInt8).length = 1 from rfl] at cv1
          clear h5I
          go_enter Tryd.func55, Tryd.ntmps55
          go_wp2_with fail
          refine (cM _).mono ?_
          rintro e w1 ⟨rfl, rfl⟩
          clear cM
          have hb0 := hba (.cells #[.bool false, .slice a1 n1 k1, .slice ad 0 cd] 31)
          go_upto_region 10 with fail
          obtain ⟨g4, k4, w4, q4, hr4, hb4⟩ := cv1 (w.alloc (.cells #[.bool false, .slice a1 n1 k1, .slice ad 0 cd] 31))
          have hbb4 := below_step hb0 hb0.size hb4
          have hlin := fun T => lines_two w4 _ _ T _ _ (HSW.out w4 hbb4) hr4.row
          have hba4 : ∀ o, Below w.heap.size w (w4.alloc o) := fun o => hbb4.alloc hbb4.size o
          clear hr4 HSW
          go_wp2_with fail
          refine (cD0 _ _ (hlin _)).mono ?_
          rintro e w5 ⟨v5, rfl, hr5, hb5⟩
          have hbb5 := below_step (hba4 _) (hba4 _).size hb5
          clear cD0 hlin hba4 q4
          go_wp2_with fail
          go_ret2
          exact ⟨_, rfl, hr5, hbb5⟩
end Go.Proofs.YtdpfjhhcgaeiiaaDoor
