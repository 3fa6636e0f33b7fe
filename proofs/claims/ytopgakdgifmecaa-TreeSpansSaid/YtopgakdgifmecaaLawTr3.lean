/-
  THE WALK of the law 'chirographlaw.TreePuts'.
  CONDITIONS: each theorem's own hypotheses.
-/
import Derived.Test.YtopgakdgifmecaaGTPutX
import Derived.Test.YtopgakdgifmecaaLawTr2
namespace Go.Proofs.Ytopgakdgifmecaa
open Go.RowKit
set_option linter.unusedVariables false
set_option maxRecDepth 100000

theorem nodes_vals {w : World} {ao : Option Addr} {ns : List Nq} (h : Nodes w ao ns) : ∀ n ∈ ns, ∀ x ∈ n.vals, I64 x := fun n hn x hx => by
  obtain ⟨j, hj⟩ := List.getElem?_of_mem hn
  obtain ⟨_, _, s, _, _, hs, _⟩ := h.at hj
  exact hs.V.1 x hx
set_option maxHeartbeats 8000000 in
theorem treePuts_walk (ns : List Nq) (ao : Option Addr) (cap : Nat) (f : ByteArray) (v : Int) (w : World) (hr : ns.length ≤ 9223372036854775806 ∧ FewKeys ns) (hS : Nodes w ao ns) (hf : f.size ≤ 9223372036854775807) (hv1 : -9223372036854775808 ≤ v) (hv2 : v ≤ 9223372036854775807) :
    Calls Try.prog 5 #[.agg #[.slice ao ns.length cap], .string f, .int .i64 v] w fun e w' => e = .returned (.bool true) ∧ Below w.heap.size w w' := by
  obtain ⟨A, rfl⟩ : ∃ s, f = str s := ⟨_, str_eq f⟩
  rw [str_size] at hf
  have cA := fun W (hW : Below w.heap.size w W) => treePut_any ns ao cap A v W hr.1 hr.2 (hS.keep hW) hf
  have cB := fun W (hW : Below w.heap.size w W) => putPairs_any ns ao cap A v W hr.1 hr.2 (hS.keep hW) hf
  have hplain := fun h => put_plain ns A v h
  have hval : ∀ e ∈ putR A v (flatT (rootQ ns)), I64 e.2 := fun e he => by
    rcases putR_mem A v _ e he with rfl | he
    · exact ⟨hv1, hv2⟩
    · obtain ⟨n, hn, hx⟩ := flat_vals ns e _ _ he
      exact nodes_vals hS n hn _ hx
  obtain ⟨c, hc⟩ : ∃ c, putC ns A v = c := ⟨_, rfl⟩
  rw [hc] at cA cB
  have HC := Lib.hid hc
  have HPL := Lib.hid hplain
  have HVAL := Lib.hid hval
  have HCB := Lib.hid cB
  generalize ns.length = L at *
  have z0 := Blk.new w #[.slice ao L cap] 24
  have hb0 := (Below.refl w.heap.size w).alloc (Nat.le_refl _) (.cells #[.slice ao L cap] 24)
  generalize hw0 : w.alloc (.cells #[.slice ao L cap] 24) = w0 at z0 hb0
  have HW0 := Lib.hid hw0
  have p0 := z0.cell (j := 0) rfl
  have c0 := cA w0 hb0
  have HB0 := Lib.hid hb0
  have HZ0 := Lib.hid z0
  have hbc : c = 0 ∨ c ≠ 0 := by omega
  have HC2 : Hid (c = 0 → readC ns = 0 ∧ (putR A v (flatT (rootQ ns))).length ≤ 100 ∧ ∀ e ∈ putR A v (flatT (rootQ ns)), e.1.length ≤ 60) := Lib.hid (fun h => by
    have h1 := hc
    rw [h] at h1
    unfold putC at h1
    by_cases hr0 : readC ns ≠ 0
    · rw [if_pos hr0] at h1; exact absurd h1 hr0
    · rw [if_neg hr0] at h1
      by_cases hl : 60 < A.length
      · rw [if_pos hl] at h1; cases h1
      · rw [if_neg hl] at h1
        by_cases hk : 100 < (putR A v (flatT (rootQ ns))).length
        · rw [if_pos hk] at h1; cases h1
        · have hr1 : readC ns = 0 := by omega
          refine ⟨hr1, by omega, fun e he => ?_⟩
          rcases (put_plain ns A v hr1).2.2.2.1 e he with h | h
          · exact h
          · rw [h]; omega)
  clear cA cB hw0 z0 hb0 hS hr hf hplain hval hc
  go_enter Try.func5, Try.ntmps5
  go_upto_region 1 with fail
  rw [HW0.out]
  clear HW0
  go_wp2_with fail
  refine c0.mono ?_
  rintro e w1 ⟨u, rfl, hp1⟩
  have HP1 := Lib.hid hp1
  have HB1 := Lib.hid (below_stepE HB0.out HB0.out.size hp1.low)
  obtain ⟨au, nu, cu, hu⟩ : ∃ au nu cu, u = .slice au nu cu := by
    rcases hbc with h | h
    · obtain ⟨F', ⟨rs, hrow, -, -⟩, -⟩ := hp1.good (by rw [HC.out]; exact h)
      obtain ⟨a, k, e, -⟩ := owns_shape hrow
      exact ⟨a, _, k, e⟩
    · exact ⟨_, _, _, hp1.bad (by rw [HC.out]; exact h)⟩
  subst hu
  have hz1 := HZ0.out.call hp1.low
  have p1 := hz1.cell (j := 0) rfl
  have b7 : Blk _ _ _ [_] := Blk.new w1 #[.slice au nu cu] 24
  have hb7 := (Below.refl w1.heap.size w1).alloc (Nat.le_refl _) (.cells #[.slice au nu cu] 24)
  obtain ⟨w2, hw2⟩ : ∃ W, w1.alloc (.cells #[.slice au nu cu] 24) = W := ⟨_, rfl⟩
  rw [hw2] at b7 hb7
  obtain ⟨m7, hm7⟩ : ∃ m, w1.heap.size = m := ⟨_, rfl⟩
  rw [hm7] at b7
  have HW2 := Lib.hid hw2
  have HM7 := Lib.hid hm7
  have HZ7 := Lib.hid b7
  have HB2 := Lib.hid (below_stepE HB1.out HB1.out.size hb7)
  have HB12 := Lib.hid hb7
  have p2 := (hz1.call hb7).cell (j := 0) rfl
  have c2 := HCB.out w2 HB2.out
  clear c0 p0 hp1 hz1 b7 hb7 hw2 hm7
  go_upto_region 2 with fail
  rw [HW2.out, HM7.out]
  clear p1
  go_wp2_with fail
  refine c2.mono ?_
  rintro e w3 ⟨ub, rfl, hp3⟩
  have HP3 := Lib.hid hp3
  have HB3 := Lib.hid (below_stepE HB2.out HB2.out.size hp3.low)
  have p3 := (HZ7.out.call hp3.low).cell (j := 0) rfl
  have e1 : (c == c) = true := by simp
  clear c2 p2 hp3
  rcases hbc with h0 | h0
  · obtain ⟨hr0, hl100, hk60⟩ := HC2.out h0
    obtain ⟨q1, q2, q3, q4, q5, d, q6, q7, q8, q9⟩ := HPL.out hr0
    obtain ⟨F', hL, -⟩ := HP1.out.good (by rw [HC.out]; exact h0)
    have hL3 := hL.same (w1 := w3) (fun b hb => by
      rw [HP3.out.low.block b (Nat.lt_of_lt_of_le (hL.lt b hb) HB12.out.size), HB12.out.block b (hL.lt b hb)])
    obtain ⟨n1, n2, n3, n4⟩ := lay_nodes hL3 q7 (fun e he => by rw [q8] at he; exact HVAL.out e he) q9
    obtain ⟨l1, l2⟩ := lay_ok _ d q7 (by rw [q8]; exact putR_rise A v _ q2) (by rw [q8]; exact hl100) (fun e he => by rw [q8] at he; exact hk60 e he)
    have cC := pairs_any (layN 0 (withT 101 (rootQ ns) (A, v))) au cu w3 (by omega) n3 n2
    rw [← n1, l1] at cC
    have hrow3 := HP3.out.row (by rw [HC.out]; exact h0)
    obtain ⟨PR, hPR⟩ : ∃ l, putR A v (flatT (rootQ ns)) = l := ⟨_, rfl⟩
    rw [hPR] at hrow3 hl100 q8
    have HL1 := Lib.hid (And.intro l1 (And.intro l2 q8))
    have HR3 := Lib.hid hrow3
    have HLL := Lib.hid hl100
    obtain ⟨ab, cb, eb, -⟩ := owns_shape hrow3
    subst eb
    clear hr0 hl100 hk60 q1 q2 q3 q4 q5 q6 q7 q8 q9 hL hL3 n1 n2 n3 n4 l1 l2 hPR hrow3
    subst h0
    go_wp2_with fail
    refine cC.mono ?_
    rintro e w4 ⟨v4, rfl, hp4⟩
    have hr4 := hp4.row HL1.out.1
    rw [HL1.out.2.1, HL1.out.2.2] at hr4
    have hr3 := HR3.out.keep hp4.low
    have HB4 := Lib.hid (below_stepE HB3.out HB3.out.size hp4.low)
    obtain ⟨a4, k4, e4, -⟩ := owns_shape hr4
    subst e4
    have cS := samePairs_any PR a4 ab k4 cb _ _ w4 (by have := HLL.out; omega) hr4 hr3
    generalize PR.length = M at *
    clear cC p3 hp4 hr4 hr3
    go_wp2_with fail
    refine cS.mono ?_
    rintro e w5 ⟨rfl, q, rfl⟩
    have HB5 := Lib.hid (below_dqT HB4.out q)
    clear cS
    go_wp2_with fail
    go_ret
    exact ⟨rfl, HB5.out⟩
  · have eu := HP1.out.bad (by rw [HC.out]; exact h0)
    simp only [Value.slice.injEq] at eu
    obtain ⟨rfl, rfl, rfl⟩ := eu
    have eb := HP3.out.bad (by rw [HC.out]; exact h0)
    subst eb
    have cC := pairs_any [] none 0 w3 (by simp) (fun n hn => by cases hn) (.inl rfl)
    have hz : readC [] = 0 := by decide
    rw [hz] at cC
    have cC : Calls Try.prog 14 #[.agg #[.slice none 0 0]] w3 fun e w' => ∃ v, e = .returned (.tuple #[v, .int .i64 0]) ∧ PofR [] w3 w' v := cC
    clear h0
    go_wp2_with fail
    refine cC.mono ?_
    rintro e w4 ⟨v4, rfl, hp4⟩
    have hr4 : OwnPr w4 w3.heap.size v4 [] := hp4.row hz
    have HB4 := Lib.hid (below_stepE HB3.out HB3.out.size hp4.low)
    obtain ⟨a4, k4, e4, -⟩ := owns_shape hr4
    subst e4
    have cS := samePairs_any [] a4 none k4 0 _ 0 w4 (by simp) hr4 (OwnPr.nil _ _)
    have cS2 : Calls Try.prog 19 #[.slice a4 0 k4, .slice none 0 0] w4 fun e w' => e = .returned (.bool true) ∧ ∃ q, w' = w4.drewN q := cS
    clear cC p3 hp4 hr4 cS
    go_wp2_with fail
    refine cS2.mono ?_
    rintro e w5 ⟨rfl, q, rfl⟩
    have HB5 := Lib.hid (below_dqT HB4.out q)
    clear cS2
    go_wp2_with fail
    go_ret
    exact ⟨rfl, HB5.out⟩
end Go.Proofs.Ytopgakdgifmecaa
