/-
  CONTRACT of package kinds' ofGood, over that of ofOperation at parts of less depth.
  CONDITIONS: each theorem's own hypotheses.
-/
import Derived.Test.YtoleaahnpcbkkaaDoorKindX
import Derived.Test.YtoleaahnpcbkkaaDoorExprC
namespace Go.Proofs.YtoleaahnpcbkkaaDoor
open Go.RowKit
set_option linter.unusedVariables false
set_option maxRecDepth 100000

/-- What ofGood answers of trees that are no deeper than n. -/
def OfOk (n : Nat) : Prop := ∀ (t : T) (ao : Option Addr) (cap : Nat) (cs : List Cl) (aoc : Option Addr) (capc : Nat) (w : World), t.deep ≤ n → formT t = 0 → AtT w t ao → t.kids.length ≤ 9223372036854775807 → cs.length ≤ 9223372036854775807 → Cols w aoc cs →
    Calls Tryd.prog 21 #[exprV t ao cap, .slice aoc cs.length capc] w fun e w' => e = .returned (.tuple #[.int .i64 (kT cs t).k, .bool (kT cs t).n, .int .i64 (kT cs t).f]) ∧ Below w.heap.size w w'
/-- What ofOperation answers of such trees that are operations. -/
def OfOp (n : Nat) : Prop := ∀ (t : T) (ao : Option Addr) (cap : Nat) (cs : List Cl) (aoc : Option Addr) (capc : Nat) (w : World), t.deep ≤ n → formT t = 0 → t.nd.op ≠ 1 → t.nd.op ≠ 2 → AtT w t ao → t.kids.length ≤ 9223372036854775807 → cs.length ≤ 9223372036854775807 → Cols w aoc cs →
    Calls Tryd.prog 35 #[exprV t ao cap, .slice aoc cs.length capc] w fun e w' => e = .returned (.tuple #[.int .i64 (kT cs t).k, .bool (kT cs t).n, .int .i64 (kT cs t).f]) ∧ Below w.heap.size w w'
theorem kT_lit (cs : List Cl) (t : T) (h : t.nd.op = 1) : kT cs t = ⟨t.nd.k, t.nd.k == 0, 0⟩ := by
  obtain ⟨d, l⟩ := t
  simp only [T.nd] at h
  simp only [kT, T.nd]; rw [if_pos h]
theorem kT_col (cs : List Cl) (t : T) (h : t.nd.op = 2) : kT cs t = colK t.nd.n cs := by
  obtain ⟨d, l⟩ := t
  simp only [T.nd] at h
  simp only [kT, T.nd]; rw [if_neg (by omega), if_pos h]
set_option maxHeartbeats 8000000 in
theorem ofGood_of (n : Nat) (hop : OfOp n) : OfOk n := by
  intro t ao cap cs aoc capc w hd hf hA hl hcl hC
  by_cases h1 : t.nd.op = 1
  · rw [kT_lit cs t h1]
    simp only [exprV_cells]
    generalize t.kids.length = L at *
    generalize t.nd = nd at *
    obtain ⟨op, k, i, b, s, nm⟩ := nd
    simp only at h1 ⊢
    subst h1
    generalize str s = S
    generalize str nm = N
    clear hop hd hf hA hC
    go_enter Tryd.func21, Tryd.ntmps21
    go_upto_region 3 with fail
    go_quiet (fail)
    have hbq := below_dqK ((Below.refl w.heap.size w).alloc (Nat.le_refl _) (.cells #[.int .i64 1, .int .i64 k, .int .i64 i, .int .u64 b, .string S, .string N, .slice ao L cap] 31)) nq
    go_wp2_with fail
    go_ret3
    exact ⟨rfl, hbq⟩
  · by_cases h2 : t.nd.op = 2
    · rw [kT_col cs t h2]
      have c1 := fun W (hW : Below w.heap.size w W) => ofColumn_any cs aoc capc t.nd.n W hcl (hC.keep hW)
      simp only [exprV_cells]
      generalize colK t.nd.n cs = R at *
      generalize t.kids.length = L at *
      generalize t.nd = nd at *
      obtain ⟨op, k, i, b, s, nm⟩ := nd
      simp only at h2 c1 ⊢
      subst h2
      generalize str s = S at *
      generalize str nm = N at *
      generalize cs.length = m at *
      clear hop hd hf hA hC h1
      go_enter Tryd.func21, Tryd.ntmps21
      go_wp2_with fail
      refine (c1 _ ((Below.refl _ _).alloc (Nat.le_refl _) _)).mono ?_
      rintro e w1 ⟨rfl, hb⟩
      have hbb : Below w.heap.size w w1 := ((Below.refl _ _).alloc (Nat.le_refl _) _).trans (hb.mono (by simp))
      clear c1 hb
      go_wp2_with fail
      go_ret3
      exact ⟨rfl, hbb⟩
    · have c1 := fun W (hW : Below w.heap.size w W) => hop t ao cap cs aoc capc W hd hf h1 h2 (hA.keep hW) hl hcl (hC.keep hW)
      simp only [exprV_cells] at c1 ⊢
      generalize kT cs t = R at *
      generalize t.kids.length = L at *
      generalize t.nd = nd at *
      obtain ⟨op, k, i, b, s, nm⟩ := nd
      simp only at h1 h2 c1 ⊢
      generalize str s = S at *
      generalize str nm = N at *
      generalize cs.length = m at *
      have o1 : (op == 1) = false := by simpa using h1
      have o2 : (op == 2) = false := by simpa using h2
      clear hop hd hf hA hC h1 h2
      go_enter Tryd.func21, Tryd.ntmps21
      go_wp2_with fail
      refine (c1 _ ((Below.refl _ _).alloc (Nat.le_refl _) _)).mono ?_
      rintro e w1 ⟨rfl, hb⟩
      have hbb : Below w.heap.size w w1 := ((Below.refl _ _).alloc (Nat.le_refl _) _).trans (hb.mono (by simp))
      clear c1 hb
      go_wp2_with fail
      go_ret3
      exact ⟨rfl, hbb⟩
end Go.Proofs.YtoleaahnpcbkkaaDoor
