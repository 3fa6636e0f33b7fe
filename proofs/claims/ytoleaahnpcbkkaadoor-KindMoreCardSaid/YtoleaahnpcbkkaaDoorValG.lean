/-
  CONTRACTS of package value's Compare and of the reference's Compared.
  CONDITIONS: each theorem's own hypotheses.
-/
import Derived.Test.YtoleaahnpcbkkaaDoorValF
namespace Go.Proofs.YtoleaahnpcbkkaaDoor
open Go.RowKit
set_option linter.unusedVariables false

structure V.Good (v : V) : Prop where
  k0 : 0 ≤ v.k
  k4 : v.k ≤ 4
  s40 : v.s.size ≤ 40
  null : v.k = 0 → v.i = 0
  real : v.k = 3 → FloatOrd.fine v.b.toNat
  nought : v.k = 3 → v.b ≠ 9223372036854775808

theorem good_of (v : V) (hv : v.Fits) (h : v.chk = 0) : v.Good := by
  unfold V.chk chk at h
  by_cases c1 : v.k < 0 ∨ 4 < v.k
  · rw [if_pos c1] at h; omega
  rw [if_neg c1] at h
  by_cases c2 : 40 < v.s.size
  · rw [if_pos c2] at h; omega
  rw [if_neg c2] at h
  by_cases c3 : (own v.k v.i v.b v.s && good v.k v.i v.b v.s) = true
  · simp only [Bool.and_eq_true] at c3
    obtain ⟨ho, hg⟩ := c3
    refine ⟨by omega, by omega, by omega, fun e => ?_, fun e => ?_, fun e => ?_⟩
    · unfold own at ho; rw [e] at ho; simp at ho; exact ho.1
    · unfold good at hg; rw [e] at hg; simp [nan] at hg
      exact ⟨by have := hv.b1; omega, by omega⟩
    · unfold good at hg; rw [e] at hg; simp at hg; exact hg.2
  · rw [if_neg c3] at h; omega

theorem good2 (v u : V) (hv : v.Fits) (hu : u.Fits) (h : chk2 v u = 0) : v.Good ∧ u.Good := by
  unfold chk2 at h
  by_cases c : v.chk = 0
  · rw [if_pos c] at h; exact ⟨good_of v hv c, good_of u hu h⟩
  · rw [if_neg c] at h; exact absurd h c

def ordV (v u : V) : Int := ord v.k v.i v.b v.s u.k u.i u.b u.s
def compareR (v u : V) : Int := if chk2 v u = 0 then ordV v u else 0

end Go.Proofs.YtoleaahnpcbkkaaDoor
