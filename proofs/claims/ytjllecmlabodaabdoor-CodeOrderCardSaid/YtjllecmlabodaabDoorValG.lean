/-
  CONTRACTS of package value's Compare and of the reference's Compared.
  CONDITIONS: each theorem's own hypotheses.
-/
import Derived.Test.YtjllecmlabodaabDoorValF
namespace Go.Proofs.YtjllecmlabodaabDoor
open Go.RowKit
set_option linter.unusedVariables false

structure V.Good (v : V) : Prop where
  k0 : 0 ≤ v.k
  k4 : v.k ≤ 4
  s40 : v.s.size ≤ 40
  null : v.k = 0 → v.i = 0
  real : v.k = 3 → FloatOrd.fine v.b.toNat
  nought : v.k = 3 → v.b ≠ 9223372036854775808

theorem good_of (v : V) (hv : v.Fits) (h : v.chk = 0) : v.Good := by
  unfold V.chk chk at h
  by_cases c1 : v.k < 0 ∨ 4 < v.k
  · rw [if_pos c1] at h; omega
  rw [if_neg c1] at h
  by_cases c2 : 40 < v.s.size
  · rw [if_pos c2] at h; omega
  rw [if_neg c2] at h
  by_cases c3 : (own v.k v.i v.b v.s && good v.k v.i v.b v.s) = true
  · simp only [Bool.and_eq_true] at c3
    obtain ⟨ho, hg⟩ := c3
    refine ⟨by omega, by omega, by omega, fun e => ?_, fun e => ?_, fun e => ?_⟩
    · unfold own at ho; rw [e] at ho; simp at ho; exact ho.1
    · unfold good at hg; rw [e] at hg; simp [nan] at hg
      exact ⟨by have := hv.b1; omega, by omega⟩
    · unfold good at hg; rw [e] at hg; simp at hg; exact hg.2
  · rw [if_neg c3] at h; omega

theorem good2 (v u : V) (hv : v.Fits) (hu : u.Fits) (h : chk2 v u = 0) : v.Good ∧ u.Good := by
  unfold chk2 at h
  by_cases c : v.chk = 0
  · rw [if_pos c] at h; exact ⟨good_of v hv c, good_of u hu h⟩
  · rw [if_neg c] at h; exact absurd h c

def ordV (v u : V) : Int := ord v.k v.i v.b v.s u.k u.i u.b u.s
def compareR (v u : V) : Int := if chk2 v u = 0 then ordV v u else 0

theorem order_v (v u : V) (w : World) (hv : v.Good) (hu : u.Good) :
    Calls Tryd.prog 35 #[.agg #[.int .i64 v.k, .int .i64 v.i, .int .u64 v.b, .string v.s], .agg #[.int .i64 u.k, .int .i64 u.i, .int .u64 u.b, .string u.s]] w fun e w' => e = .returned (.int .i64 (ordV v u)) ∧ Below w.heap.size w w' :=
  order_any v.k v.i v.b v.s u.k u.i u.b u.s w hv.real hu.real
theorem compare_any (v u : V) (w : World) (hv : v.Fits) (hu : u.Fits) (hT : Tabs w) :
    Calls Tryd.prog 17 #[.agg #[.int .i64 v.k, .int .i64 v.i, .int .u64 v.b, .string v.s], .agg #[.int .i64 u.k, .int .i64 u.i, .int .u64 u.b, .string u.s]] w fun e w' => e = .returned (.tuple #[.int .i64 (compareR v u), .int .i64 (chk2 v u)]) ∧ Below w.heap.size w w' := by
  have cB := fun w => checkBoth_any v u w hv hu
  have cO := fun w (h : chk2 v u = 0) => order_v v u w (good2 v u hv hu h).1 (good2 v u hv hu h).2
  have hT2 : ∀ o1 o2, Tabs ((w.alloc o1).alloc o2) := fun o1 o2 => tabs_below hT (((Below.refl _ _).alloc (Nat.le_refl _) _).alloc (by simp) _)
  unfold compareR
  generalize chk2 v u = C at cB cO ⊢
  clear hv hu hT
  cases hz : (C == 0)
  · rw [if_neg (by simpa using hz)]
    clear cO
    go_enter Tryd.func17, Tryd.ntmps17
    go_wp2_with fail
    refine (cB _ (hT2 _ _)).mono ?_
    rintro e w1 ⟨rfl, hb⟩
    clear cB hT2
    go_wp2_with fail
    go_ret2
    exact ⟨rfl, two_below hb⟩
  · have he : C = 0 := by simpa using hz
    rw [if_pos he]
    have cO' := fun w => cO w he
    clear cO hz
    subst he
    go_enter Tryd.func17, Tryd.ntmps17
    go_wp2_with fail
    refine (cB _ (hT2 _ _)).mono ?_
    rintro e w1 ⟨rfl, hb⟩
    obtain ⟨hc, hf⟩ := bcell hb
    clear cB hT2
    go_wp2_with fail
    refine (cO' _).mono ?_
    rintro e w2 ⟨rfl, hb2⟩
    clear cO' hc hf
    go_wp2_with fail
    go_ret2
    exact ⟨rfl, (two_below hb).trans (hb2.mono (by have := hb.size; simp at this; omega))⟩

end Go.Proofs.YtjllecmlabodaabDoor
