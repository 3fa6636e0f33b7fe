/-
  CONTRACTS of package value's Compare and of the reference's Compared.
  CONDITIONS: each theorem's own hypotheses.
-/
import Derived.Test.YtnoloacfelnkbaaDoorValF
namespace Go.Proofs.YtnoloacfelnkbaaDoor
open Go.RowKit
set_option linter.unusedVariables false

structure V.Good (v : V) : Prop where
  k0 : 0 ≤ v.k
  k4 : v.k ≤ 4
  s40 : v.s.size ≤ 40
  null : v.k = 0 → v.i = 0
  real : v.k = 3 → FloatOrd.fine v.b.toNat
  nought : v.k = 3 → v.b ≠ 9223372036854775808

theorem good_of (v : V) (hv : v.Fits) (h : v.chk = 0) : v.Good := by
  unfold V.chk chk at h
  by_cases c1 : v.k < 0 ∨ 4 < v.k
  · rw [if_pos c1] at h; omega
  rw [if_neg c1] at h
  by_cases c2 : 40 < v.s.size
  · rw [if_pos c2] at h; omega
  rw [if_neg c2] at h
  by_cases c3 : (own v.k v.i v.b v.s && good v.k v.i v.b v.s) = true
  · simp only [Bool.and_eq_true] at c3
    obtain ⟨ho, hg⟩ := c3
    refine ⟨by omega, by omega, by omega, fun e => ?_, fun e => ?_, fun e => ?_⟩
    · unfold own at ho; rw [e] at ho; simp at ho; exact ho.1
    · unfold good at hg; rw [e] at hg; simp [nan] at hg
      exact ⟨by have := hv.b1; omega, by omega⟩
    · unfold good at hg; rw [e] at hg; simp at hg; exact hg.2
  · rw [if_neg c3] at h; omega

theorem good2 (v u : V) (hv : v.Fits) (hu : u.Fits) (h : chk2 v u = 0) : v.Good ∧ u.Good := by
  unfold chk2 at h
  by_cases c : v.chk = 0
  · rw [if_pos c] at h; exact ⟨good_of v hv c, good_of u hu h⟩
  · rw [if_neg c] at h; exact absurd h c

def ordV (v u : V) : Int := ord v.k v.i v.b v.s u.k u.i u.b u.s
def compareR (v u : V) : Int := if chk2 v u = 0 then ordV v u else 0

theorem order_v (v u : V) (w : World) (hv : v.Good) (hu : u.Good) :
    Calls Tryd.prog 27 #[.agg #[.int .i64 v.k, .int .i64 v.i, .int .u64 v.b, .string v.s], .agg #[.int .i64 u.k, .int .i64 u.i, .int .u64 u.b, .string u.s]] w fun e w' => e = .returned (.int .i64 (ordV v u)) ∧ Below w.heap.size w w' :=
  order_any v.k v.i v.b v.s u.k u.i u.b u.s w hv.real hu.real
theorem refOrder_v (v u : V) (w : World) (fv : v.Fits) (fu : u.Fits) (hv : v.Good) (hu : u.Good) :
    Calls Tryd.prog 29 #[.agg #[.int .i64 v.k, .int .i64 v.i, .int .u64 v.b, .string v.s], .agg #[.int .i64 u.k, .int .i64 u.i, .int .u64 u.b, .string u.s]] w fun e w' => e = .returned (.int .i64 (ordV v u)) ∧ Below w.heap.size w w' :=
  refOrder_any v.k v.i v.b v.s u.k u.i u.b u.s w hv.k0 hv.k4 hu.k0 hu.k4 fv.i0 fv.i1 fu.i0 fu.i1 fv.b0 fv.b1 fu.b0 fu.b1 fv.s1 fu.s1 hv.null hu.null hv.nought hu.nought

theorem compare_any (v u : V) (w : World) (hv : v.Fits) (hu : u.Fits) (hT : Tabs w) :
    Calls Tryd.prog 13 #[.agg #[.int .i64 v.k, .int .i64 v.i, .int .u64 v.b, .string v.s], .agg #[.int .i64 u.k, .int .i64 u.i, .int .u64 u.b, .string u.s]] w fun e w' => e = .returned (.tuple #[.int .i64 (compareR v u), .int .i64 (chk2 v u)]) ∧ Below w.heap.size w w' := by
  have cB := fun w => checkBoth_any v u w hv hu
  have cO := fun w (h : chk2 v u = 0) => order_v v u w (good2 v u hv hu h).1 (good2 v u hv hu h).2
  have hT2 : ∀ o1 o2, Tabs ((w.alloc o1).alloc o2) := fun o1 o2 => tabs_below hT (((Below.refl _ _).alloc (Nat.le_refl _) _).alloc (by simp) _)
  unfold compareR
  generalize chk2 v u = C at cB cO ⊢
  clear hv hu hT
  cases hz : (C == 0)
  · rw [if_neg (by simpa using hz)]
    clear cO
    go_enter Tryd.func13, Tryd.ntmps13
    go_wp2_with fail
    refine (cB _ (hT2 _ _)).mono ?_
    rintro e w1 ⟨rfl, hb⟩
    clear cB hT2
    go_wp2_with fail
    go_ret2
    exact ⟨rfl, two_below hb⟩
  · have he : C = 0 := by simpa using hz
    rw [if_pos he]
    have cO' := fun w => cO w he
    clear cO hz
    subst he
    go_enter Tryd.func13, Tryd.ntmps13
    go_wp2_with fail
    refine (cB _ (hT2 _ _)).mono ?_
    rintro e w1 ⟨rfl, hb⟩
    obtain ⟨hc, hf⟩ := bcell hb
    clear cB hT2
    go_wp2_with fail
    refine (cO' _).mono ?_
    rintro e w2 ⟨rfl, hb2⟩
    clear cO' hc hf
    go_wp2_with fail
    go_ret2
    exact ⟨rfl, (two_below hb).trans (hb2.mono (by have := hb.size; simp at this; omega))⟩

theorem compared_any (v u : V) (w : World) (hv : v.Fits) (hu : u.Fits) (hT : Tabs w) :
    Calls Tryd.prog 14 #[.agg #[.int .i64 v.k, .int .i64 v.i, .int .u64 v.b, .string v.s], .agg #[.int .i64 u.k, .int .i64 u.i, .int .u64 u.b, .string u.s]] w fun e w' => e = .returned (.tuple #[.int .i64 (compareR v u), .int .i64 (chk2 v u)]) ∧ Below w.heap.size w w' := by
  have hff : firstFault [v, u] = chk2 v u := by
    unfold firstFault chk2 firstFault firstFault
    by_cases c : v.chk = 0
    · rw [if_pos c, if_pos c]; split <;> omega
    · rw [if_neg c, if_neg c]
  have three : ∀ o1 o2 o3, Below w.heap.size w (((w.alloc o1).alloc o2).alloc o3) := fun o1 o2 o3 => (((Below.refl _ _).alloc (Nat.le_refl _) _).alloc (by simp) _).alloc (by simp; omega) _
  have cF := fun o1 o2 => faults_any [v, u] (w.heap.size + 1 + 1) 0 2 (((w.alloc o1).alloc o2).alloc (.cells #[.int .i64 v.k, .int .i64 v.i, .int .u64 v.b, .string v.s, .int .i64 u.k, .int .i64 u.i, .int .u64 u.b, .string u.s] 24))
    (fun x hx => by simp at hx; rcases hx with rfl | rfl <;> assumption) (by simp) (by simp)
    (fun j x hx => by
      match j, hx with
      | 0, hx => simp at hx; subst hx; refine ⟨?_, ?_, ?_, ?_⟩ <;> go_simp
      | 1, hx => simp at hx; subst hx; refine ⟨?_, ?_, ?_, ?_⟩ <;> go_simp
      | j + 2, hx => simp at hx) (tabs_below hT (three o1 o2 _))
  rw [hff] at cF
  have cO := fun w (h : chk2 v u = 0) => refOrder_v v u w hv hu (good2 v u hv hu h).1 (good2 v u hv hu h).2
  unfold compareR
  generalize chk2 v u = C at cF cO ⊢
  have T3 := Lib.hid three
  clear hv hu hT hff three
  cases hz : (C == 0)
  · rw [if_neg (by simpa using hz)]
    clear cO
    go_enter Tryd.func14, Tryd.ntmps14
    go_wp2_with fail
    refine (cF _ _).mono ?_
    rintro e w1 ⟨rfl, hb⟩
    clear cF
    go_wp2_with fail
    go_ret2
    exact ⟨rfl, (T3.out _ _ _).trans (hb.mono (by simp; omega))⟩
  · have he : C = 0 := by simpa using hz
    rw [if_pos he]
    have cO' := fun w => cO w he
    clear cO hz
    subst he
    go_enter Tryd.func14, Tryd.ntmps14
    go_wp2_with fail
    refine (cF _ _).mono ?_
    rintro e w1 ⟨rfl, hb⟩
    obtain ⟨hc, hf⟩ := bcell hb
    clear cF
    go_wp2_with fail
    refine (cO' _).mono ?_
    rintro e w2 ⟨rfl, hb2⟩
    clear cO' hc hf
    go_wp2_with fail
    go_ret2
    exact ⟨rfl, ((T3.out _ _ _).trans (hb.mono (by simp; omega))).trans (hb2.mono (by have := hb.size; simp at this; omega))⟩
end Go.Proofs.YtnoloacfelnkbaaDoor
