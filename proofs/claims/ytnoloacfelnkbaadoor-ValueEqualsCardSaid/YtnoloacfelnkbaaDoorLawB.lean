/-
  THE WALKS of the laws 'chirographlaw.ValueCompares', 'ValueEquals', 'ValueLess': for every two values each law returns true.
  CONDITIONS: package unicode/utf8's two tables hold what their initialisers lay ('Tabs').
-/
import Derived.Test.YtnoloacfelnkbaaDoorValI
import Derived.OpenShut
namespace Go.Proofs.YtnoloacfelnkbaaDoor
open Go.RowKit
set_option linter.unusedVariables false

theorem fits_of {k i b : Int} {s : ByteArray} (wk : (Lit.int .i64 k).wf = true) (wi : (Lit.int .i64 i).wf = true) (wb : (Lit.int .u64 b).wf = true) (hs : s.size ≤ 9223372036854775807) : (V.mk k i b s).Fits :=
  ⟨(bounds_i64 wk).1, (bounds_i64 wk).2, (bounds_i64 wi).1, (bounds_i64 wi).2, (bounds_u64 wb).1, (bounds_u64 wb).2, hs⟩

theorem valueCompares_v (v u : V) (hv : v.Fits) (hu : u.Fits) (w : World) (hT : Tabs w) :
    Calls Tryd.prog 4 #[.agg #[.int .i64 v.k, .int .i64 v.i, .int .u64 v.b, .string v.s], .agg #[.int .i64 u.k, .int .i64 u.i, .int .u64 u.b, .string u.s]] w fun e w' => e = .returned (.bool true) ∧ Below w.heap.size w w' := by
  have hT2 : ∀ o1 o2, Tabs ((w.alloc o1).alloc o2) := fun o1 o2 => tabs_below hT (((Below.refl _ _).alloc (Nat.le_refl _) _).alloc (by simp) _)
  have cC := fun w => compare_any v u w hv hu
  have cR := fun w => compared_any v u w hv hu
  clear hv hu hT
  generalize compareR v u = C at cC cR
  generalize chk2 v u = E at cC cR
  go_enter Tryd.func4, Tryd.ntmps4
  go_wp2_with fail
  refine (cC _ (hT2 _ _)).mono ?_
  rintro e w1 ⟨rfl, hb⟩
  have hTb := tabs_below (hT2 _ _) hb
  obtain ⟨hc, hf⟩ := bcell hb
  clear cC hT2
  go_wp2_with fail
  refine (cR _ hTb).mono ?_
  rintro e w2 ⟨rfl, hb2⟩
  clear cR hc hf
  go_wp2_with fail
  go_ret
  exact ⟨by simp, (two_below hb).trans (hb2.mono (by have := hb.size; simp at this; omega))⟩
theorem valueCompares_walk (k i b : Int) (s : ByteArray) (k' i' b' : Int) (s' : ByteArray) (wk : (Lit.int .i64 k).wf = true) (wi : (Lit.int .i64 i).wf = true) (wb : (Lit.int .u64 b).wf = true) (hs : s.size ≤ 9223372036854775807) (wk' : (Lit.int .i64 k').wf = true) (wi' : (Lit.int .i64 i').wf = true) (wb' : (Lit.int .u64 b').wf = true) (hs' : s'.size ≤ 9223372036854775807) (w : World) (hT : Tabs w) :
    Calls Tryd.prog 4 #[.agg #[.int .i64 k, .int .i64 i, .int .u64 b, .string s], .agg #[.int .i64 k', .int .i64 i', .int .u64 b', .string s']] w fun e w' => e = .returned (.bool true) ∧ Below w.heap.size w w' :=
  valueCompares_v ⟨k, i, b, s⟩ ⟨k', i', b', s'⟩ (fits_of wk wi wb hs) (fits_of wk' wi' wb' hs') w hT

theorem valueEquals_v (v u : V) (hv : v.Fits) (hu : u.Fits) (w : World) (hT : Tabs w) :
    Calls Tryd.prog 5 #[.agg #[.int .i64 v.k, .int .i64 v.i, .int .u64 v.b, .string v.s], .agg #[.int .i64 u.k, .int .i64 u.i, .int .u64 u.b, .string u.s]] w fun e w' => e = .returned (.bool true) ∧ Below w.heap.size w w' := by
  have hT2 : ∀ o1 o2, Tabs ((w.alloc o1).alloc o2) := fun o1 o2 => tabs_below hT (((Below.refl _ _).alloc (Nat.le_refl _) _).alloc (by simp) _)
  have cC := fun w => equal_any v u w hv hu
  have cR := fun w => held_any v u 0 w hv hu
  clear hv hu hT
  generalize askT v u (ordV v u == 0) = C at cC cR
  generalize askE v u = E at cC cR
  go_enter Tryd.func5, Tryd.ntmps5
  go_wp2_with fail
  refine (cC _ (hT2 _ _)).mono ?_
  rintro e w1 ⟨rfl, hb⟩
  have hTb := tabs_below (hT2 _ _) hb
  obtain ⟨hc, hf⟩ := bcell hb
  clear cC hT2
  go_wp2_with fail
  refine (cR _ hTb).mono ?_
  rintro e w2 ⟨rfl, hb2⟩
  clear cR hc hf
  go_wp2_with fail
  go_ret
  exact ⟨by simp, (two_below hb).trans (hb2.mono (by have := hb.size; simp at this; omega))⟩
theorem valueEquals_walk (k i b : Int) (s : ByteArray) (k' i' b' : Int) (s' : ByteArray) (wk : (Lit.int .i64 k).wf = true) (wi : (Lit.int .i64 i).wf = true) (wb : (Lit.int .u64 b).wf = true) (hs : s.size ≤ 9223372036854775807) (wk' : (Lit.int .i64 k').wf = true) (wi' : (Lit.int .i64 i').wf = true) (wb' : (Lit.int .u64 b').wf = true) (hs' : s'.size ≤ 9223372036854775807) (w : World) (hT : Tabs w) :
    Calls Tryd.prog 5 #[.agg #[.int .i64 k, .int .i64 i, .int .u64 b, .string s], .agg #[.int .i64 k', .int .i64 i', .int .u64 b', .string s']] w fun e w' => e = .returned (.bool true) ∧ Below w.heap.size w w' :=
  valueEquals_v ⟨k, i, b, s⟩ ⟨k', i', b', s'⟩ (fits_of wk wi wb hs) (fits_of wk' wi' wb' hs') w hT

theorem valueLess_v (v u : V) (hv : v.Fits) (hu : u.Fits) (w : World) (hT : Tabs w) :
    Calls Tryd.prog 6 #[.agg #[.int .i64 v.k, .int .i64 v.i, .int .u64 v.b, .string v.s], .agg #[.int .i64 u.k, .int .i64 u.i, .int .u64 u.b, .string u.s]] w fun e w' => e = .returned (.bool true) ∧ Below w.heap.size w w' := by
  have hT2 : ∀ o1 o2, Tabs ((w.alloc o1).alloc o2) := fun o1 o2 => tabs_below hT (((Below.refl _ _).alloc (Nat.le_refl _) _).alloc (by simp) _)
  have cC := fun w => less_any v u w hv hu
  have cR := fun w => held_any v u (-1) w hv hu
  have e1 : decide (ordV v u < 0) = (ordV v u == -1) := by
    rcases ordV_range v u with h | h | h <;> rw [h] <;> rfl
  rw [e1] at cC
  clear hv hu hT e1
  generalize askT v u (ordV v u == -1) = C at cC cR
  generalize askE v u = E at cC cR
  go_enter Tryd.func6, Tryd.ntmps6
  go_wp2_with fail
  refine (cC _ (hT2 _ _)).mono ?_
  rintro e w1 ⟨rfl, hb⟩
  have hTb := tabs_below (hT2 _ _) hb
  obtain ⟨hc, hf⟩ := bcell hb
  clear cC hT2
  go_wp2_with fail
  refine (cR _ hTb).mono ?_
  rintro e w2 ⟨rfl, hb2⟩
  clear cR hc hf
  go_wp2_with fail
  go_ret
  exact ⟨by simp, (two_below hb).trans (hb2.mono (by have := hb.size; simp at this; omega))⟩
theorem valueLess_walk (k i b : Int) (s : ByteArray) (k' i' b' : Int) (s' : ByteArray) (wk : (Lit.int .i64 k).wf = true) (wi : (Lit.int .i64 i).wf = true) (wb : (Lit.int .u64 b).wf = true) (hs : s.size ≤ 9223372036854775807) (wk' : (Lit.int .i64 k').wf = true) (wi' : (Lit.int .i64 i').wf = true) (wb' : (Lit.int .u64 b').wf = true) (hs' : s'.size ≤ 9223372036854775807) (w : World) (hT : Tabs w) :
    Calls Tryd.prog 6 #[.agg #[.int .i64 k, .int .i64 i, .int .u64 b, .string s], .agg #[.int .i64 k', .int .i64 i', .int .u64 b', .string s']] w fun e w' => e = .returned (.bool true) ∧ Below w.heap.size w w' :=
  valueLess_v ⟨k, i, b, s⟩ ⟨k', i', b', s'⟩ (fits_of wk wi wb hs) (fits_of wk' wi' wb' hs') w hT
end Go.Proofs.YtnoloacfelnkbaaDoor
