/-
  THE WALK of the law 'chirographlaw.ValueChecks': for every value the law returns true.
  CONDITIONS: package unicode/utf8's two tables hold what their initialisers lay ('Tabs').
-/
import Derived.Test.YtnoloacfelnkbaaDoorValC
import Derived.OpenShut
namespace Go.Proofs.YtnoloacfelnkbaaDoor
open Go.RowKit
set_option linter.unusedVariables false

theorem valueChecks_walk (k i b : Int) (s : ByteArray) (wk : (Lit.int .i64 k).wf = true) (wi : (Lit.int .i64 i).wf = true) (wb : (Lit.int .u64 b).wf = true) (hs : s.size ≤ 9223372036854775807) (w : World) (hT : Tabs w) :
    Calls Tryd.prog 3 #[.agg #[.int .i64 k, .int .i64 i, .int .u64 b, .string s]] w fun e w' => e = .returned (.bool true) ∧ Below w.heap.size w w' := by
  obtain ⟨hi0, hi1⟩ := bounds_i64 wi
  obtain ⟨hb0, hb1⟩ := bounds_u64 wb
  have cC := fun w => check_any k i b s w hb0 hb1 hs
  have cF := fun w => fault_any k i b s w hi0 hi1 hb0 hb1
  have hT1 : ∀ o, Tabs (w.alloc o) := fun o => tabs_below hT ((Below.refl _ _).alloc (Nat.le_refl _) o)
  generalize chk k i b s = C at cC cF
  clear wk wi wb hs hT hi0 hi1 hb0 hb1
  go_enter Tryd.func3, Tryd.ntmps3
  go_wp2_with fail
  refine (cC _ (hT1 _)).mono ?_
  rintro e w1 ⟨rfl, hb⟩
  have hc := hb.cell (p := ⟨w.heap.size, 0, none⟩) (by simp)
  have hc1 := hb.cell (p := ⟨w.heap.size, 1, none⟩) (by simp)
  have hc2 := hb.cell (p := ⟨w.heap.size, 2, none⟩) (by simp)
  have hc3 := hb.cell (p := ⟨w.heap.size, 3, none⟩) (by simp)
  have hTb := tabs_below (hT1 _) hb
  clear cC hT1
  go_wp2_with fail
  refine (cF _ hTb).mono ?_
  rintro e w2 ⟨rfl, hb2⟩
  clear cF
  go_wp2_with fail
  go_ret
  exact ⟨by simp, ((Below.refl _ _).alloc (Nat.le_refl _) _).trans ((hb.mono (by simp)).trans (hb2.mono (by have := hb.size; simp at this; omega)))⟩
end Go.Proofs.YtnoloacfelnkbaaDoor
