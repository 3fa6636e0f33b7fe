/-
  CONTRACTS of package value's Equal and Less and of the reference's Held.
  CONDITIONS: each theorem's own hypotheses.
-/
import Derived.Test.YtoleaahnpcbkkaaGreatDoorValH
namespace Go.Proofs.YtoleaahnpcbkkaaGreatDoor
open Go.RowKit
set_option linter.unusedVariables false

theorem equal_any (v u : V) (w : World) (hv : v.Fits) (hu : u.Fits) (hT : Tabs w) :
    Calls Tryz.prog 172 #[.agg #[.int .i64 v.k, .int .i64 v.i, .int .u64 v.b, .string v.s], .agg #[.int .i64 u.k, .int .i64 u.i, .int .u64 u.b, .string u.s]] w fun e w' => e = .returned (.tuple #[.int .i64 (askT v u (ordV v u == 0)), .int .i64 (askE v u)]) ∧ Below w.heap.size w w' := by
  have hT2 : ∀ o1 o2, Tabs ((w.alloc o1).alloc o2) := fun o1 o2 => tabs_below hT (((Below.refl _ _).alloc (Nat.le_refl _) _).alloc (by simp) _)
  have cA := fun w => ask_any v u 174 (fun n => n == 0) same_fn (fun n w => by go_simp) w hv hu
  clear hv hu hT
  go_enter Tryz.func172, Tryz.ntmps172
  go_wp2_with fail
  refine (cA _ (hT2 _ _)).mono ?_
  rintro e w1 ⟨rfl, hb⟩
  clear cA hT2
  go_wp2_with fail
  go_ret2
  exact ⟨rfl, two_below hb⟩

theorem less_any (v u : V) (w : World) (hv : v.Fits) (hu : u.Fits) (hT : Tabs w) :
    Calls Tryz.prog 188 #[.agg #[.int .i64 v.k, .int .i64 v.i, .int .u64 v.b, .string v.s], .agg #[.int .i64 u.k, .int .i64 u.i, .int .u64 u.b, .string u.s]] w fun e w' => e = .returned (.tuple #[.int .i64 (askT v u (decide (ordV v u < 0))), .int .i64 (askE v u)]) ∧ Below w.heap.size w w' := by
  have hT2 : ∀ o1 o2, Tabs ((w.alloc o1).alloc o2) := fun o1 o2 => tabs_below hT (((Below.refl _ _).alloc (Nat.le_refl _) _).alloc (by simp) _)
  have cA := fun w => ask_any v u 189 (fun n => decide (n < 0)) less_fn (fun n w => by go_simp) w hv hu
  clear hv hu hT
  go_enter Tryz.func188, Tryz.ntmps188
  go_wp2_with fail
  refine (cA _ (hT2 _ _)).mono ?_
  rintro e w1 ⟨rfl, hb⟩
  clear cA hT2
  go_wp2_with fail
  go_ret2
  exact ⟨rfl, two_below hb⟩

end Go.Proofs.YtoleaahnpcbkkaaGreatDoor
