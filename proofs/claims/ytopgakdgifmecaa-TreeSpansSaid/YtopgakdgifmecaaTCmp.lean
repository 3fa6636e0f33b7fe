/-
  CONTRACTS of cmp.Compare at strings and of the comparison that place hands on.
  CONDITIONS: each theorem's own hypotheses.
-/
import Derived.Test.YtopgakdgifmecaaTRise
namespace Go.Proofs.Ytopgakdgifmecaa
open Go.RowKit
set_option linter.unusedVariables false
set_option maxRecDepth 100000

/-- How two keys stand. -/
def cmpS (a b : List UInt8) : Int := if lessS a b = true then -1 else if ((str a).toList == (str b).toList) = true then 0 else 1
theorem isNaN_any (s : ByteArray) (w : World) : Calls Try.prog 66 #[.string s] w fun e w' => e = .returned (.bool false) ∧ w' = w := by
  go_enter Try.func66, Try.ntmps66
  go_wp2_with fail
  go_ret
  exact ⟨by simp, rfl⟩
theorem compare_any (a b : List UInt8) (w : World) : Calls Try.prog 59 #[.string (str a), .string (str b)] w fun e w' => e = .returned (.int .i64 (cmpS a b)) ∧ w' = w := by
  obtain ⟨R, hR⟩ : ∃ R, cmpS a b = R := ⟨_, rfl⟩
  rw [hR]
  unfold cmpS lessS at hR
  have cA := isNaN_any (str a) w
  have cB := isNaN_any (str b) w
  generalize str a = A at *
  generalize str b = B at *
  obtain ⟨z, hz⟩ : ∃ z, Op.bytesLess A.toList B.toList = z := ⟨_, rfl⟩
  obtain ⟨y, hy⟩ : ∃ y, (A.toList == B.toList) = y := ⟨_, rfl⟩
  rw [hz, hy] at hR
  have HR := Lib.hid hR
  clear hR
  go_enter Try.func59, Try.ntmps59
  go_wp2_with fail
  refine cA.mono ?_
  rintro e w ⟨rfl, rfl⟩
  clear cA
  go_wp2_with fail
  refine cB.mono ?_
  rintro e w ⟨rfl, rfl⟩
  clear cB
  cases z
  · cases y
    · go_wp2_with fail
      go_ret
      exact ⟨by rw [← HR.out]; rfl, rfl⟩
    · go_wp2_with fail
      go_ret
      exact ⟨by rw [← HR.out]; rfl, rfl⟩
  · go_wp2_with fail
    go_ret
    exact ⟨by rw [← HR.out]; rfl, rfl⟩
theorem place1_any (e : En) (s : List UInt8) (w : World) : Calls Try.prog 58 #[.agg #[.string (str e.1), .int .i64 e.2], .string (str s)] w fun x w' => x = .returned (.int .i64 (cmpS e.1 s)) ∧ Below w.heap.size w w' := by
  obtain ⟨key, x⟩ := e
  simp only
  have z0 := Blk.new w #[.string (str key), .int .i64 x] 73
  have hb0 := (Below.refl w.heap.size w).alloc (Nat.le_refl _) (.cells #[.string (str key), .int .i64 x] 73)
  generalize hw0 : w.alloc (.cells #[.string (str key), .int .i64 x] 73) = w0 at z0 hb0
  have HW0 := Lib.hid hw0
  have HB0 := Lib.hid hb0
  have p0 := z0.cell (j := 0) rfl
  have cc := compare_any key s w0
  obtain ⟨R, hR⟩ : ∃ R, cmpS key s = R := ⟨_, rfl⟩
  rw [hR] at cc ⊢
  generalize str key = A at *
  generalize str s = B at *
  clear hw0 hb0 z0 hR
  go_enter Try.func58, Try.ntmps58
  go_upto_region 1 with fail
  rw [HW0.out]
  clear HW0
  go_wp2_with fail
  refine cc.mono ?_
  rintro e w0 ⟨rfl, rfl⟩
  clear cc
  go_wp2_with fail
  go_ret
  exact ⟨rfl, HB0.out⟩
end Go.Proofs.Ytopgakdgifmecaa
