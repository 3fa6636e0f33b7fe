/-
  CONTRACTS of package expr's Check: names, values, forms.
  CONDITIONS: each theorem's own hypotheses; the tables 'Tabs', 'SW' and the forms 'FW' hold what their initialisers lay.
-/
import Derived.Test.YtfedlchncngafaaGreatDoorExprC
namespace Go.Proofs.YtfedlchncngafaaGreatDoor
open Go.RowKit
set_option linter.unusedVariables false
set_option maxRecDepth 100000

set_option maxHeartbeats 4000000 in
theorem goodName_any (op k i b : Int) (t nm : List UInt8) (ao : Option Addr) (L cap : Nat) (w : World) (hn : nm.length ≤ 9223372036854775807) (hT : Tabs w) (hS : SW w) :
    Calls Tryz.prog 137 #[.agg #[.int .i64 op, .int .i64 k, .int .i64 i, .int .u64 b, .string (str t), .string (str nm), .slice ao L cap]] w fun e w' => e = .returned (.bool (nOk ⟨op, k, i, b, t, nm⟩)) ∧ Below w.heap.size w w' := by
  have hse : (str nm).toList.isEmpty = nm.isEmpty := by rw [str_toList]
  have cC := fun W (hW : Below w.heap.size w W) => lexCheck_any 1 0 0 nm W (by decide) (by decide) hn (tabs_below hT hW) (hS.keep hW (Nat.le_refl _))
  unfold nOk
  simp only
  by_cases h2 : op = 2
  · subst h2
    rw [if_pos rfl]
    generalize tokC 1 nm 0 0 = C at *
    generalize str nm = S at *
    generalize str t = S2 at *
    obtain ⟨B, hB⟩ : ∃ B, (C == 0) = B := ⟨_, rfl⟩
    rw [hB]
    clear hse
    cases B
    all_goals
      go_enter Tryz.func137, Tryz.ntmps137
      go_wp2_with fail
      refine (cC _ ((Below.refl _ _).alloc (Nat.le_refl _) _)).mono ?_
      rintro e w' ⟨rfl, hb⟩
      clear cC
      go_wp2_with fail
      go_ret
      exact ⟨rfl, ((Below.refl _ _).alloc (Nat.le_refl _) _).trans (hb.mono (by simp))⟩
  · rw [if_neg h2]
    have hop : (op == 2) = false := by simpa using h2
    rw [← hse]
    generalize str nm = S at *
    generalize str t = S2 at *
    clear hse cC h2
    cases hs : S.toList.isEmpty
    all_goals
      go_enter Tryz.func137, Tryz.ntmps137
      go_wp2_with fail
      go_ret
      exact ⟨by first | rfl | simp [*], (Below.refl _ _).alloc (Nat.le_refl _) _⟩
set_option maxHeartbeats 8000000 in
theorem goodValue_any (op k i b : Int) (t nm : List UInt8) (ao : Option Addr) (L cap : Nat) (w : World) (b0 : 0 ≤ b) (b1 : b ≤ 18446744073709551615) (ht : t.length ≤ 9223372036854775807) (hT : Tabs w) :
    Calls Tryz.prog 138 #[.agg #[.int .i64 op, .int .i64 k, .int .i64 i, .int .u64 b, .string (str t), .string (str nm), .slice ao L cap]] w fun e w' => e = .returned (.bool (vOk ⟨op, k, i, b, t, nm⟩)) ∧ Below w.heap.size w w' := by
  have hse : (str t).toList.isEmpty = t.isEmpty := by rw [str_toList]
  have cC := fun W (hW : Below w.heap.size w W) => check_any k i b (str t) W b0 b1 (by rw [str_size]; exact ht) (tabs_below hT hW)
  unfold vOk
  simp only
  by_cases h2 : op = 1
  · subst h2
    rw [if_pos rfl]
    generalize chk k i b (str t) = C at *
    generalize str nm = S2 at *
    generalize str t = S at *
    clear hse
    obtain ⟨B, hB⟩ : ∃ B, (C == 0) = B := ⟨_, rfl⟩
    obtain ⟨B2, hB2⟩ : ∃ B, decide (0 ≤ i) = B := ⟨_, rfl⟩
    rw [hB, hB2]
    cases B <;> cases B2
    all_goals
      go_enter Tryz.func138, Tryz.ntmps138
      go_wp2_with fail
      refine (cC _ ((Below.refl _ _).alloc (Nat.le_refl _) _)).mono ?_
      rintro e w' ⟨rfl, hb⟩
      have p2 := (hb.cell (p := ⟨w.heap.size, 2, none⟩) (by simp)).trans (show _ = some (.int .i64 i) by simp)
      clear cC
      go_wp2_with fail
      go_ret
      exact ⟨by first | rfl | simp [*], ((Below.refl _ _).alloc (Nat.le_refl _) _).trans (hb.mono (by simp))⟩
  · rw [if_neg h2]
    have hop : (op == 1) = false := by simpa using h2
    rw [← hse]
    generalize str nm = S2 at *
    generalize str t = S at *
    clear hse cC h2
    cases h1 : (k == 0) <;> cases h2 : (i == 0) <;> cases h3 : (b == 0) <;> cases hs : S.toList.isEmpty
    all_goals
      go_enter Tryz.func138, Tryz.ntmps138
      go_wp2_with fail
      go_ret
      exact ⟨by first | rfl | simp [*], (Below.refl _ _).alloc (Nat.le_refl _) _⟩
end Go.Proofs.YtfedlchncngafaaGreatDoor
