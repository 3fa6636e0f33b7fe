/-
  CONTRACTS of package kinds' gives, and of what asks hands on.
  CONDITIONS: each theorem's own hypotheses.
-/
import Derived.Test.YtoleaahnpcbkkaaDoorKindV
namespace Go.Proofs.YtoleaahnpcbkkaaDoor
open Go.RowKit
set_option linter.unusedVariables false
set_option maxRecDepth 100000

set_option maxHeartbeats 8000000 in
theorem gives_any (op a b : Int) (w : World) :
    Calls Tryd.prog 55 #[.int .i64 op, .agg #[.int .i64 a, .int .i64 b]] w fun e w' => e = .returned (.int .i64 (givesK op a b)) ∧ Below w.heap.size w w' := by
  obtain ⟨G, hG⟩ : ∃ G, givesK op a b = G := ⟨_, rfl⟩
  rw [hG]
  unfold givesK at hG
  by_cases h1 : op = 3 ∨ op = 5 ∨ op = 6 ∨ op = 7 ∨ op = 8 ∨ op = 18
  · rw [if_pos h1] at hG
    subst hG
    rcases h1 with rfl | rfl | rfl | rfl | rfl | rfl
    all_goals
      go_enter Tryd.func55, Tryd.ntmps55
      go_wp2_with fail
      go_ret
      exact ⟨rfl, (Below.refl _ _).alloc (Nat.le_refl _) _⟩
  · rw [if_neg h1] at hG
    have o3 : (op == 3) = false := by simpa using (fun e => h1 (by omega))
    have o5 : (op == 5) = false := by simpa using (fun e => h1 (by omega))
    have o6 : (op == 6) = false := by simpa using (fun e => h1 (by omega))
    have o7 : (op == 7) = false := by simpa using (fun e => h1 (by omega))
    have o8 : (op == 8) = false := by simpa using (fun e => h1 (by omega))
    have o18 : (op == 18) = false := by simpa using (fun e => h1 (by omega))
    clear h1
    by_cases h2 : op = 19
    · rw [if_pos h2] at hG
      have o19 : (op == 19) = true := by simp [h2]
      subst hG
      clear h2
      go_enter Tryd.func55, Tryd.ntmps55
      go_wp2_with fail
      go_ret
      exact ⟨rfl, (Below.refl _ _).alloc (Nat.le_refl _) _⟩
    · rw [if_neg h2] at hG
      have o19 : (op == 19) = false := by simpa using h2
      clear h2
      by_cases h3 : op = 20
      · rw [if_pos h3] at hG
        have o20 : (op == 20) = true := by simp [h3]
        have hm : max a b = G := by rw [← hG]; split <;> omega
        clear h3 hG
        go_enter Tryd.func55, Tryd.ntmps55
        go_wp2_with fail
        go_ret
        exact ⟨by simp [*], (Below.refl _ _).alloc (Nat.le_refl _) _⟩
      · rw [if_neg h3] at hG
        have o20 : (op == 20) = false := by simpa using h3
        subst hG
        clear h3
        go_enter Tryd.func55, Tryd.ntmps55
        go_wp2_with fail
        go_ret
        exact ⟨rfl, (Below.refl _ _).alloc (Nat.le_refl _) _⟩
set_option maxHeartbeats 4000000 in
theorem asksAny_any (a b : Int) (w : World) :
    Calls Tryd.prog 68 #[.agg #[.int .i64 a, .int .i64 b]] w fun e w' => e = .returned (.bool true) ∧ Below w.heap.size w w' := by
  go_enter Tryd.func68, Tryd.ntmps68
  go_wp2_with fail
  go_ret
  exact ⟨rfl, (Below.refl _ _).alloc (Nat.le_refl _) _⟩
set_option maxHeartbeats 4000000 in
theorem asksFits_any (a b : Int) (w : World) :
    Calls Tryd.prog 69 #[.agg #[.int .i64 a, .int .i64 b]] w fun e w' => e = .returned (.bool (fitsK a b)) ∧ Below w.heap.size w w' := by
  have c1 := fits_any a b
  generalize fitsK a b = F at *
  go_enter Tryd.func69, Tryd.ntmps69
  go_wp2_with fail
  refine (c1 _).mono ?_
  rintro e w1 ⟨rfl, rfl⟩
  clear c1
  go_wp2_with fail
  go_ret
  exact ⟨rfl, (Below.refl _ _).alloc (Nat.le_refl _) _⟩
end Go.Proofs.YtoleaahnpcbkkaaDoor
