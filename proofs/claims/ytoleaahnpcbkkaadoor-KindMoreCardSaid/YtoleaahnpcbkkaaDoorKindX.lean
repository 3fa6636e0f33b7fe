/-
  CONTRACTS of package kinds' each and asks: the functions that they hand on, and what those answer.
  CONDITIONS: each theorem's own hypotheses.
-/
import Derived.Test.YtoleaahnpcbkkaaDoorKindW
namespace Go.Proofs.YtoleaahnpcbkkaaDoor
open Go.RowKit
set_option linter.unusedVariables false
set_option maxRecDepth 100000

set_option maxHeartbeats 4000000 in
theorem eachFits_any (a b k : Int) (g : Nat) (w : World) (hg : g < w.heap.size) (hc : w.cell? ⟨g, 0, none⟩ = some (.int .i64 k)) :
    Calls Tryd.prog 77 #[.agg #[.int .i64 a, .int .i64 b], .pointer (some ⟨g, 0, none⟩)] w fun e w' => e = .returned (.bool (fitsK a k && fitsK b k)) ∧ Below w.heap.size w w' := by
  have c1 := fits_any a k
  have c2 := fits_any b k
  generalize fitsK a k = F at *
  generalize fitsK b k = G at *
  obtain ⟨w2, hw2⟩ : ∃ w2, w.alloc (.cells #[.int .i64 a, .int .i64 b] 84) = w2 := ⟨_, rfl⟩
  have hb : Below w.heap.size w w2 := by rw [← hw2]; exact (Below.refl _ _).alloc (Nat.le_refl _) _
  have d0 := (hb.cell (p := ⟨g, 0, none⟩) hg).trans hc
  have p0 : w2.cell? ⟨w.heap.size, 0, none⟩ = some (.int .i64 a) := by rw [← hw2]; simp
  have p1 : w2.cell? ⟨w.heap.size, 1, none⟩ = some (.int .i64 b) := by rw [← hw2]; simp
  clear hc
  cases F
  · go_enter Tryd.func77, Tryd.ntmps77
    go_upto_region 1 with fail
    try rw [hw2]
    clear hw2
    go_wp2_with fail
    refine (c1 _).mono ?_
    rintro e w1 ⟨rfl, rfl⟩
    clear c1 c2
    go_wp2_with fail
    go_ret
    exact ⟨rfl, hb⟩
  · go_enter Tryd.func77, Tryd.ntmps77
    go_upto_region 1 with fail
    try rw [hw2]
    clear hw2
    go_wp2_with fail
    refine (c1 _).mono ?_
    rintro e w1 ⟨rfl, rfl⟩
    clear c1
    go_wp2_with fail
    refine (c2 _).mono ?_
    rintro e w1 ⟨rfl, rfl⟩
    clear c2
    go_wp2_with fail
    go_ret
    exact ⟨by simp, hb⟩
set_option maxHeartbeats 4000000 in
theorem each_any (k : Int) (w : World) :
    Calls Tryd.prog 67 #[.int .i64 k] w fun e w' => e = .returned (.func (.func 77) #[] #[.pointer (some ⟨w.heap.size, 0, none⟩)]) ∧ Below w.heap.size w w' ∧ w.heap.size < w'.heap.size ∧ w'.cell? ⟨w.heap.size, 0, none⟩ = some (.int .i64 k) := by
  go_enter Tryd.func67, Tryd.ntmps67
  go_wp2_with fail
  go_ret
  exact ⟨rfl, (Below.refl _ _).alloc (Nat.le_refl _) _, by simp, by simp⟩
set_option maxHeartbeats 8000000 in
theorem asksEach_any (op : Int) (w : World) (h : op = 3 ∨ op = 5 ∨ op = 6 ∨ op = 7 ∨ op = 8 ∨ op = 4 ∨ op = 15 ∨ op = 16 ∨ op = 18 ∨ op = 19) :
    Calls Tryd.prog 54 #[.int .i64 op] w fun e w' => e = .returned (.func (.func 77) #[] #[.pointer (some ⟨w.heap.size, 0, none⟩)]) ∧ Below w.heap.size w w' ∧ w.heap.size < w'.heap.size ∧ w'.cell? ⟨w.heap.size, 0, none⟩ = some (.int .i64 (asks0 op)) := by
  have c1 := fun k => each_any k w
  rcases h with rfl | rfl | rfl | rfl | rfl | rfl | rfl | rfl | rfl | rfl
  all_goals
    go_enter Tryd.func54, Tryd.ntmps54
    go_wp2_with fail
    refine (c1 _).mono ?_
    rintro e w1 ⟨rfl, hb, hs, hc⟩
    clear c1
    go_wp2_with fail
    go_ret
    exact ⟨rfl, hb, hs, hc⟩
set_option maxHeartbeats 8000000 in
theorem asksNone_any (w : World) :
    Calls Tryd.prog 54 #[.int .i64 17] w fun e w' => e = .returned (.func (.func 68) #[] #[]) ∧ w' = w := by
  go_enter Tryd.func54, Tryd.ntmps54
  go_wp2_with fail
  go_ret
  exact ⟨rfl, rfl⟩
set_option maxHeartbeats 8000000 in
theorem asksOne_any (op : Int) (w : World) (h : op = 9 ∨ op = 10 ∨ op = 11 ∨ op = 12 ∨ op = 13 ∨ op = 14 ∨ op = 20) :
    Calls Tryd.prog 54 #[.int .i64 op] w fun e w' => e = .returned (.func (.func 69) #[] #[]) ∧ w' = w := by
  rcases h with rfl | rfl | rfl | rfl | rfl | rfl | rfl
  all_goals
    go_enter Tryd.func54, Tryd.ntmps54
    go_wp2_with fail
    go_ret
    exact ⟨rfl, rfl⟩
set_option maxHeartbeats 8000000 in
theorem asksFor_any (op : Int) (w : World) (h : 3 ≤ op ∧ op ≤ 20) :
    Calls Tryd.prog 38 #[.int .i64 op] w fun e w' => e = .returned (.tuple #[.int .i64 (asks0 op), .int .i64 (gives0 op)]) ∧ w' = w := by
  rcases (show op = 3 ∨ op = 4 ∨ op = 5 ∨ op = 6 ∨ op = 7 ∨ op = 8 ∨ op = 9 ∨ op = 10 ∨ op = 11 ∨ op = 12 ∨ op = 13 ∨ op = 14 ∨ op = 15 ∨ op = 16 ∨ op = 17 ∨ op = 18 ∨ op = 19 ∨ op = 20 by omega) with rfl | rfl | rfl | rfl | rfl | rfl | rfl | rfl | rfl | rfl | rfl | rfl | rfl | rfl | rfl | rfl | rfl | rfl
  all_goals
    go_enter Tryd.func38, Tryd.ntmps38
    go_wp2_with fail
    go_ret2
    exact ⟨rfl, rfl⟩
end Go.Proofs.YtoleaahnpcbkkaaDoor
