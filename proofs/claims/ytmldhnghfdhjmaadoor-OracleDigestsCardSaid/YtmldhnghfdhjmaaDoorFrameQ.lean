/-
  CONTRACTS of package oracle's isTag and Frame.
  CONDITIONS: each theorem's own hypotheses.
-/
import Derived.Test.YtmldhnghfdhjmaaDoorFrameP
namespace Go.Proofs.YtmldhnghfdhjmaaDoor
open Go.RowKit CodeMath Go.Proofs.YtmldhnghfdhjmaaDoor.FrameMath
set_option linter.unusedVariables false

set_option maxRecDepth 100000 in
theorem isTag_any (t : Int) (b : Bool) (hb : decide (1 ≤ t ∧ t ≤ 9) = b) (w : World) (t0 : -9223372036854775808 ≤ t) (t1 : t ≤ 9223372036854775807) :
    Calls Tryd.prog 46 #[.int .i64 t] w fun e w' => e = .returned (.bool b) ∧ w = w' := by
  by_cases h1 : 1 ≤ t
  · by_cases h9 : t ≤ 9
    · have hb' : b = true := by rw [← hb]; simp [h1, h9]
      clear hb
      subst hb'
      go_enter Tryd.func46, Tryd.ntmps46
      go_wp2_with fail
      go_ret
      exact ⟨rfl, by first | rfl | trivial⟩
    · have hb' : b = false := by rw [← hb]; simp [h9]
      clear hb
      subst hb'
      go_enter Tryd.func46, Tryd.ntmps46
      go_wp2_with fail
      go_ret
      exact ⟨rfl, by first | rfl | trivial⟩
  · have hb' : b = false := by rw [← hb]; simp [h1]
    clear hb
    subst hb'
    go_enter Tryd.func46, Tryd.ntmps46
    go_wp2_with fail
    go_ret
    exact ⟨rfl, by first | rfl | trivial⟩
set_option maxRecDepth 100000 in
set_option maxHeartbeats 2000000 in
theorem Frame_badTag (t : Int) (ht : ¬ (1 ≤ t ∧ t ≤ 9)) (vp : Value) (w : World) (t0 : -9223372036854775808 ≤ t) (t1 : t ≤ 9223372036854775807) :
    Calls Tryd.prog 27 #[.int .i64 t, vp] w fun e w' => e = .returned (.tuple #[.slice none 0 0, .int .i64 6]) ∧ w = w' := by
  have cT := fun W => isTag_any t false (by simpa using ht) W t0 t1
  clear ht
  go_enter Tryd.func27, Tryd.ntmps27
  go_wp2_with (first
    | (go_at_call 46; refine (cT _).mono ?_; rintro e w1 ⟨rfl, rfl⟩; clear cT)
    | fail)
  go_ret2
  exact ⟨rfl, by first | rfl | trivial⟩
set_option maxRecDepth 100000 in
set_option maxHeartbeats 2000000 in
theorem Frame_many (t : Int) (ht : 1 ≤ t ∧ t ≤ 9) (ap : Option Addr) (n capp : Nat) (hn : 8 < n) (hn1 : n ≤ 9223372036854775807) (w : World) :
    Calls Tryd.prog 27 #[.int .i64 t, .slice ap n capp] w fun e w' => e = .returned (.tuple #[.slice none 0 0, .int .i64 1]) ∧ w = w' := by
  have cT := fun W => isTag_any t true (by simpa using ht) W (by omega) (by omega)
  have nI : (8 : Int) < n := by omega
  clear ht
  go_enter Tryd.func27, Tryd.ntmps27
  go_wp2_with (first
    | (go_at_call 46; refine (cT _).mono ?_; rintro e w1 ⟨rfl, rfl⟩; clear cT)
    | fail)
  go_ret2
  exact ⟨rfl, by first | rfl | trivial⟩
set_option maxRecDepth 100000 in
set_option maxHeartbeats 2000000 in
theorem Frame_big (t : Int) (ht : 1 ≤ t ∧ t ≤ 9) (rows : List (List UInt8)) (ap : Option Addr) (capp : Nat) (hn : rows.length ≤ 8) (hW : 16777216 < 2 + total rows) (w : World) (hl : Lines w ap rows) (hB : ∀ l ∈ rows, l.length ≤ 140737488351232) :
    Calls Tryd.prog 27 #[.int .i64 t, .slice ap rows.length capp] w fun e w' => e = .returned (.tuple #[.slice none 0 0, .int .i64 1]) ∧ w = w' := by
  have cT := fun W => isTag_any t true (by simpa using ht) W (by omega) (by omega)
  have cF := fun W h => frameBytes_any rows ap capp W h (by omega) hB
  obtain ⟨R, hR⟩ : ∃ R : Nat, weigh rows rows.length = R := ⟨_, rfl⟩
  have hRb : 16777216 < R := by rw [← hR, weigh_total rows _ (Nat.le_refl _), List.take_length]; exact hW
  rw [hR] at cF
  obtain ⟨n, hnn⟩ : ∃ n, rows.length = n := ⟨_, rfl⟩
  rw [hnn] at cF hn ⊢
  have nI : ¬ ((8 : Int) < n) := by omega
  have rI : (16777216 : Int) < R := by omega
  clear ht hR hnn hW hB
  go_enter Tryd.func27, Tryd.ntmps27
  go_wp2_with (first
    | (go_at_call 46; refine (cT _).mono ?_; rintro e w1 ⟨rfl, rfl⟩; clear cT)
    | (go_at_call 47; refine (cF _ hl).mono ?_; rintro e w2 ⟨rfl, rfl⟩; clear cF)
    | fail)
  go_ret2
  exact ⟨rfl, by first | rfl | trivial⟩
set_option maxRecDepth 100000 in
set_option maxHeartbeats 2000000 in
theorem Frame_good (t : Nat) (ht0 : 1 ≤ t) (ht : t ≤ 9) (rows : List (List UInt8)) (ap : Option Addr) (capp : Nat) (hn : rows.length ≤ 8) (hW : 2 + total rows ≤ 16777216) (w : World) (hl : Lines w ap rows) :
    Calls Tryd.prog 27 #[.int .i64 t, .slice ap rows.length capp] w fun e w' => ∃ v', e = .returned (.tuple #[v', .int .i64 0]) ∧ OwnB w' w.heap.size v' (frame t rows) ∧ Below w.heap.size w w' := by
  have cT := fun W => isTag_any (t : Int) true (by simp; omega) W (by omega) (by omega)
  have cF := fun W h => frameBytes_any rows ap capp W h (by omega) (fun l h => by have := total_mem rows l h; omega)
  have cP := fun W h => frameP_any t t rfl (by omega) rows ap capp W h (by omega) hW
  obtain ⟨R, hR⟩ : ∃ R : Nat, weigh rows rows.length = R := ⟨_, rfl⟩
  have hRb : R ≤ 16777216 := by rw [← hR, weigh_total rows _ (Nat.le_refl _), List.take_length]; exact hW
  rw [hR] at cF
  obtain ⟨n, hnn⟩ : ∃ n, rows.length = n := ⟨_, rfl⟩
  rw [hnn] at cF cP hn ⊢
  have nI : ¬ ((8 : Int) < n) := by omega
  have rI : ¬ ((16777216 : Int) < R) := by omega
  generalize frame t rows = FR at cP ⊢
  clear ht ht0 hR hnn hW
  go_enter Tryd.func27, Tryd.ntmps27
  go_wp2_with (first
    | (go_at_call 46; refine (cT _).mono ?_; rintro e w1 ⟨rfl, rfl⟩; clear cT)
    | (go_at_call 47; refine (cF _ hl).mono ?_; rintro e w2 ⟨rfl, rfl⟩; clear cF)
    | (go_at_call 32; refine (cP _ hl).mono ?_; rintro e w3 ⟨v3, rfl, ho3, hb3⟩; clear cP)
    | fail)
  go_ret2
  exact ⟨_, rfl, ho3, hb3⟩
end Go.Proofs.YtmldhnghfdhjmaaDoor
