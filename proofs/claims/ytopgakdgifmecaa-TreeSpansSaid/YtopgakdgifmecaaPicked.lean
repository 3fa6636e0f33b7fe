/-
  CONTRACT of the law's picked (for seats without stage 1's functions: the same names as in RawA: never both in one seat).
  CONDITIONS: each theorem's own hypotheses.
-/
import Derived.Test.YtopgakdgifmecaaGBase
namespace Go.Proofs.Ytopgakdgifmecaa
open Go.RowKit CodeMath
set_option linter.unusedVariables false

theorem riP {k : IntKind} {a b : Int} (h : a = b) : Ending.returned (.int k a) = .returned (.int k b) := by rw [h]
theorem tmod_split (n m : Int) (hm : 0 < m) : (0 ≤ n.tmod m ∧ n.tmod m = n % m) ∨ (n.tmod m < 0 ∧ n.tmod m + m = n % m) := by
  have h1 := Int.emod_nonneg n (show m ≠ 0 by omega)
  have h2 := Int.emod_lt_of_pos n hm
  by_cases hn : 0 ≤ n
  · left; rw [Int.tmod_eq_emod_of_nonneg hn]; exact ⟨h1, rfl⟩
  · by_cases hd : m ∣ n
    · left
      rw [Int.tmod_eq_emod, if_pos (Or.inr hd), Int.emod_eq_zero_of_dvd hd]; simp
    · right
      have h3 : n % m ≠ 0 := fun h => hd (Int.dvd_of_emod_eq_zero h)
      have h4 : ¬ (0 ≤ n ∨ m ∣ n) := fun h => by cases h <;> contradiction
      rw [Int.tmod_eq_emod, if_neg h4]
      omega

theorem picked_any (n m : Int) (w : World) (hm : 0 < m) (hm1 : m ≤ 4611686018427387904) (hn : -9223372036854775808 ≤ n) (hn1 : n ≤ 9223372036854775807) :
    Calls Try.prog 27 #[.int .i64 n, .int .i64 m] w fun e w' => e = .returned (.int .i64 (n % m)) ∧ w = w' := by
  have h1 := Int.emod_nonneg n (show m ≠ 0 by omega)
  have h2 := Int.emod_lt_of_pos n hm
  have hs := tmod_split n m hm
  generalize hr : n % m = r at *
  generalize ht : n.tmod m = t at *
  have HT := Lib.hid ht
  clear hr
  rcases hs with ⟨h3, rfl⟩ | ⟨h3, h4⟩
  · go_enter Try.func27, Try.ntmps27
    go_wp2
    go_ret
    exact ⟨rfl, rfl⟩
  · have H := Lib.hid h4
    have h5 : -9223372036854775808 ≤ t + m := by omega
    clear h4
    go_enter Try.func27, Try.ntmps27
    go_wp2
    go_ret
    exact ⟨riP H.out, rfl⟩


end Go.Proofs.Ytopgakdgifmecaa
