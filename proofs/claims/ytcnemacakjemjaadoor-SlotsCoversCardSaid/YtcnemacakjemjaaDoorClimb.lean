/-
  CONTRACT of package slots' climb, and node's for rows of any length.
  CONDITIONS: package sum's roundWords hold what their initialiser lays ('KW').
-/
import Derived.Test.YtcnemacakjemjaaDoorGLev
namespace Go.Proofs.YtcnemacakjemjaaDoor
open Go.RowKit CodeMath Go.Proofs.YtcnemacakjemjaaDoor.FrameMath
set_option linter.unusedVariables false
set_option maxRecDepth 100000

theorem cast_tmod (q : Nat) : (q : Int).tmod 2 = ((q % 2 : Nat) : Int) := by rw [Int.tmod_eq_emod_of_nonneg (by omega)]; omega
theorem digR_ne {m t : Int} {ps : List (List UInt8)} {c : Int} (h : digR m t ps = .err c) : c ≠ 0 := by
  unfold digR at h
  split at h
  · cases h; decide
  · split at h
    · cases h; decide
    · split at h
      · cases h; decide
      · cases h
theorem digR_len {m t : Int} {ps : List (List UInt8)} {x : List UInt8} (h : digR m t ps = .ok x) : x.length ≤ 16777300 := by
  unfold digR at h
  split at h
  · cases h
  · split at h
    · cases h
    · split at h
      · cases h
      · rename_i h3
        cases h
        have := digB_length m t.toNat ps
        omega
set_option maxHeartbeats 2000000 in
theorem nodeD_any (m : Int) (m0 : -9223372036854775808 ≤ m) (m1 : m ≤ 9223372036854775807) (a b : List UInt8) (a1 a2 : Option Addr) (n1 k1 n2 k2 : Nat) (w : World) (ha : RowV w (.slice a1 n1 k1) a) (hb : RowV w (.slice a2 n2 k2) b) (h1 : a.length ≤ 140737488351232) (h2 : b.length ≤ 140737488351232) (hT : KW w) :
    Calls Tryd.prog 30 #[.int .i64 m, .slice a1 n1 k1, .slice a2 n2 k2] w (DigPost (digR m 2 [a, b]) w) := by
  have cD := fun ap W h hk => Digest_any m 2 [a, b] ap 2 W m0 m1 (by decide) (by decide) (by simp) (fun l hl => by simp at hl; rcases hl with rfl | rfl <;> omega) h hk
  rw [show [a, b].length = 2 from rfl] at cD
  generalize digR m 2 [a, b] = D at *
  have hlin := fun T => lines_two w _ _ T _ _ ha hb
  have hba : ∀ o, Below w.heap.size w (w.alloc o) := fun o => (Below.refl _ _).alloc (Nat.le_refl _) o
  clear ha hb h1 h2
  cases D with
  | err c =>
    go_enter Tryd.func30, Tryd.ntmps30
    go_wp2_with fail
    refine (cD _ _ (hlin _) (hT.keep (hba _) (Nat.le_refl _))).mono ?_
    rintro e w1 ⟨rfl, hb1⟩
    have hbb := below_step (hba _) (hba _).size hb1
    clear cD hlin hba
    go_wp2_with fail
    go_ret2
    exact ⟨rfl, hbb⟩
  | ok x =>
    go_enter Tryd.func30, Tryd.ntmps30
    go_wp2_with fail
    refine (cD _ _ (hlin _) (hT.keep (hba _) (Nat.le_refl _))).mono ?_
    rintro e w1 ⟨v, rfl, hr, hb1⟩
    have hbb := below_step (hba _) (hba _).size hb1
    clear cD hlin hba
    go_wp2_with fail
    go_ret2
    exact ⟨_, rfl, hr, hbb⟩
/-- What a path leads to. -/
def climbR (m : Int) (p : Nat) : Nat → List UInt8 → List (List UInt8) → DR
  | _, top, [] => .ok top
  | t, top, b :: r => match digR m 2 (if (p / 2 ^ t) % 2 = 1 then [b, top] else [top, b]) with
    | .err c => .err c
    | .ok x => climbR m p (t + 1) x r
theorem climbR_err {m : Int} {p t : Nat} {top b : List UInt8} {r : List (List UInt8)} {c : Int} (h : digR m 2 (if (p / 2 ^ t) % 2 = 1 then [b, top] else [top, b]) = .err c) : climbR m p t top (b :: r) = .err c := by
  simp only [climbR, h]
theorem climbR_ok {m : Int} {p t : Nat} {top b x : List UInt8} {r : List (List UInt8)} (h : digR m 2 (if (p / 2 ^ t) % 2 = 1 then [b, top] else [top, b]) = .ok x) : climbR m p t top (b :: r) = climbR m p (t + 1) x r := by
  simp only [climbR, h]
end Go.Proofs.YtcnemacakjemjaaDoor
