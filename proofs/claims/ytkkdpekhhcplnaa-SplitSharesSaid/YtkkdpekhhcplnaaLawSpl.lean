/-
  THE WALKS of the laws 'chirographlaw.SplitShares' and 'chirographkeep.SharesEven'.
  CONDITIONS: each theorem's own hypotheses.
-/
import Derived.Test.YtkkdpekhhcplnaaSplA
namespace Go.Proofs.Ytkkdpekhhcplnaa
open Go.RowKit
set_option linter.unusedVariables false
set_option maxRecDepth 100000
theorem sameInts_nil (w : World) : Calls Try.prog 7 #[.slice none 0 0, .slice none 0 0] w fun e w' => e = .returned (.bool true) ∧ w' = w := by
  go_enter Try.func7, Try.ntmps7
  go_wp2_with fail
  go_loopw [13] (fun ix wr => ix = .int .i64 0 ∧ wr = w) (fun _ _ => 0)
  case atStart => exact ⟨rfl, rfl⟩
  case round =>
    obtain ⟨rfl, rfl⟩ := hrel
    go_wp2
    go_ret
    exact ⟨rfl, rfl⟩
set_option maxHeartbeats 4000000 in
theorem sameInts_any (g g2 N c1 c2 : Nat) (w : World) (hc : ∀ j, j < N → ∃ x : Int, w.cell? ⟨g, j, none⟩ = some (.int .i64 x) ∧ w.cell? ⟨g2, j, none⟩ = some (.int .i64 x)) (hN : N ≤ 9) (h1 : N ≤ c1) (h2 : N ≤ c2) (m1 : c1 ≤ 9223372036854775807) (m2 : c2 ≤ 9223372036854775807) :
    Calls Try.prog 7 #[.slice (some ⟨g, 0, none⟩) N c1, .slice (some ⟨g2, 0, none⟩) N c2] w fun e w' => e = .returned (.bool true) ∧ Below w.heap.size w w' := by
  have HC := Lib.hid hc
  clear hc
  go_enter Try.func7, Try.ntmps7
  go_wp2_with fail
  go_loopw [13] (fun ix wr => ∃ (j : Nat), j ≤ N ∧ ix = .int .i64 j ∧ Hid (Below w.heap.size w wr ∧ ∀ j, j < N → ∃ x : Int, wr.cell? ⟨g, j, none⟩ = some (.int .i64 x) ∧ wr.cell? ⟨g2, j, none⟩ = some (.int .i64 x))) (fun ix _ => N - (intOf ix).toNat)
  case atStart => exact ⟨0, Nat.zero_le _, rfl, Lib.hid ⟨Below.refl _ _, HC.out⟩⟩
  case round =>
    obtain ⟨j, hj, rfl, hS⟩ := hrel
    by_cases hlt : j < N
    · have iI : (j : Int) < (N : Int) := by omega
      have i0 : (0 : Int) ≤ (j : Int) := by omega
      obtain ⟨x, d1, d2⟩ := hS.out.2 j hlt
      go_upto_region 6 with fail
      go_quiet (fail)
      have hN2 := Lib.hid (And.intro (below_drewN hS.out.1 nq) (show ∀ j, j < N → ∃ x : Int, (wr.drewN nq).cell? ⟨g, j, none⟩ = some (.int .i64 x) ∧ (wr.drewN nq).cell? ⟨g2, j, none⟩ = some (.int .i64 x) from hS.out.2))
      clear d1 d2
      go_wp2_with fail
      go_roundw
      case rel => exact ⟨j + 1, by omega, by go_num, hN2⟩
      case measure => simp [intOf]; omega
    · have iI : ¬ (j : Int) < (N : Int) := by omega
      go_wp2
      go_ret
      exact ⟨rfl, hS.out.1⟩
--CUT3
set_option maxHeartbeats 8000000 in
theorem splitShares_walk (n k : Int) (w : World) (_ : -9223372036854775808 ≤ n) (_ : n ≤ 9223372036854775807) (_ : -9223372036854775808 ≤ k) (_ : k ≤ 9223372036854775807) : Calls Try.prog 3 #[.int .i64 n, .int .i64 k] w fun e w' => e = .returned (.bool true) ∧ Below w.heap.size w w' := by
  by_cases hs : n < 0 ∨ 64 < n
  · have c1 := fun W => share_size n k hs W
    have c2 := fun W => ref_size n k hs W
    clear hs
    go_enter Try.func3, Try.ntmps3
    go_wp2_with fail
    refine (c1 _).mono ?_
    rintro e w2 ⟨rfl, rfl⟩
    go_wp2_with fail
    refine (c2 _).mono ?_
    rintro e w2 ⟨rfl, rfl⟩
    clear c1 c2
    go_upto_region 3 with fail
    go_wp2_with (go_at_call 7; refine (sameInts_nil _).mono ?_; rintro e w4 ⟨rfl, rfl⟩)
    go_ret
    exact ⟨rfl, Below.refl _ _⟩
  · by_cases hk : 1 ≤ k ∧ k ≤ 8
    · obtain ⟨N, rfl⟩ : ∃ N : Nat, n = N := ⟨n.toNat, by omega⟩
      obtain ⟨K, rfl⟩ : ∃ K : Nat, k = K := ⟨k.toNat, by omega⟩
      have c1 := fun W => share_ok N K (by omega) (by omega) (by omega) W
      have c2 := fun W => ref_ok N K (by omega) (by omega) (by omega) W
      have hK : K ≤ 8 := by omega
      clear hs hk
      go_enter Try.func3, Try.ntmps3
      go_wp2_with fail
      refine (c1 _).mono ?_
      rintro e w1 ⟨g, rfl, z1, b1⟩
      go_wp2_with fail
      refine (c2 _).mono ?_
      rintro e w2 ⟨v, rfl, o2, b2⟩
      have z2 := z1.call b2
      obtain ⟨ao, c, rfl, hc1, hc2, h0, ha⟩ := owns_shape o2
      rw [shL_len] at hc1 h0 o2 ⊢
      cases ao with
      | none => exact absurd (h0 rfl) (by omega)
      | some a =>
        obtain ⟨g2, rfl⟩ := ha a rfl
        have hcs : ∀ j, j < K + 1 → ∃ x : Int, w2.cell? ⟨g, j, none⟩ = some (.int .i64 x) ∧ w2.cell? ⟨g2, j, none⟩ = some (.int .i64 x) := fun j hj => by
          have h1 := shL_at N K (K + 1) j hj
          refine ⟨_, z2.cell (intsV_at _ _ _ h1), ?_⟩
          have := World.ownsRow.cells o2 (g := g2) rfl j _ (intsV_at _ _ _ h1)
          rw [addr_addT, Nat.zero_add] at this
          exact this
        have c3 := sameInts_any g g2 (K + 1) (K + 1) c w2 hcs (by omega) (Nat.le_refl _) hc1 (by omega) hc2
        clear c1 c2 z1 z2 o2 hcs h0 ha
        have hb2 := below_stepE b1 b1.size b2
        go_upto_region 3 with fail
        go_wp2_with (go_at_call 7; refine c3.mono ?_; rintro e w3 ⟨rfl, b3⟩)
        go_ret
        exact ⟨rfl, below_stepE hb2 hb2.size b3⟩
    · have c1 := fun W => share_range n k (by omega) (by omega) hk W
      have c2 := fun W => ref_range n k (by omega) (by omega) hk W
      clear hs hk
      go_enter Try.func3, Try.ntmps3
      go_wp2_with fail
      refine (c1 _).mono ?_
      rintro e w2 ⟨rfl, rfl⟩
      go_wp2_with fail
      refine (c2 _).mono ?_
      rintro e w2 ⟨rfl, rfl⟩
      clear c1 c2
      go_upto_region 3 with fail
      go_wp2_with (go_at_call 7; refine (sameInts_nil _).mono ?_; rintro e w4 ⟨rfl, rfl⟩)
      go_ret
      exact ⟨rfl, Below.refl _ _⟩
end Go.Proofs.Ytkkdpekhhcplnaa
