/-
  CONTRACT of the reference's big of any size.
  CONDITIONS: each theorem's own hypotheses.
-/
import Derived.Test.YtmldhnghfdhjmaaDoorStrA
namespace Go.Proofs.YtmldhnghfdhjmaaDoor
open Go.RowKit CodeMath
set_option linter.unusedVariables false

set_option maxRecDepth 100000 in
set_option maxHeartbeats 1000000 in
theorem big_k (n : Int) (k : Nat) (kI : Int) (hkI : kI = k) (w : World) (h0 : 0 ≤ n) (h1 : n ≤ 18446744073709551615) (hk : k ≤ 8) :
    Calls Tryd.prog 35 #[.int .u64 n, .int .i64 kI] w fun e w' => e = .returned (.string (str (be n k))) ∧ Below w.heap.size w w' := by
  subst hkI
  go_enter Tryd.func35, Tryd.ntmps35
  go_wp2
  go_loopw [0, 5, 7] (fun x s i wr => ∃ (t : Nat) (q : Int), t ≤ k ∧ i = .int .i64 t ∧ Hid (q = n / 256 ^ t) ∧ x = .int .u64 q ∧ s = .string (str (be n t)) ∧ Below w.heap.size w wr) (fun _ _ i _ => k - (intOf i).toNat)
  case atStart => exact ⟨0, n, Nat.zero_le _, rfl, Lib.hid (by simp), rfl, rfl, Below.refl _ _⟩
  case round =>
    obtain ⟨t, q, ht, rfl, hq, rfl, rfl, hbw⟩ := hrel
    have hr := div_range n t h0 h1
    rw [← hq.out] at hr
    have q0 := hr.1
    have q1 := hr.2
    by_cases h8 : t < k
    · obtain ⟨S, hS⟩ : ∃ S, str (be n t) = S := ⟨_, rfl⟩
      rw [hS]
      have hcv := conv1 wr q
      have happ : str [lowB q] ++ S = str (be n (t + 1)) := by
        rw [← hS, hq.out]; exact str1_append _ _
      have hsz : ¬ 9223372036854775807 < (str [lowB q]).size + S.size := by rw [← hS, str_size, str_size, be_length]; simp; omega
      obtain ⟨B, hB⟩ : ∃ B, str [lowB q] = B := ⟨_, rfl⟩
      obtain ⟨S2, hS2⟩ : ∃ S2, str (be n (t + 1)) = S2 := ⟨_, rfl⟩
      rw [hB] at hcv happ hsz
      rw [hS2] at happ
      have HS2 := Lib.hid hS2
      have hq2 : Hid (q / 256 = n / 256 ^ (t + 1)) := by have := hq.out; show q / 256 = _; rw [this, div256]
      have tI : (t : Int) < k := by omega
      clear hS hB hS2
      go_wp2
      go_roundw
      case rel => exact ⟨t + 1, q / 256, by omega, by go_num, hq2, rfl, by rw [HS2.out], hbw.alloc hbw.size _⟩
      case measure => simp [intOf]; omega
    · have ht8 : t = k := by omega
      have tI : ¬ ((t : Int) < k) := by omega
      have HT := Lib.hid ht8
      clear ht8 h8 hq hr
      go_wp2
      go_ret
      exact ⟨by rw [HT.out]; rfl, hbw⟩
end Go.Proofs.YtmldhnghfdhjmaaDoor
