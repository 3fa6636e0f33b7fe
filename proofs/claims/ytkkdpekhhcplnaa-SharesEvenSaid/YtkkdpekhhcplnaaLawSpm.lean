/-
  THE WALK of the law 'chirographkeep.SharesEven'.
  CONDITIONS: each theorem's own hypotheses.
-/
import Derived.Test.YtkkdpekhhcplnaaSplA
namespace Go.Proofs.Ytkkdpekhhcplnaa
open Go.RowKit
set_option linter.unusedVariables false
set_option maxRecDepth 100000
theorem riP {k : IntKind} {a b : Int} (h : a = b) : Ending.returned (.int k a) = .returned (.int k b) := by rw [h]
theorem tmod_split (n m : Int) (hm : 0 < m) : (0 ≤ n.tmod m ∧ n.tmod m = n % m) ∨ (n.tmod m < 0 ∧ n.tmod m + m = n % m) := by
  have h1 := Int.emod_nonneg n (show m ≠ 0 by omega)
  have h2 := Int.emod_lt_of_pos n hm
  by_cases hn : 0 ≤ n
  · left; rw [Int.tmod_eq_emod_of_nonneg hn]; exact ⟨h1, rfl⟩
  · by_cases hd : m ∣ n
    · left
      rw [Int.tmod_eq_emod, if_pos (Or.inr hd), Int.emod_eq_zero_of_dvd hd]; simp
    · right
      have h3 : n % m ≠ 0 := fun h => hd (Int.dvd_of_emod_eq_zero h)
      have h4 : ¬ (0 ≤ n ∨ m ∣ n) := fun h => by cases h <;> contradiction
      rw [Int.tmod_eq_emod, if_neg h4]
      omega

theorem picked_any (n m : Int) (w : World) (hm : 0 < m) (hm1 : m ≤ 4611686018427387904) (hn : -9223372036854775808 ≤ n) (hn1 : n ≤ 9223372036854775807) :
    Calls Try.prog 8 #[.int .i64 n, .int .i64 m] w fun e w' => e = .returned (.int .i64 (n % m)) ∧ w = w' := by
  have h1 := Int.emod_nonneg n (show m ≠ 0 by omega)
  have h2 := Int.emod_lt_of_pos n hm
  have hs := tmod_split n m hm
  generalize hr : n % m = r at *
  generalize ht : n.tmod m = t at *
  have HT := Lib.hid ht
  clear hr
  rcases hs with ⟨h3, rfl⟩ | ⟨h3, h4⟩
  · go_enter Try.func8, Try.ntmps8
    go_wp2
    go_ret
    exact ⟨rfl, rfl⟩
  · have H := Lib.hid h4
    have h5 : -9223372036854775808 ≤ t + m := by omega
    clear h4
    go_enter Try.func8, Try.ntmps8
    go_wp2
    go_ret
    exact ⟨riP H.out, rfl⟩



theorem sh_zero (n k : Nat) : shI n k 0 = 0 := by simp [shI]
theorem sh_all (n k : Nat) (hk : 1 ≤ k) : shI n k k = n := by
  unfold shI
  have h1 := Nat.div_add_mod n k
  have h2 := Nat.mod_lt n (show 0 < k by omega)
  rw [Nat.min_eq_right (by omega), h1]
theorem sh_even (n k : Nat) (hn : n ≤ 64) (hk : 1 ≤ k) (hk8 : k ≤ 8) : ∃ E F : Nat, (n : Int).tdiv (k : Int) = (E : Int) ∧ ((n : Int) + (k : Int) - 1).tdiv (k : Int) = (F : Int) ∧ E ≤ 64 ∧ F ≤ 100 ∧ ∀ i, i < k → ∃ d : Int, shI n k (i + 1) - shI n k i = d ∧ (E : Int) ≤ d ∧ d ≤ (F : Int) := by
  refine ⟨n / k, (n + k - 1) / k, (Int.ofNat_tdiv n k).symm, ?_, Nat.le_trans (Nat.div_le_self n k) hn, ?_, fun i hi => ⟨_, rfl, ?_⟩⟩
  · have : (n : Int) + (k : Int) - 1 = ((n + k - 1 : Nat) : Int) := by omega
    rw [this]
    exact (Int.ofNat_tdiv _ k).symm
  · exact Nat.le_trans (Nat.div_le_self _ k) (by omega)
  · have h1 := Nat.div_add_mod n k
    have h2 := Nat.mod_lt n (show 0 < k by omega)
    have h3 : n / k ≤ (n + k - 1) / k := Nat.div_le_div_right (by omega)
    have h4 : 0 < n % k → n / k + 1 ≤ (n + k - 1) / k := fun h => by
      rw [Nat.le_div_iff_mul_le (by omega), Nat.add_mul, Nat.mul_comm (n / k)]
      omega
    unfold shI
    rw [Nat.add_mul, Nat.one_mul]
    generalize n / k = E at *
    generalize n % k = M at *
    generalize (n + k - 1) / k = F at *
    generalize i * E = z at *
    omega
set_option maxHeartbeats 8000000 in
theorem sharesEven_walk (n k : Int) (w : World) (hn0 : -9223372036854775808 ≤ n) (hn1 : n ≤ 9223372036854775807) (hk0 : -9223372036854775808 ≤ k) (hk1 : k ≤ 9223372036854775807) : Calls Try.prog 4 #[.int .i64 n, .int .i64 k] w fun e w' => e = .returned (.bool true) ∧ Below w.heap.size w w' := by
  have cp1 := fun W => picked_any n 65 W (by decide) (by decide) hn0 hn1
  have cp2 := fun W => picked_any k 8 W (by decide) (by decide) hk0 hk1
  obtain ⟨N, hN⟩ : ∃ N : Nat, n % 65 = N := ⟨(n % 65).toNat, by omega⟩
  obtain ⟨K, hK⟩ : ∃ K : Nat, k % 8 = K := ⟨(k % 8).toNat, by omega⟩
  rw [hN] at cp1
  rw [hK] at cp2
  have hN64 : N ≤ 64 := by omega
  have hK7 : K ≤ 7 := by omega
  clear hN hK
  obtain ⟨K1, hK1⟩ : ∃ x, K + 1 = x := ⟨_, rfl⟩
  have cS := fun W => share_ok N K1 hN64 (by omega) (by omega) W
  obtain ⟨E, F, e1, e2, hE, hF, hd⟩ := sh_even N K1 hN64 (by omega) (by omega)
  have eK : (1 : Int) + (K : Int) = (K1 : Int) := by omega
  have s0 := sh_zero N K1
  have sK := sh_all N K1 (by omega)
  have kk : ¬ (K1 : Int) = 0 := by omega
  have kk2 : ¬ K1 = 0 := by omega
  have k18 : K1 ≤ 8 := by omega
  have HD := Lib.hid hd
  have HS0 := Lib.hid s0
  have HSK := Lib.hid sK
  have HE2 := Lib.hid e2
  clear hK1 hd s0 sK hn0 hn1 hk0 hk1
  go_enter Try.func4, Try.ntmps4
  go_wp2_with fail
  refine (cp1 _).mono ?_
  rintro e w1 ⟨rfl, rfl⟩
  go_wp2_with fail
  refine (cp2 _).mono ?_
  rintro e w1 ⟨rfl, rfl⟩
  go_wp2_with fail
  refine (cS _).mono ?_
  rintro e w1 ⟨g, rfl, z1, b1⟩
  clear cp1 cp2 cS
  have q0 := z1.cell (intsV_at _ 0 _ (shL_at N K1 (K1 + 1) 0 (by omega)))
  have qK := z1.cell (intsV_at _ K1 _ (shL_at N K1 (K1 + 1) K1 (by omega)))
  rw [HS0.out] at q0
  rw [HSK.out] at qK
  have HCS : Hid (∀ i, i < K1 + 1 → w1.cell? ⟨g, i, none⟩ = some (.int .i64 (shI N K1 i))) := Lib.hid (fun i hi => z1.cell (intsV_at _ i _ (shL_at N K1 (K1 + 1) i hi)))
  have HSB : Hid (∀ i, i < K1 → (-9223372036854775808 ≤ shI N K1 i ∧ shI N K1 i ≤ 9223372036854775807)) := Lib.hid (fun i hi => by
    unfold shI
    have h1 := Nat.div_le_self N K1
    have h2 : i * (N / K1) ≤ 8 * 64 := Nat.mul_le_mul (by omega) (by omega)
    generalize i * (N / K1) = z at *
    constructor <;> omega)
  clear z1
  have c1 : (K1 : Int) < (K1 : Int) + 1 := by omega
  have c0 : (0 : Int) < (K1 : Int) + 1 := by omega
  go_upto_region 4 with fail
  clear q0 qK
  go_loopw [46] (fun ix wr => ∃ (j : Nat), j ≤ K1 ∧ ix = .int .i64 j ∧ Hid (Below w.heap.size w wr ∧ ∀ i, i < K1 + 1 → wr.cell? ⟨g, i, none⟩ = some (.int .i64 (shI N K1 i)))) (fun ix _ => K1 - (intOf ix).toNat)
  case atStart => exact ⟨0, Nat.zero_le _, rfl, Lib.hid ⟨b1, HCS.out⟩⟩
  case round =>
    obtain ⟨j, hj, rfl, hS⟩ := hrel
    by_cases hlt : j < K1
    · have iI : (j : Int) < (K1 : Int) := by omega
      have i0 : (0 : Int) ≤ (j : Int) := by omega
      have i1 : (0 : Int) ≤ (j : Int) + 1 := by omega
      have i2 : (j : Int) < (K1 : Int) + 1 := by omega
      have i3 : (j : Int) + 1 < (K1 : Int) + 1 := by omega
      have i4 : j + 1 < K1 + 1 := by omega
      obtain ⟨d, hd, hd1, hd2⟩ := HD.out j hlt
      have d1 := hS.out.2 j (by omega)
      have d2 := hS.out.2 (j + 1) (by omega)
      obtain ⟨a, ha⟩ : ∃ a, shI N K1 j = a := ⟨_, rfl⟩
      obtain ⟨b, hb⟩ : ∃ b, shI N K1 (j + 1) = b := ⟨_, rfl⟩
      rw [ha] at d1 hd
      rw [hb] at d2 hd
      have wd : IntKind.i64.wrap (b - a) = d := by rw [hd]; exact wrap_i _ (by omega) (by omega)
      have HDD := Lib.hid hd
      clear ha hb hd
      go_upto_region 8 with fail
      go_quiet (fail)
      have hN2 := Lib.hid (And.intro (below_drewN hS.out.1 nq) (show ∀ i, i < K1 + 1 → (wr.drewN nq).cell? ⟨g, i, none⟩ = some (.int .i64 (shI N K1 i)) from hS.out.2))
      clear d1 d2
      have e3 := HE2.out
      have l1 : ¬ d < (E : Int) := by omega
      have l2 : ¬ (F : Int) < d := by omega
      trace_state
      go_wp2_with fail
      go_roundw
      case rel => exact ⟨j + 1, by omega, by go_num, hN2⟩
      case measure => simp [intOf]; omega
    · have iI : ¬ (j : Int) < (K1 : Int) := by omega
      go_wp2
      go_ret
      exact ⟨rfl, hS.out.1⟩
end Go.Proofs.Ytkkdpekhhcplnaa
