/-
  CONTRACT of the reference's Checked (CRC-32C).
  CONDITIONS: the theorem's own hypotheses.
-/
import Derived.Test.YtpnomfdcbmamoaaStrA
import Derived.Test.YtpnomfdcbmamoaaCrcMath
namespace Go.Proofs.Ytpnomfdcbmamoaa
open Go.RowKit CodeMath
set_option linter.unusedVariables false

theorem ri {k : IntKind} {a b : Int} (h : a = b) : Ending.returned (.int k a) = .returned (.int k b) := by rw [h]
theorem crc_bits (M c t : Nat) (hM : M < 4294967296) (hc : c < 256) :
    bits .xor .u32 ((M : Int) / 2) (bits .and .u32 (bits .xor .u32 (M : Int) ((c : Int) / 2 ^ t)) 1 * 2197175160 % 4294967296) = (((M >>> 1) ^^^ ((M ^^^ (c >>> t)) % 2 * CrcMath.poly) : Nat) : Int) := by
  have e1 : ((c : Int) / 2 ^ t) = ((c >>> t : Nat) : Int) := by rw [Nat.shiftRight_eq_div_pow]; simp
  have hct : c >>> t < 4294967296 := by rw [Nat.shiftRight_eq_div_pow]; exact Nat.lt_of_le_of_lt (Nat.div_le_self _ _) (by omega)
  have hx : M ^^^ (c >>> t) < 4294967296 := Nat.xor_lt_two_pow (n := 32) hM hct
  have e2 : (M : Int) / (2 : Int) = ((M >>> 1 : Nat) : Int) := by rw [Nat.shiftRight_eq_div_pow]; simp
  have hM1 : M >>> 1 < 4294967296 := by rw [Nat.shiftRight_eq_div_pow]; omega
  have h2 := Nat.mod_two_eq_zero_or_one (M ^^^ (c >>> t))
  have e3 : (((M ^^^ (c >>> t)) % 2 : Nat) : Int) * 2197175160 % 4294967296 = (((M ^^^ (c >>> t)) % 2 * CrcMath.poly : Nat) : Int) := by
    rcases h2 with h | h <;> rw [h] <;> decide
  have hp : (M ^^^ (c >>> t)) % 2 * CrcMath.poly < 4294967296 := by
    rcases h2 with h | h <;> rw [h] <;> decide
  rw [e2, e1, u32_xor_nat _ _ hM hct, show (1 : Int) = ((1 : Nat) : Int) from rfl, u32_and_nat _ _ hx (by decide), Nat.and_one_is_mod, e3, u32_xor_nat _ _ hM1 hp]
theorem crc_next (M c t : Nat) : ((M >>> 1) ^^^ ((M ^^^ (c >>> t)) % 2 * CrcMath.poly)) ^^^ (c >>> (t + 1)) = CrcMath.Z (M ^^^ (c >>> t)) := by
  unfold CrcMath.Z
  rw [Nat.shiftRight_xor_distrib, ← Nat.shiftRight_add, Nat.xor_assoc, Nat.xor_comm _ (c >>> (t + 1)), ← Nat.xor_assoc]
set_option maxRecDepth 100000 in
set_option maxHeartbeats 2000000 in
theorem checked_some (l : List UInt8) (a o cap : Nat) (w : World) (hl : l.length ≤ 9223372036854775807) (ha : a < w.heap.size) (hc : ∀ j x, l[j]? = some x → w.cell? ⟨a, o + j, none⟩ = some (.int .u8 x.toNat)) :
    Calls Try.prog 7 #[.slice (some ⟨a, o, none⟩) l.length cap] w fun e w' => e = .returned (.int .u32 (CrcMath.crc l : Nat)) ∧ w = w' := by
  obtain ⟨n, hn⟩ : ∃ n, l.length = n := ⟨_, rfl⟩
  rw [hn] at hl ⊢
  have HN := Lib.hid hn
  have HC := Lib.hid hc
  clear hn hc
  go_enter Try.func7, Try.ntmps7
  go_wp2
  go_loopw [3, 10] (fun x i wr => ∃ (j L : Nat), j ≤ n ∧ i = .int .i64 j ∧ x = .int .u32 L ∧ L < 4294967296 ∧ Hid (L = CrcMath.crcL CrcMath.ones (l.take j)) ∧ wr = w) (fun _ i _ => n - (intOf i).toNat)
  case atStart => exact ⟨0, 4294967295, Nat.zero_le _, rfl, rfl, by decide, Lib.hid rfl, rfl⟩
  case round =>
    obtain ⟨j, L, hj, rfl, rfl, hL, hLj, rfl⟩ := hrel
    by_cases h1 : j < n
    · have hlt : j < l.length := by rw [HN.out]; exact h1
      obtain ⟨c, hv⟩ : ∃ c, l[j]? = some c := ⟨l[j], List.getElem?_eq_getElem hlt⟩
      have hcj := HC.out j c hv
      have hc8 := c.toNat_lt
      go_wp2
      go_loopw [3, 6] (fun x i w2 => ∃ (t M : Nat), t ≤ 8 ∧ i = .int .i64 t ∧ x = .int .u32 M ∧ M < 4294967296 ∧ Hid (M ^^^ (c.toNat >>> t) = CrcMath.Zn t (L ^^^ c.toNat)) ∧ w2 = wr) (fun _ i _ => 8 - (intOf i).toNat)
      case atStart => exact ⟨0, L, Nat.zero_le _, rfl, rfl, hL, Lib.hid rfl, rfl⟩
      case round =>
        obtain ⟨t, M, ht, rfl, rfl, hM, hMt, rfl⟩ := hrel
        by_cases h8 : t < 8
        · have hb := crc_bits M c.toNat t hM hc8
          have hn := crc_next M c.toNat t
          have hlt2 : (M >>> 1) ^^^ ((M ^^^ (c.toNat >>> t)) % 2 * CrcMath.poly) < 4294967296 := CrcMath.step_lt M _ hM
          have hM2 := hMt.out
          generalize (M >>> 1) ^^^ ((M ^^^ (c.toNat >>> t)) % 2 * CrcMath.poly) = M2 at hb hn hlt2
          rw [hM2, ← CrcMath.Zn_succ] at hn
          have hn := Lib.hid hn
          go_wp2
          go_roundw
          case rel => exact ⟨t + 1, M2, by omega, by go_num, rfl, hlt2, hn, trivial⟩
          case measure => simp [intOf]; omega
        · have ht8 : t = 8 := by omega
          subst ht8
          have hM2 := hMt.out
          have h0 : c.toNat >>> 8 = 0 := by rw [Nat.shiftRight_eq_div_pow]; omega
          rw [h0, Nat.xor_zero] at hM2
          have hnext : Hid (M = CrcMath.crcL CrcMath.ones (l.take (j + 1))) := by
            show M = _
            rw [List.take_succ_eq_append_getElem hlt, CrcMath.crcL_append, ← hLj.out]
            have ev : l[j] = c := by rw [List.getElem?_eq_getElem hlt] at hv; exact Option.some.inj hv
            rw [ev, hM2]; rfl
          go_wp2
          go_roundw
          case rel => exact ⟨j + 1, M, by omega, by go_num, rfl, hM, hnext, trivial⟩
          case measure => simp [intOf]; omega
    · have hjn : j = n := by omega
      have hLL := hLj.out
      rw [List.take_of_length_le (by rw [HN.out]; omega)] at hLL
      have hf : bits .xor .u32 (L : Int) 4294967295 = ((CrcMath.crc l : Nat) : Int) := by
        rw [show (4294967295 : Int) = ((4294967295 : Nat) : Int) from rfl, u32_xor_nat _ _ hL (by decide), hLL]; rfl
      clear hLL
      go_wp2
      go_ret
      exact ⟨rfl, rfl⟩
theorem checked_any (l : List UInt8) (ao : Option Addr) (cap : Nat) (w : World) (hl : l.length ≤ 9223372036854775807) (h : Bytes w ao l) :
    Calls Try.prog 7 #[.slice ao l.length cap] w fun e w' => e = .returned (.int .u32 (CrcMath.crc l : Nat)) ∧ w = w' := by
  rcases h with rfl | ⟨a, o, rfl, ha, hc⟩
  · have hf : bits .xor .u32 (4294967295 : Int) 4294967295 = ((CrcMath.crc [] : Nat) : Int) := by decide
    go_enter Try.func7, Try.ntmps7
    go_wp2
    refine wp_loop_rounds 1 ?_
    rw [rounds_succ]
    go_wp2
    go_ret
    exact ⟨rfl, rfl⟩
  · exact checked_some l a o cap w hl ha hc
end Go.Proofs.Ytpnomfdcbmamoaa
