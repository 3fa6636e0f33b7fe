/-
  CONTRACTS of package sum's CRC: divide, Crc; and that its sums of two single bytes differ.
  CONDITIONS: each theorem's own hypotheses.
-/
import Derived.Test.YtjllecmlabodaaaDoorCrcA
namespace Go.Proofs.YtjllecmlabodaaaDoor
open Go.RowKit CodeMath
set_option linter.unusedVariables false

theorem divide_bits (c : Nat) (h : c < 4294967296) :
    (bits .and .u32 (c : Int) 1 = ((c % 2 : Nat) : Int)) ∧ ((c : Int) / (2 : Int) = ((c >>> 1 : Nat) : Int)) ∧ (c % 2 = 0 → CrcMath.Z c = c >>> 1) ∧ (c % 2 = 1 → bits .xor .u32 ((c >>> 1 : Nat) : Int) 2197175160 = (CrcMath.Z c : Nat)) := by
  have h1 : c >>> 1 < 4294967296 := by rw [Nat.shiftRight_eq_div_pow]; omega
  refine ⟨?_, ?_, ?_, ?_⟩
  · rw [show (1 : Int) = ((1 : Nat) : Int) from rfl, u32_and_nat _ _ h (by decide), Nat.and_one_is_mod]
  · rw [Nat.shiftRight_eq_div_pow]; simp
  · intro e; unfold CrcMath.Z; rw [e]; simp
  · intro e
    rw [show (2197175160 : Int) = ((2197175160 : Nat) : Int) from rfl, u32_xor_nat _ _ h1 (by decide)]
    unfold CrcMath.Z CrcMath.poly
    rw [e]
set_option maxRecDepth 100000 in
set_option maxHeartbeats 2000000 in
theorem divide_any (c : Nat) (w : World) (h : c < 4294967296) :
    Calls Tryd.prog 46 #[.int .u32 c] w fun e w' => e = .returned (.int .u32 (CrcMath.Zn 8 c : Nat)) ∧ w = w' := by
  go_enter Tryd.func46, Tryd.ntmps46
  go_wp2
  go_loopw [0, 3, 4] (fun x o i wr => ∃ (t M : Nat), t ≤ 8 ∧ i = .int .i64 t ∧ x = .int .u32 M ∧ M < 4294967296 ∧ Hid (M = CrcMath.Zn t c) ∧ wr = w) (fun _ _ i _ => 8 - (intOf i).toNat)
  case atStart => exact ⟨0, c, Nat.zero_le _, rfl, rfl, h, Lib.hid rfl, rfl⟩
  case round =>
    obtain ⟨t, M, ht, rfl, rfl, hM, hMt, rfl⟩ := hrel
    by_cases h8 : t < 8
    · obtain ⟨b1, b2, b3, b4⟩ := divide_bits M hM
      have hz := CrcMath.Z_lt M hM
      have hn : Hid (CrcMath.Z M = CrcMath.Zn (t + 1) c) := by show _ = _; rw [CrcMath.Zn_succ, ← hMt.out]
      rcases Nat.mod_two_eq_zero_or_one M with h2 | h2
      · have e := b3 h2
        rw [h2] at b1
        clear b3 b4 hMt
        rw [← e] at b2
        generalize CrcMath.Z M = M2 at b2 hz hn e
        clear e
        have ht1 : (((0 : Nat) : Int) == 1) = false := by decide
        go_wp2
        go_roundw
        case rel => exact ⟨t + 1, M2, by omega, by go_num, rfl, hz, hn, trivial⟩
        case measure => simp [intOf]; omega
      · have e := b4 h2
        rw [h2] at b1
        clear b3 b4 hMt
        generalize CrcMath.Z M = M2 at hz hn e
        generalize M >>> 1 = Y at b2 e
        have ht1 : (((1 : Nat) : Int) == 1) = true := by decide
        go_wp2
        go_roundw
        case rel => exact ⟨t + 1, M2, by omega, by go_num, rfl, hz, hn, trivial⟩
        case measure => simp [intOf]; omega
    · have ht8 : t = 8 := by omega
      subst ht8
      have hM2 := Lib.hid hMt.out
      go_wp2
      go_ret
      exact ⟨by have := hM2.out; subst this; rfl, rfl⟩
set_option maxRecDepth 100000 in
set_option maxHeartbeats 2000000 in
theorem crc_some (l : List UInt8) (a o cap : Nat) (w : World) (hl : l.length ≤ 9223372036854775807) (ha : a < w.heap.size) (hc : ∀ j x, l[j]? = some x → w.cell? ⟨a, o + j, none⟩ = some (.int .u8 x.toNat)) :
    Calls Tryd.prog 25 #[.slice (some ⟨a, o, none⟩) l.length cap] w fun e w' => e = .returned (.int .u32 (CrcMath.crc l : Nat)) ∧ w = w' := by
  obtain ⟨n, hn⟩ : ∃ n, l.length = n := ⟨_, rfl⟩
  rw [hn] at hl ⊢
  have HN := Lib.hid hn
  have HC := Lib.hid hc
  clear hn hc
  go_enter Tryd.func25, Tryd.ntmps25
  go_wp2
  go_loopw [3, 8] (fun x i wr => ∃ (j L : Nat), j ≤ n ∧ i = .int .i64 j ∧ x = .int .u32 L ∧ L < 4294967296 ∧ Hid (L = CrcMath.crcL CrcMath.ones (l.take j)) ∧ wr = w) (fun _ i _ => n - (intOf i).toNat)
  case atStart => exact ⟨0, 4294967295, Nat.zero_le _, rfl, rfl, by decide, Lib.hid rfl, rfl⟩
  case round =>
    obtain ⟨j, L, hj, rfl, rfl, hL, hLj, rfl⟩ := hrel
    by_cases h1 : j < n
    · have hlt : j < l.length := by rw [HN.out]; exact h1
      obtain ⟨c, hv⟩ : ∃ c, l[j]? = some c := ⟨l[j], List.getElem?_eq_getElem hlt⟩
      have hcj := HC.out j c hv
      have hc8 := c.toNat_lt
      have hcI : (c.toNat : Int) ≤ 255 := by omega
      have hx := u32_xor_nat L c.toNat hL (by omega)
      have hlx : L ^^^ c.toNat < 4294967296 := Nat.xor_lt_two_pow (n := 32) hL (by omega)
      have hdv := divide_any (L ^^^ c.toNat) wr hlx
      have hzl : CrcMath.Zn 8 (L ^^^ c.toNat) < 4294967296 := CrcMath.Zn_lt 8 _ hlx
      have hnext : Hid (CrcMath.Zn 8 (L ^^^ c.toNat) = CrcMath.crcL CrcMath.ones (l.take (j + 1))) := by
        show _ = _
        rw [List.take_succ_eq_append_getElem hlt, CrcMath.crcL_append, ← hLj.out]
        have ev : l[j] = c := by rw [List.getElem?_eq_getElem hlt] at hv; exact Option.some.inj hv
        rw [ev]; rfl
      generalize CrcMath.Zn 8 (L ^^^ c.toNat) = M at hdv hzl hnext
      generalize L ^^^ c.toNat = X at hx hdv hlx
      go_wp2_with (go_at_call 46; refine hdv.mono ?_; rintro e w2 ⟨rfl, rfl⟩)
      go_roundw
      case rel => exact ⟨j + 1, M, by omega, by go_num, rfl, hzl, hnext, trivial⟩
      case measure => simp [intOf]; omega
    · have hjn : j = n := by omega
      have hLL := hLj.out
      rw [List.take_of_length_le (by rw [HN.out]; omega)] at hLL
      have hf : bits .xor .u32 IntKind.u32.max (L : Int) = ((CrcMath.crc l : Nat) : Int) := by
        rw [show IntKind.u32.max = ((4294967295 : Nat) : Int) from rfl, u32_xor_nat _ _ (by decide) hL, Nat.xor_comm, hLL]; rfl
      clear hLL
      go_wp2
      go_ret
      exact ⟨rfl, rfl⟩
theorem crc_any (l : List UInt8) (ao : Option Addr) (cap : Nat) (w : World) (hl : l.length ≤ 9223372036854775807) (h : Bytes w ao l) :
    Calls Tryd.prog 25 #[.slice ao l.length cap] w fun e w' => e = .returned (.int .u32 (CrcMath.crc l : Nat)) ∧ w = w' := by
  rcases h with rfl | ⟨a, o, rfl, ha, hc⟩
  · go_enter Tryd.func25, Tryd.ntmps25
    go_wp2
    refine wp_loop_rounds 1 ?_
    rw [rounds_succ]
    go_wp2
    go_ret
    exact ⟨rfl, rfl⟩
  · exact crc_some l a o cap w hl ha hc
end Go.Proofs.YtjllecmlabodaaaDoor
