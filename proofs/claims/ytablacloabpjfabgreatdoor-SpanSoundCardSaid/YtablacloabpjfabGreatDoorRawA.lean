/-
  CONTRACTS of the helpers of package chirographkeep that make values out of raw things: picked, real, clean.
  CONDITIONS: each theorem's own hypotheses.
-/
import Derived.Test.YtablacloabpjfabGreatDoorValA
import Derived.Laws.RangeString
import Derived.Laws.RangeAny
import Derived.Laws.Runes
import Derived.LoopTactic
import Derived.Outline
import Derived.Lib.ValidLaws
import Derived.Lib.TrimUEq
import Derived.BigQuiet
namespace Go.Proofs.YtablacloabpjfabGreatDoor
open Go.RowKit
set_option linter.unusedVariables false

theorem tmod_split (n m : Int) (hm : 0 < m) : (0 ≤ n.tmod m ∧ n.tmod m = n % m) ∨ (n.tmod m < 0 ∧ n.tmod m + m = n % m) := by
  have h1 := Int.emod_nonneg n (show m ≠ 0 by omega)
  have h2 := Int.emod_lt_of_pos n hm
  by_cases hn : 0 ≤ n
  · left; rw [Int.tmod_eq_emod_of_nonneg hn]; exact ⟨h1, rfl⟩
  · by_cases hd : m ∣ n
    · left
      rw [Int.tmod_eq_emod, if_pos (Or.inr hd), Int.emod_eq_zero_of_dvd hd]; simp
    · right
      have h3 : n % m ≠ 0 := fun h => hd (Int.dvd_of_emod_eq_zero h)
      have h4 : ¬ (0 ≤ n ∨ m ∣ n) := fun h => by cases h <;> contradiction
      rw [Int.tmod_eq_emod, if_neg h4]
      omega

theorem picked_any (n m : Int) (w : World) (hm : 0 < m) (hm1 : m ≤ 4611686018427387904) (hn : -9223372036854775808 ≤ n) (hn1 : n ≤ 9223372036854775807) :
    Calls Tryz.prog 27 #[.int .i64 n, .int .i64 m] w fun e w' => e = .returned (.int .i64 (n % m)) ∧ w = w' := by
  have h1 := Int.emod_nonneg n (show m ≠ 0 by omega)
  have h2 := Int.emod_lt_of_pos n hm
  have hs := tmod_split n m hm
  generalize hr : n % m = r at *
  generalize ht : n.tmod m = t at *
  have HT := Lib.hid ht
  clear hr
  rcases hs with ⟨h3, rfl⟩ | ⟨h3, h4⟩
  · go_enter Tryz.func27, Tryz.ntmps27
    go_wp2
    go_ret
    exact ⟨rfl, rfl⟩
  · have H := Lib.hid h4
    have h5 : -9223372036854775808 ≤ t + m := by omega
    clear h4
    go_enter Tryz.func27, Tryz.ntmps27
    go_wp2
    go_ret
    exact ⟨ri H.out, rfl⟩


/-- Bits of a number that may be. -/
def RealOk (w : World) (e : Ending) (w' : World) : Prop := ∃ r : Int, e = .returned (.int .u64 r) ∧ w = w' ∧ 0 ≤ r ∧ r ≤ 18446744073709551615 ∧ nan r = false ∧ (r == 9223372036854775808) = false

theorem exp_ok (r : Int) (h0 : 0 ≤ r) (h1 : r ≤ 18446744073709551615) (h : ¬ r / 4503599627370496 % 2048 = 2047) : nan r = false := by
  unfold nan
  exact decide_eq_false (by omega)
theorem nan_zero : nan 0 = false := by decide
theorem and_2047 (X : Int) (h0 : 0 ≤ X) (h1 : X ≤ 18446744073709551615) : bits .and .u64 (X / 4503599627370496) 2047 = X / 4503599627370496 % 2048 := by
  rw [u64_and _ _ (by omega) (by omega) (by decide) (by decide), show (2047 : Int).toNat = 2 ^ 11 - 1 from rfl, Nat.and_two_pow_sub_one_eq_mod]
  omega
theorem xor_range (a b : Int) (h0 : 0 ≤ a) (h1 : a ≤ 18446744073709551615) (h2 : 0 ≤ b) (h3 : b ≤ 18446744073709551615) : 0 ≤ bits .xor .u64 a b ∧ bits .xor .u64 a b ≤ 18446744073709551615 := by
  rw [u64_xor _ _ h0 (by omega) h2 (by omega)]
  have := Nat.xor_lt_two_pow (x := a.toNat) (y := b.toNat) (n := 64) (by omega) (by omega)
  have e : (2 : Nat) ^ 64 = 18446744073709551616 := by decide
  omega
theorem xor_62 (X : Int) (h0 : 0 ≤ X) (h1 : X ≤ 18446744073709551615) (h : X / 4503599627370496 % 2048 = 2047) : ¬ bits .xor .u64 X 4611686018427387904 / 4503599627370496 % 2048 = 2047 := by
  rw [u64_xor _ _ h0 (by omega) (by decide) (by decide), show (4611686018427387904 : Int).toNat = 2 ^ 62 from rfl]
  have hb : (X.toNat ^^^ 2 ^ 62).testBit 62 = false := by
    rw [Nat.testBit_xor, Nat.testBit_two_pow_self]
    have : X.toNat.testBit 62 = true := by
      rw [Nat.testBit_eq_decide_div_mod_eq]
      have e : (2 : Nat) ^ 62 = 4611686018427387904 := by decide
      rw [e]
      exact decide_eq_true (by omega)
    rw [this]; rfl
  rw [Nat.testBit_eq_decide_div_mod_eq] at hb
  have hb' := of_decide_eq_false hb
  have e : (2 : Nat) ^ 62 = 4611686018427387904 := by decide
  rw [e] at hb' ⊢
  omega

theorem real_any (a b : Int) (w : World) : Calls Tryz.prog 50 #[.int .i64 a, .int .i64 b] w (RealOk w) := by
  have r1 : 0 ≤ IntKind.u64.wrap (IntKind.u64.wrap a * 1099511627776) ∧ IntKind.u64.wrap (IntKind.u64.wrap a * 1099511627776) ≤ 18446744073709551615 := by
    show 0 ≤ (IntKind.u64.wrap a * 1099511627776) % 18446744073709551616 ∧ (IntKind.u64.wrap a * 1099511627776) % 18446744073709551616 ≤ 18446744073709551615; omega
  have r2 : 0 ≤ IntKind.u64.wrap b ∧ IntKind.u64.wrap b ≤ 18446744073709551615 := by
    show 0 ≤ b % 18446744073709551616 ∧ b % 18446744073709551616 ≤ 18446744073709551615; omega
  have rX := xor_range _ _ r1.1 r1.2 r2.1 r2.2
  obtain ⟨X, hX⟩ : ∃ X, bits .xor .u64 (IntKind.u64.wrap (IntKind.u64.wrap a * 1099511627776)) (IntKind.u64.wrap b) = X := ⟨_, rfl⟩
  rw [hX] at rX
  have eA := and_2047 X rX.1 rX.2
  obtain ⟨rX0, rX1⟩ := rX
  clear r1 r2
  by_cases hE : X / 4503599627370496 % 2048 = 2047
  · have h62 := xor_62 X rX0 rX1 hE
    have rY := xor_range X 4611686018427387904 rX0 rX1 (by decide) (by decide)
    obtain ⟨Y, hY⟩ : ∃ Y, bits .xor .u64 X 4611686018427387904 = Y := ⟨_, rfl⟩
    rw [hY] at rY h62
    have tE : (bits .and .u64 (X / 4503599627370496) 2047 == 2047) = true := by rw [eA, hE]; rfl
    have H62 := Lib.hid h62
    clear eA hE h62
    obtain ⟨rY0, rY1⟩ := rY
    cases hz : (Y == 9223372036854775808)
    · go_enter Tryz.func50, Tryz.ntmps50
      go_wp2
      go_ret
      exact ⟨Y, rfl, rfl, rY0, rY1, exp_ok Y rY0 rY1 H62.out, hz⟩
    · go_enter Tryz.func50, Tryz.ntmps50
      go_wp2
      go_ret
      exact ⟨0, rfl, rfl, by decide, by decide, nan_zero, by decide⟩
  · have tE : (bits .and .u64 (X / 4503599627370496) 2047 == 2047) = false := by rw [eA]; simpa using hE
    have HE := Lib.hid hE
    clear eA hE
    cases hz : (X == 9223372036854775808)
    · go_enter Tryz.func50, Tryz.ntmps50
      go_wp2
      go_ret
      exact ⟨X, rfl, rfl, rX0, rX1, exp_ok X rX0 rX1 HE.out, hz⟩
    · go_enter Tryz.func50, Tryz.ntmps50
      go_wp2
      go_ret
      exact ⟨0, rfl, rfl, by decide, by decide, nan_zero, by decide⟩

/-! ### texts that may be -/
def encL (r : Int) : List UInt8 := (Utf8.encode r).data.toList
theorem encL_cases (r : Int) : ∃ c : Nat, (c < 55296 ∨ (57344 ≤ c ∧ c ≤ 1114111)) ∧
    encL r = if c < 128 then [UInt8.ofNat c] else if c < 2048 then [UInt8.ofNat (192 + c / 64), UInt8.ofNat (128 + c % 64)] else if c < 65536 then [UInt8.ofNat (224 + c / 4096), UInt8.ofNat (128 + c / 64 % 64), UInt8.ofNat (128 + c % 64)] else [UInt8.ofNat (240 + c / 262144), UInt8.ofNat (128 + c / 4096 % 64), UInt8.ofNat (128 + c / 64 % 64), UInt8.ofNat (128 + c % 64)] := by
  refine ⟨if Utf8.valid r then r.toNat else 65533, ?_, ?_⟩
  · by_cases h : Utf8.valid r = true
    · rw [if_pos h]; unfold Utf8.valid at h; simp at h; omega
    · rw [if_neg h]; omega
  · unfold encL Utf8.encode Utf8.runeError
    simp only []
    repeat' split
    all_goals rfl
theorem ofNat_toNat (n : Nat) (h : n < 256) : (UInt8.ofNat n).toNat = n := by simp; omega
theorem encL_size (r : Int) : (encL r).length ≤ 4 := by
  obtain ⟨c, hc, he⟩ := encL_cases r
  rw [he]; repeat' split
  all_goals simp

set_option maxHeartbeats 4000000 in
theorem enc_valid (r : Int) (t : List UInt8) : Lib.validD (encL r ++ t) = Lib.validD t := by
  obtain ⟨c, hc, he⟩ := encL_cases r
  have key : encL r ++ t ≠ [] ∧ (Lib.decodeL (encL r ++ t)).2 = (encL r).length ∧ ¬ ((Lib.decodeL (encL r ++ t)).1 = 65533 ∧ (Lib.decodeL (encL r ++ t)).2 = 1) := by
    rw [Lib.decodeL_N, he]
    by_cases c1 : c < 128
    · simp only [if_pos c1]
      refine ⟨by simp, ?_⟩
      simp only [List.cons_append, List.nil_append, List.getD_cons_zero, ofNat_toNat c (by omega)]
      unfold Lib.decodeN
      simp only [if_pos c1]
      exact ⟨rfl, by simp; omega⟩
    · by_cases c2 : c < 2048
      · simp only [if_neg c1, if_pos c2]
        refine ⟨by simp, ?_⟩
        simp only [List.cons_append, List.nil_append, List.getD_cons_zero, List.getD_cons_succ, List.length_cons, ofNat_toNat (192 + c / 64) (by omega), ofNat_toNat (128 + c % 64) (by omega)]
        unfold Lib.decodeN
        rw [if_neg (by omega), if_pos (by omega), if_pos (by omega)]
        exact ⟨rfl, by simp⟩
      · by_cases c3 : c < 65536
        · simp only [if_neg c1, if_neg c2, if_pos c3]
          refine ⟨by simp, ?_⟩
          simp only [List.cons_append, List.nil_append, List.getD_cons_zero, List.getD_cons_succ, List.length_cons, ofNat_toNat (224 + c / 4096) (by omega), ofNat_toNat (128 + c / 64 % 64) (by omega), ofNat_toNat (128 + c % 64) (by omega)]
          unfold Lib.decodeN
          rw [if_neg (by omega), if_neg (by omega), if_pos (by omega), if_pos (by omega)]
          exact ⟨rfl, by simp⟩
        · simp only [if_neg c1, if_neg c2, if_neg c3]
          refine ⟨by simp, ?_⟩
          simp only [List.cons_append, List.nil_append, List.getD_cons_zero, List.getD_cons_succ, List.length_cons, ofNat_toNat (240 + c / 262144) (by omega), ofNat_toNat (128 + c / 4096 % 64) (by omega), ofNat_toNat (128 + c / 64 % 64) (by omega), ofNat_toNat (128 + c % 64) (by omega)]
          unfold Lib.decodeN
          rw [if_neg (by omega), if_neg (by omega), if_neg (by omega), if_pos (by omega), if_pos (by omega)]
          exact ⟨rfl, by simp⟩
  rw [Lib.validD_step _ key.1, if_neg key.2.2, key.2.1, List.drop_left]

theorem flat_valid : ∀ rs : List Int, Lib.validD (rs.flatMap encL) = true
  | [] => rfl
  | r :: rs => by rw [List.flatMap_cons, enc_valid]; exact flat_valid rs

def CleanOk (w : World) (e : Ending) (w' : World) : Prop := ∃ t : ByteArray, e = .returned (.string t) ∧ t.size ≤ 20 ∧ Lib.validD t.data.toList = true ∧ Below w.heap.size w w'
theorem below_iter (w : World) (s : ByteArray) (p : Nat) : Below w.heap.size w (w.iter s p) := (Below.refl _ _).alloc (Nat.le_refl _) _
theorem width_pos' (s : ByteArray) (pos : Nat) (h : pos < s.size) : 1 ≤ (Utf8.decode s pos).2 := by
  rw [← Lib.decodeL_drop]; exact Lib.decodeL_width _

set_option maxRecDepth 1000000 in
set_option maxHeartbeats 1000000 in
theorem clean_any (s : ByteArray) (w : World) : Calls Tryz.prog 34 #[.string s, .int .i64 20] w (CleanOk w) := by
  go_enter Tryz.func34, Tryz.ntmps34
  go_wp2
  go_loopw [5] (fun o wr => ∃ (pos : Nat) (rs : List Int) (out : ByteArray), wr = w.iter s pos ∧ o = .string out ∧ Hid (out.data.toList = rs.flatMap encL) ∧ out.size ≤ 20) (fun _ wr => s.size - wr.iterPos w.heap.size)
  case atStart => exact ⟨0, [], _, rfl, rfl, rfl, by decide⟩
  case round =>
    obtain ⟨pos, rs, out, rfl, rfl, ho, hs⟩ := hrel
    by_cases hp : pos < s.size
    · have hnx : ∀ ty, (Instr.next (.pointer (some ⟨w.heap.size, 0, none⟩)) true ty).run Tryz.prog (w.iter s pos) = _ := fun ty => run_next_any w s pos ty hp
      have hwd := width_pos' s pos hp
      generalize (Utf8.decode s pos).1 = r at hnx
      generalize (Utf8.decode s pos).2 = d at hnx hwd
      have hE4 := encL_size r
      unfold encL at hE4
      rw [← Lib.size_eq] at hE4
      have hOE : Hid ((out ++ Utf8.encode r).data.toList = (rs ++ [(r : Int)]).flatMap encL) := by
        show _ = _
        rw [List.flatMap_append, ← ho.out]
        simp [encL]
      obtain ⟨E, hE⟩ : ∃ E, Utf8.encode r = E := ⟨_, rfl⟩
      rw [hE] at hE4 hOE
      by_cases hl : out.size + 4 ≤ 20
      · have hl1 : out.size ≤ 16 := by omega
        clear hl
        go_wp2
        go_roundw
        case rel => exact ⟨pos + d, rs ++ [(r : Int)], out ++ E, rfl, rfl, hOE, by simp; omega⟩
        case measure => simp; omega
      · have hl1 : 16 < out.size := by omega
        clear hl
        go_wp2
        go_ret
        exact ⟨out, rfl, hs, by rw [ho.out]; exact flat_valid rs, below_iter w s _⟩
    · have hnx : ∀ ty, (Instr.next (.pointer (some ⟨w.heap.size, 0, none⟩)) true ty).run Tryz.prog (w.iter s pos) = _ := fun ty => run_next_end w s pos ty hp
      go_wp2
      go_ret
      exact ⟨out, rfl, hs, by rw [ho.out]; exact flat_valid rs, below_iter w s pos⟩
end Go.Proofs.YtablacloabpjfabGreatDoor
