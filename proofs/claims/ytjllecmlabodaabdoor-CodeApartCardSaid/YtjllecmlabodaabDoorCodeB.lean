/-
  CONTRACTS of package code's rankOfReal, bitsOfReal, turning, turn, and of the reference's downs.
  CONDITIONS: each theorem's own hypotheses.
-/
import Derived.Test.YtjllecmlabodaabDoorCodeA
namespace Go.Proofs.YtjllecmlabodaabDoor
open Go.RowKit CodeMath
set_option linter.unusedVariables false

theorem xor_top_nat (x : Nat) (h : x < 18446744073709551616) : x ^^^ 9223372036854775808 = if x < 9223372036854775808 then x + 9223372036854775808 else x - 9223372036854775808 := by
  have e : (9223372036854775808 : Nat) = 2 ^ 63 := by decide
  have h1 := Nat.xor_mod_two_pow (a := x) (b := 2 ^ 63) (n := 63)
  have h2 := Nat.xor_div_two_pow (a := x) (b := 2 ^ 63) (n := 63)
  have h3 := Nat.div_add_mod (x ^^^ 2 ^ 63) (2 ^ 63)
  rw [h1, h2, Nat.mod_self, Nat.xor_zero, Nat.div_self (by decide)] at h3
  rw [e, ← h3]
  have h4 := Nat.div_add_mod x (2 ^ 63)
  have hx : x / 2 ^ 63 = 0 ∨ x / 2 ^ 63 = 1 := by
    have : x / 2 ^ 63 < 2 := (Nat.div_lt_iff_lt_mul (by decide)).2 (by rw [← e]; omega)
    omega
  rw [← e] at *
  rcases hx with hx | hx
  · rw [hx] at h4 ⊢
    rw [if_pos (by omega)]
    simp; omega
  · rw [hx] at h4 ⊢
    rw [if_neg (by omega)]
    simp; omega
theorem xor_top (x : Int) (h0 : 0 ≤ x) (h1 : x ≤ 18446744073709551615) : bits .xor .u64 x 9223372036854775808 = if x < 9223372036854775808 then x + 9223372036854775808 else x - 9223372036854775808 := by
  rw [u64_xor _ _ h0 (by omega) (by decide) (by decide), show (9223372036854775808 : Int).toNat = 9223372036854775808 from rfl, xor_top_nat _ (by omega)]
  split <;> split <;> omega
theorem and_two_pow' (x i : Nat) : x &&& 2 ^ i = (x.testBit i).toNat * 2 ^ i := by
  apply Nat.eq_of_testBit_eq
  intro j
  rw [Nat.testBit_and, Nat.testBit_two_pow]
  by_cases ij : i = j
  · subst ij
    cases h : x.testBit i <;> simp [Nat.testBit_two_pow_self]
  · rw [decide_eq_false ij, Bool.and_false]
    cases h : x.testBit i
    · simp
    · simp only [Bool.toNat_true, Nat.one_mul, Nat.testBit_two_pow, decide_eq_false ij]
theorem and_top (x : Int) (h0 : 0 ≤ x) (h1 : x ≤ 18446744073709551615) : bits .and .u64 x 9223372036854775808 = if x < 9223372036854775808 then 0 else 9223372036854775808 := by
  rw [u64_and _ _ h0 (by omega) (by decide) (by decide), show (9223372036854775808 : Int).toNat = 2 ^ 63 from rfl, and_two_pow', Nat.testBit_eq_decide_div_mod_eq]
  have e : (2 : Nat) ^ 63 = 9223372036854775808 := by decide
  rw [e]
  by_cases h : x < 9223372036854775808
  · rw [if_pos h, decide_eq_false (by omega)]; rfl
  · rw [if_neg h, decide_eq_true (by omega)]; rfl
theorem and_pow (n : Int) (i : Nat) (hi : i ≤ 8) : bits .and .i64 n (2 ^ i) = if n / 2 ^ i % 2 = 1 then 2 ^ i else 0 := by
  have hp : (BitVec.ofInt 64 ((2 : Int) ^ i)).toNat = 2 ^ i := by
    have : i = 0 ∨ i = 1 ∨ i = 2 ∨ i = 3 ∨ i = 4 ∨ i = 5 ∨ i = 6 ∨ i = 7 ∨ i = 8 := by omega
    rcases this with rfl | rfl | rfl | rfl | rfl | rfl | rfl | rfl | rfl <;> decide
  have key : (BitVec.ofInt 64 n &&& BitVec.ofInt 64 (2 ^ i)).toNat = ((n % ((2 ^ 64 : Nat) : Int)).toNat.testBit i).toNat * 2 ^ i := by
    rw [BitVec.toNat_and, BitVec.toNat_ofInt, hp, and_two_pow']
  show IntKind.i64.wrap ((BitVec.ofInt 64 n &&& BitVec.ofInt 64 (2 ^ i)).toNat : Nat) = _
  rw [key, IntKind.wrap_i64, Nat.testBit_eq_decide_div_mod_eq]
  have : i = 0 ∨ i = 1 ∨ i = 2 ∨ i = 3 ∨ i = 4 ∨ i = 5 ∨ i = 6 ∨ i = 7 ∨ i = 8 := by omega
  rcases this with rfl | rfl | rfl | rfl | rfl | rfl | rfl | rfl | rfl <;>
  · simp only [Nat.reducePow, Int.reducePow]
    split
    · rw [decide_eq_true (by omega)]; decide
    · rw [decide_eq_false (by omega)]; decide
theorem and_one (n : Int) : bits .and .i64 n 1 = if n % 2 = 1 then 1 else 0 := by
  have := and_pow n 0 (by omega)
  simpa using this

theorem rankOfReal_any (b : Int) (w : World) (h0 : 0 ≤ b) (h1 : b ≤ 18446744073709551615) :
    Calls Tryd.prog 41 #[.int .u64 b] w fun e w' => e = .returned (.int .u64 (up64 b)) ∧ w = w' := by
  have ha := and_top b h0 h1
  have hx := xor_top b h0 h1
  unfold up64 two63 two64
  by_cases l : b < 9223372036854775808
  · rw [if_pos l] at ha hx ⊢
    have hb : (bits .and .u64 b 9223372036854775808 == 0) = true := by rw [ha]; rfl
    have HX := Lib.hid hx
    clear ha hx
    go_enter Tryd.func41, Tryd.ntmps41
    go_wp2
    go_ret
    exact ⟨ri HX.out, rfl⟩
  · rw [if_neg l] at ha hx ⊢
    have hb : (bits .and .u64 b 9223372036854775808 == 0) = false := by rw [ha]; rfl
    have HX := Lib.hid (max_xor_int b h0 h1)
    clear ha hx
    go_enter Tryd.func41, Tryd.ntmps41
    go_wp2
    go_ret
    exact ⟨ri HX.out, rfl⟩
theorem bitsOfReal_any (b : Int) (w : World) (h0 : 0 ≤ b) (h1 : b ≤ 18446744073709551615) :
    Calls Tryd.prog 63 #[.int .u64 b] w fun e w' => e = .returned (.int .u64 (down64 b)) ∧ w = w' := by
  have ha := and_top b h0 h1
  have hx := xor_top b h0 h1
  unfold down64 two63 two64
  by_cases l : b < 9223372036854775808
  · rw [if_pos l] at ha hx ⊢
    have hb : (bits .and .u64 b 9223372036854775808 != 0) = false := by rw [ha]; rfl
    have HX := Lib.hid (max_xor_int b h0 h1)
    clear ha hx
    go_enter Tryd.func63, Tryd.ntmps63
    go_wp2
    go_ret
    exact ⟨ri HX.out, rfl⟩
  · rw [if_neg l] at ha hx ⊢
    have hb : (bits .and .u64 b 9223372036854775808 != 0) = true := by rw [ha]; rfl
    have HX := Lib.hid hx
    clear ha hx
    go_enter Tryd.func63, Tryd.ntmps63
    go_wp2
    go_ret
    exact ⟨ri HX.out, rfl⟩

/-- Does column i go down? -/
def dn (down : Int) (i : Nat) : Bool := decide (down / 2 ^ i % 2 = 1)
def byD (d : Bool) : Int := if d then 255 else 0
theorem turning_any (down : Int) (i : Nat) (hi : i ≤ 5) (w : World) :
    Calls Tryd.prog 25 #[.int .i64 down, .int .i64 i] w fun e w' => e = .returned (.int .u8 (byD (dn down i))) ∧ w = w' := by
  have ha := and_one (down / 2 ^ i)
  unfold byD dn
  by_cases h : down / 2 ^ i % 2 = 1
  · rw [if_pos h] at ha
    rw [decide_eq_true h]
    have hb : (bits .and .i64 (down / 2 ^ i) 1 == 1) = true := by rw [ha]; rfl
    clear ha h
    go_enter Tryd.func25, Tryd.ntmps25
    go_wp2
    go_ret
    exact ⟨rfl, rfl⟩
  · rw [if_neg h] at ha
    rw [decide_eq_false h]
    have hb : (bits .and .i64 (down / 2 ^ i) 1 == 1) = false := by rw [ha]; rfl
    clear ha h
    go_enter Tryd.func25, Tryd.ntmps25
    go_wp2
    go_ret
    exact ⟨rfl, rfl⟩

set_option maxRecDepth 100000 in
theorem xor_by (d : Bool) (x : UInt8) : bits .xor .u8 x.toNat (byD d) = ((turnB d x).toNat : Int) := by
  have hx := byte_lt x
  cases d
  · show bits .xor .u8 (x.toNat : Int) ((0 : Nat) : Int) = _
    rw [u8_xor_nat _ _ hx (by decide), Nat.xor_zero]; rfl
  · show bits .xor .u8 (x.toNat : Int) ((255 : Nat) : Int) = _
    rw [u8_xor_nat _ _ hx (by decide)]
    show _ = ((255 - x).toNat : Int)
    rw [sub255]
    have : ∀ n : Nat, n < 256 → n ^^^ 255 = 255 - n := by decide
    rw [this _ hx]
theorem cells_set (pre a r : List UInt8) (x c : UInt8) (k : Nat) (hk : k = pre.length + a.length) : (cellsB (pre ++ (a ++ x :: r))).set k (.int .u8 c.toNat) = cellsB (pre ++ (a ++ c :: r)) := by
  subst hk
  simp only [cellsB, List.map_append, List.map_cons]
  rw [← List.append_assoc, List.set_append_right _ _ (by simp), ← List.append_assoc]
  simp

set_option maxRecDepth 100000 in
set_option maxHeartbeats 2000000 in
theorem turn_any (d : Bool) (g n cap m cp : Nat) (base : Nat) (pre mid : List UInt8) (w : World) (hown : OwnB w base (.slice (some ⟨g, 0, none⟩) n cap) (pre ++ mid)) (hn : n = (pre ++ mid).length) (hm : m = mid.length) (hlen : n ≤ 1000000) :
    Calls Tryd.prog 24 #[.slice (some ⟨g, pre.length, none⟩) m cp, .int .u8 (byD d)] w fun e w' => e = .returned (.tuple #[]) ∧ OwnB w' base (.slice (some ⟨g, 0, none⟩) n cap) (pre ++ turnL d mid) ∧ Below base w w' := by
  subst hn hm
  obtain ⟨q, hq⟩ : ∃ q, pre.length = q := ⟨_, rfl⟩
  obtain ⟨m, hm⟩ : ∃ m, mid.length = m := ⟨_, rfl⟩
  have hlen2 : q + m ≤ 1000000 := by rw [List.length_append] at hlen; omega
  rw [hq, hm]
  go_enter Tryd.func24, Tryd.ntmps24
  go_wp2
  go_loopw [7] (fun i wr => ∃ k : Nat, k ≤ m ∧ i = .int .i64 k ∧ OwnB wr base (.slice (some ⟨g, 0, none⟩) (pre ++ mid).length cap) (pre ++ (turnL d (mid.take k) ++ mid.drop k)) ∧ Below base w wr) (fun i _ => m - (intOf i).toNat)
  case atStart => exact ⟨0, Nat.zero_le _, rfl, by simpa [turnL] using hown, Below.refl _ _⟩
  case round =>
    obtain ⟨k, hk, rfl, ho, hbw⟩ := hrel
    have hl1 : (pre ++ mid).length = (pre ++ (turnL d (mid.take k) ++ mid.drop k)).length := by simp [turnL]; omega
    by_cases h1 : k < m
    · have hkl : k < mid.length := by omega
      obtain ⟨x, hx⟩ : ∃ x, mid[k] = x := ⟨_, rfl⟩
      have hdr : mid.drop k = x :: mid.drop (k + 1) := by rw [List.drop_eq_getElem_cons hkl, hx]
      have htk : turnL d (mid.take (k + 1)) = turnL d (mid.take k) ++ [turnB d x] := by rw [List.take_succ_eq_append_getElem hkl, hx, turnL_append]; rfl
      have htl : (turnL d (mid.take k)).length = k := by rw [turnL_length]; simp; omega
      rw [hdr] at ho hl1
      rw [hl1] at ho
      have hcell := ho.cellAt (q + k) (by simp [htl]; omega)
      rw [cellsB, List.map_append, List.map_append, List.map_cons, List.getElem?_append_right (by simp; omega), List.getElem?_append_right (by simp [htl]; omega)] at hcell
      simp only [List.length_map, hq, htl] at hcell
      rw [show q + k - q - k = 0 by omega] at hcell
      have hc : wr.cell? ⟨g, q + k, none⟩ = some (.int .u8 x.toNat) := hcell
      have hf := ho.frozenAt (q + k)
      have hgb := (ho.lt g rfl).1
      have hst := (ho.stored (q + k) (.int .u8 (turnB d x).toNat)).1
      rw [cells_set pre _ _ _ _ _ (by omega), show pre ++ (turnL d (mid.take k) ++ turnB d x :: mid.drop (k + 1)) = pre ++ (turnL d (mid.take (k + 1)) ++ mid.drop (k + 1)) by rw [htk]; simp] at hst
      have hxb := Lib.hid (xor_by d x)
      obtain ⟨D, hD⟩ : ∃ D, byD d = D := ⟨_, rfl⟩
      rw [hD] at hxb ⊢
      clear hcell ho htk hdr hx hown htl hD
      go_wp2
      have hl2 : (pre ++ (turnL d (mid.take (k + 1)) ++ mid.drop (k + 1))).length = (pre ++ mid).length := by simp [turnL]; omega
      rw [← hl1] at hst
      go_roundw
      case rel =>
        refine ⟨k + 1, by omega, by go_num, ?_, hbw.setCell hgb _⟩
        unfold OwnB
        rw [hl2, hxb.out]
        exact hst
      case measure => simp [intOf]; omega
    · have hk' : k = m := by omega
      rw [hk', List.take_of_length_le (by omega), List.drop_of_length_le (by omega), List.append_nil] at ho
      clear hown hl1
      go_wp2
      go_end0
      exact ⟨rfl, ho, hbw⟩
end Go.Proofs.YtjllecmlabodaabDoor
