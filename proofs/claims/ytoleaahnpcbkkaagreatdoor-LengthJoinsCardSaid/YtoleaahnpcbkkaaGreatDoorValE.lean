/-
  CONTRACTS of the reference's bytesOrder and Order, over values that may be.
  CONDITIONS: each theorem's own hypotheses.
-/
import Derived.Test.YtoleaahnpcbkkaaGreatDoorValD
import Derived.LoopTactic
import Derived.Deep.LoopGhost
namespace Go.Proofs.YtoleaahnpcbkkaaGreatDoor
open Go.RowKit
set_option linter.unusedVariables false

theorem below_dn {B : Nat} {a w : World} (h : Below B a w) : ∀ q, Below B a (w.drewN q)
  | 0 => h
  | q + 1 => (below_dn h q).drew

theorem cmpB_step (a b : List UInt8) (n : Nat) (h1 : n < a.length) (h2 : n < b.length) :
    Lib.compareBytes (a.drop n) (b.drop n) = if a[n] < b[n] then -1 else if b[n] < a[n] then 1 else Lib.compareBytes (a.drop (n + 1)) (b.drop (n + 1)) := by
  rw [List.drop_eq_getElem_cons h1, List.drop_eq_getElem_cons h2]
  rfl
theorem cmpB_end (a b : List UInt8) (n : Nat) (h1 : n ≤ a.length) (h2 : n ≤ b.length) (h : n = a.length ∨ n = b.length) :
    Lib.compareBytes (a.drop n) (b.drop n) = cmp3 ((a.length : Int) - (b.length : Int)) 0 := by
  unfold cmp3
  by_cases e1 : n = a.length
  · rw [List.drop_of_length_le (by omega)]
    by_cases e2 : n = b.length
    · rw [List.drop_of_length_le (by omega), if_neg (by omega), if_neg (by omega)]; rfl
    · rw [List.drop_eq_getElem_cons (show n < b.length by omega), if_pos (by omega)]; rfl
  · have e2 : n = b.length := by omega
    rw [List.drop_of_length_le (l := b) (by omega), List.drop_eq_getElem_cons (show n < a.length by omega), if_neg (by omega), if_pos (by omega)]; rfl

set_option maxHeartbeats 2000000 in
theorem bytesOrder_any (a b : ByteArray) (w : World) (ha : a.size ≤ 9223372036854775807) (hb : b.size ≤ 9223372036854775807) :
    Calls Tryz.prog 103 #[.string a, .string b] w fun e w' => e = .returned (.int .i64 (Lib.compareBytes a.data.toList b.data.toList)) ∧ Below w.heap.size w w' := by
  obtain ⟨ANS, hANS⟩ : ∃ ANS, Lib.compareBytes a.data.toList b.data.toList = ANS := ⟨_, rfl⟩
  rw [hANS]
  go_enter Tryz.func103, Tryz.ntmps103
  go_wp2
  go_loopw [5] (fun v wr => ∃ n : Nat, n ≤ a.size ∧ n ≤ b.size ∧ v = .int .i64 n ∧ Hid (Lib.compareBytes (a.data.toList.drop n) (b.data.toList.drop n) = ANS) ∧ Below w.heap.size w wr) (fun v _ => a.size - (intOf v).toNat)
  case atStart => exact ⟨0, Nat.zero_le _, Nat.zero_le _, rfl, hANS, Below.refl _ _⟩
  case round =>
    obtain ⟨n, hn1, hn2, rfl, hc, hbw⟩ := hrel
    have la := Lib.size_eq a
    have lb := Lib.size_eq b
    by_cases h1 : n < a.size
    · by_cases h2 : n < b.size
      · have hs := cmpB_step a.data.toList b.data.toList n (by omega) (by omega)
        have ea : a.data.toList[n]'(by omega) = a[n] := by rw [Array.getElem_toList]; rfl
        have eb : b.data.toList[n]'(by omega) = b[n] := by rw [Array.getElem_toList]; rfl
        rw [ea, eb, hc.out] at hs
        clear ea eb la lb hANS hc
        by_cases hl : a[n].toNat < b[n].toNat
        · rw [if_pos (by rw [UInt8.lt_iff_toNat_lt]; exact hl)] at hs
          subst hs
          have ht : ((a[n].toNat : Int) != (b[n].toNat : Int)) = true := by simp; omega
          have hl' : (a[n].toNat : Int) < (b[n].toNat : Int) := by omega
          clear hl
          go_wp2
          go_quiet (fail)
          go_wp2
          go_quiet (fail)
          go_wp2
          go_ret
          exact ⟨rfl, below_dn (below_dn hbw _) _⟩
        · by_cases hg : b[n].toNat < a[n].toNat
          · rw [if_neg (by rw [UInt8.lt_iff_toNat_lt]; exact hl), if_pos (by rw [UInt8.lt_iff_toNat_lt]; exact hg)] at hs
            subst hs
            have ht : ((a[n].toNat : Int) != (b[n].toNat : Int)) = true := by simp; omega
            have hl' : ¬ (a[n].toNat : Int) < (b[n].toNat : Int) := by omega
            clear hl hg
            go_wp2
            go_quiet (fail)
            go_wp2
            go_quiet (fail)
            go_wp2
            go_ret
            exact ⟨rfl, below_dn (below_dn hbw _) _⟩
          · rw [if_neg (by rw [UInt8.lt_iff_toNat_lt]; exact hl), if_neg (by rw [UInt8.lt_iff_toNat_lt]; exact hg)] at hs
            have hs' := Lib.hid hs.symm
            have ht : ((a[n].toNat : Int) != (b[n].toNat : Int)) = false := by simp; omega
            clear hl hg hs
            go_wp2
            go_quiet (fail)
            go_wp2
            go_roundw
            case rel => exact ⟨n + 1, by omega, by omega, by go_num, hs', below_dn hbw _⟩
            case measure => simp [intOf]; omega
      · have he := cmpB_end a.data.toList b.data.toList n (by omega) (by omega) (Or.inr (by omega))
        rw [hc.out, ← la, ← lb] at he
        have he' := Lib.hid he
        have cS := fun w => sign_any ((a.size : Int) - (b.size : Int)) w
        clear he la lb hANS hc
        go_wp2_with (go_at_call 100; refine (cS _).mono ?_; rintro e w' ⟨rfl, rfl⟩)
        go_ret
        exact ⟨ri he'.out.symm, hbw⟩
    · have he := cmpB_end a.data.toList b.data.toList n (by omega) (by omega) (Or.inl (by omega))
      rw [hc.out, ← la, ← lb] at he
      have he' := Lib.hid he
      have cS := fun w => sign_any ((a.size : Int) - (b.size : Int)) w
      clear he la lb hANS hc
      go_wp2_with (go_at_call 100; refine (cS _).mono ?_; rintro e w' ⟨rfl, rfl⟩)
      go_ret
      exact ⟨ri he'.out.symm, hbw⟩

theorem cmp3_congr {x y x' y' : Int} (h1 : x < y ↔ x' < y') (h2 : y < x ↔ y' < x') : cmp3 x y = cmp3 x' y' := by unfold cmp3; simp only [h1, h2]
/-- The words of values that may be. -/
def fit (k i b : Int) (s : ByteArray) : Prop := 0 ≤ k ∧ k ≤ 4 ∧ s.size ≤ 40 ∧ (k = 0 → i = 0) ∧ (k = 3 → FloatOrd.fine b.toNat ∧ b ≠ 9223372036854775808)

theorem risen_key (b b' : Int) (h0 : 0 ≤ b) (h1 : b ≤ 18446744073709551615) (h0' : 0 ≤ b') (h1' : b' ≤ 18446744073709551615) (hb : b ≠ 9223372036854775808) (hb' : b' ≠ 9223372036854775808) :
    cmp3 (risen b) (risen b') = cmp3 (FloatOrd.key b.toNat) (FloatOrd.key b'.toNat) := by
  have k1 : FloatOrd.key b.toNat = if b < 9223372036854775808 then b else 9223372036854775808 - b := by
    unfold FloatOrd.key; split <;> split <;> omega
  have k2 : FloatOrd.key b'.toNat = if b' < 9223372036854775808 then b' else 9223372036854775808 - b' := by
    unfold FloatOrd.key; split <;> split <;> omega
  rw [k1, k2]
  unfold risen
  by_cases c1 : b < 9223372036854775808 <;> by_cases c2 : b' < 9223372036854775808
  · rw [if_pos c1, if_pos c2, if_pos c1, if_pos c2]; exact cmp3_congr (by omega) (by omega)
  · rw [if_pos c1, if_neg c2, if_pos c1, if_neg c2]; exact cmp3_congr (by omega) (by omega)
  · rw [if_neg c1, if_pos c2, if_neg c1, if_pos c2]; exact cmp3_congr (by omega) (by omega)
  · rw [if_neg c1, if_neg c2, if_neg c1, if_neg c2]; exact cmp3_congr (by omega) (by omega)

set_option maxHeartbeats 2000000 in
theorem refOrder_real (i b : Int) (s : ByteArray) (i' b' : Int) (s' : ByteArray) (w : World) (h0 : 0 ≤ b) (h1 : b ≤ 18446744073709551615) (h0' : 0 ≤ b') (h1' : b' ≤ 18446744073709551615) :
    Calls Tryz.prog 83 #[.agg #[.int .i64 3, .int .i64 i, .int .u64 b, .string s], .agg #[.int .i64 3, .int .i64 i', .int .u64 b', .string s']] w fun e w' => e = .returned (.int .i64 (cmp3 (risen b) (risen b'))) ∧ Below w.heap.size w w' := by
  have cR := fun w => risen_any b w h0 h1
  have cR' := fun w => risen_any b' w h0' h1'
  have cB := fun w => bitsOrder_any (risen b) (risen b') w
  clear h0 h1 h0' h1'
  go_enter Tryz.func83, Tryz.ntmps83
  go_wp2_with fail
  go_region_with (first | (go_at_call_of 102 (Value.int .u64 b); refine (cR _).mono ?_; rintro e w1 ⟨rfl, rfl⟩) | (go_at_call 102; refine (cR' _).mono ?_; rintro e w1 ⟨rfl, rfl⟩) | (go_at_call 101; refine (cB _).mono ?_; rintro e w' ⟨rfl, rfl⟩))
  all_goals go_wp2
  all_goals go_ret
  all_goals exact ⟨rfl, (((Below.refl _ _).alloc (Nat.le_refl _) _).alloc (by simp) _).drew⟩

set_option maxHeartbeats 1000000 in
theorem refOrder_any (k i b : Int) (s : ByteArray) (k' i' b' : Int) (s' : ByteArray) (w : World) (hk0 : 0 ≤ k) (hk4 : k ≤ 4) (hk0' : 0 ≤ k') (hk4' : k' ≤ 4) (hi : -9223372036854775808 ≤ i) (hi1 : i ≤ 9223372036854775807) (hi' : -9223372036854775808 ≤ i') (hi1' : i' ≤ 9223372036854775807)
    (h0 : 0 ≤ b) (h1 : b ≤ 18446744073709551615) (h0' : 0 ≤ b') (h1' : b' ≤ 18446744073709551615) (hs : s.size ≤ 9223372036854775807) (hs' : s'.size ≤ 9223372036854775807)
    (hn : k = 0 → i = 0) (hn' : k' = 0 → i' = 0) (hr : k = 3 → b ≠ 9223372036854775808) (hr' : k' = 3 → b' ≠ 9223372036854775808) :
    Calls Tryz.prog 83 #[.agg #[.int .i64 k, .int .i64 i, .int .u64 b, .string s], .agg #[.int .i64 k', .int .i64 i', .int .u64 b', .string s']] w fun e w' => e = .returned (.int .i64 (ord k i b s k' i' b' s')) ∧ Below w.heap.size w w' := by
  unfold ord
  by_cases hk : k = k'
  · subst hk
    rw [if_neg (by omega)]
    have ints : (k == 3) = false → (k == 4) = false → Calls Tryz.prog 83 #[.agg #[.int .i64 k, .int .i64 i, .int .u64 b, .string s], .agg #[.int .i64 k, .int .i64 i', .int .u64 b', .string s']] w fun e w' => e = .returned (.int .i64 (cmp3 i i')) ∧ Below w.heap.size w w' := by
      intro k3 k4
      have e1 : IntKind.u64.wrap (IntKind.u64.wrap i + 9223372036854775808) = i + 9223372036854775808 := by
        show (i % 18446744073709551616 + 9223372036854775808) % 18446744073709551616 = _; omega
      have e2 : IntKind.u64.wrap (IntKind.u64.wrap i' + 9223372036854775808) = i' + 9223372036854775808 := by
        show (i' % 18446744073709551616 + 9223372036854775808) % 18446744073709551616 = _; omega
      have cB := fun w => bitsOrder_any (IntKind.u64.wrap (IntKind.u64.wrap i + 9223372036854775808)) (IntKind.u64.wrap (IntKind.u64.wrap i' + 9223372036854775808)) w
      have e3 : cmp3 (IntKind.u64.wrap (IntKind.u64.wrap i + 9223372036854775808)) (IntKind.u64.wrap (IntKind.u64.wrap i' + 9223372036854775808)) = cmp3 i i' := by
        rw [e1, e2]; exact cmp3_congr (by omega) (by omega)
      rw [e3] at cB
      clear e1 e2 e3 hn hn' hr hr' hk0 hk4 hk0' hk4' hi hi1 hi' hi1' h0 h1 h0' h1' hs hs'
      go_enter Tryz.func83, Tryz.ntmps83
      go_wp2_with fail
      refine (cB _).mono ?_
      rintro e w1 ⟨rfl, rfl⟩
      go_wp2_with fail
      go_ret
      exact ⟨rfl, ((Below.refl _ _).alloc (Nat.le_refl _) _).alloc (by simp) _⟩
    rcases (show k = 0 ∨ k = 1 ∨ k = 2 ∨ k = 3 ∨ k = 4 by omega) with rfl | rfl | rfl | rfl | rfl
    · have := ints rfl rfl
      rw [hn rfl, hn' rfl] at this ⊢
      exact this
    · exact ints rfl rfl
    · exact ints rfl rfl
    · have := refOrder_real i b s i' b' s' w h0 h1 h0' h1'
      rw [risen_key b b' h0 h1 h0' h1' (hr rfl) (hr' rfl)] at this
      exact this
    · have cC := fun w => bytesOrder_any s s' w hs hs'
      clear hn hn' hr hr' ints
      go_enter Tryz.func83, Tryz.ntmps83
      go_wp2_with fail
      refine (cC _).mono ?_
      rintro e w1 ⟨rfl, hb⟩
      go_wp2_with fail
      go_ret
      exact ⟨rfl, (((Below.refl _ _).alloc (Nat.le_refl _) _).alloc (by simp) _).trans (hb.mono (by simp; omega))⟩
  · rw [if_pos hk]
    have hk' : (k == k') = false := by simpa using hk
    have cC := fun w => sign_any (k - k') w
    have e : cmp3 (k - k') 0 = cmp3 k k' := cmp3_congr (by omega) (by omega)
    rw [e] at cC
    clear hk e hn hn' hr hr'
    go_enter Tryz.func83, Tryz.ntmps83
    go_wp2_with fail
    refine (cC _).mono ?_
    rintro e w1 ⟨rfl, rfl⟩
    go_wp2_with fail
    go_ret
    exact ⟨rfl, ((Below.refl _ _).alloc (Nat.le_refl _) _).alloc (by simp) _⟩
end Go.Proofs.YtoleaahnpcbkkaaGreatDoor
