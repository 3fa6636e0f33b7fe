/-
  MERGED: ValD, ValE, ValF, ValG, ValH, ValI.
  CONDITIONS: each theorem's own hypotheses.
-/
import Derived.Test.YtfedlchncngafaaGreatDoorValA
import Derived.BigQuiet
import Derived.Deep.QuietTactic
import Derived.Deep.RegionWith
import Derived.Outline
import Derived.LoopTactic
import Derived.Deep.LoopGhost
import Derived.Test.YtfedlchncngafaaGreatDoorGValB

/-! CONTRACTS of package value's order and of the reference's Order, over values that may be. CONDITIONS: each theorem's own hypotheses. -/
namespace Go.Proofs.YtfedlchncngafaaGreatDoor
open Go.RowKit
set_option linter.unusedVariables false

theorem bcell {W w1 : World} (hb : Below W.heap.size W w1) : (∀ b o, b < W.heap.size → w1.cell? ⟨b, o, none⟩ = W.cell? ⟨b, o, none⟩) ∧ (∀ b o, b < W.heap.size → w1.frozen? ⟨b, o, none⟩ = W.frozen? ⟨b, o, none⟩) :=
  ⟨fun b o h => hb.cell (p := ⟨b, o, none⟩) h, fun b o h => hb.frozen (p := ⟨b, o, none⟩) h⟩

/-- How two values stand whose kinds are a and b. -/
def ord (k i b : Int) (s : ByteArray) (k' i' b' : Int) (s' : ByteArray) : Int :=
  if k ≠ k' then cmp3 k k' else if k = 3 then cmp3 (FloatOrd.key b.toNat) (FloatOrd.key b'.toNat) else if k = 4 then Lib.compareBytes s.data.toList s'.data.toList else if k = 1 ∨ k = 2 then cmp3 i i' else 0

theorem four_below {w w1 w2 : World} {o1 o2 : Obj} (hb : Below ((w.alloc o1).alloc o2).drew.heap.size ((w.alloc o1).alloc o2).drew w1) (hb2 : Below w1.heap.size w1 w2) : Below w.heap.size w w2 :=
  ((((Below.refl _ _).alloc (Nat.le_refl _) _).alloc (by simp) _).drew.trans (hb.mono (by simp; omega))).trans (hb2.mono (by have := hb.size; simp at this; omega))

set_option maxHeartbeats 2000000 in
theorem order_real (i b : Int) (s : ByteArray) (i' b' : Int) (s' : ByteArray) (w : World) (hb : FloatOrd.fine b.toNat) (hb' : FloatOrd.fine b'.toNat) :
    Calls Tryz.prog 237 #[.agg #[.int .i64 3, .int .i64 i, .int .u64 b, .string s], .agg #[.int .i64 3, .int .i64 i', .int .u64 b', .string s']] w fun e w' => e = .returned (.int .i64 (cmp3 (FloatOrd.key b.toNat) (FloatOrd.key b'.toNat))) ∧ Below w.heap.size w w' := by
  have cC := fun w => floatCmp_fine b.toNat b'.toNat w hb hb'
  clear hb hb'
  go_enter Tryz.func237, Tryz.ntmps237
  go_wp2_with fail
  go_region_with (first | (go_at_call 173; refine (real64_any _ _ _ _ _).mono ?_; rintro e w1 ⟨rfl, hb⟩; obtain ⟨hc, hf⟩ := bcell hb; have hz : w.heap.size + 1 < w1.heap.size := by ((have := hb.size; try simp at this); omega)) | (go_at_call 238; refine (cC _).mono ?_; rintro e w' ⟨rfl, rfl⟩))
  all_goals go_wp2
  all_goals go_ret
  all_goals exact ⟨rfl, four_below (by assumption) (by assumption)⟩

set_option maxHeartbeats 1000000 in
theorem order_any (k i b : Int) (s : ByteArray) (k' i' b' : Int) (s' : ByteArray) (w : World) (hb : k = 3 → FloatOrd.fine b.toNat) (hb' : k' = 3 → FloatOrd.fine b'.toNat) :
    Calls Tryz.prog 237 #[.agg #[.int .i64 k, .int .i64 i, .int .u64 b, .string s], .agg #[.int .i64 k', .int .i64 i', .int .u64 b', .string s']] w fun e w' => e = .returned (.int .i64 (ord k i b s k' i' b' s')) ∧ Below w.heap.size w w' := by
  unfold ord
  by_cases hk : k = k'
  · subst hk
    rw [if_neg (by omega)]
    rcases kcase k with (rfl | rfl | rfl | rfl | rfl) | ⟨_, k1, k2, k3, k4⟩
    · go_enter Tryz.func237, Tryz.ntmps237
      go_wp2
      go_ret
      exact ⟨rfl, ((Below.refl _ _).alloc (Nat.le_refl _) _).alloc (by simp) _⟩
    · have cC := fun w => intCmp_any i i' w
      go_enter Tryz.func237, Tryz.ntmps237
      go_wp2_with fail
      refine (cC _).mono ?_
      rintro e w1 ⟨rfl, rfl⟩
      go_wp2_with fail
      go_ret
      exact ⟨rfl, ((Below.refl _ _).alloc (Nat.le_refl _) _).alloc (by simp) _⟩
    · have cC := fun w => intCmp_any i i' w
      go_enter Tryz.func237, Tryz.ntmps237
      go_wp2_with fail
      refine (cC _).mono ?_
      rintro e w1 ⟨rfl, rfl⟩
      go_wp2_with fail
      go_ret
      exact ⟨rfl, ((Below.refl _ _).alloc (Nat.le_refl _) _).alloc (by simp) _⟩
    · exact order_real i b s i' b' s' w (hb rfl) (hb' rfl)
    · have cC := fun w => strCmp_any s s' w
      go_enter Tryz.func237, Tryz.ntmps237
      go_wp2_with fail
      refine (cC _).mono ?_
      rintro e w1 ⟨rfl, rfl⟩
      go_wp2_with fail
      go_ret
      exact ⟨rfl, ((Below.refl _ _).alloc (Nat.le_refl _) _).alloc (by simp) _⟩
    · have e1 : ¬ k = 1 := by simpa using k1
      have e2 : ¬ k = 2 := by simpa using k2
      have e3 : ¬ k = 3 := by simpa using k3
      have e4 : ¬ k = 4 := by simpa using k4
      rw [if_neg e3, if_neg e4, if_neg (by omega)]
      clear e1 e2 e3 e4
      go_enter Tryz.func237, Tryz.ntmps237
      go_wp2
      go_ret
      exact ⟨rfl, ((Below.refl _ _).alloc (Nat.le_refl _) _).alloc (by simp) _⟩
  · rw [if_pos hk]
    have hk' : (k == k') = false := by simpa using hk
    have cC := fun w => intCmp_any k k' w
    clear hk
    go_enter Tryz.func237, Tryz.ntmps237
    go_wp2_with fail
    refine (cC _).mono ?_
    rintro e w1 ⟨rfl, rfl⟩
    go_wp2_with fail
    go_ret
    exact ⟨rfl, ((Below.refl _ _).alloc (Nat.le_refl _) _).alloc (by simp) _⟩
end Go.Proofs.YtfedlchncngafaaGreatDoor

/-! CONTRACTS of the reference's bytesOrder and Order, over values that may be. CONDITIONS: each theorem's own hypotheses. -/
namespace Go.Proofs.YtfedlchncngafaaGreatDoor
open Go.RowKit
set_option linter.unusedVariables false

theorem below_dn {B : Nat} {a w : World} (h : Below B a w) : ∀ q, Below B a (w.drewN q)
  | 0 => h
  | q + 1 => (below_dn h q).drew

theorem cmpB_step (a b : List UInt8) (n : Nat) (h1 : n < a.length) (h2 : n < b.length) :
    Lib.compareBytes (a.drop n) (b.drop n) = if a[n] < b[n] then -1 else if b[n] < a[n] then 1 else Lib.compareBytes (a.drop (n + 1)) (b.drop (n + 1)) := by
  rw [List.drop_eq_getElem_cons h1, List.drop_eq_getElem_cons h2]
  rfl
theorem cmpB_end (a b : List UInt8) (n : Nat) (h1 : n ≤ a.length) (h2 : n ≤ b.length) (h : n = a.length ∨ n = b.length) :
    Lib.compareBytes (a.drop n) (b.drop n) = cmp3 ((a.length : Int) - (b.length : Int)) 0 := by
  unfold cmp3
  by_cases e1 : n = a.length
  · rw [List.drop_of_length_le (by omega)]
    by_cases e2 : n = b.length
    · rw [List.drop_of_length_le (by omega), if_neg (by omega), if_neg (by omega)]; rfl
    · rw [List.drop_eq_getElem_cons (show n < b.length by omega), if_pos (by omega)]; rfl
  · have e2 : n = b.length := by omega
    rw [List.drop_of_length_le (l := b) (by omega), List.drop_eq_getElem_cons (show n < a.length by omega), if_neg (by omega), if_pos (by omega)]; rfl

set_option maxHeartbeats 2000000 in
theorem bytesOrder_any (a b : ByteArray) (w : World) (ha : a.size ≤ 9223372036854775807) (hb : b.size ≤ 9223372036854775807) :
    Calls Tryz.prog 154 #[.string a, .string b] w fun e w' => e = .returned (.int .i64 (Lib.compareBytes a.data.toList b.data.toList)) ∧ Below w.heap.size w w' := by
  obtain ⟨ANS, hANS⟩ : ∃ ANS, Lib.compareBytes a.data.toList b.data.toList = ANS := ⟨_, rfl⟩
  rw [hANS]
  go_enter Tryz.func154, Tryz.ntmps154
  go_wp2
  go_loopw [5] (fun v wr => ∃ n : Nat, n ≤ a.size ∧ n ≤ b.size ∧ v = .int .i64 n ∧ Hid (Lib.compareBytes (a.data.toList.drop n) (b.data.toList.drop n) = ANS) ∧ Below w.heap.size w wr) (fun v _ => a.size - (intOf v).toNat)
  case atStart => exact ⟨0, Nat.zero_le _, Nat.zero_le _, rfl, hANS, Below.refl _ _⟩
  case round =>
    obtain ⟨n, hn1, hn2, rfl, hc, hbw⟩ := hrel
    have la := Lib.size_eq a
    have lb := Lib.size_eq b
    by_cases h1 : n < a.size
    · by_cases h2 : n < b.size
      · have hs := cmpB_step a.data.toList b.data.toList n (by omega) (by omega)
        have ea : a.data.toList[n]'(by omega) = a[n] := by rw [Array.getElem_toList]; rfl
        have eb : b.data.toList[n]'(by omega) = b[n] := by rw [Array.getElem_toList]; rfl
        rw [ea, eb, hc.out] at hs
        clear ea eb la lb hANS hc
        by_cases hl : a[n].toNat < b[n].toNat
        · rw [if_pos (by rw [UInt8.lt_iff_toNat_lt]; exact hl)] at hs
          subst hs
          have ht : ((a[n].toNat : Int) != (b[n].toNat : Int)) = true := by simp; omega
          have hl' : (a[n].toNat : Int) < (b[n].toNat : Int) := by omega
          clear hl
          go_wp2
          go_quiet (fail)
          go_wp2
          go_quiet (fail)
          go_wp2
          go_ret
          exact ⟨rfl, below_dn (below_dn hbw _) _⟩
        · by_cases hg : b[n].toNat < a[n].toNat
          · rw [if_neg (by rw [UInt8.lt_iff_toNat_lt]; exact hl), if_pos (by rw [UInt8.lt_iff_toNat_lt]; exact hg)] at hs
            subst hs
            have ht : ((a[n].toNat : Int) != (b[n].toNat : Int)) = true := by simp; omega
            have hl' : ¬ (a[n].toNat : Int) < (b[n].toNat : Int) := by omega
            clear hl hg
            go_wp2
            go_quiet (fail)
            go_wp2
            go_quiet (fail)
            go_wp2
            go_ret
            exact ⟨rfl, below_dn (below_dn hbw _) _⟩
          · rw [if_neg (by rw [UInt8.lt_iff_toNat_lt]; exact hl), if_neg (by rw [UInt8.lt_iff_toNat_lt]; exact hg)] at hs
            have hs' := Lib.hid hs.symm
            have ht : ((a[n].toNat : Int) != (b[n].toNat : Int)) = false := by simp; omega
            clear hl hg hs
            go_wp2
            go_quiet (fail)
            go_wp2
            go_roundw
            case rel => exact ⟨n + 1, by omega, by omega, by go_num, hs', below_dn hbw _⟩
            case measure => simp [intOf]; omega
      · have he := cmpB_end a.data.toList b.data.toList n (by omega) (by omega) (Or.inr (by omega))
        rw [hc.out, ← la, ← lb] at he
        have he' := Lib.hid he
        have cS := fun w => sign_any ((a.size : Int) - (b.size : Int)) w
        clear he la lb hANS hc
        go_wp2_with (go_at_call 151; refine (cS _).mono ?_; rintro e w' ⟨rfl, rfl⟩)
        go_ret
        exact ⟨ri he'.out.symm, hbw⟩
    · have he := cmpB_end a.data.toList b.data.toList n (by omega) (by omega) (Or.inl (by omega))
      rw [hc.out, ← la, ← lb] at he
      have he' := Lib.hid he
      have cS := fun w => sign_any ((a.size : Int) - (b.size : Int)) w
      clear he la lb hANS hc
      go_wp2_with (go_at_call 151; refine (cS _).mono ?_; rintro e w' ⟨rfl, rfl⟩)
      go_ret
      exact ⟨ri he'.out.symm, hbw⟩

theorem cmp3_congr {x y x' y' : Int} (h1 : x < y ↔ x' < y') (h2 : y < x ↔ y' < x') : cmp3 x y = cmp3 x' y' := by unfold cmp3; simp only [h1, h2]
/-- The words of values that may be. -/
def fit (k i b : Int) (s : ByteArray) : Prop := 0 ≤ k ∧ k ≤ 4 ∧ s.size ≤ 40 ∧ (k = 0 → i = 0) ∧ (k = 3 → FloatOrd.fine b.toNat ∧ b ≠ 9223372036854775808)

theorem risen_key (b b' : Int) (h0 : 0 ≤ b) (h1 : b ≤ 18446744073709551615) (h0' : 0 ≤ b') (h1' : b' ≤ 18446744073709551615) (hb : b ≠ 9223372036854775808) (hb' : b' ≠ 9223372036854775808) :
    cmp3 (risen b) (risen b') = cmp3 (FloatOrd.key b.toNat) (FloatOrd.key b'.toNat) := by
  have k1 : FloatOrd.key b.toNat = if b < 9223372036854775808 then b else 9223372036854775808 - b := by
    unfold FloatOrd.key; split <;> split <;> omega
  have k2 : FloatOrd.key b'.toNat = if b' < 9223372036854775808 then b' else 9223372036854775808 - b' := by
    unfold FloatOrd.key; split <;> split <;> omega
  rw [k1, k2]
  unfold risen
  by_cases c1 : b < 9223372036854775808 <;> by_cases c2 : b' < 9223372036854775808
  · rw [if_pos c1, if_pos c2, if_pos c1, if_pos c2]; exact cmp3_congr (by omega) (by omega)
  · rw [if_pos c1, if_neg c2, if_pos c1, if_neg c2]; exact cmp3_congr (by omega) (by omega)
  · rw [if_neg c1, if_pos c2, if_neg c1, if_pos c2]; exact cmp3_congr (by omega) (by omega)
  · rw [if_neg c1, if_neg c2, if_neg c1, if_neg c2]; exact cmp3_congr (by omega) (by omega)

set_option maxHeartbeats 2000000 in
theorem refOrder_real (i b : Int) (s : ByteArray) (i' b' : Int) (s' : ByteArray) (w : World) (h0 : 0 ≤ b) (h1 : b ≤ 18446744073709551615) (h0' : 0 ≤ b') (h1' : b' ≤ 18446744073709551615) :
    Calls Tryz.prog 116 #[.agg #[.int .i64 3, .int .i64 i, .int .u64 b, .string s], .agg #[.int .i64 3, .int .i64 i', .int .u64 b', .string s']] w fun e w' => e = .returned (.int .i64 (cmp3 (risen b) (risen b'))) ∧ Below w.heap.size w w' := by
  have cR := fun w => risen_any b w h0 h1
  have cR' := fun w => risen_any b' w h0' h1'
  have cB := fun w => bitsOrder_any (risen b) (risen b') w
  clear h0 h1 h0' h1'
  go_enter Tryz.func116, Tryz.ntmps116
  go_wp2_with fail
  go_region_with (first | (go_at_call_of 153 (Value.int .u64 b); refine (cR _).mono ?_; rintro e w1 ⟨rfl, rfl⟩) | (go_at_call 153; refine (cR' _).mono ?_; rintro e w1 ⟨rfl, rfl⟩) | (go_at_call 152; refine (cB _).mono ?_; rintro e w' ⟨rfl, rfl⟩))
  all_goals go_wp2
  all_goals go_ret
  all_goals exact ⟨rfl, (((Below.refl _ _).alloc (Nat.le_refl _) _).alloc (by simp) _).drew⟩

set_option maxHeartbeats 1000000 in
theorem refOrder_any (k i b : Int) (s : ByteArray) (k' i' b' : Int) (s' : ByteArray) (w : World) (hk0 : 0 ≤ k) (hk4 : k ≤ 4) (hk0' : 0 ≤ k') (hk4' : k' ≤ 4) (hi : -9223372036854775808 ≤ i) (hi1 : i ≤ 9223372036854775807) (hi' : -9223372036854775808 ≤ i') (hi1' : i' ≤ 9223372036854775807)
    (h0 : 0 ≤ b) (h1 : b ≤ 18446744073709551615) (h0' : 0 ≤ b') (h1' : b' ≤ 18446744073709551615) (hs : s.size ≤ 9223372036854775807) (hs' : s'.size ≤ 9223372036854775807)
    (hn : k = 0 → i = 0) (hn' : k' = 0 → i' = 0) (hr : k = 3 → b ≠ 9223372036854775808) (hr' : k' = 3 → b' ≠ 9223372036854775808) :
    Calls Tryz.prog 116 #[.agg #[.int .i64 k, .int .i64 i, .int .u64 b, .string s], .agg #[.int .i64 k', .int .i64 i', .int .u64 b', .string s']] w fun e w' => e = .returned (.int .i64 (ord k i b s k' i' b' s')) ∧ Below w.heap.size w w' := by
  unfold ord
  by_cases hk : k = k'
  · subst hk
    rw [if_neg (by omega)]
    have ints : (k == 3) = false → (k == 4) = false → Calls Tryz.prog 116 #[.agg #[.int .i64 k, .int .i64 i, .int .u64 b, .string s], .agg #[.int .i64 k, .int .i64 i', .int .u64 b', .string s']] w fun e w' => e = .returned (.int .i64 (cmp3 i i')) ∧ Below w.heap.size w w' := by
      intro k3 k4
      have e1 : IntKind.u64.wrap (IntKind.u64.wrap i + 9223372036854775808) = i + 9223372036854775808 := by
        show (i % 18446744073709551616 + 9223372036854775808) % 18446744073709551616 = _; omega
      have e2 : IntKind.u64.wrap (IntKind.u64.wrap i' + 9223372036854775808) = i' + 9223372036854775808 := by
        show (i' % 18446744073709551616 + 9223372036854775808) % 18446744073709551616 = _; omega
      have cB := fun w => bitsOrder_any (IntKind.u64.wrap (IntKind.u64.wrap i + 9223372036854775808)) (IntKind.u64.wrap (IntKind.u64.wrap i' + 9223372036854775808)) w
      have e3 : cmp3 (IntKind.u64.wrap (IntKind.u64.wrap i + 9223372036854775808)) (IntKind.u64.wrap (IntKind.u64.wrap i' + 9223372036854775808)) = cmp3 i i' := by
        rw [e1, e2]; exact cmp3_congr (by omega) (by omega)
      rw [e3] at cB
      clear e1 e2 e3 hn hn' hr hr' hk0 hk4 hk0' hk4' hi hi1 hi' hi1' h0 h1 h0' h1' hs hs'
      go_enter Tryz.func116, Tryz.ntmps116
      go_wp2_with fail
      refine (cB _).mono ?_
      rintro e w1 ⟨rfl, rfl⟩
      go_wp2_with fail
      go_ret
      exact ⟨rfl, ((Below.refl _ _).alloc (Nat.le_refl _) _).alloc (by simp) _⟩
    rcases (show k = 0 ∨ k = 1 ∨ k = 2 ∨ k = 3 ∨ k = 4 by omega) with rfl | rfl | rfl | rfl | rfl
    · have := ints rfl rfl
      rw [hn rfl, hn' rfl] at this ⊢
      exact this
    · exact ints rfl rfl
    · exact ints rfl rfl
    · have := refOrder_real i b s i' b' s' w h0 h1 h0' h1'
      rw [risen_key b b' h0 h1 h0' h1' (hr rfl) (hr' rfl)] at this
      exact this
    · have cC := fun w => bytesOrder_any s s' w hs hs'
      clear hn hn' hr hr' ints
      go_enter Tryz.func116, Tryz.ntmps116
      go_wp2_with fail
      refine (cC _).mono ?_
      rintro e w1 ⟨rfl, hb⟩
      go_wp2_with fail
      go_ret
      exact ⟨rfl, (((Below.refl _ _).alloc (Nat.le_refl _) _).alloc (by simp) _).trans (hb.mono (by simp; omega))⟩
  · rw [if_pos hk]
    have hk' : (k == k') = false := by simpa using hk
    have cC := fun w => sign_any (k - k') w
    have e : cmp3 (k - k') 0 = cmp3 k k' := cmp3_congr (by omega) (by omega)
    rw [e] at cC
    clear hk e hn hn' hr hr'
    go_enter Tryz.func116, Tryz.ntmps116
    go_wp2_with fail
    refine (cC _).mono ?_
    rintro e w1 ⟨rfl, rfl⟩
    go_wp2_with fail
    go_ret
    exact ⟨rfl, ((Below.refl _ _).alloc (Nat.le_refl _) _).alloc (by simp) _⟩
end Go.Proofs.YtfedlchncngafaaGreatDoor

/-! CONTRACTS of package value's checkBoth and of the reference's faults (over a slice of values), Compare, Compared. CONDITIONS: each theorem's own hypotheses. -/
namespace Go.Proofs.YtfedlchncngafaaGreatDoor
open Go.RowKit
set_option linter.unusedVariables false

/-- A value's four fields. -/
structure V where
  k : Int
  i : Int
  b : Int
  s : ByteArray
/-- Its fields are numbers of 64 bits, its text is a string. -/
structure V.Fits (v : V) : Prop where
  k0 : -9223372036854775808 ≤ v.k
  k1 : v.k ≤ 9223372036854775807
  i0 : -9223372036854775808 ≤ v.i
  i1 : v.i ≤ 9223372036854775807
  b0 : 0 ≤ v.b
  b1 : v.b ≤ 18446744073709551615
  s1 : v.s.size ≤ 9223372036854775807
def V.chk (v : V) : Int := Go.Proofs.YtfedlchncngafaaGreatDoor.chk v.k v.i v.b v.s
def firstFault : List V → Int
  | [] => 0
  | v :: l => if v.chk = 0 then firstFault l else v.chk

theorem firstFault_cons (v : V) (l : List V) : firstFault (v :: l) = if v.chk = 0 then firstFault l else v.chk := rfl

/-- The cells of a list of values from an address on. -/
def Lies (w : World) (a : Nat) (o : Nat) (l : List V) : Prop :=
  ∀ j v, l[j]? = some v → w.cell? ⟨a, o + j * 4, none⟩ = some (.int .i64 v.k) ∧ w.cell? ⟨a, o + j * 4 + 1, none⟩ = some (.int .i64 v.i) ∧ w.cell? ⟨a, o + j * 4 + 2, none⟩ = some (.int .u64 v.b) ∧ w.cell? ⟨a, o + j * 4 + 3, none⟩ = some (.string v.s)

/-- What is wrong with two values, with the first one first. -/
def chk2 (v u : V) : Int := if v.chk = 0 then u.chk else v.chk

theorem checkBoth_any (v u : V) (w : World) (hv : v.Fits) (hu : u.Fits) (hT : Tabs w) :
    Calls Tryz.prog 236 #[.agg #[.int .i64 v.k, .int .i64 v.i, .int .u64 v.b, .string v.s], .agg #[.int .i64 u.k, .int .i64 u.i, .int .u64 u.b, .string u.s]] w fun e w' => e = .returned (.int .i64 (chk2 v u)) ∧ Below w.heap.size w w' := by
  have cV := fun w => check_any v.k v.i v.b v.s w hv.b0 hv.b1 hv.s1
  have cU := fun w => check_any u.k u.i u.b u.s w hu.b0 hu.b1 hu.s1
  have e1 : chk v.k v.i v.b v.s = v.chk := rfl
  have e2 : chk u.k u.i u.b u.s = u.chk := rfl
  rw [e1] at cV
  rw [e2] at cU
  have hT2 : ∀ o1 o2, Tabs ((w.alloc o1).alloc o2) := fun o1 o2 => tabs_below hT (((Below.refl _ _).alloc (Nat.le_refl _) _).alloc (by simp) _)
  unfold chk2
  clear hv hu hT e1 e2
  cases hz : (v.chk == 0)
  · rw [if_neg (by simpa using hz)]
    clear cU
    go_enter Tryz.func236, Tryz.ntmps236
    go_wp2_with fail
    refine (cV _ (hT2 _ _)).mono ?_
    rintro e w1 ⟨rfl, hb⟩
    clear cV hT2
    go_wp2_with fail
    go_ret
    exact ⟨rfl, two_below hb⟩
  · have he : v.chk = 0 := by simpa using hz
    rw [if_pos he]
    rw [he] at cV
    clear he hz
    go_enter Tryz.func236, Tryz.ntmps236
    go_wp2_with fail
    refine (cV _ (hT2 _ _)).mono ?_
    rintro e w1 ⟨rfl, hb⟩
    have hTb := tabs_below (hT2 _ _) hb
    obtain ⟨hc, hf⟩ := bcell hb
    clear cV hT2
    go_wp2_with fail
    refine (cU _ hTb).mono ?_
    rintro e w2 ⟨rfl, hb2⟩
    clear cU hc hf
    go_wp2_with fail
    go_ret
    exact ⟨rfl, (two_below hb).trans (hb2.mono (by have := hb.size; simp at this; omega))⟩
end Go.Proofs.YtfedlchncngafaaGreatDoor

/-! CONTRACTS of package value's Compare and of the reference's Compared. CONDITIONS: each theorem's own hypotheses. -/
namespace Go.Proofs.YtfedlchncngafaaGreatDoor
open Go.RowKit
set_option linter.unusedVariables false

structure V.Good (v : V) : Prop where
  k0 : 0 ≤ v.k
  k4 : v.k ≤ 4
  s40 : v.s.size ≤ 40
  null : v.k = 0 → v.i = 0
  real : v.k = 3 → FloatOrd.fine v.b.toNat
  nought : v.k = 3 → v.b ≠ 9223372036854775808

theorem good_of (v : V) (hv : v.Fits) (h : v.chk = 0) : v.Good := by
  unfold V.chk chk at h
  by_cases c1 : v.k < 0 ∨ 4 < v.k
  · rw [if_pos c1] at h; omega
  rw [if_neg c1] at h
  by_cases c2 : 40 < v.s.size
  · rw [if_pos c2] at h; omega
  rw [if_neg c2] at h
  by_cases c3 : (own v.k v.i v.b v.s && good v.k v.i v.b v.s) = true
  · simp only [Bool.and_eq_true] at c3
    obtain ⟨ho, hg⟩ := c3
    refine ⟨by omega, by omega, by omega, fun e => ?_, fun e => ?_, fun e => ?_⟩
    · unfold own at ho; rw [e] at ho; simp at ho; exact ho.1
    · unfold good at hg; rw [e] at hg; simp [nan] at hg
      exact ⟨by have := hv.b1; omega, by omega⟩
    · unfold good at hg; rw [e] at hg; simp at hg; exact hg.2
  · rw [if_neg c3] at h; omega

theorem good2 (v u : V) (hv : v.Fits) (hu : u.Fits) (h : chk2 v u = 0) : v.Good ∧ u.Good := by
  unfold chk2 at h
  by_cases c : v.chk = 0
  · rw [if_pos c] at h; exact ⟨good_of v hv c, good_of u hu h⟩
  · rw [if_neg c] at h; exact absurd h c

def ordV (v u : V) : Int := ord v.k v.i v.b v.s u.k u.i u.b u.s
def compareR (v u : V) : Int := if chk2 v u = 0 then ordV v u else 0

theorem order_v (v u : V) (w : World) (hv : v.Good) (hu : u.Good) :
    Calls Tryz.prog 237 #[.agg #[.int .i64 v.k, .int .i64 v.i, .int .u64 v.b, .string v.s], .agg #[.int .i64 u.k, .int .i64 u.i, .int .u64 u.b, .string u.s]] w fun e w' => e = .returned (.int .i64 (ordV v u)) ∧ Below w.heap.size w w' :=
  order_any v.k v.i v.b v.s u.k u.i u.b u.s w hv.real hu.real
theorem refOrder_v (v u : V) (w : World) (fv : v.Fits) (fu : u.Fits) (hv : v.Good) (hu : u.Good) :
    Calls Tryz.prog 116 #[.agg #[.int .i64 v.k, .int .i64 v.i, .int .u64 v.b, .string v.s], .agg #[.int .i64 u.k, .int .i64 u.i, .int .u64 u.b, .string u.s]] w fun e w' => e = .returned (.int .i64 (ordV v u)) ∧ Below w.heap.size w w' :=
  refOrder_any v.k v.i v.b v.s u.k u.i u.b u.s w hv.k0 hv.k4 hu.k0 hu.k4 fv.i0 fv.i1 fu.i0 fu.i1 fv.b0 fv.b1 fu.b0 fu.b1 fv.s1 fu.s1 hv.null hu.null hv.nought hu.nought

end Go.Proofs.YtfedlchncngafaaGreatDoor

/-! CONTRACTS of package value's Equal and Less (through ask and its two function values) and of the reference's Held. CONDITIONS: each theorem's own hypotheses. -/
namespace Go.Proofs.YtfedlchncngafaaGreatDoor
open Go.RowKit
set_option linter.unusedVariables false

theorem cmp3_range (x y : Int) : cmp3 x y = -1 ∨ cmp3 x y = 0 ∨ cmp3 x y = 1 := by unfold cmp3; split <;> (try split) <;> omega
theorem cmpB_range : ∀ a b : List UInt8, Lib.compareBytes a b = -1 ∨ Lib.compareBytes a b = 0 ∨ Lib.compareBytes a b = 1
  | [], [] => by simp [Lib.compareBytes]
  | [], _ :: _ => by simp [Lib.compareBytes]
  | _ :: _, [] => by simp [Lib.compareBytes]
  | a :: l, b :: m => by
    have := cmpB_range l m
    unfold Lib.compareBytes
    split
    · omega
    · split
      · omega
      · exact this
theorem ordV_range (v u : V) : ordV v u = -1 ∨ ordV v u = 0 ∨ ordV v u = 1 := by
  unfold ordV ord
  split
  · exact cmp3_range _ _
  · split
    · exact cmp3_range _ _
    · split
      · exact cmpB_range _ _
      · split
        · exact cmp3_range _ _
        · omega

/-- What is answered of the order of two values: its truth, and what is wrong. -/
def askT (v u : V) (p : Bool) : Int := if chk2 v u = 0 then (if v.k = 0 ∨ u.k = 0 then 1 else if v.k = u.k then (if p then 2 else 0) else 0) else 0
def askE (v u : V) : Int := if chk2 v u = 0 then (if v.k = 0 ∨ u.k = 0 then 0 else if v.k = u.k then 0 else 2) else chk2 v u

/-- The two function values. -/
theorem same_fn (n : Int) (w : World) : Calls Tryz.prog 235 #[.int .i64 n] w fun e w' => e = .returned (.bool (n == 0)) ∧ w = w' := by
  go_enter Tryz.func235, Tryz.ntmps235
  go_wp2
  go_ret
  exact ⟨rfl, rfl⟩
theorem less_fn (n : Int) (w : World) : Calls Tryz.prog 248 #[.int .i64 n] w fun e w' => e = .returned (.bool (decide (n < 0))) ∧ w = w' := by
  go_enter Tryz.func248, Tryz.ntmps248
  go_wp2
  go_ret
  exact ⟨rfl, rfl⟩

set_option maxHeartbeats 2000000 in
theorem ask_any (v u : V) (F : Nat) (p : Int → Bool) (hF : ∀ (n : Int) (w : World), Calls Tryz.prog F #[.int .i64 n] w fun e w' => e = .returned (.bool (p n)) ∧ w = w')
    (hcall : ∀ (n : Int) (w : World), (callFunc F #[.int .i64 n]).run Tryz.prog w = .ok (.enter F #[.int .i64 n]) w)
    (w : World) (hv : v.Fits) (hu : u.Fits) (hT : Tabs w) :
    Calls Tryz.prog 234 #[.agg #[.int .i64 v.k, .int .i64 v.i, .int .u64 v.b, .string v.s], .agg #[.int .i64 u.k, .int .i64 u.i, .int .u64 u.b, .string u.s], .func (.func F) #[] #[]] w fun e w' => e = .returned (.tuple #[.int .i64 (askT v u (p (ordV v u))), .int .i64 (askE v u)]) ∧ Below w.heap.size w w' := by
  have cB := fun w => checkBoth_any v u w hv hu
  have cO := fun w (h : chk2 v u = 0) => order_v v u w (good2 v u hv hu h).1 (good2 v u hv hu h).2
  have hT2 : ∀ o1 o2, Tabs ((w.alloc o1).alloc o2) := fun o1 o2 => tabs_below hT (((Below.refl _ _).alloc (Nat.le_refl _) _).alloc (by simp) _)
  unfold askT askE
  generalize chk2 v u = C at cB cO ⊢
  clear hv hu hT
  cases hz : (C == 0)
  · have hz' : ¬ C = 0 := by simpa using hz
    rw [if_neg hz', if_neg hz']
    clear cO hz' hF hcall
    go_enter Tryz.func234, Tryz.ntmps234
    go_wp2_with fail
    refine (cB _ (hT2 _ _)).mono ?_
    rintro e w1 ⟨rfl, hb⟩
    clear cB hT2
    go_wp2_with fail
    go_ret2
    exact ⟨rfl, two_below hb⟩
  · have he : C = 0 := by simpa using hz
    rw [if_pos he, if_pos he]
    have cO' := fun w => cO w he
    clear cO hz
    subst he
    by_cases n1 : v.k = 0
    · rw [if_pos (Or.inl n1), if_pos (Or.inl n1)]
      clear cO' hF hcall
      have n1' : (v.k == 0) = true := by simpa using n1
      clear n1
      go_enter Tryz.func234, Tryz.ntmps234
      go_wp2_with fail
      refine (cB _ (hT2 _ _)).mono ?_
      rintro e w1 ⟨rfl, hb⟩
      obtain ⟨hc, hf⟩ := bcell hb
      clear cB hT2
      go_wp2_with fail
      go_ret2
      exact ⟨rfl, two_below hb⟩
    · have n1' : (v.k == 0) = false := by simpa using n1
      by_cases n2 : u.k = 0
      · rw [if_pos (Or.inr n2), if_pos (Or.inr n2)]
        have n2' : (u.k == 0) = true := by simpa using n2
        clear cO' hF hcall n1 n2
        go_enter Tryz.func234, Tryz.ntmps234
        go_wp2_with fail
        refine (cB _ (hT2 _ _)).mono ?_
        rintro e w1 ⟨rfl, hb⟩
        obtain ⟨hc, hf⟩ := bcell hb
        clear cB hT2
        go_wp2_with fail
        go_ret2
        exact ⟨rfl, two_below hb⟩
      · have nn : ¬ (v.k = 0 ∨ u.k = 0) := by omega
        rw [if_neg nn, if_neg nn]
        clear nn
        have n2' : (u.k == 0) = false := by simpa using n2
        by_cases n3 : v.k = u.k
        · rw [if_pos n3, if_pos n3]
          have n3' : (v.k == u.k) = true := by simpa using n3
          have n3'' : (v.k != u.k) = false := by simp [bne, n3']
          have hP := fun w => hF (ordV v u) w
          have hcal := fun w => hcall (ordV v u) w
          generalize ordV v u = O at cO' hP hcal ⊢
          generalize p O = B at hP ⊢
          clear n1 n2 n3 hF hcall
          go_enter Tryz.func234, Tryz.ntmps234
          go_wp2_with fail
          refine (cB _ (hT2 _ _)).mono ?_
          rintro e w1 ⟨rfl, hb⟩
          obtain ⟨hc, hf⟩ := bcell hb
          clear cB hT2
          go_wp2_with fail
          refine (cO' _).mono ?_
          rintro e w2 ⟨rfl, hb2⟩
          clear cO' hc hf
          go_wp2_with fail
          refine (hP _).mono ?_
          rintro e w3 ⟨rfl, rfl⟩
          clear hP hcal
          cases B
          · go_wp2_with fail
            go_ret2
            exact ⟨rfl, (two_below hb).trans (hb2.mono (by have := hb.size; simp at this; omega))⟩
          · go_wp2_with fail
            go_ret2
            exact ⟨rfl, (two_below hb).trans (hb2.mono (by have := hb.size; simp at this; omega))⟩
        · rw [if_neg n3, if_neg n3]
          have n3' : (v.k == u.k) = false := by simpa using n3
          have n3'' : (v.k != u.k) = true := by simp [bne, n3']
          clear cO' hF hcall n1 n2 n3
          go_enter Tryz.func234, Tryz.ntmps234
          go_wp2_with fail
          refine (cB _ (hT2 _ _)).mono ?_
          rintro e w1 ⟨rfl, hb⟩
          obtain ⟨hc, hf⟩ := bcell hb
          clear cB hT2
          go_wp2_with fail
          go_ret2
          exact ⟨rfl, two_below hb⟩
end Go.Proofs.YtfedlchncngafaaGreatDoor

/-! CONTRACTS of package value's Equal and Less and of the reference's Held. CONDITIONS: each theorem's own hypotheses. -/
namespace Go.Proofs.YtfedlchncngafaaGreatDoor
open Go.RowKit
set_option linter.unusedVariables false

theorem equal_any (v u : V) (w : World) (hv : v.Fits) (hu : u.Fits) (hT : Tabs w) :
    Calls Tryz.prog 233 #[.agg #[.int .i64 v.k, .int .i64 v.i, .int .u64 v.b, .string v.s], .agg #[.int .i64 u.k, .int .i64 u.i, .int .u64 u.b, .string u.s]] w fun e w' => e = .returned (.tuple #[.int .i64 (askT v u (ordV v u == 0)), .int .i64 (askE v u)]) ∧ Below w.heap.size w w' := by
  have hT2 : ∀ o1 o2, Tabs ((w.alloc o1).alloc o2) := fun o1 o2 => tabs_below hT (((Below.refl _ _).alloc (Nat.le_refl _) _).alloc (by simp) _)
  have cA := fun w => ask_any v u 235 (fun n => n == 0) same_fn (fun n w => by go_simp) w hv hu
  clear hv hu hT
  go_enter Tryz.func233, Tryz.ntmps233
  go_wp2_with fail
  refine (cA _ (hT2 _ _)).mono ?_
  rintro e w1 ⟨rfl, hb⟩
  clear cA hT2
  go_wp2_with fail
  go_ret2
  exact ⟨rfl, two_below hb⟩

theorem less_any (v u : V) (w : World) (hv : v.Fits) (hu : u.Fits) (hT : Tabs w) :
    Calls Tryz.prog 247 #[.agg #[.int .i64 v.k, .int .i64 v.i, .int .u64 v.b, .string v.s], .agg #[.int .i64 u.k, .int .i64 u.i, .int .u64 u.b, .string u.s]] w fun e w' => e = .returned (.tuple #[.int .i64 (askT v u (decide (ordV v u < 0))), .int .i64 (askE v u)]) ∧ Below w.heap.size w w' := by
  have hT2 : ∀ o1 o2, Tabs ((w.alloc o1).alloc o2) := fun o1 o2 => tabs_below hT (((Below.refl _ _).alloc (Nat.le_refl _) _).alloc (by simp) _)
  have cA := fun w => ask_any v u 248 (fun n => decide (n < 0)) less_fn (fun n w => by go_simp) w hv hu
  clear hv hu hT
  go_enter Tryz.func247, Tryz.ntmps247
  go_wp2_with fail
  refine (cA _ (hT2 _ _)).mono ?_
  rintro e w1 ⟨rfl, hb⟩
  clear cA hT2
  go_wp2_with fail
  go_ret2
  exact ⟨rfl, two_below hb⟩

end Go.Proofs.YtfedlchncngafaaGreatDoor
