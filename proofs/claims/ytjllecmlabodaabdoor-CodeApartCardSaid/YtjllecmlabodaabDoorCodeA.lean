/-
  CONTRACTS of package code's small functions that lay bytes: appendNumber, appendText, rankOfReal, turning, turn.
  CONDITIONS: each theorem's own hypotheses.
-/
import Derived.Test.YtjllecmlabodaabDoorValA
import Derived.Test.YtjllecmlabodaabDoorCodeMath
namespace Go.Proofs.YtjllecmlabodaabDoor
open Go.RowKit CodeMath
set_option linter.unusedVariables false

/-- Bytes as cells. -/
def cellsB (l : List UInt8) : List Value := l.map fun x => .int .u8 x.toNat
theorem cellsB_length (l : List UInt8) : (cellsB l).length = l.length := by simp [cellsB]
theorem cellsB_append (l m : List UInt8) : cellsB (l ++ m) = cellsB l ++ cellsB m := by simp [cellsB]
/-- A slice of bytes of the call's own. -/
def OwnB (w : World) (base : Nat) (v : Value) (l : List UInt8) : Prop := w.ownsRow base 5 1 v l.length (cellsB l)
theorem infoB : (Tryd.prog.info? 5).map (fun i => (i.zero, i.size, i.bytes)) = some (some (.int .u8 0), 1, 1) := by kernel_rfl

theorem grown_trans {a b c : World} {row : Option Nat} (h : a.grownBy b row) (k : b.grownBy c row) : a.grownBy c row :=
  ⟨k.os.trans h.os, k.tape.trans h.tape, k.output.trans h.output, Nat.le_trans h.size k.size, fun i hi hn => (k.block i (Nat.lt_of_lt_of_le hi h.size) hn).trans (h.block i hi hn)⟩
theorem addr_zero (b : Nat) : (⟨b, 0, none⟩ : Addr).add 0 = ⟨b, 0, none⟩ := by simp [Addr.add]
/-- append(b, c), one byte. -/
theorem wpList_append_byte {ops : Array Oper} {rest : List Oper} {o : Oper} {a : Act} {Q : Exit → Act → World → Prop} {w : World} (hgd : o.guard = none) (s x : Operand)
    (ho : o.op = .call { callee := .builtin .append, args := #[s, x], argTypes := #[23, 23] }) (base : Nat) (v : Value) (l : List UInt8) (hs : a.eval s = v) (hown : OwnB w base v l)
    (c : Int) (b : UInt8) (m : Nat) (hx : a.eval x = .slice (some ⟨m, 0, none⟩) 1 1) (hm : m = w.heap.size) (hc : c = b.toNat) (hl : l.length ≤ 1000000) (hb : base ≤ w.heap.size)
    (h : ∀ v' w', OwnB w' base v' (l ++ [b]) → Below base w w' → w.grownBy w' v.ownBlock → wpList Tryd.prog ops Q rest (a.put o.dst v') w') : wpList Tryd.prog ops Q (o :: rest) a (w.alloc (.cells #[.int .u8 c] 5)) := by
  subst hm
  obtain ⟨i0, hi, hz0, hz1, hz2⟩ := info_parts infoB
  refine wpList_append_own _ hgd s x 23 ho base 5 i0 (.int .u8 0) 1 1 Tryd.underlying23 hi hz0 hz1 hz2 rfl (by decide) v l.length (cellsB l) hs (World.ownsRow.alloc hown _) ⟨w.heap.size, 0, none⟩ 1 1 [.int .u8 c] hx rfl ?_ ?_ (by unfold maxLen; omega) (by omega) (by simp; omega) ?_
  · intro j u hj
    match j, hj with
    | 0, hj =>
      simp at hj; subst hj
      rw [addr_zero, World.cell?_alloc_new]
      rfl
  · intro u hu
    simp at hu; subst hu; rfl
  · intro v' w' h1 h2 _
    refine h v' w' ?_ ?_ (grown_trans (World.grownBy_alloc w _ _) h2)
    · unfold OwnB
      rw [cellsB_append, List.length_append]
      show w'.ownsRow base 5 1 v' (l.length + 1) (cellsB l ++ [.int .u8 b.toNat])
      rw [← hc]; exact h1
    · exact ((Below.refl base w).alloc hb _).grown h2 (by simp; omega) (fun k hk => (hown.lt k hk).1)

theorem shifted (n : Int) (j : Nat) : n / 2 ^ (8 * j) % 256 = ((lowB (n / 256 ^ j)).toNat : Int) := by
  rw [lowB_toNat, Int.pow_mul]; rfl

set_option maxRecDepth 100000 in
set_option maxHeartbeats 2000000 in
theorem numAppend_any (n : Int) (h0 : 0 ≤ n) (h1 : n ≤ 18446744073709551615) (k : Nat) (kI : Int) (hkI : kI = k) (hk8 : k ≤ 8) (base : Nat) (v : Value) (l : List UInt8) (w : World) (hown : OwnB w base v l) (hb : base ≤ w.heap.size) (hl : l.length ≤ 999990) :
    Calls Tryd.prog 40 #[v, .int .u64 n, .int .i64 kI] w fun e w' => ∃ v', e = .returned v' ∧ OwnB w' base v' (l ++ be n k) ∧ Below base w w' := by
  have k0 : 0 ≤ kI := by omega
  have k1 : kI ≤ 8 := by omega
  go_enter Tryd.func40, Tryd.ntmps40
  go_wp2
  go_loopw [0, 9] (fun u i wr => ∃ (t : Nat) (pre : List UInt8), t ≤ k ∧ i = .int .i64 t ∧ Hid (pre ++ be n (k - t) = be n k) ∧ Hid (pre.length = t) ∧ OwnB wr base u (l ++ pre) ∧ Below base w wr) (fun _ i _ => k - (intOf i).toNat)
  case atStart => exact ⟨0, [], by omega, rfl, rfl, rfl, by simpa using hown, Below.refl _ _⟩
  case round =>
    obtain ⟨t, pre, ht, rfl, hp, hpl, ho, hbw⟩ := hrel
    by_cases htk : t < k
    · have hI : (t : Int) < kI := by omega
      obtain ⟨j, hj⟩ : ∃ j, k - t = j + 1 := ⟨k - t - 1, by omega⟩
      have hj' : k - (t + 1) = j := by omega
      have hjI : kI - 1 - (t : Int) = j := by omega
      have h8 : j < 8 := by omega
      have hp2 : Hid ((pre ++ [lowB (n / 256 ^ j)]) ++ be n (k - (t + 1)) = be n k) := by
        have := hp.out
        show _ = _
        rw [← this, hj, hj']; simp [be]
      have hpl2 : Hid ((pre ++ [lowB (n / 256 ^ j)]).length = t + 1) := by
        have := hpl.out
        show _ = _
        rw [List.length_append, this]; simp
      have hll : (l ++ pre).length ≤ 1000000 := by have := hpl.out; simp; omega
      have hbb : base ≤ wr.heap.size := by have := hbw.size; omega
      have hst : (t : Int) ≤ 8 := by omega
      have HT := Lib.hid htk
      have HKK := Lib.hid hkI
      clear hp hpl hown hb hj hj' ht htk hkI
      go_wp2_with (first | (at_builtin; refine wpList_append_byte rfl _ _ rfl base _ _ rfl ho _ (lowB (n / 256 ^ j)) _ rfl (by first | rfl | simp) (shifted n j) hll hbb ?_; intro v' w1 ho1 hb1 hg1) | go_in)
      go_roundw
      case rel => exact ⟨t + 1, _, HT.out, by go_num, hp2, hpl2, by rw [← List.append_assoc]; exact ho1, hbw.trans hb1⟩
      case measure => have := HT.out; simp [intOf]; omega
    · have hI : ¬ ((t : Int) < kI) := by omega
      have hte : t = k := by omega
      have hp' := hp.out
      rw [hte, Nat.sub_self] at hp'
      have hq : pre = be n k := by simpa [be] using hp'
      subst hq
      clear hp hp' hpl hte htk
      go_wp2
      go_ret
      exact ⟨_, rfl, ho, hbw⟩
theorem appendNumber_any (n : Int) (h0 : 0 ≤ n) (h1 : n ≤ 18446744073709551615) (base : Nat) (v : Value) (l : List UInt8) (w : World) (hown : OwnB w base v l) (hb : base ≤ w.heap.size) (hl : l.length ≤ 999990) :
    Calls Tryd.prog 40 #[v, .int .u64 n, .int .i64 8] w fun e w' => ∃ v', e = .returned v' ∧ OwnB w' base v' (l ++ be n 8) ∧ Below base w w' :=
  numAppend_any n h0 h1 8 8 rfl (by decide) base v l w hown hb hl

/-- append(b, c, d), two bytes. -/
theorem wpList_append_two {ops : Array Oper} {rest : List Oper} {o : Oper} {a : Act} {Q : Exit → Act → World → Prop} {w : World} (hgd : o.guard = none) (s x : Operand)
    (ho : o.op = .call { callee := .builtin .append, args := #[s, x], argTypes := #[23, 23] }) (base : Nat) (v : Value) (l : List UInt8) (hs : a.eval s = v) (hown : OwnB w base v l)
    (c d : Int) (b e : UInt8) (m : Nat) (hx : a.eval x = .slice (some ⟨m, 0, none⟩) 2 2) (hm : m = w.heap.size) (hc : c = b.toNat) (hd : d = e.toNat) (hl : l.length ≤ 1000000) (hb : base ≤ w.heap.size)
    (h : ∀ v' w', OwnB w' base v' (l ++ [b, e]) → Below base w w' → w.grownBy w' v.ownBlock → wpList Tryd.prog ops Q rest (a.put o.dst v') w') : wpList Tryd.prog ops Q (o :: rest) a (w.alloc (.cells #[.int .u8 c, .int .u8 d] 5)) := by
  subst hm
  obtain ⟨i0, hi, hz0, hz1, hz2⟩ := info_parts infoB
  refine wpList_append_own _ hgd s x 23 ho base 5 i0 (.int .u8 0) 1 1 Tryd.underlying23 hi hz0 hz1 hz2 rfl (by decide) v l.length (cellsB l) hs (World.ownsRow.alloc hown _) ⟨w.heap.size, 0, none⟩ 2 2 [.int .u8 c, .int .u8 d] hx rfl ?_ ?_ (by unfold maxLen; omega) (by omega) (by simp; omega) ?_
  · intro j u hj
    match j, hj with
    | 0, hj =>
      simp at hj; subst hj
      rw [addr_zero, World.cell?_alloc_new]
      rfl
    | 1, hj =>
      simp at hj; subst hj
      rw [show (⟨w.heap.size, 0, none⟩ : Addr).add 1 = ⟨w.heap.size, 1, none⟩ by simp [Addr.add], World.cell?_alloc_new]
      rfl
  · intro u hu
    simp at hu; rcases hu with rfl | rfl <;> rfl
  · intro v' w' h1 h2 _
    refine h v' w' ?_ ?_ (grown_trans (World.grownBy_alloc w _ _) h2)
    · unfold OwnB
      rw [cellsB_append, List.length_append]
      show w'.ownsRow base 5 1 v' (l.length + 2) (cellsB l ++ [.int .u8 b.toNat, .int .u8 e.toNat])
      rw [← hc, ← hd]; exact h1
    · exact ((Below.refl base w).alloc hb _).grown h2 (by simp; omega) (fun k hk => (hown.lt k hk).1)

theorem esc_step (l : List UInt8) (n : Nat) (h : n < l.length) : esc (l.drop n) = (if l[n] = 0 then [0, 255] else [l[n]]) ++ esc (l.drop (n + 1)) := by
  rw [List.drop_eq_getElem_cons h, esc]
  split
  · rfl
  · rfl

set_option maxRecDepth 100000 in
set_option maxHeartbeats 2000000 in
theorem appendText_any (s : ByteArray) (base : Nat) (v : Value) (l : List UInt8) (w : World) (hown : OwnB w base v l) (hb : base ≤ w.heap.size) (hl : l.length + 2 * s.size ≤ 999990) :
    Calls Tryd.prog 42 #[v, .string s] w fun e w' => ∃ v', e = .returned v' ∧ OwnB w' base v' (l ++ (esc s.data.toList ++ [0, 1])) ∧ Below base w w' := by
  obtain ⟨ANS, hANS⟩ : ∃ ANS, esc s.data.toList = ANS := ⟨_, rfl⟩
  rw [hANS]
  go_enter Tryd.func42, Tryd.ntmps42
  go_wp2
  go_loopw [0, 5] (fun u i wr => ∃ (n : Nat) (pre : List UInt8), n ≤ s.size ∧ i = .int .i64 n ∧ Hid (pre ++ esc (s.data.toList.drop n) = ANS) ∧ pre.length ≤ 2 * n ∧ OwnB wr base u (l ++ pre) ∧ Below base w wr) (fun _ i _ => s.size - (intOf i).toNat)
  case atStart => exact ⟨0, [], Nat.zero_le _, rfl, hANS, by simp, by simpa using hown, Below.refl _ _⟩
  case round =>
    obtain ⟨n, pre, hn, rfl, hp, hpl, ho, hbw⟩ := hrel
    have hll : (l ++ pre).length + 1 ≤ 1000000 := by simp; omega
    have hbb : base ≤ wr.heap.size := by have := hbw.size; omega
    have la := Lib.size_eq s
    by_cases h1 : n < s.size
    · have hs := esc_step s.data.toList n (by omega)
      have ea : s.data.toList[n]'(by omega) = s[n] := by rw [Array.getElem_toList]; rfl
      rw [ea] at hs
      have hp' := hp.out
      rw [hs] at hp'
      clear hs ea la hp hown hb hANS
      by_cases hz : s[n] = 0
      · rw [if_pos hz, ← List.append_assoc] at hp'
        have hq := Lib.hid hp'
        have ht : ((s[n].toNat : Int) == 0) = true := by rw [hz]; rfl
        have hlen : (pre ++ [0, 255]).length ≤ 2 * (n + 1) := by simp; omega
        have hl1 : (l ++ pre).length ≤ 1000000 := by omega
        have hl2 : ((l ++ pre) ++ [s[n]]).length ≤ 1000000 := by rw [List.length_append]; simp only [List.length_singleton]; omega
        have HZ := Lib.hid hz
        clear hp' hz
        go_wp2_with (first | (at_builtin; refine wpList_append_byte rfl (.tmp 12) (.tmp 16) rfl base _ _ rfl ho _ s[n] _ rfl (by first | rfl | simp) rfl hl1 hbb ?_; intro v1 w1 ho1 hb1 hg1; have hbb1 : base ≤ w1.heap.size := Nat.le_trans hbb hb1.size) | (at_builtin; refine wpList_append_byte rfl (.tmp 22) (.tmp 23) rfl base _ _ rfl ho1 _ 255 _ rfl (by first | rfl | simp) rfl hl2 hbb1 ?_; intro v2 w2 ho2 hb2 hg2) | go_in)
        go_roundw
        case rel => exact ⟨n + 1, pre ++ [0, 255], by omega, by go_num, hq, hlen, by rw [HZ.out] at ho2; simpa using ho2, (hbw.trans hb1).trans hb2⟩
        case measure => simp [intOf]; omega
      · rw [if_neg hz, ← List.append_assoc] at hp'
        have hq := Lib.hid hp'
        have ht : ((s[n].toNat : Int) == 0) = false := by
          simp only [beq_eq_false_iff_ne]
          intro e
          exact hz (UInt8.toNat_inj.1 (show s[n].toNat = (0 : UInt8).toNat from by simpa using e))
        have hlen : (pre ++ [s[n]]).length ≤ 2 * (n + 1) := by simp; omega
        have hl1 : (l ++ pre).length ≤ 1000000 := by omega
        clear hp' hz
        go_wp2_with (first | (at_builtin; refine wpList_append_byte rfl (.tmp 12) (.tmp 16) rfl base _ _ rfl ho _ s[n] _ rfl (by first | rfl | simp) rfl hl1 hbb ?_; intro v1 w1 ho1 hb1 hg1) | go_in)
        go_roundw
        case rel => exact ⟨n + 1, pre ++ [s[n]], by omega, by go_num, hq, hlen, by simpa using ho1, hbw.trans hb1⟩
        case measure => simp [intOf]; omega
    · have hp' := hp.out
      rw [List.drop_of_length_le (by omega)] at hp'
      have hq : pre = ANS := by simpa [esc] using hp'
      have HQ := Lib.hid hq
      have hl1 : (l ++ pre).length ≤ 1000000 := by omega
      clear hp hp' hq la hown hb hANS
      go_wp2_with (first | (at_builtin; refine wpList_append_two rfl (.tmp 25) (.tmp 26) rfl base _ _ rfl ho _ _ 0 1 _ rfl (by first | rfl | simp) rfl rfl hl1 hbb ?_; intro v1 w1 ho1 hb1 hg1) | go_in)
      go_ret
      exact ⟨_, rfl, by rw [HQ.out] at ho1; simpa using ho1, hbw.trans hb1⟩
end Go.Proofs.YtjllecmlabodaabDoor
