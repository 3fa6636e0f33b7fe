/-
  CONTRACT of package numeral's Append (for seats without stage 2's functions: the same names as in CodeA: never both in one seat).
  CONDITIONS: each theorem's own hypotheses.
-/
import Derived.Test.YtmldhnghfdhjmaaDoorOwnB
import Derived.Test.YtmldhnghfdhjmaaDoorStrA
namespace Go.Proofs.YtmldhnghfdhjmaaDoor
open Go.RowKit CodeMath
set_option linter.unusedVariables false

/-- append(b, c), one byte. -/
theorem wpList_append_one {ops : Array Oper} {rest : List Oper} {o : Oper} {a : Act} {Q : Exit → Act → World → Prop} {w : World} (hgd : o.guard = none) (s x : Operand)
    (ho : o.op = .call { callee := .builtin .append, args := #[s, x], argTypes := #[23, 23] }) (base : Nat) (v : Value) (l : List UInt8) (hs : a.eval s = v) (hown : OwnB w base v l)
    (c : Int) (b : UInt8) (m : Nat) (hx : a.eval x = .slice (some ⟨m, 0, none⟩) 1 1) (hm : m = w.heap.size) (hc : c = b.toNat) (hl : l.length ≤ 1099511627776) (hb : base ≤ w.heap.size)
    (h : ∀ v' w', OwnB w' base v' (l ++ [b]) → Below base w w' → w.grownBy w' v.ownBlock → wpList Tryd.prog ops Q rest (a.put o.dst v') w') : wpList Tryd.prog ops Q (o :: rest) a (w.alloc (.cells #[.int .u8 c] 5)) := by
  subst hm
  obtain ⟨i0, hi, hz0, hz1, hz2⟩ := info_parts infoB
  refine wpList_append_own _ hgd s x 23 ho base 5 i0 (.int .u8 0) 1 1 Tryd.underlying23 hi hz0 hz1 hz2 rfl (by decide) v l.length (cellsB l) hs (World.ownsRow.alloc hown _) ⟨w.heap.size, 0, none⟩ 1 1 [.int .u8 c] hx rfl ?_ ?_ (by unfold maxLen; omega) (by omega) (by simp; omega) ?_
  · intro j u hj
    match j, hj with
    | 0, hj =>
      simp at hj; subst hj
      rw [addr_zero, World.cell?_alloc_new]
      rfl
  · intro u hu
    simp at hu; subst hu; rfl
  · intro v' w' h1 h2 _
    refine h v' w' ?_ ?_ (grown_trans (World.grownBy_alloc w _ _) h2)
    · unfold OwnB
      rw [cellsB_append, List.length_append]
      show w'.ownsRow base 5 1 v' (l.length + 1) (cellsB l ++ [.int .u8 b.toNat])
      rw [← hc]; exact h1
    · exact ((Below.refl base w).alloc hb _).grown h2 (by simp; omega) (fun k hk => (hown.lt k hk).1)

theorem shifted (n : Int) (j : Nat) : n / 2 ^ (8 * j) % 256 = ((lowB (n / 256 ^ j)).toNat : Int) := by
  rw [lowB_toNat, Int.pow_mul]; rfl

set_option maxRecDepth 100000 in
set_option maxHeartbeats 2000000 in
theorem numAppend_any (n : Int) (h0 : 0 ≤ n) (h1 : n ≤ 18446744073709551615) (k : Nat) (kI : Int) (hkI : kI = k) (hk8 : k ≤ 8) (base : Nat) (v : Value) (l : List UInt8) (w : World) (hown : OwnB w base v l) (hb : base ≤ w.heap.size) (hl : l.length ≤ 1099511627000) :
    Calls Tryd.prog 52 #[v, .int .u64 n, .int .i64 kI] w fun e w' => ∃ v', e = .returned v' ∧ OwnB w' base v' (l ++ be n k) ∧ Below base w w' := by
  have k0 : 0 ≤ kI := by omega
  have k1 : kI ≤ 8 := by omega
  go_enter Tryd.func52, Tryd.ntmps52
  go_wp2
  go_loopw [0, 9] (fun u i wr => ∃ (t : Nat) (pre : List UInt8), t ≤ k ∧ i = .int .i64 t ∧ Hid (pre ++ be n (k - t) = be n k) ∧ Hid (pre.length = t) ∧ OwnB wr base u (l ++ pre) ∧ Below base w wr) (fun _ i _ => k - (intOf i).toNat)
  case atStart => exact ⟨0, [], by omega, rfl, rfl, rfl, by simpa using hown, Below.refl _ _⟩
  case round =>
    obtain ⟨t, pre, ht, rfl, hp, hpl, ho, hbw⟩ := hrel
    by_cases htk : t < k
    · have hI : (t : Int) < kI := by omega
      obtain ⟨j, hj⟩ : ∃ j, k - t = j + 1 := ⟨k - t - 1, by omega⟩
      have hj' : k - (t + 1) = j := by omega
      have hjI : kI - 1 - (t : Int) = j := by omega
      have h8 : j < 8 := by omega
      have hp2 : Hid ((pre ++ [lowB (n / 256 ^ j)]) ++ be n (k - (t + 1)) = be n k) := by
        have := hp.out
        show _ = _
        rw [← this, hj, hj']; simp [be]
      have hpl2 : Hid ((pre ++ [lowB (n / 256 ^ j)]).length = t + 1) := by
        have := hpl.out
        show _ = _
        rw [List.length_append, this]; simp
      have hll : (l ++ pre).length ≤ 1099511627776 := by have := hpl.out; simp; omega
      have hbb : base ≤ wr.heap.size := by have := hbw.size; omega
      have hst : (t : Int) ≤ 8 := by omega
      have HT := Lib.hid htk
      have HKK := Lib.hid hkI
      clear hp hpl hown hb hj hj' ht htk hkI
      go_wp2_with (first | (at_builtin; refine wpList_append_one rfl _ _ rfl base _ _ rfl ho _ (lowB (n / 256 ^ j)) _ rfl (by first | rfl | simp) (shifted n j) hll hbb ?_; intro v' w1 ho1 hb1 hg1) | go_in)
      go_roundw
      case rel => exact ⟨t + 1, _, HT.out, by go_num, hp2, hpl2, by rw [← List.append_assoc]; exact ho1, hbw.trans hb1⟩
      case measure => have := HT.out; simp [intOf]; omega
    · have hI : ¬ ((t : Int) < kI) := by omega
      have hte : t = k := by omega
      have hp' := hp.out
      rw [hte, Nat.sub_self] at hp'
      have hq : pre = be n k := by simpa [be] using hp'
      subst hq
      clear hp hp' hpl hte htk
      go_wp2
      go_ret
      exact ⟨_, rfl, ho, hbw⟩
end Go.Proofs.YtmldhnghfdhjmaaDoor
