/-
  CONTRACTS of package lex's whole, readNumber, readReal.
  CONDITIONS: each theorem's own hypotheses.
-/
import Derived.Test.YtlhoakpijfhljaaDoorBlk
import Derived.Test.YtlhoakpijfhljaaDoorCutQ
import Derived.Test.YtlhoakpijfhljaaDoorShelfA
import Derived.Test.YtlhoakpijfhljaaDoorShelfI
import Derived.Shelf.Strconv.AtoiAll
import Derived.Shelf.Small.Strs
import Derived.Lib.AtoiAllCases
namespace Go.Proofs.YtlhoakpijfhljaaDoor
open Go.RowKit
set_option linter.unusedVariables false
set_option maxRecDepth 100000

/-- What reading leaves. -/
def ReadOk (R : TR) (k : Int) (s : ByteArray) (i b n c : Int) : Prop := match R with
  | .err e => c = e ∧ e ≠ 0
  | .ok t m => k = t.k ∧ s = str t.s ∧ i = t.i ∧ b = t.b ∧ n = m ∧ c = 0
def ReadPost (R : TR) (w : World) (e : Ending) (w' : World) : Prop := ∃ k s i b n c, e = .returned (.tuple #[.agg #[.int .i64 k, .string s, .int .i64 i, .int .u64 b], .int .i64 n, .int .i64 c]) ∧ Hid (ReadOk R k s i b n c) ∧ Below w.heap.size w w'
/-! ### numbers -/
theorem numV_ge : ∀ (l : List UInt8) (a : Nat), a ≤ numV l a
  | [], a => Nat.le_refl _
  | c :: l, a => by
    have := numV_ge l (a * 10 + (c.toNat - 48))
    simp only [numV]; omega
theorem parse_digits : ∀ (l : List UInt8) (a : Nat), l.all isDi = true → a < 18446744073709551616 → Lib.parseUint10 a l = if 18446744073709551616 ≤ numV l a then .range else .ok (numV l a)
  | [], a, _, ha => by
    show Lib.NumEnd.ok a = if 18446744073709551616 ≤ a then _ else Lib.NumEnd.ok a
    rw [if_neg (by omega)]
  | c :: l, a, h, ha => by
    simp only [List.all_cons, Bool.and_eq_true] at h
    have hc := h.1
    unfold isDi at hc
    simp only [Bool.and_eq_true, decide_eq_true_eq] at hc
    have e : numV (c :: l) a = numV l (a * 10 + (c.toNat - 48)) := rfl
    rw [e]
    simp only [Lib.parseUint10]
    rw [if_pos hc]
    have hge := numV_ge l (a * 10 + (c.toNat - 48))
    by_cases h1 : 1844674407370955162 ≤ a
    · rw [if_pos h1, if_pos (by omega)]
    · rw [if_neg h1]
      by_cases h2 : 18446744073709551616 ≤ a * 10 + (c.toNat - 48)
      · rw [if_pos h2, if_pos (by omega)]
      · rw [if_neg h2, parse_digits l _ h.2 (by omega)]
theorem atoi_digits (c : UInt8) (r : List UInt8) (h : (c :: r).all isDi = true) : Lib.atoiAll (c :: r) = if 9223372036854775807 < numV (c :: r) 0 then .range else .ok ((numV (c :: r) 0 : Nat) : Int) := by
  have hc : isDi c = true := by simp only [List.all_cons, Bool.and_eq_true] at h; exact h.1
  unfold isDi at hc
  simp only [Bool.and_eq_true, decide_eq_true_eq] at hc
  rw [Lib.atoiAll_plain c r (by omega) (by omega)]
  unfold Lib.parseMag
  rw [if_neg (by simp), parse_digits _ 0 h (by decide)]
  generalize numV (c :: r) 0 = v
  by_cases h1 : 18446744073709551616 ≤ v
  · rw [if_pos h1, if_pos (by omega)]; rfl
  · rw [if_neg h1]
    simp only [Lib.signless]
    by_cases h2 : 9223372036854775808 ≤ v
    · rw [if_pos h2, if_pos (by omega)]
    · rw [if_neg h2, if_neg (by omega)]
/-- strconv's ErrRange holds an error. -/
def ER (w : World) : Prop := ∃ tp p, w.cell? ⟨Tryd.laysAtoi_ren.g 16, 0, none⟩ = some (.iface tp p)
theorem ER.keep {w w1 : World} (h : ER w) (hb : Below w.heap.size w w1) : ER w1 := by
  obtain ⟨tp, p, hm⟩ := h
  exact ⟨tp, p, (hb.cell (p := ⟨Tryd.laysAtoi_ren.g 16, 0, none⟩) (World.block_lt_of_cell? _ _ hm)).trans hm⟩
def AtoiPost (v : Nat) (w : World) (e : Ending) (w' : World) : Prop := ∃ i x, e = .returned (.tuple #[.int .i64 i, x]) ∧ (if 9223372036854775807 < v then (∃ t p, x = .iface t p) else x = .nilIface ∧ i = (v : Int)) ∧ Below w.heap.size w w'
theorem takeWhile_allP (p : UInt8 → Bool) (l : List UInt8) : (l.takeWhile p).all p = true := by
  rw [List.all_eq_true]
  induction l with
  | nil => intro x h; cases h
  | cons c l ih =>
    intro x hx
    cases hc : p c with
    | true =>
      rw [List.takeWhile_cons_of_pos hc] at hx
      rcases List.mem_cons.1 hx with rfl | hx
      · exact hc
      · exact ih x hx
    | false => rw [List.takeWhile_cons_of_neg (by simp [hc])] at hx; cases hx
end Go.Proofs.YtlhoakpijfhljaaDoor
