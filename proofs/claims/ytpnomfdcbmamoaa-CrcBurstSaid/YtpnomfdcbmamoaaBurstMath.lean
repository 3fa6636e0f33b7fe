/-
  PLAIN MATHEMATICS of a burst of four bytes.
  CONDITIONS: each theorem's own hypotheses.
-/
import Derived.Test.YtpnomfdcbmamoaaCrcMath
namespace Go.Proofs.Ytpnomfdcbmamoaa
set_option linter.unusedVariables false

/-- A line with i bytes worked in from place k on. -/
def bst (l d : List UInt8) (k : Nat) : Nat → List UInt8
  | 0 => l
  | i + 1 => (bst l d k i).set (k + i) ((bst l d k i).getD (k + i) 0 ^^^ d.getD i 0)
theorem bst_length (l d : List UInt8) (k : Nat) : ∀ i, (bst l d k i).length = l.length
  | 0 => rfl
  | i + 1 => by simp [bst, bst_length l d k i]
theorem bst_get (l d : List UInt8) (k : Nat) : ∀ i p, (bst l d k i)[p]? = (l[p]?).map fun c => if k ≤ p ∧ p < k + i then c ^^^ d.getD (p - k) 0 else c
  | 0, p => by
    have h0 : ¬ (k ≤ p ∧ p < k + 0) := by omega
    show l[p]? = _
    cases l[p]? with
    | none => rfl
    | some c => rw [Option.map_some, if_neg h0]
  | i + 1, p => by
    have ih := bst_get l d k i
    simp only [bst]
    rw [List.getElem?_set, bst_length]
    by_cases hp : k + i = p
    · subst hp
      by_cases hl : k + i < l.length
      · have h1 : (bst l d k i).getD (k + i) 0 = l[k + i] := by
          rw [List.getD_eq_getElem?_getD, ih, List.getElem?_eq_getElem hl]
          simp
        have h2 : (k ≤ k + i ∧ k + i < k + (i + 1)) := by omega
        rw [if_pos rfl, if_pos hl, h1, List.getElem?_eq_getElem hl, Option.map_some, if_pos h2, Nat.add_sub_cancel_left]
      · rw [if_pos rfl, if_neg hl, List.getElem?_eq_none (by omega)]
        rfl
    · rw [if_neg hp, ih]
      cases l[p]? with
      | none => rfl
      | some c =>
        simp only [Option.map_some]
        congr 1
        by_cases h : k ≤ p ∧ p < k + i
        · rw [if_pos h, if_pos (by omega)]
        · rw [if_neg h, if_neg (by omega)]
theorem xorL_get : ∀ (a b : List UInt8) (p : Nat), (CrcMath.xorL a b)[p]? = (a[p]?).bind fun x => (b[p]?).map fun y => x ^^^ y
  | [], b, p => by cases b <;> simp [CrcMath.xorL]
  | x :: a, [], p => by cases h : (x :: a)[p]? <;> simp [CrcMath.xorL]
  | x :: a, y :: b, 0 => by simp [CrcMath.xorL]
  | x :: a, y :: b, p + 1 => by
    have := xorL_get a b p
    simpa [CrcMath.xorL] using this
theorem xor_twice (c d : UInt8) : c ^^^ (c ^^^ d) = d := by
  rw [← UInt8.xor_assoc]; simp
theorem burst_xor (l d : List UInt8) (k : Nat) (hd : d.length = 4) (hk : k ≤ l.length) :
    CrcMath.xorL l (bst l d k 4) = List.replicate k 0 ++ (d.take (l.length - k) ++ List.replicate (l.length - k - (d.take (l.length - k)).length) 0) := by
  apply List.ext_getElem?
  intro p
  rw [xorL_get, bst_get]
  have hdl : (d.take (l.length - k)).length = min (l.length - k) 4 := by rw [List.length_take, hd]
  by_cases hp : p < l.length
  · rw [List.getElem?_eq_getElem hp]
    simp only [Option.bind_some, Option.map_some]
    by_cases h1 : p < k
    · rw [List.getElem?_append_left (by simpa using h1), if_neg (by omega)]
      simp [h1]
    · rw [List.getElem?_append_right (by simp; omega), List.length_replicate]
      by_cases h2 : p < k + 4
      · rw [if_pos (by omega), List.getElem?_append_left (by omega), xor_twice, List.getElem?_take_of_lt (by omega), List.getElem?_eq_getElem (by omega), List.getD_eq_getElem?_getD, List.getElem?_eq_getElem (by omega)]
        rfl
      · rw [if_neg (by omega), List.getElem?_append_right (by omega), List.getElem?_replicate, if_pos (by omega)]
        simp
  · rw [List.getElem?_eq_none (by omega)]
    simp only [Option.bind_none]
    symm
    apply List.getElem?_eq_none
    simp only [List.length_append, List.length_replicate]
    omega
theorem burst_told (l d : List UInt8) (k : Nat) (hd : d.length = 4) (hk : k ≤ l.length) : CrcMath.crc l = CrcMath.crc (bst l d k 4) ↔ l = bst l d k 4 :=
  CrcMath.crc_burst l (bst l d k 4) (d.take (l.length - k)) k _ (bst_length l d k 4).symm (burst_xor l d k hd hk) (by rw [List.length_take, hd]; omega)
end Go.Proofs.Ytpnomfdcbmamoaa
