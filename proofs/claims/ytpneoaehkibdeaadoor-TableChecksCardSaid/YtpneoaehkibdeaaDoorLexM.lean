/-
  PLAIN WORDS of package lex: bytes, names, words, signs, and what Check answers of a token.
  CONDITIONS: none.
-/
import Derived.Test.YtpneoaehkibdeaaDoorGValB
import Derived.Lib.PathFns
import Derived.Laws.Strings2
import Derived.Laws.Strings3
namespace Go.Proofs.YtpneoaehkibdeaaDoor
open Go.RowKit
set_option linter.unusedVariables false

def isSm (c : UInt8) : Bool := decide (97 ≤ c.toNat) && decide (c.toNat ≤ 122)
def isGr (c : UInt8) : Bool := decide (65 ≤ c.toNat) && decide (c.toNat ≤ 90)
def isDi (c : UInt8) : Bool := decide (48 ≤ c.toNat) && decide (c.toNat ≤ 57)
def isBl (c : UInt8) : Bool := (decide (c.toNat = 32) || decide (c.toNat = 9)) || decide (c.toNat = 10)
def stays (c : UInt8) : Bool := (isSm c || isDi c) || decide (c.toNat = 95)
def smallsL : List UInt8 := [97, 98, 99, 100, 101, 102, 103, 104, 105, 106, 107, 108, 109, 110, 111, 112, 113, 114, 115, 116, 117, 118, 119, 120, 121, 122]
def greatsL : List UInt8 := [65, 66, 67, 68, 69, 70, 71, 72, 73, 74, 75, 76, 77, 78, 79, 80, 81, 82, 83, 84, 85, 86, 87, 88, 89, 90]
def digitsL : List UInt8 := [48, 49, 50, 51, 52, 53, 54, 55, 56, 57]
def nameTail : List UInt8 := smallsL ++ digitsL ++ [95]
theorem all_bytes {P : UInt8 → Bool} (h : (List.range 256).all (fun n => P (UInt8.ofNat n)) = true) (c : UInt8) : P c = true := by
  have := List.all_eq_true.1 h c.toNat (List.mem_range.2 c.toNat_lt)
  simpa using this
theorem smalls_has (c : UInt8) : smallsL.contains c = isSm c := by
  have := all_bytes (P := fun c => smallsL.contains c == isSm c) (by decide +kernel) c
  simpa using this
theorem greats_has (c : UInt8) : greatsL.contains c = isGr c := by
  have := all_bytes (P := fun c => greatsL.contains c == isGr c) (by decide +kernel) c
  simpa using this
theorem digits_has (c : UInt8) : digitsL.contains c = isDi c := by
  have := all_bytes (P := fun c => digitsL.contains c == isDi c) (by decide +kernel) c
  simpa using this
theorem tail_has (c : UInt8) : nameTail.contains c = stays c := by
  have := all_bytes (P := fun c => nameTail.contains c == stays c) (by decide +kernel) c
  simpa using this
theorem blanks_has (c : UInt8) : ([32, 9, 10] : List UInt8).contains c = isBl c := by
  have := all_bytes (P := fun c => ([32, 9, 10] : List UInt8).contains c == isBl c) (by decide +kernel) c
  simpa using this
theorem stays_sm {c : UInt8} (h : isSm c = true) : stays c = true := by simp [stays, h]

/-- What a text begins with, as far as its bytes are some. -/
theorem takeWhile_at (p : UInt8 → Bool) : ∀ (l : List UInt8) (n : Nat), (l.take n).all p = true → (∀ h : n < l.length, p l[n] = false) → l.takeWhile p = l.take n
  | [], n, _, _ => by simp
  | x :: l, 0, _, h2 => by
    have := h2 (by simp)
    simp at this
    simp [List.takeWhile, this]
  | x :: l, n + 1, h1, h2 => by
    simp only [List.take_succ_cons, List.all_cons, Bool.and_eq_true] at h1
    rw [List.takeWhile_cons_of_pos h1.1, List.take_succ_cons, takeWhile_at p l n h1.2 (fun h => by have := h2 (by simp; omega); simpa using this)]
theorem all_take_succ (p : UInt8 → Bool) (l : List UInt8) (n : Nat) (h : n < l.length) (h1 : (l.take n).all p = true) (h2 : p l[n] = true) : (l.take (n + 1)).all p = true := by
  rw [List.take_succ_eq_append_getElem h, List.all_append, h1]
  simp [h2]
theorem takeWhile_all (p : UInt8 → Bool) (l : List UInt8) : (l.takeWhile p == l) = l.all p := by
  induction l with
  | nil => rfl
  | cons x l ih =>
    cases h : p x with
    | true =>
      rw [List.takeWhile_cons_of_pos h, List.all_cons, h, Bool.true_and, ← ih]
      simp
    | false =>
      rw [List.takeWhile_cons_of_neg (by simp [h]), List.all_cons, h]
      simp
theorem takeWhile_len (p : UInt8 → Bool) (l : List UInt8) : decide ((l.takeWhile p).length = l.length) = l.all p := by
  rw [← takeWhile_all]
  by_cases h : l.takeWhile p = l
  · rw [h]; simp
  · have : (l.takeWhile p).length ≠ l.length := fun e => h (List.IsPrefix.eq_of_length (List.takeWhile_prefix p) e)
    rw [decide_eq_false this]
    symm; simpa using h

def nameB : List UInt8 → Bool
  | [] => false
  | c :: l => isSm c && (c :: l).all stays
def wordB (l : List UInt8) : Bool := !l.isEmpty && l.all isGr

/-- All signs, each ahead of those that it begins with. -/
def signsL : List (List UInt8) := [[60, 61], [60, 62], [62, 61], [124, 124], [40], [41], [44], [46], [61], [60], [62], [43], [45], [42], [47], [59]]
def signR (l : List UInt8) : List UInt8 := (signsL.find? (fun s => Lib.hasPrefix l s)).getD []
def signB (l : List UInt8) : Bool := signsL.contains l
theorem signR_self (l : List UInt8) : (!l.isEmpty && (signR l == l)) = signB l := by
  cases h : signB l with
  | true =>
    have hall : signsL.all (fun l => !l.isEmpty && (signR l == l)) = true := by decide +kernel
    exact List.all_eq_true.1 hall l (by simpa [signB] using h)
  | false =>
    cases h2 : (!l.isEmpty && (signR l == l)) with
    | false => rfl
    | true =>
      exfalso
      simp only [Bool.and_eq_true, Bool.not_eq_true', beq_iff_eq] at h2
      have h3 : signR l ∈ signsL := by
        unfold signR
        cases hf : signsL.find? (fun s => Lib.hasPrefix l s) with
        | none =>
          have : l = [] := by rw [← h2.2]; unfold signR; rw [hf]; rfl
          rw [this] at h2; simp at h2
        | some s => exact List.mem_of_find?_eq_some hf
      rw [h2.2] at h3
      unfold signB at h
      rw [List.contains_iff_mem.2 h3] at h; cases h

/-- Is a Text too long? -/
def tooL (k : Int) (s : List UInt8) : Bool := if k = 1 ∨ k = 2 then decide (8 < s.length) else if k = 4 then decide (40 < s.length) else false
def ownT (k : Int) (s : List UInt8) (i b : Int) : Bool := ((k == 3 || i == 0) && (k == 5 || b == 0)) && (!(k == 3) && !(k == 5) || s.isEmpty)
def goodT (k : Int) (s : List UInt8) (i b : Int) : Bool :=
  if k = 1 then nameB s else if k = 2 then wordB s else if k = 3 then decide (0 ≤ i) else if k = 4 then Lib.validD s else if k = 5 then !nan b && !(b == 9223372036854775808) else signB s
def tokC (k : Int) (s : List UInt8) (i b : Int) : Int :=
  if k < 1 ∨ 6 < k then 2 else if tooL k s then 1 else if ownT k s i b && goodT k s i b then 0 else 3
end Go.Proofs.YtpneoaehkibdeaaDoor
