/-
  WHAT A LIST BEGAN WITH, plain: from the bottom up.
  CONDITIONS: each theorem's own hypotheses.
-/
import Derived.Test.YtdpfjhhcgaeiiaaDoorRollG
namespace Go.Proofs.YtdpfjhhcgaeiiaaDoor
open Go.RowKit CodeMath Go.Proofs.YtdpfjhhcgaeiiaaDoor.FrameMath
set_option linter.unusedVariables false
set_option maxRecDepth 100000

abbrev PP2 := Option (List UInt8 × List UInt8)
def foldE (m : Int) : List Bool → List (List UInt8) → PP2 → PP2
  | [], [], O => O
  | s :: ss, p :: ps, O => foldE m ss ps (O.bind (stepE m s p))
  | _, _, _ => none
theorem foldE_none (m : Int) : ∀ (ss : List Bool) (ps : List (List UInt8)), foldE m ss ps none = none
  | [], [] => rfl
  | s :: ss, p :: ps => foldE_none m ss ps
  | [], q :: ps => rfl
  | t :: ss, [] => rfl
theorem foldE_snoc (m : Int) : ∀ (ss : List Bool) (ps : List (List UInt8)) (O : PP2) (s : Bool) (p : List UInt8), foldE m (ss ++ [s]) (ps ++ [p]) O = (foldE m ss ps O).bind (stepE m s p)
  | [], [], O, s, p => rfl
  | [], q :: ps, O, s, p => by
    have : ∀ O, foldE m [] (ps ++ [p]) O = none := fun O => by cases ps <;> rfl
    show foldE m [] (ps ++ [p]) _ = _
    rw [this]; rfl
  | t :: ss, [], O, s, p => by
    have : ∀ O, foldE m (ss ++ [s]) [] O = none := fun O => by cases ss <;> rfl
    show foldE m (ss ++ [s]) [] _ = _
    rw [this]; rfl
  | t :: ss, q :: ps, O, s, p => foldE_snoc m ss ps _ s p
theorem foldE_short (m : Int) (ss : List Bool) (s : Bool) (O : PP2) : foldE m (ss ++ [s]) [] O = none := by cases ss <;> rfl
def startE (m : Int) (had : Bool) (ss : List Bool) (old : List UInt8) (path : List (List UInt8)) : PP2 := match had, path with
  | true, path => foldE m ss path (some (old, old))
  | false, [] => none
  | false, q :: qs => foldE m ss qs (some (q, q))
def sidesX : Nat → Nat → Nat → List Bool
  | 0, _, _ => []
  | h + 1, n, k => if n ≤ k then [] else if k ≤ hf n then sidesX h (hf n) k ++ [false] else sidesX h (n - hf n) (k - hf n) ++ [true]
def hadX : Nat → Nat → Nat → Bool → Bool
  | 0, _, _, had => had
  | h + 1, n, k, had => if n ≤ k then had else if k ≤ hf n then hadX h (hf n) k had else hadX h (n - hf n) (k - hf n) false
theorem hadX_false : ∀ (h n k : Nat), hadX h n k false = false
  | 0, _, _ => rfl
  | h + 1, n, k => by
    show (if n ≤ k then false else if k ≤ hf n then hadX h (hf n) k false else hadX h (n - hf n) (k - hf n) false) = false
    split
    · rfl
    · split <;> exact hadX_false h _ _
theorem startE_snoc (m : Int) (had : Bool) (ss : List Bool) (old : List UInt8) (ps : List (List UInt8)) (s : Bool) (p : List UInt8) : startE m had (ss ++ [s]) old (ps ++ [p]) = (startE m had ss old ps).bind (stepE m s p) := by
  cases had with
  | true => exact foldE_snoc m ss ps _ s p
  | false =>
    cases ps with
    | nil => exact foldE_short m ss s _
    | cons q qs => exact foldE_snoc m ss qs _ s p
theorem startE_short (m : Int) (had : Bool) (ss : List Bool) (old : List UInt8) (s : Bool) : startE m had (ss ++ [s]) old [] = none := by
  cases had with
  | true => exact foldE_short m ss s _
  | false => rfl
theorem startE_base (m : Int) (had : Bool) (old : List UInt8) (path : List (List UInt8)) : baseE had old path = startE m had [] old path := by
  cases had with
  | true => cases path <;> rfl
  | false =>
    cases path with
    | nil => rfl
    | cons q qs => cases qs <;> rfl
theorem extO_start (m : Int) : ∀ (h n k : Nat) (had : Bool) (old : List UInt8) (path : List (List UInt8)), n ≤ 2 ^ h → 1 ≤ k → extO m h n k had old path = startE m (hadX h n k had) (sidesX h n k) old path
  | 0, n, k, had, old, path, hn, hk => startE_base m had old path
  | h + 1, n, k, had, old, path, hn, hk => by
    by_cases hnk : n ≤ k
    · rw [extO_base m _ _ _ _ _ _ hnk]
      simp only [sidesX, hadX, if_pos hnk]
      exact startE_base m had old path
    · have h2 : 2 ≤ n := by omega
      have hp := hf_pow h2 hn
      obtain ⟨k0, k1, k2⟩ := hf_lt h2
      simp only [sidesX, hadX, if_neg hnk]
      rcases List.eq_nil_or_concat path with rfl | ⟨ps, p, rfl⟩
      · rw [extO_none m _ _ _ _ _ hnk]
        split <;> rw [startE_short]
      · rw [List.concat_eq_append, extO_snoc m _ _ _ _ _ _ _ hnk]
        split
        · rw [startE_snoc, extO_start m h (hf n) k had old ps hp hk]
        · rw [startE_snoc, extO_start m h (n - hf n) (k - hf n) false [] ps (by omega) (by omega), hadX_false]
          cases ps <;> rfl
def strip : Nat → Nat → Nat → Nat × Nat
  | 0, a, l => (a, l)
  | c + 1, a, l => if a % 2 = 1 then strip c (a / 2) (l / 2) else (a, l)
theorem strip_stop (c a l : Nat) (h : a % 2 ≠ 1) : strip c a l = (a, l) := by
  cases c with
  | zero => rfl
  | succ c => show (if a % 2 = 1 then _ else _) = _; rw [if_neg h]
theorem strip_go (c a l : Nat) (h : a % 2 = 1) : strip (c + 1) a l = strip c (a / 2) (l / 2) := by
  show (if a % 2 = 1 then _ else _) = _; rw [if_pos h]
theorem sides_ext : ∀ (n : Fin 65) (k : Fin 65), 0 < k.1 → k.1 < n.1 → sidesX 6 n.1 k.1 = sidesL 7 (strip 7 (k.1 - 1) (n.1 - 1)).1 (strip 7 (k.1 - 1) (n.1 - 1)).2 ∧ hadX 6 n.1 k.1 true = decide ((strip 7 (k.1 - 1) (n.1 - 1)).1 = 0) := by decide +kernel
/-- The path, and what stands ahead of it. -/
def pathX (a : Nat) (old : List UInt8) (path : List (List UInt8)) : List (List UInt8) := if a = 0 then old :: path else path
theorem extO_up (m : Int) (n k : Nat) (h64 : n ≤ 64) (h0 : 0 < k) (hkn : k < n) (old : List UInt8) (path : List (List UInt8)) : extO m 6 n k true old path = match pathX (strip 7 (k - 1) (n - 1)).1 old path with
    | [] => none
    | q :: qs => foldE m (sidesL 7 (strip 7 (k - 1) (n - 1)).1 (strip 7 (k - 1) (n - 1)).2) qs (some (q, q)) := by
  obtain ⟨h1, h2⟩ := sides_ext ⟨n, by omega⟩ ⟨k, by omega⟩ h0 hkn
  simp only at h1 h2
  rw [extO_start m 6 n k true old path h64 (by omega), h1, h2]
  unfold pathX
  by_cases ha : (strip 7 (k - 1) (n - 1)).1 = 0
  · rw [decide_eq_true ha, if_pos ha]; rfl
  · rw [decide_eq_false ha, if_neg ha]
    cases path <;> rfl
def pairO (W I : DR) : PP2 := match W, I with
  | .ok a, .ok b => some (a, b)
  | _, _ => none
theorem pairO_up (m : Int) (p a b : List UInt8) : stepE m true p (a, b) = pairO (digR m 6 [p, a]) (digR m 6 [p, b]) := by
  show (match digR m 6 [p, a] with | .err _ => none | .ok x => match digR m 6 [p, b] with | .err _ => none | .ok y => some (x, y)) = _
  cases digR m 6 [p, a] with
  | err c => rfl
  | ok x => cases digR m 6 [p, b] <;> rfl
theorem pairO_down (m : Int) (p a b : List UInt8) : stepE m false p (a, b) = pairO (.ok a) (digR m 6 [b, p]) := by
  show (match digR m 6 [b, p] with | .err _ => none | .ok y => some (a, y)) = _
  cases digR m 6 [b, p] <;> rfl
theorem foldE_end (m : Int) (c a l : Nat) (O : PP2) (hc : l < 2 ^ c) : foldE m (sidesL c a l) [] O = if l = 0 then O else none := by
  split
  · rename_i h; rw [h, sidesL_zero]; rfl
  · rename_i h
    obtain ⟨s, ss, e⟩ := sidesL_ne c a l hc h
    rw [e]; rfl
end Go.Proofs.YtdpfjhhcgaeiiaaDoor
