/-
  CONTRACT of the reference's first.
  CONDITIONS: each theorem's own hypotheses; unicode/utf8's two tables hold what their initialisers lay ('Tabs').
-/
import Derived.Test.YtncllcfdmiaopaaGreatDoorCutI
import Derived.Test.YtncllcfdmiaopaaGreatDoorCutN
import Derived.Test.YtncllcfdmiaopaaGreatDoorCutO
import Derived.Test.YtncllcfdmiaopaaGreatDoorBlk
namespace Go.Proofs.YtncllcfdmiaopaaGreatDoor
open Go.RowKit
set_option linter.unusedVariables false
set_option maxRecDepth 100000

theorem find_len (k : Nat) (l : List UInt8) : ∀ ss : List (List UInt8), (∀ x ∈ ss, x.length = k) → ss.find? (fun s => Lib.hasPrefix l s) = if k ≤ l.length ∧ l.take k ∈ ss then some (l.take k) else none
  | [], _ => by simp
  | x :: ss, h => by
    have hx := h x (List.mem_cons_self ..)
    have ih := find_len k l ss (fun y hy => h y (List.mem_cons_of_mem _ hy))
    have hp := Lib.hasPrefix_of_take l x
    rw [hx] at hp
    by_cases hh : Lib.hasPrefix l x = true
    · rw [List.find?_cons_of_pos (by exact hh)]
      rw [hh] at hp
      simp only [Bool.and_eq_true, decide_eq_true_eq, beq_iff_eq] at hp
      rw [hp.2, if_pos ⟨hp.1, List.mem_cons_self ..⟩]
    · rw [List.find?_cons_of_neg (by exact hh), ih]
      have hne : ¬ (k ≤ l.length ∧ l.take k = x) := by
        rintro ⟨h1, h2⟩
        apply hh
        rw [← hp, h2]; simp [h1]
      by_cases h1 : k ≤ l.length
      · have : l.take k ≠ x := fun e => hne ⟨h1, e⟩
        simp only [List.mem_cons, this, false_or]
      · rw [if_neg (fun h => h1 h.1), if_neg (fun h => h1 h.1)]
def signs2 : List (List UInt8) := [[60, 61], [60, 62], [62, 61], [124, 124]]
def signs1 : List (List UInt8) := [[40], [41], [44], [46], [61], [60], [62], [43], [45], [42], [47], [59]]
theorem signs_two {l : List UInt8} (h : 2 ≤ l.length) : signB (l.take 2) = decide (l.take 2 ∈ signs2) := by
  have hl : (l.take 2).length = 2 := by rw [List.length_take]; omega
  unfold signB
  rw [Bool.eq_iff_iff, List.contains_iff_mem, decide_eq_true_eq, show signsL = signs2 ++ signs1 from rfl, List.mem_append]
  refine ⟨fun h => h.elim id fun h => ?_, .inl⟩
  have h1 : ∀ x ∈ signs1, x.length = 1 := by decide
  have := h1 _ h
  omega
theorem signs_one {l : List UInt8} (h : 1 ≤ l.length) : signB (l.take 1) = decide (l.take 1 ∈ signs1) := by
  have hl : (l.take 1).length = 1 := by rw [List.length_take]; omega
  unfold signB
  rw [Bool.eq_iff_iff, List.contains_iff_mem, decide_eq_true_eq, show signsL = signs2 ++ signs1 from rfl, List.mem_append]
  refine ⟨fun h => h.elim (fun h => ?_) id, .inr⟩
  have h1 : ∀ x ∈ signs2, x.length = 2 := by decide
  have := h1 _ h
  omega
theorem signR_two (l : List UInt8) (h1 : 1 ≤ l.length) : signR l = if 2 ≤ l.length ∧ signB (l.take 2) = true then l.take 2 else if signB (l.take 1) = true then l.take 1 else [] := by
  have e2 := find_len 2 l signs2 (by decide)
  have e1 := find_len 1 l signs1 (by decide)
  unfold signR
  rw [show signsL = signs2 ++ signs1 from rfl, List.find?_append, e2, e1, signs_one h1]
  by_cases h2 : 2 ≤ l.length
  · rw [signs_two h2]
    by_cases h3 : l.take 2 ∈ signs2
    · simp [h2, h3]
    · by_cases h4 : l.take 1 ∈ signs1 <;> simp [h1, h3, h4]
  · by_cases h4 : l.take 1 ∈ signs1 <;> simp [h1, h2, h4]
theorem take_run (p : UInt8 → Bool) (l : List UInt8) : l.take (l.takeWhile p).length = l.takeWhile p := (List.prefix_iff_eq_take.1 (List.takeWhile_prefix p)).symm
theorem numR_len {d : List UInt8} {t : Tok} {m : Nat} (h : numR d = .ok t m) : m = d.length := by
  unfold numR at h
  split at h
  · cases h
  · split at h
    · cases h
    · cases h; rfl
theorem realR_len {l : List UInt8} {t : Tok} {m : Nat} (h : realR l = .ok t m) : m = 17 := by
  unfold realR at h
  split at h
  · cases h
  · split at h
    · cases h
    · cases h; rfl
theorem u8_ne {c : UInt8} {k : Nat} (hk : k < 256) (h : c ≠ UInt8.ofNat k) : ((c.toNat : Int) == (k : Int)) = false := by
  simp only [beq_eq_false_iff_ne, ne_eq]
  intro e
  refine h (UInt8.toNat_inj.1 ?_)
  rw [UInt8.toNat_ofNat']
  have : c.toNat = k := by omega
  rw [this, Nat.mod_eq_of_lt hk]
end Go.Proofs.YtncllcfdmiaopaaGreatDoor
