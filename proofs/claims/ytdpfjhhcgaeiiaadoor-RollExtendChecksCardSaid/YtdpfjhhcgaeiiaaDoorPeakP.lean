/-
  PEAKS of a roll, plain: what can't be made of a part can't be made of the whole.
  CONDITIONS: each theorem's own hypotheses.
-/
import Derived.Test.YtdpfjhhcgaeiiaaDoorRollP
namespace Go.Proofs.YtdpfjhhcgaeiiaaDoor
open Go.RowKit CodeMath Go.Proofs.YtdpfjhhcgaeiiaaDoor.FrameMath
set_option linter.unusedVariables false
set_option maxRecDepth 100000

theorem rollR_entry (m : Int) (l : List (List UInt8)) (z : List UInt8) (hz : rollR m l = .ok z) (i : Nat) (x : List UInt8) (hx : l[i]? = some x) : ∃ y, digR m 5 [x] = .ok y := by
  have hi := (List.getElem?_eq_some_iff.1 hx)
  obtain ⟨h1, h2⟩ := hi
  obtain ⟨y, hy⟩ := rollR_block m l.length l z 0 i (Nat.le_refl _) hz (by simp; omega)
  refine ⟨y, ?_⟩
  rw [Nat.pow_zero, Nat.mul_one, List.drop_eq_getElem_cons h1, h2] at hy
  simpa [rollR_one] using hy
theorem flat_block (m : Int) (b : Nat) : ∀ (ps : List Pk), (∀ p ∈ ps, p.Ok m) → (∀ p ∈ ps, b ≤ p.a) → ∃ j, (flatP ps).length = j * 2 ^ b
  | [], _, _ => ⟨0, by simp [flatP]⟩
  | p :: ps, h1, h2 => by
    obtain ⟨j, hj⟩ := flat_block m b ps (fun q hq => h1 q (List.mem_cons_of_mem _ hq)) (fun q hq => h2 q (List.mem_cons_of_mem _ hq))
    have hp := (h1 p (by simp)).1
    have hb := h2 p (by simp)
    refine ⟨2 ^ (p.a - b) + j, ?_⟩
    rw [flatP_cons, List.length_append, hp, hj, Nat.add_mul, ← Nat.pow_add]
    congr 2; omega
theorem merge_bad (m : Int) (l : List (List UInt8)) (ps : List Pk) (q p : Pk) (rest : List (List UInt8)) (hl : l = flatP ps ++ (q.seg ++ p.seg) ++ rest) (hps : Peaks m ps) (hbig : ∀ s ∈ ps, q.a < s.a) (hq : q.Ok m) (hp : p.Ok m) (ha : q.a = p.a) (c : Int) (hc : digR m 6 [q.r, p.r] = .err c) (z : List UInt8) : rollR m l ≠ .ok z := by
  intro hz
  obtain ⟨h1, h2⟩ := merge_ok m q p hq hp ha
  obtain ⟨j, hj⟩ := flat_block m (p.a + 1) ps hps.1 (fun s hs => by have := hbig s hs; omega)
  obtain ⟨y, hy⟩ := rollR_block m l.length l z (p.a + 1) j (Nat.le_refl _) hz (by rw [hl, List.length_append, List.length_append, hj, h2, Nat.add_mul, Nat.one_mul]; omega)
  have e : (l.drop (j * 2 ^ (p.a + 1))).take (2 ^ (p.a + 1)) = q.seg ++ p.seg := by
    rw [hl, ← hj, List.append_assoc, List.drop_left, ← h2, List.take_left]
  rw [e, h1, hc] at hy
  cases hy
theorem drop_bad (m : Int) (ps : List Pk) (h : Peaks m ps) : ∀ (i : Nat), i < ps.length → (∃ c, rollR m (flatP (ps.drop i)) = .err c) → ∃ c, rollR m (flatP ps) = .err c
  | 0, _, hc => by simpa using hc
  | i + 1, hi, ⟨c, hc⟩ => by
    refine drop_bad m ps h i (by omega) ⟨c, ?_⟩
    have e : ps.drop i = ps[i] :: ps.drop (i + 1) := List.drop_eq_getElem_cons (by omega)
    have hne : ps.drop (i + 1) ≠ [] := by
      intro h0
      have := congrArg List.length h0
      rw [List.length_drop] at this
      simp at this; omega
    have hd : Peaks m (ps.drop i) := ⟨fun p hp => h.1 p (List.mem_of_mem_drop hp), h.2.drop⟩
    rw [e] at hd ⊢
    rw [fold_ok m _ _ hd hne, hc]
    rfl
theorem drop_step (m : Int) (ps : List Pk) (h : Peaks m ps) (i : Nat) (hi : i + 1 < ps.length) (p : Pk) (hp : ps[i]? = some p) (d : List UInt8) (hd : rollR m (flatP (ps.drop (i + 1))) = .ok d) : rollR m (flatP (ps.drop i)) = digR m 6 [p.r, d] := by
  have e : ps.drop i = p :: ps.drop (i + 1) := by rw [List.drop_eq_getElem_cons (by omega), (List.getElem?_eq_some_iff.1 hp).2]
  have hne : ps.drop (i + 1) ≠ [] := by
    intro h0
    have := congrArg List.length h0
    rw [List.length_drop] at this
    simp at this; omega
  have hk : Peaks m (ps.drop i) := ⟨fun p hp => h.1 p (List.mem_of_mem_drop hp), h.2.drop⟩
  rw [e] at hk ⊢
  rw [fold_ok m _ _ hk hne, hd]
  rfl
theorem bad_one {m : Int} (hm : isMode m = true) {l : List (List UInt8)} (h : ∀ z, rollR m l ≠ .ok z) : rollR m l = .err 1 := by
  cases hr : rollR m l with
  | ok z => exact absurd hr (h z)
  | err c => rw [rollR_err1 m hm l.length l c (Nat.le_refl _) hr]
end Go.Proofs.YtdpfjhhcgaeiiaaDoor
