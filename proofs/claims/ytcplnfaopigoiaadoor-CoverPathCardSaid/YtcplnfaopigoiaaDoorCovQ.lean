/-
  THE COVER OF ONE SLOT is its path; plain. append(rows, more...) with what becomes of other rows.
  CONDITIONS: each theorem's own hypotheses.
-/
import Derived.Test.YtcplnfaopigoiaaDoorAppN
import Derived.Test.YtcplnfaopigoiaaDoorCovP
import Derived.Test.YtcplnfaopigoiaaDoorCovM
import Derived.Test.YtcplnfaopigoiaaDoorGPath
namespace Go.Proofs.YtcplnfaopigoiaaDoor
open Go.RowKit CodeMath Go.Proofs.YtcplnfaopigoiaaDoor.FrameMath
set_option linter.unusedVariables false
set_option maxRecDepth 100000

def hotL (n i : Nat) : List Bool := (List.range n).map (fun j => decide (j = i))
theorem hot_length (n i : Nat) : (hotL n i).length = n := by simp [hotL]
theorem hot_at (n i j : Nat) (hj : j < n) : (hotL n i)[j]? = some (decide (j = i)) := by simp [hotL, hj]
theorem hot_opens (n i : Nat) (hn : n ≤ 16) (hi : i < 16) : opensL n ((2 ^ i : Nat) : Int) = hotL n i := by
  have key : ∀ (i j : Fin 16), bitO ((2 ^ i.1 : Nat) : Int) j.1 = decide (j.1 = i.1) := by decide +kernel
  unfold opensL hotL
  apply List.map_congr_left
  intro j hj
  have := List.mem_range.1 hj
  exact key ⟨i, hi⟩ ⟨j, by omega⟩
theorem hot_take (n k i : Nat) (h : k ≤ n) : (hotL n i).take k = hotL k i := by
  refine List.ext_getElem? fun j => ?_
  rcases Nat.lt_or_ge j k with hj | hj
  · rw [List.getElem?_take_of_lt hj, hot_at n i j (by omega), hot_at k i j hj]
  · rw [List.getElem?_eq_none (by rw [List.length_take, hot_length]; omega), List.getElem?_eq_none (by rw [hot_length]; omega)]
theorem hot_drop (n k i : Nat) (hk : k ≤ i) : (hotL n i).drop k = hotL (n - k) (i - k) := by
  refine List.ext_getElem? fun j => ?_
  rw [List.getElem?_drop]
  rcases Nat.lt_or_ge j (n - k) with hj | hj
  · rw [hot_at n i (k + j) (by omega), hot_at (n - k) (i - k) j hj]
    congr 1
    exact decide_eq_decide.2 ⟨fun h => by omega, fun h => by omega⟩
  · rw [List.getElem?_eq_none (by rw [hot_length]; omega), List.getElem?_eq_none (by rw [hot_length]; omega)]
theorem hot_has (n i : Nat) (h : i < n) : (hotL n i).contains true = true := by
  rw [List.contains_iff_mem]
  exact List.mem_of_getElem? (i := i) (by rw [hot_at n i i h]; simp)
theorem hot_not (n i : Nat) (h : n ≤ i) : (hotL n i).contains true = false := by
  cases hc : (hotL n i).contains true with
  | false => rfl
  | true =>
    obtain ⟨j, hj⟩ := List.mem_iff_getElem?.1 (List.contains_iff_mem.1 hc)
    have hjl := (List.getElem?_eq_some_iff.1 hj).1
    rw [hot_length] at hjl
    rw [hot_at n i j hjl] at hj
    simp at hj; omega
theorem hot_not_drop (n k i : Nat) (h : i < k) : ((hotL n i).drop k).contains true = false := by
  cases hc : ((hotL n i).drop k).contains true with
  | false => rfl
  | true =>
    obtain ⟨j, hj⟩ := List.mem_iff_getElem?.1 (List.contains_iff_mem.1 hc)
    rw [List.getElem?_drop] at hj
    have hjl := (List.getElem?_eq_some_iff.1 hj).1
    rw [hot_length] at hjl
    rw [hot_at n i _ hjl] at hj
    simp at hj; omega
theorem hot_count (n i : Nat) (h : i < n) : (hotL n i).count true = 1 := by
  have e : hotL n i = List.replicate i false ++ true :: List.replicate (n - i - 1) false := by
    refine List.ext_getElem? fun j => ?_
    rcases Nat.lt_or_ge j n with hj | hj
    · rw [hot_at n i j hj]
      rcases Nat.lt_trichotomy j i with h1 | h1 | h1
      · rw [List.getElem?_append_left (by simp; omega), List.getElem?_replicate, if_pos h1]
        simp; omega
      · subst h1
        rw [List.getElem?_append_right (by simp)]; simp
      · rw [List.getElem?_append_right (by simp; omega), List.length_replicate, show j - i = (j - i - 1) + 1 by omega, List.getElem?_cons_succ, List.getElem?_replicate, if_pos (by omega)]
        simp; omega
    · rw [List.getElem?_eq_none (by rw [hot_length]; omega), List.getElem?_eq_none (by simp; omega)]
  rw [e, List.count_append, List.count_cons]
  simp [List.count_replicate]
def leftK (f : Nat → List UInt8) (p : Nat) : Nat → List (List UInt8)
  | 0 => []
  | k + 1 => if (p / 2 ^ k) % 2 = 1 then f k :: leftK f p k else leftK f p k
def rightK (f : Nat → List UInt8) (p : Nat) : Nat → List (List UInt8)
  | 0 => []
  | k + 1 => if (p / 2 ^ k) % 2 = 1 then rightK f p k else rightK f p k ++ [f k]
theorem sides_congr (f f' : Nat → List UInt8) (p p' : Nat) : ∀ k, (∀ t, t < k → f t = f' t ∧ (p / 2 ^ t) % 2 = (p' / 2 ^ t) % 2) → leftK f p k = leftK f' p' k ∧ rightK f p k = rightK f' p' k
  | 0, h => ⟨rfl, rfl⟩
  | k + 1, h => by
    obtain ⟨i1, i2⟩ := sides_congr f f' p p' k (fun t ht => h t (by omega))
    obtain ⟨h1, h2⟩ := h k (by omega)
    simp only [leftK, rightK, i1, i2, h1, h2, and_self]
theorem sides_length (f : Nat → List UInt8) (p : Nat) : ∀ k, (leftK f p k).length ≤ k ∧ (rightK f p k).length ≤ k
  | 0 => ⟨Nat.le_refl _, Nat.le_refl _⟩
  | k + 1 => by
    obtain ⟨h1, h2⟩ := sides_length f p k
    simp only [leftK, rightK]
    split <;> simp <;> omega
theorem sib_shift (h t q : Nat) (h4 : h ≤ 3) (ht : t < h) (hq : q < 2 ^ h) : sib (q + 2 ^ h) t = sib q t + 2 ^ (h - t) ∧ ((q + 2 ^ h) / 2 ^ t) % 2 = (q / 2 ^ t) % 2 := by
  have key : ∀ (h t : Fin 4) (q : Fin 8), t.1 < h.1 → q.1 < 2 ^ h.1 → sib (q.1 + 2 ^ h.1) t.1 = sib q.1 t.1 + 2 ^ (h.1 - t.1) ∧ ((q.1 + 2 ^ h.1) / 2 ^ t.1) % 2 = (q.1 / 2 ^ t.1) % 2 := by decide +kernel
  have h8 : 2 ^ h ≤ 2 ^ 3 := Nat.pow_le_pow_right (by decide) h4
  have e8 : 2 ^ 3 = 8 := by decide
  exact key ⟨h, by omega⟩ ⟨t, by omega⟩ ⟨q, by omega⟩ ht hq
theorem block_take (m : Int) (rows : List (List UInt8)) (K t j : Nat) (h : (j + 1) * 2 ^ t ≤ K) : blockB m (rows.take K) t j = blockB m rows t j := by
  unfold blockB
  rw [List.drop_take, List.take_take]
  congr 2
  rw [Nat.add_mul, Nat.one_mul] at h
  omega
theorem block_drop (m : Int) (rows : List (List UInt8)) (h t j : Nat) (ht : t ≤ h) : blockB m (rows.drop (2 ^ h)) t j = blockB m rows t (j + 2 ^ (h - t)) := by
  unfold blockB
  rw [List.drop_drop]
  congr 3
  rw [Nat.add_mul, ← Nat.pow_add, show h - t + t = h by omega]
  omega
theorem cov_hot (m : Int) : ∀ (h : Nat), h ≤ 4 → ∀ (p : Nat) (rows : List (List UInt8)), p < 2 ^ h → rows.length = 2 ^ h → covR m h rows (hotL (2 ^ h) p) = leftK (fun t => blockB m rows t (sib p t)) p h ++ rightK (fun t => blockB m rows t (sib p t)) p h
  | 0, h4, p, rows, hp, hl => by
    obtain rfl : p = 0 := by simpa using hp
    unfold covR
    rw [hot_has _ _ (by simp)]
    rfl
  | h + 1, h4, p, rows, hp, hl => by
    have e1 : 2 ^ (h + 1) = 2 * 2 ^ h := by rw [Nat.pow_succ, Nat.mul_comm]
    have hk : 0 < 2 ^ h := Nat.pow_pos (by decide)
    unfold covR
    rw [hot_has _ _ hp, if_pos rfl]
    simp only [leftK, rightK]
    rw [hot_take _ _ _ (by omega)]
    by_cases hlt : p < 2 ^ h
    · rw [cov_hot m h (by omega) p (rows.take (2 ^ h)) hlt (by rw [List.length_take]; omega), covR_none m h _ _ (hot_not_drop _ _ _ hlt)]
      have hz : p / 2 ^ h = 0 := Nat.div_eq_of_lt hlt
      rw [hz, if_neg (by decide), if_neg (by decide)]
      have hs : sib p h = 1 := by unfold sib; rw [hz]; rfl
      have hb : blockB m rows h 1 = rootB m h (rows.drop (2 ^ h)) := by
        unfold blockB
        rw [Nat.one_mul, List.take_of_length_le (by rw [List.length_drop]; omega)]
      obtain ⟨c1, c2⟩ := sides_congr (fun t => blockB m (rows.take (2 ^ h)) t (sib p t)) (fun t => blockB m rows t (sib p t)) p p h (fun t ht => ⟨block_take m rows _ t _ (by
        have := sib_lt h t p (by omega) ht hlt
        have h2 : (sib p t + 1) * 2 ^ t ≤ 2 ^ (h - t) * 2 ^ t := Nat.mul_le_mul_right _ this
        rw [← Nat.pow_add, show h - t + t = h by omega] at h2
        exact h2), rfl⟩)
      rw [c1, c2, hs, hb, List.append_assoc]
    · obtain ⟨q, rfl⟩ : ∃ q, p = q + 2 ^ h := ⟨p - 2 ^ h, by omega⟩
      have hq : q < 2 ^ h := by omega
      rw [covR_none m h _ _ (hot_not _ _ (by omega)), hot_drop _ _ _ (by omega), show 2 ^ (h + 1) - 2 ^ h = 2 ^ h by omega, show q + 2 ^ h - 2 ^ h = q by omega, cov_hot m h (by omega) q (rows.drop (2 ^ h)) hq (by rw [List.length_drop]; omega)]
      have hz : (q + 2 ^ h) / 2 ^ h = 1 := by rw [Nat.add_div_right _ hk, Nat.div_eq_of_lt hq]
      rw [hz, if_pos (by decide), if_pos (by decide)]
      have hs : sib (q + 2 ^ h) h = 0 := by unfold sib; rw [hz]; rfl
      have hb : blockB m rows h 0 = rootB m h (rows.take (2 ^ h)) := by
        unfold blockB
        rw [Nat.zero_mul, List.drop_zero]
      obtain ⟨c1, c2⟩ := sides_congr (fun t => blockB m (rows.drop (2 ^ h)) t (sib q t)) (fun t => blockB m rows t (sib (q + 2 ^ h) t)) q (q + 2 ^ h) h (fun t ht => by
        obtain ⟨s1, s2⟩ := sib_shift h t q (by omega) ht hq
        refine ⟨?_, s2.symm⟩
        show blockB m (rows.drop (2 ^ h)) t (sib q t) = blockB m rows t (sib (q + 2 ^ h) t)
        rw [s1]
        exact block_drop m rows h t (sib q t) (by omega))
      rw [c1, c2, hs, hb]
      rfl
/-! ### in memory -/
theorem OwnL.apart {w w' : World} {base : Nat} {v : Value} {l : List (List UInt8)} (h : OwnL w base v l) {row : Option Nat} (hg : w.grownBy w' row) (hne : v.ownBlock = none ∨ v.ownBlock ≠ row) (hr : ∀ b, row = some b → ∃ cur fz, w.heap[b]? = some (.cells cur 32 fz)) : OwnL w' base v l := by
  obtain ⟨us, h1, h2⟩ := h
  refine ⟨us, World.ownsRow.kept h1 hg hne, fun i x hi => ?_⟩
  obtain ⟨u, k1, k2⟩ := h2 i x hi
  exact ⟨u, k1, k2.grown hg (fun b hb => by obtain ⟨cur, fz, q⟩ := hr b hb; exact ⟨cur, _, fz, q, .inl rfl⟩)⟩
end Go.Proofs.YtcplnfaopigoiaaDoor
