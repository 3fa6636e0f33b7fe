/-
  PLAIN MATHEMATICS of the words of a block, byte by byte and word by word.
  CONDITIONS: each theorem's own hypotheses.
-/
import Derived.Test.YtmldhnghfdhjmaaDoorShaB
namespace Go.Proofs.YtmldhnghfdhjmaaDoor
open ShaMath
set_option linter.unusedVariables false

theorem word4_snoc (m : List UInt8) (c : UInt8) : word4 (m ++ [c]) = word4 m * 256 + c.toNat := by simp [word4]
theorem word4_small : ∀ (m : List UInt8), word4 m < 256 ^ m.length := by
  intro m
  have h : ∀ (m : List UInt8) (n k : Nat), n < 256 ^ k → m.foldl (fun n c => n * 256 + c.toNat) n < 256 ^ (k + m.length) := by
    intro m
    induction m with
    | nil => intro n k h; exact h
    | cons c m ih =>
      intro n k h
      have := c.toNat_lt
      have h2 := ih (n * 256 + c.toNat) (k + 1) (by rw [Nat.pow_succ]; omega)
      rw [List.length_cons, show k + (m.length + 1) = k + 1 + m.length by omega]
      exact h2
  have := h m 0 0 (by decide)
  rwa [Nat.zero_add] at this
/-- What word j holds when i bytes are in. -/
def wpart (l : List UInt8) (i j : Nat) : Nat := word4 ((l.drop (4 * j)).take (min 4 (i - 4 * j)))
def W1 (l : List UInt8) (i : Nat) : List Nat := (List.range 64).map (wpart l i)
theorem W1_length (l : List UInt8) (i : Nat) : (W1 l i).length = 64 := by simp [W1]
theorem W1_get (l : List UInt8) (i j : Nat) (h : j < 64) : (W1 l i)[j]? = some (wpart l i j) := by simp [W1, h]
theorem wpart_other (l : List UInt8) (i j : Nat) (h : j ≠ i / 4) : wpart l (i + 1) j = wpart l i j := by
  unfold wpart
  have : min 4 (i + 1 - 4 * j) = min 4 (i - 4 * j) := by omega
  rw [this]
theorem wpart_step (l : List UInt8) (i : Nat) (c : UInt8) (h : l[i]? = some c) : wpart l (i + 1) (i / 4) = wpart l i (i / 4) * 256 + c.toNat := by
  unfold wpart
  have e1 : min 4 (i + 1 - 4 * (i / 4)) = (i - 4 * (i / 4)) + 1 := by omega
  have e2 : min 4 (i - 4 * (i / 4)) = i - 4 * (i / 4) := by omega
  have hi := (List.getElem?_eq_some_iff.1 h).1
  have hl : i - 4 * (i / 4) < (l.drop (4 * (i / 4))).length := by rw [List.length_drop]; omega
  rw [e1, e2, List.take_succ_eq_append_getElem hl, word4_snoc]
  congr 2
  rw [List.getElem_drop]
  have e3 : 4 * (i / 4) + (i - 4 * (i / 4)) = i := by omega
  have := (List.getElem?_eq_some_iff.1 h).2
  simp only [e3]
  exact this
theorem wpart_lt (l : List UInt8) (i : Nat) : wpart l i (i / 4) < 16777216 := by
  unfold wpart
  have h := word4_small ((l.drop (4 * (i / 4))).take (min 4 (i - 4 * (i / 4))))
  have hl : ((l.drop (4 * (i / 4))).take (min 4 (i - 4 * (i / 4)))).length ≤ 3 := by rw [List.length_take]; omega
  have := Nat.pow_le_pow_right (show 0 < 256 by decide) hl
  have e : 256 ^ 3 = 16777216 := by decide
  omega
theorem W1_set (l : List UInt8) (i : Nat) (c : UInt8) (h : l[i]? = some c) (hi : i < 64) : (W1 l i).set (i / 4) (wpart l i (i / 4) * 256 + c.toNat) = W1 l (i + 1) := by
  apply List.ext_getElem?
  intro j
  rw [List.getElem?_set, W1_length]
  by_cases hj : i / 4 = j
  · subst hj
    rw [if_pos rfl, if_pos (by omega), W1_get l (i + 1) _ (by omega), wpart_step l i c h]
  · rw [if_neg hj]
    by_cases h64 : j < 64
    · rw [W1_get _ _ _ h64, W1_get _ _ _ h64, wpart_other l i j (Ne.symm hj)]
    · rw [List.getElem?_eq_none (by rw [W1_length]; omega), List.getElem?_eq_none (by rw [W1_length]; omega)]
theorem words_get : ∀ (n : Nat) (l : List UInt8) (j : Nat), j < n → (words n l)[j]? = some (word4 ((l.drop (4 * j)).take 4))
  | n + 1, l, 0, _ => by simp [words]
  | n + 1, l, j + 1, h => by
    simp only [words, List.getElem?_cons_succ]
    rw [words_get n (l.drop 4) j (by omega), List.drop_drop, show 4 + 4 * j = 4 * (j + 1) by omega]
theorem W1_zero (l : List UInt8) : W1 l 0 = List.replicate 64 0 := by
  apply List.ext_getElem?
  intro j
  by_cases h : j < 64
  · rw [W1_get _ _ _ h, List.getElem?_replicate, if_pos h]
    simp [wpart, word4]
  · rw [List.getElem?_eq_none (by rw [W1_length]; omega), List.getElem?_eq_none (by simp; omega)]
theorem W1_end (l : List UInt8) (hl : l.length = 64) : W1 l 64 = words 16 l ++ List.replicate 48 0 := by
  apply List.ext_getElem?
  intro j
  by_cases h : j < 16
  · rw [W1_get _ _ _ (by omega), List.getElem?_append_left (by rw [words_length]; omega), words_get 16 l j h]
    unfold wpart
    rw [show min 4 (64 - 4 * j) = 4 by omega]
  · by_cases h2 : j < 64
    · rw [W1_get _ _ _ h2, List.getElem?_append_right (by rw [words_length]; omega), words_length, List.getElem?_replicate, if_pos (by omega)]
      unfold wpart
      rw [show min 4 (64 - 4 * j) = 0 by omega]
      rfl
    · rw [List.getElem?_eq_none (by rw [W1_length]; omega), List.getElem?_eq_none (by simp [words_length]; omega)]

/-! ### the later words -/
theorem extend_succ : ∀ (n : Nat) (w : List Nat), extend (n + 1) w = extend n w ++ [nextW (extend n w)]
  | 0, w => rfl
  | n + 1, w => by
    show extend (n + 1) (w ++ [nextW w]) = _
    rw [extend_succ n]
    rfl
theorem extend_length : ∀ (n : Nat) (w : List Nat), (extend n w).length = w.length + n
  | 0, w => rfl
  | n + 1, w => by rw [extend_succ, List.length_append, extend_length n w]; simp; omega
theorem nextW_lt (w : List Nat) : nextW w < 4294967296 := Nat.mod_lt _ (by decide)
theorem words_lt : ∀ (n : Nat) (l : List UInt8), ∀ x ∈ words n l, x < 4294967296
  | 0, _, x, h => by simp [words] at h
  | n + 1, l, x, h => by
    simp only [words, List.mem_cons] at h
    rcases h with rfl | h
    · have h1 := word4_small (l.take 4)
      have hl : (l.take 4).length ≤ 4 := by rw [List.length_take]; omega
      have := Nat.pow_le_pow_right (show 0 < 256 by decide) hl
      have e : 256 ^ 4 = 4294967296 := by decide
      omega
    · exact words_lt n _ x h
theorem extend_lt : ∀ (n : Nat) (w : List Nat), (∀ x ∈ w, x < 4294967296) → ∀ x ∈ extend n w, x < 4294967296
  | 0, w, h, x, hx => h x hx
  | n + 1, w, h, x, hx => by
    rw [extend_succ, List.mem_append] at hx
    rcases hx with hx | hx
    · exact extend_lt n w h x hx
    · simp at hx; subst hx; exact nextW_lt _
/-- All words when so many are made. -/
def E2 (l : List UInt8) (n : Nat) : List Nat := extend n (words 16 l) ++ List.replicate (48 - n) 0
theorem E2_length (l : List UInt8) (n : Nat) (hn : n ≤ 48) : (E2 l n).length = 64 := by
  unfold E2
  rw [List.length_append, extend_length, words_length, List.length_replicate]; omega
theorem E2_get (l : List UInt8) (n j : Nat) (hj : j < 16 + n) : (E2 l n)[j]? = some ((extend n (words 16 l)).getD j 0) := by
  unfold E2
  have hl : j < (extend n (words 16 l)).length := by rw [extend_length, words_length]; omega
  rw [List.getElem?_append_left hl, List.getElem?_eq_getElem hl, List.getD_eq_getElem?_getD, List.getElem?_eq_getElem hl]
  rfl
theorem E2_lt (l : List UInt8) (n j : Nat) : (extend n (words 16 l)).getD j 0 < 4294967296 := by
  rw [List.getD_eq_getElem?_getD]
  cases h : (extend n (words 16 l))[j]? with
  | none => decide
  | some x => exact extend_lt n _ (words_lt 16 l) x (List.mem_of_getElem? h)
theorem E2_set (l : List UInt8) (n : Nat) (hn : n < 48) : (E2 l n).set (16 + n) (nextW (extend n (words 16 l))) = E2 l (n + 1) := by
  unfold E2
  have hl : (extend n (words 16 l)).length = 16 + n := by rw [extend_length, words_length]
  rw [List.set_append_right _ _ (by omega), hl, Nat.sub_self, show 48 - n = (48 - (n + 1)) + 1 by omega, List.replicate_succ, List.set_cons_zero, extend_succ, List.append_assoc]
  rfl
theorem E2_end (l : List UInt8) : E2 l 48 = sched l := by
  unfold E2 sched
  simp
theorem nextW_sum (l : List UInt8) (n a b c d : Nat)
    (ha : (extend n (words 16 l)).getD (14 + n) 0 = a) (hb : (extend n (words 16 l)).getD (9 + n) 0 = b) (hc : (extend n (words 16 l)).getD (1 + n) 0 = c) (hd : (extend n (words 16 l)).getD n 0 = d) :
    (((small1 a + b) % 4294967296 + small0 c) % 4294967296 + d) % 4294967296 = nextW (extend n (words 16 l)) := by
  unfold nextW
  have hl : (extend n (words 16 l)).length = 16 + n := by rw [extend_length, words_length]
  rw [hl, show 16 + n - 16 = n by omega, show 16 + n - 7 = 9 + n by omega, show 16 + n - 15 = 1 + n by omega, show 16 + n - 2 = 14 + n by omega, ha, hb, hc, hd]
  show _ = (d + b + small0 c + small1 a) % 4294967296
  omega
end Go.Proofs.YtmldhnghfdhjmaaDoor
