/-
  PLAIN: texts that may be, one behind the other: they may be, and have as many signs as both.
  CONDITIONS: none.
-/
import Derived.Test.YtfedlchncngafaaGreatDoorStr0
import Derived.Lib.RuneCount
import Derived.Lib.TrimUEq
import Derived.Lib.ValidLaws
import Derived.Lib.MapLaws
namespace Go.Proofs.YtfedlchncngafaaGreatDoor
open Go.RowKit
set_option linter.unusedVariables false

theorem decodeN_more (n m b0 b1 b2 b3 c1 c2 c3 : Nat) (hn : 1 ≤ n) (hm : n ≤ m) (h1 : 1 < n → c1 = b1) (h2 : 2 < n → c2 = b2) (h3 : 3 < n → c3 = b3)
    (h : ¬ ((Lib.decodeN n b0 b1 b2 b3).1 = 65533 ∧ (Lib.decodeN n b0 b1 b2 b3).2 = 1)) : Lib.decodeN m b0 c1 c2 c3 = Lib.decodeN n b0 b1 b2 b3 ∧ (Lib.decodeN n b0 b1 b2 b3).2 ≤ n := by
  have hbad : ∀ x : Nat × Nat, x = (65533, 1) → x.1 = 65533 ∧ x.2 = 1 := fun x e => by rw [e]; exact ⟨rfl, rfl⟩
  by_cases a0 : b0 < 128
  · unfold Lib.decodeN; rw [if_pos a0, if_pos a0]; exact ⟨rfl, hn⟩
  by_cases a1 : b0 / 32 = 6 ∧ (1 < n ∧ b1 / 64 = 2)
  · have e1 := h1 a1.2.1
    subst e1
    have a1' : b0 / 32 = 6 ∧ (1 < m ∧ c1 / 64 = 2) := ⟨a1.1, by omega, a1.2.2⟩
    unfold Lib.decodeN at h ⊢
    rw [if_neg a0, if_pos a1] at h ⊢
    rw [if_neg a0, if_pos a1']
    refine ⟨rfl, ?_⟩
    split
    · show 2 ≤ n; omega
    · exact hn
  by_cases a2 : b0 / 16 = 14 ∧ (1 < n ∧ b1 / 64 = 2) ∧ (2 < n ∧ b2 / 64 = 2)
  · have e1 := h1 a2.2.1.1
    have e2 := h2 a2.2.2.1
    subst e1 e2
    have a2' : b0 / 16 = 14 ∧ (1 < m ∧ c1 / 64 = 2) ∧ (2 < m ∧ c2 / 64 = 2) := ⟨a2.1, ⟨by omega, a2.2.1.2⟩, by omega, a2.2.2.2⟩
    have a1' : ¬ (b0 / 32 = 6 ∧ (1 < m ∧ c1 / 64 = 2)) := fun h => by omega
    unfold Lib.decodeN at h ⊢
    rw [if_neg a0, if_neg a1, if_pos a2] at h ⊢
    rw [if_neg a0, if_neg a1', if_pos a2']
    refine ⟨rfl, ?_⟩
    split
    · show 3 ≤ n; omega
    · exact hn
  by_cases a3 : b0 / 8 = 30 ∧ (1 < n ∧ b1 / 64 = 2) ∧ (2 < n ∧ b2 / 64 = 2) ∧ (3 < n ∧ b3 / 64 = 2)
  · have e1 := h1 a3.2.1.1
    have e2 := h2 a3.2.2.1.1
    have e3 := h3 a3.2.2.2.1
    subst e1 e2 e3
    have a3' : b0 / 8 = 30 ∧ (1 < m ∧ c1 / 64 = 2) ∧ (2 < m ∧ c2 / 64 = 2) ∧ (3 < m ∧ c3 / 64 = 2) := ⟨a3.1, ⟨by omega, a3.2.1.2⟩, ⟨by omega, a3.2.2.1.2⟩, by omega, a3.2.2.2.2⟩
    have a1' : ¬ (b0 / 32 = 6 ∧ (1 < m ∧ c1 / 64 = 2)) := fun h => by omega
    have a2' : ¬ (b0 / 16 = 14 ∧ (1 < m ∧ c1 / 64 = 2) ∧ (2 < m ∧ c2 / 64 = 2)) := fun h => by omega
    unfold Lib.decodeN at h ⊢
    rw [if_neg a0, if_neg a1, if_neg a2, if_pos a3] at h ⊢
    rw [if_neg a0, if_neg a1', if_neg a2', if_pos a3']
    refine ⟨rfl, ?_⟩
    split
    · show 4 ≤ n; omega
    · exact hn
  · exfalso
    apply h
    apply hbad
    unfold Lib.decodeN
    rw [if_neg a0, if_neg a1, if_neg a2, if_neg a3]
theorem getD_left (a b : List UInt8) (j : Nat) (h : j < a.length) : (a ++ b).getD j 0 = a.getD j 0 := by
  rw [List.getD_eq_getElem?_getD, List.getD_eq_getElem?_getD, List.getElem?_append_left h]
theorem decodeL_more (a b : List UInt8) (hne : a ≠ []) (h : ¬ ((Lib.decodeL a).1 = 65533 ∧ (Lib.decodeL a).2 = 1)) : Lib.decodeL (a ++ b) = Lib.decodeL a ∧ (Lib.decodeL a).2 ≤ a.length := by
  have hl : 1 ≤ a.length := List.length_pos_iff.2 hne
  rw [Lib.decodeL_N a] at h ⊢
  rw [Lib.decodeL_N (a ++ b), getD_left a b 0 hl]
  exact decodeN_more _ _ _ _ _ _ _ _ _ hl (by rw [List.length_append]; omega) (fun q => by rw [getD_left a b 1 q]) (fun q => by rw [getD_left a b 2 q]) (fun q => by rw [getD_left a b 3 q]) h
theorem valid_app : ∀ (n : Nat) (a b : List UInt8), a.length ≤ n → Lib.validD a = true → Lib.validD (a ++ b) = Lib.validD b
  | 0, a, b, h, _ => by rw [List.eq_nil_of_length_eq_zero (by omega : a.length = 0)]; rfl
  | n + 1, a, b, h, hv => by
    by_cases hne : a = []
    · rw [hne]; rfl
    · rw [Lib.validD_step a hne] at hv
      by_cases hb : (Lib.decodeL a).1 = 65533 ∧ (Lib.decodeL a).2 = 1
      · rw [if_pos hb] at hv; cases hv
      · rw [if_neg hb] at hv
        obtain ⟨h1, h2⟩ := decodeL_more a b hne hb
        have hw := Lib.decodeL_width a
        rw [Lib.validD_step (a ++ b) (by simp [hne]), h1, if_neg hb, List.drop_append_of_le_length h2]
        exact valid_app n _ b (by rw [List.length_drop]; have : 1 ≤ a.length := List.length_pos_iff.2 hne; omega) hv
/-- How many signs a text has. -/
def runesG : Nat → List UInt8 → Nat
  | 0, _ => 0
  | n + 1, l => if l = [] then 0 else 1 + runesG n (l.drop (Lib.decodeL l).2)
def runesL (l : List UInt8) : Nat := runesG l.length l
theorem runesG_from (l : List UInt8) : ∀ (n pos : Nat), Lib.runeCountFrom (str l) n pos = runesG n (l.drop pos)
  | 0, pos => rfl
  | n + 1, pos => by
    have e : Lib.runeCountFrom (str l) (n + 1) pos = if pos < (str l).size then 1 + Lib.runeCountFrom (str l) n (pos + (Utf8.decode (str l) pos).2) else 0 := rfl
    have e2 : runesG (n + 1) (l.drop pos) = if l.drop pos = [] then 0 else 1 + runesG n ((l.drop pos).drop (Lib.decodeL (l.drop pos)).2) := rfl
    rw [e, e2, str_size]
    by_cases h : pos < l.length
    · rw [if_pos h, if_neg (by intro q; have := congrArg List.length q; rw [List.length_drop] at this; simp at this; omega), runesG_from l n, List.drop_drop]
      have := Lib.decodeL_drop (str l) pos
      rw [str_data] at this
      rw [this]
    · rw [if_neg h, if_pos (List.drop_of_length_le (by omega))]
theorem runes_str (l : List UInt8) : Lib.runeCount (str l) = runesL l := by
  unfold Lib.runeCount runesL
  rw [runesG_from, str_size, List.drop_zero]
theorem runesG_nil : ∀ n, runesG n [] = 0
  | 0 => rfl
  | n + 1 => by simp [runesG]
theorem runesG_any : ∀ (n m : Nat) (l : List UInt8), l.length ≤ n → l.length ≤ m → runesG n l = runesG m l
  | 0, m, l, h, _ => by rw [List.eq_nil_of_length_eq_zero (by omega : l.length = 0), runesG_nil, runesG_nil]
  | n + 1, 0, l, _, h => by rw [List.eq_nil_of_length_eq_zero (by omega : l.length = 0), runesG_nil, runesG_nil]
  | n + 1, m + 1, l, h1, h2 => by
    simp only [runesG]
    by_cases hne : l = []
    · rw [if_pos hne, if_pos hne]
    · have hw := Lib.decodeL_width l
      have hp : 1 ≤ l.length := List.length_pos_iff.2 hne
      rw [if_neg hne, if_neg hne, runesG_any n m _ (by rw [List.length_drop]; omega) (by rw [List.length_drop]; omega)]
theorem runesG_app : ∀ (n : Nat) (a b : List UInt8), a.length ≤ n → Lib.validD a = true → runesG (n + b.length) (a ++ b) = runesG n a + runesL b
  | 0, a, b, h, _ => by
    rw [List.eq_nil_of_length_eq_zero (by omega : a.length = 0), List.nil_append, runesG_nil, Nat.zero_add, Nat.zero_add]; rfl
  | n + 1, a, b, h, hv => by
    by_cases hne : a = []
    · rw [hne, List.nil_append, runesG_nil, Nat.zero_add]
      exact runesG_any _ _ b (by omega) (Nat.le_refl _)
    · rw [Lib.validD_step a hne] at hv
      by_cases hb : (Lib.decodeL a).1 = 65533 ∧ (Lib.decodeL a).2 = 1
      · rw [if_pos hb] at hv; cases hv
      · rw [if_neg hb] at hv
        obtain ⟨h1, h2⟩ := decodeL_more a b hne hb
        have hw := Lib.decodeL_width a
        rw [show n + 1 + b.length = (n + b.length) + 1 by omega]
        simp only [runesG]
        rw [if_neg (by simp [hne]), if_neg hne, h1, List.drop_append_of_le_length h2, runesG_app n _ b (by rw [List.length_drop]; have : 1 ≤ a.length := List.length_pos_iff.2 hne; omega) hv]
        omega
theorem runes_app (a b : List UInt8) (h : Lib.validD a = true) : runesL (a ++ b) = runesL a + runesL b := by
  have := runesG_app a.length a b (Nat.le_refl _) h
  unfold runesL at this ⊢
  rw [List.length_append, this]
theorem runes_le (a : List UInt8) : runesL a ≤ a.length := by
  have := Lib.runeCount_le (str a)
  rw [runes_str, str_size] at this
  exact this
theorem runes_pos (a : List UInt8) : 0 < runesL a ↔ a ≠ [] := by
  unfold runesL
  cases a with
  | nil => simp [runesG]
  | cons x l => simp [runesG]; omega
end Go.Proofs.YtfedlchncngafaaGreatDoor
