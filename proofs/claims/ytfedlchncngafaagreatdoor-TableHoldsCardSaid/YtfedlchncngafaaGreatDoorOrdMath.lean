/-
  PLAIN MATHEMATICS of how values stand (ordV): turned round it is the other sign; nought just if both are the same; it chains.
  CONDITIONS: each theorem's own hypotheses.
-/
import Derived.Test.YtfedlchncngafaaGreatDoorGValD
namespace Go.Proofs.YtfedlchncngafaaGreatDoor
open Go.RowKit
set_option linter.unusedVariables false

def Chain (m n k : Int) : Prop := m ≤ 0 → n ≤ 0 → k ≤ 0 ∧ (k < 0 ↔ m < 0 ∨ n < 0)

theorem cmp3_cases (x y : Int) : (x < y ∧ cmp3 x y = -1) ∨ (x = y ∧ cmp3 x y = 0) ∨ (y < x ∧ cmp3 x y = 1) := by
  unfold cmp3
  by_cases h : x < y
  · rw [if_pos h]; omega
  · by_cases g : y < x
    · rw [if_neg h, if_pos g]; omega
    · rw [if_neg h, if_neg g]; omega
theorem cmp3_anti (x y : Int) : cmp3 y x = - cmp3 x y := by
  have := cmp3_cases x y; have := cmp3_cases y x; omega
theorem cmp3_zero (x y : Int) : cmp3 x y = 0 ↔ x = y := by
  have := cmp3_cases x y; omega
theorem cmp3_chain (x y z : Int) : Chain (cmp3 x y) (cmp3 y z) (cmp3 x z) := by
  intro h1 h2
  have := cmp3_cases x y; have := cmp3_cases y z; have := cmp3_cases x z; omega

theorem cmpB_cons (a b : UInt8) (l m : List UInt8) : Lib.compareBytes (a :: l) (b :: m) = if a.toNat < b.toNat then -1 else if b.toNat < a.toNat then 1 else Lib.compareBytes l m := by
  show (if a < b then -1 else if b < a then 1 else Lib.compareBytes l m) = _
  simp only [UInt8.lt_iff_toNat_lt]
theorem cmpB_anti : ∀ a b : List UInt8, Lib.compareBytes b a = - Lib.compareBytes a b
  | [], [] => rfl
  | [], _ :: _ => rfl
  | _ :: _, [] => rfl
  | a :: l, b :: m => by
    have := cmpB_anti l m
    rw [cmpB_cons, cmpB_cons]
    by_cases h : a.toNat < b.toNat
    · rw [if_pos h, if_neg (by omega), if_pos h]; rfl
    · by_cases g : b.toNat < a.toNat
      · rw [if_pos g, if_neg h, if_pos g]
      · rw [if_neg h, if_neg g, if_neg g, if_neg h]; exact this
theorem cmpB_zero : ∀ a b : List UInt8, Lib.compareBytes a b = 0 ↔ a = b
  | [], [] => by simp [Lib.compareBytes]
  | [], _ :: _ => by simp [Lib.compareBytes]
  | _ :: _, [] => by simp [Lib.compareBytes]
  | a :: l, b :: m => by
    have := cmpB_zero l m
    rw [cmpB_cons]
    by_cases h : a.toNat < b.toNat
    · rw [if_pos h]
      exact ⟨fun e => by omega, fun e => by simp only [List.cons.injEq] at e; rw [e.1] at h; omega⟩
    · by_cases g : b.toNat < a.toNat
      · rw [if_neg h, if_pos g]
        exact ⟨fun e => by omega, fun e => by simp only [List.cons.injEq] at e; rw [e.1] at g; omega⟩
      · rw [if_neg h, if_neg g, this]
        have e : a = b := UInt8.toNat_inj.1 (by omega)
        simp [e]
theorem cmpB_chain : ∀ a b c : List UInt8, Chain (Lib.compareBytes a b) (Lib.compareBytes b c) (Lib.compareBytes a c)
  | [], [], [] => by simp [Chain, Lib.compareBytes]
  | [], [], _ :: _ => by simp [Chain, Lib.compareBytes]
  | [], _ :: _, [] => by simp [Chain, Lib.compareBytes]
  | [], b :: m, c :: n => by
    intro h1 h2
    have e1 : Lib.compareBytes [] (b :: m) = -1 := rfl
    have e2 : Lib.compareBytes [] (c :: n) = -1 := rfl
    omega
  | _ :: _, [], _ => by
    intro h1 h2
    simp [Lib.compareBytes] at h1
  | a :: l, b :: m, [] => by
    intro h1 h2
    simp [Lib.compareBytes] at h2
  | a :: l, b :: m, c :: n => by
    have ih := cmpB_chain l m n
    unfold Chain at ih ⊢
    rw [cmpB_cons, cmpB_cons, cmpB_cons]
    intro h1 h2
    by_cases c1 : a.toNat < b.toNat
    · rw [if_pos c1] at h1 ⊢
      by_cases c2 : b.toNat < c.toNat
      · rw [if_pos c2, if_pos (by omega)]; omega
      · by_cases c3 : c.toNat < b.toNat
        · rw [if_neg c2, if_pos c3] at h2; omega
        · rw [if_pos (show a.toNat < c.toNat by omega)]; omega
    · by_cases c4 : b.toNat < a.toNat
      · rw [if_neg c1, if_pos c4] at h1; omega
      · rw [if_neg c1, if_neg c4] at h1 ⊢
        by_cases c2 : b.toNat < c.toNat
        · rw [if_pos c2, if_pos (by omega)]; omega
        · by_cases c3 : c.toNat < b.toNat
          · rw [if_neg c2, if_pos c3] at h2; omega
          · rw [if_neg c2, if_neg c3] at h2 ⊢
            rw [if_neg (by omega), if_neg (by omega)]
            exact ih h1 h2

/-- How two values of one kind stand. -/
def sub (v u : V) : Int := if v.k = 3 then cmp3 (FloatOrd.key v.b.toNat) (FloatOrd.key u.b.toNat) else if v.k = 4 then Lib.compareBytes v.s.data.toList u.s.data.toList else if v.k = 1 ∨ v.k = 2 then cmp3 v.i u.i else 0
theorem ordV_eq (v u : V) (h : v.k = u.k) : ordV v u = sub v u := by unfold ordV ord sub; rw [if_neg (by omega)]
theorem ordV_ne (v u : V) (h : v.k ≠ u.k) : ordV v u = cmp3 v.k u.k := by unfold ordV ord; rw [if_pos h]
theorem sub_range (v u : V) (h : v.k = u.k) : sub v u = -1 ∨ sub v u = 0 ∨ sub v u = 1 := ordV_eq v u h ▸ ordV_range v u
theorem sub_anti (v u : V) (h : v.k = u.k) : sub u v = - sub v u := by
  unfold sub
  rw [← h]
  by_cases c3 : v.k = 3
  · rw [if_pos c3, if_pos c3]; exact cmp3_anti _ _
  · by_cases c4 : v.k = 4
    · rw [if_neg c3, if_pos c4, if_neg c3, if_pos c4]; exact cmpB_anti _ _
    · by_cases c1 : v.k = 1 ∨ v.k = 2
      · rw [if_neg c3, if_neg c4, if_pos c1, if_neg c3, if_neg c4, if_pos c1]; exact cmp3_anti _ _
      · rw [if_neg c3, if_neg c4, if_neg c1, if_neg c3, if_neg c4, if_neg c1]; rfl
theorem sub_chain (v u t : V) (h1 : v.k = u.k) (h2 : u.k = t.k) : Chain (sub v u) (sub u t) (sub v t) := by
  unfold sub
  rw [← h1]
  by_cases c3 : v.k = 3
  · rw [if_pos c3, if_pos c3, if_pos c3]; exact cmp3_chain _ _ _
  · by_cases c4 : v.k = 4
    · simp only [if_neg c3, if_pos c4]; exact cmpB_chain _ _ _
    · by_cases c1 : v.k = 1 ∨ v.k = 2
      · simp only [if_neg c3, if_neg c4, if_pos c1]; exact cmp3_chain _ _ _
      · simp only [if_neg c3, if_neg c4, if_neg c1]; intro _ _; omega

theorem ordV_anti (v u : V) : ordV u v = - ordV v u := by
  by_cases h : v.k = u.k
  · rw [ordV_eq v u h, ordV_eq u v h.symm]; exact sub_anti v u h
  · rw [ordV_ne v u h, ordV_ne u v (Ne.symm h)]; exact cmp3_anti _ _
theorem ordV_chain (v u t : V) : Chain (ordV v u) (ordV u t) (ordV v t) := by
  by_cases h1 : v.k = u.k
  · by_cases h2 : u.k = t.k
    · rw [ordV_eq v u h1, ordV_eq u t h2, ordV_eq v t (h1.trans h2)]; exact sub_chain v u t h1 h2
    · rw [ordV_eq v u h1, ordV_ne u t h2, ordV_ne v t (fun e => h2 (h1 ▸ e))]
      intro a b
      have := cmp3_cases u.k t.k; have := cmp3_cases v.k t.k; omega
  · by_cases h2 : u.k = t.k
    · rw [ordV_ne v u h1, ordV_eq u t h2, ordV_ne v t (fun e => h1 (e.trans h2.symm))]
      intro a b
      have := cmp3_cases v.k u.k; have := cmp3_cases v.k t.k; omega
    · by_cases h3 : v.k = t.k
      · rw [ordV_ne v u h1, ordV_ne u t h2, ordV_eq v t h3]
        intro a b
        have := cmp3_cases v.k u.k; have := cmp3_cases u.k t.k; omega
      · rw [ordV_ne v u h1, ordV_ne u t h2, ordV_ne v t h3]; exact cmp3_chain _ _ _

theorem key_inj (b c : Int) (hb0 : 0 ≤ b) (hc0 : 0 ≤ c) (hb : b ≠ 9223372036854775808) (hc : c ≠ 9223372036854775808) (h : FloatOrd.key b.toNat = FloatOrd.key c.toNat) : b = c := by
  unfold FloatOrd.key at h
  split at h <;> split at h <;> omega

/-- The fields of a value that may be, by its kind. -/
theorem own_of (v : V) (hv : v.Fits) (h : v.chk = 0) : own v.k v.i v.b v.s = true := by
  unfold V.chk chk at h
  by_cases c1 : v.k < 0 ∨ 4 < v.k
  · rw [if_pos c1] at h; omega
  rw [if_neg c1] at h
  by_cases c2 : 40 < v.s.size
  · rw [if_pos c2] at h; omega
  rw [if_neg c2] at h
  by_cases c3 : (own v.k v.i v.b v.s && good v.k v.i v.b v.s) = true
  · simp only [Bool.and_eq_true] at c3; exact c3.1
  · rw [if_neg c3] at h; omega

theorem bytes_eq {s t : ByteArray} (h : s.data.toList = t.data.toList) : s = t := by
  rw [← Lib.mk_data s, ← Lib.mk_data t, h]
theorem empty_eq {s : ByteArray} (h : s.toList.isEmpty = true) : s.data.toList = [] := by
  rw [Lib.toList_data] at h; simpa using h

theorem ordV_zero (v u : V) (hv : v.Fits) (hu : u.Fits) (cv : v.chk = 0) (cu : u.chk = 0) : ordV v u = 0 ↔ v = u := by
  constructor
  · intro h
    have gv := good_of v hv cv
    have gu := good_of u hu cu
    have ov := own_of v hv cv
    have ou := own_of u hu cu
    by_cases hk : v.k = u.k
    · rw [ordV_eq v u hk] at h
      unfold sub at h
      unfold own at ov ou
      rw [← hk] at ou
      have hi : v.i = u.i ∧ v.b = u.b ∧ v.s.data.toList = u.s.data.toList := by
        rcases (show v.k = 0 ∨ v.k = 1 ∨ v.k = 2 ∨ v.k = 3 ∨ v.k = 4 from by have := gv.k0; have := gv.k4; omega) with e | e | e | e | e
        · rw [e] at ov ou
          simp at ov ou
          have := Lib.toList_data v.s; have := Lib.toList_data u.s
          exact ⟨by omega, by omega, by simp_all⟩
        · rw [e] at ov ou h
          simp at ov ou
          rw [if_neg (by decide), if_neg (by decide), if_pos (by decide), cmp3_zero] at h
          have := Lib.toList_data v.s; have := Lib.toList_data u.s
          exact ⟨h, by omega, by simp_all⟩
        · rw [e] at ov ou h
          simp at ov ou
          rw [if_neg (by decide), if_neg (by decide), if_pos (by decide), cmp3_zero] at h
          have := Lib.toList_data v.s; have := Lib.toList_data u.s
          exact ⟨h, by omega, by simp_all⟩
        · rw [e] at ov ou h
          simp at ov ou
          rw [if_pos rfl, cmp3_zero] at h
          have := Lib.toList_data v.s; have := Lib.toList_data u.s
          exact ⟨by omega, key_inj _ _ hv.b0 hu.b0 (gv.nought e) (gu.nought (hk ▸ e)) h, by simp_all⟩
        · rw [e] at ov ou h
          simp at ov ou
          rw [if_neg (by decide), if_pos rfl, cmpB_zero] at h
          exact ⟨by omega, by omega, h⟩
      obtain ⟨h1, h2, h3⟩ := hi
      cases v; cases u
      simp only [V.mk.injEq]
      exact ⟨hk, h1, h2, bytes_eq h3⟩
    · rw [ordV_ne v u hk, cmp3_zero] at h; exact absurd h hk
  · rintro rfl
    have := ordV_anti v v
    omega
end Go.Proofs.YtfedlchncngafaaGreatDoor
