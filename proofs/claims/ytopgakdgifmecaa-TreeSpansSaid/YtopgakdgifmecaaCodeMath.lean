/-
  PLAIN MATHEMATICS of rows as bytes: how a value is laid, how it is read, that each undoes the other, that what is cut is short, and that the bytes stand as the values stand.
  CONDITIONS: each theorem's own hypotheses.
-/
import Derived.Below
import Derived.Lib.Hide
import Derived.Lib.Bytealg
namespace Go.Proofs.Ytopgakdgifmecaa.CodeMath
open Go Go.RowKit
set_option linter.unusedVariables false

structure Val where
  k : Int
  i : Int
  b : Int
  s : List UInt8
/-- What a value that may be keeps. -/
structure Facts (v : Val) : Prop where
  k0 : 0 ≤ v.k
  k4 : v.k ≤ 4
  bool : v.k = 1 → v.i = 0 ∨ v.i = 1
  i0 : -9223372036854775808 ≤ v.i
  i1 : v.i ≤ 9223372036854775807
  b0 : 0 ≤ v.b
  b1 : v.b ≤ 18446744073709551615
  noi : v.k ≠ 1 → v.k ≠ 2 → v.i = 0
  nob : v.k ≠ 3 → v.b = 0
  nos : v.k ≠ 4 → v.s = []
  s40 : v.s.length ≤ 40

def two63 : Int := 9223372036854775808
def two64 : Int := 18446744073709551616
def lowB (n : Int) : UInt8 := UInt8.ofNat (n % 256).toNat
def be (n : Int) : Nat → List UInt8
  | 0 => []
  | j + 1 => lowB (n / 256 ^ j) :: be n j
def num : List UInt8 → Int → Int
  | [], n => n
  | c :: l, n => num l (n * 256 + c.toNat)
def up64 (b : Int) : Int := if b < two63 then b + two63 else two64 - 1 - b
def down64 (r : Int) : Int := if r < two63 then two64 - 1 - r else r - two63
def esc : List UInt8 → List UInt8
  | [] => []
  | c :: l => if c = 0 then 0 :: 255 :: esc l else c :: esc l
def enc (v : Val) : List UInt8 :=
  if v.k = 1 then [2, lowB v.i] else if v.k = 2 then 3 :: be (v.i + two63) 8 else if v.k = 3 then 4 :: be (up64 v.b) 8 else if v.k = 4 then 5 :: (esc v.s ++ [0, 1]) else [lowB (v.k + 1)]

theorem lowB_toNat (n : Int) : ((lowB n).toNat : Int) = n % 256 := by
  unfold lowB
  simp only [UInt8.toNat_ofNat']
  have h0 := Int.emod_nonneg n (show (256 : Int) ≠ 0 by decide)
  have h1 := Int.emod_lt_of_pos n (show (0 : Int) < 256 by decide)
  omega
theorem byte_eq {a b : UInt8} (h : (a.toNat : Int) = b.toNat) : a = b := UInt8.toNat_inj.1 (by omega)
theorem byte_lt (a : UInt8) : a.toNat < 256 := a.toNat_lt

theorem be_length (n : Int) : ∀ j, (be n j).length = j
  | 0 => rfl
  | j + 1 => by simp [be, be_length n j]
theorem pow_pos' (j : Nat) : (0 : Int) < 256 ^ j := Int.pow_pos (by decide)
theorem num_be (n : Int) : ∀ j (a : Int), num (be n j) a = a * 256 ^ j + n % 256 ^ j
  | 0, a => by simp [be, num, Int.emod_one]
  | j + 1, a => by
    show num (be n j) (a * 256 + (lowB (n / 256 ^ j)).toNat) = _
    rw [num_be n j, lowB_toNat]
    have hp := pow_pos' j
    have e1 : n % 256 ^ (j + 1) = (n / 256 ^ j % 256) * 256 ^ j + n % 256 ^ j := by
      have h := Int.emod_emod_of_dvd n (show (256 ^ j : Int) ∣ 256 ^ (j + 1) from ⟨256, by rw [Int.pow_succ]⟩)
      have h2 : n % 256 ^ (j + 1) / 256 ^ j = n / 256 ^ j % 256 := by
        have e := Int.emod_def n (256 ^ (j + 1))
        have e2 : n % 256 ^ (j + 1) = n + 256 ^ j * (256 * -(n / 256 ^ (j + 1))) := by
          rw [e, Int.pow_succ]
          rw [← Int.mul_assoc, Int.mul_neg]; omega
        rw [e2, Int.add_mul_ediv_left _ _ (by omega)]
        have e3 : n / 256 ^ (j + 1) = n / 256 ^ j / 256 := by
          have := @Int.ediv_ediv n (256 ^ j) 256
          rw [if_neg (by omega)] at this
          rw [Int.pow_succ]; omega
        rw [e3]
        have := Int.emod_def (n / 256 ^ j) 256
        omega
      have h3 := Int.mul_ediv_add_emod (n % 256 ^ (j + 1)) (256 ^ j)
      rw [h, h2, Int.mul_comm] at h3
      omega
    rw [e1, Int.pow_succ]
    rw [Int.add_mul, Int.mul_assoc, Int.mul_comm 256 (256 ^ j)]
    omega
theorem num_range : ∀ (l : List UInt8) (a : Int), a * 256 ^ l.length ≤ num l a ∧ num l a < (a + 1) * 256 ^ l.length
  | [], a => by simp [num]; omega
  | c :: l, a => by
    obtain ⟨h0, h1⟩ := num_range l (a * 256 + c.toNat)
    have hp := pow_pos' l.length
    have hc := byte_lt c
    simp only [num, List.length_cons, Int.pow_succ]
    constructor
    · refine Int.le_trans ?_ h0
      rw [← Int.mul_assoc, Int.mul_comm (a * 256 ^ l.length) 256, Int.add_mul, ← Int.mul_assoc, Int.mul_comm 256 a]
      have := Int.mul_nonneg (show (0 : Int) ≤ c.toNat by omega) (Int.le_of_lt hp)
      omega
    · refine Int.lt_of_lt_of_le h1 ?_
      rw [Int.mul_comm (256 ^ l.length) 256, ← Int.mul_assoc]
      exact Int.mul_le_mul_of_nonneg_right (by omega) (Int.le_of_lt hp)
theorem be_num : ∀ (l : List UInt8) (a : Int), be (num l a) l.length = l
  | [], a => rfl
  | c :: l, a => by
    have h := be_num l (a * 256 + c.toNat)
    obtain ⟨h0, h1⟩ := num_range l (a * 256 + c.toNat)
    show lowB (num l (a * 256 + c.toNat) / 256 ^ l.length) :: be (num l (a * 256 + c.toNat)) l.length = _
    rw [h]
    have hp := pow_pos' l.length
    have e : num l (a * 256 + c.toNat) / 256 ^ l.length = a * 256 + c.toNat :=
      Int.le_antisymm (Int.le_of_lt_add_one ((Int.ediv_lt_iff_lt_mul hp).2 h1)) ((Int.le_ediv_iff_mul_le hp).2 h0)
    rw [e]
    congr 1
    apply byte_eq
    rw [lowB_toNat]
    have := byte_lt c
    omega
theorem num8 (l : List UInt8) (h : l.length = 8) : 0 ≤ num l 0 ∧ num l 0 < two64 := by
  have := num_range l 0
  rw [h] at this
  unfold two64
  have e : (256 : Int) ^ 8 = 18446744073709551616 := by decide
  rw [e] at this
  omega
theorem num_be8 (n : Int) (h0 : 0 ≤ n) (h1 : n < two64) : num (be n 8) 0 = n := by
  rw [num_be]
  have e : (256 : Int) ^ 8 = two64 := by decide
  rw [e, Int.emod_eq_of_lt h0 h1]
  omega
theorem be8_num (l : List UInt8) (h : l.length = 8) : be (num l 0) 8 = l := by
  have := be_num l 0
  rwa [h] at this

/-! ### reading -/
inductive TRes where
  | err (e : Int)
  | ok (s : List UInt8) (k : Nat)
def txt : List UInt8 → List UInt8 → Nat → TRes
  | [], _, _ => .err 4
  | c :: l, acc, k =>
    if c = 0 then
      match l with
      | [] => .err 4
      | m :: l' => if m = 255 then (if acc.length = 40 then .err 1 else txt l' (acc ++ [0]) (k + 2)) else if m = 1 then .ok acc (k + 2) else .err 3
    else if acc.length = 40 then .err 1 else txt l (acc ++ [c]) (k + 1)
inductive Res where
  | err (e : Int)
  | ok (v : Val) (k : Nat)
def fin (ok : Val → Bool) (v : Val) (k : Nat) : Res := if ok v then .ok v k else .err 3
def dec1 (ok : Val → Bool) : List UInt8 → Res
  | [] => .err 4
  | c :: r =>
    if c = 1 then fin ok ⟨0, 0, 0, []⟩ 1
    else if c = 2 then (match r with | [] => .err 4 | x :: _ => fin ok ⟨1, x.toNat, 0, []⟩ 2)
    else if c = 3 then (if r.length < 8 then .err 4 else fin ok ⟨2, num (r.take 8) 0 - two63, 0, []⟩ 9)
    else if c = 4 then (if r.length < 8 then .err 4 else fin ok ⟨3, 0, down64 (num (r.take 8) 0), []⟩ 9)
    else if c = 5 then (match txt r [] 0 with | .err e => .err e | .ok s k => fin ok ⟨4, 0, 0, s⟩ (k + 1))
    else .err 3

theorem txt_cons (c : UInt8) (l acc : List UInt8) (k : Nat) (hc : ¬ c = 0) : txt (c :: l) acc k = if acc.length = 40 then .err 1 else txt l (acc ++ [c]) (k + 1) := by
  cases l <;> simp [txt, hc]
theorem txt_esc : ∀ (s acc r : List UInt8) (k : Nat), acc.length + s.length ≤ 40 → txt (esc s ++ 0 :: 1 :: r) acc k = .ok (acc ++ s) (k + (esc s).length + 2)
  | [], acc, r, k, h => by simp [esc, txt]
  | c :: s, acc, r, k, h => by
    simp only [List.length_cons] at h
    by_cases hc : c = 0
    · subst hc
      have := txt_esc s (acc ++ [0]) r (k + 2) (by simp; omega)
      simp only [esc, if_pos, List.cons_append, txt, List.length_cons]
      rw [if_neg (by omega), this]
      simp; omega
    · have := txt_esc s (acc ++ [c]) r (k + 1) (by simp; omega)
      simp only [esc, if_neg hc, List.cons_append, List.length_cons]
      rw [txt_cons _ _ _ _ hc, if_neg (by omega), this]
      simp; omega
theorem txt_ok : ∀ (n : Nat) (l acc : List UInt8) (k : Nat) (s : List UInt8) (m : Nat), l.length ≤ n → txt l acc k = .ok s m → ∃ t j, s = acc ++ t ∧ m = k + j ∧ j ≤ l.length ∧ l.take j = esc t ++ [0, 1]
  | n, [], acc, k, s, m, hn, h => by simp [txt] at h
  | 0, c :: l, acc, k, s, m, hn, h => by simp at hn
  | n + 1, c :: l, acc, k, s, m, hn, h => by
    simp only [List.length_cons] at hn
    by_cases hc : c = 0
    · subst hc
      match l with
      | [] => simp [txt] at h
      | d :: l' =>
        simp only [List.length_cons] at hn
        simp only [txt, if_pos] at h
        by_cases hd : d = 255
        · subst hd
          simp only [if_pos] at h
          split at h
          · cases h
          · obtain ⟨t, j, e1, e2, e3, e4⟩ := txt_ok n l' (acc ++ [0]) (k + 2) s m (by omega) h
            exact ⟨0 :: t, j + 2, by simp [e1], by omega, by simp; omega, by simp [esc, e4]⟩
        · rw [if_neg hd] at h
          by_cases hd1 : d = 1
          · subst hd1
            simp only [if_pos, TRes.ok.injEq] at h
            exact ⟨[], 2, by simp [h.1], by omega, by simp, by simp [esc]⟩
          · rw [if_neg hd1] at h; cases h
    · rw [txt_cons _ _ _ _ hc] at h
      split at h
      · cases h
      · obtain ⟨t, j, e1, e2, e3, e4⟩ := txt_ok n l (acc ++ [c]) (k + 1) s m (by omega) h
        exact ⟨c :: t, j + 1, by simp [e1], by omega, by simp; omega, by simp [esc, hc, e4]⟩
theorem txt_cut : ∀ (s acc : List UInt8) (k j : Nat), acc.length + s.length ≤ 40 → j < (esc s).length + 2 → txt ((esc s ++ [0, 1]).take j) acc k = .err 4
  | [], acc, k, 0, h, hj => by simp [txt]
  | [], acc, k, 1, h, hj => by simp [esc, txt]
  | [], acc, k, j + 2, h, hj => by simp only [esc, List.length_nil] at hj; omega
  | c :: s, acc, k, 0, h, hj => by simp [txt]
  | c :: s, acc, k, j + 1, h, hj => by
    simp only [List.length_cons] at h
    by_cases hc : c = 0
    · subst hc
      match j with
      | 0 => simp [esc, txt]
      | j + 1 =>
        simp only [esc, if_pos, List.length_cons] at hj
        have := txt_cut s (acc ++ [0]) (k + 2) j (by simp; omega) (by omega)
        simp only [esc, if_pos, List.cons_append, List.take_succ_cons, txt]
        rw [if_neg (by omega), this]
    · simp only [esc, if_neg hc, List.length_cons] at hj
      have := txt_cut s (acc ++ [c]) (k + 1) j (by simp; omega) (by omega)
      simp only [esc, if_neg hc, List.cons_append, List.take_succ_cons]
      rw [txt_cons _ _ _ _ hc, if_neg (by omega), this]

theorem up64_range (b : Int) (h0 : 0 ≤ b) (h1 : b ≤ 18446744073709551615) : 0 ≤ up64 b ∧ up64 b < two64 := by
  unfold up64 two63 two64; split <;> omega
theorem down_up64 (b : Int) (h0 : 0 ≤ b) (h1 : b ≤ 18446744073709551615) : down64 (up64 b) = b := by
  unfold down64 up64 two63 two64
  by_cases h : b < 9223372036854775808
  · rw [if_pos h, if_neg (by omega)]; omega
  · rw [if_neg h, if_pos (by omega)]; omega
theorem up_down64 (r : Int) (h0 : 0 ≤ r) (h1 : r < two64) : up64 (down64 r) = r := by
  unfold two64 at h1
  unfold down64 up64 two63 two64
  by_cases h : r < 9223372036854775808
  · rw [if_pos h, if_neg (by omega)]; omega
  · rw [if_neg h, if_pos (by omega)]; omega

theorem enc_pos (v : Val) : 0 < (enc v).length := by
  unfold enc
  repeat (first | (split) | (simp))
theorem kinds (v : Val) (h : Facts v) : v.k = 0 ∨ v.k = 1 ∨ v.k = 2 ∨ v.k = 3 ∨ v.k = 4 := by have := h.k0; have := h.k4; omega

theorem val_eq {v u : Val} (h1 : v.k = u.k) (h2 : v.i = u.i) (h3 : v.b = u.b) (h4 : v.s = u.s) : v = u := by
  cases v; cases u; simp at *; exact ⟨h1, h2, h3, h4⟩

theorem enc0 (v : Val) (h : v.k = 0) : enc v = [1] := by unfold enc; rw [h]; rfl
theorem enc1 (v : Val) (h : v.k = 1) : enc v = [2, lowB v.i] := by unfold enc; rw [if_pos h]
theorem enc2 (v : Val) (h : v.k = 2) : enc v = 3 :: be (v.i + two63) 8 := by unfold enc; rw [if_neg (by omega), if_pos h]
theorem enc3 (v : Val) (h : v.k = 3) : enc v = 4 :: be (up64 v.b) 8 := by unfold enc; rw [if_neg (by omega), if_neg (by omega), if_pos h]
theorem enc4 (v : Val) (h : v.k = 4) : enc v = 5 :: (esc v.s ++ [0, 1]) := by unfold enc; rw [if_neg (by omega), if_neg (by omega), if_neg (by omega), if_pos h]

theorem dec1_enc (ok : Val → Bool) (v : Val) (h : Facts v) (hok : ok v = true) (r : List UInt8) : dec1 ok (enc v ++ r) = .ok v (enc v).length := by
  rcases kinds v h with hk | hk | hk | hk | hk
  · have e : v = ⟨0, 0, 0, []⟩ := val_eq hk (h.noi (by omega) (by omega)) (h.nob (by omega)) (h.nos (by omega))
    subst e
    simp only [enc0 _ hk, List.cons_append, List.nil_append, dec1]
    simp [fin, hok]
  · have hi := h.bool hk
    have e : v = ⟨1, (lowB v.i).toNat, 0, []⟩ := val_eq hk (by show v.i = ((lowB v.i).toNat : Int); rw [lowB_toNat]; omega) (h.nob (by omega)) (h.nos (by omega))
    simp only [enc1 _ hk, List.cons_append, List.nil_append, dec1]
    rw [if_neg (by decide), if_pos trivial, ← e]
    simp [fin, hok]
  · have := h.i0
    have := h.i1
    have e : v = ⟨2, num (be (v.i + two63) 8) 0 - two63, 0, []⟩ := val_eq hk (by rw [num_be8 _ (by unfold two63; omega) (by unfold two63 two64; omega)]; simp) (h.nob (by omega)) (h.nos (by omega))
    have hl := be_length (v.i + two63) 8
    simp only [enc2 _ hk, List.cons_append, dec1]
    rw [if_neg (by decide), if_neg (by decide), if_pos trivial, if_neg (by simp [hl]), List.take_left' hl, ← e]
    simp [fin, hok, hl]
  · have := h.b0
    have := h.b1
    have hr := up64_range v.b h.b0 h.b1
    have e : v = ⟨3, 0, down64 (num (be (up64 v.b) 8) 0), []⟩ := val_eq hk (h.noi (by omega) (by omega)) (by rw [num_be8 _ hr.1 hr.2, down_up64 _ h.b0 h.b1]) (h.nos (by omega))
    have hl := be_length (up64 v.b) 8
    simp only [enc3 _ hk, List.cons_append, dec1]
    rw [if_neg (by decide), if_neg (by decide), if_neg (by decide), if_pos trivial, if_neg (by simp [hl]), List.take_left' hl, ← e]
    simp [fin, hok, hl]
  · have e : v = ⟨4, 0, 0, v.s⟩ := val_eq hk (h.noi (by omega) (by omega)) (h.nob (by omega)) rfl
    have ht := txt_esc v.s [] r 0 (by have := h.s40; simpa using this)
    simp only [enc4 _ hk, List.cons_append, List.append_assoc, List.nil_append, dec1]
    rw [if_neg (by decide), if_neg (by decide), if_neg (by decide), if_neg (by decide), if_pos trivial, ht]
    simp only [List.nil_append]
    rw [← e]
    simp [fin, hok]

theorem fin_ok {ok : Val → Bool} {v u : Val} {k m : Nat} (h : fin ok v k = .ok u m) : v = u ∧ k = m ∧ ok u = true := by
  unfold fin at h
  split at h
  · simp only [Res.ok.injEq] at h
    obtain ⟨rfl, rfl⟩ := h
    exact ⟨rfl, rfl, by assumption⟩
  · cases h

theorem enc_dec1 (ok : Val → Bool) (l : List UInt8) (v : Val) (k : Nat) (h : dec1 ok l = .ok v k) : ok v = true ∧ k ≤ l.length ∧ l.take k = enc v ∧ 0 < k := by
  match l with
  | [] => simp [dec1] at h
  | c :: r =>
    simp only [dec1] at h
    by_cases h1 : c = 1
    · subst h1
      rw [if_pos rfl] at h
      obtain ⟨rfl, rfl, ho⟩ := fin_ok h
      exact ⟨ho, by simp, by simp [enc0], by omega⟩
    rw [if_neg h1] at h
    by_cases h2 : c = 2
    · subst h2
      rw [if_pos rfl] at h
      match r with
      | [] => cases h
      | x :: r' =>
        obtain ⟨rfl, rfl, ho⟩ := fin_ok h
        refine ⟨ho, by simp, ?_, by omega⟩
        rw [enc1 _ rfl]
        simp only [List.take_succ_cons, List.take_zero]
        rw [show lowB (x.toNat : Int) = x from byte_eq (by rw [lowB_toNat]; have := byte_lt x; omega)]
    rw [if_neg h2] at h
    by_cases h3 : c = 3
    · subst h3
      rw [if_pos rfl] at h
      split at h
      · cases h
      · obtain ⟨rfl, rfl, ho⟩ := fin_ok h
        refine ⟨ho, by simp; omega, ?_, by omega⟩
        rw [enc2 _ rfl]
        have hl : (r.take 8).length = 8 := by simp; omega
        simp only [List.take_succ_cons]
        rw [Int.sub_add_cancel, be8_num _ hl]
    rw [if_neg h3] at h
    by_cases h4 : c = 4
    · subst h4
      rw [if_pos rfl] at h
      split at h
      · cases h
      · obtain ⟨rfl, rfl, ho⟩ := fin_ok h
        refine ⟨ho, by simp; omega, ?_, by omega⟩
        rw [enc3 _ rfl]
        have hl : (r.take 8).length = 8 := by simp; omega
        have hn := num8 _ hl
        simp only [List.take_succ_cons]
        rw [up_down64 _ hn.1 hn.2, be8_num _ hl]
    rw [if_neg h4] at h
    by_cases h5 : c = 5
    · subst h5
      rw [if_pos rfl] at h
      split at h
      · cases h
      · rename_i s m ht
        obtain ⟨rfl, rfl, ho⟩ := fin_ok h
        obtain ⟨t, j, e1, e2, e3, e4⟩ := txt_ok r.length r [] 0 s m (Nat.le_refl _) ht
        have e2' : m = j := by omega
        subst e2'
        refine ⟨ho, by simp; omega, ?_, by omega⟩
        rw [enc4 _ rfl]
        simp only [List.take_succ_cons, e4]
        simp [e1]
    rw [if_neg h5] at h
    cases h

theorem dec1_cut (ok : Val → Bool) (v : Val) (h : Facts v) (j : Nat) (hj : j < (enc v).length) : dec1 ok ((enc v).take j) = .err 4 := by
  match j with
  | 0 => simp [dec1]
  | j + 1 =>
    rcases kinds v h with hk | hk | hk | hk | hk
    · rw [enc0 _ hk] at hj; simp at hj
    · rw [enc1 _ hk] at hj ⊢
      have : j = 0 := by simp at hj; omega
      subst this
      simp [dec1]
    · have hl := be_length (v.i + two63) 8
      rw [enc2 _ hk] at hj ⊢
      simp only [List.length_cons, hl] at hj
      simp only [List.take_succ_cons, dec1]
      rw [if_neg (by decide), if_neg (by decide), if_pos trivial, if_pos (by simp [hl]; omega)]
    · have hl := be_length (up64 v.b) 8
      rw [enc3 _ hk] at hj ⊢
      simp only [List.length_cons, hl] at hj
      simp only [List.take_succ_cons, dec1]
      rw [if_neg (by decide), if_neg (by decide), if_neg (by decide), if_pos trivial, if_pos (by simp [hl]; omega)]
    · rw [enc4 _ hk] at hj ⊢
      simp only [List.length_cons, List.length_append, List.length_nil] at hj
      have ht := txt_cut v.s [] 0 j (by have := h.s40; simpa using this) (by omega)
      simp only [List.take_succ_cons, dec1]
      rw [if_neg (by decide), if_neg (by decide), if_neg (by decide), if_neg (by decide), if_pos trivial, ht]

/-! ### how bytes stand -/
/-- The first difference: nought where one begins with the other. -/
def fd : List UInt8 → List UInt8 → Int
  | [], _ => 0
  | _ :: _, [] => 0
  | a :: l, b :: m => if a.toNat < b.toNat then -1 else if b.toNat < a.toNat then 1 else fd l m
def sgn (x y : Int) : Int := if x < y then -1 else if y < x then 1 else 0

theorem fd_cons (a b : UInt8) (l m : List UInt8) : fd (a :: l) (b :: m) = if a.toNat < b.toNat then -1 else if b.toNat < a.toNat then 1 else fd l m := rfl
theorem cmpB_cons' (a b : UInt8) (l m : List UInt8) : Lib.compareBytes (a :: l) (b :: m) = if a.toNat < b.toNat then -1 else if b.toNat < a.toNat then 1 else Lib.compareBytes l m := by
  show (if a < b then -1 else if b < a then 1 else Lib.compareBytes l m) = _
  simp only [UInt8.lt_iff_toNat_lt]
theorem fd_same : ∀ l, fd l l = 0
  | [] => rfl
  | a :: l => by rw [fd_cons, if_neg (by omega), if_neg (by omega)]; exact fd_same l
theorem fd_range : ∀ l m, fd l m = -1 ∨ fd l m = 0 ∨ fd l m = 1
  | [], _ => by simp [fd]
  | _ :: _, [] => by simp [fd]
  | a :: l, b :: m => by rw [fd_cons]; have := fd_range l m; split <;> (try split) <;> omega
theorem cmp_fd : ∀ (p q x y : List UInt8), fd p q ≠ 0 → Lib.compareBytes (p ++ x) (q ++ y) = fd p q
  | [], _, x, y, h => by simp [fd] at h
  | _ :: _, [], x, y, h => by simp [fd] at h
  | a :: l, b :: m, x, y, h => by
    rw [fd_cons] at h ⊢
    rw [List.cons_append, List.cons_append, cmpB_cons']
    split
    · rfl
    · split
      · rfl
      · rename_i h1 h2
        rw [if_neg h1, if_neg h2] at h
        exact cmp_fd l m x y h
theorem cmp_same : ∀ (p x y : List UInt8), Lib.compareBytes (p ++ x) (p ++ y) = Lib.compareBytes x y
  | [], _, _ => rfl
  | a :: l, x, y => by rw [List.cons_append, List.cons_append, cmpB_cons', if_neg (by omega), if_neg (by omega)]; exact cmp_same l x y

def turnB (d : Bool) (x : UInt8) : UInt8 := if d then 255 - x else x
def turnL (d : Bool) (l : List UInt8) : List UInt8 := l.map (turnB d)
theorem sub255 (x : UInt8) : (255 - x).toNat = 255 - x.toNat := by
  rw [UInt8.toNat_sub_of_le _ _ (UInt8.le_iff_toNat_le.2 (by have := byte_lt x; simp; omega))]
  rfl
theorem turnB_turnB (d : Bool) (x : UInt8) : turnB d (turnB d x) = x := by
  cases d
  · rfl
  · apply byte_eq
    simp only [turnB, if_true, sub255]
    have := byte_lt x
    omega
theorem turnL_turnL (d : Bool) (l : List UInt8) : turnL d (turnL d l) = l := by
  unfold turnL
  rw [List.map_map]
  conv => rhs; rw [← List.map_id l]
  apply List.map_congr_left
  intro x _
  exact turnB_turnB d x
theorem turnL_length (d : Bool) (l : List UInt8) : (turnL d l).length = l.length := by simp [turnL]
theorem turnL_append (d : Bool) (l m : List UInt8) : turnL d (l ++ m) = turnL d l ++ turnL d m := by simp [turnL]
theorem turnL_take (d : Bool) (l : List UInt8) (k : Nat) : turnL d (l.take k) = (turnL d l).take k := by simp [turnL, List.map_take]
theorem turnL_drop (d : Bool) (l : List UInt8) (k : Nat) : turnL d (l.drop k) = (turnL d l).drop k := by simp [turnL, List.map_drop]
theorem turnL_false (l : List UInt8) : turnL false l = l := by
  unfold turnL
  conv => rhs; rw [← List.map_id l]
  rfl
theorem fd_turn : ∀ (l m : List UInt8), fd (turnL true l) (turnL true m) = - fd l m
  | [], _ => by simp [turnL, fd]
  | _ :: _, [] => by simp [turnL, fd]
  | a :: l, b :: m => by
    have := fd_turn l m
    show fd (turnB true a :: turnL true l) (turnB true b :: turnL true m) = _
    rw [fd_cons, fd_cons, this]
    simp only [turnB, if_true, sub255]
    have := byte_lt a
    have := byte_lt b
    by_cases h1 : a.toNat < b.toNat
    · rw [if_neg (by omega), if_pos (by omega), if_pos h1]; rfl
    · by_cases h2 : b.toNat < a.toNat
      · rw [if_pos (by omega), if_neg h1, if_pos h2]
      · rw [if_neg (by omega), if_neg (by omega), if_neg h1, if_neg h2]
theorem fd_be (m n : Int) : ∀ j, fd (be m j) (be n j) = sgn (m % 256 ^ j) (n % 256 ^ j)
  | 0 => by simp [be, fd, sgn, Int.emod_one]
  | j + 1 => by
    have ih := fd_be m n j
    have hp := pow_pos' j
    have hm := num_be m (j + 1) 0
    have hn := num_be n (j + 1) 0
    have e1 : num (be m (j + 1)) 0 = num (be m j) (0 * 256 + (lowB (m / 256 ^ j)).toNat) := rfl
    have e2 : num (be n (j + 1)) 0 = num (be n j) (0 * 256 + (lowB (n / 256 ^ j)).toNat) := rfl
    rw [e1, num_be, Int.zero_mul, Int.zero_add, Int.zero_mul, Int.zero_add] at hm
    rw [e2, num_be, Int.zero_mul, Int.zero_add, Int.zero_mul, Int.zero_add] at hn
    show fd (lowB (m / 256 ^ j) :: be m j) (lowB (n / 256 ^ j) :: be n j) = _
    rw [fd_cons, ih, ← hm, ← hn]
    generalize (lowB (m / 256 ^ j)).toNat = x
    generalize (lowB (n / 256 ^ j)).toNat = y
    have a0 := Int.emod_nonneg m (show (256 : Int) ^ j ≠ 0 by omega)
    have a1 := Int.emod_lt_of_pos m hp
    have b0 := Int.emod_nonneg n (show (256 : Int) ^ j ≠ 0 by omega)
    have b1 := Int.emod_lt_of_pos n hp
    generalize m % 256 ^ j = s at *
    generalize n % 256 ^ j = t at *
    generalize (256 : Int) ^ j = p at *
    unfold sgn
    by_cases h1 : x < y
    · have h3 : ((x : Int) + 1) * p ≤ y * p := Int.mul_le_mul_of_nonneg_right (by omega) (by omega)
      rw [Int.add_mul] at h3
      rw [if_pos h1, if_pos (by omega)]
    · by_cases h2 : y < x
      · have h3 : ((y : Int) + 1) * p ≤ x * p := Int.mul_le_mul_of_nonneg_right (by omega) (by omega)
        rw [Int.add_mul] at h3
        rw [if_neg h1, if_pos h2, if_neg (by omega), if_pos (by omega)]
      · have e : x = y := by omega
        subst e
        rw [if_neg h1, if_neg h2]
        by_cases h3 : s < t
        · rw [if_pos h3, if_pos (by omega)]
        · by_cases h4 : t < s
          · rw [if_neg h3, if_pos h4, if_neg (by omega), if_pos (by omega)]
          · rw [if_neg h3, if_neg h4, if_neg (by omega), if_neg (by omega)]
theorem fd_be8 (m n : Int) (m0 : 0 ≤ m) (m1 : m < two64) (n0 : 0 ≤ n) (n1 : n < two64) : fd (be m 8) (be n 8) = sgn m n := by
  rw [fd_be]
  have e : (256 : Int) ^ 8 = two64 := by decide
  rw [e, Int.emod_eq_of_lt m0 m1, Int.emod_eq_of_lt n0 n1]
theorem fd_esc : ∀ (s t : List UInt8), fd (esc s ++ [0, 1]) (esc t ++ [0, 1]) = Lib.compareBytes s t
  | [], [] => by decide
  | [], c :: t => by
    have e : Lib.compareBytes [] (c :: t) = -1 := rfl
    rw [e]
    by_cases hc : c = 0
    · subst hc
      simp [esc, fd]
    · have : 0 < c.toNat := by
        rcases Nat.eq_zero_or_pos c.toNat with h | h
        · exact absurd (UInt8.toNat_inj.1 (show c.toNat = (0 : UInt8).toNat from h)) hc
        · exact h
      simp only [esc, if_neg hc, List.nil_append, List.cons_append]
      rw [fd_cons, if_pos (by simpa using this)]
  | c :: s, [] => by
    have e : Lib.compareBytes (c :: s) [] = 1 := rfl
    rw [e]
    by_cases hc : c = 0
    · subst hc
      simp [esc, fd]
    · have : 0 < c.toNat := by
        rcases Nat.eq_zero_or_pos c.toNat with h | h
        · exact absurd (UInt8.toNat_inj.1 (show c.toNat = (0 : UInt8).toNat from h)) hc
        · exact h
      simp only [esc, if_neg hc, List.nil_append, List.cons_append]
      rw [fd_cons, if_neg (by simp), if_pos (by simpa using this)]
  | c :: s, d :: t => by
    have ih := fd_esc s t
    have pos : ∀ x : UInt8, ¬ x = 0 → 0 < x.toNat := fun x hx => by
      rcases Nat.eq_zero_or_pos x.toNat with h | h
      · exact absurd (UInt8.toNat_inj.1 (show x.toNat = (0 : UInt8).toNat from h)) hx
      · exact h
    have z : (0 : UInt8).toNat = 0 := rfl
    rw [cmpB_cons']
    by_cases hc : c = 0
    · by_cases hd : d = 0
      · subst hc; subst hd
        simp only [esc, if_pos, List.cons_append]
        rw [fd_cons, if_neg (by omega), if_neg (by omega), fd_cons, if_neg (by omega), if_neg (by omega), ih, if_neg (by omega), if_neg (by omega)]
      · subst hc
        have := pos d hd
        simp only [esc, if_pos, if_neg hd, List.cons_append]
        rw [fd_cons, if_pos (by omega), if_pos (by omega)]
    · by_cases hd : d = 0
      · subst hd
        have := pos c hc
        simp only [esc, if_pos, if_neg hc, List.cons_append]
        rw [fd_cons, if_neg (by omega), if_pos (by omega), if_neg (by omega), if_pos (by omega)]
      · simp only [esc, if_neg hc, if_neg hd, List.cons_append]
        rw [fd_cons, ih]

/-- How two values stand, given how their reals rise. -/
def ordR (v u : Val) : Int :=
  if v.k ≠ u.k then sgn v.k u.k else if v.k = 3 then sgn (up64 v.b) (up64 u.b) else if v.k = 4 then Lib.compareBytes v.s u.s else if v.k = 1 ∨ v.k = 2 then sgn v.i u.i else 0

theorem fd_enc (v u : Val) (hv : Facts v) (hu : Facts u) : fd (enc v) (enc u) = ordR v u := by
  unfold ordR
  by_cases he : v.k = u.k
  · rw [if_neg (by omega)]
    rcases kinds v hv with hk | hk | hk | hk | hk
    · rw [if_neg (by omega), if_neg (by omega), if_neg (by omega), enc0 v hk, enc0 u (by omega)]
      exact fd_same _
    · have := hv.bool hk
      have := hu.bool (by omega)
      rw [if_neg (by omega), if_neg (by omega), if_pos (by omega), enc1 v hk, enc1 u (by omega)]
      rw [fd_cons, if_neg (by omega), if_neg (by omega), fd_cons]
      have e1 := lowB_toNat v.i
      have e2 := lowB_toNat u.i
      unfold sgn fd
      by_cases h1 : v.i < u.i
      · rw [if_pos (by omega), if_pos h1]
      · by_cases h2 : u.i < v.i
        · rw [if_neg (by omega), if_pos (by omega), if_neg h1, if_pos h2]
        · rw [if_neg (by omega), if_neg (by omega), if_neg h1, if_neg h2]
    · have := hv.i0
      have := hv.i1
      have := hu.i0
      have := hu.i1
      rw [if_neg (by omega), if_neg (by omega), if_pos (by omega), enc2 v hk, enc2 u (by omega)]
      rw [fd_cons, if_neg (by omega), if_neg (by omega), fd_be8 _ _ (by unfold two63; omega) (by unfold two63 two64; omega) (by unfold two63; omega) (by unfold two63 two64; omega)]
      unfold sgn
      by_cases h1 : v.i < u.i
      · rw [if_pos (by omega), if_pos h1]
      · by_cases h2 : u.i < v.i
        · rw [if_neg (by omega), if_pos (by omega), if_neg h1, if_pos h2]
        · rw [if_neg (by omega), if_neg (by omega), if_neg h1, if_neg h2]
    · have h1 := up64_range v.b hv.b0 hv.b1
      have h2 := up64_range u.b hu.b0 hu.b1
      rw [if_pos hk, enc3 v hk, enc3 u (by omega)]
      rw [fd_cons, if_neg (by omega), if_neg (by omega), fd_be8 _ _ h1.1 h1.2 h2.1 h2.2]
    · rw [if_neg (by omega), if_pos hk, enc4 v hk, enc4 u (by omega)]
      rw [fd_cons, if_neg (by omega), if_neg (by omega), fd_esc]
  · rw [if_pos he]
    have head : ∀ w : Val, Facts w → ∃ r, enc w = lowB (w.k + 1) :: r := by
      intro w hw
      rcases kinds w hw with hk | hk | hk | hk | hk
      · exact ⟨[], by rw [enc0 w hk, hk]; rfl⟩
      · exact ⟨_, by rw [enc1 w hk, hk]; rfl⟩
      · exact ⟨_, by rw [enc2 w hk, hk]; rfl⟩
      · exact ⟨_, by rw [enc3 w hk, hk]; rfl⟩
      · exact ⟨_, by rw [enc4 w hk, hk]; rfl⟩
    obtain ⟨r1, e1⟩ := head v hv
    obtain ⟨r2, e2⟩ := head u hu
    rw [e1, e2, fd_cons]
    have b1 := lowB_toNat (v.k + 1)
    have b2 := lowB_toNat (u.k + 1)
    have := hv.k0
    have := hv.k4
    have := hu.k0
    have := hu.k4
    unfold sgn
    by_cases h1 : v.k < u.k
    · rw [if_pos (by omega), if_pos h1]
    · rw [if_neg (by omega), if_pos (by omega), if_neg h1, if_pos (by omega)]

/-! ### rows -/
def encRow (dn : Nat → Bool) : Nat → List Val → List UInt8
  | _, [] => []
  | i, v :: l => turnL (dn i) (enc v) ++ encRow dn (i + 1) l
inductive RRes where
  | err (e : Int)
  | ok (l : List Val)
def decRow (ok : Val → Bool) (dn : Nat → Bool) : Nat → Nat → List UInt8 → RRes
  | 0, _, l => if l = [] then .ok [] else .err 3
  | n + 1, i, l => match dec1 ok (turnL (dn i) l) with
    | .err e => .err e
    | .ok v k => match decRow ok dn n (i + 1) (l.drop k) with
      | .err e => .err e
      | .ok vs => .ok (v :: vs)

theorem decRow_enc (ok : Val → Bool) (dn : Nat → Bool) : ∀ (l : List Val) (i : Nat) (r : List UInt8), (∀ v ∈ l, Facts v ∧ ok v = true) → decRow ok dn l.length i (encRow dn i l ++ r) = if r = [] then .ok l else .err 3
  | [], i, r, h => by simp [encRow, decRow]
  | v :: l, i, r, h => by
    have hv := h v (by simp)
    have ih := decRow_enc ok dn l (i + 1) r (fun u hu => h u (by simp [hu]))
    have hl : (turnL (dn i) (enc v)).length = (enc v).length := turnL_length _ _
    simp only [List.length_cons, decRow, encRow]
    rw [List.append_assoc, turnL_append, turnL_turnL, dec1_enc ok v hv.1 hv.2]
    simp only
    rw [List.drop_left' hl, ih]
    by_cases hr : r = []
    · rw [if_pos hr, if_pos hr]
    · rw [if_neg hr, if_neg hr]
theorem decRow_cut (ok : Val → Bool) (dn : Nat → Bool) : ∀ (l : List Val) (i j : Nat), (∀ v ∈ l, Facts v ∧ ok v = true) → j < (encRow dn i l).length → decRow ok dn l.length i ((encRow dn i l).take j) = .err 4
  | [], i, j, h, hj => by simp [encRow] at hj
  | v :: l, i, j, h, hj => by
    have hv := h v (by simp)
    have hl : (turnL (dn i) (enc v)).length = (enc v).length := turnL_length _ _
    simp only [encRow, List.length_append, hl] at hj
    simp only [List.length_cons, decRow, encRow]
    by_cases hc : j < (enc v).length
    · rw [List.take_append_of_le_length (by omega), turnL_take, turnL_turnL, dec1_cut ok v hv.1 j hc]
    · have ih := decRow_cut ok dn l (i + 1) (j - (enc v).length) (fun u hu => h u (by simp [hu])) (by omega)
      rw [List.take_append, hl, List.take_of_length_le (by omega), turnL_append, turnL_turnL, dec1_enc ok v hv.1 hv.2]
      simp only
      rw [List.drop_left' hl, ih]
theorem encRow_dec (ok : Val → Bool) (dn : Nat → Bool) : ∀ (n i : Nat) (l : List UInt8) (vs : List Val), decRow ok dn n i l = .ok vs → vs.length = n ∧ (∀ v ∈ vs, ok v = true) ∧ encRow dn i vs = l
  | 0, i, l, vs, h => by
    simp only [decRow] at h
    split at h
    · simp only [RRes.ok.injEq] at h
      subst h
      rename_i hl
      exact ⟨rfl, by simp, by simp [encRow, hl]⟩
    · cases h
  | n + 1, i, l, vs, h => by
    simp only [decRow] at h
    split at h
    · cases h
    · rename_i v k hd
      split at h
      · cases h
      · rename_i us hr
        simp only [RRes.ok.injEq] at h
        subst h
        obtain ⟨h1, h2, h3⟩ := encRow_dec ok dn n (i + 1) (l.drop k) us hr
        obtain ⟨g1, g2, g3, _⟩ := enc_dec1 ok _ v k hd
        refine ⟨by simp [h1], fun u hu => ?_, ?_⟩
        · rcases List.mem_cons.1 hu with rfl | hu
          · exact g1
          · exact h2 u hu
        · simp only [encRow]
          rw [h3, ← g3, turnL_take, turnL_turnL, List.take_append_drop]
theorem encRow_append (dn : Nat → Bool) : ∀ (l m : List Val) (i : Nat), encRow dn i (l ++ m) = encRow dn i l ++ encRow dn (i + l.length) m
  | [], m, i => by simp [encRow]
  | v :: l, m, i => by
    have := encRow_append dn l m (i + 1)
    simp only [List.cons_append, encRow, this, List.length_cons, List.append_assoc]
    rw [show i + 1 + l.length = i + (l.length + 1) by omega]
theorem encRow_false : ∀ (l : List Val) (i j : Nat), encRow (fun _ => false) i l = encRow (fun _ => false) j l
  | [], i, j => rfl
  | v :: l, i, j => by simp only [encRow]; rw [encRow_false l (i + 1) (j + 1)]
theorem enc_length (v : Val) (h : Facts v) : (enc v).length ≤ 83 := by
  have esc_len : ∀ l : List UInt8, (esc l).length ≤ 2 * l.length := by
    intro l
    induction l with
    | nil => simp [esc]
    | cons c l ih => by_cases hc : c = 0 <;> simp [esc, hc] <;> omega
  rcases kinds v h with hk | hk | hk | hk | hk
  · rw [enc0 v hk]; simp
  · rw [enc1 v hk]; simp
  · rw [enc2 v hk]; simp [be_length]
  · rw [enc3 v hk]; simp [be_length]
  · rw [enc4 v hk]
    have := esc_len v.s
    have := h.s40
    simp; omega
theorem encRow_length (dn : Nat → Bool) : ∀ (l : List Val) (i : Nat), (∀ v ∈ l, Facts v) → (encRow dn i l).length ≤ 83 * l.length
  | [], i, h => by simp [encRow]
  | v :: l, i, h => by
    have h1 := enc_length v (h v (by simp))
    have h2 := encRow_length dn l (i + 1) (fun u hu => h u (by simp [hu]))
    simp only [encRow, List.length_append, turnL_length, List.length_cons]
    omega
end Go.Proofs.Ytopgakdgifmecaa.CodeMath
