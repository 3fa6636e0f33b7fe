/-
  ROLLS, plain: the root of a list, and peaks.
  CONDITIONS: each theorem's own hypotheses.
-/
import Derived.Test.YtcplnfaopigoiaaDoorGLev
namespace Go.Proofs.YtcplnfaopigoiaaDoor
open Go.RowKit CodeMath Go.Proofs.YtcplnfaopigoiaaDoor.FrameMath
set_option linter.unusedVariables false
set_option maxRecDepth 100000

/-- How many the first part has. -/
def hf (n : Nat) : Nat := 2 ^ Nat.log2 (n - 1)
theorem hf_spec {n a : Nat} (h1 : 2 ^ a < n) (h2 : n ≤ 2 ^ (a + 1)) : hf n = 2 ^ a := by
  unfold hf
  have h0 : 0 < 2 ^ a := Nat.pow_pos (by decide)
  have e : Nat.log2 (n - 1) = a := (Nat.log2_eq_iff (by omega)).2 ⟨by omega, by omega⟩
  rw [e]
theorem hf_of {n : Nat} (h : 2 ≤ n) : ∃ a, hf n = 2 ^ a ∧ 2 ^ a < n ∧ n ≤ 2 ^ (a + 1) := by
  have h1 := (Nat.log2_eq_iff (n := n - 1) (k := Nat.log2 (n - 1)) (by omega)).1 rfl
  exact ⟨Nat.log2 (n - 1), rfl, by omega, by omega⟩
theorem hf_lt {n : Nat} (h : 2 ≤ n) : 0 < hf n ∧ hf n < n ∧ n ≤ 2 * hf n := by
  obtain ⟨a, h1, h2, h3⟩ := hf_of h
  have h0 : 0 < 2 ^ a := Nat.pow_pos (by decide)
  rw [Nat.pow_succ] at h3
  omega
def pairR (m : Int) (X Y : DR) : DR := match X with
  | .err c => .err c
  | .ok x => match Y with
    | .err c => .err c
    | .ok y => digR m 6 [x, y]
def rollR (m : Int) (l : List (List UInt8)) : DR :=
  if h0 : l.length = 0 then digR m 4 [] else if h1 : l.length = 1 then digR m 5 [l.headD []] else
  have := hf_lt (n := l.length) (by omega)
  pairR m (rollR m (l.take (hf l.length))) (rollR m (l.drop (hf l.length)))
termination_by l.length
decreasing_by
  · rw [List.length_take]; omega
  · rw [List.length_drop]; omega
theorem rollR_nil (m : Int) : rollR m [] = digR m 4 [] := by rw [rollR]; rfl
theorem rollR_one (m : Int) (x : List UInt8) : rollR m [x] = digR m 5 [x] := by rw [rollR]; rfl
theorem rollR_two (m : Int) (l : List (List UInt8)) (h : 2 ≤ l.length) : rollR m l = pairR m (rollR m (l.take (hf l.length))) (rollR m (l.drop (hf l.length))) := by
  rw [rollR, dif_neg (by omega), dif_neg (by omega)]
theorem digR_err1 {m t : Int} {ps : List (List UInt8)} {c : Int} (hm : isMode m = true) (ht : 1 ≤ t ∧ t ≤ 9) (h : digR m t ps = .err c) : c = 1 := by
  unfold digR at h
  rw [if_neg (by rw [hm]; decide), if_neg (by simpa using ht)] at h
  split at h
  · cases h; rfl
  · cases h
theorem pairR_err1 {m : Int} {X Y : DR} {c : Int} (hm : isMode m = true) (hx : ∀ c, X = .err c → c = 1) (hy : ∀ c, Y = .err c → c = 1) (h : pairR m X Y = .err c) : c = 1 := by
  cases X with
  | err a => cases h; exact hx _ rfl
  | ok x =>
    cases Y with
    | err b => cases h; exact hy _ rfl
    | ok y => exact digR_err1 hm ⟨by decide, by decide⟩ h
theorem rollR_err1 (m : Int) (hm : isMode m = true) : ∀ (n : Nat) (l : List (List UInt8)) (c : Int), l.length ≤ n → rollR m l = .err c → c = 1
  | 0, l, c, hn, h => by
    obtain rfl := List.eq_nil_of_length_eq_zero (Nat.le_zero.1 hn)
    rw [rollR_nil] at h
    exact digR_err1 hm ⟨by decide, by decide⟩ h
  | n + 1, l, c, hn, h => by
    match l with
    | [] => rw [rollR_nil] at h; exact digR_err1 hm ⟨by decide, by decide⟩ h
    | [x] => rw [rollR_one] at h; exact digR_err1 hm ⟨by decide, by decide⟩ h
    | x :: y :: r =>
      have h2 := hf_lt (n := (x :: y :: r).length) (by simp)
      rw [rollR_two m _ (by simp)] at h
      exact pairR_err1 hm (fun c hc => rollR_err1 m hm n _ c (by rw [List.length_take]; omega) hc) (fun c hc => rollR_err1 m hm n _ c (by rw [List.length_drop]; omega) hc) h
theorem pairR_ok {m : Int} {X Y : DR} {z : List UInt8} (h : pairR m X Y = .ok z) : ∃ x y, X = .ok x ∧ Y = .ok y ∧ digR m 6 [x, y] = .ok z := by
  cases X with
  | err a => cases h
  | ok x =>
    cases Y with
    | err b => cases h
    | ok y => exact ⟨x, y, rfl, rfl, h⟩
/-- What a list of blocks is made of. -/
theorem rollR_block (m : Int) : ∀ (n : Nat) (l : List (List UInt8)) (z : List UInt8) (a j : Nat), l.length ≤ n → rollR m l = .ok z → (j + 1) * 2 ^ a ≤ l.length → ∃ y, rollR m ((l.drop (j * 2 ^ a)).take (2 ^ a)) = .ok y
  | n, l, z, a, j, hn, hz, hj => by
    have ha : 0 < 2 ^ a := Nat.pow_pos (by decide)
    have e3 : (j + 1) * 2 ^ a = j * 2 ^ a + 2 ^ a := by rw [Nat.add_mul, Nat.one_mul]
    by_cases hl : l.length = 2 ^ a
    · have h0 : j * 2 ^ a = 0 := by omega
      rw [h0, List.drop_zero, List.take_of_length_le (by omega)]
      exact ⟨z, hz⟩
    · have h2 : 2 ≤ l.length := by omega
      obtain ⟨b, hb, h3, h4⟩ := hf_of h2
      rw [rollR_two m l h2] at hz
      obtain ⟨x, y, hx, hy, _⟩ := pairR_ok hz
      rw [hb] at hx hy
      have hab : a ≤ b := by
        rcases Nat.lt_or_ge b a with h | h
        · exfalso
          have : 2 ^ (b + 1) ≤ 2 ^ a := Nat.pow_le_pow_right (by decide) h
          omega
        · exact h
      have eb : 2 ^ b = 2 ^ (b - a) * 2 ^ a := by rw [← Nat.pow_add]; congr 1; omega
      match n, hn with
      | 0, hn => omega
      | n + 1, hn =>
        by_cases hjb : j + 1 ≤ 2 ^ (b - a)
        · have hle : (j + 1) * 2 ^ a ≤ 2 ^ b := by rw [eb]; exact Nat.mul_le_mul_right _ hjb
          obtain ⟨y', hy'⟩ := rollR_block m n (l.take (2 ^ b)) x a j (by rw [List.length_take]; omega) hx (by rw [List.length_take]; omega)
          refine ⟨y', ?_⟩
          rw [List.drop_take, List.take_take, Nat.min_eq_left (by omega)] at hy'
          exact hy'
        · have hge : 2 ^ b ≤ j * 2 ^ a := by rw [eb]; exact Nat.mul_le_mul_right _ (by omega)
          have e4 : (j - 2 ^ (b - a)) * 2 ^ a = j * 2 ^ a - 2 ^ b := by rw [Nat.sub_mul, ← eb]
          have e5 : (j - 2 ^ (b - a) + 1) * 2 ^ a = j * 2 ^ a - 2 ^ b + 2 ^ a := by rw [Nat.add_mul, Nat.one_mul, e4]
          obtain ⟨y', hy'⟩ := rollR_block m n (l.drop (2 ^ b)) y a (j - 2 ^ (b - a)) (by rw [List.length_drop]; omega) hy (by rw [List.length_drop]; omega)
          refine ⟨y', ?_⟩
          rw [List.drop_drop, e4, show 2 ^ b + (j * 2 ^ a - 2 ^ b) = j * 2 ^ a by omega] at hy'
          exact hy'
/-! ### peaks -/
structure Pk where
  a : Nat
  seg : List (List UInt8)
  r : List UInt8
def Pk.Ok (m : Int) (p : Pk) : Prop := p.seg.length = 2 ^ p.a ∧ rollR m p.seg = .ok p.r
def flatP (ps : List Pk) : List (List UInt8) := (ps.map Pk.seg).flatten
def Peaks (m : Int) (ps : List Pk) : Prop := (∀ p ∈ ps, p.Ok m) ∧ ps.Pairwise (fun p q => q.a < p.a)
theorem flatP_snoc (ps : List Pk) (p : Pk) : flatP (ps ++ [p]) = flatP ps ++ p.seg := by simp [flatP]
theorem flatP_cons (ps : List Pk) (p : Pk) : flatP (p :: ps) = p.seg ++ flatP ps := by simp [flatP]
/-- How long they are together. -/
theorem peaks_short (m : Int) : ∀ (ps : List Pk) (b : Nat), Peaks m ps → (∀ p ∈ ps, p.a < b) → (flatP ps).length < 2 ^ b
  | [], b, h, hb => by simp [flatP]; exact Nat.pow_pos (by decide)
  | p :: ps, b, h, hb => by
    have hp := h.1 p (by simp)
    have hw := List.pairwise_cons.1 h.2
    have ih := peaks_short m ps p.a ⟨fun q hq => h.1 q (List.mem_cons_of_mem _ hq), hw.2⟩ (fun q hq => hw.1 q hq)
    have h1 : 2 ^ (p.a + 1) ≤ 2 ^ b := Nat.pow_le_pow_right (by decide) (hb p (by simp))
    rw [Nat.pow_succ] at h1
    rw [flatP_cons, List.length_append, hp.1]
    omega
/-- Two of a size are one. -/
theorem merge_ok (m : Int) (q p : Pk) (hq : q.Ok m) (hp : p.Ok m) (ha : q.a = p.a) : rollR m (q.seg ++ p.seg) = digR m 6 [q.r, p.r] ∧ (q.seg ++ p.seg).length = 2 ^ (p.a + 1) := by
  obtain ⟨h1, h2⟩ := hq
  obtain ⟨h3, h4⟩ := hp
  have h0 : 0 < 2 ^ p.a := Nat.pow_pos (by decide)
  rw [ha] at h1
  have hl : (q.seg ++ p.seg).length = 2 ^ (p.a + 1) := by rw [List.length_append, Nat.pow_succ]; omega
  refine ⟨?_, hl⟩
  have h5 : hf (q.seg ++ p.seg).length = 2 ^ p.a := hf_spec (by rw [hl, Nat.pow_succ]; omega) (by rw [hl]; exact Nat.le_refl _)
  rw [rollR_two m _ (by rw [hl, Nat.pow_succ]; omega), h5, ← h1, List.take_left, List.drop_left, h2, h4]
  rfl
/-- The peaks from the last one on. -/
theorem fold_ok (m : Int) (p : Pk) (ps : List Pk) (h : Peaks m (p :: ps)) (hne : ps ≠ []) : rollR m (flatP (p :: ps)) = pairR m (.ok p.r) (rollR m (flatP ps)) := by
  have hp := h.1 p (by simp)
  have hw := List.pairwise_cons.1 h.2
  have hs := peaks_short m ps p.a ⟨fun q hq => h.1 q (List.mem_cons_of_mem _ hq), hw.2⟩ (fun q hq => hw.1 q hq)
  have h0 : 0 < 2 ^ p.a := Nat.pow_pos (by decide)
  have h1 : 0 < (flatP ps).length := by
    match ps, hne with
    | q :: qs, _ =>
      have := (h.1 q (by simp)).1
      have h9 : 0 < 2 ^ q.a := Nat.pow_pos (by decide)
      rw [flatP_cons, List.length_append]; omega
  have hl : (flatP (p :: ps)).length = 2 ^ p.a + (flatP ps).length := by rw [flatP_cons, List.length_append, hp.1]
  have h5 : hf (flatP (p :: ps)).length = 2 ^ p.a := hf_spec (by omega) (by rw [Nat.pow_succ]; omega)
  rw [rollR_two m _ (by omega), h5, flatP_cons, ← hp.1, List.take_left, List.drop_left, hp.2]
end Go.Proofs.YtcplnfaopigoiaaDoor
