/-
  PATHS are right, and sound where digests are open; plain.
  CONDITIONS: each theorem's own hypotheses.
-/
import Derived.Test.YtcnemacakjemjaaDoorGPath
import Derived.Test.YtcnemacakjemjaaDoorCheckA
import Derived.Test.YtcnemacakjemjaaDoorGDig
namespace Go.Proofs.YtcnemacakjemjaaDoor
open Go.RowKit CodeMath Go.Proofs.YtcnemacakjemjaaDoor.FrameMath
set_option linter.unusedVariables false
set_option maxRecDepth 100000

theorem blockB_node (m : Int) (rows : List (List UInt8)) (t j : Nat) : blockB m rows (t + 1) j = nodeB m (blockB m rows t (2 * j)) (blockB m rows t (2 * j + 1)) := by
  have e1 : 2 ^ (t + 1) = 2 * 2 ^ t := by rw [Nat.pow_succ, Nat.mul_comm]
  have hr : ∀ X, rootB m (t + 1) X = nodeB m (rootB m t (X.take (2 ^ t))) (rootB m t (X.drop (2 ^ t))) := fun X => rfl
  unfold blockB
  rw [hr, e1]
  generalize 2 ^ t = k
  have e2 : j * (2 * k) = 2 * j * k := by rw [← Nat.mul_assoc, Nat.mul_comm j 2]
  have e3 : (2 * j + 1) * k = 2 * j * k + k := by rw [Nat.add_mul, Nat.one_mul]
  rw [e2, e3]
  generalize 2 * j * k = a
  rw [List.take_take, List.drop_take, List.drop_drop, Nat.min_eq_left (by omega), show 2 * k - k = k by omega]
theorem blockB_length (m : Int) (rows : List (List UInt8)) (t j h : Nat) (h6 : h ≤ 6) (hl : rows.length = 2 ^ h) (hb : ∀ b ∈ rows, b.length ≤ 600) (ht : (j + 1) * 2 ^ t ≤ 2 ^ h) : (blockB m rows t j).length ≤ 100000 := by
  have h64 : 2 ^ h ≤ 2 ^ 6 := Nat.pow_le_pow_right (by decide) h6
  have e6 : 2 ^ 6 = 64 := by decide
  have e3 : (j + 1) * 2 ^ t = j * 2 ^ t + 2 ^ t := by rw [Nat.add_mul, Nat.one_mul]
  have h1 := rootB_length m t ((rows.drop (j * 2 ^ t)).take (2 ^ t)) (by rw [List.length_take, List.length_drop]; omega) (fun b hx => hb b (List.mem_of_mem_drop (List.mem_of_mem_take hx)))
  unfold blockB
  have h2 : 2 ^ t * 642 ≤ 64 * 642 := Nat.mul_le_mul_right _ (by omega)
  omega
theorem sib_odd (q j : Nat) (h : q = 2 * j + 1) (hq : q < 65) : q ^^^ 1 = 2 * j := by
  have key : ∀ n : Fin 65, n.1 % 2 = 1 → n.1 ^^^ 1 = n.1 - 1 := by decide +kernel
  have := key ⟨q, hq⟩ (by show q % 2 = 1; omega)
  show q ^^^ 1 = _
  rw [show q ^^^ 1 = q - 1 from this]; omega
theorem sib_even (q j : Nat) (h : q = 2 * j) (hq : q < 65) : q ^^^ 1 = 2 * j + 1 := by
  have key : ∀ n : Fin 65, n.1 % 2 = 0 → n.1 ^^^ 1 = n.1 + 1 := by decide +kernel
  have := key ⟨q, hq⟩ (by show q % 2 = 0; omega)
  rw [show q ^^^ 1 = q + 1 from this]; omega
theorem place_up (p h t : Nat) (h6 : h ≤ 6) (ht : t < h) (hp : p < 2 ^ h) : p / 2 ^ t < 65 ∧ p / 2 ^ (t + 1) = p / 2 ^ t / 2 ∧ (p / 2 ^ t / 2 * 2 + 2) * 2 ^ t ≤ 2 ^ h := by
  have h1 := (sib_small h t p h6 hp).2
  have e1 : 2 ^ (t + 1) = 2 ^ t * 2 := Nat.pow_succ ..
  refine ⟨h1, by rw [e1, Nat.div_div_eq_div_mul], ?_⟩
  have e : 2 ^ h = 2 ^ (h - t - 1) * 2 * 2 ^ t := by
    rw [← Nat.pow_succ, ← Nat.pow_add]; congr 1; omega
  have h2 : p / 2 ^ t < 2 ^ (h - t - 1) * 2 := by
    rw [Nat.div_lt_iff_lt_mul (Nat.pow_pos (by decide)), ← e]; exact hp
  rw [e]
  exact Nat.mul_le_mul_right _ (by omega)
theorem climb_right (m : Int) (hm : isMode m = true) (rows : List (List UInt8)) (p h : Nat) (h6 : h ≤ 6) (hl : rows.length = 2 ^ h) (hb : ∀ b ∈ rows, b.length ≤ 600) (hp : p < 2 ^ h) :
    ∀ k t, t + k = h → climbR m p t (blockB m rows t (p / 2 ^ t)) ((wayB m rows p h).drop t) = .ok (blockB m rows h 0)
  | 0, t, ht => by
    obtain rfl : t = h := by omega
    rw [List.drop_of_length_le (by rw [wayB_length]; exact Nat.le_refl _), Nat.div_eq_of_lt hp]
    rfl
  | k + 1, t, ht => by
    have hth : t < h := by omega
    obtain ⟨q65, hq1, hq2⟩ := place_up p h t h6 hth hp
    have hw := wayB_at m rows p h t hth
    obtain ⟨hlt, hw2⟩ := List.getElem?_eq_some_iff.1 hw
    rw [List.drop_eq_getElem_cons hlt, hw2]
    have hn := blockB_node m rows t (p / 2 ^ t / 2)
    rw [← hq1] at hn
    have ih := climb_right m hm rows p h h6 hl hb hp k (t + 1) (by omega)
    rw [hn, hq1] at ih
    have hx : sib p t = (p / 2 ^ t) ^^^ 1 := rfl
    rw [hx]
    have b1 := blockB_length m rows t (2 * (p / 2 ^ t / 2)) h h6 hl hb (by refine Nat.le_trans (Nat.mul_le_mul_right _ ?_) hq2; omega)
    have b2 := blockB_length m rows t (2 * (p / 2 ^ t / 2) + 1) h h6 hl hb (by refine Nat.le_trans (Nat.mul_le_mul_right _ ?_) hq2; omega)
    by_cases hodd : (p / 2 ^ t) % 2 = 1
    · refine (climbR_ok ?_).trans ih
      rw [if_pos hodd, sib_odd (p / 2 ^ t) (p / 2 ^ t / 2) (by omega) q65]
      have e : p / 2 ^ t = 2 * (p / 2 ^ t / 2) + 1 := by omega
      rw [show blockB m rows t (p / 2 ^ t) = blockB m rows t (2 * (p / 2 ^ t / 2) + 1) by rw [← e]]
      exact digR_node m hm _ _ (by omega) (by omega)
    · refine (climbR_ok ?_).trans ih
      rw [if_neg hodd, sib_even (p / 2 ^ t) (p / 2 ^ t / 2) (by omega) q65]
      have e : p / 2 ^ t = 2 * (p / 2 ^ t / 2) := by omega
      rw [show blockB m rows t (p / 2 ^ t) = blockB m rows t (2 * (p / 2 ^ t / 2)) by rw [← e]]
      exact digR_node m hm _ _ (by omega) (by omega)
/-! ### open digests -/
theorem climb_sound (rows : List (List UInt8)) (p h : Nat) (h6 : h ≤ 6) (hl : rows.length = 2 ^ h) (hb : ∀ b ∈ rows, b.length ≤ 600) (hp : p < 2 ^ h) :
    ∀ (r : List (List UInt8)) (t : Nat) (x : List UInt8), t + r.length = h → climbR 2 p t x r = .ok (blockB 2 rows h 0) → x = blockB 2 rows t (p / 2 ^ t)
  | [], t, x, ht, hc => by
    obtain rfl : t = h := by simpa using ht
    rw [Nat.div_eq_of_lt hp]
    cases hc
    rfl
  | b :: r, t, x, ht, hc => by
    rw [List.length_cons] at ht
    have hth : t < h := by omega
    obtain ⟨q65, hq1, hq2⟩ := place_up p h t h6 hth hp
    have hn := blockB_node 2 rows t (p / 2 ^ t / 2)
    rw [← hq1] at hn
    have b1 := blockB_length 2 rows t (2 * (p / 2 ^ t / 2)) h h6 hl hb (by refine Nat.le_trans (Nat.mul_le_mul_right _ ?_) hq2; omega)
    have b2 := blockB_length 2 rows t (2 * (p / 2 ^ t / 2) + 1) h h6 hl hb (by refine Nat.le_trans (Nat.mul_le_mul_right _ ?_) hq2; omega)
    have hd := digR_node 2 rfl _ _ (Nat.le_trans b1 (by decide)) (Nat.le_trans b2 (by decide))
    simp only [climbR] at hc
    by_cases hodd : (p / 2 ^ t) % 2 = 1
    · have e : p / 2 ^ t = 2 * (p / 2 ^ t / 2) + 1 := by omega
      rw [if_pos hodd] at hc
      cases hy : digR 2 2 [b, x] with
      | err c => rw [hy] at hc; cases hc
      | ok y =>
        rw [hy] at hc
        have ih := climb_sound rows p h h6 hl hb hp r (t + 1) y (by omega) hc
        rw [hn, hq1] at ih
        rw [ih] at hy
        have := digR_inj hy hd
        simp only [List.cons.injEq] at this
        rw [this.2.1, ← e]
    · have e : p / 2 ^ t = 2 * (p / 2 ^ t / 2) := by omega
      rw [if_neg hodd] at hc
      cases hy : digR 2 2 [x, b] with
      | err c => rw [hy] at hc; cases hc
      | ok y =>
        rw [hy] at hc
        have ih := climb_sound rows p h h6 hl hb hp r (t + 1) y (by omega) hc
        rw [hn, hq1] at ih
        rw [ih] at hy
        have := digR_inj hy hd
        simp only [List.cons.injEq] at this
        rw [this.1, ← e]
theorem leafR_inj {f f' : Bool} {s d s' d' x : List UInt8} (h : leafR 2 f s d = .ok x) (h' : leafR 2 f' s' d' = .ok x) : f = f' ∧ s = s' ∧ d = d' := by
  have key : ∀ {f : Bool} {s d : List UInt8}, leafR 2 f s d = .ok x → digR 2 1 [s, contB f d] = .ok x ∧ (f = false → d = []) := fun {f s d} h => by
    unfold leafR at h
    split at h
    · cases h
    · split at h
      · cases h
      · rename_i h2
        split at h
        · cases h
        · rename_i h3
          cases h
          refine ⟨digR_leaf 2 rfl f s d (by omega) (by omega), fun hf => ?_⟩
          exact List.eq_nil_of_length_eq_zero (Nat.eq_zero_of_not_pos fun h => h2 ⟨hf, h⟩)
  obtain ⟨h1, h2⟩ := key h
  obtain ⟨h3, h4⟩ := key h'
  have := digR_inj h1 h3
  simp only [List.cons.injEq, and_true] at this
  obtain ⟨e1, e2⟩ := this
  cases f <;> cases f' <;> simp [contB] at e2
  · exact ⟨rfl, e1, by rw [h2 rfl, h4 rfl]⟩
  · exact ⟨rfl, e1, e2⟩
theorem leavesR_at (m : Int) : ∀ (l : List Sl) (rows : List (List UInt8)) (i : Nat) (x : Sl), leavesR m l = .ok rows → l[i]? = some x → ∃ b, rows[i]? = some b ∧ leafR m x.f x.s x.d = .ok b
  | [], rows, i, x, h, hi => by simp at hi
  | y :: l, rows, i, x, h, hi => by
    cases hy : leafR m y.f y.s y.d with
    | err e => simp [leavesR, hy] at h
    | ok b0 =>
      simp only [leavesR, hy] at h
      cases hr : leavesR m l with
      | err e => rw [hr] at h; cases h
      | ok r0 =>
        rw [hr] at h
        cases h
        match i, hi with
        | 0, hi => simp at hi; subst hi; exact ⟨b0, rfl, hy⟩
        | i + 1, hi => exact leavesR_at m l r0 i x hr (by simpa using hi)
theorem blockB_zero (m : Int) (rows : List (List UInt8)) (p : Nat) (b : List UInt8) (h : rows[p]? = some b) : blockB m rows 0 p = b := by
  have h2 := topL_at m 0 p rows (by have := (List.getElem?_eq_some_iff.1 h).1; simp; omega)
  have h3 : rows[p]? = some (blockB m rows 0 p) := h2
  rw [h] at h3
  exact (Option.some.inj h3).symm
theorem blockB_all (m : Int) (rows : List (List UInt8)) (h : Nat) (hl : rows.length = 2 ^ h) : blockB m rows h 0 = rootB m h rows := by
  unfold blockB
  rw [Nat.zero_mul, List.drop_zero, List.take_of_length_le (by omega)]
/-- For each slot its path is right. -/
theorem check_right (m : Int) (hm : isMode m = true) (l : List Sl) (rows : List (List UInt8)) (p h : Nat) (h6 : h ≤ 6) (hl : l.length = 2 ^ h) (hr : leavesR m l = .ok rows) (x : Sl) (hx : l[p]? = some x) (hpw : isPow l.length = true) :
    checkR m (rootB m h rows) l.length p x.f x.s x.d (wayB m rows p h) h = 0 := by
  have hp : p < l.length := (List.getElem?_eq_some_iff.1 hx).1
  obtain ⟨b, h1, h2⟩ := leavesR_at m l rows p x hr hx
  have hrl := leavesR_length m l rows hr
  have hc := climb_right m hm rows p h h6 (by rw [hrl, hl]) (leavesR_each m l rows hr) (by omega) h 0 (by omega)
  rw [List.drop_zero, Nat.pow_zero, Nat.div_one, blockB_zero m rows p b h1, blockB_all m rows h (by rw [hrl, hl])] at hc
  unfold checkR
  rw [if_neg (by rw [hm]; decide), if_neg (by rw [hpw]; decide), if_neg (by omega)]
  simp only [h2, wayB_length, Int.toNat_natCast, hc]
  simp
/-- Nothing else is proved of a slot. -/
theorem check_sound (l : List Sl) (rows : List (List UInt8)) (p h : Nat) (h6 : h ≤ 6) (hl : l.length = 2 ^ h) (hr : leavesR 2 l = .ok rows) (x : Sl) (hx : l[p]? = some x) (f : Bool) (s d : List UInt8) (path : List (List UInt8))
    (h0 : checkR 2 (rootB 2 h rows) l.length p f s d path h = 0) : f = x.f ∧ s = x.s ∧ d = x.d := by
  have hp : p < l.length := (List.getElem?_eq_some_iff.1 hx).1
  obtain ⟨b, h1, h2⟩ := leavesR_at 2 l rows p x hr hx
  have hrl := leavesR_length 2 l rows hr
  unfold checkR at h0
  split at h0
  · cases h0
  · split at h0
    · cases h0
    · split at h0
      · cases h0
      · split at h0
        · rename_i c hlf
          exact absurd h0 (leafR_ne 2 f s d c hlf)
        · rename_i b' hlf
          split at h0
          · cases h0
          · rename_i hlen
            split at h0
            · cases h0
            · rename_i y hcl
              split at h0
              · rename_i hy
                rw [Int.toNat_natCast] at hcl
                rw [hy, ← blockB_all 2 rows h (by rw [hrl, hl])] at hcl
                have hs := climb_sound rows p h h6 (by rw [hrl, hl]) (leavesR_each 2 l rows hr) (by omega) path 0 b' (by rw [Nat.zero_add]; exact Decidable.not_not.1 hlen) hcl
                rw [Nat.pow_zero, Nat.div_one, blockB_zero 2 rows p b h1] at hs
                subst hs
                exact leafR_inj hlf h2
              · cases h0
theorem rootB_inj : ∀ (h : Nat) (r r' : List (List UInt8)), h ≤ 6 → r.length = 2 ^ h → r'.length = 2 ^ h → (∀ b ∈ r, b.length ≤ 600) → (∀ b ∈ r', b.length ≤ 600) → rootB 2 h r = rootB 2 h r' → r = r'
  | 0, r, r', h6, hl, hl', hb, hb', he => by
    match r, hl, r', hl' with
    | [a], _, [b], _ => simpa [rootB] using he
  | h + 1, r, r', h6, hl, hl', hb, hb', he => by
    have e1 : 2 ^ (h + 1) = 2 * 2 ^ h := by rw [Nat.pow_succ, Nat.mul_comm]
    have h64 : 2 ^ (h + 1) ≤ 2 ^ 6 := Nat.pow_le_pow_right (by decide) h6
    have e6 : 2 ^ 6 = 64 := by decide
    have hm : 2 ^ h * 642 ≤ 32 * 642 := Nat.mul_le_mul_right _ (by omega)
    have l1 : (r.take (2 ^ h)).length = 2 ^ h := by rw [List.length_take]; omega
    have l2 : (r.drop (2 ^ h)).length = 2 ^ h := by rw [List.length_drop]; omega
    have l3 : (r'.take (2 ^ h)).length = 2 ^ h := by rw [List.length_take]; omega
    have l4 : (r'.drop (2 ^ h)).length = 2 ^ h := by rw [List.length_drop]; omega
    have b1 : ∀ b ∈ r.take (2 ^ h), b.length ≤ 600 := fun b hx => hb b (List.mem_of_mem_take hx)
    have b2 : ∀ b ∈ r.drop (2 ^ h), b.length ≤ 600 := fun b hx => hb b (List.mem_of_mem_drop hx)
    have b3 : ∀ b ∈ r'.take (2 ^ h), b.length ≤ 600 := fun b hx => hb' b (List.mem_of_mem_take hx)
    have b4 : ∀ b ∈ r'.drop (2 ^ h), b.length ≤ 600 := fun b hx => hb' b (List.mem_of_mem_drop hx)
    have r1 := rootB_length 2 h _ l1 b1
    have r2 := rootB_length 2 h _ l2 b2
    have r3 := rootB_length 2 h _ l3 b3
    have r4 := rootB_length 2 h _ l4 b4
    have d1 := digR_node 2 rfl (rootB 2 h (r.take (2 ^ h))) (rootB 2 h (r.drop (2 ^ h))) (by omega) (by omega)
    have d2 := digR_node 2 rfl (rootB 2 h (r'.take (2 ^ h))) (rootB 2 h (r'.drop (2 ^ h))) (by omega) (by omega)
    have hx : rootB 2 (h + 1) r = nodeB 2 (rootB 2 h (r.take (2 ^ h))) (rootB 2 h (r.drop (2 ^ h))) := rfl
    have hx' : rootB 2 (h + 1) r' = nodeB 2 (rootB 2 h (r'.take (2 ^ h))) (rootB 2 h (r'.drop (2 ^ h))) := rfl
    rw [← hx] at d1
    rw [← hx', ← he] at d2
    have := digR_inj d1 d2
    simp only [List.cons.injEq, and_true] at this
    have i1 := rootB_inj h _ _ (by omega) l1 l3 b1 b3 this.1
    have i2 := rootB_inj h _ _ (by omega) l2 l4 b2 b4 this.2
    rw [← List.take_append_drop (2 ^ h) r, ← List.take_append_drop (2 ^ h) r', i1, i2]
theorem leavesR_inj : ∀ (l l' : List Sl) (rows : List (List UInt8)), leavesR 2 l = .ok rows → leavesR 2 l' = .ok rows → l = l' := by
  intro l l' rows h h'
  have e1 := leavesR_length 2 l rows h
  have e2 := leavesR_length 2 l' rows h'
  refine List.ext_getElem? fun i => ?_
  by_cases hi : i < l.length
  · obtain ⟨x, hx⟩ : ∃ x, l[i]? = some x := ⟨_, List.getElem?_eq_getElem hi⟩
    obtain ⟨y, hy⟩ : ∃ y, l'[i]? = some y := ⟨_, List.getElem?_eq_getElem (by omega)⟩
    obtain ⟨b, q1, q2⟩ := leavesR_at 2 l rows i x h hx
    obtain ⟨b', q3, q4⟩ := leavesR_at 2 l' rows i y h' hy
    rw [q1] at q3
    cases q3
    obtain ⟨f1, f2, f3⟩ := leafR_inj q2 q4
    rw [hx, hy]
    obtain ⟨xf, xs, xd⟩ := x
    obtain ⟨yf, ys, yd⟩ := y
    simp only at f1 f2 f3
    subst f1 f2 f3
    rfl
  · rw [List.getElem?_eq_none (by omega), List.getElem?_eq_none (by omega)]
end Go.Proofs.YtcnemacakjemjaaDoor
