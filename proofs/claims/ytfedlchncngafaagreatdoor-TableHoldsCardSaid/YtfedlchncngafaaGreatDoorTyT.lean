/-
  PLAIN: expressions that raw things make: each of a kind, over columns that may be.
  CONDITIONS: none.
-/
import Derived.Test.YtfedlchncngafaaGreatDoorKindU
namespace Go.Proofs.YtfedlchncngafaaGreatDoor
open Go.RowKit
set_option linter.unusedVariables false

def opN (op : Int) (l : List T) : T := .mk ⟨op, 0, 0, 0, [], []⟩ l
def colT (n : List UInt8) : T := .mk ⟨2, 0, 0, 0, [], n⟩ []
def litT (k i b : Int) (s : List UInt8) : T := .mk ⟨1, k, i, b, s, []⟩ []
/-- A column, or a literal, of a kind. -/
def Leaf (cs : List Cl) (k : Int) (t : T) : Prop :=
  (∃ (j : Nat) (c : Cl), cs[j]? = some c ∧ c.k = k ∧ t = colT c.n) ∨ ∃ (k' i b : Int) (s : List UInt8), (k' = k ∨ k' = 0) ∧ chk k' i b (str s) = 0 ∧ 0 ≤ i ∧ i ≤ 9223372036854775807 ∧ 0 ≤ b ∧ b ≤ 18446744073709551615 ∧ t = litT k' i b s
/-- Which operations on one part raw things make, and of which kind the part is. -/
def mk1 (k op k' : Int) : Prop := (k = 2 ∧ op = 3 ∧ k' = 2) ∨ (k = 2 ∧ op = 18 ∧ k' = 4) ∨ (k = 1 ∧ op = 4 ∧ k' = 1) ∨ (k = 1 ∧ op = 17 ∧ 1 ≤ k' ∧ k' ≤ 4)
def mk2 (k op k' : Int) : Prop := (op = 20 ∧ k' = k) ∨ (k = 2 ∧ (5 ≤ op ∧ op ≤ 8) ∧ k' = 2) ∨ (k = 1 ∧ (op = 15 ∨ op = 16) ∧ k' = 1) ∨ (k = 1 ∧ (9 ≤ op ∧ op ≤ 14) ∧ 1 ≤ k' ∧ k' ≤ 4) ∨ (k = 4 ∧ op = 19 ∧ k' = 4)
def Ty (cs : List Cl) : Nat → Int → T → Prop
  | 0, _, _ => False
  | n + 1, k, t => Leaf cs k t ∨ (∃ (op k' : Int) (a : T), mk1 k op k' ∧ Ty cs n k' a ∧ t = opN op [a]) ∨ ∃ (op k' : Int) (a b : T), mk2 k op k' ∧ Ty cs n k' a ∧ Ty cs n k' b ∧ t = opN op [a, b]
theorem Ty.more (cs : List Cl) : ∀ (n : Nat) (k : Int) (t : T), Ty cs n k t → Ty cs (n + 1) k t
  | 0, _, _, h => h.elim
  | n + 1, k, t, h => by
    rcases h with h | ⟨op, k', a, h1, h2, h3⟩ | ⟨op, k', a, b, h1, h2, h3, h4⟩
    · exact .inl h
    · exact .inr (.inl ⟨op, k', a, h1, Ty.more cs n k' a h2, h3⟩)
    · exact .inr (.inr ⟨op, k', a, b, h1, Ty.more cs n k' a h2, Ty.more cs n k' b h3, h4⟩)
theorem Ty.leaf {cs : List Cl} {n : Nat} {k : Int} {t : T} (h : Leaf cs k t) : Ty cs (n + 1) k t := .inl h
theorem mk1_rng {k op k' : Int} (h : mk1 k op k') : (op = 3 ∨ op = 4 ∨ op = 17 ∨ op = 18) ∧ 1 ≤ k' ∧ k' ≤ 4 := by
  unfold mk1 at h; omega
theorem mk2_rng {k op k' : Int} (h : mk2 k op k') (hk : 1 ≤ k ∧ k ≤ 4) : (3 ≤ op ∧ op ≤ 20 ∧ ¬ (op = 3 ∨ op = 4 ∨ op = 17 ∨ op = 18)) ∧ 1 ≤ k' ∧ k' ≤ 4 := by
  unfold mk2 at h; omega
theorem nodeF_op (op : Int) (n : Nat) (ho : 3 ≤ op ∧ op ≤ 20) (hn : n = partsN op) : nodeF ⟨op, 0, 0, 0, [], []⟩ n = 0 := by
  unfold nodeF
  simp only
  rw [if_neg (by omega)]
  have h1 : nOk ⟨op, 0, 0, 0, [], []⟩ = true := by unfold nOk; simp only; rw [if_neg (by omega)]; rfl
  have h2 : vOk ⟨op, 0, 0, 0, [], []⟩ = true := by unfold vOk; simp only; rw [if_neg (by omega)]; rfl
  rw [h1, h2, if_pos (by simp [hn])]
theorem leaf_form {cs : List Cl} (hc : colsR cs = 0) {k : Int} {t : T} (h : Leaf cs k t) : formT t = 0 := by
  rcases h with ⟨j, c, hj, _, rfl⟩ | ⟨k', i, b, s, hk, hchk, h0, _, _, _, rfl⟩
  · have hn : tokC 1 c.n 0 0 = 0 := by
      unfold colsR at hc
      split at hc
      · cases hc
      · have go : ∀ (l a : List Cl), colsG a l = 0 → ∀ c ∈ l, tokC 1 c.n 0 0 = 0 := by
          intro l
          induction l with
          | nil => intro a _ c hc; cases hc
          | cons x l ih =>
            intro a hz c hm
            simp only [colsG] at hz
            by_cases hx : colF x a = 0
            · rw [if_pos hx] at hz
              rcases List.mem_cons.1 hm with rfl | hm
              · unfold colF at hx
                by_cases hq : tokC 1 c.n 0 0 = 0
                · exact hq
                · rw [if_pos hq] at hx; cases hx
              · exact ih _ hz c hm
            · rw [if_neg hx] at hz; exact absurd hz hx
        exact go cs [] hc c (List.mem_of_getElem? hj)
    have e : nodeF ⟨2, 0, 0, 0, [], c.n⟩ 0 = 0 := by
      unfold nodeF nOk vOk
      simp [hn, partsN]
    show (if nodeF ⟨2, 0, 0, 0, [], c.n⟩ 0 ≠ 0 then nodeF ⟨2, 0, 0, 0, [], c.n⟩ 0 else formL []) = 0
    rw [e, if_neg (by decide)]; rfl
  · have e : nodeF ⟨1, k', i, b, s, []⟩ 0 = 0 := by
      unfold nodeF nOk vOk
      simp [hchk, h0, partsN]
    show (if nodeF ⟨1, k', i, b, s, []⟩ 0 ≠ 0 then nodeF ⟨1, k', i, b, s, []⟩ 0 else formL []) = 0
    rw [e, if_neg (by decide)]; rfl
theorem ty_form {cs : List Cl} (hc : colsR cs = 0) : ∀ (n : Nat) (k : Int) (t : T), 1 ≤ k ∧ k ≤ 4 → Ty cs n k t → formT t = 0
  | 0, _, _, _, h => h.elim
  | n + 1, k, t, hk, h => by
    rcases h with h | ⟨op, k', a, h1, h2, rfl⟩ | ⟨op, k', a, b, h1, h2, h3, rfl⟩
    · exact leaf_form hc h
    · obtain ⟨ho, hk'⟩ := mk1_rng h1
      have e := nodeF_op op 1 (by omega) (by unfold partsN; rw [if_neg (by omega), if_pos ho])
      show (if nodeF ⟨op, 0, 0, 0, [], []⟩ 1 ≠ 0 then nodeF ⟨op, 0, 0, 0, [], []⟩ 1 else formL [a]) = 0
      rw [e, if_neg (by decide)]
      simp only [formL]
      rw [ty_form hc n k' a hk' h2]; rfl
    · obtain ⟨ho, hk'⟩ := mk2_rng h1 hk
      have e := nodeF_op op 2 (by omega) (by unfold partsN; rw [if_neg (by omega), if_neg (by omega)])
      show (if nodeF ⟨op, 0, 0, 0, [], []⟩ 2 ≠ 0 then nodeF ⟨op, 0, 0, 0, [], []⟩ 2 else formL [a, b]) = 0
      rw [e, if_neg (by decide)]
      simp only [formL]
      rw [ty_form hc n k' a hk' h2, ty_form hc n k' b hk' h3]; rfl
theorem ty_deep {cs : List Cl} : ∀ (n : Nat) (k : Int) (t : T), Ty cs n k t → t.deep ≤ n ∧ t.size + 1 ≤ 2 ^ n
  | 0, _, _, h => h.elim
  | n + 1, k, t, h => by
    have hp : 0 < 2 ^ n := Nat.pow_pos (by decide)
    have h2n : 2 ^ (n + 1) = 2 * 2 ^ n := by rw [Nat.pow_succ]; omega
    rcases h with (⟨j, c, hj, _, rfl⟩ | ⟨k', i, b, s, hk, hchk, h0, _, _, _, rfl⟩) | ⟨op, k', a, h1, h2, rfl⟩ | ⟨op, k', a, b, h1, h2, h3, rfl⟩
    · simp only [colT, T.deep, T.size, deepL, sizeL]; omega
    · simp only [litT, T.deep, T.size, deepL, sizeL]; omega
    · have := ty_deep n k' a h2
      simp only [opN, T.deep, T.size, deepL, sizeL]; omega
    · have := ty_deep n k' a h2
      have := ty_deep n k' b h3
      simp only [opN, T.deep, T.size, deepL, sizeL]; omega
/-- A tree small enough may be, if its form is right. -/
theorem exprR_small (t : T) (h7 : t.deep ≤ 7) (h40 : t.size ≤ 40) : exprR t = formT t := by
  unfold exprR
  have := ((room_iff 7).1 t 40 (by decide)).1 ⟨h7, by omega⟩
  rw [this, if_neg (by omega)]
theorem ty_expr {cs : List Cl} (hc : colsR cs = 0) (n : Nat) (hn : n ≤ 5) (k : Int) (t : T) (hk : 1 ≤ k ∧ k ≤ 4) (h : Ty cs n k t) : exprR t = 0 := by
  have := ty_deep n k t h
  have h5 : 2 ^ n ≤ 2 ^ 5 := Nat.pow_le_pow_right (by decide) hn
  rw [exprR_small t (by omega) (by omega)]
  exact ty_form hc n k t hk h
/-- Its kind is the one it was made of, or null's. -/
def KindOk (p : R3) (k : Int) : Prop := p.f = 0 ∧ (p.k = k ∨ p.k = 0)
theorem opK_ok1 {op k k' : Int} (h : mk1 k op k') (p : Int × Bool) (hp : p.1 = k' ∨ p.1 = 0) : KindOk (opK op [p]) k := by
  obtain ⟨x, n⟩ := p
  unfold mk1 at h
  simp only at hp
  rcases h with ⟨rfl, rfl, rfl⟩ | ⟨rfl, rfl, rfl⟩ | ⟨rfl, rfl, rfl⟩ | ⟨rfl, rfl, h1, h2⟩
  · rcases hp with rfl | rfl <;> cases n <;> exact ⟨rfl, .inl rfl⟩
  · rcases hp with rfl | rfl <;> cases n <;> exact ⟨rfl, .inl rfl⟩
  · rcases hp with rfl | rfl <;> cases n <;> exact ⟨rfl, .inl rfl⟩
  · exact ⟨rfl, .inl rfl⟩
theorem opK_ok2 {op k k' : Int} (h : mk2 k op k') (hk : 1 ≤ k ∧ k ≤ 4) (p q : Int × Bool) (hp : p.1 = k' ∨ p.1 = 0) (hq : q.1 = k' ∨ q.1 = 0) : KindOk (opK op [p, q]) k := by
  obtain ⟨x, n⟩ := p
  obtain ⟨y, m⟩ := q
  have e0 : fstK [(x, n), (y, m)] 0 = x := rfl
  have e1 : fstK [(x, n), (y, m)] 1 = y := rfl
  obtain ⟨ho, hr⟩ := mk2_rng h hk
  unfold mk2 at h
  simp only at hp hq
  have hfit : ∀ z : Int, (x = z ∨ x = 0) → (y = z ∨ y = 0) → (fitsK x z && fitsK y z) = true := by
    intro z h1 h2
    simp only [fitsK, Bool.and_eq_true, Bool.or_eq_true, beq_iff_eq]
    omega
  have hfit2 : fitsK x y = true := by
    simp only [fitsK, Bool.or_eq_true, beq_iff_eq]
    omega
  have ha : asksK op x y = true := by
    unfold asksK
    split
    · exact hfit 2 (by omega) (by omega)
    · split
      · exact hfit 1 (by omega) (by omega)
      · split
        · exact hfit 4 (by omega) (by omega)
        · split
          · rfl
          · exact hfit2
  unfold opK
  rw [e0, e1, if_pos ha]
  refine ⟨rfl, ?_⟩
  show givesK op x y = k ∨ givesK op x y = 0
  unfold givesK
  repeat' split
  all_goals omega
end Go.Proofs.YtfedlchncngafaaGreatDoor
