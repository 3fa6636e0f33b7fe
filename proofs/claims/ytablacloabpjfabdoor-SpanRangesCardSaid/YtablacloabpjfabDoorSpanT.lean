/-
  PLAIN: the range of numbers that a condition leaves to a column, as the program reckons it and as the reference does; they agree.
  CONDITIONS: none.
-/
import Derived.Test.YtablacloabpjfabDoorKindU
import Derived.Test.YtablacloabpjfabDoorFitM
namespace Go.Proofs.YtablacloabpjfabDoor
open Go.RowKit
set_option linter.unusedVariables false

structure Rg where
  lo : Int
  hi : Int
def allG : Rg := ⟨-9223372036854775808, 9223372036854775807⟩
def noneG : Rg := ⟨1, 0⟩
/-- The number of a literal, and whether it is one. -/
def litN (t : T) : Int × Bool := if t.nd.op = 1 ∧ t.nd.k = 2 then (t.nd.i, true) else (0, false)
def numG (t : T) : Int × Bool := if t.nd.op = 3 then (match t.kids with
  | [a] => (0 - (litN a).1, (litN a).2)
  | _ => (0, false)) else litN t
def isCol (t : T) (n : List UInt8) : Bool := t.nd.op == 2 && t.nd.n == n
def turnO (op : Int) : Int := if op = 11 then 13 else if op = 12 then 14 else if op = 13 then 11 else if op = 14 then 12 else op
def holdG (op n : Int) : Rg := if op = 11 then ⟨-9223372036854775808, n - 1⟩ else if op = 12 then ⟨-9223372036854775808, n⟩ else if op = 13 then (if n = 9223372036854775807 then noneG else ⟨n + 1, 9223372036854775807⟩) else if op = 14 then ⟨n, 9223372036854775807⟩ else ⟨n, n⟩
def commonG (a b : Rg) : Rg := if min a.hi b.hi < max a.lo b.lo then noneG else ⟨max a.lo b.lo, min a.hi b.hi⟩
def cmpG (op : Int) (a b : T) (n : List UInt8) : Rg := if ((numG b).2 && isCol a n) = true then holdG op (numG b).1 else if ((numG a).2 && isCol b n) = true then holdG (turnO op) (numG a).1 else allG
def isCmp (op : Int) : Bool := op == 9 || (decide (11 ≤ op) && decide (op ≤ 14))
def leafG (t : T) (n : List UInt8) : Rg := if isCmp t.nd.op = true then (match t.kids with
  | [a, b] => cmpG t.nd.op a b n
  | _ => allG) else allG
/-- What a condition leaves, by its depth. -/
def leavesG (n : List UInt8) : Nat → T → Rg
  | 0, _ => allG
  | f + 1, t => if t.nd.op = 15 then (match t.kids with
    | [a, b] => commonG (leavesG n f a) (leavesG n f b)
    | _ => allG) else leafG t n
/-- The conditions that a condition asks. -/
def andsT : Nat → T → List T
  | 0, _ => []
  | f + 1, t => if t.nd.op = 15 then (match t.kids with
    | [a, b] => andsT f a ++ andsT f b
    | _ => []) else [t]
/-- What the reference's loop carries. -/
structure Ac where
  lo : Int
  hi : Int
  no : Bool
def ac0 : Ac := ⟨-9223372036854775808, 9223372036854775807, false⟩
/-- A comparison of the column with a number. -/
def stepN (s : Ac) (op m : Int) : Ac :=
  ⟨if op = 13 ∧ m < 9223372036854775807 then max s.lo (m + 1) else if op = 9 ∨ op = 13 ∨ op = 14 then max s.lo m else s.lo,
   if op = 9 ∨ op = 12 then min s.hi m else if op = 11 then min s.hi (m - 1) else s.hi,
   s.no || (op == 13 && m == 9223372036854775807)⟩
def stepC (s : Ac) (op : Int) (a b : T) (n : List UInt8) : Ac := if ((numG b).2 && isCol a n) = true then stepN s op (numG b).1 else s
def stepA (n : List UInt8) (s : Ac) (x : T) : Ac := if x.nd.op < 9 ∨ 14 < x.nd.op then s else match x.kids with
  | [a, b] => if a.nd.op = 2 then stepC s x.nd.op a b n else stepC s (turnO x.nd.op) b a n
  | _ => s
def endA (s : Ac) : Rg := if s.no = true ∨ s.hi < s.lo then noneG else ⟨s.lo, s.hi⟩
def rangeR (n : List UInt8) (t : T) : Rg := endA ((andsT t.deep t).foldl (stepA n) ac0)
/-! ### they agree -/
structure AcOk (s : Ac) : Prop where
  lo0 : -9223372036854775808 ≤ s.lo
  lo1 : s.lo ≤ 9223372036854775807
  hi0 : -9223372036854775808 ≤ s.hi
  hi1 : s.hi ≤ 9223372036854775807
def plusA (a b : Ac) : Ac := ⟨max a.lo b.lo, min a.hi b.hi, a.no || b.no⟩
theorem ac0_ok : AcOk ac0 := ⟨by decide, by decide, by decide, by decide⟩
theorem AcOk.plus {a b : Ac} (h : AcOk a) (k : AcOk b) : AcOk (plusA a b) := by
  obtain ⟨h1, h2, h3, h4⟩ := h
  obtain ⟨k1, k2, k3, k4⟩ := k
  refine ⟨?_, ?_, ?_, ?_⟩ <;> simp only [plusA] <;> omega
theorem plus0 (a : Ac) (h : AcOk a) : plusA a ac0 = a := by
  obtain ⟨lo, hi, no⟩ := a
  obtain ⟨h1, h2, h3, h4⟩ := h
  simp only [plusA, ac0, Ac.mk.injEq, Bool.or_false] at *
  refine ⟨?_, ?_, ?_⟩ <;> first | omega | trivial
theorem plus_assoc (a b c : Ac) : plusA (plusA a b) c = plusA a (plusA b c) := by
  simp only [plusA, Ac.mk.injEq, Bool.or_assoc]
  refine ⟨?_, ?_, ?_⟩ <;> first | omega | trivial
theorem end_plus (a b : Ac) (h : AcOk a) (k : AcOk b) : endA (plusA a b) = commonG (endA a) (endA b) := by
  obtain ⟨lo, hi, no⟩ := a
  obtain ⟨lo', hi', no'⟩ := b
  obtain ⟨h1, h2, h3, h4⟩ := h
  obtain ⟨k1, k2, k3, k4⟩ := k
  simp only at h1 h2 h3 h4 k1 k2 k3 k4
  have e0 : ∀ r : Rg, commonG noneG r = noneG := fun r => by unfold commonG noneG; simp only; rw [if_pos (by omega)]
  have e1 : ∀ r : Rg, commonG r noneG = noneG := fun r => by unfold commonG noneG; simp only; rw [if_pos (by omega)]
  unfold endA plusA
  simp only
  cases no
  · cases no'
    · simp only [Bool.or_self, Bool.false_eq_true, false_or]
      by_cases c1 : hi < lo
      · rw [if_pos c1, e0, if_pos (by omega)]
      · rw [if_neg c1]
        by_cases c2 : hi' < lo'
        · rw [if_pos c2, e1, if_pos (by omega)]
        · rw [if_neg c2]; rfl
    · rw [if_pos (by simp)]
      rw [if_pos (show true = true ∨ hi' < lo' by simp), e1]
  · rw [if_pos (by simp)]
    rw [if_pos (show true = true ∨ hi < lo by simp), e0]
theorem stepN_ok (s : Ac) (op m : Int) (h : AcOk s) (m0 : -9223372036854775807 ≤ m) (m1 : m ≤ 9223372036854775807) : AcOk (stepN ac0 op m) ∧ stepN s op m = plusA s (stepN ac0 op m) := by
  obtain ⟨lo, hi, no⟩ := s
  obtain ⟨h1, h2, h3, h4⟩ := h
  simp only at h1 h2 h3 h4
  refine ⟨⟨?_, ?_, ?_, ?_⟩, ?_⟩
  · simp only [stepN, ac0]; repeat' split
    all_goals omega
  · simp only [stepN, ac0]; repeat' split
    all_goals omega
  · simp only [stepN, ac0]; repeat' split
    all_goals omega
  · simp only [stepN, ac0]; repeat' split
    all_goals omega
  · simp only [stepN, plusA, ac0, Ac.mk.injEq, Bool.false_or, and_true]
    constructor <;> (repeat' split) <;> omega
theorem end_step (op m : Int) (ho : op = 9 ∨ op = 11 ∨ op = 12 ∨ op = 13 ∨ op = 14) (m0 : -9223372036854775807 ≤ m) (m1 : m ≤ 9223372036854775807) : endA (stepN ac0 op m) = holdG op m := by
  rcases ho with rfl | rfl | rfl | rfl | rfl
  · unfold endA stepN holdG ac0
    simp
    rw [if_neg (by omega), Rg.mk.injEq]; omega
  · unfold endA stepN holdG ac0
    simp
    rw [if_neg (by omega), Rg.mk.injEq]; omega
  · unfold endA stepN holdG ac0
    simp
    rw [if_neg (by omega), Rg.mk.injEq]; omega
  · by_cases c : m = 9223372036854775807
    · subst c; rfl
    · unfold endA stepN holdG ac0
      have e : (m == 9223372036854775807) = false := by simpa using c
      have c3 : m < 9223372036854775807 := by omega
      simp [e, c, c3]
      rw [if_neg (by omega), Rg.mk.injEq]; omega
  · unfold endA stepN holdG ac0
    simp
    rw [if_neg (by omega), Rg.mk.injEq]; omega
/-- Numbers of literals are such as may be. -/
def FitI : T → Prop := fun t => 0 ≤ t.nd.i ∧ t.nd.i ≤ 9223372036854775807
theorem formT_i (t : T) (h : formT t = 0) (hF : FitT t) (h1 : t.nd.op = 1) : 0 ≤ t.nd.i ∧ t.nd.i ≤ 9223372036854775807 := by
  obtain ⟨d, l⟩ := t
  obtain ⟨hn, _⟩ := formT_open d l h
  obtain ⟨_, _, _, hv⟩ := nodeF_open d _ hn
  simp only [FitT] at hF
  unfold vOk at hv
  rw [if_pos (show d.op = 1 from h1)] at hv
  simp only [Bool.and_eq_true, decide_eq_true_eq] at hv
  exact ⟨hv.2, hF.1.1.2⟩
theorem form_two (t : T) (h : formT t = 0) (hF : FitT t) (ho : 9 ≤ t.nd.op ∧ t.nd.op ≤ 16) : ∃ a b, t.kids = [a, b] ∧ (formT a = 0 ∧ FitT a) ∧ (formT b = 0 ∧ FitT b) := by
  obtain ⟨d, l⟩ := t
  obtain ⟨hn, hl⟩ := formT_open d l h
  obtain ⟨_, hp, _, _⟩ := nodeF_open d _ hn
  simp only [T.nd] at ho
  unfold partsN at hp
  rw [if_neg (by omega), if_neg (by omega)] at hp
  simp only [FitT] at hF
  match l, hp with
  | [a, b], _ => exact ⟨a, b, rfl, ⟨formL_mem _ hl a (by simp), hF.2.mem a (by simp)⟩, ⟨formL_mem _ hl b (by simp), hF.2.mem b (by simp)⟩⟩
theorem form_one (t : T) (h : formT t = 0) (hF : FitT t) (ho : t.nd.op = 3) : ∃ a, t.kids = [a] ∧ formT a = 0 ∧ FitT a := by
  obtain ⟨d, l⟩ := t
  obtain ⟨hn, hl⟩ := formT_open d l h
  obtain ⟨_, hp, _, _⟩ := nodeF_open d _ hn
  simp only [T.nd] at ho
  unfold partsN at hp
  rw [if_neg (by omega), if_pos (by omega)] at hp
  simp only [FitT] at hF
  match l, hp with
  | [a], _ => exact ⟨a, rfl, formL_mem _ hl a (by simp), hF.2.mem a (by simp)⟩
theorem litN_rng (t : T) (h : formT t = 0) (hF : FitT t) : 0 ≤ (litN t).1 ∧ (litN t).1 ≤ 9223372036854775807 := by
  unfold litN
  split
  · rename_i h1; exact formT_i t h hF h1.1
  · exact ⟨by decide, by decide⟩
theorem numG_rng (t : T) (h : formT t = 0) (hF : FitT t) : -9223372036854775807 ≤ (numG t).1 ∧ (numG t).1 ≤ 9223372036854775807 := by
  unfold numG
  split
  · rename_i h3
    obtain ⟨a, ha, h1, h2⟩ := form_one t h hF h3
    rw [ha]
    have := litN_rng a h1 h2
    simp only; omega
  · have := litN_rng t h hF; omega
theorem numG_col (t : T) (h : t.nd.op = 2) : (numG t).2 = false := by
  unfold numG litN
  rw [if_neg (by omega), if_neg (by omega)]
theorem turn_rng (op : Int) (h : 9 ≤ op ∧ op ≤ 14) : 9 ≤ turnO op ∧ turnO op ≤ 14 ∧ (op = 10 → turnO op = 10) ∧ (op ≠ 10 → turnO op ≠ 10) := by
  unfold turnO; repeat' split
  all_goals omega
theorem stepN_ne (s : Ac) (m : Int) (h : AcOk s) : stepN s 10 m = s := by
  obtain ⟨lo, hi, no⟩ := s
  simp [stepN]
/-- One condition of the reference's loop. -/
theorem step_ok (n : List UInt8) (x : T) (h : formT x = 0) (hF : FitT x) (h15 : x.nd.op ≠ 15) (s : Ac) (hs : AcOk s) : AcOk (stepA n ac0 x) ∧ stepA n s x = plusA s (stepA n ac0 x) ∧ endA (stepA n ac0 x) = leafG x n := by
  have hid : AcOk ac0 ∧ s = plusA s ac0 ∧ endA ac0 = allG := ⟨ac0_ok, (plus0 s hs).symm, rfl⟩
  by_cases hr : x.nd.op < 9 ∨ 14 < x.nd.op
  · have e : ∀ s, stepA n s x = s := fun s => by unfold stepA; rw [if_pos hr]
    rw [e, e]
    have : leafG x n = allG := by
      unfold leafG
      rw [if_neg]
      simp only [isCmp, Bool.or_eq_true, Bool.and_eq_true, decide_eq_true_eq, beq_iff_eq]; omega
    rw [this]; exact hid
  · obtain ⟨a, b, hk, ⟨fa, ga⟩, ⟨fb, gb⟩⟩ := form_two x h hF (by omega)
    have na := numG_rng a fa ga
    have nb := numG_rng b fb gb
    have e : ∀ s, stepA n s x = if a.nd.op = 2 then stepC s x.nd.op a b n else stepC s (turnO x.nd.op) b a n := fun s => by
      unfold stepA; rw [if_neg hr, hk]
    rw [e, e]
    obtain ⟨t1, t2, t3, t4⟩ := turn_rng x.nd.op (by omega)
    have el : leafG x n = if isCmp x.nd.op = true then cmpG x.nd.op a b n else allG := by
      unfold leafG; rw [hk]
    rw [el]
    have hr' : 9 ≤ x.nd.op ∧ x.nd.op ≤ 14 := by omega
    clear hr
    generalize x.nd.op = op at *
    have main : ∀ (op' : Int) (p q : T), (9 ≤ op' ∧ op' ≤ 14) → (-9223372036854775807 ≤ (numG q).1 ∧ (numG q).1 ≤ 9223372036854775807) → AcOk (stepC ac0 op' p q n) ∧ stepC s op' p q n = plusA s (stepC ac0 op' p q n) ∧ endA (stepC ac0 op' p q n) = (if op' = 10 then allG else if ((numG q).2 && isCol p n) = true then holdG op' (numG q).1 else allG) := by
      intro op' p q h1 h2
      unfold stepC
      by_cases c : ((numG q).2 && isCol p n) = true
      · rw [if_pos c, if_pos c, if_pos c]
        obtain ⟨k1, k2⟩ := stepN_ok s op' (numG q).1 hs h2.1 h2.2
        refine ⟨k1, k2, ?_⟩
        by_cases c10 : op' = 10
        · subst c10
          rw [if_pos rfl, stepN_ne ac0 _ ac0_ok]; rfl
        · rw [if_neg c10]
          exact end_step op' _ (by omega) h2.1 h2.2
      · rw [if_neg c, if_neg c, if_neg c]
        refine ⟨hid.1, hid.2.1, ?_⟩
        rw [ite_self]; rfl
    by_cases c2 : a.nd.op = 2
    · rw [if_pos c2, if_pos c2]
      obtain ⟨k1, k2, k3⟩ := main op a b (by omega) nb
      refine ⟨k1, k2, ?_⟩
      rw [k3]
      unfold cmpG
      rw [numG_col a c2]
      simp only [Bool.false_and, Bool.false_eq_true, if_false]
      by_cases c10 : op = 10
      · subst c10; rfl
      · rw [if_neg c10, if_pos (show isCmp op = true by simp only [isCmp, Bool.or_eq_true, Bool.and_eq_true, decide_eq_true_eq, beq_iff_eq]; omega)]
    · rw [if_neg c2, if_neg c2]
      obtain ⟨k1, k2, k3⟩ := main (turnO op) b a (by omega) na
      refine ⟨k1, k2, ?_⟩
      rw [k3]
      unfold cmpG
      have hc : isCol a n = false := by unfold isCol; simp [c2]
      rw [hc]
      simp only [Bool.and_false, Bool.false_eq_true, if_false]
      by_cases c10 : op = 10
      · subst c10; rfl
      · rw [if_neg (t4 c10), if_pos (show isCmp op = true by simp only [isCmp, Bool.or_eq_true, Bool.and_eq_true, decide_eq_true_eq, beq_iff_eq]; omega)]
theorem ands_ok (n : List UInt8) : ∀ (f : Nat) (t : T), t.deep ≤ f → formT t = 0 → FitT t → ∀ s, AcOk s → AcOk ((andsT f t).foldl (stepA n) ac0) ∧ (andsT f t).foldl (stepA n) s = plusA s ((andsT f t).foldl (stepA n) ac0) ∧ endA ((andsT f t).foldl (stepA n) ac0) = leavesG n f t
  | 0, t, h, _, _, _, _ => by have := T.deep_eq t; omega
  | f + 1, t, hd, h, hF, s, hs => by
    by_cases c : t.nd.op = 15
    · obtain ⟨a, b, hk, ⟨fa, ga⟩, ⟨fb, gb⟩⟩ := form_two t h hF (by omega)
      have hdd : a.deep ≤ f ∧ b.deep ≤ f := by
        have := T.deep_eq t
        rw [hk] at this
        simp only [deepL] at this
        omega
      have ea : andsT (f + 1) t = andsT f a ++ andsT f b := by
        simp only [andsT]; rw [if_pos c, hk]
      have eg : leavesG n (f + 1) t = commonG (leavesG n f a) (leavesG n f b) := by
        simp only [leavesG]; rw [if_pos c, hk]
      obtain ⟨a1, a2, a3⟩ := ands_ok n f a hdd.1 fa ga s hs
      obtain ⟨b1, _, b3⟩ := ands_ok n f b hdd.2 fb gb ac0 ac0_ok
      have bs : ∀ s, AcOk s → (andsT f b).foldl (stepA n) s = plusA s ((andsT f b).foldl (stepA n) ac0) := fun s hs => (ands_ok n f b hdd.2 fb gb s hs).2.1
      rw [ea, eg, List.foldl_append, List.foldl_append, a2, bs _ (hs.plus a1), bs _ a1, plus_assoc, ← a3, ← b3, end_plus _ _ a1 b1]
      exact ⟨a1.plus b1, rfl, rfl⟩
    · have ea : andsT (f + 1) t = [t] := by
        simp only [andsT]; rw [if_neg c]
      have eg : leavesG n (f + 1) t = leafG t n := by
        simp only [leavesG]; rw [if_neg c]
      rw [ea, eg]
      exact step_ok n t h hF c s hs
theorem range_same (n : List UInt8) (t : T) (h : formT t = 0) (hF : FitT t) : rangeR n t = leavesG n t.deep t := (ands_ok n t.deep t (Nat.le_refl _) h hF ac0 ac0_ok).2.2
end Go.Proofs.YtablacloabpjfabDoor
