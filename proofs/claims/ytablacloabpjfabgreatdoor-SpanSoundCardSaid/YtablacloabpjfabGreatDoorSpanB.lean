/-
  PLAIN: where a condition is true the column's number is within its range; of comparisons alone the range is just what is said.
  CONDITIONS: none.
-/
import Derived.Test.YtablacloabpjfabGreatDoorSpanT
import Derived.Test.YtablacloabpjfabGreatDoorGEve
namespace Go.Proofs.YtablacloabpjfabGreatDoor
open Go.RowKit
set_option linter.unusedVariables false

def inG (k : Int) (r : Rg) : Prop := r.lo ≤ k ∧ k ≤ r.hi
instance (k : Int) (r : Rg) : Decidable (inG k r) := inferInstanceAs (Decidable (_ ∧ _))
theorem common_in (k : Int) (a b : Rg) : inG k (commonG a b) ↔ inG k a ∧ inG k b := by
  unfold inG commonG
  split
  · rename_i h; simp only [noneG]; omega
  · simp only; omega
theorem all_in (k : Int) (h : in64 k) : inG k allG := h
theorem ord_int (a b : Int) (x y : Int) (s t : List UInt8) : ordV (toV ⟨2, a, x, s⟩) (toV ⟨2, b, y, t⟩) = cmp3 a b := by
  unfold ordV ord toV
  simp
theorem cmp3_sg (a b : Int) : (a < b ∧ cmp3 a b < 0) ∨ (a = b ∧ cmp3 a b = 0) ∨ (b < a ∧ 0 < cmp3 a b) := by
  unfold cmp3
  repeat' split
  all_goals omega
theorem hold_in (op k m : Int) (ho : op = 9 ∨ op = 11 ∨ op = 12 ∨ op = 13 ∨ op = 14) (hk : in64 k) (hm : -9223372036854775807 ≤ m ∧ m ≤ 9223372036854775807) : inG k (holdG op m) ↔ whichC op (cmp3 k m) = true := by
  unfold in64 at hk
  have h := cmp3_sg k m
  generalize cmp3 k m = c at *
  rcases ho with rfl | rfl | rfl | rfl | rfl
  · simp only [inG, holdG, whichC]; simp; omega
  · simp only [inG, holdG, whichC]; simp; omega
  · simp only [inG, holdG, whichC]; simp; omega
  · by_cases e : m = 9223372036854775807
    · subst e
      simp only [inG, holdG, whichC, noneG]; simp; omega
    · simp only [inG, holdG, whichC]; simp [e]; omega
  · simp only [inG, holdG, whichC]; simp; omega
theorem turn_in (op k m : Int) (ho : op = 9 ∨ op = 11 ∨ op = 12 ∨ op = 13 ∨ op = 14) : whichC (turnO op) (cmp3 k m) = whichC op (cmp3 m k) := by
  have h := cmp3_sg k m
  have h' := cmp3_sg m k
  generalize cmp3 k m = c at *
  generalize cmp3 m k = d at *
  rcases ho with rfl | rfl | rfl | rfl | rfl
  · show (c == 0) = (d == 0)
    rw [Bool.eq_iff_iff]; simp; omega
  · show decide (0 < c) = decide (d < 0)
    rw [decide_eq_decide]; omega
  · show (!decide (c < 0)) = !decide (0 < d)
    congr 1; rw [decide_eq_decide]; omega
  · show decide (c < 0) = decide (0 < d)
    rw [decide_eq_decide]; omega
  · show (!decide (0 < c)) = !decide (d < 0)
    congr 1; rw [decide_eq_decide]; omega
theorem turn_is (op : Int) (ho : op = 9 ∨ op = 11 ∨ op = 12 ∨ op = 13 ∨ op = 14) : turnO op = 9 ∨ turnO op = 11 ∨ turnO op = 12 ∨ turnO op = 13 ∨ turnO op = 14 := by
  rcases ho with rfl | rfl | rfl | rfl | rfl <;> decide
/-- A number of an expression is what it says. -/
theorem lit_ev (cs : List Cl) (row : List Vl) (t : T) (h : (litN t).2 = true) : ∃ v : Vl, evT cs row t = okE v ∧ v.k = 2 ∧ v.i = (litN t).1 := by
  obtain ⟨d, l⟩ := t
  unfold litN at h ⊢
  by_cases c : (T.mk d l).nd.op = 1 ∧ (T.mk d l).nd.k = 2
  · rw [if_pos c]
    refine ⟨⟨d.k, d.i, d.b, d.t⟩, ?_, c.2, rfl⟩
    simp only [evT]; rw [if_pos (show d.op = 1 from c.1)]
  · rw [if_neg c] at h; cases h
theorem num_ev (cs : List Cl) (row : List Vl) (t : T) (hf : formT t = 0) (hF : FitT t) (h : (numG t).2 = true) : ∃ v : Vl, evT cs row t = okE v ∧ v.k = 2 ∧ v.i = (numG t).1 := by
  have hr := numG_rng t hf hF
  unfold numG at h hr ⊢
  by_cases c : t.nd.op = 3
  · rw [if_pos c] at h hr ⊢
    obtain ⟨a, ha, _, _⟩ := form_one t hf hF c
    rw [ha] at h hr ⊢
    simp only at h hr ⊢
    obtain ⟨v, h1, h2, h3⟩ := lit_ev cs row a h
    obtain ⟨d, l⟩ := t
    simp only [T.kids] at ha
    simp only [T.nd] at c
    subst ha
    refine ⟨intV (0 - v.i), ?_, rfl, by rw [h3]; rfl⟩
    have e : evT cs row (.mk d [a]) = combE d.op [evT cs row a] := by
      simp only [evT, evL]; rw [if_neg (by omega), if_neg (by omega)]
    rw [e, h1, c]
    show op1E 3 v = _
    unfold op1E
    rw [if_pos rfl, if_pos (show fitE v 2 = true by unfold fitE; simp [h2]), if_neg (by omega)]
    exact numE_in (by unfold in64; omega)
  · rw [if_neg c] at h ⊢
    exact lit_ev cs row t h
theorem and_true (p q : RE) (h0 : (combE 15 [p, q]).f = 0) (h1 : (combE 15 [p, q]).v.k = 1) (h2 : (combE 15 [p, q]).v.i = 1) : (p.f = 0 ∧ p.v.k = 1 ∧ p.v.i = 1) ∧ (q.f = 0 ∧ q.v.k = 1 ∧ q.v.i = 1) := by
  rw [comb2] at h0 h1 h2
  by_cases c1 : p.f = 0
  · rw [if_neg (by simpa using c1)] at h0 h1 h2
    by_cases c2 : shortE 15 p.v = true
    · rw [if_pos c2] at h0 h1 h2
      unfold shortE at c2
      simp at c2
      simp only [okE] at h2
      omega
    · rw [if_neg c2] at h0 h1 h2
      by_cases c3 : q.f = 0
      · rw [if_neg (by simpa using c3)] at h0 h1 h2
        unfold op2E at h0 h1 h2
        rw [if_neg (by decide), if_pos rfl] at h0 h1 h2
        by_cases c4 : (fitE p.v 1 && fitE q.v 1) = true
        · rw [if_pos c4] at h0 h1 h2
          unfold tolE at h2
          simp only [okE] at h2
          have ht : andT (trT p.v) (trT q.v) = 2 := by
            by_cases e1 : andT (trT p.v) (trT q.v) = 1
            · rw [if_pos e1] at h2; cases h2
            · rw [if_neg e1] at h2
              by_cases e2 : (andT (trT p.v) (trT q.v) == 2) = true
              · simpa using e2
              · have e3 : (andT (trT p.v) (trT q.v) == 2) = false := by simpa using e2
                rw [e3] at h2; cases h2
          have hp : trT p.v = 2 ∧ trT q.v = 2 := by
            unfold andT at ht
            have z1 : trT p.v = 0 ∨ trT p.v = 1 ∨ trT p.v = 2 := by unfold trT; repeat' split
                                                                    all_goals omega
            have z2 : trT q.v = 0 ∨ trT q.v = 1 ∨ trT q.v = 2 := by unfold trT; repeat' split
                                                                    all_goals omega
            repeat' split at ht
            all_goals omega
          have two : ∀ v : Vl, trT v = 2 → v.k = 1 ∧ v.i = 1 := fun v hv => by
            unfold trT at hv
            repeat' split at hv
            all_goals omega
          exact ⟨⟨c1, two _ hp.1⟩, ⟨c3, two _ hp.2⟩⟩
        · rw [if_neg c4] at h0; cases h0
      · rw [if_pos (by simpa using c3)] at h0; exact absurd h0 c3
  · rw [if_pos (by simpa using c1)] at h0; exact absurd h0 c1
/-- A comparison that is true compares two numbers, if one of them is one. -/
theorem cmp_true (op : Int) (ho : op = 9 ∨ op = 11 ∨ op = 12 ∨ op = 13 ∨ op = 14) (v w : Vl) (h0 : (combE op [okE v, okE w]).f = 0) (h1 : (combE op [okE v, okE w]).v.k = 1) (h2 : (combE op [okE v, okE w]).v.i = 1) (hk : v.k = 2 ∨ w.k = 2) : (v.k = 2 ∧ w.k = 2) ∧ whichC op (cmp3 v.i w.i) = true := by
  have e : combE op [okE v, okE w] = cmpE op v w := by
    refine (comb2_ok op v w ?_).trans ?_
    · unfold shortE; repeat' split
      all_goals first | rfl | (exfalso; omega)
    · unfold op2E
      repeat' split
      all_goals first | rfl | (exfalso; omega)
  rw [e] at h0 h1 h2
  unfold cmpE at h0 h1 h2
  by_cases c1 : v.k = 0 ∨ w.k = 0
  · rw [if_pos c1] at h1; cases h1
  · rw [if_neg c1] at h0 h1 h2
    by_cases c2 : v.k = w.k
    · rw [if_pos c2] at h0 h1 h2
      have hh : v.k = 2 ∧ w.k = 2 := by omega
      refine ⟨hh, ?_⟩
      obtain ⟨k, i, b, s⟩ := v
      obtain ⟨k', i', b', s'⟩ := w
      simp only at hh
      obtain ⟨rfl, rfl⟩ := hh
      rw [ord_int] at h2
      simp only [okE, booV] at h2
      cases hw : whichC op (cmp3 i i') with
      | true => rfl
      | false => rw [hw] at h2; cases h2
    · rw [if_neg c2] at h0; cases h0
/-- Where a condition is true the column's number is within. -/
theorem span_sound (cs : List Cl) (row : List Vl) (n : List UInt8) (v : Vl) (hc : colE cs row n = okE v) (hv : in64 v.i) : ∀ (f : Nat) (t : T), t.deep ≤ f → formT t = 0 → FitT t → (evT cs row t).f = 0 → (evT cs row t).v.k = 1 → (evT cs row t).v.i = 1 → inG v.i (leavesG n f t)
  | 0, t, h, _, _, _, _, _ => by have := T.deep_eq t; omega
  | f + 1, t, hd, hf, hF, h0, h1, h2 => by
    by_cases c : t.nd.op = 15
    · obtain ⟨a, b, hk, ⟨fa, ga⟩, ⟨fb, gb⟩⟩ := form_two t hf hF (by omega)
      have hdd : a.deep ≤ f ∧ b.deep ≤ f := by
        have := T.deep_eq t
        rw [hk] at this
        simp only [deepL] at this
        omega
      have eg : leavesG n (f + 1) t = commonG (leavesG n f a) (leavesG n f b) := by
        simp only [leavesG]; rw [if_pos c, hk]
      have ee : evT cs row t = combE 15 [evT cs row a, evT cs row b] := by
        obtain ⟨d, l⟩ := t
        simp only [T.kids] at hk
        simp only [T.nd] at c
        subst hk
        simp only [evT, evL]; rw [if_neg (by omega), if_neg (by omega), c]
      rw [ee] at h0 h1 h2
      obtain ⟨⟨p0, p1, p2⟩, ⟨q0, q1, q2⟩⟩ := and_true _ _ h0 h1 h2
      rw [eg, common_in]
      exact ⟨span_sound cs row n v hc hv f a hdd.1 fa ga p0 p1 p2, span_sound cs row n v hc hv f b hdd.2 fb gb q0 q1 q2⟩
    · have eg : leavesG n (f + 1) t = leafG t n := by
        simp only [leavesG]; rw [if_neg c]
      rw [eg]
      unfold leafG
      by_cases ci : isCmp t.nd.op = true
      · rw [if_pos ci]
        have ho : t.nd.op = 9 ∨ t.nd.op = 11 ∨ t.nd.op = 12 ∨ t.nd.op = 13 ∨ t.nd.op = 14 := by
          simp only [isCmp, Bool.or_eq_true, Bool.and_eq_true, decide_eq_true_eq, beq_iff_eq] at ci; omega
        obtain ⟨a, b, hk, ⟨fa, ga⟩, ⟨fb, gb⟩⟩ := form_two t hf hF (by omega)
        rw [hk]
        simp only
        have ee : evT cs row t = combE t.nd.op [evT cs row a, evT cs row b] := by
          obtain ⟨d, l⟩ := t
          simp only [T.kids] at hk
          simp only [T.nd] at c ho ⊢
          subst hk
          simp only [evT, evL]; rw [if_neg (by omega), if_neg (by omega)]
        rw [ee] at h0 h1 h2
        generalize t.nd.op = op at *
        have hcol : ∀ p : T, isCol p n = true → evT cs row p = okE v := fun p hp => by
          obtain ⟨d, l⟩ := p
          simp only [isCol, T.nd, Bool.and_eq_true, beq_iff_eq] at hp
          simp only [evT]
          rw [if_neg (by omega), if_pos hp.1, hp.2]; exact hc
        unfold cmpG
        by_cases c1 : ((numG b).2 && isCol a n) = true
        · rw [if_pos c1]
          simp only [Bool.and_eq_true] at c1
          obtain ⟨u, e1, e2, e3⟩ := num_ev cs row b fb gb c1.1
          rw [hcol a c1.2, e1] at h0 h1 h2
          have := (cmp_true op ho v u h0 h1 h2 (.inr e2)).2
          rw [e3] at this
          exact (hold_in op v.i _ ho hv (numG_rng b fb gb)).2 this
        · rw [if_neg c1]
          by_cases c2 : ((numG a).2 && isCol b n) = true
          · rw [if_pos c2]
            simp only [Bool.and_eq_true] at c2
            obtain ⟨u, e1, e2, e3⟩ := num_ev cs row a fa ga c2.1
            rw [hcol b c2.2, e1] at h0 h1 h2
            have := (cmp_true op ho u v h0 h1 h2 (.inl e2)).2
            rw [e3] at this
            exact (hold_in (turnO op) v.i _ (turn_is op ho) hv (numG_rng a fa ga)).2 (by rw [turn_in op _ _ ho]; exact this)
          · rw [if_neg c2]; exact hv
      · rw [if_neg ci]; exact hv
/-! ### a column and a number -/
def numU (m : Int) (u : T) : Prop := ∃ n : Int, (0 ≤ n ∧ n ≤ 30) ∧ ((u = litT 2 n 0 [] ∧ m = n) ∨ (u = opN 3 [litT 2 n 0 []] ∧ m = 0 - n))
def Bd (t : T) : Prop := ∃ (op m : Int) (u : T), (op = 9 ∨ op = 11 ∨ op = 12 ∨ op = 13 ∨ op = 14) ∧ numU m u ∧ (t = opN op [colT nA, u] ∨ t = opN op [u, colT nA])
theorem numU_all {m : Int} {u : T} (h : numU m u) : (numG u = (m, true) ∧ -30 ≤ m ∧ m ≤ 30) ∧ (∀ cs row, evT cs row u = okE (intV m)) ∧ (∀ cs, Ty cs 2 2 u) ∧ u.size ≤ 2 ∧ u.deep ≤ 2 := by
  obtain ⟨n, ⟨h0, h1⟩, ⟨rfl, rfl⟩ | ⟨rfl, rfl⟩⟩ := h
  · exact ⟨⟨rfl, by omega, by omega⟩, fun cs row => rfl, fun cs => Ty.more cs 1 2 _ (tyNum cs m h0 (by omega)), by simp [litT, T.size, sizeL], by simp [litT, T.deep, deepL]⟩
  · refine ⟨⟨rfl, by omega, by omega⟩, fun cs row => ?_, fun cs => ty_op1 (.inl ⟨rfl, rfl, rfl⟩) (tyNum cs n h0 (by omega)), by simp [opN, litT, T.size, sizeL], by simp [opN, litT, T.deep, deepL]⟩
    rw [ev_op1 cs row 3 (by decide)]
    show op1E 3 ⟨2, n, 0, []⟩ = _
    exact numE_in (x := 0 - n) (by unfold in64; omega)
theorem ev_cmpI (op k m : Int) (ho : op = 9 ∨ op = 11 ∨ op = 12 ∨ op = 13 ∨ op = 14) : combE op [okE (intV k), okE (intV m)] = okE (booV (whichC op (cmp3 k m))) := by
  have e : combE op [okE (intV k), okE (intV m)] = cmpE op (intV k) (intV m) := by
    refine (comb2_ok op _ _ ?_).trans ?_
    · unfold shortE; repeat' split
      all_goals first | rfl | (exfalso; omega)
    · unfold op2E
      repeat' split
      all_goals first | rfl | (exfalso; omega)
  rw [e]
  unfold cmpE
  rw [if_neg (by show ¬ ((2 : Int) = 0 ∨ (2 : Int) = 0); decide), if_pos (show (intV k).k = (intV m).k from rfl)]
  unfold intV
  rw [ord_int]
/-- What holds of a comparison, or of several. -/
structure BdOk (n sz : Nat) (t : T) : Prop where
  ty : ∀ cs : List Cl, (∃ (j : Nat) (c : Cl), cs[j]? = some c ∧ c.k = 2 ∧ c.n = nA) → Ty cs n 1 t
  size : t.size ≤ sz
  deep : t.deep ≤ n
  fit : FitT t
  ev : ∀ k : Int, in64 k → ∃ b : Bool, evT csAB (rowAB k 0) t = okE (booV b) ∧ (b = true ↔ inG k (leavesG nA t.deep t))
theorem leavesG_more (n : List UInt8) : ∀ (f g : Nat) (t : T), t.deep ≤ f → t.deep ≤ g → leavesG n f t = leavesG n g t
  | 0, _, t, h, _ => by have := T.deep_eq t; omega
  | _ + 1, 0, t, _, h => by have := T.deep_eq t; omega
  | f + 1, g + 1, t, hf, hg => by
    simp only [leavesG]
    by_cases c : t.nd.op = 15
    · rw [if_pos c, if_pos c]
      have hd := T.deep_eq t
      match hk : t.kids with
      | [] => rfl
      | [a] => rfl
      | [a, b] =>
        rw [hk] at hd
        simp only [deepL] at hd
        simp only
        rw [leavesG_more n f g a (by omega) (by omega), leavesG_more n f g b (by omega) (by omega)]
      | _ :: _ :: _ :: _ => rfl
    · rw [if_neg c, if_neg c]
theorem fitT_num {m : Int} {u : T} (h : numU m u) : FitT u := by
  obtain ⟨n, ⟨h0, h1⟩, ⟨rfl, rfl⟩ | ⟨rfl, rfl⟩⟩ := h
  · simp [litT, FitT, FitL]; omega
  · simp [opN, litT, FitT, FitL]; omega
theorem bd_ok {t : T} (h : Bd t) : BdOk 3 4 t := by
  obtain ⟨op, m, u, ho, hu, ht⟩ := h
  obtain ⟨⟨hn, m0, m1⟩, he, hty, hsz, hdp⟩ := numU_all hu
  have hfu := fitT_num hu
  have hcolT : ∀ cs : List Cl, (∃ (j : Nat) (c : Cl), cs[j]? = some c ∧ c.k = 2 ∧ c.n = nA) → Ty cs 2 2 (colT nA) := fun cs ⟨j, c, hj, hk, hcn⟩ => .inl (.inl ⟨j, c, hj, hk, by rw [hcn]⟩)
  have hmk : mk2 1 op 2 := .inr (.inr (.inr (.inl ⟨rfl, by omega, by decide, by decide⟩)))
  have hci : isCmp op = true := by simp only [isCmp, Bool.or_eq_true, Bool.and_eq_true, decide_eq_true_eq, beq_iff_eq]; omega
  rcases ht with rfl | rfl
  · have hdd : (opN op [colT nA, u]).deep = 1 + u.deep := by
      have := T.deep_eq u
      simp only [opN, colT, T.deep, deepL]; omega
    refine ⟨fun cs hcs => ty_op2 hmk (hcolT cs hcs) (hty cs), by simp only [opN, colT, T.size, sizeL]; omega, by omega, by simp only [opN, colT, FitT, FitL]; exact ⟨⟨by omega, by omega⟩, ⟨⟨by omega, by omega⟩, trivial⟩, hfu, trivial⟩, fun k hk => ⟨whichC op (cmp3 k m), ?_, ?_⟩⟩
    · rw [ev_op2 _ _ op (by omega), he, ev_colA]; exact ev_cmpI op k m ho
    · have e : leavesG nA (opN op [colT nA, u]).deep (opN op [colT nA, u]) = holdG op m := by
        rw [hdd, Nat.add_comm 1]
        simp only [leavesG]
        rw [if_neg (show ¬ (opN op [colT nA, u]).nd.op = 15 by show ¬ op = 15; omega)]
        unfold leafG
        rw [if_pos (show isCmp (opN op [colT nA, u]).nd.op = true from hci)]
        show cmpG op (colT nA) u nA = _
        unfold cmpG
        rw [hn, if_pos (by rfl)]
      rw [e]
      exact (hold_in op k m ho hk (by omega)).symm
  · have hdd : (opN op [u, colT nA]).deep = 1 + u.deep := by
      have := T.deep_eq u
      simp only [opN, colT, T.deep, deepL]; omega
    refine ⟨fun cs hcs => ty_op2 hmk (hty cs) (hcolT cs hcs), by simp only [opN, colT, T.size, sizeL]; omega, by omega, by simp only [opN, colT, FitT, FitL]; exact ⟨⟨by omega, by omega⟩, hfu, ⟨⟨by omega, by omega⟩, trivial⟩, trivial⟩, fun k hk => ⟨whichC op (cmp3 m k), ?_, ?_⟩⟩
    · rw [ev_op2 _ _ op (by omega), he, ev_colA]; exact ev_cmpI op m k ho
    · have e : leavesG nA (opN op [u, colT nA]).deep (opN op [u, colT nA]) = holdG (turnO op) m := by
        rw [hdd, Nat.add_comm 1]
        simp only [leavesG]
        rw [if_neg (show ¬ (opN op [u, colT nA]).nd.op = 15 by show ¬ op = 15; omega)]
        unfold leafG
        rw [if_pos (show isCmp (opN op [u, colT nA]).nd.op = true from hci)]
        show cmpG op u (colT nA) nA = _
        unfold cmpG
        rw [hn, numG_col (colT nA) rfl, if_neg (by simp), if_pos (by rfl)]
      rw [e, ← turn_in op k m ho]
      exact (hold_in (turnO op) k m (turn_is op ho) hk (by omega)).symm
theorem bd_and {n sz : Nat} {t u : T} (ht : BdOk n sz t) (hu : Bd u) (hn : 3 ≤ n) : BdOk (n + 1) (sz + 5) (opN 15 [t, u]) := by
  have hb := bd_ok hu
  have more : ∀ cs (q : Nat), Ty cs 3 1 u → Ty cs (3 + q) 1 u := fun cs q h => by
    induction q with
    | zero => exact h
    | succ q ih => exact Ty.more cs _ _ _ ih
  have hdu := hb.deep
  have hdt := ht.deep
  have hdd : (opN 15 [t, u]).deep = 1 + max t.deep u.deep := by
    simp only [opN, T.deep, deepL]; omega
  refine ⟨fun cs hcs => ty_op2 (.inr (.inr (.inl ⟨rfl, .inl rfl, rfl⟩))) (ht.ty cs hcs) (by have := more cs (n - 3) (hb.ty cs hcs); rw [show 3 + (n - 3) = n by omega] at this; exact this), by have := ht.size; have := hb.size; simp only [opN, T.size, sizeL]; omega, by omega, by simp only [opN, FitT, FitL]; exact ⟨⟨by omega, by omega⟩, ht.fit, hb.fit, trivial⟩, fun k hk => ?_⟩
  obtain ⟨b1, e1, h1⟩ := ht.ev k hk
  obtain ⟨b2, e2, h2⟩ := hb.ev k hk
  refine ⟨b1 && b2, ?_, ?_⟩
  · rw [ev_op2 _ _ 15 (by decide), e1, e2]
    cases b1 <;> cases b2 <;> rfl
  · have e : leavesG nA (opN 15 [t, u]).deep (opN 15 [t, u]) = commonG (leavesG nA t.deep t) (leavesG nA u.deep u) := by
      rw [hdd, Nat.add_comm 1]
      simp only [leavesG]
      rw [if_pos (show (opN 15 [t, u]).nd.op = 15 from rfl)]
      show commonG _ _ = _
      rw [leavesG_more nA _ t.deep t (by omega) (Nat.le_refl _), leavesG_more nA _ u.deep u (by omega) (Nat.le_refl _)]
    rw [e, common_in, ← h1, ← h2]; simp
theorem leaves_fine (n : List UInt8) : ∀ (f : Nat) (t : T), formT t = 0 → FitT t → leavesG n f t = noneG ∨ (leavesG n f t).lo ≤ (leavesG n f t).hi
  | 0, t, _, _ => .inr (show allG.lo ≤ allG.hi by decide)
  | f + 1, t, hf, hF => by
    by_cases c : t.nd.op = 15
    · obtain ⟨a, b, hk, _, _⟩ := form_two t hf hF (by omega)
      have eg : leavesG n (f + 1) t = commonG (leavesG n f a) (leavesG n f b) := by
        simp only [leavesG]; rw [if_pos c, hk]
      rw [eg]
      unfold commonG
      split
      · exact .inl rfl
      · right; simp only; omega
    · have eg : leavesG n (f + 1) t = leafG t n := by
        simp only [leavesG]; rw [if_neg c]
      rw [eg]
      unfold leafG
      by_cases ci : isCmp t.nd.op = true
      · rw [if_pos ci]
        have ho : t.nd.op = 9 ∨ t.nd.op = 11 ∨ t.nd.op = 12 ∨ t.nd.op = 13 ∨ t.nd.op = 14 := by
          simp only [isCmp, Bool.or_eq_true, Bool.and_eq_true, decide_eq_true_eq, beq_iff_eq] at ci; omega
        obtain ⟨a, b, hk, ⟨fa, ga⟩, ⟨fb, gb⟩⟩ := form_two t hf hF (by omega)
        rw [hk]
        simp only
        have hh : ∀ op m : Int, (-9223372036854775807 ≤ m ∧ m ≤ 9223372036854775807) → holdG op m = noneG ∨ (holdG op m).lo ≤ (holdG op m).hi := fun op m hm => by
          unfold holdG
          repeat' split
          all_goals first | exact .inl rfl | (right; simp only; omega)
        unfold cmpG
        repeat' split
        · exact hh _ _ (numG_rng b fb gb)
        · exact hh _ _ (numG_rng a fa ga)
        · exact .inr (show allG.lo ≤ allG.hi by decide)
      · rw [if_neg ci]; exact .inr (show allG.lo ≤ allG.hi by decide)
end Go.Proofs.YtablacloabpjfabGreatDoor
