/-
  MERGED: FoldM, EvalS, EvalV, EvalP, KeepA.
  CONDITIONS: each theorem's own hypotheses.
-/
import Derived.Test.YtfedlchncngafaaGreatDoorEvalM
import Derived.Test.YtfedlchncngafaaGreatDoorGEvd
import Derived.Test.YtfedlchncngafaaGreatDoorFitO
import Derived.Test.YtfedlchncngafaaGreatDoorExprF
import Derived.Test.YtfedlchncngafaaGreatDoorKindQ
import Derived.Test.YtfedlchncngafaaGreatDoorShelfC
import Derived.Shelf.Strconv.Clone
import Derived.Test.YtfedlchncngafaaGreatDoorTyT
import Derived.Test.YtfedlchncngafaaGreatDoorOps

/-! PLAIN: an expression in which what is known ahead of any row is reckoned: it says the same, and is reckoned once only. CONDITIONS: none. -/
namespace Go.Proofs.YtfedlchncngafaaGreatDoor
open Go.RowKit
set_option linter.unusedVariables false

def litV (v : Vl) : T := .mk ⟨1, v.k, v.i, v.b, v.s, []⟩ []
/-- All parts are literals. -/
def litsL (l : List T) : Bool := l.all (fun t => t.nd.op == 1)
def nodeX (d : Nd) (l : List T) : T := if litsL l = true then (if (evT [] [] (.mk d l)).f = 0 ∧ 0 ≤ (evT [] [] (.mk d l)).v.i then litV (evT [] [] (.mk d l)).v else .mk d l) else .mk d l
mutual
def foldT : T → T
  | .mk d l => if l.isEmpty = true then .mk d [] else nodeX d (foldL l)
def foldL : List T → List T
  | [] => []
  | t :: l => foldT t :: foldL l
end
theorem foldL_map : ∀ l : List T, foldL l = l.map foldT
  | [] => rfl
  | t :: l => by simp only [foldL, List.map_cons]; rw [foldL_map l]
/-- What Fold answers: an error, and the tree beside it. -/
def zeroT : T := .mk ⟨0, 0, 0, 0, [], []⟩ []
def foldR (t : T) : T := if exprR t ≠ 0 then zeroT else foldT t
theorem lits_ev (cs : List Cl) (row : List Vl) (l : List T) (h : litsL l = true) : evL cs row l = evL [] [] l := by
  rw [evL_map, evL_map]
  refine List.map_congr_left (fun t ht => ?_)
  have h1 : t.nd.op = 1 := by
    have := List.all_eq_true.1 h t ht
    simpa using this
  obtain ⟨d, m⟩ := t
  simp only [T.nd] at h1
  simp only [evT]
  rw [if_pos h1, if_pos h1]
theorem nodeX_ev (cs : List Cl) (row : List Vl) (d : Nd) (l : List T) (h2 : d.op ≠ 2) : evT cs row (nodeX d l) = evT cs row (.mk d l) := by
  unfold nodeX
  split
  · rename_i h
    split
    · rename_i hg
      have e : evT cs row (.mk d l) = evT [] [] (.mk d l) := by
        simp only [evT]
        rw [if_neg h2, if_neg h2, lits_ev cs row l h]
      rw [e]
      generalize evT [] [] (.mk d l) = r at hg
      obtain ⟨⟨k, i, b, s⟩, f⟩ := r
      simp only at hg
      obtain ⟨rfl, _⟩ := hg
      have e2 : evT cs row (litV ⟨k, i, b, s⟩) = okE ⟨k, i, b, s⟩ := by simp only [litV, evT]; rw [if_pos trivial]
      exact e2
    · rfl
  · rfl
theorem fold_ev (cs : List Cl) (row : List Vl) : ∀ (n : Nat) (t : T), t.deep ≤ n → formT t = 0 → evT cs row (foldT t) = evT cs row t
  | 0, t, h, _ => by have := T.deep_eq t; omega
  | n + 1, .mk d l, h, hf => by
    obtain ⟨hn, hl⟩ := formT_open d l hf
    obtain ⟨_, hp, _, hv⟩ := nodeF_open d _ hn
    have hdl : deepL l ≤ n := by simp only [T.deep] at h; omega
    simp only [foldT]
    by_cases h0 : l.isEmpty = true
    · rw [if_pos h0]
      have : l = [] := by simpa using h0
      rw [this]
    · rw [if_neg h0]
      have h2 : d.op ≠ 2 := by
        intro e
        unfold partsN at hp
        rw [if_pos (.inr e)] at hp
        exact h0 (by simp [List.length_eq_zero_iff.1 hp])
      rw [nodeX_ev cs row d _ h2]
      simp only [evT]
      have : evL cs row (foldL l) = evL cs row l := by
        rw [evL_map, evL_map, foldL_map, List.map_map]
        refine List.map_congr_left (fun t ht => ?_)
        obtain ⟨j, hj⟩ := List.getElem?_of_mem ht
        exact fold_ev cs row n t (Nat.le_trans (deepK_mem hj) hdl) (formL_mem l hl t ht)
      rw [this]
theorem lit_form (v : Vl) (h : OkV v) (h0 : 0 ≤ v.i) : formT (litV v) = 0 := by
  have e : nodeF ⟨1, v.k, v.i, v.b, v.s, []⟩ 0 = 0 := by
    have hc : chk v.k v.i v.b (str v.s) = 0 := h.chk
    unfold nodeF nOk vOk
    simp [hc, h0, partsN]
  show (if nodeF ⟨1, v.k, v.i, v.b, v.s, []⟩ 0 ≠ 0 then nodeF ⟨1, v.k, v.i, v.b, v.s, []⟩ 0 else formL []) = 0
  rw [e, if_neg (by decide)]; rfl
theorem formL_of : ∀ (l : List T), (∀ t ∈ l, formT t = 0) → formL l = 0
  | [], _ => rfl
  | t :: l, h => by
    simp only [formL]
    rw [h t (by simp), if_neg (by decide)]
    exact formL_of l (fun u hu => h u (by simp [hu]))
theorem deepL_le : ∀ (l : List T) (n : Nat), (∀ t ∈ l, t.deep ≤ n) → deepL l ≤ n
  | [], n, _ => by simp [deepL]
  | t :: l, n, h => by
    have := h t (by simp)
    have := deepL_le l n (fun u hu => h u (by simp [hu]))
    simp only [deepL]; omega
/-- What is folded may be, and is no deeper and no larger. -/
theorem fold_form : ∀ (n : Nat) (t : T), t.deep ≤ n → FitT t → formT t = 0 → formT (foldT t) = 0 ∧ FitT (foldT t) ∧ (foldT t).deep ≤ t.deep ∧ (foldT t).size ≤ t.size
  | 0, t, h, _, _ => by have := T.deep_eq t; omega
  | n + 1, .mk d l, h, hF, hf => by
    obtain ⟨hn, hl⟩ := formT_open d l hf
    obtain ⟨_, hp, _, hv⟩ := nodeF_open d _ hn
    have hdl : deepL l ≤ n := by simp only [T.deep] at h; omega
    simp only [foldT]
    by_cases h0 : l.isEmpty = true
    · rw [if_pos h0]
      have : l = [] := by simpa using h0
      subst this
      exact ⟨hf, hF, Nat.le_refl _, Nat.le_refl _⟩
    rw [if_neg h0]
    have hF0 := hF
    simp only [FitT] at hF
    have ih : ∀ t ∈ l, formT (foldT t) = 0 ∧ FitT (foldT t) ∧ (foldT t).deep ≤ t.deep ∧ (foldT t).size ≤ t.size := fun t ht => by
      obtain ⟨j, hj⟩ := List.getElem?_of_mem ht
      exact fold_form n t (Nat.le_trans (deepK_mem hj) hdl) (hF.2.mem t ht) (formL_mem l hl t ht)
    have hlen : (foldL l).length = l.length := by rw [foldL_map, List.length_map]
    have hmem : ∀ t ∈ foldL l, formT t = 0 ∧ FitT t := fun t ht => by
      rw [foldL_map] at ht
      obtain ⟨u, hu, rfl⟩ := List.mem_map.1 ht
      exact ⟨(ih u hu).1, (ih u hu).2.1⟩
    have hsz : ∀ (m : List T), (∀ t ∈ m, (foldT t).deep ≤ t.deep ∧ (foldT t).size ≤ t.size) → deepL (foldL m) ≤ deepL m ∧ sizeL (foldL m) ≤ sizeL m := by
      intro m
      induction m with
      | nil => intro _; simp [foldL, deepL, sizeL]
      | cons u m ihm =>
        intro hm
        have a := hm u (by simp)
        have b := ihm (fun t ht => hm t (by simp [ht]))
        simp only [foldL, deepL, sizeL]; omega
    obtain ⟨s1, s2⟩ := hsz l (fun t ht => (ih t ht).2.2)
    have hmk : formT (.mk d (foldL l)) = 0 ∧ FitT (.mk d (foldL l)) := by
      constructor
      · simp only [formT]
        rw [hlen, hn, if_neg (by decide)]
        exact formL_of _ (fun t ht => (hmem t ht).1)
      · simp only [FitT]
        exact ⟨hF.1, fitL_of _ (fun t ht => (hmem t ht).2)⟩
    have hmk2 : (T.mk d (foldL l)).deep ≤ (T.mk d l).deep ∧ (T.mk d (foldL l)).size ≤ (T.mk d l).size := by
      simp only [T.deep, T.size]; omega
    unfold nodeX
    split
    · split
      · rename_i hg
        have hok := ok_ev [] [] (fun v hv => by cases hv) (T.mk d (foldL l)).deep _ (Nat.le_refl _) hmk.2 hmk.1
        generalize evT [] [] (T.mk d (foldL l)) = r at hg hok
        refine ⟨lit_form r.v hok.v hg.2, ?_, ?_, ?_⟩
        · simp only [litV, FitT, FitL]
          exact ⟨⟨⟨hok.v.fit.i0, hok.v.fit.i1⟩, hok.v.fit.b0, hok.v.fit.b1⟩, trivial⟩
        · simp only [litV, T.deep, deepL]; omega
        · simp only [litV, T.size, sizeL]; omega
      · exact ⟨hmk.1, hmk.2, hmk2⟩
    · exact ⟨hmk.1, hmk.2, hmk2⟩
/-- Once only. -/
theorem fold_once : ∀ (n : Nat) (t : T), t.deep ≤ n → foldT (foldT t) = foldT t
  | 0, t, h => by have := T.deep_eq t; omega
  | n + 1, .mk d l, h => by
    have hdl : deepL l ≤ n := by simp only [T.deep] at h; omega
    have e0 : foldT (.mk d l) = if l.isEmpty = true then .mk d [] else nodeX d (foldL l) := by simp only [foldT]
    rw [e0]
    by_cases h0 : l.isEmpty = true
    · rw [if_pos h0]; simp [foldT]
    rw [if_neg h0]
    have hne : (foldL l).isEmpty = false := by
      cases l with
      | nil => simp at h0
      | cons t l => rfl
    have hL : foldL (foldL l) = foldL l := by
      rw [foldL_map l, foldL_map, List.map_map]
      refine List.map_congr_left (fun t ht => ?_)
      obtain ⟨j, hj⟩ := List.getElem?_of_mem ht
      exact fold_once n t (Nat.le_trans (deepK_mem hj) hdl)
    have e1 : foldT (.mk d (foldL l)) = nodeX d (foldL l) := by
      simp only [foldT]
      rw [hne, if_neg (by decide), hL]
    generalize foldL l = m at *
    have hx : nodeX d m = .mk d m ∨ ∃ v, nodeX d m = litV v := by
      unfold nodeX
      split
      · split
        · exact .inr ⟨_, rfl⟩
        · exact .inl rfl
      · exact .inl rfl
    rcases hx with hx | ⟨v, hx⟩
    · rw [hx] at e1 ⊢; exact e1
    · rw [hx]; simp [litV, foldT]
theorem fold_op (t : T) (h : formT t = 0) (hF : FitT t) : (foldT t).nd.op ≠ 0 := by
  have := (fold_form t.deep t (Nat.le_refl _) hF h).1
  generalize foldT t = u at this
  obtain ⟨d, l⟩ := u
  obtain ⟨hn, _⟩ := formT_open d l this
  have := (nodeF_open d _ hn).1
  show d.op ≠ 0
  omega
end Go.Proofs.YtfedlchncngafaaGreatDoor

/-! PLAIN: what has a kind has values of that kind in each row that fits, or null, if it may be. CONDITIONS: none. -/
namespace Go.Proofs.YtfedlchncngafaaGreatDoor
open Go.RowKit
set_option linter.unusedVariables false

/-- A value is of a reckoned kind. -/
def OfK (v : Vl) (p : R3) : Prop := (v.k ≠ 0 → v.k = p.k) ∧ (v.k = 0 → p.n = true)
/-- What may go wrong all the same. -/
def FewF (f : Int) : Prop := f = 6 ∨ f = 7 ∨ f = 1
def SoundR (r : RE) (p : R3) : Prop := (r.f = 0 ∧ OfK r.v p) ∨ FewF r.f
theorem sound_bad {f : Int} {p : R3} (h : FewF f) : SoundR (badE f) p := .inr h
theorem sound_ok {v : Vl} {p : R3} (h : OfK v p) : SoundR (okE v) p := .inl ⟨rfl, h⟩
theorem sound_num (n : Int) (p : R3) (hk : p.k = 2) : SoundR (numE n) p := by
  unfold numE
  split
  · exact sound_ok ⟨fun _ => hk.symm, fun h => by cases h⟩
  · exact sound_bad (.inl rfl)
theorem sound_ar (op a b : Int) (p : R3) (hk : p.k = 2) : SoundR (arE op a b) p := by
  unfold arE
  repeat' split
  all_goals first | exact sound_num _ p hk | exact sound_bad (.inr (.inl rfl))
theorem booV_k (b : Bool) : (booV b).k = 1 := rfl
theorem sound_boo (b : Bool) (p : R3) (hk : p.k = 1) : SoundR (okE (booV b)) p := sound_ok ⟨fun _ => hk.symm, fun h => by cases h⟩
theorem sound_nul (p : R3) (hn : p.n = true) : SoundR (okE nulV) p := sound_ok ⟨fun h => absurd rfl h, fun _ => hn⟩
theorem trT_one (v : Vl) : trT v = 1 ↔ v.k ≠ 1 := by
  unfold trT
  by_cases h : v.k = 1
  · rw [if_pos h]
    split
    · constructor
      · intro h; cases h
      · intro h'; exact absurd h h'
    · constructor
      · intro h; cases h
      · intro h'; exact absurd h h'
  · rw [if_neg h]; exact ⟨fun _ => h, fun _ => rfl⟩
theorem sound_tol (t : Int) (p : R3) (hk : p.k = 1) (hn : t = 1 → p.n = true) : SoundR (tolE t) p := by
  unfold tolE
  by_cases h : t = 1
  · rw [if_pos h]; exact sound_nul p (hn h)
  · rw [if_neg h]; exact sound_boo _ p hk
theorem fit_of (v : Vl) (k k0 : Int) (h : fitsK k k0 = true) (h0 : k0 ≠ 0) (hv : v.k ≠ 0 → v.k = k) : fitE v k0 = true := by
  simp only [fitsK, Bool.or_eq_true, beq_iff_eq] at h
  simp only [fitE, Bool.or_eq_true, beq_iff_eq]
  by_cases c : v.k = 0
  · exact .inr c
  · have := hv c
    left; omega
theorem two_fit (a b : Vl) (k k' : Int) (h : fitsK k k' = true) (ha : a.k ≠ 0 → a.k = k) (hb : b.k ≠ 0 → b.k = k') (h1 : a.k ≠ 0) (h2 : b.k ≠ 0) : a.k = b.k := by
  simp only [fitsK, Bool.or_eq_true, beq_iff_eq] at h
  have := ha h1
  have := hb h2
  omega
theorem opK_one (op : Int) (p : Int × Bool) (h : (opK op [p]).f = 0) : asksK op p.1 0 = true ∧ opK op [p] = ⟨givesK op p.1 0, mayK op (if p.2 = true then 1 else 0), 0⟩ := by
  obtain ⟨k, n⟩ := p
  unfold opK at h ⊢
  have e0 : fstK [(k, n)] 0 = k := rfl
  have e1 : fstK [(k, n)] 1 = 0 := rfl
  rw [e0, e1] at h ⊢
  by_cases ha : asksK op k 0 = true
  · refine ⟨ha, ?_⟩
    rw [if_pos ha]
    cases n <;> rfl
  · rw [if_neg ha] at h; cases h
theorem opK_two (op : Int) (p q : Int × Bool) (h : (opK op [p, q]).f = 0) : asksK op p.1 q.1 = true ∧ opK op [p, q] = ⟨givesK op p.1 q.1, mayK op ((if p.2 = true then 1 else 0) + (if q.2 = true then 1 else 0)), 0⟩ := by
  obtain ⟨k, n⟩ := p
  obtain ⟨k', n'⟩ := q
  unfold opK at h ⊢
  have e0 : fstK [(k, n), (k', n')] 0 = k := rfl
  have e1 : fstK [(k, n), (k', n')] 1 = k' := rfl
  rw [e0, e1] at h ⊢
  by_cases ha : asksK op k k' = true
  · refine ⟨ha, ?_⟩
    rw [if_pos ha]
    cases n <;> cases n' <;> rfl
  · rw [if_neg ha] at h; cases h
theorem sound_one (op : Int) (ho : op = 3 ∨ op = 4 ∨ op = 17 ∨ op = 18) (r : RE) (p : R3) (h : SoundR r p) (hf : (opK op [(p.k, p.n)]).f = 0) : SoundR (combE op [r]) (opK op [(p.k, p.n)]) := by
  obtain ⟨hask, e⟩ := opK_one op (p.k, p.n) hf
  rw [e]
  simp only [combE]
  rcases h with ⟨h0, hv, hn⟩ | h
  · rw [if_neg (by rw [h0]; decide)]
    obtain ⟨v, f⟩ := r
    simp only at hv hn ⊢
    rcases ho with rfl | rfl | rfl | rfl
    · have hfit : fitE v 2 = true := fit_of v p.k 2 ((Bool.and_eq_true _ _).mp (show (fitsK p.k 2 && fitsK 0 2) = true from hask)).1 (by decide) hv
      unfold op1E
      rw [if_pos rfl, if_pos hfit]
      split
      · rename_i hk; exact sound_nul _ (by show mayK 3 _ = true; rw [hn hk]; rfl)
      · exact sound_num _ _ rfl
    · have hfit : fitE v 1 = true := fit_of v p.k 1 ((Bool.and_eq_true _ _).mp (show (fitsK p.k 1 && fitsK 0 1) = true from hask)).1 (by decide) hv
      unfold op1E
      rw [if_neg (by decide), if_pos rfl, if_pos hfit]
      refine sound_tol _ _ rfl (fun ht => ?_)
      have hk1 : v.k ≠ 1 := (trT_one v).1 (by omega)
      have hk : v.k = 0 := by
        simp only [fitE, Bool.or_eq_true, beq_iff_eq] at hfit
        omega
      show mayK 4 _ = true
      rw [hn hk]; rfl
    · exact sound_boo _ _ rfl
    · have hfit : fitE v 4 = true := fit_of v p.k 4 ((Bool.and_eq_true _ _).mp (show (fitsK p.k 4 && fitsK 0 4) = true from hask)).1 (by decide) hv
      unfold op1E
      rw [if_neg (by decide), if_neg (by decide), if_neg (by decide), if_pos hfit]
      split
      · rename_i hk; exact sound_nul _ (by show mayK 18 _ = true; rw [hn hk]; rfl)
      · exact sound_ok ⟨fun _ => rfl, fun h => by cases h⟩
  · have hne : r.f ≠ 0 := by rcases h with h | h | h <;> rw [h] <;> decide
    rw [if_pos hne]
    exact sound_bad h
theorem tol_null (op : Int) (a b : Vl) (p q : R3) (ha : a.k ≠ 1 → a.k = 0) (hb : b.k ≠ 1 → b.k = 0) (hna : a.k = 0 → p.n = true) (hnb : b.k = 0 → q.n = true) (t : Int) (ht : t = 1 → trT a = 1 ∨ trT b = 1) (h : t = 1) : (decide (0 < (if p.n = true then 1 else 0) + (if q.n = true then 1 else 0))) = true := by
  rcases ht h with h | h
  · rw [hna (ha ((trT_one a).1 h))]
    rw [decide_eq_true_eq, if_pos rfl]; omega
  · rw [hnb (hb ((trT_one b).1 h))]
    rw [decide_eq_true_eq, if_pos (rfl : true = true)]; omega
theorem may_pos (p q : Bool) (h : p = true ∨ q = true) : decide (0 < (if p = true then 1 else 0) + (if q = true then 1 else 0)) = true := by
  cases p <;> cases q <;> simp_all
theorem sound_two (op : Int) (ho : 3 ≤ op ∧ op ≤ 20 ∧ ¬ (op = 3 ∨ op = 4 ∨ op = 17 ∨ op = 18)) (r s : RE) (p q : R3) (hr : SoundR r p) (hs : SoundR s q) (hpk : 0 ≤ p.k) (hqk : 0 ≤ q.k) (hf : (opK op [(p.k, p.n), (q.k, q.n)]).f = 0) :
    SoundR (combE op [r, s]) (opK op [(p.k, p.n), (q.k, q.n)]) := by
  obtain ⟨hask, e⟩ := opK_two op (p.k, p.n) (q.k, q.n) hf
  rw [e]
  simp only [combE]
  simp only at hask
  rcases hr with ⟨h0, hv, hn⟩ | h
  · rw [if_neg (by rw [h0]; decide)]
    obtain ⟨a, f⟩ := r
    simp only at hv hn h0 ⊢
    have hsh : shortE op a = true → SoundR (okE a) ⟨givesK op p.k q.k, mayK op ((if p.n = true then 1 else 0) + (if q.n = true then 1 else 0)), 0⟩ := by
      intro h
      unfold shortE at h
      by_cases h15 : op = 15
      · rw [if_pos h15] at h
        simp only [Bool.and_eq_true, beq_iff_eq] at h
        subst h15
        exact sound_ok ⟨fun _ => h.1, fun hh => by rw [h.1] at hh; cases hh⟩
      rw [if_neg h15] at h
      by_cases h16 : op = 16
      · rw [if_pos h16] at h
        simp only [Bool.and_eq_true, beq_iff_eq] at h
        subst h16
        exact sound_ok ⟨fun _ => h.1, fun hh => by rw [h.1] at hh; cases hh⟩
      rw [if_neg h16] at h
      by_cases h20 : op = 20
      · rw [if_pos h20] at h
        subst h20
        simp only [Bool.not_eq_true', beq_eq_false_iff_ne] at h
        refine sound_ok ⟨fun _ => ?_, fun hh => absurd hh h⟩
        have hf2 : fitsK p.k q.k = true := hask
        simp only [fitsK, Bool.or_eq_true, beq_iff_eq] at hf2
        have := hv h
        show a.k = if p.k < q.k then q.k else p.k
        split <;> omega
      · rw [if_neg h20] at h; cases h
    by_cases hshort : shortE op a = true
    · rw [if_pos hshort]; exact hsh hshort
    rw [if_neg hshort]
    clear hsh
    rcases hs with ⟨h0', hv', hn'⟩ | h
    · rw [if_neg (by rw [h0']; decide)]
      obtain ⟨b, f'⟩ := s
      simp only at hv' hn' ⊢
      unfold op2E
      by_cases har : op = 5 ∨ op = 6 ∨ op = 7 ∨ op = 8
      · rw [if_pos har]
        have hask2 : (fitsK p.k 2 && fitsK q.k 2) = true := by
          unfold asksK at hask; rw [if_pos (.inr har)] at hask; exact hask
        rw [Bool.and_eq_true] at hask2
        rw [if_pos (by rw [fit_of a p.k 2 hask2.1 (by decide) hv, fit_of b q.k 2 hask2.2 (by decide) hv']; rfl)]
        have hg : givesK op p.k q.k = 2 := by unfold givesK; rw [if_pos (by omega)]
        have hm : ∀ x, mayK op x = decide (0 < x) := fun x => by unfold mayK; rw [if_neg (by omega), if_neg (by omega)]
        split
        · rename_i hz
          refine sound_nul _ ?_
          rw [hm]
          exact may_pos _ _ (hz.imp hn hn')
        · exact sound_ar _ _ _ _ hg
      rw [if_neg har]
      by_cases h15 : op = 15
      · rw [if_pos h15]
        have hask2 : (fitsK p.k 1 && fitsK q.k 1) = true := by
          unfold asksK at hask; rw [if_neg (by omega), if_pos (by omega)] at hask; exact hask
        rw [Bool.and_eq_true] at hask2
        have fa := fit_of a p.k 1 hask2.1 (by decide) hv
        have fb := fit_of b q.k 1 hask2.2 (by decide) hv'
        rw [if_pos (by rw [fa, fb]; rfl)]
        simp only [fitE, Bool.or_eq_true, beq_iff_eq] at fa fb
        refine sound_tol _ _ (by subst h15; rfl) (fun ht => ?_)
        rw [show mayK op ((if p.n = true then 1 else 0) + (if q.n = true then 1 else 0)) = decide (0 < (if p.n = true then 1 else 0) + (if q.n = true then 1 else 0)) by subst h15; rfl]
        refine may_pos _ _ ?_
        unfold andT at ht
        by_cases c0 : trT a = 0 ∨ trT b = 0
        · rw [if_pos c0] at ht; cases ht
        · rw [if_neg c0] at ht
          by_cases c1 : trT a = 1 ∨ trT b = 1
          · rcases c1 with c | c
            · left; exact hn (by have := (trT_one a).1 c; omega)
            · right; exact hn' (by have := (trT_one b).1 c; omega)
          · rw [if_neg c1] at ht; cases ht
      rw [if_neg h15]
      by_cases h16 : op = 16
      · rw [if_pos h16]
        have hask2 : (fitsK p.k 1 && fitsK q.k 1) = true := by
          unfold asksK at hask; rw [if_neg (by omega), if_pos (by omega)] at hask; exact hask
        rw [Bool.and_eq_true] at hask2
        have fa := fit_of a p.k 1 hask2.1 (by decide) hv
        have fb := fit_of b q.k 1 hask2.2 (by decide) hv'
        rw [if_pos (by rw [fa, fb]; rfl)]
        simp only [fitE, Bool.or_eq_true, beq_iff_eq] at fa fb
        refine sound_tol _ _ (by subst h16; rfl) (fun ht => ?_)
        rw [show mayK op ((if p.n = true then 1 else 0) + (if q.n = true then 1 else 0)) = decide (0 < (if p.n = true then 1 else 0) + (if q.n = true then 1 else 0)) by subst h16; rfl]
        refine may_pos _ _ ?_
        unfold orT at ht
        by_cases c0 : trT a = 2 ∨ trT b = 2
        · rw [if_pos c0] at ht; cases ht
        · rw [if_neg c0] at ht
          by_cases c1 : trT a = 1 ∨ trT b = 1
          · rcases c1 with c | c
            · left; exact hn (by have := (trT_one a).1 c; omega)
            · right; exact hn' (by have := (trT_one b).1 c; omega)
          · rw [if_neg c1] at ht; cases ht
      rw [if_neg h16]
      by_cases h19 : op = 19
      · rw [if_pos h19]
        have hask2 : (fitsK p.k 4 && fitsK q.k 4) = true := by
          unfold asksK at hask; rw [if_neg (by omega), if_neg (by omega), if_pos (by omega)] at hask; exact hask
        rw [Bool.and_eq_true] at hask2
        unfold joiE
        rw [if_pos (by rw [fit_of a p.k 4 hask2.1 (by decide) hv, fit_of b q.k 4 hask2.2 (by decide) hv']; rfl)]
        subst h19
        split
        · rename_i hz
          exact sound_nul _ (may_pos _ _ (hz.imp hn hn'))
        · split
          · exact sound_bad (.inr (.inr rfl))
          · exact sound_ok ⟨fun _ => rfl, fun h => by cases h⟩
      rw [if_neg h19]
      by_cases h20 : op = 20
      · rw [if_pos h20]
        subst h20
        unfold shortE at hshort
        rw [if_neg (by decide), if_neg (by decide), if_pos rfl] at hshort
        have ha0 : a.k = 0 := by simpa using hshort
        have hf2 : fitsK p.k q.k = true := hask
        simp only [fitsK, Bool.or_eq_true, beq_iff_eq] at hf2
        refine sound_ok ⟨fun hb => ?_, fun hb => ?_⟩
        · have := hv' hb
          show b.k = if p.k < q.k then q.k else p.k
          have hq : q.k ≠ 0 := by omega
          split <;> omega
        · show decide ((if p.n = true then 1 else 0) + (if q.n = true then 1 else 0) = 2) = true
          rw [hn ha0, hn' hb]; rfl
      rw [if_neg h20]
      have hask2 : fitsK p.k q.k = true := by
        unfold asksK at hask; rw [if_neg (by omega), if_neg (by omega), if_neg (by omega), if_neg (by omega)] at hask; exact hask
      have hg : givesK op p.k q.k = 1 := by unfold givesK; rw [if_neg (by omega), if_neg (by omega), if_neg (by omega)]
      have hm : ∀ x, mayK op x = decide (0 < x) := fun x => by unfold mayK; rw [if_neg (by omega), if_neg (by omega)]
      unfold cmpE
      by_cases hz : a.k = 0 ∨ b.k = 0
      · rw [if_pos hz]
        refine sound_nul _ ?_
        rw [hm]
        exact may_pos _ _ (hz.imp hn hn')
      · rw [if_neg hz, if_pos (two_fit a b _ _ hask2 hv hv' (fun h => hz (.inl h)) (fun h => hz (.inr h)))]
        exact sound_boo _ _ hg
    · have hne : s.f ≠ 0 := by rcases h with h | h | h <;> rw [h] <;> decide
      rw [if_pos hne]
      exact sound_bad h
  · have hne : r.f ≠ 0 := by rcases h with h | h | h <;> rw [h] <;> decide
    rw [if_pos hne]
    exact sound_bad h
theorem cellsF_zero : ∀ (r : List Vl) (l : List Cl), cellsF r l = 0 → ∀ (j : Nat) (v : Vl) (c : Cl), r[j]? = some v → l[j]? = some c → cellF v c = 0
  | [], _, _, j, v, c, h, _ => by simp at h
  | x :: r, [], _, j, v, c, _, h => by simp at h
  | x :: r, y :: l, h, j, v, c, h1, h2 => by
    simp only [cellsF] at h
    by_cases h0 : cellF x y = 0
    · rw [if_neg (by rw [h0]; decide)] at h
      cases j with
      | zero =>
        simp only [List.getElem?_cons_zero, Option.some.injEq] at h1 h2
        rw [← h1, ← h2]; exact h0
      | succ j => exact cellsF_zero r l h j v c (by simpa using h1) (by simpa using h2)
    · rw [if_pos h0] at h; exact absurd h h0
theorem cell_of (v : Vl) (c : Cl) (hc : 1 ≤ c.k) (h : cellF v c = 0) : OfK v ⟨c.k, c.nl, 0⟩ := by
  unfold cellF at h
  by_cases h0 : chkV v ≠ 0
  · rw [if_pos h0] at h; exact absurd h h0
  rw [if_neg h0] at h
  by_cases h1 : v.k = c.k
  · refine ⟨fun _ => h1, fun hz => ?_⟩
    omega
  rw [if_neg h1] at h
  by_cases h2 : v.k = 0
  · rw [if_pos h2] at h
    refine ⟨fun hh => absurd h2 hh, fun _ => ?_⟩
    by_cases h3 : c.nl = true
    · exact h3
    · rw [if_neg h3] at h; cases h
  · rw [if_neg h2] at h; cases h
theorem kF_zero (cs : List Cl) : ∀ (l : List T), kF cs l = 0 → ∀ t ∈ l, (kT cs t).f = 0
  | [], _, t, h => by cases h
  | u :: l, hf, t, h => by
    simp only [kF] at hf
    by_cases hu : (kT cs u).f = 0
    · rw [if_neg (by rw [hu]; decide)] at hf
      rcases List.mem_cons.1 h with rfl | hm
      · exact hu
      · exact kF_zero cs l hf t hm
    · rw [if_pos hu] at hf; exact absurd hf hu
/-- What has a kind has values of that kind. -/
theorem sound_ev (cs : List Cl) (row : List Vl) (hR : rowR row cs = 0) : ∀ (n : Nat) (t : T), t.deep ≤ n → formT t = 0 → (kT cs t).f = 0 → SoundR (evT cs row t) (kT cs t) := by
  have hc : colsR cs = 0 := by
    unfold rowR at hR
    by_cases hc : colsR cs = 0
    · exact hc
    · rw [if_pos hc] at hR; exact absurd hR hc
  unfold rowR at hR
  rw [if_neg (by rw [hc]; decide)] at hR
  have hl : row.length = cs.length := by
    by_cases hl : row.length = cs.length
    · exact hl
    · rw [if_pos hl] at hR; cases hR
  rw [if_neg (by simpa using hl)] at hR
  have hks := colsR_rng cs hc
  intro n
  induction n with
  | zero => rintro t h _ _; have := T.deep_eq t; omega
  | succ n ih =>
    rintro ⟨d, l⟩ hdp hf hk
    obtain ⟨hn, hlF⟩ := formT_open d l hf
    obtain ⟨⟨o1, o2⟩, hp, _, hv⟩ := nodeF_open d _ hn
    have hdl : deepL l ≤ n := by simp only [T.deep] at hdp; omega
    simp only [evT]
    by_cases h1 : d.op = 1
    · rw [if_pos h1]
      have e : kT cs (.mk d l) = ⟨d.k, d.k == 0, 0⟩ := by simp only [kT]; rw [if_pos h1]
      rw [e]
      exact sound_ok ⟨fun _ => rfl, fun h => by show (d.k == 0) = true; simpa using h⟩
    rw [if_neg h1]
    by_cases h2 : d.op = 2
    · rw [if_pos h2]
      have e : kT cs (.mk d l) = colK d.n cs := by simp only [kT]; rw [if_neg h1, if_pos h2]
      rw [e] at hk ⊢
      unfold colK at hk ⊢
      unfold colE
      by_cases hneg : placeN d.n cs 0 < 0
      · rw [if_pos hneg] at hk; cases hk
      rw [if_neg hneg] at hk
      rw [if_neg hneg, if_neg hneg]
      cases hcj : cs[(placeN d.n cs 0).toNat]? with
      | none => rw [hcj] at hk; cases hk
      | some c =>
        have hj := (List.getElem?_eq_some_iff.1 hcj).1
        have hrj : row[(placeN d.n cs 0).toNat]? = some (row[(placeN d.n cs 0).toNat]'(by omega)) := List.getElem?_eq_getElem _
        rw [hrj]
        exact sound_ok (cell_of _ c (hks c (List.mem_of_getElem? hcj)).1 (cellsF_zero row cs hR _ _ c hrj hcj))
    rw [if_neg h2]
    have e : kT cs (.mk d l) = if kF cs l ≠ 0 then ⟨0, false, kF cs l⟩ else opK d.op (kP cs l) := by simp only [kT]; rw [if_neg h1, if_neg h2]
    rw [e] at hk ⊢
    have hkF : kF cs l = 0 := by
      by_cases h : kF cs l = 0
      · exact h
      · rw [if_pos h] at hk; exact absurd hk h
    rw [if_neg (by rw [hkF]; decide)] at hk ⊢
    have hS : ∀ t ∈ l, SoundR (evT cs row t) (kT cs t) := fun t ht => by
      obtain ⟨j, hj⟩ := List.getElem?_of_mem ht
      exact ih t (Nat.le_trans (deepK_mem hj) hdl) (formL_mem l hlF t ht) (kF_zero cs l hkF t ht)
    have hR0 : ∀ t ∈ l, 0 ≤ (kT cs t).k := fun t ht => (kT_rng cs hks t (formL_mem l hlF t ht)).1
    rw [evL_map]
    rw [kP_map] at hk ⊢
    unfold partsN at hp
    rw [if_neg (by omega)] at hp
    by_cases ho : d.op = 3 ∨ d.op = 4 ∨ d.op = 17 ∨ d.op = 18
    · rw [if_pos ho] at hp
      match l, hp, hS, hR0, hk with
      | [t], _, hS, hR0, hk => exact sound_one d.op ho _ _ (hS t (by simp)) hk
    · rw [if_neg ho] at hp
      match l, hp, hS, hR0, hk with
      | [t, u], _, hS, hR0, hk => exact sound_two d.op ⟨by omega, o2, ho⟩ _ _ _ _ (hS t (by simp)) (hS u (by simp)) (hR0 t (by simp)) (hR0 u (by simp)) hk
end Go.Proofs.YtfedlchncngafaaGreatDoor

/-! CONTRACTS of package eval's copied and Eval. CONDITIONS: each theorem's own hypotheses; the tables, package lex's signs and package expr's forms hold what their initialisers lay ('XEnv'). -/
namespace Go.Proofs.YtfedlchncngafaaGreatDoor
open Go.RowKit
set_option linter.unusedVariables false
set_option maxRecDepth 100000

theorem eclone_any (l : List UInt8) (w : World) (hl : l.length ≤ 1000000) :
    Calls Tryz.prog 103 #[.string (str l)] w fun e w' => e = .returned (.string (str l)) ∧ Below w.heap.size w w' := by
  have hsz := str_size l
  have cC := fun W => Any.stringslite_Clone Tryz.laysClone (str l) W (by omega)
  generalize str l = s at *
  clear hsz
  go_enter Tryz.func103, Tryz.ntmps103
  go_wp2_with fail
  refine (cC _).mono ?_
  rintro e w1 ⟨rfl, hb⟩
  clear cC
  go_wp2_with fail
  go_ret
  exact ⟨rfl, hb⟩
set_option maxHeartbeats 4000000 in
theorem copied_any (v : Vl) (hl : v.s.length ≤ 1000000) (w : World) :
    Calls Tryz.prog 69 #[valV v] w fun e w' => e = .returned (valV v) ∧ Below w.heap.size w w' := by
  obtain ⟨k, i, b, s⟩ := v
  have cC := fun W => eclone_any s W hl
  unfold valV
  simp only
  generalize str s = S at *
  obtain ⟨z0, z1, hb2⟩ := two_new w #[.int .i64 k, .int .i64 i, .int .u64 b, .string S] #[.int .i64 0, .int .i64 0, .int .u64 0, .string ⟨#[]⟩] 24 24
  generalize hw2 : (w.alloc (.cells #[.int .i64 k, .int .i64 i, .int .u64 b, .string S] 24)).alloc (.cells #[.int .i64 0, .int .i64 0, .int .u64 0, .string ⟨#[]⟩] 24) = w2 at z0 z1 hb2
  obtain ⟨⟨p0, p1, p2, p3⟩, g0, g1, g2, g3⟩ := z0.four
  clear hl
  go_enter Tryz.func69, Tryz.ntmps69
  go_upto_region 1 with fail
  try rw [hw2]
  clear hw2
  go_wp2_with fail
  refine (cC _).mono ?_
  rintro e w3 ⟨rfl, hb3⟩
  have y0 := z0.call hb3
  have y1 := z1.call hb3
  have hb03 := below_stepE hb2 hb2.size hb3
  clear cC hb3 z0 z1 hb2 p0 p1 p2 p3 g0 g1 g2 g3
  have hne : w.heap.size ≠ w.heap.size + 1 := by omega
  have y0' := y0.set 3 (.string S)
  have y1' := y1.other ⟨w.heap.size, 3, none⟩ (.string S) (by simp)
  have hb04 := hb03.setCell (p := ⟨w.heap.size, 3, none⟩) (Nat.le_refl _) (.string S)
  obtain ⟨_, g0, g1, g2, g3⟩ := y0.four
  simp only [List.set_cons_succ, List.set_cons_zero] at y0'
  go_upto_region 2 with fail
  generalize hw4 : w3.setCell ⟨w.heap.size, 3, none⟩ (.string S) = w4 at *
  clear hw4 y0 y1 hb03 g0 g1 g2 g3
  obtain ⟨⟨p0, p1, p2, p3⟩, _⟩ := y0'.four
  obtain ⟨⟨q0, q1, q2, q3⟩, f0, f1, f2, f3⟩ := y1'.four
  have hfin := fun a b c d => below_set4 (a := a) (b := b) (c := c) (d := d) hb04 (Nat.le_succ _)
  go_wp2_with fail
  exact bodyPost_ret (results_val1 rfl _ _ (w.heap.size + 1) _ _ _ _ rfl y1'.set4) rfl ⟨rfl, hfin _ _ _ _⟩
structure EvIn (w : World) (t : T) (ao : Option Addr) (cap : Nat) (cs : List Cl) (aoc : Option Addr) (capc : Nat) (row : List Vl) (aor : Option Addr) (capr : Nat) : Prop where
  A : AtT w t ao
  n1 : t.kids.length ≤ cap
  n2 : cap ≤ 9223372036854775807
  C : Cols w aoc cs
  c1 : cs.length ≤ capc
  c2 : capc ≤ 9223372036854775807
  V : Vals w aor row
  v1 : row.length ≤ capr
  v2 : capr ≤ 9223372036854775807
  X : XEnv w
theorem EvIn.keep {w w' : World} {t : T} {ao : Option Addr} {cap : Nat} {cs : List Cl} {aoc : Option Addr} {capc : Nat} {row : List Vl} {aor : Option Addr} {capr : Nat} (h : EvIn w t ao cap cs aoc capc row aor capr) (hb : Below w.heap.size w w') : EvIn w' t ao cap cs aoc capc row aor capr :=
  ⟨h.A.keep hb, h.n1, h.n2, h.C.keep hb, h.c1, h.c2, h.V.keep hb, h.v1, h.v2, h.X.keep hb⟩
set_option maxHeartbeats 16000000 in
theorem eval_any (t : T) (ao : Option Addr) (cap : Nat) (cs : List Cl) (aoc : Option Addr) (capc : Nat) (row : List Vl) (aor : Option Addr) (capr : Nat) (w : World) (h : EvIn w t ao cap cs aoc capc row aor capr) :
    Calls Tryz.prog 32 #[exprV t ao cap, .slice aoc cs.length capc, .slice aor row.length capr] w fun e w' => e = .returned (.tuple #[valV (evalR t cs row).v, .int .i64 (evalR t cs row).f]) ∧ Below w.heap.size w w' := by
  have cK := fun W (hW : Below w.heap.size w W) => exprCheck_any t ao cap W (h.keep hW).A (Nat.le_trans h.n1 h.n2) (h.keep hW).X
  have cW := fun W (hW : Below w.heap.size w W) => row_any row aor capr cs aoc capc W h.v1 h.v2 (h.keep hW).V h.c1 h.c2 (h.keep hW).C (h.keep hW).X.tabs (h.keep hW).X.sw
  have cM := fun W (hf : formT t = 0) (hW : Below w.heap.size w W) => rdy_any t.deep t ao cap W (Nat.le_refl _) hf (h.keep hW).A h.n1 h.n2
  have hE0 : exprR t = 0 → formT t = 0 := fun he => exprR_form t he
  have hEv : exprR t = 0 → rowR row cs = 0 → OkR (evT cs row t) ∧ Says w (.slice aoc cs.length capc) (.slice aor row.length capr) (readyV t) (evT cs row t) := fun he hr => by
    obtain ⟨hok, hc0, hlen⟩ := rowR_ok row cs h.V.1 hr
    have hF := atT_fit t.deep t ao (Nat.le_refl _) h.A
    exact ⟨ok_ev cs row hok t.deep t (Nat.le_refl _) hF (hE0 he), says_ev w cs row aoc capc aor capr ⟨h.X.tabs, h.C, h.V, Nat.le_trans h.c1 h.c2, hlen, hok⟩ t.deep t (Nat.le_refl _) hF (hE0 he)⟩
  have hR : evalR t cs row = if exprR t ≠ 0 then badE (exprR t) else if rowR row cs ≠ 0 then badE (rowR row cs) else evT cs row t := rfl
  generalize evalR t cs row = R at *
  have HR := Lib.hid hR
  have HE0 := Lib.hid hE0
  have HEV := Lib.hid hEv
  clear hR hE0 hEv h
  generalize evT cs row t = Q at *
  generalize rowR row cs = rf at *
  generalize exprR t = ef at *
  obtain ⟨z0, z1, hb2⟩ := two_new w #[.int .i64 t.nd.op, .int .i64 t.nd.k, .int .i64 t.nd.i, .int .u64 t.nd.b, .string (str t.nd.t), .string (str t.nd.n), .slice ao t.kids.length cap] #[.int .i64 0, .int .i64 0, .int .u64 0, .string ⟨#[]⟩] 27 24
  simp only [exprV_cells] at cK cM ⊢
  obtain ⟨ty, rv, hiv⟩ := ready_iface t
  rw [hiv] at HEV
  simp only [hiv] at cM
  clear hiv
  generalize t.kids.length = L at *
  have HF : Hid (ef = 0 → formT t = 0) := HE0
  clear HE0
  generalize formT t = ft at *
  obtain ⟨⟨op, k, i, b, s, nm⟩, l⟩ := t
  simp only [T.nd] at *
  generalize str s = S at *
  generalize str nm = N at *
  generalize cs.length = m at *
  generalize row.length = mr at *
  generalize hw2 : (w.alloc (.cells #[.int .i64 op, .int .i64 k, .int .i64 i, .int .u64 b, .string S, .string N, .slice ao L cap] 27)).alloc (.cells #[.int .i64 0, .int .i64 0, .int .u64 0, .string ⟨#[]⟩] 24) = w2 at z0 z1 hb2
  have c1 := cK w2 hb2
  obtain ⟨p0, p1, p2, p3, p4, p5, p6⟩ := z0.cells7
  have hrr : w.heap.size ≤ w.heap.size + 1 := by omega
  go_enter Tryz.func32, Tryz.ntmps32
  go_upto_region 1 with fail
  try rw [hw2]
  clear hw2
  go_wp2_with fail
  refine c1.mono ?_
  rintro e w3 ⟨rfl, hb3⟩
  have hb03 := below_stepE hb2 hb2.size hb3
  have y0 := z0.call hb3
  have y1 := z1.call hb3
  clear c1 cK hb3 hb2 z0 z1 p0 p1 p2 p3 p4 p5 p6
  by_cases he : ef = 0
  · subst he
    have c2 := cW w3 hb03
    have HRa : Hid (R = if rf ≠ 0 then badE rf else Q) := by have := HR.out; rw [if_neg (by decide)] at this; exact this
    clear HR
    go_wp2_with fail
    refine c2.mono ?_
    rintro e w4 ⟨rfl, hb4⟩
    have hb04 := below_stepE hb03 hb03.size hb4
    have x0 := y0.call hb4
    have x1 := y1.call hb4
    clear c2 cW hb4 hb03 y0 y1
    by_cases hr : rf = 0
    · subst hr
      obtain ⟨hok, hsay⟩ := HEV.out (by trivial) (by trivial)
      obtain ⟨ty', rv', K, hiv, hn, hm, hc, hC⟩ := hsay
      obtain ⟨rfl, rfl⟩ : ty' = ty ∧ rv' = rv := by simp at hiv; exact ⟨hiv.1.symm, hiv.2.symm⟩
      have HR2 : Hid (R = Q) := by have := HRa.out; rw [if_neg (by decide)] at this; exact this
      have cM2 := cM w4 (HF.out (by trivial)) hb04
      have cC := fun W => copied_any Q.v (by have := (chkV_open Q.v hok.v.chk).2.2.1; omega) W
      clear HRa HEV hiv cM HF hok
      obtain ⟨⟨qk, qi, qb, qs⟩, qf⟩ := Q
      unfold valV at hC cC
      simp only at hC cC
      obtain ⟨QS, hQS⟩ : ∃ QS, str qs = QS := ⟨_, rfl⟩
      simp only [hQS] at hC cC
      have HQS := Lib.hid hQS
      clear hQS
      obtain ⟨p0, p1, p2, p3, p4, p5, p6⟩ := x0.cells7
      go_wp2_with fail
      refine cM2.mono ?_
      rintro e w5 ⟨rfl, hb5⟩
      have hb05 := below_stepE hb04 hb04.size hb5
      have v1 := x1.call hb5
      have cS := hC w5 hb05
      clear cM2 hb5 hb04 x0 x1 hC p0 p1 p2 p3 p4 p5 p6
      go_wp2_with fail
      refine cS.mono ?_
      rintro e w6 ⟨rfl, hb6⟩
      have hb06 := below_stepE hb05 hb05.size hb6
      have u1 := v1.call hb6
      clear cS hb6 hb05 v1
      have yA := Blk.new w6 #[.int .i64 qk, .int .i64 qi, .int .u64 qb, .string QS] 24
      have hb67 : Below w6.heap.size w6 (w6.alloc (.cells #[.int .i64 qk, .int .i64 qi, .int .u64 qb, .string QS] 24)) := (Below.refl _ _).alloc (Nat.le_refl _) _
      have u2 := u1.call hb67
      have hb07 := below_stepE hb06 hb06.size hb67
      go_upto_region 8 with fail
      generalize hw7 : w6.alloc (.cells #[.int .i64 qk, .int .i64 qi, .int .u64 qb, .string QS] 24) = w7 at *
      clear hw7 u1 hb06 hb67
      generalize w6.heap.size = g at *
      obtain ⟨⟨a0, a1, a2, a3⟩, _⟩ := yA.four
      go_wp2_with fail
      refine (cC _).mono ?_
      rintro e w8 ⟨rfl, hb8⟩
      have u3 := u2.call hb8
      have hb08 := below_stepE hb07 hb07.size hb8
      clear cC hb8 hb07 u2 yA a0 a1 a2 a3
      obtain ⟨⟨q0, q1, q2, q3⟩, f0, f1, f2, f3⟩ := u3.four
      have hfin := fun a b c d => below_set4 (a := a) (b := b) (c := c) (d := d) hb08 hrr
      go_wp2_with fail
      exact bodyPost_ret (results_val rfl _ _ (w.heap.size + 1) _ _ _ _ rfl u3.set4) rfl ⟨by rw [HR2.out, ← HQS.out]; rfl, hfin _ _ _ _⟩
    · have hr1 : (rf != 0) = true := by simpa using hr
      have HR2 : Hid (R = badE rf) := by have := HRa.out; rw [if_pos hr] at this; exact this
      clear HRa HEV cM HF
      obtain ⟨⟨q0, q1, q2, q3⟩, f0, f1, f2, f3⟩ := x1.four
      have hfin := fun a b c d => below_set4 (a := a) (b := b) (c := c) (d := d) hb04 hrr
      go_wp2_with fail
      exact bodyPost_ret (results_val rfl _ _ (w.heap.size + 1) _ _ _ _ rfl x1.set4) rfl ⟨by rw [HR2.out]; rfl, hfin _ _ _ _⟩
  · have he1 : (ef != 0) = true := by simpa using he
    have HR2 : Hid (R = badE ef) := by have := HR.out; rw [if_pos he] at this; exact this
    clear HR HEV cM cW HF
    obtain ⟨⟨q0, q1, q2, q3⟩, f0, f1, f2, f3⟩ := y1.four
    have hfin := fun a b c d => below_set4 (a := a) (b := b) (c := c) (d := d) hb03 hrr
    go_wp2_with fail
    exact bodyPost_ret (results_val rfl _ _ (w.heap.size + 1) _ _ _ _ rfl y1.set4) rfl ⟨by rw [HR2.out]; rfl, hfin _ _ _ _⟩
end Go.Proofs.YtfedlchncngafaaGreatDoor

/-! PLAIN: what the document's answer says of sums, parts, nulls, short ways and lengths. CONDITIONS: none. -/
namespace Go.Proofs.YtfedlchncngafaaGreatDoor
open Go.RowKit
set_option linter.unusedVariables false

def nA : List UInt8 := [97]
def nB : List UInt8 := [98]
def csAB : List Cl := [⟨nA, 2, false⟩, ⟨nB, 2, false⟩]
def rowAB (a b : Int) : List Vl := [intV a, intV b]
def in64 (x : Int) : Prop := -9223372036854775808 ≤ x ∧ x ≤ 9223372036854775807
instance (x : Int) : Decidable (in64 x) := inferInstanceAs (Decidable (_ ∧ _))
theorem numE_in {x : Int} (h : in64 x) : numE x = okE (intV x) := if_pos h
theorem numE_off {x : Int} (h : ¬ in64 x) : numE x = badE 6 := if_neg h
theorem ev_colA (a b : Int) : evT csAB (rowAB a b) (colT nA) = okE (intV a) := by
  simp only [colT, evT]; rw [if_neg (by decide), if_pos trivial]; rfl
theorem ev_colB (a b : Int) : evT csAB (rowAB a b) (colT nB) = okE (intV b) := by
  simp only [colT, evT]; rw [if_neg (by decide), if_pos trivial]; rfl
theorem ev_op1 (cs : List Cl) (row : List Vl) (op : Int) (h : 3 ≤ op) (a : T) : evT cs row (opN op [a]) = combE op [evT cs row a] := by
  simp only [opN, evT, evL]; rw [if_neg (by omega), if_neg (by omega)]
theorem ev_op2 (cs : List Cl) (row : List Vl) (op : Int) (h : 3 ≤ op) (a b : T) : evT cs row (opN op [a, b]) = combE op [evT cs row a, evT cs row b] := by
  simp only [opN, evT, evL]; rw [if_neg (by omega), if_neg (by omega)]
theorem comb2 (op : Int) (p q : RE) : combE op [p, q] = if p.f ≠ 0 then badE p.f else if shortE op p.v = true then okE p.v else if q.f ≠ 0 then badE q.f else op2E op p.v q.v := rfl
theorem comb1 (op : Int) (p : RE) : combE op [p] = if p.f ≠ 0 then badE p.f else op1E op p.v := rfl
theorem comb2_ok (op : Int) (v w : Vl) (hs : shortE op v = false) : combE op [⟨v, 0⟩, ⟨w, 0⟩] = op2E op v w := by
  rw [comb2]
  simp only
  rw [if_neg (by decide), hs, if_neg (by decide), if_neg (by decide)]
theorem comb2_bad (op f : Int) (v : Vl) (h : f ≠ 0) (r : RE) : combE op [⟨v, f⟩, r] = badE f := by
  rw [comb2, if_pos h]
theorem comb1_bad (op f : Int) (v : Vl) (h : f ≠ 0) : combE op [⟨v, f⟩] = badE f := by
  rw [comb1, if_pos h]
theorem comb2_badR (op : Int) (v : Vl) (hs : shortE op v = false) (u : Vl) (f : Int) (h : f ≠ 0) : combE op [⟨v, 0⟩, ⟨u, f⟩] = badE f := by
  rw [comb2]
  simp only
  rw [if_neg (by decide), hs, if_neg (by decide), if_pos h]
theorem comb_ar (op a b : Int) (h : op = 5 ∨ op = 6 ∨ op = 7 ∨ op = 8) : combE op [okE (intV a), okE (intV b)] = arE op a b := by
  have hs : shortE op (intV a) = false := by
    unfold shortE; rw [if_neg (by omega), if_neg (by omega), if_neg (by omega)]
  refine (comb2_ok op (intV a) (intV b) hs).trans ?_
  unfold op2E
  rw [if_pos h, if_pos (by rfl), if_neg (by show ¬((2 : Int) = 0 ∨ (2 : Int) = 0); decide)]
  rfl
theorem comb_badL (op : Int) (f : Int) (h : f ≠ 0) (r : RE) : combE op [badE f, r] = badE f := comb2_bad op f nulV h r
theorem comb_badR (op : Int) (v : Vl) (hs : shortE op v = false) (f : Int) (h : f ≠ 0) : combE op [okE v, badE f] = badE f := comb2_badR op v hs nulV f h
theorem short_ar (op : Int) (v : Vl) (h : op = 5 ∨ op = 6 ∨ op = 7 ∨ op = 8) : shortE op v = false := by
  unfold shortE; rw [if_neg (by omega), if_neg (by omega), if_neg (by omega)]
/-- A sum. -/
theorem ev_sum (a b : Int) : evT csAB (rowAB a b) (opN 5 [colT nA, colT nB]) = numE (a + b) := by
  rw [ev_op2 _ _ 5 (by decide), ev_colA, ev_colB, comb_ar 5 a b (.inl rfl)]; rfl
theorem ev_back (a b : Int) (ha : in64 a) : evT csAB (rowAB a b) (opN 6 [opN 5 [colT nA, colT nB], colT nB]) = if in64 (a + b) then okE (intV a) else badE 6 := by
  rw [ev_op2 _ _ 6 (by decide), ev_sum, ev_colB]
  by_cases h : in64 (a + b)
  · rw [numE_in h, if_pos h, comb_ar 6 _ b (.inr (.inl rfl))]
    show numE (a + b - b) = _
    rw [show a + b - b = a by omega, numE_in ha]
  · rw [numE_off h, if_neg h, comb_badL 6 6 (by decide)]
/-- A quotient's rest. -/
theorem ev_rest (a b : Int) (ha : in64 a) (hb : in64 b) : evT csAB (rowAB a b) (opN 6 [colT nA, opN 7 [opN 8 [colT nA, colT nB], colT nB]]) =
    if b = 0 then badE 7 else if a = -9223372036854775808 ∧ b = -1 then badE 6 else okE (intV (a.tmod b)) := by
  rw [ev_op2 _ _ 6 (by decide), ev_op2 _ _ 7 (by decide), ev_op2 _ _ 8 (by decide), ev_colA, ev_colB, comb_ar 8 a b (by omega)]
  by_cases h0 : b = 0
  · rw [if_pos h0]
    have : arE 8 a b = badE 7 := by unfold arE; rw [if_neg (by decide), if_neg (by decide), if_neg (by decide), if_pos h0]
    rw [this, comb_badL 7 7 (by decide), comb_badR 6 _ (short_ar 6 _ (by omega)) 7 (by decide)]
  rw [if_neg h0]
  have e8 : arE 8 a b = numE (a.tdiv b) := by unfold arE; rw [if_neg (by decide), if_neg (by decide), if_neg (by decide), if_neg h0]
  rw [e8]
  have hsplit := Int.mul_tdiv_add_tmod a b
  have hr : (a.tmod b).natAbs < b.natAbs := by rw [Int.natAbs_tmod]; exact Nat.mod_lt _ (by omega)
  have hra : (a.tmod b).natAbs ≤ a.natAbs := by rw [Int.natAbs_tmod]; exact Nat.mod_le _ _
  have hq : (a.tdiv b).natAbs = a.natAbs / b.natAbs := Int.natAbs_tdiv a b
  by_cases hm : a = -9223372036854775808 ∧ b = -1
  · rw [if_pos hm]
    have : a.tdiv b = 9223372036854775808 := by rw [hm.1, hm.2]; decide
    rw [this, numE_off (by unfold in64; omega), comb_badL 7 6 (by decide), comb_badR 6 _ (short_ar 6 _ (by omega)) 6 (by decide)]
  rw [if_neg hm]
  have hqin : in64 (a.tdiv b) := by
    unfold in64 at ha hb ⊢
    by_cases h1 : b.natAbs = 1
    · rw [h1, Nat.div_one] at hq
      by_cases h2 : a = -9223372036854775808
      · have hb1 : b = 1 := by omega
        rw [h2, hb1, Int.tdiv_one]; omega
      · omega
    · have : a.natAbs / b.natAbs ≤ a.natAbs / 2 := Nat.div_le_div_left (by omega) (by decide)
      omega
  rw [numE_in hqin, comb_ar 7 _ b (by omega)]
  have hp : in64 (a.tdiv b * b) := by
    have : (a.tdiv b * b).natAbs ≤ a.natAbs := by
      rw [Int.natAbs_mul, hq]; exact Nat.div_mul_le_self _ _
    unfold in64 at ha hb ⊢
    rw [Int.mul_comm] at hsplit
    have hh : a.tdiv b * b = a - a.tmod b := by omega
    by_cases h2 : a = -9223372036854775808
    · have hsgn : a.tmod b ≤ 0 := by
        by_cases hz : a.tmod b ≤ 0
        · exact hz
        · have := Int.tmod_nonneg (-b) (a := -a) (by omega)
          rw [Int.neg_tmod, Int.tmod_neg] at this; omega
      omega
    · omega
  have e7 : arE 7 (a.tdiv b) b = numE (a.tdiv b * b) := by unfold arE; rw [if_neg (by decide), if_neg (by decide), if_pos rfl]
  rw [e7, numE_in hp, comb_ar 6 a _ (by omega)]
  show numE (a - a.tdiv b * b) = _
  rw [Int.mul_comm] at hsplit
  rw [show a - a.tdiv b * b = a.tmod b by omega, numE_in (by unfold in64 at ha hb ⊢; omega)]
/-- A row of two whole numbers fits its columns. -/
theorem rowAB_ok (a b : Int) : rowR (rowAB a b) csAB = 0 := by
  have hc : colsR csAB = 0 := by decide
  have h1 : ∀ x : Int, chkV (intV x) = 0 := fun x => chkV_of 2 x 0 [] (by decide) (by decide) (by decide) (by simp [own, str_toList]) (by simp [good])
  have h2 : ∀ (x : Int) (n : List UInt8), cellF (intV x) ⟨n, 2, false⟩ = 0 := fun x n => by
    unfold cellF; rw [h1 x, if_neg (by decide)]; exact if_pos rfl
  unfold rowR
  rw [hc, if_neg (by decide), if_neg (by simp [rowAB, csAB])]
  show (if cellF (intV a) ⟨nA, 2, false⟩ ≠ 0 then _ else if cellF (intV b) ⟨nB, 2, false⟩ ≠ 0 then _ else (0 : Int)) = 0
  rw [h2, h2, if_neg (by decide), if_neg (by decide)]
/-- Of a null comes a null. -/
theorem ev_null (op : Int) (h : 5 ≤ op ∧ op ≤ 14) (v w : Vl) (hk : (v.k = 2 ∧ w = nulV) ∨ (v = nulV ∧ w.k = 2)) : combE op [okE v, okE w] = okE nulV := by
  have hs : shortE op v = false := by unfold shortE; rw [if_neg (by omega), if_neg (by omega), if_neg (by omega)]
  refine (comb2_ok op v w hs).trans ?_
  have hz : v.k = 0 ∨ w.k = 0 := by rcases hk with ⟨_, rfl⟩ | ⟨rfl, _⟩ <;> simp [nulV]
  have hf : (fitE v 2 && fitE w 2) = true := by
    rcases hk with ⟨h1, rfl⟩ | ⟨rfl, h1⟩
    · simp [fitE, h1, nulV]
    · simp [fitE, h1, nulV]
  unfold op2E
  by_cases ha : op = 5 ∨ op = 6 ∨ op = 7 ∨ op = 8
  · rw [if_pos ha, if_pos hf, if_pos hz]
  · rw [if_neg ha, if_neg (by omega), if_neg (by omega), if_neg (by omega), if_neg (by omega)]
    unfold cmpE
    rw [if_pos hz]
/-- What can't matter is not looked at. -/
theorem ev_short_and (r : RE) : combE 15 [okE (booV false), r] = okE (booV false) := rfl
theorem ev_short_or (r : RE) : combE 16 [okE (booV true), r] = okE (booV true) := rfl
/-- Not both is the one not or the other not, of results that are true, false, or not known, or faults. -/
theorem ev_morgan (p q : RE) (hp : p.f ≠ 0 ∨ p.v.k = 0 ∨ ∃ b, p.v = booV b) (hq : q.f ≠ 0 ∨ q.v.k = 0 ∨ ∃ b, q.v = booV b) : combE 4 [combE 15 [p, q]] = combE 16 [combE 4 [p], combE 4 [q]] := by
  obtain ⟨v, f⟩ := p
  obtain ⟨u, g⟩ := q
  simp only at hp hq
  by_cases hf : f = 0
  · subst hf
    have hv : v.k = 0 ∨ ∃ b, v = booV b := by rcases hp with h | h | h; exact absurd rfl h; exact .inl h; exact .inr h
    have hnotv : ∀ w : Vl, (w.k = 0 ∨ ∃ b, w = booV b) → combE 4 [⟨w, 0⟩] = tolE (2 - trT w) := by
      intro w hw
      have hfit : fitE w 1 = true := by
        rcases hw with h | ⟨b, rfl⟩
        · simp [fitE, h]
        · rfl
      rw [comb1]
      simp only
      rw [if_neg (by decide)]
      unfold op1E
      rw [if_neg (by decide), if_pos rfl, if_pos hfit]
    rw [hnotv v hv]
    by_cases hg : g = 0
    · subst hg
      have hu : u.k = 0 ∨ ∃ b, u = booV b := by rcases hq with h | h | h; exact absurd rfl h; exact .inl h; exact .inr h
      rw [hnotv u hu]
      have key : ∀ w : Vl, (w.k = 0 ∨ ∃ b, w = booV b) → (trT w = 1 ∧ fitE w 1 = true ∧ shortE 15 w = false) ∨ w = booV true ∨ w = booV false := by
        intro w hw
        rcases hw with h | ⟨b, rfl⟩
        · left
          refine ⟨(trT_one w).2 (by omega), by simp [fitE, h], ?_⟩
          unfold shortE; rw [if_pos rfl]; simp [h]
        · cases b
          · exact .inr (.inr rfl)
          · exact .inr (.inl rfl)
      rcases key v hv with ⟨t1, f1, s1⟩ | rfl | rfl
      · have eA : combE 15 [⟨v, 0⟩, ⟨u, 0⟩] = op2E 15 v u := comb2_ok 15 v u s1
        rw [eA]
        rcases key u hu with ⟨t2, f2, s2⟩ | rfl | rfl
        · unfold op2E
          rw [if_neg (by decide), if_pos rfl, f1, f2, if_pos (by rfl), t1, t2]; rfl
        · unfold op2E
          rw [if_neg (by decide), if_pos rfl, f1, if_pos (by rfl), t1]; rfl
        · unfold op2E
          rw [if_neg (by decide), if_pos rfl, f1, if_pos (by rfl), t1]; rfl
      · rcases key u hu with ⟨t2, f2, s2⟩ | rfl | rfl
        · have eA : combE 15 [⟨booV true, 0⟩, ⟨u, 0⟩] = op2E 15 (booV true) u := rfl
          rw [eA]
          unfold op2E
          rw [if_neg (by decide), if_pos rfl, f2, if_pos (by rfl), t2]; rfl
        · rfl
        · rfl
      · rcases key u hu with ⟨t2, f2, s2⟩ | rfl | rfl
        · have eA : combE 15 [⟨booV false, 0⟩, ⟨u, 0⟩] = okE (booV false) := rfl
          rw [eA, t2]; rfl
        · rfl
        · rfl
    · have eN : combE 4 [⟨u, g⟩] = badE g := comb1_bad 4 g u hg
      rw [eN]
      rcases hv with h | ⟨b, rfl⟩
      · have t1 : trT v = 1 := (trT_one v).2 (by omega)
        have s1 : shortE 15 v = false := by unfold shortE; rw [if_pos rfl]; simp [h]
        have eA : combE 15 [⟨v, 0⟩, ⟨u, g⟩] = badE g := comb2_badR 15 v s1 u g hg
        rw [eA, t1]
        exact (comb1_bad 4 g nulV hg).trans (comb2_badR 16 nulV (by rfl) nulV g hg).symm
      · cases b
        · rfl
        · have eA : combE 15 [⟨booV true, 0⟩, ⟨u, g⟩] = badE g := comb2_badR 15 (booV true) (by rfl) u g hg
          rw [eA]
          exact (comb1_bad 4 g nulV hg).trans (comb2_badR 16 (booV false) (by rfl) nulV g hg).symm
  · have e1 : ∀ r : RE, combE 15 [⟨v, f⟩, r] = badE f := fun r => comb2_bad 15 f v hf r
    have e2 : combE 4 [⟨v, f⟩] = badE f := comb1_bad 4 f v hf
    have e3 : combE 4 [badE f] = badE f := comb1_bad 4 f nulV hf
    have e4 : ∀ r : RE, combE 16 [badE f, r] = badE f := fun r => comb2_bad 16 f nulV hf r
    rw [e1, e2, e3, e4]
end Go.Proofs.YtfedlchncngafaaGreatDoor

/-! CONTRACTS of small makers of package chirographkeep: columns, numbers, two columns of whole numbers and a row; evalTells. CONDITIONS: each theorem's own hypotheses. -/
namespace Go.Proofs.YtfedlchncngafaaGreatDoor
open Go.RowKit
set_option linter.unusedVariables false
set_option maxRecDepth 100000

def colV (n : List UInt8) : Value := .agg #[.int .i64 2, .int .i64 0, .int .i64 0, .int .u64 0, .string ⟨#[]⟩, .string (str n), .slice none 0 0]
def numV (n : Int) : Value := .agg #[.int .i64 1, .int .i64 2, .int .i64 n, .int .u64 0, .string ⟨#[]⟩, .string ⟨#[]⟩, .slice none 0 0]
theorem colV_expr (n : List UInt8) : colV n = exprV (colT n) none 0 := rfl
theorem numV_expr (n : Int) : numV n = exprV (litT 2 n 0 []) none 0 := rfl
theorem xt_col (w : World) (n : List UInt8) (hn : n.length ≤ 1000000) : XT w (colT n) none 0 := xt_leaf w _ (fit_col n hn)
theorem xt_num (w : World) (n : Int) (hi : -9223372036854775808 ≤ n ∧ n ≤ 9223372036854775807) : XT w (litT 2 n 0 []) none 0 := xt_leaf w _ (fit_lit 2 n 0 [] (by decide) hi (by decide) (by decide))
set_option maxHeartbeats 2000000 in
theorem knum_any (n : Int) (w : World) : Calls Tryz.prog 24 #[.int .i64 n] w fun e w' => e = .returned (numV n) ∧ Below w.heap.size w w' := by
  have z := Blk.new w #[.int .i64 0, .int .i64 0, .int .i64 0, .int .u64 0, .string ⟨#[]⟩, .string ⟨#[]⟩, .slice none 0 0] 27
  have hb := (Below.refl w.heap.size w).alloc (Nat.le_refl _) (.cells #[.int .i64 0, .int .i64 0, .int .i64 0, .int .u64 0, .string ⟨#[]⟩, .string ⟨#[]⟩, .slice none 0 0] 27)
  generalize hw1 : w.alloc (.cells #[.int .i64 0, .int .i64 0, .int .i64 0, .int .u64 0, .string ⟨#[]⟩, .string ⟨#[]⟩, .slice none 0 0] 27) = w1 at z hb
  obtain ⟨r0, r1, r2, r3, r4, r5, r6⟩ := z.cells7
  have f0 := z.free 0
  have f1 := z.free 1
  have f2 := z.free 2
  have f3 := z.free 3
  have f4 := z.free 4
  have f5 := z.free 5
  have f6 := z.free 6
  go_enter Tryz.func24, Tryz.ntmps24
  go_upto_region 1 with fail
  try rw [hw1]
  clear hw1
  go_wp2_with fail
  exact bodyPost_ret (results_expr rfl _ _ w.heap.size _ _ _ _ _ _ _ rfl z.set7) rfl ⟨rfl, below_set7 hb (Nat.le_refl _)⟩
def IntsOk (a b : Int) (w : World) (e : Ending) (w' : World) : Prop := ∃ g h, e = .returned (.tuple #[.slice (some ⟨g, 0, none⟩) 2 2, .slice (some ⟨h, 0, none⟩) 2 2]) ∧ Hid (Cols w' (some ⟨g, 0, none⟩) csAB) ∧ Hid (Vals w' (some ⟨h, 0, none⟩) (rowAB a b)) ∧ Below w.heap.size w w'
theorem cols_ab {w : World} {g : Nat} {T : TypeId} (hB : Blk w g T [.string ⟨#[97]⟩, .int .i64 2, .bool false, .string ⟨#[98]⟩, .int .i64 2, .bool false]) : Cols w (some ⟨g, 0, none⟩) csAB := by
  refine ⟨fun c hc => ?_, .inr ⟨g, 0, rfl, hB.lt, fun j c hc => ?_⟩⟩
  · simp only [csAB, List.mem_cons, List.not_mem_nil, or_false] at hc
    rcases hc with rfl | rfl <;> exact ⟨by decide, by decide, by decide⟩
  · match j, hc with
    | 0, hc =>
      simp only [csAB, List.getElem?_cons_zero, Option.some.injEq] at hc
      subst hc
      exact ⟨hB.cell rfl, hB.cell rfl, hB.cell rfl⟩
    | 1, hc =>
      simp only [csAB, List.getElem?_cons_succ, List.getElem?_cons_zero, Option.some.injEq] at hc
      subst hc
      exact ⟨hB.cell rfl, hB.cell rfl, hB.cell rfl⟩
    | j + 2, hc => simp [csAB] at hc
theorem vals_ab {w : World} {g : Nat} {T : TypeId} {a b : Int} (ha : in64 a) (hb : in64 b) (hB : Blk w g T [.int .i64 2, .int .i64 a, .int .u64 0, .string ⟨#[]⟩, .int .i64 2, .int .i64 b, .int .u64 0, .string ⟨#[]⟩]) : Vals w (some ⟨g, 0, none⟩) (rowAB a b) := by
  refine ⟨fun c hc => ?_, .inr ⟨g, 0, rfl, hB.lt, fun j c hc => ?_⟩⟩
  · simp only [rowAB, List.mem_cons, List.not_mem_nil, or_false] at hc
    rcases hc with rfl | rfl
    · exact ⟨ha.1, ha.2, (by show (0 : Int) ≤ 0; decide), (by show (0 : Int) ≤ _; decide), Nat.zero_le _⟩
    · exact ⟨hb.1, hb.2, (by show (0 : Int) ≤ 0; decide), (by show (0 : Int) ≤ _; decide), Nat.zero_le _⟩
  · match j, hc with
    | 0, hc =>
      simp only [rowAB, List.getElem?_cons_zero, Option.some.injEq] at hc
      subst hc
      exact ⟨hB.cell rfl, hB.cell rfl, hB.cell rfl, hB.cell rfl⟩
    | 1, hc =>
      simp only [rowAB, List.getElem?_cons_succ, List.getElem?_cons_zero, Option.some.injEq] at hc
      subst hc
      exact ⟨hB.cell rfl, hB.cell rfl, hB.cell rfl, hB.cell rfl⟩
    | j + 2, hc => simp [rowAB] at hc
theorem evalR_ok (t : T) (cs : List Cl) (row : List Vl) (h1 : exprR t = 0) (h2 : rowR row cs = 0) : evalR t cs row = evT cs row t := by
  unfold evalR
  rw [if_neg (by rw [h1]; decide), if_neg (by rw [h2]; decide)]
/-- What op2 and op1 give, spelt out. -/
def Op2Ok (op : Int) (t u : T) (w : World) (e : Ending) (w' : World) : Prop := ∃ g, e = .returned (.agg #[.int .i64 op, .int .i64 0, .int .i64 0, .int .u64 0, .string ⟨#[]⟩, .string ⟨#[]⟩, .slice (some ⟨g, 0, none⟩) 2 2]) ∧ Hid (XT w' (opN op [t, u]) (some ⟨g, 0, none⟩) 2) ∧ Below w.heap.size w w'
def Op1Ok (op : Int) (t : T) (w : World) (e : Ending) (w' : World) : Prop := ∃ g, e = .returned (.agg #[.int .i64 op, .int .i64 0, .int .i64 0, .int .u64 0, .string ⟨#[]⟩, .string ⟨#[]⟩, .slice (some ⟨g, 0, none⟩) 1 1]) ∧ Hid (XT w' (opN op [t]) (some ⟨g, 0, none⟩) 1) ∧ Below w.heap.size w w'
theorem op2_lit (op : Int) (hop : 0 ≤ op ∧ op ≤ 100) (t u : T) (ao ap : Option Addr) (cap caq : Nat) (w : World) (ht : XT w t ao cap) (hu : XT w u ap caq) :
    Calls Tryz.prog 23 #[.int .i64 op, exprV t ao cap, exprV u ap caq] w (Op2Ok op t u w) :=
  (op2_any op hop t u ao ap cap caq w ht hu).mono fun e w' ⟨g, h1, h2, _, h3, _⟩ => ⟨g, h1, h2, h3⟩
theorem op1_lit (op : Int) (hop : 0 ≤ op ∧ op ≤ 100) (t : T) (ao : Option Addr) (cap : Nat) (w : World) (ht : XT w t ao cap) :
    Calls Tryz.prog 53 #[.int .i64 op, exprV t ao cap] w (Op1Ok op t w) :=
  (op1_any op hop t ao cap w ht).mono fun e w' ⟨g, h1, h2, _, h3, _⟩ => ⟨g, h1, h2, h3⟩
theorem colsAB : colsR csAB = 0 := by decide
theorem tyA : Ty csAB 1 2 (colT nA) := .inl (.inl ⟨0, ⟨nA, 2, false⟩, rfl, rfl, rfl⟩)
theorem tyB : Ty csAB 1 2 (colT nB) := .inl (.inl ⟨1, ⟨nB, 2, false⟩, rfl, rfl, rfl⟩)
theorem tyNum (cs : List Cl) (n : Int) (h0 : 0 ≤ n) (h1 : n ≤ 9223372036854775807) : Ty cs 1 2 (litT 2 n 0 []) :=
  .inl (.inr ⟨2, n, 0, [], .inl rfl, chkV_of 2 n 0 [] (by decide) (by decide) (by decide) (by simp [own, str_toList]) (by simp [good]), h0, h1, by decide, by decide, rfl⟩)
theorem ty_op2 {cs : List Cl} {n : Nat} {k op k' : Int} {a b : T} (h : mk2 k op k') (ha : Ty cs n k' a) (hb : Ty cs n k' b) : Ty cs (n + 1) k (opN op [a, b]) := .inr (.inr ⟨op, k', a, b, h, ha, hb, rfl⟩)
theorem ty_op1 {cs : List Cl} {n : Nat} {k op k' : Int} {a : T} (h : mk1 k op k') (ha : Ty cs n k' a) : Ty cs (n + 1) k (opN op [a]) := .inr (.inl ⟨op, k', a, h, ha, rfl⟩)
theorem env_new {w w' : World} (h : XEnv w) (hb : Below w.heap.size w w') : XEnv w' := h.keep hb
theorem evIn_nil {w : World} {t : T} {ao : Option Addr} {cap : Nat} (h : XT w t ao cap) (hX : XEnv w) : EvIn w t ao cap [] none 0 [] none 0 :=
  ⟨h.A, h.n1, h.n2, ⟨fun c hc => (by cases hc), .inl rfl⟩, Nat.le_refl _, by decide, ⟨fun c hc => (by cases hc), .inl rfl⟩, Nat.le_refl _, by decide, hX⟩
end Go.Proofs.YtfedlchncngafaaGreatDoor
