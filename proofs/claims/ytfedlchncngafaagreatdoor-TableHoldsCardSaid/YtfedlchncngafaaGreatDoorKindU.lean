/-
  PLAIN: the kind of an expression over columns, as the program reckons it and as the reference does; they agree.
  CONDITIONS: none.
-/
import Derived.Test.YtfedlchncngafaaGreatDoorExprT
import Derived.Test.YtfedlchncngafaaGreatDoorKindM
namespace Go.Proofs.YtfedlchncngafaaGreatDoor
open Go.RowKit
set_option linter.unusedVariables false

structure R3 where
  k : Int
  n : Bool
  f : Int
/-- Two kinds that may be taken for one. -/
def fitsK (a b : Int) : Bool := a == b || (a == 0 || b == 0)
def asksK (op a b : Int) : Bool :=
  if op = 3 ∨ op = 5 ∨ op = 6 ∨ op = 7 ∨ op = 8 then fitsK a 2 && fitsK b 2
  else if op = 4 ∨ op = 15 ∨ op = 16 then fitsK a 1 && fitsK b 1
  else if op = 18 ∨ op = 19 then fitsK a 4 && fitsK b 4
  else if op = 17 then true else fitsK a b
def givesK (op a b : Int) : Int :=
  if op = 3 ∨ op = 5 ∨ op = 6 ∨ op = 7 ∨ op = 8 ∨ op = 18 then 2
  else if op = 19 then 4 else if op = 20 then (if a < b then b else a) else 1
def mayK (op : Int) (q : Nat) : Bool := if op = 17 then false else if op = 20 then decide (q = 2) else decide (0 < q)
def fstK (l : List (Int × Bool)) (j : Nat) : Int := ((l[j]?).map Prod.fst).getD 0
def nullsK (l : List (Int × Bool)) : Nat := (l.filter Prod.snd).length
def opK (op : Int) (l : List (Int × Bool)) : R3 :=
  if asksK op (fstK l 0) (fstK l 1) = true then ⟨givesK op (fstK l 0) (fstK l 1), mayK op (nullsK l), 0⟩ else ⟨0, false, 2⟩
/-- What the reference's loop carries: some, all, asks, clash. -/
structure S4 where
  some : Bool
  all : Bool
  asks : Int
  clash : Bool
def asks0 (op : Int) : Int :=
  if op = 3 ∨ op = 5 ∨ op = 6 ∨ op = 7 ∨ op = 8 then 2 else if op = 4 ∨ op = 15 ∨ op = 16 then 1
  else if op = 18 ∨ op = 19 then 4 else 0
def gives0 (op : Int) : Int :=
  if op = 3 ∨ op = 5 ∨ op = 6 ∨ op = 7 ∨ op = 8 ∨ op = 18 then 2 else if op = 4 ∨ op = 15 ∨ op = 16 then 1
  else if op = 19 then 4 else if op = 20 then 0 else 1
def stepK (op : Int) (s : S4) (p : Int × Bool) : S4 :=
  if op = 17 ∨ p.1 = 0 then ⟨s.some || p.2, s.all && p.2, s.asks, s.clash⟩
  else ⟨s.some || p.2, s.all && p.2, if s.asks = 0 then p.1 else s.asks, s.clash || (p.1 != (if s.asks = 0 then p.1 else s.asks))⟩
def foldK (op : Int) (l : List (Int × Bool)) : S4 := l.foldl (stepK op) ⟨false, true, asks0 op, false⟩
theorem foldK_snoc (op : Int) (l : List (Int × Bool)) (p : Int × Bool) : foldK op (l ++ [p]) = stepK op (foldK op l) p := by
  unfold foldK; rw [List.foldl_append]; rfl
def opR (op : Int) (l : List (Int × Bool)) : R3 :=
  if (foldK op l).clash = true then ⟨0, false, 2⟩ else if op = 17 then ⟨1, false, 0⟩
  else if op = 20 then ⟨(foldK op l).asks, (foldK op l).all, 0⟩ else ⟨gives0 op, (foldK op l).some, 0⟩

theorem opR_one (op : Int) (k : Int) (n : Bool) (ho : op = 3 ∨ op = 4 ∨ op = 17 ∨ op = 18) (h0 : 0 ≤ k) (h4 : k ≤ 4) : opR op [(k, n)] = opK op [(k, n)] := by
  rcases ho with rfl | rfl | rfl | rfl <;>
  rcases (show k = 0 ∨ k = 1 ∨ k = 2 ∨ k = 3 ∨ k = 4 by omega) with rfl | rfl | rfl | rfl | rfl <;> cases n <;> rfl
theorem opR_two (op : Int) (k : Int) (n : Bool) (k' : Int) (n' : Bool) (ho : 3 ≤ op ∧ op ≤ 20 ∧ ¬ (op = 3 ∨ op = 4 ∨ op = 17 ∨ op = 18)) (h0 : 0 ≤ k) (h4 : k ≤ 4) (h0' : 0 ≤ k') (h4' : k' ≤ 4) : opR op [(k, n), (k', n')] = opK op [(k, n), (k', n')] := by
  rcases (show op = 5 ∨ op = 6 ∨ op = 7 ∨ op = 8 ∨ op = 9 ∨ op = 10 ∨ op = 11 ∨ op = 12 ∨ op = 13 ∨ op = 14 ∨ op = 15 ∨ op = 16 ∨ op = 19 ∨ op = 20 by omega) with rfl | rfl | rfl | rfl | rfl | rfl | rfl | rfl | rfl | rfl | rfl | rfl | rfl | rfl <;>
  rcases (show k = 0 ∨ k = 1 ∨ k = 2 ∨ k = 3 ∨ k = 4 by omega) with rfl | rfl | rfl | rfl | rfl <;>
  rcases (show k' = 0 ∨ k' = 1 ∨ k' = 2 ∨ k' = 3 ∨ k' = 4 by omega) with rfl | rfl | rfl | rfl | rfl <;> cases n <;> cases n' <;> rfl

/-- The kind of a name's column. -/
def colK (n : List UInt8) (cs : List Cl) : R3 :=
  if placeN n cs 0 < 0 then ⟨0, false, 5⟩ else match cs[(placeN n cs 0).toNat]? with
    | some c => ⟨c.k, c.nl, 0⟩
    | none => ⟨0, false, 5⟩
mutual
def kT (cs : List Cl) : T → R3
  | .mk d l => if d.op = 1 then ⟨d.k, d.k == 0, 0⟩ else if d.op = 2 then colK d.n cs
    else if kF cs l ≠ 0 then ⟨0, false, kF cs l⟩ else opK d.op (kP cs l)
def kF (cs : List Cl) : List T → Int
  | [] => 0
  | t :: l => if (kT cs t).f ≠ 0 then (kT cs t).f else kF cs l
def kP (cs : List Cl) : List T → List (Int × Bool)
  | [] => []
  | t :: l => ((kT cs t).k, (kT cs t).n) :: kP cs l
end
theorem kP_map (cs : List Cl) : ∀ l : List T, kP cs l = l.map (fun t => ((kT cs t).k, (kT cs t).n))
  | [] => rfl
  | t :: l => by simp only [kP, List.map_cons]; rw [kP_map cs l]
theorem kF_bad (cs : List Cl) : ∀ (l : List T) (j : Nat) (t : T), l[j]? = some t → (∀ (i : Nat) (u : T), l[i]? = some u → i < j → (kT cs u).f = 0) → (kT cs t).f ≠ 0 → kF cs l = (kT cs t).f
  | [], j, t, h, _, _ => by simp at h
  | u :: l, 0, t, h, _, hb => by
    simp only [List.getElem?_cons_zero, Option.some.injEq] at h
    subst h
    simp only [kF]; rw [if_pos hb]
  | u :: l, j + 1, t, h, hg, hb => by
    have h0 := hg 0 u rfl (by omega)
    simp only [kF]
    rw [if_neg (by rw [h0]; decide)]
    exact kF_bad cs l j t (by simpa using h) (fun i x hx hi => hg (i + 1) x (by simpa using hx) (by omega)) hb
theorem kF_good (cs : List Cl) : ∀ (l : List T), (∀ (i : Nat) (u : T), l[i]? = some u → (kT cs u).f = 0) → kF cs l = 0
  | [], _ => rfl
  | u :: l, hg => by
    have h0 := hg 0 u rfl
    simp only [kF]
    rw [if_neg (by rw [h0]; decide)]
    exact kF_good cs l (fun i x hx => hg (i + 1) x (by simpa using hx))
theorem opK_rng (op : Int) (l : List (Int × Bool)) (h0 : 0 ≤ fstK l 0 ∧ fstK l 0 ≤ 4) (h1 : 0 ≤ fstK l 1 ∧ fstK l 1 ≤ 4) : 0 ≤ (opK op l).k ∧ (opK op l).k ≤ 4 := by
  unfold opK
  split
  · show 0 ≤ givesK op (fstK l 0) (fstK l 1) ∧ givesK op (fstK l 0) (fstK l 1) ≤ 4
    unfold givesK
    repeat' split
    all_goals omega
  · exact ⟨by decide, by decide⟩
theorem deepK_mem : ∀ {l : List T} {j : Nat} {t : T}, l[j]? = some t → t.deep ≤ deepL l
  | [], j, t, h => by simp at h
  | u :: l, 0, t, h => by
    simp only [List.getElem?_cons_zero, Option.some.injEq] at h
    subst h; simp only [deepL]; omega
  | u :: l, j + 1, t, h => by
    have := deepK_mem (l := l) (j := j) (t := t) (by simpa using h)
    simp only [deepL]; omega
theorem chk_k (k i b : Int) (s : ByteArray) (h : chk k i b s = 0) : 0 ≤ k ∧ k ≤ 4 := by
  unfold chk at h
  repeat' split at h
  all_goals first | omega | (exfalso; revert h; decide)
theorem colsG_good : ∀ (r a : List Cl), colsG a r = 0 → ∀ c ∈ r, 1 ≤ c.k ∧ c.k ≤ 4
  | [], _, _, c, hc => by cases hc
  | x :: r, a, h, c, hc => by
    simp only [colsG] at h
    by_cases hx : colF x a = 0
    · rw [if_pos hx] at h
      rcases List.mem_cons.1 hc with rfl | hm
      · unfold colF at hx
        repeat' split at hx
        all_goals first | omega | (exfalso; revert hx; decide)
      · exact colsG_good r _ h c hm
    · rw [if_neg hx] at h; exact absurd h hx
theorem colsR_rng (l : List Cl) (h : colsR l = 0) : ∀ c ∈ l, 1 ≤ c.k ∧ c.k ≤ 4 := by
  unfold colsR at h
  split at h
  · exact absurd h (by decide)
  · exact colsG_good l [] h
theorem colK_rng (n : List UInt8) (cs : List Cl) (hc : ∀ c ∈ cs, 1 ≤ c.k ∧ c.k ≤ 4) : 0 ≤ (colK n cs).k ∧ (colK n cs).k ≤ 4 := by
  unfold colK
  split
  · exact ⟨by decide, by decide⟩
  · split
    · rename_i c h
      have := hc c (List.mem_of_getElem? h)
      exact ⟨by show 0 ≤ c.k; omega, by show c.k ≤ 4; omega⟩
    · exact ⟨by decide, by decide⟩
theorem fstK_rng (cs : List Cl) (l : List T) (h : ∀ t ∈ l, 0 ≤ (kT cs t).k ∧ (kT cs t).k ≤ 4) (j : Nat) : 0 ≤ fstK (kP cs l) j ∧ fstK (kP cs l) j ≤ 4 := by
  unfold fstK
  rw [kP_map, List.getElem?_map]
  cases hj : l[j]? with
  | none => exact ⟨(by decide : (0 : Int) ≤ 0), (by decide : (0 : Int) ≤ 4)⟩
  | some t => exact h t (List.mem_of_getElem? hj)
theorem formL_mem : ∀ (l : List T), formL l = 0 → ∀ t ∈ l, formT t = 0
  | [], _, t, h => by cases h
  | u :: l, hf, t, h => by
    simp only [formL] at hf
    by_cases hu : formT u = 0
    · rw [if_neg (by rw [hu]; decide)] at hf
      rcases List.mem_cons.1 h with rfl | hm
      · exact hu
      · exact formL_mem l hf t hm
    · rw [if_pos hu] at hf; exact absurd hf hu
theorem formT_open (d : Nd) (l : List T) (h : formT (.mk d l) = 0) : nodeF d l.length = 0 ∧ formL l = 0 := by
  simp only [formT] at h
  by_cases hn : nodeF d l.length = 0
  · rw [if_neg (by rw [hn]; decide)] at h; exact ⟨hn, h⟩
  · rw [if_pos hn] at h; exact absurd h hn
theorem nodeF_open (d : Nd) (n : Nat) (h : nodeF d n = 0) : (1 ≤ d.op ∧ d.op ≤ 20) ∧ n = partsN d.op ∧ nOk d = true ∧ vOk d = true := by
  unfold nodeF at h
  split at h
  · exact absurd h (by decide)
  · split at h
    · rename_i h1 h2
      simp only [Bool.and_eq_true, decide_eq_true_eq] at h2
      exact ⟨by omega, h2.1.1, h2.1.2, h2.2⟩
    · exact absurd h (by decide)
theorem kT_rngs (cs : List Cl) (hc : ∀ c ∈ cs, 1 ≤ c.k ∧ c.k ≤ 4) : ∀ (n : Nat) (t : T), t.deep ≤ n → formT t = 0 → 0 ≤ (kT cs t).k ∧ (kT cs t).k ≤ 4 := by
  intro n
  induction n with
  | zero => rintro ⟨d, l⟩ h _; simp only [T.deep] at h; omega
  | succ n ih =>
    rintro ⟨d, l⟩ h hf
    obtain ⟨hn, hl⟩ := formT_open d l hf
    obtain ⟨⟨o1, o2⟩, hp, _, hv⟩ := nodeF_open d _ hn
    have hdl : deepL l ≤ n := by simp only [T.deep] at h; omega
    have hk : ∀ t ∈ l, 0 ≤ (kT cs t).k ∧ (kT cs t).k ≤ 4 := by
      intro t ht
      obtain ⟨j, hj⟩ := List.getElem?_of_mem ht
      exact ih t (Nat.le_trans (deepK_mem hj) hdl) (formL_mem l hl t ht)
    simp only [kT]
    split
    · rename_i h1
      unfold vOk at hv
      rw [if_pos h1] at hv
      simp only [Bool.and_eq_true, beq_iff_eq] at hv
      exact chk_k _ _ _ _ hv.1
    · split
      · exact colK_rng _ _ hc
      · split
        · exact ⟨(by decide : (0 : Int) ≤ 0), (by decide : (0 : Int) ≤ 4)⟩
        · exact opK_rng _ _ (fstK_rng cs l hk 0) (fstK_rng cs l hk 1)
theorem kT_rng (cs : List Cl) (hc : ∀ c ∈ cs, 1 ≤ c.k ∧ c.k ≤ 4) (t : T) (hf : formT t = 0) : 0 ≤ (kT cs t).k ∧ (kT cs t).k ≤ 4 := kT_rngs cs hc t.deep t (Nat.le_refl _) hf
/-- The reference's reckoning of an operation is the program's, over parts that may be. -/
theorem opR_kP (cs : List Cl) (hc : ∀ c ∈ cs, 1 ≤ c.k ∧ c.k ≤ 4) (d : Nd) (l : List T) (hf : formT (.mk d l) = 0) (h1 : d.op ≠ 1) (h2 : d.op ≠ 2) : opR d.op (kP cs l) = opK d.op (kP cs l) := by
  obtain ⟨hn, hl⟩ := formT_open d l hf
  obtain ⟨⟨o1, o2⟩, hp, _, hv⟩ := nodeF_open d _ hn
  have hk : ∀ t ∈ l, 0 ≤ (kT cs t).k ∧ (kT cs t).k ≤ 4 := fun t ht => kT_rng cs hc t (formL_mem l hl t ht)
  unfold partsN at hp
  rw [if_neg (by omega)] at hp
  by_cases ho : d.op = 3 ∨ d.op = 4 ∨ d.op = 17 ∨ d.op = 18
  · rw [if_pos ho] at hp
    match l, hp, hk with
    | [t], _, hk =>
      have := hk t (by simp)
      exact opR_one _ _ _ ho this.1 this.2
  · rw [if_neg ho] at hp
    match l, hp, hk with
    | [t, u], _, hk =>
      have a := hk t (by simp)
      have b := hk u (by simp)
      exact opR_two _ _ _ _ _ ⟨by omega, o2, ho⟩ a.1 a.2 b.1 b.2
/-- What Of answers of an expression over columns. -/
def kindsR (cs : List Cl) (t : T) : R3 :=
  if exprR t ≠ 0 then ⟨0, false, exprR t⟩ else if colsR cs ≠ 0 then ⟨0, false, colsR cs⟩ else kT cs t
theorem exprR_form (t : T) (h : exprR t = 0) : formT t = 0 := by
  unfold exprR at h
  split at h
  · exact absurd h (by decide)
  · exact h
end Go.Proofs.YtfedlchncngafaaGreatDoor
