/-
  CONTRACTS of package eval's folded and Fold.
  CONDITIONS: each theorem's own hypotheses; the tables, package lex's signs and package expr's forms hold what their initialisers lay ('XEnv').
-/
import Derived.Test.YtablacloabpjfabGreatDoorFoldA
namespace Go.Proofs.YtablacloabpjfabGreatDoor
open Go.RowKit
set_option linter.unusedVariables false
set_option maxRecDepth 100000

/-- An expression by value, with where its parts lie. -/
structure FE where
  t : T
  ao : Option Addr
  cap : Nat
def cellsFE1 (x : FE) : List Value := xcells x.t x.ao x.cap
def cellsFE (l : List FE) : List Value := l.flatMap cellsFE1
def zeroFE1 : List Value := [.int .i64 0, .int .i64 0, .int .i64 0, .int .u64 0, .string ⟨#[]⟩, .string ⟨#[]⟩, .slice none 0 0]
def zeroFE : Nat → List Value
  | 0 => []
  | n + 1 => zeroFE1 ++ zeroFE n
theorem cellsFE_length : ∀ l : List FE, (cellsFE l).length = l.length * 7
  | [] => rfl
  | x :: l => by
    have := cellsFE_length l
    simp only [cellsFE, List.flatMap_cons, List.length_append, List.length_cons] at this ⊢
    have h7 : (cellsFE1 x).length = 7 := rfl
    omega
theorem cellsFE_snoc (l : List FE) (x : FE) : cellsFE (l ++ [x]) = cellsFE l ++ xcells x.t x.ao x.cap := by
  unfold cellsFE; rw [List.flatMap_append]; simp [cellsFE1]
theorem Blk.setAt {W : World} {g : Nat} {T : TypeId} {pre post : List Value} {b : Value} {p : Nat} (h : Blk W g T (pre ++ b :: post)) (hp : pre.length = p) (a : Value) : Blk (W.setCell ⟨g, p, none⟩ a) g T ((pre ++ [a]) ++ post) := by
  have := h.set p a
  rw [List.set_append_right _ _ (by omega), show p - pre.length = 0 by omega] at this
  simpa using this
theorem Blk.put7 {W : World} {g : Nat} {T : TypeId} {pre post : List Value} {b0 b1 b2 b3 b4 b5 b6 : Value} {p : Nat} (h : Blk W g T (pre ++ ([b0, b1, b2, b3, b4, b5, b6] ++ post))) (hp : pre.length = p) (a0 a1 a2 a3 a4 a5 a6 : Value) :
    Blk (((((((W.setCell ⟨g, p, none⟩ a0).setCell ⟨g, p + 1, none⟩ a1).setCell ⟨g, p + 2, none⟩ a2).setCell ⟨g, p + 3, none⟩ a3).setCell ⟨g, p + 4, none⟩ a4).setCell ⟨g, p + 5, none⟩ a5).setCell ⟨g, p + 6, none⟩ a6) g T ((pre ++ [a0, a1, a2, a3, a4, a5, a6]) ++ post) := by
  have h0 := (show Blk W g T (pre ++ b0 :: ([b1, b2, b3, b4, b5, b6] ++ post)) from h).setAt hp a0
  have h1 := (show Blk _ g T ((pre ++ [a0]) ++ b1 :: ([b2, b3, b4, b5, b6] ++ post)) from h0).setAt (p := p + 1) (by simp [hp]) a1
  have h2 := (show Blk _ g T (((pre ++ [a0]) ++ [a1]) ++ b2 :: ([b3, b4, b5, b6] ++ post)) from h1).setAt (p := p + 2) (by simp [hp]) a2
  have h3 := (show Blk _ g T ((((pre ++ [a0]) ++ [a1]) ++ [a2]) ++ b3 :: ([b4, b5, b6] ++ post)) from h2).setAt (p := p + 3) (by simp [hp]) a3
  have h4 := (show Blk _ g T (((((pre ++ [a0]) ++ [a1]) ++ [a2]) ++ [a3]) ++ b4 :: ([b5, b6] ++ post)) from h3).setAt (p := p + 4) (by simp [hp]) a4
  have h5 := (show Blk _ g T ((((((pre ++ [a0]) ++ [a1]) ++ [a2]) ++ [a3]) ++ [a4]) ++ b5 :: ([b6] ++ post)) from h4).setAt (p := p + 5) (by simp [hp]) a5
  have h6 := (show Blk _ g T (((((((pre ++ [a0]) ++ [a1]) ++ [a2]) ++ [a3]) ++ [a4]) ++ [a5]) ++ b6 :: post) from h5).setAt (p := p + 6) (by simp [hp]) a6
  simpa using h6
theorem Blk.others7p {W : World} {g q p : Nat} {T : TypeId} {cs : List Value} {a0 a1 a2 a3 a4 a5 a6 : Value} (h : Blk W q T cs) (hne : q ≠ g) : Blk (((((((W.setCell ⟨g, p, none⟩ a0).setCell ⟨g, p + 1, none⟩ a1).setCell ⟨g, p + 2, none⟩ a2).setCell ⟨g, p + 3, none⟩ a3).setCell ⟨g, p + 4, none⟩ a4).setCell ⟨g, p + 5, none⟩ a5).setCell ⟨g, p + 6, none⟩ a6) q T cs :=
  ((((((h.other ⟨g, p, none⟩ a0 hne).other ⟨g, p + 1, none⟩ a1 hne).other ⟨g, p + 2, none⟩ a2 hne).other ⟨g, p + 3, none⟩ a3 hne).other ⟨g, p + 4, none⟩ a4 hne).other ⟨g, p + 5, none⟩ a5 hne).other ⟨g, p + 6, none⟩ a6 hne
theorem below_set7p {B : Nat} {w W : World} {g p : Nat} {a0 a1 a2 a3 a4 a5 a6 : Value} (h : Below B w W) (hg : B ≤ g) : Below B w (((((((W.setCell ⟨g, p, none⟩ a0).setCell ⟨g, p + 1, none⟩ a1).setCell ⟨g, p + 2, none⟩ a2).setCell ⟨g, p + 3, none⟩ a3).setCell ⟨g, p + 4, none⟩ a4).setCell ⟨g, p + 5, none⟩ a5).setCell ⟨g, p + 6, none⟩ a6) :=
  ((((((h.setCell (p := ⟨g, p, none⟩) hg a0).setCell (p := ⟨g, p + 1, none⟩) hg a1).setCell (p := ⟨g, p + 2, none⟩) hg a2).setCell (p := ⟨g, p + 3, none⟩) hg a3).setCell (p := ⟨g, p + 4, none⟩) hg a4).setCell (p := ⟨g, p + 5, none⟩) hg a5).setCell (p := ⟨g, p + 6, none⟩) hg a6
theorem XTb.set7p {b : Nat} {w : World} {t : T} {ao : Option Addr} {cap : Nat} (h : XTb b w t ao cap) {g p : Nat} (hg : g < b) {a0 a1 a2 a3 a4 a5 a6 : Value} : XTb b (((((((w.setCell ⟨g, p, none⟩ a0).setCell ⟨g, p + 1, none⟩ a1).setCell ⟨g, p + 2, none⟩ a2).setCell ⟨g, p + 3, none⟩ a3).setCell ⟨g, p + 4, none⟩ a4).setCell ⟨g, p + 5, none⟩ a5).setCell ⟨g, p + 6, none⟩ a6) t ao cap :=
  ((((((h.set ⟨g, p, none⟩ a0 hg).set ⟨g, p + 1, none⟩ a1 hg).set ⟨g, p + 2, none⟩ a2 hg).set ⟨g, p + 3, none⟩ a3 hg).set ⟨g, p + 4, none⟩ a4 hg).set ⟨g, p + 5, none⟩ a5 hg).set ⟨g, p + 6, none⟩ a6 hg
/-- A node over a row of parts. -/
theorem xt_row (d : Nd) (hd : FitN d) {W : World} {g : Nat} (es : List FE) (hg : ∀ x ∈ es, XT W x.t x.ao x.cap) (hl : es.length ≤ 1000000) (hB : Blk W g 27 (cellsFE es)) : XT W (.mk d (es.map FE.t)) (some ⟨g, 0, none⟩) es.length := by
  refine ⟨?_, by show (es.map FE.t).length ≤ _; rw [List.length_map]; exact Nat.le_refl _, by omega, fun h => by cases h⟩
  simp only [AtT]
  refine ⟨hd, atL_of rfl hB.lt _ 0 (fun i x hx => ?_)⟩
  rw [List.getElem?_map] at hx
  cases hy : es[i]? with
  | none => rw [hy] at hx; cases hx
  | some y =>
    rw [hy] at hx
    obtain rfl := Option.some.inj hx
    have hi := (List.getElem?_eq_some_iff.1 hy).1
    have he : es = es.take i ++ y :: es.drop (i + 1) := by
      rw [← (List.getElem?_eq_some_iff.1 hy).2, List.getElem_cons_drop, List.take_append_drop]
    have hc : cellsFE es = cellsFE (es.take i) ++ xcells y.t y.ao y.cap ++ cellsFE (es.drop (i + 1)) := by
      conv => lhs; rw [he]
      unfold cellsFE
      rw [List.flatMap_append, List.flatMap_cons, List.append_assoc]; rfl
    rw [hc] at hB
    rw [Nat.zero_add]
    exact node_of i hB (by rw [cellsFE_length, List.length_take]; rw [Nat.min_eq_left (by omega)]) (hg y (List.mem_of_getElem? hy))
/-- What folded leaves of a tree. -/
def FoldPost (u : T) (w : World) (e : Ending) (w' : World) : Prop := ∃ ao' cap', e = .returned (exprV u ao' cap') ∧ Hid (XTb w.heap.size w' u ao' cap') ∧ Below w.heap.size w w'
def FoldOk (n : Nat) : Prop := ∀ (t : T) (ao : Option Addr) (cap : Nat) (w : World), t.deep ≤ n → formT t = 0 → AtT w t ao → t.kids.length ≤ cap → cap ≤ 9223372036854775807 → Tabs w →
    Calls Tryz.prog 41 #[exprV t ao cap] w (FoldPost (foldT t) w)
theorem foldL_get (l : List T) (j : Nat) (t : T) (h : l[j]? = some t) : (foldL l).take (j + 1) = (foldL l).take j ++ [foldT t] := by
  have : (foldL l)[j]? = some (foldT t) := by rw [foldL_map, List.getElem?_map, h]; rfl
  obtain ⟨hj, he⟩ := List.getElem?_eq_some_iff.1 this
  rw [List.take_succ_eq_append_getElem hj, he]
theorem fleaf_lit (d : Nd) (h1 : d.op = 1) (hn : nodeF d 0 = 0) : T.mk d [] = litV ⟨d.k, d.i, d.b, d.t⟩ := by
  obtain ⟨_, _, h, _⟩ := nodeF_open d _ hn
  unfold nOk at h
  rw [if_neg (by omega)] at h
  obtain ⟨op, k, i, b, s, nm⟩ := d
  simp only at h h1
  have : nm = [] := by simpa using h
  subst this h1; rfl
theorem fleaf_col (d : Nd) (h2 : d.op = 2) (hn : nodeF d 0 = 0) : d = ⟨2, 0, 0, 0, [], d.n⟩ := by
  obtain ⟨_, _, _, h⟩ := nodeF_open d _ hn
  unfold vOk at h
  rw [if_neg (by omega)] at h
  obtain ⟨op, k, i, b, s, nm⟩ := d
  simp only [Bool.and_eq_true, beq_iff_eq, List.isEmpty_iff] at h h2
  obtain ⟨⟨⟨rfl, rfl⟩, rfl⟩, rfl⟩ := h
  subst h2; rfl
-- no node has a million parts or more
mutual
def FewT : T → Prop
  | .mk _ l => l.length ≤ 1000000 ∧ FewL l
def FewL : List T → Prop
  | [] => True
  | t :: l => FewT t ∧ FewL l
end
/-- What is known of a row of parts. -/
structure FewK (l : List T) : Prop where
  all : FewL l
theorem FewL.mem : ∀ {l : List T}, FewL l → ∀ t ∈ l, FewT t
  | u :: l, h, t, ht => by
    simp only [FewL] at h
    rcases List.mem_cons.1 ht with rfl | hm
    · exact h.1
    · exact FewL.mem h.2 t hm
theorem FewT.kids {t : T} (h : FewT t) : t.kids.length ≤ 1000000 ∧ ∀ d l, t = .mk d l → FewK l := by
  obtain ⟨d, l⟩ := t
  simp only [FewT] at h
  exact ⟨h.1, fun d' l' e => by obtain ⟨rfl, rfl⟩ := T.mk.inj e; exact ⟨h.2⟩⟩
theorem FewK.len {l : List T} (h : FewK l) (t : T) (ht : t ∈ l) : t.kids.length ≤ 1000000 := (h.all.mem t ht).kids.1
theorem FewK.sub {l : List T} (h : FewK l) (t : T) (ht : t ∈ l) : ∀ d m, t = .mk d m → FewK m := (h.all.mem t ht).kids.2
theorem fewL_of : ∀ (l : List T), (∀ t ∈ l, FewT t) → FewL l
  | [], _ => by simp [FewL]
  | t :: l, h => by simp only [FewL]; exact ⟨h t (by simp), fewL_of l (fun u hu => h u (by simp [hu]))⟩
theorem few_form : ∀ (n : Nat) (t : T), t.deep ≤ n → formT t = 0 → FewT t
  | 0, t, h, _ => by have := T.deep_eq t; omega
  | n + 1, .mk d l, h, hf => by
    obtain ⟨hn, hl⟩ := formT_open d l hf
    have hp := (nodeF_open d _ hn).2.1
    have hdl : deepL l ≤ n := by simp only [T.deep] at h; omega
    simp only [FewT]
    refine ⟨by rw [hp]; unfold partsN; split <;> (try split) <;> omega, fewL_of l (fun t ht => ?_)⟩
    obtain ⟨j, hj⟩ := List.getElem?_of_mem ht
    exact few_form n t (Nat.le_trans (deepK_mem hj) hdl) (formL_mem l hl t ht)
theorem zeroFE_split (n j : Nat) (h : j < n) : zeroFE (n - j) = zeroFE1 ++ zeroFE (n - (j + 1)) := by
  rw [show n - j = (n - (j + 1)) + 1 by omega]; rfl
end Go.Proofs.YtablacloabpjfabGreatDoor
