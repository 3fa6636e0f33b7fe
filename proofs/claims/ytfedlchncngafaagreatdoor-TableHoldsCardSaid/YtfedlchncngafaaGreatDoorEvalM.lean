/-
  PLAIN: what an expression says of a row, as the document reckons it.
  CONDITIONS: none.
-/
import Derived.Test.YtfedlchncngafaaGreatDoorEvalU
import Derived.Test.YtfedlchncngafaaGreatDoorGValD
import Derived.Test.YtfedlchncngafaaGreatDoorKindR
import Derived.Test.YtfedlchncngafaaGreatDoorKindU
import Derived.Test.YtfedlchncngafaaGreatDoorFitM
namespace Go.Proofs.YtfedlchncngafaaGreatDoor
open Go.RowKit
set_option linter.unusedVariables false

def nulV : Vl := ⟨0, 0, 0, []⟩
def intV (n : Int) : Vl := ⟨2, n, 0, []⟩
def booV (b : Bool) : Vl := ⟨1, if b = true then 1 else 0, 0, []⟩
def txtV (s : List UInt8) : Vl := ⟨4, 0, 0, s⟩
def toV (v : Vl) : V := ⟨v.k, v.i, v.b, str v.s⟩
/-- A value, or what is wrong, with the null beside it. -/
structure RE where
  v : Vl
  f : Int
def badE (f : Int) : RE := ⟨nulV, f⟩
def okE (v : Vl) : RE := ⟨v, 0⟩
def numE (n : Int) : RE := if -9223372036854775808 ≤ n ∧ n ≤ 9223372036854775807 then okE (intV n) else badE 6
def fitE (v : Vl) (k : Int) : Bool := v.k == k || v.k == 0
def trT (v : Vl) : Int := if v.k = 1 then (if v.i = 1 then 2 else 0) else 1
def tolE (t : Int) : RE := okE (if t = 1 then nulV else booV (t == 2))
def andT (a b : Int) : Int := if a = 0 ∨ b = 0 then 0 else if a = 1 ∨ b = 1 then 1 else 2
def orT (a b : Int) : Int := if a = 2 ∨ b = 2 then 2 else if a = 1 ∨ b = 1 then 1 else 0
def whichC (op c : Int) : Bool := if op = 9 then c == 0 else if op = 10 then !(c == 0) else if op = 11 then decide (c < 0) else if op = 12 then !(decide (0 < c)) else if op = 13 then decide (0 < c) else !(decide (c < 0))
def op1E (op : Int) (v : Vl) : RE :=
  if op = 3 then (if fitE v 2 = true then (if v.k = 0 then okE nulV else numE (0 - v.i)) else badE 2)
  else if op = 4 then (if fitE v 1 = true then tolE (2 - trT v) else badE 2)
  else if op = 17 then okE (booV (v.k == 0))
  else (if fitE v 4 = true then (if v.k = 0 then okE nulV else okE (intV (runesL v.s))) else badE 2)
def arE (op a b : Int) : RE := if op = 5 then numE (a + b) else if op = 6 then numE (a - b) else if op = 7 then numE (a * b) else if b = 0 then badE 7 else numE (a.tdiv b)
def cmpE (op : Int) (a b : Vl) : RE := if a.k = 0 ∨ b.k = 0 then okE nulV else if a.k = b.k then okE (booV (whichC op (ordV (toV a) (toV b)))) else badE 2
def joiE (a b : Vl) : RE := if (fitE a 4 && fitE b 4) = true then (if a.k = 0 ∨ b.k = 0 then okE nulV else if 40 < a.s.length + b.s.length then badE 1 else okE (txtV (a.s ++ b.s))) else badE 2
def op2E (op : Int) (a b : Vl) : RE :=
  if op = 5 ∨ op = 6 ∨ op = 7 ∨ op = 8 then (if (fitE a 2 && fitE b 2) = true then (if a.k = 0 ∨ b.k = 0 then okE nulV else arE op a.i b.i) else badE 2)
  else if op = 15 then (if (fitE a 1 && fitE b 1) = true then tolE (andT (trT a) (trT b)) else badE 2)
  else if op = 16 then (if (fitE a 1 && fitE b 1) = true then tolE (orT (trT a) (trT b)) else badE 2)
  else if op = 19 then joiE a b
  else if op = 20 then okE b
  else cmpE op a b
/-- Where the right part is not looked at. -/
def shortE (op : Int) (v : Vl) : Bool := if op = 15 then (v.k == 1 && v.i == 0) else if op = 16 then (v.k == 1 && v.i == 1) else if op = 20 then !(v.k == 0) else false
def combE (op : Int) : List RE → RE
  | [a] => if a.f ≠ 0 then badE a.f else op1E op a.v
  | [a, b] => if a.f ≠ 0 then badE a.f else if shortE op a.v = true then okE a.v else if b.f ≠ 0 then badE b.f else op2E op a.v b.v
  | _ => badE 0
def colE (cs : List Cl) (row : List Vl) (n : List UInt8) : RE := if placeN n cs 0 < 0 then badE 5 else match row[(placeN n cs 0).toNat]? with
  | some v => okE v
  | none => badE 5
mutual
def evT (cs : List Cl) (row : List Vl) : T → RE
  | .mk d l => if d.op = 1 then okE ⟨d.k, d.i, d.b, d.t⟩ else if d.op = 2 then colE cs row d.n else combE d.op (evL cs row l)
def evL (cs : List Cl) (row : List Vl) : List T → List RE
  | [] => []
  | t :: l => evT cs row t :: evL cs row l
end
/-- What Eval answers. -/
def evalR (t : T) (cs : List Cl) (row : List Vl) : RE := if exprR t ≠ 0 then badE (exprR t) else if rowR row cs ≠ 0 then badE (rowR row cs) else evT cs row t
theorem evL_map (cs : List Cl) (row : List Vl) : ∀ l : List T, evL cs row l = l.map (evT cs row)
  | [] => rfl
  | t :: l => by simp only [evL, List.map_cons]; rw [evL_map cs row l]

/-! ### values stay such as may be -/
structure OkV (v : Vl) : Prop where
  fit : FitV v
  chk : chkV v = 0
structure OkR (r : RE) : Prop where
  v : OkV r.v
  bad : r.f ≠ 0 → r.v = nulV
  f0 : 0 ≤ r.f
  f1 : r.f ≤ 100
theorem chkV_of (k i b : Int) (s : List UInt8) (h0 : 0 ≤ k) (h4 : k ≤ 4) (hs : s.length ≤ 40) (ho : own k i b (str s) = true) (hg : good k i b (str s) = true) : chkV ⟨k, i, b, s⟩ = 0 := by
  show Go.Proofs.YtfedlchncngafaaGreatDoor.chk k i b (str s) = 0
  unfold Go.Proofs.YtfedlchncngafaaGreatDoor.chk
  rw [if_neg (by omega), if_neg (by rw [str_size]; omega), ho, hg]; rfl
theorem chkV_open (v : Vl) (h : chkV v = 0) : 0 ≤ v.k ∧ v.k ≤ 4 ∧ v.s.length ≤ 40 ∧ own v.k v.i v.b (str v.s) = true ∧ good v.k v.i v.b (str v.s) = true := by
  unfold chkV Go.Proofs.YtfedlchncngafaaGreatDoor.chk at h
  by_cases c1 : v.k < 0 ∨ 4 < v.k
  · rw [if_pos c1] at h; omega
  rw [if_neg c1] at h
  by_cases c2 : 40 < (str v.s).size
  · rw [if_pos c2] at h; omega
  rw [if_neg c2] at h
  by_cases c3 : (own v.k v.i v.b (str v.s) && good v.k v.i v.b (str v.s)) = true
  · simp only [Bool.and_eq_true] at c3
    rw [str_size] at c2
    exact ⟨by omega, by omega, by omega, c3.1, c3.2⟩
  · rw [if_neg c3] at h; omega
/-- A value that may be, by its kind. -/
theorem OkV.cases {v : Vl} (h : OkV v) : v = nulV ∨ (∃ b : Bool, v = booV b) ∨ (∃ n, v = intV n ∧ -9223372036854775808 ≤ n ∧ n ≤ 9223372036854775807) ∨ (v.k = 3 ∧ v.i = 0 ∧ v.s = []) ∨ (∃ s, v = txtV s ∧ s.length ≤ 40 ∧ Lib.validD s = true) := by
  obtain ⟨⟨i0, i1, b0, b1, s1⟩, hc⟩ := h
  obtain ⟨k0, k4, hs, ho, hg⟩ := chkV_open v hc
  obtain ⟨k, i, b, s⟩ := v
  simp only at *
  unfold own at ho
  unfold good at hg
  rw [str_toList] at ho
  rw [str_data] at hg
  rcases (show k = 0 ∨ k = 1 ∨ k = 2 ∨ k = 3 ∨ k = 4 by omega) with rfl | rfl | rfl | rfl | rfl
  · simp at ho
    left; obtain ⟨rfl, rfl, rfl⟩ := ho; rfl
  · simp at ho hg
    right; left
    obtain ⟨rfl, rfl⟩ := ho
    rcases hg with rfl | rfl
    · exact ⟨false, rfl⟩
    · exact ⟨true, rfl⟩
  · simp at ho
    right; right; left
    obtain ⟨rfl, rfl⟩ := ho
    exact ⟨i, rfl, i0, i1⟩
  · simp at ho
    right; right; right; left
    exact ⟨rfl, ho.1, ho.2⟩
  · simp at ho hg
    right; right; right; right
    obtain ⟨rfl, rfl⟩ := ho
    exact ⟨s, rfl, hs, hg⟩
theorem ok_nul : OkV nulV := ⟨⟨by decide, by decide, by decide, by decide, by decide⟩, chkV_of 0 0 0 [] (by decide) (by decide) (by decide) (by simp [own, str_toList]) (by simp [good])⟩
theorem ok_boo (b : Bool) : OkV (booV b) := by
  cases b
  · exact ⟨⟨by decide, by decide, by decide, by decide, by decide⟩, chkV_of 1 0 0 [] (by decide) (by decide) (by decide) (by simp [own, str_toList]) (by simp [good])⟩
  · exact ⟨⟨by decide, by decide, by decide, by decide, by decide⟩, chkV_of 1 1 0 [] (by decide) (by decide) (by decide) (by simp [own, str_toList]) (by simp [good])⟩
theorem ok_int (n : Int) (h0 : -9223372036854775808 ≤ n) (h1 : n ≤ 9223372036854775807) : OkV (intV n) :=
  ⟨⟨h0, h1, by show (0 : Int) ≤ 0; decide, by show (0 : Int) ≤ _; decide, by show 0 ≤ _; decide⟩, chkV_of 2 n 0 [] (by decide) (by decide) (by decide) (by simp [own, str_toList]) (by simp [good])⟩
theorem ok_txt (s : List UInt8) (h : s.length ≤ 40) (hv : Lib.validD s = true) : OkV (txtV s) :=
  ⟨⟨by show _ ≤ (0 : Int); decide, by show (0 : Int) ≤ _; decide, by show (0 : Int) ≤ 0; decide, by show (0 : Int) ≤ _; decide, by show s.length ≤ _; omega⟩, chkV_of 4 0 0 s (by decide) (by decide) h (by simp [own]) (by simp [good, str_data, hv])⟩
theorem okR_ok {v : Vl} (h : OkV v) : OkR (okE v) := ⟨h, fun h => absurd rfl h, by show (0 : Int) ≤ 0; decide, by show (0 : Int) ≤ 100; decide⟩
theorem okR_bad (f : Int) (h0 : 0 ≤ f) (h1 : f ≤ 100) : OkR (badE f) := ⟨ok_nul, fun _ => rfl, h0, h1⟩
theorem okR_num (n : Int) : OkR (numE n) := by
  unfold numE
  split
  · rename_i h; exact okR_ok (ok_int n h.1 h.2)
  · exact okR_bad 6 (by decide) (by decide)
theorem okR_tol (t : Int) : OkR (tolE t) := by
  unfold tolE
  split
  · exact okR_ok ok_nul
  · exact okR_ok (ok_boo _)
theorem okR_op1 (op : Int) (v : Vl) (h : OkV v) : OkR (op1E op v) := by
  have b2 := okR_bad 2 (by decide) (by decide)
  unfold op1E
  split
  · split
    · split
      · exact okR_ok ok_nul
      · exact okR_num _
    · exact b2
  · split
    · split
      · exact okR_tol _
      · exact b2
    · split
      · exact okR_ok (ok_boo _)
      · split
        · split
          · exact okR_ok ok_nul
          · have := runes_le v.s
            have := h.fit.s1
            exact okR_ok (ok_int _ (by omega) (by omega))
        · exact b2
theorem okR_ar (op a b : Int) : OkR (arE op a b) := by
  unfold arE
  repeat' split
  all_goals first | exact okR_num _ | exact okR_bad 7 (by decide) (by decide)
theorem okR_op2 (op : Int) (a b : Vl) (ha : OkV a) (hb : OkV b) : OkR (op2E op a b) := by
  have b2 := okR_bad 2 (by decide) (by decide)
  unfold op2E
  split
  · split
    · split
      · exact okR_ok ok_nul
      · exact okR_ar _ _ _
    · exact b2
  · split
    · split
      · exact okR_tol _
      · exact b2
    · split
      · split
        · exact okR_tol _
        · exact b2
      · split
        · unfold joiE
          split
          · rename_i hf
            split
            · exact okR_ok ok_nul
            · rename_i hn
              split
              · exact okR_bad 1 (by decide) (by decide)
              · rename_i hl
                have hk : a.k = 4 ∧ b.k = 4 := by
                  simp only [fitE, Bool.and_eq_true, Bool.or_eq_true, beq_iff_eq] at hf
                  omega
                have ga := (chkV_open a ha.chk).2.2.2.2
                have gb := (chkV_open b hb.chk).2.2.2.2
                unfold good at ga gb
                rw [hk.1] at ga
                rw [hk.2] at gb
                simp [str_data] at ga gb
                exact okR_ok (ok_txt _ (by rw [List.length_append]; omega) (by rw [valid_app _ _ _ (Nat.le_refl _) ga]; exact gb))
          · exact b2
        · split
          · exact okR_ok hb
          · unfold cmpE
            repeat' split
            all_goals first | exact okR_ok ok_nul | exact okR_ok (ok_boo _) | exact b2
theorem okR_comb (op : Int) : ∀ l : List RE, (∀ r ∈ l, OkR r) → OkR (combE op l)
  | [], _ => okR_bad 0 (by decide) (by decide)
  | [a], h => by
    have ha := h a (by simp)
    simp only [combE]
    split
    · exact okR_bad _ ha.f0 ha.f1
    · exact okR_op1 _ _ ha.v
  | [a, b], h => by
    have ha := h a (by simp)
    have hb := h b (by simp)
    simp only [combE]
    split
    · exact okR_bad _ ha.f0 ha.f1
    · split
      · exact okR_ok ha.v
      · split
        · exact okR_bad _ hb.f0 hb.f1
        · exact okR_op2 _ _ _ ha.v hb.v
  | _ :: _ :: _ :: _, _ => okR_bad 0 (by decide) (by decide)
theorem ok_ev (cs : List Cl) (row : List Vl) (hr : ∀ v ∈ row, OkV v) : ∀ (n : Nat) (t : T), t.deep ≤ n → FitT t → formT t = 0 → OkR (evT cs row t)
  | 0, t, h, _, _ => by have := T.deep_eq t; omega
  | n + 1, .mk d l, h, hF, hf => by
    obtain ⟨hn, hl⟩ := formT_open d l hf
    obtain ⟨_, hp, _, hv⟩ := nodeF_open d _ hn
    have hdl : deepL l ≤ n := by simp only [T.deep] at h; omega
    simp only [FitT] at hF
    simp only [evT]
    split
    · rename_i h1
      unfold vOk at hv
      rw [if_pos h1] at hv
      simp only [Bool.and_eq_true, beq_iff_eq] at hv
      refine okR_ok ⟨⟨hF.1.1.1, hF.1.1.2, hF.1.2.1, hF.1.2.2, ?_⟩, hv.1⟩
      have := (chkV_open ⟨d.k, d.i, d.b, d.t⟩ hv.1).2.2.1
      simp only at this ⊢
      omega
    · split
      · unfold colE
        split
        · exact okR_bad 5 (by decide) (by decide)
        · split
          · rename_i v hv2
            exact okR_ok (hr v (List.mem_of_getElem? hv2))
          · exact okR_bad 5 (by decide) (by decide)
      · rw [evL_map]
        refine okR_comb _ _ (fun r hrm => ?_)
        obtain ⟨t, ht, rfl⟩ := List.mem_map.1 hrm
        obtain ⟨j, hj⟩ := List.getElem?_of_mem ht
        exact ok_ev cs row hr n t (Nat.le_trans (deepK_mem hj) hdl) (hF.2.mem t ht) (formL_mem l hl t ht)
theorem rowR_ok (row : List Vl) (cs : List Cl) (hV : ∀ v ∈ row, FitV v) (h : rowR row cs = 0) : (∀ v ∈ row, OkV v) ∧ colsR cs = 0 ∧ row.length = cs.length := by
  unfold rowR at h
  by_cases hc : colsR cs = 0
  · rw [if_neg (by rw [hc]; decide)] at h
    by_cases hl : row.length = cs.length
    · rw [if_neg (by simpa using hl)] at h
      refine ⟨?_, hc, hl⟩
      have go : ∀ (r : List Vl) (l : List Cl), r.length = l.length → cellsF r l = 0 → ∀ v ∈ r, chkV v = 0 := by
        intro r
        induction r with
        | nil => intro l _ _ v hv; cases hv
        | cons x r ih =>
          intro l hlen hz v hv
          cases l with
          | nil => cases hlen
          | cons c l =>
            simp only [cellsF] at hz
            by_cases hx : cellF x c = 0
            · rw [if_neg (by rw [hx]; decide)] at hz
              rcases List.mem_cons.1 hv with rfl | hm
              · unfold cellF at hx
                by_cases hq : chkV v = 0
                · exact hq
                · rw [if_pos hq] at hx; exact absurd hx hq
              · exact ih l (by simpa using hlen) hz v hm
            · rw [if_pos hx] at hz; exact absurd hz hx
      intro v hv
      exact ⟨hV v hv, go row cs hl h v hv⟩
    · rw [if_pos hl] at h; cases h
  · rw [if_pos hc] at h; exact absurd h hc
end Go.Proofs.YtfedlchncngafaaGreatDoor
