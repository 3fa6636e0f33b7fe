/-
  PLAIN: tokens with gaps of any kind between them are cut again, up to what comes behind them.
  CONDITIONS: each theorem's own hypotheses.
-/
import Derived.Test.YtlhoakpijfhljaaGreatDoorBackC
namespace Go.Proofs.YtlhoakpijfhljaaGreatDoor
open Go.RowKit
set_option linter.unusedVariables false
set_option maxRecDepth 100000

/-- A gap that says nothing, whatever comes behind it. -/
def GapG (g : List UInt8) : Prop := (∃ c q, isBl c = true ∧ g = c :: q) ∧ ∀ r, gapR r = 0 → gapR (g ++ r) = g.length
theorem stop_zero {r : List UInt8} (h : gapR r = 0) : blanks r = 0 ∧ remL r = 0 := by
  have h1 : stepG r = 0 := by
    by_cases hs : stepG r = 0
    · exact hs
    · rw [gapR_step, if_neg hs] at h; omega
  unfold stepG at h1
  by_cases hb : 0 < blanks r
  · rw [if_pos hb] at h1; omega
  · rw [if_neg hb] at h1; exact ⟨by omega, h1⟩
theorem blanks_app : ∀ (b r : List UInt8), b.all isBl = true → blanks (b ++ r) = b.length + blanks r
  | [], r, _ => by simp
  | c :: b, r, h => by
    simp only [List.all_cons, Bool.and_eq_true] at h
    have := blanks_app b r h.2
    unfold blanks at this ⊢
    rw [List.cons_append, List.takeWhile_cons_of_pos h.1, List.length_cons, this, List.length_cons]; omega
theorem gap_blanks (b r : List UInt8) (hb : b.all isBl = true) (h : gapR r = 0) : gapR (b ++ r) = b.length := by
  obtain ⟨h0, h1⟩ := stop_zero h
  have e : blanks (b ++ r) = b.length := by rw [blanks_app b r hb, h0]; rfl
  rw [gap_two, e, List.drop_left, h1]
  by_cases hz : b.length = 0
  · rw [if_pos (by omega)]; omega
  · rw [if_neg (by omega), Nat.add_zero, List.drop_left, h]; omega
theorem notNl_app : ∀ (x r : List UInt8), x.all notNl = true → (x ++ 10 :: r).takeWhile notNl = x
  | [], r, _ => rfl
  | c :: x, r, h => by
    simp only [List.all_cons, Bool.and_eq_true] at h
    rw [List.cons_append, List.takeWhile_cons_of_pos h.1, notNl_app x r h.2]
/-- Blanks, a remark, and the line's end. -/
theorem gap_remark (b x r : List UInt8) (hb : b.all isBl = true) (hx : x.all notNl = true) (h : gapR r = 0) : gapR (b ++ (45 :: 45 :: (x ++ 10 :: r))) = b.length + 2 + x.length + 1 := by
  have e0 : blanks (45 :: 45 :: (x ++ 10 :: r)) = 0 := rfl
  have e : blanks (b ++ (45 :: 45 :: (x ++ 10 :: r))) = b.length := by rw [blanks_app b _ hb, e0]; rfl
  have e1 : remL (45 :: 45 :: (x ++ 10 :: r)) = 2 + x.length := by
    have hp : Lib.hasPrefix (45 :: 45 :: (x ++ 10 :: r)) [45, 45] = true := rfl
    unfold remL
    rw [if_pos hp]
    have := notNl_app (45 :: 45 :: x) r (by simp only [List.all_cons, hx]; decide)
    rw [List.cons_append, List.cons_append] at this
    rw [this]; simp; omega
  rw [gap_two, e, List.drop_left, e1, if_neg (by omega)]
  have hd : (b ++ (45 :: 45 :: (x ++ 10 :: r))).drop (b.length + (2 + x.length)) = [10] ++ r := by
    rw [← List.drop_drop, List.drop_left]
    have : (45 :: 45 :: (x ++ 10 :: r)).drop (2 + x.length) = 10 :: r := by
      rw [Nat.add_comm]
      show (x ++ 10 :: r).drop x.length = _
      rw [List.drop_left]
    rw [this]; rfl
  rw [hd, gap_blanks [10] r (by decide) h]
  simp; omega
def gapL : Nat → List UInt8
  | 0 => [32]
  | 1 => [9, 10, 32]
  | 2 => [32, 45, 45, 32, 105, 116, 39, 115, 32, 40, 10]
  | _ => [10, 45, 45, 10]
theorem gapL_ok (n : Nat) : GapG (gapL n) := by
  rcases n with _ | _ | _ | n
  · exact ⟨⟨32, _, by decide, rfl⟩, fun r h => gap_blanks [32] r (by decide) h⟩
  · exact ⟨⟨9, _, by decide, rfl⟩, fun r h => gap_blanks [9, 10, 32] r (by decide) h⟩
  · exact ⟨⟨32, _, by decide, rfl⟩, fun r h => gap_remark [32] [32, 105, 116, 39, 115, 32, 40] r (by decide) (by decide) h⟩
  · exact ⟨⟨10, _, by decide, rfl⟩, fun r h => gap_remark [10] [] r (by decide) (by decide) h⟩
theorem gapL_len (n : Nat) : (gapL n).length ≤ 11 ∧ 1 ≤ (gapL n).length := by
  rcases n with _ | _ | _ | n <;> exact ⟨by simp [gapL], by simp [gapL]⟩

/-- Tokens, a gap behind each. -/
def gapsT (m : List (Tok × List UInt8)) : List UInt8 := m.flatMap fun x => shT x.1 ++ x.2
theorem gapsT_zero (m : List (Tok × List UInt8)) (hm : ∀ x ∈ m, (FitT x.1 ∧ okT x.1 = 0) ∧ GapG x.2) (r : List UInt8) (hr : gapR r = 0) : gapR (gapsT m ++ r) = 0 := by
  cases m with
  | nil => exact hr
  | cons x m =>
    obtain ⟨ht, ⟨c, q, hc, hg⟩, _⟩ := hm x (List.mem_cons_self ..)
    have hb : Behind (x.2 ++ (gapsT m ++ r)) := .inr ⟨c, q ++ (gapsT m ++ r), hc, by rw [hg]; rfl⟩
    obtain ⟨_, _, _, _, h⟩ := shT_head x.1 ht.1 ht.2 _ hb
    show gapR ((shT x.1 ++ x.2 ++ gapsT m) ++ r) = 0
    rw [List.append_assoc, List.append_assoc]
    exact h
theorem cut_pre : ∀ (m : List (Tok × List UInt8)) (r l : List UInt8) (p f : Nat) (acc : List Tok), (∀ x ∈ m, (FitT x.1 ∧ okT x.1 = 0) ∧ GapG x.2) → gapR r = 0 → p ≤ l.length → l.drop p = gapsT m ++ r → l.length < f + p → acc.length + m.length ≤ 100 →
    ∃ f', l.length < f' + (p + (gapsT m).length) ∧ p + (gapsT m).length ≤ l.length ∧ l.drop (p + (gapsT m).length) = r ∧ cutF f l p acc = cutF f' l (p + (gapsT m).length) (acc ++ m.map (·.1))
  | [], r, l, p, f, acc, hm, hr, hp, hd, hf, ha => ⟨f, by simpa [gapsT] using hf, by simpa [gapsT] using hp, by simpa [gapsT] using hd, by simp [gapsT]⟩
  | x :: m, r, l, p, f, acc, hm, hr, hp, hd, hf, ha => by
    obtain ⟨ht, ⟨c, q, hc, hg⟩, hgz⟩ := hm x (List.mem_cons_self ..)
    have hm' : ∀ y ∈ m, (FitT y.1 ∧ okT y.1 = 0) ∧ GapG y.2 := fun y hy => hm y (List.mem_cons_of_mem _ hy)
    have hb : Behind (x.2 ++ (gapsT m ++ r)) := .inr ⟨c, q ++ (gapsT m ++ r), hc, by rw [hg]; rfl⟩
    have e : l.drop p = shT x.1 ++ (x.2 ++ (gapsT m ++ r)) := by
      rw [hd]
      show (shT x.1 ++ x.2 ++ gapsT m) ++ r = _
      rw [List.append_assoc, List.append_assoc]
    have hbk := back_any x.1 ht.1 ht.2 _ hb
    obtain ⟨c1, tl, hs, _, _⟩ := shT_head x.1 ht.1 ht.2 _ hb
    have hlen := congrArg List.length e
    rw [List.length_drop, List.length_append] at hlen
    have hpos : 1 ≤ (shT x.1).length := by rw [hs]; simp
    simp only [List.length_cons] at ha
    obtain ⟨_, k2⟩ := cutF_more f l p acc (by omega) hf (by omega)
    rw [e] at k2
    obtain ⟨f', g1, g2, g3, _⟩ := k2 x.1 _ hbk
    have hdn : l.drop (p + (shT x.1).length) = x.2 ++ (gapsT m ++ r) := by
      rw [← List.drop_drop, e, List.drop_left]
    have hgap := hgz _ (gapsT_zero m hm' r hr)
    rw [hdn, hgap] at g1 g2 g3
    have hdn2 : l.drop (p + (shT x.1).length + x.2.length) = gapsT m ++ r := by rw [← List.drop_drop, hdn, List.drop_left]
    obtain ⟨f2, j1, j2, j3, j4⟩ := cut_pre m r l (p + (shT x.1).length + x.2.length) f' (acc ++ [x.1]) hm' hr g3 hdn2 g1 (by simp only [List.length_append, List.length_cons, List.length_nil]; omega)
    have el : p + (gapsT (x :: m)).length = p + (shT x.1).length + x.2.length + (gapsT m).length := by
      show p + (shT x.1 ++ x.2 ++ gapsT m).length = _
      simp only [List.length_append]; omega
    rw [el]
    exact ⟨f2, j1, j2, j3, by rw [g2, j4]; simp⟩
/-- Tokens and gaps alone. -/
theorem cut_gaps (m : List (Tok × List UInt8)) (hm : ∀ x ∈ m, (FitT x.1 ∧ okT x.1 = 0) ∧ GapG x.2) (h1 : m.length ≤ 100) (h2 : (gapsT m).length ≤ 300) : cutR (gapsT m) = .ok (m.map (·.1)) := by
  unfold cutR
  rw [if_neg (by omega)]
  have hg := gapsT_zero m hm [] (by decide)
  rw [List.append_nil] at hg
  rw [hg]
  obtain ⟨f', j1, j2, j3, j4⟩ := cut_pre m [] (gapsT m) 0 ((gapsT m).length + 1) [] hm (by decide) (Nat.zero_le _) (by rw [List.drop_zero, List.append_nil]) (by omega) (by simpa using h1)
  rw [j4, cutF_end _ _ _ _ (by omega)]
  rfl
/-- Behind tokens something that is none. -/
theorem cut_odd (m : List Tok) (c : UInt8) (odd : List UInt8) (e : Int) (hm : ∀ t ∈ m, FitT t ∧ okT t = 0) (h1 : m.length < 100) (h2 : (textT m).length + 1 + (c :: odd).length ≤ 300) (hc : isBl c = false) (h45 : c ≠ 45) (he : firstR (c :: odd) = .err e) :
    cutR (textT m ++ 32 :: c :: odd) = .err ((textT m).length + 1) e := by
  have hz : gapR (c :: odd) = 0 := gap_zero c odd hc h45
  cases m with
  | nil =>
    have hl : (textT [] ++ 32 :: c :: odd).length = odd.length + 2 := by simp [textT]
    unfold cutR
    have e0 : (textT []).length = 0 := rfl
    rw [e0] at h2 ⊢
    simp only [List.length_cons] at h2
    rw [if_neg (by rw [hl]; omega)]
    show cutF _ (32 :: c :: odd) (gapR (32 :: c :: odd)) [] = _
    rw [gap_blank c odd hc hz]
    refine (cutF_more _ _ 1 [] (by simp) (by simp [textT]) (by simp)).1 e he
  | cons t m =>
    -- each token but the last has a blank behind it; so has the last one
    have hg : gapsT ((t :: m).map fun u => (u, [32])) = textT (t :: m) ++ [32] := by
      have aux : ∀ (t : Tok) (m : List Tok), gapsT ((t :: m).map fun u => (u, [32])) = textT (t :: m) ++ [32] := by
        intro t m
        induction m generalizing t with
        | nil => simp [gapsT, textT]
        | cons u m ih =>
          have := ih u
          simp only [gapsT, textT, List.map_cons, List.flatMap_cons] at this ⊢
          rw [this]; simp
      exact aux t m
    have hgood : ∀ x ∈ (t :: m).map (fun u => (u, ([32] : List UInt8))), (FitT x.1 ∧ okT x.1 = 0) ∧ GapG x.2 := by
      intro x hx
      obtain ⟨u, hu, rfl⟩ := List.mem_map.1 hx
      exact ⟨hm u hu, gapL_ok 0⟩
    have hl : textT (t :: m) ++ 32 :: c :: odd = gapsT ((t :: m).map fun u => (u, [32])) ++ (c :: odd) := by rw [hg]; simp
    have hlen : (gapsT ((t :: m).map fun u => (u, [32]))).length = (textT (t :: m)).length + 1 := by rw [hg]; simp
    rw [hl, ← hlen]
    have hgz := gapsT_zero _ hgood (c :: odd) hz
    have h300 : ¬ 300 < (gapsT ((t :: m).map fun u => (u, [32])) ++ (c :: odd)).length := by rw [List.length_append, hlen]; omega
    unfold cutR
    rw [if_neg h300, hgz]
    obtain ⟨f', j1, j2, j3, j4⟩ := cut_pre _ (c :: odd) (gapsT ((t :: m).map fun u => (u, [32])) ++ (c :: odd)) 0 ((gapsT ((t :: m).map fun u => (u, [32])) ++ (c :: odd)).length + 1) [] hgood hz (Nat.zero_le _) (by rw [List.drop_zero]) (by omega) (by simp at h1 ⊢; omega)
    rw [Nat.zero_add] at j1 j2 j3 j4
    rw [j4]
    refine (cutF_more f' _ _ _ (by rw [List.length_append]; simp) j1 (by simp at h1 ⊢; omega)).1 e ?_
    rw [j3]; exact he
end Go.Proofs.YtlhoakpijfhljaaGreatDoor
