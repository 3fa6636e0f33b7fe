/-
  PLAIN: what is shown is cut again.
  CONDITIONS: each theorem's own hypotheses.
-/
import Derived.Test.YtlhoakpijfhljaaGreatDoorBackN
namespace Go.Proofs.YtlhoakpijfhljaaGreatDoor
open Go.RowKit
set_option linter.unusedVariables false
set_option maxRecDepth 100000

theorem gap_zero (c : UInt8) (l : List UInt8) (h1 : isBl c = false) (h2 : c ≠ 45) : gapR (c :: l) = 0 := by
  have hb : blanks (c :: l) = 0 := by unfold blanks; rw [List.takeWhile_cons_of_neg (by rw [h1]; decide)]; rfl
  have hp : Lib.hasPrefix (c :: l) [45, 45] = false := by
    cases hh : Lib.hasPrefix (c :: l) [45, 45] with
    | false => rfl
    | true =>
      exfalso
      have h3 := Lib.hasPrefix_of_take (c :: l) [45, 45]
      rw [hh] at h3
      cases l with
      | nil => simp at h3
      | cons d l => simp at h3; exact h2 h3.1
  have hs : stepG (c :: l) = 0 := by
    unfold stepG
    rw [hb, if_neg (Nat.lt_irrefl 0)]
    unfold remL
    rw [if_neg (by rw [hp]; decide)]
  rw [gapR_step, hs, if_pos rfl]
theorem gap_blank (c : UInt8) (l : List UInt8) (h1 : isBl c = false) (h2 : gapR (c :: l) = 0) : gapR (32 :: c :: l) = 1 := by
  have hb : blanks (32 :: c :: l) = 1 := by
    unfold blanks
    rw [List.takeWhile_cons_of_pos (by decide), List.takeWhile_cons_of_neg (by rw [h1]; decide)]; rfl
  have hs : stepG (32 :: c :: l) = 1 := by
    unfold stepG
    rw [hb, if_pos Nat.one_pos]
  rw [gapR_step, hs, if_neg (by decide)]
  show 1 + gapR (c :: l) = 1
  rw [h2]
theorem small_bl {c : UInt8} (h : isSm c = true ∨ isGr c = true ∨ isDi c = true) : isBl c = false ∧ c ≠ 45 := by
  have := all_bytes (P := fun c => !(isSm c || isGr c || isDi c) || (!isBl c && !(c == 45))) (by decide +kernel) c
  rcases h with h | h | h <;> simpa [h] using this
/-- How what is shown begins. -/
theorem shT_head (t : Tok) (hf : FitT t) (h : okT t = 0) (r : List UInt8) (hr : Behind r) : ∃ c l, shT t = c :: l ∧ isBl c = false ∧ gapR (shT t ++ r) = 0 := by
  obtain ⟨k, s, i, b⟩ := t
  have h' : tokC k s i b = 0 := h
  obtain ⟨k1, k6, ho, hg⟩ := tok_word h'
  unfold shT shownT
  simp only
  rcases (show k = 1 ∨ k = 2 ∨ k = 3 ∨ k = 4 ∨ k = 5 ∨ k = 6 by omega) with rfl | rfl | rfl | rfl | rfl | rfl
  · have hn : nameB s = true := by simpa [goodT] using hg
    cases s with
    | nil => cases hn
    | cons c s =>
      simp only [nameB, Bool.and_eq_true] at hn
      obtain ⟨e1, e2⟩ := small_bl (.inl hn.1)
      exact ⟨c, s, rfl, e1, gap_zero c _ e1 e2⟩
  · have hn : wordB s = true := by simpa [goodT] using hg
    cases s with
    | nil => cases hn
    | cons c s =>
      have hc : isGr c = true := by
        have : (c :: s).all isGr = true := by simpa [wordB] using hn
        simp only [List.all_cons, Bool.and_eq_true] at this; exact this.1
      obtain ⟨e1, e2⟩ := small_bl (.inr (.inl hc))
      exact ⟨c, s, rfl, e1, gap_zero c _ e1 e2⟩
  · have hi : 0 ≤ i := by simpa [goodT] using hg
    obtain ⟨u, rfl⟩ : ∃ u : Nat, i = (u : Int) := ⟨i.toNat, by omega⟩
    have e : Lib.itoa (u : Int) = Lib.decDigits u := by unfold Lib.itoa; rw [if_neg (by omega)]; simp
    obtain ⟨d1, _, _, d4⟩ := dec_all u
    show ∃ c l, Lib.itoa (u : Int) = c :: l ∧ isBl c = false ∧ gapR (Lib.itoa (u : Int) ++ r) = 0
    rw [e]
    generalize Lib.decDigits u = D at *
    cases D with
    | nil => exact absurd rfl d4
    | cons c d =>
      have hc : isDi c = true := by simp only [List.all_cons, Bool.and_eq_true] at d1; exact d1.1
      obtain ⟨e1, e2⟩ := small_bl (.inr (.inr hc))
      exact ⟨c, d, rfl, e1, gap_zero c _ e1 e2⟩
  · exact ⟨39, _, rfl, by decide, gap_zero 39 _ (by decide) (by decide)⟩
  · exact ⟨35, _, rfl, by decide, gap_zero 35 _ (by decide) (by decide)⟩
  · have hn : signB s = true := by simpa [goodT] using hg
    have hm : s ∈ signsL := List.contains_iff_mem.1 hn
    show ∃ c l, s = c :: l ∧ isBl c = false ∧ gapR (s ++ r) = 0
    simp only [signsL, List.mem_cons, List.mem_nil_iff, or_false] at hm
    by_cases h45 : s = [45]
    · subst h45
      refine ⟨45, [], rfl, by decide, ?_⟩
      rcases hr with rfl | ⟨c, q, hc, rfl⟩
      · decide
      · rcases bl_three c hc with rfl | rfl | rfl <;> (rw [gapR_step]; rfl)
    · rcases hm with rfl | rfl | rfl | rfl | rfl | rfl | rfl | rfl | rfl | rfl | rfl | rfl | rfl | rfl | rfl | rfl
      all_goals first
        | exact absurd rfl h45
        | exact ⟨_, _, rfl, by decide, gap_zero _ _ (by decide) (by decide)⟩
theorem cut_text : ∀ (m : List Tok) (l : List UInt8) (p f : Nat) (acc : List Tok), (∀ t ∈ m, FitT t ∧ okT t = 0) → p ≤ l.length → l.drop p = textT m → l.length < f + p → acc.length + m.length ≤ 100 → cutF f l p acc = .ok (acc ++ m)
  | [], l, p, f, acc, hm, hp, hd, hf, ha => by
    have h := congrArg List.length hd
    rw [List.length_drop] at h
    simp [textT] at h
    rw [cutF_end f l p acc (by omega)]; simp
  | t :: m, l, p, f, acc, hm, hp, hd, hf, ha => by
    have ht := hm t (List.mem_cons_self ..)
    have hb : Behind (m.flatMap fun u => 32 :: shT u) := by
      cases m with
      | nil => exact .inl rfl
      | cons u m => exact .inr ⟨32, _, rfl, rfl⟩
    have e : l.drop p = shT t ++ (m.flatMap fun u => 32 :: shT u) := hd
    have hbk := back_any t ht.1 ht.2 _ hb
    obtain ⟨c, tl, hs, _, _⟩ := shT_head t ht.1 ht.2 _ hb
    have hlen := congrArg List.length e
    rw [List.length_drop, List.length_append] at hlen
    have hpos : 1 ≤ (shT t).length := by rw [hs]; simp
    simp only [List.length_cons] at ha
    obtain ⟨_, k2⟩ := cutF_more f l p acc (by omega) hf (by omega)
    rw [e] at k2
    obtain ⟨f', g1, g2, g3, _⟩ := k2 t _ hbk
    rw [g2]
    have hdn : l.drop (p + (shT t).length) = m.flatMap fun u => 32 :: shT u := by
      rw [← List.drop_drop, e, List.drop_left]
    rw [hdn] at g1 g3 ⊢
    cases m with
    | nil =>
      have hg0 : gapR (([] : List Tok).flatMap fun u => 32 :: shT u) = 0 := by decide
      rw [hg0] at g1 g3 ⊢
      rw [cutF_end _ _ _ _ (by simp at hlen; omega)]
    | cons u m =>
      have hu := hm u (List.mem_cons_of_mem _ (List.mem_cons_self ..))
      have hb2 : Behind (m.flatMap fun u => 32 :: shT u) := by
        cases m with
        | nil => exact .inl rfl
        | cons u m => exact .inr ⟨32, _, rfl, rfl⟩
      obtain ⟨c2, tl2, hs2, hbl2, hg2⟩ := shT_head u hu.1 hu.2 _ hb2
      have hgap : gapR ((u :: m).flatMap fun u => 32 :: shT u) = 1 := by
        show gapR (32 :: (shT u ++ m.flatMap fun u => 32 :: shT u)) = 1
        rw [hs2, List.cons_append] at hg2 ⊢
        exact gap_blank c2 _ hbl2 hg2
      rw [hgap] at g1 g3 ⊢
      have := cut_text (u :: m) l (p + (shT t).length + 1) f' (acc ++ [t]) (fun x hx => hm x (List.mem_cons_of_mem _ hx)) g3 (by rw [← List.drop_drop, hdn]; rfl) g1 (by simp only [List.length_append, List.length_cons, List.length_nil] at ha ⊢; omega)
      rw [this]; simp
/-- What is shown is cut again. -/
theorem cut_show (l : List Tok) (h : ∀ t ∈ l, FitT t ∧ okT t = 0) (h1 : l.length ≤ 100) (h2 : (textT l).length ≤ 300) : cutR (textT l) = .ok l := by
  unfold cutR
  rw [if_neg (by omega)]
  have hg : gapR (textT l) = 0 := by
    cases l with
    | nil => decide
    | cons t m =>
      have ht := h t (List.mem_cons_self ..)
      have hb : Behind (m.flatMap fun u => 32 :: shT u) := by
        cases m with
        | nil => exact .inl rfl
        | cons u m => exact .inr ⟨32, _, rfl, rfl⟩
      obtain ⟨_, _, _, _, hg⟩ := shT_head t ht.1 ht.2 _ hb
      exact hg
  rw [hg, cut_text l (textT l) 0 _ [] h (Nat.zero_le _) (by rw [List.drop_zero]) (by omega) (by simpa using h1)]
  rfl
end Go.Proofs.YtlhoakpijfhljaaGreatDoor
