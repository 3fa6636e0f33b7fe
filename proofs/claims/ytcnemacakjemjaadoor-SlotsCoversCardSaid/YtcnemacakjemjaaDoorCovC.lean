/-
  CONTRACT of package slots' Rooted: its closure, by induction on the height.
  CONDITIONS: package sum's roundWords hold what their initialiser lays ('KW').
-/
import Derived.Test.YtcnemacakjemjaaDoorCovB
namespace Go.Proofs.YtcnemacakjemjaaDoor
open Go.RowKit CodeMath Go.Proofs.YtcnemacakjemjaaDoor.FrameMath
set_option linter.unusedVariables false
set_option maxRecDepth 100000

/-- Rows whose cells are bytes lie in no cover's block. -/
theorem RowV.off {w w' : World} {g : Nat} {s r u : Value} {l : List UInt8} (h : RowV w u l) (hC : ∃ a n k a' n' k', CovB w g (.slice a n k) (.slice a' n' k')) (hg : w.grownBy w' (some g)) : RowV w' u l := by
  obtain ⟨a, n, k, a', n', k', hC⟩ := hC
  obtain ⟨ao, cap, h1, h2, h3, h4, h5⟩ := h
  refine ⟨ao, cap, h1, h2, h3, h4, ?_⟩
  rcases h5 with h | ⟨b, o, e1, e2, e3⟩
  · exact .inl h
  · cases l with
    | nil => exact .inl rfl
    | cons x l =>
      have hne : b ≠ g := fun he => by
        have q := e3 0 x rfl
        rw [he, cell_of_block hC] at q
        rcases (show o + 0 = 0 ∨ o + 0 = 1 ∨ 2 ≤ o + 0 by omega) with h | h | h
        · rw [h] at q; simp at q
        · rw [h] at q; simp at q
        · rw [List.getElem?_toArray, List.getElem?_eq_none (by simpa using h)] at q; cases q
      exact .inr ⟨b, o, e1, Nat.lt_of_lt_of_le e2 hg.size, fun j y hy => hg.cell (e3 j y hy) (by simpa using hne)⟩
theorem rtR_len (m : Int) (B : Nat) (hB : 16777300 ≤ B) : ∀ (h : Nat) (o : List Bool) (S : List Sl) (R : List (List UInt8)) (x : List UInt8) (S' : List Sl) (R' : List (List UInt8)), (∀ r ∈ R, r.length ≤ B) → rtR m h o S R = some (x, S', R') → x.length ≤ B ∧ ∀ r ∈ R', r.length ≤ B
  | h, o, S, R, x, S', R', hR, he => by
    cases hc : o.contains true with
    | false =>
      rw [rtR_none m h o S R hc] at he
      cases R with
      | nil => cases he
      | cons r R =>
        simp only [Option.some.injEq, Prod.mk.injEq] at he
        obtain ⟨rfl, rfl, rfl⟩ := he
        exact ⟨hR _ (by simp), fun y hy => hR y (List.mem_cons_of_mem _ hy)⟩
    | true =>
      cases h with
      | zero =>
        unfold rtR at he
        rw [hc] at he
        simp only [if_true] at he
        cases S with
        | nil => cases he
        | cons s S =>
          simp only at he
          cases hl : leafR m s.f s.s s.d with
          | err e => rw [hl] at he; cases he
          | ok b =>
            rw [hl] at he
            simp only [Option.some.injEq, Prod.mk.injEq] at he
            obtain ⟨rfl, rfl, rfl⟩ := he
            exact ⟨by have := leafR_length _ _ _ _ _ hl; omega, hR⟩
      | succ h =>
        unfold rtR at he
        rw [hc] at he
        simp only [if_true] at he
        cases h1 : rtR m h (o.take (2 ^ h)) S R with
        | none => rw [h1] at he; cases he
        | some t1 =>
          obtain ⟨a, S1, R1⟩ := t1
          rw [h1] at he
          simp only at he
          cases h2 : rtR m h (o.drop (2 ^ h)) S1 R1 with
          | none => rw [h2] at he; cases he
          | some t2 =>
            obtain ⟨b, S2, R2⟩ := t2
            rw [h2] at he
            simp only at he
            cases hd : digR m 2 [a, b] with
            | err c => rw [hd] at he; cases he
            | ok y =>
              rw [hd] at he
              simp only [Option.some.injEq, Prod.mk.injEq] at he
              obtain ⟨rfl, rfl, rfl⟩ := he
              have i1 := rtR_len m B hB h _ _ _ _ _ _ hR h1
              have i2 := rtR_len m B hB h _ _ _ _ _ _ i1.2 h2
              exact ⟨by have := digR_len hd; omega, i2.2⟩
def takeX (S : List Sl) : List (List UInt8) → Option (List UInt8 × List Sl × List (List UInt8))
  | [] => none
  | r :: R' => some (r, S, R')
end Go.Proofs.YtcnemacakjemjaaDoor
