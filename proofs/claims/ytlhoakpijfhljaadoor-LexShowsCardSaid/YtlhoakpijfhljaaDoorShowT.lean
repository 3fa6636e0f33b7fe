/-
  CONTRACT of package lex's Show.
  CONDITIONS: each theorem's own hypotheses; what 'SEnv' says.
-/
import Derived.Test.YtlhoakpijfhljaaDoorHexS
import Derived.Test.YtlhoakpijfhljaaDoorCutH
import Derived.Lib.ItoaLen
namespace Go.Proofs.YtlhoakpijfhljaaDoor
open Go.RowKit
set_option linter.unusedVariables false
set_option maxRecDepth 100000

def shT (t : Tok) : List UInt8 := shownT (fun b => 35 :: hex16 b.toNat) t.k t.s t.i t.b
def okT (t : Tok) : Int := tokC t.k t.s t.i t.b
def FitT (t : Tok) : Prop := 0 ≤ t.b ∧ t.b ≤ 18446744073709551615 ∧ -9223372036854775808 ≤ t.i ∧ t.i ≤ 9223372036854775807 ∧ t.s.length ≤ 9223372036854775807
def textT : List Tok → List UInt8
  | [] => []
  | t :: l => shT t ++ l.flatMap fun u => 32 :: shT u
theorem textT_snoc (l : List Tok) (t : Tok) (h : l ≠ []) : textT (l ++ [t]) = textT l ++ [32] ++ shT t := by
  cases l with
  | nil => exact absurd rfl h
  | cons u l => simp [textT, List.flatMap_append]
inductive SR where
  | err (e : Int)
  | ok (s : List UInt8)
def showR (l : List Tok) : SR := if 100 < l.length then .err 1 else match l.find? (fun t => okT t != 0) with
  | some t => .err (okT t)
  | none => if 300 < (textT l).length then .err 1 else .ok (textT l)
theorem hexAll_len : ∀ (f u : Nat) (t : List UInt8), (hexAll f u t).length = t.length + f + 1
  | 0, u, t => by simp [hexAll]
  | f + 1, u, t => by
    simp only [hexAll]
    rw [hexAll_len f]; simp; omega
theorem tok_ok {k i b : Int} {s : List UInt8} (h : tokC k s i b = 0) : (k = 4 → s.length ≤ 40 ∧ Lib.validD s = true) ∧ (k = 1 ∨ k = 2 → s.length ≤ 8) ∧ (k ≠ 1 → k ≠ 2 → k ≠ 3 → k ≠ 4 → k ≠ 5 → s.length ≤ 2) := by
  unfold tokC at h
  split at h
  · cases h
  · split at h
    · cases h
    · rename_i hk hl
      split at h
      · rename_i hg
        simp only [Bool.and_eq_true] at hg
        refine ⟨?_, ?_, ?_⟩
        · rintro rfl
          have h2 := hg.2
          simp only [goodT] at h2
          simp only [tooL] at hl
          simp at hl h2
          exact ⟨hl, h2⟩
        · intro hkk
          unfold tooL at hl
          rw [if_pos hkk] at hl
          simpa using hl
        · intro n1 n2 n3 n4 n5
          have h2 := hg.2
          unfold goodT at h2
          rw [if_neg n1, if_neg n2, if_neg n3, if_neg n4, if_neg n5] at h2
          unfold signB at h2
          have hall : ∀ x ∈ signsL, x.length ≤ 2 := by decide
          exact hall _ (List.contains_iff_mem.1 h2)
      · cases h
theorem shT_len (t : Tok) (hf : FitT t) (h : okT t = 0) : (shT t).length ≤ 100 := by
  obtain ⟨h4, h12, h6⟩ := tok_ok h
  unfold shT shownT
  by_cases k3 : t.k = 3
  · rw [if_pos k3]
    have := Lib.itoa_length_le t.i hf.2.2.1 hf.2.2.2.1
    omega
  rw [if_neg k3]
  by_cases k4 : t.k = 4
  · rw [if_pos k4]
    have := bodyQ_len t.s
    have := (h4 k4).1
    simp; omega
  rw [if_neg k4]
  by_cases k5 : t.k = 5
  · rw [if_pos k5]
    simp only [hex16, List.length_cons, hexAll_len, List.length_nil]
    omega
  rw [if_neg k5]
  by_cases k1 : t.k = 1 ∨ t.k = 2
  · have := h12 k1; omega
  · have := h6 (fun e => k1 (.inl e)) (fun e => k1 (.inr e)) k3 k4 k5
    omega
theorem textT_len : ∀ (l : List Tok), (∀ t ∈ l, FitT t ∧ okT t = 0) → (textT l).length ≤ 101 * l.length
  | [], _ => by simp [textT]
  | t :: l, h => by
    have h1 := shT_len t (h t (List.mem_cons_self ..)).1 (h t (List.mem_cons_self ..)).2
    have h2 : ∀ (m : List Tok), (∀ t ∈ m, FitT t ∧ okT t = 0) → (m.flatMap fun u => 32 :: shT u).length ≤ 101 * m.length := by
      intro m
      induction m with
      | nil => intro _; simp
      | cons u m ih =>
        intro hm
        have := ih (fun x hx => hm x (List.mem_cons_of_mem _ hx))
        have h3 := shT_len u (hm u (List.mem_cons_self ..)).1 (hm u (List.mem_cons_self ..)).2
        simp only [List.flatMap_cons, List.length_append, List.length_cons] at *
        omega
    have := h2 l (fun x hx => h x (List.mem_cons_of_mem _ hx))
    simp only [textT, List.length_append, List.length_cons]
    omega
/-- What Show asks of the world. -/
structure SEnv (w : World) : Prop where
  sw : SW w
  tabs : Tabs w
  pw : ∀ W, Below w.heap.size w W → PW W
  db : ∀ W, Below w.heap.size w W → DB W
theorem SEnv.keep {w w1 : World} (h : SEnv w) (hb : Below w.heap.size w w1) : SEnv w1 := ⟨h.sw.keep hb (Nat.le_refl _), tabs_below h.tabs hb, fun W hW => h.pw W (below_stepL hb hb.size hW), fun W hW => h.db W (below_stepL hb hb.size hW)⟩
theorem shown_any (t : Tok) (w : World) (hf : FitT t) (h : okT t = 0) (hE : SEnv w) :
    Calls Tryd.prog 9 #[.agg #[.int .i64 t.k, .string (str t.s), .int .i64 t.i, .int .u64 t.b]] w fun e w' => e = .returned (.string (str (shT t))) ∧ Below w.heap.size w w' := by
  obtain ⟨h4, h12, h6⟩ := tok_ok h
  obtain ⟨k, s, i, b⟩ := t
  unfold shT shownT
  obtain ⟨f0, f1, f2, f3, f4⟩ := hf
  simp only at h4 h12 h6 f0 f1 f2 f3 f4 ⊢
  by_cases k3 : k = 3
  · subst k3
    rw [if_pos rfl]; exact shown_num _ i b w f2 f3 hE.pw
  rw [if_neg k3]
  by_cases k4 : k = 4
  · subst k4
    rw [if_pos rfl]; exact shown_quote s i b w (by have := (h4 rfl).1; omega) (h4 rfl).2
  rw [if_neg k4]
  by_cases k5 : k = 5
  · subst k5
    rw [if_pos rfl]; exact shown_hex _ i b w f0 f1 hE.db
  rw [if_neg k5]
  exact shown_text k _ i b w (by simpa using k3) (by simpa using k4) (by simpa using k5)
theorem Bld.below {w w' : World} {B b : Nat} {l : List UInt8} (h : Bld w B b l) (hb : Below w.heap.size w w') : Bld w' B b l := by
  have one : ∀ p, Lib.BuilderAtF 30 5 B b p (Lib.byteCells l) w → Lib.BuilderAtF 30 5 B b p (Lib.byteCells l) w' := fun p hp => by
    have hlt := hp.lt
    obtain ⟨h1, v, h2, h3, h4⟩ := hp
    exact ⟨h1, v, (hb.block b hlt).trans h2, h3.kept (row := none) ⟨hb.os, hb.tape, hb.output, hb.size, fun k hk _ => hb.block k hk⟩ (Classical.em _), h4⟩
  rcases h with h | h
  · exact .inl (one _ h)
  · exact .inr (one _ h)
end Go.Proofs.YtlhoakpijfhljaaDoor
