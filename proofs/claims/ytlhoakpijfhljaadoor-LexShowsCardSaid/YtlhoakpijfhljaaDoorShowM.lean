/-
  PLAIN WORDS of package lex's Show: the text of a quote.
  CONDITIONS: each theorem's own hypotheses.
-/
import Derived.Test.YtlhoakpijfhljaaDoorCutE
import Derived.Lib.ValidLaws
import Derived.Lib.MapLaws
import Derived.Lib.TrimU
namespace Go.Proofs.YtlhoakpijfhljaaDoor
open Go.RowKit
set_option linter.unusedVariables false
set_option maxRecDepth 100000

/-- Every mark twice. -/
def bodyQ (l : List UInt8) : List UInt8 := l.flatMap fun c => if c = 39 then [39, 39] else [c]
theorem bodyQ_append (a b : List UInt8) : bodyQ (a ++ b) = bodyQ a ++ bodyQ b := by unfold bodyQ; rw [List.flatMap_append]
theorem bodyQ_free : ∀ l : List UInt8, (∀ x ∈ l, x ≠ 39) → bodyQ l = l
  | [], _ => rfl
  | c :: l, h => by
    show (if c = 39 then [39, 39] else [c]) ++ bodyQ l = _
    rw [if_neg (h c (List.mem_cons_self ..)), bodyQ_free l (fun x hx => h x (List.mem_cons_of_mem _ hx))]
    rfl
theorem bodyQ_len : ∀ l : List UInt8, (bodyQ l).length ≤ 2 * l.length
  | [] => by simp [bodyQ]
  | c :: l => by
    have := bodyQ_len l
    have e : bodyQ (c :: l) = (if c = 39 then [39, 39] else [c]) ++ bodyQ l := rfl
    rw [e, List.length_append]
    by_cases h : c = 39 <;> simp [h] <;> omega
theorem quote_rune (l : List UInt8) (pos : Nat) (h : pos < l.length) (hv : Lib.validD (l.drop pos) = true) :
    1 ≤ (Utf8.decode (str l) pos).2 ∧ pos + (Utf8.decode (str l) pos).2 ≤ l.length ∧ (Utf8.decode (str l) pos).1 ≤ 1114111 ∧ Lib.validD (l.drop (pos + (Utf8.decode (str l) pos).2)) = true ∧
    bodyQ (l.take (pos + (Utf8.decode (str l) pos).2)) = (if (Utf8.decode (str l) pos).1 = 39 then bodyQ (l.take pos) ++ [39] else bodyQ (l.take pos)) ++ Lib.encodeRune ((Utf8.decode (str l) pos).1 : Int) := by
  have e := Lib.decodeL_drop (str l) pos
  rw [str_data] at e
  rw [← e]
  have hd := List.drop_eq_getElem_cons h
  have hne : l.drop pos ≠ [] := fun e0 => by rw [hd] at e0; cases e0
  have hw := Lib.decodeL_width (l.drop pos)
  have hle := Lib.decodeL_le (l.drop pos) hne
  have hru := Lib.decodeL_rune (l.drop pos)
  rw [List.length_drop] at hle
  rw [Lib.validD_step _ hne] at hv
  by_cases hb : (Lib.decodeL (l.drop pos)).1 = 65533 ∧ (Lib.decodeL (l.drop pos)).2 = 1
  · rw [if_pos hb] at hv; cases hv
  · rw [if_neg hb, List.drop_drop] at hv
    have hen := Lib.encode_decode _ hne hb
    refine ⟨hw, by omega, hru, hv, ?_⟩
    rw [hen, List.take_add, bodyQ_append]
    obtain ⟨f1, f2⟩ := dec_facts l[pos] (l.drop (pos + 1))
    rw [← hd] at f1 f2
    by_cases hc : l[pos] = 39
    · rw [f1 hc]
      have e1 : (l.drop pos).take 1 = [39] := by rw [hd, hc]; rfl
      simp only [e1, if_true]
      rw [List.append_assoc]
      rfl
    · obtain ⟨g1, g2⟩ := f2 hc
      rw [if_neg g1, bodyQ_free ((l.drop pos).take (Lib.decodeL (l.drop pos)).2) (fun x hx => by
        obtain ⟨j, hj, rfl⟩ := List.getElem_of_mem hx
        have hj2 := hj
        rw [List.length_take] at hj2
        refine g2 j _ (by omega) ?_
        rw [List.getElem_take]
        exact List.getElem?_eq_getElem (by omega))]
end Go.Proofs.YtlhoakpijfhljaaDoor
