/-
  CONTRACT of package slots' Rooted.
  CONDITIONS: package sum's roundWords hold what their initialiser lays ('KW').
-/
import Derived.Test.YtcnemacakjemjaaDoorCovC
namespace Go.Proofs.YtcnemacakjemjaaDoor
open Go.RowKit CodeMath Go.Proofs.YtcnemacakjemjaaDoor.FrameMath
set_option linter.unusedVariables false
set_option maxRecDepth 100000

theorem bools_one : ∀ (o : List Bool), o.length = 1 → o.contains true = true → o = [true]
  | [true], _, _ => rfl
  | [false], _, h => by cases h
def nodeX (m : Int) (a : List UInt8) : Option (List UInt8 × List Sl × List (List UInt8)) → Option (List UInt8 × List Sl × List (List UInt8))
  | none => none
  | some (b, S2, R2) => match digR m 2 [a, b] with
    | .err _ => none
    | .ok x => some (x, S2, R2)
def joinX (m : Int) (f : List Sl → List (List UInt8) → Option (List UInt8 × List Sl × List (List UInt8))) : Option (List UInt8 × List Sl × List (List UInt8)) → Option (List UInt8 × List Sl × List (List UInt8))
  | none => none
  | some (a, S1, R1) => nodeX m a (f S1 R1)
theorem nodeX_err {m : Int} {a b : List UInt8} {S : List Sl} {R : List (List UInt8)} {c : Int} (h : digR m 2 [a, b] = .err c) : nodeX m a (some (b, S, R)) = none := by unfold nodeX; simp only [h]
theorem nodeX_ok {m : Int} {a b x : List UInt8} {S : List Sl} {R : List (List UInt8)} (h : digR m 2 [a, b] = .ok x) : nodeX m a (some (b, S, R)) = some (x, S, R) := by unfold nodeX; simp only [h]
theorem rtR_join (m : Int) (h : Nat) (o : List Bool) (S : List Sl) (R : List (List UInt8)) (hc : o.contains true = true) : rtR m (h + 1) o S R = joinX m (rtR m h (o.drop (2 ^ h))) (rtR m h (o.take (2 ^ h)) S R) := by
  have e : rtR m (h + 1) o S R = (match rtR m h (o.take (2 ^ h)) S R with
      | none => none
      | some (a, S1, R1) => match rtR m h (o.drop (2 ^ h)) S1 R1 with
        | none => none
        | some (b, S2, R2) => match digR m 2 [a, b] with
          | .err _ => none
          | .ok x => some (x, S2, R2)) := by
    show (if o.contains true then _ else _) = _
    rw [hc]; rfl
  rw [e]
  cases rtR m h (o.take (2 ^ h)) S R with
  | none => rfl
  | some t1 =>
    obtain ⟨a, S1, R1⟩ := t1
    show _ = nodeX m a (rtR m h (o.drop (2 ^ h)) S1 R1)
    simp only
    cases rtR m h (o.drop (2 ^ h)) S1 R1 with
    | none => rfl
    | some t2 => rfl
def CallX (X : Option (List UInt8 × List Sl × List (List UInt8))) (v : Value) (w : World) : Prop := match X with
  | none => ∃ (u : Value) (c : Int), v = .tuple #[u, .int .i64 c] ∧ c ≠ 0
  | some t => ∃ u, v = .tuple #[u, .int .i64 0] ∧ RowV w u t.1
def HeadX (X : Option (List UInt8 × List Sl × List (List UInt8))) (v : Value) (w : World) : Prop := match X with
  | none => True
  | some t => RowV w v t.1
def CodeX (X : Option (List UInt8 × List Sl × List (List UInt8))) (v : Value) : Prop := match X with
  | none => ∃ c : Int, v = .int .i64 c ∧ c ≠ 0
  | some _ => v = .int .i64 0
end Go.Proofs.YtcnemacakjemjaaDoor
