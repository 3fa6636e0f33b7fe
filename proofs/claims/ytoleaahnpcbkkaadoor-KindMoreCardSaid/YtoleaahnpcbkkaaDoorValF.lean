/-
  CONTRACTS of package value's checkBoth and of the reference's faults (over a slice of values), Compare, Compared.
  CONDITIONS: each theorem's own hypotheses.
-/
import Derived.Test.YtoleaahnpcbkkaaDoorValC
import Derived.Test.YtoleaahnpcbkkaaDoorValE
namespace Go.Proofs.YtoleaahnpcbkkaaDoor
open Go.RowKit
set_option linter.unusedVariables false

/-- A value's four fields. -/
structure V where
  k : Int
  i : Int
  b : Int
  s : ByteArray
/-- Its fields are numbers of 64 bits, its text is a string. -/
structure V.Fits (v : V) : Prop where
  k0 : -9223372036854775808 ≤ v.k
  k1 : v.k ≤ 9223372036854775807
  i0 : -9223372036854775808 ≤ v.i
  i1 : v.i ≤ 9223372036854775807
  b0 : 0 ≤ v.b
  b1 : v.b ≤ 18446744073709551615
  s1 : v.s.size ≤ 9223372036854775807
def V.chk (v : V) : Int := Go.Proofs.YtoleaahnpcbkkaaDoor.chk v.k v.i v.b v.s
def firstFault : List V → Int
  | [] => 0
  | v :: l => if v.chk = 0 then firstFault l else v.chk

theorem firstFault_cons (v : V) (l : List V) : firstFault (v :: l) = if v.chk = 0 then firstFault l else v.chk := rfl

/-- The cells of a list of values from an address on. -/
def Lies (w : World) (a : Nat) (o : Nat) (l : List V) : Prop :=
  ∀ j v, l[j]? = some v → w.cell? ⟨a, o + j * 4, none⟩ = some (.int .i64 v.k) ∧ w.cell? ⟨a, o + j * 4 + 1, none⟩ = some (.int .i64 v.i) ∧ w.cell? ⟨a, o + j * 4 + 2, none⟩ = some (.int .u64 v.b) ∧ w.cell? ⟨a, o + j * 4 + 3, none⟩ = some (.string v.s)

/-- What is wrong with two values, with the first one first. -/
def chk2 (v u : V) : Int := if v.chk = 0 then u.chk else v.chk

end Go.Proofs.YtoleaahnpcbkkaaDoor
