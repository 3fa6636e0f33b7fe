/-
  No cell of these rows narrows 'for every input' (looked for: loops, veiled, ifaces, maps, wideKeys, modest, calm, conditions, laid).
  DERIVED. THE GIVEN ROWS OF THIS SEAT. 4 by the template 'for every input the law returns true; each argument reads behind the call as it read before'; 0 by the template 'total and deterministic' (their statements: YtnoloacfelnkbaaTotals.lean).
  GIVEN WITH THE SEED: the statements are not yours to turn. If you find one false, say at which input.
  Laid BY PROGRAM, IN A SANDBOX (cutbox-rows.mjs): the forced cells as the released guide's own fill.sh prints them over the translation e3fd2aae52985514… (all of the seat's roots in one cut). By AI agents, Wed Nov 11 2026. No macro, syntax, notation, axiom, sorry.
-/
import Derived.Test.YtnoloacfelnkbaaChecked
import GoSem.Claim
import GoSem.ClaimJoined
import GoSem.ClaimMapViews
import Derived.JoinedTies
import Derived.KernelRfl
namespace Go.Proofs.Ytnoloacfelnkbaa
/- THE CELL 'sum', in the pinned program and in every row, IS THE sha256 OF THE DUMP (.gsa) THAT YtnoloacfelnkbaaProg.lean LOADS. Nothing in Lean hashes anything: it is a label: what it is worth is what the hold of that sum in a sandbox is worth. -/
noncomputable def Try.pinned : Pinned := { name := "ytnoloacfelnkbaa", sum := "e3fd2aae5298551439a422ed7f073774c76627d6715be348d3d2fd55035f7c74", checked := Try.checked }
namespace Rows
def none {H : Type} : Left H := { results := [], args := [] }

/-- 'chirographlaw.TruthPairs': WHATEVER THE INPUT: true; the input reads as it did. -/
def truthPairsSpec : ChangeSpec := { name := "truthPairs", fn := fun _ => fun
  | [d1, d2] => { results := [.lit (.bool true)], args := [d1, d2] }
  | _ => none }
def truthPairsRow : OpenClaim := { program := "ytnoloacfelnkbaa", sum := "e3fd2aae5298551439a422ed7f073774c76627d6715be348d3d2fd55035f7c74", func := "chirograph/chirographlaw.TruthPairs", spec := "truthPairs", apart := false }
def TruthPairsSaid : Prop := truthPairsRow.holds Try.pinned (OpenSpec.ofChange truthPairsSpec)

/-- ITS FALSE NEIGHBOUR: 'it returns false'. Refute it at one input. -/
def truthPairsWrong : ChangeSpec := { name := "truthPairs", fn := fun _ => fun
  | [d1, d2] => { results := [.lit (.bool false)], args := [d1, d2] }
  | _ => none }
def TruthPairsWrongFalsely : Prop := truthPairsRow.holds Try.pinned (OpenSpec.ofChange truthPairsWrong)

/-- 'chirographlaw.TruthNots': WHATEVER THE INPUT: true; the input reads as it did. -/
def truthNotsSpec : ChangeSpec := { name := "truthNots", fn := fun _ => fun
  | [d] => { results := [.lit (.bool true)], args := [d] }
  | _ => none }
def truthNotsRow : OpenClaim := { program := "ytnoloacfelnkbaa", sum := "e3fd2aae5298551439a422ed7f073774c76627d6715be348d3d2fd55035f7c74", func := "chirograph/chirographlaw.TruthNots", spec := "truthNots", apart := false }
def TruthNotsSaid : Prop := truthNotsRow.holds Try.pinned (OpenSpec.ofChange truthNotsSpec)

/-- ITS FALSE NEIGHBOUR: 'it returns false'. Refute it at one input. -/
def truthNotsWrong : ChangeSpec := { name := "truthNots", fn := fun _ => fun
  | [d] => { results := [.lit (.bool false)], args := [d] }
  | _ => none }
def TruthNotsWrongFalsely : Prop := truthNotsRow.holds Try.pinned (OpenSpec.ofChange truthNotsWrong)

/-- 'chirographkeep.DeMorgan': WHATEVER THE INPUT: true; the input reads as it did. -/
def deMorganSpec : ChangeSpec := { name := "deMorgan", fn := fun _ => fun
  | [d1, d2] => { results := [.lit (.bool true)], args := [d1, d2] }
  | _ => none }
def deMorganRow : OpenClaim := { program := "ytnoloacfelnkbaa", sum := "e3fd2aae5298551439a422ed7f073774c76627d6715be348d3d2fd55035f7c74", func := "chirograph/chirographkeep.DeMorgan", spec := "deMorgan", apart := false }
def DeMorganSaid : Prop := deMorganRow.holds Try.pinned (OpenSpec.ofChange deMorganSpec)

/-- ITS FALSE NEIGHBOUR: 'it returns false'. Refute it at one input. -/
def deMorganWrong : ChangeSpec := { name := "deMorgan", fn := fun _ => fun
  | [d1, d2] => { results := [.lit (.bool false)], args := [d1, d2] }
  | _ => none }
def DeMorganWrongFalsely : Prop := deMorganRow.holds Try.pinned (OpenSpec.ofChange deMorganWrong)

/-- 'chirographkeep.KnowMore': WHATEVER THE INPUT: true; the input reads as it did. -/
def knowMoreSpec : ChangeSpec := { name := "knowMore", fn := fun _ => fun
  | [d1, d2, d3] => { results := [.lit (.bool true)], args := [d1, d2, d3] }
  | _ => none }
def knowMoreRow : OpenClaim := { program := "ytnoloacfelnkbaa", sum := "e3fd2aae5298551439a422ed7f073774c76627d6715be348d3d2fd55035f7c74", func := "chirograph/chirographkeep.KnowMore", spec := "knowMore", apart := false }
def KnowMoreSaid : Prop := knowMoreRow.holds Try.pinned (OpenSpec.ofChange knowMoreSpec)

/-- ITS FALSE NEIGHBOUR: 'it returns false'. Refute it at one input. -/
def knowMoreWrong : ChangeSpec := { name := "knowMore", fn := fun _ => fun
  | [d1, d2, d3] => { results := [.lit (.bool false)], args := [d1, d2, d3] }
  | _ => none }
def KnowMoreWrongFalsely : Prop := knowMoreRow.holds Try.pinned (OpenSpec.ofChange knowMoreWrong)

/- THE SECOND FORM. 'bulk': how many values and letters a reading holds, each counted each time it is reached (what is shared counts as often as it is met; a slice's spare places count too). A statement '..UptoSaid' is the law's where the arguments, and the package variables that the reading takes, are together of bulk at most 1048576: NARROWER than '..Said'. Prove '..Said' where nothing that the law and all that it calls make is longer than what came in: it says more and counts as full. Else prove '..UptoSaid'. A law counts once. -/
mutual
def uptoBulk {H : Type} : DataW H → Nat
  | .lit (.string bytes) => bytes.length + 1
  | .lit _ => 1
  | .nil => 1
  | .ptr d => uptoBulk d + 1
  | .slice elems spare => uptoBulkAll elems + uptoBulkAll spare + 1
  | .agg parts => uptoBulkAll parts + 1
  | .iface _ d => uptoBulk d + 1
  | .map entries => uptoBulkEntries entries + 1
  | .held _ => 1
def uptoBulkAll {H : Type} : List (DataW H) → Nat
  | [] => 0
  | d :: r => uptoBulk d + uptoBulkAll r
def uptoBulkEntries {H : Type} : List (Lit × DataW H) → Nat
  | [] => 0
  | x :: r => uptoBulkEntry x + uptoBulkEntries r
def uptoBulkEntry {H : Type} : Lit × DataW H → Nat
  | (.string bytes, d) => bytes.length + uptoBulk d + 1
  | (_, d) => uptoBulk d + 1
 end
def uptoSmall : (H : Type) → List (DataW H) → Bool := fun _ ds => decide (uptoBulkAll ds ≤ 1048576)
def OpenSpec.upto (s : _root_.Go.ChangeSpec) : _root_.Go.OpenSpec := { _root_.Go.OpenSpec.ofChange s with cond := some uptoSmall }

/-- 'chirographlaw.TruthPairs', WHERE WHAT IT READS IS OF BULK AT MOST 1048576: true; the input reads as it did. -/
def truthPairsUptoRow : OpenClaim := { program := "ytnoloacfelnkbaa", sum := "e3fd2aae5298551439a422ed7f073774c76627d6715be348d3d2fd55035f7c74", func := "chirograph/chirographlaw.TruthPairs", spec := "truthPairs", apart := false, narrowed := true }
def TruthPairsUptoSaid : Prop := truthPairsUptoRow.holds Try.pinned (OpenSpec.upto truthPairsSpec)

/-- 'chirographlaw.TruthNots', WHERE WHAT IT READS IS OF BULK AT MOST 1048576: true; the input reads as it did. -/
def truthNotsUptoRow : OpenClaim := { program := "ytnoloacfelnkbaa", sum := "e3fd2aae5298551439a422ed7f073774c76627d6715be348d3d2fd55035f7c74", func := "chirograph/chirographlaw.TruthNots", spec := "truthNots", apart := false, narrowed := true }
def TruthNotsUptoSaid : Prop := truthNotsUptoRow.holds Try.pinned (OpenSpec.upto truthNotsSpec)

/-- 'chirographkeep.DeMorgan', WHERE WHAT IT READS IS OF BULK AT MOST 1048576: true; the input reads as it did. -/
def deMorganUptoRow : OpenClaim := { program := "ytnoloacfelnkbaa", sum := "e3fd2aae5298551439a422ed7f073774c76627d6715be348d3d2fd55035f7c74", func := "chirograph/chirographkeep.DeMorgan", spec := "deMorgan", apart := false, narrowed := true }
def DeMorganUptoSaid : Prop := deMorganUptoRow.holds Try.pinned (OpenSpec.upto deMorganSpec)

/-- 'chirographkeep.KnowMore', WHERE WHAT IT READS IS OF BULK AT MOST 1048576: true; the input reads as it did. -/
def knowMoreUptoRow : OpenClaim := { program := "ytnoloacfelnkbaa", sum := "e3fd2aae5298551439a422ed7f073774c76627d6715be348d3d2fd55035f7c74", func := "chirograph/chirographkeep.KnowMore", spec := "knowMore", apart := false, narrowed := true }
def KnowMoreUptoSaid : Prop := knowMoreUptoRow.holds Try.pinned (OpenSpec.upto knowMoreSpec)

end Rows
end Go.Proofs.Ytnoloacfelnkbaa
