/-
  No cell of these rows narrows 'for every input' (looked for: loops, veiled, ifaces, maps, wideKeys, modest, calm, conditions, laid).
  DERIVED. THE GIVEN ROWS OF THIS SEAT. 5 by the template 'for every input the law returns true; each argument reads behind the call as it read before'; 0 by the template 'total and deterministic' (their statements: YtmldhnghfdhjmaaTotals.lean).
  GIVEN WITH THE SEED: the statements are not yours to turn. If you find one false, say at which input.
  Laid BY PROGRAM, IN A SANDBOX (cutbox-rows.mjs): the forced cells as the released guide's own fill.sh prints them over the translation 1e10dfefd30ef11b… (all of the seat's roots in one cut). By AI agents, Wed Nov 11 2026. No macro, syntax, notation, axiom, sorry.
-/
import Derived.Test.YtmldhnghfdhjmaaChecked
import GoSem.Claim
import GoSem.ClaimJoined
import GoSem.ClaimMapViews
import Derived.JoinedTies
import Derived.KernelRfl
namespace Go.Proofs.Ytmldhnghfdhjmaa
/- THE CELL 'sum', in the pinned program and in every row, IS THE sha256 OF THE DUMP (.gsa) THAT YtmldhnghfdhjmaaProg.lean LOADS. Nothing in Lean hashes anything: it is a label: what it is worth is what the hold of that sum in a sandbox is worth. -/
noncomputable def Try.pinned : Pinned := { name := "ytmldhnghfdhjmaa", sum := "1e10dfefd30ef11b86c6b6b146bdf13cc33d0b92c4ab29f041b8f4fffc36b7d8", checked := Try.checked }
namespace Rows
def none {H : Type} : Left H := { results := [], args := [] }

/-- 'chirographlaw.OracleFrames': WHATEVER THE INPUT: true; the input reads as it did. -/
def oracleFramesSpec : ChangeSpec := { name := "oracleFrames", fn := fun _ => fun
  | [d1, d2] => { results := [.lit (.bool true)], args := [d1, d2] }
  | _ => none }
def oracleFramesRow : OpenClaim := { program := "ytmldhnghfdhjmaa", sum := "1e10dfefd30ef11b86c6b6b146bdf13cc33d0b92c4ab29f041b8f4fffc36b7d8", func := "chirograph/chirographlaw.OracleFrames", spec := "oracleFrames", apart := false }
def OracleFramesSaid : Prop := oracleFramesRow.holds Try.pinned (OpenSpec.ofChange oracleFramesSpec)

/-- ITS FALSE NEIGHBOUR: 'it returns false'. Refute it at one input. -/
def oracleFramesWrong : ChangeSpec := { name := "oracleFrames", fn := fun _ => fun
  | [d1, d2] => { results := [.lit (.bool false)], args := [d1, d2] }
  | _ => none }
def OracleFramesWrongFalsely : Prop := oracleFramesRow.holds Try.pinned (OpenSpec.ofChange oracleFramesWrong)

/-- 'chirographlaw.OracleParses': WHATEVER THE INPUT: true; the input reads as it did. -/
def oracleParsesSpec : ChangeSpec := { name := "oracleParses", fn := fun _ => fun
  | [d] => { results := [.lit (.bool true)], args := [d] }
  | _ => none }
def oracleParsesRow : OpenClaim := { program := "ytmldhnghfdhjmaa", sum := "1e10dfefd30ef11b86c6b6b146bdf13cc33d0b92c4ab29f041b8f4fffc36b7d8", func := "chirograph/chirographlaw.OracleParses", spec := "oracleParses", apart := false }
def OracleParsesSaid : Prop := oracleParsesRow.holds Try.pinned (OpenSpec.ofChange oracleParsesSpec)

/-- ITS FALSE NEIGHBOUR: 'it returns false'. Refute it at one input. -/
def oracleParsesWrong : ChangeSpec := { name := "oracleParses", fn := fun _ => fun
  | [d] => { results := [.lit (.bool false)], args := [d] }
  | _ => none }
def OracleParsesWrongFalsely : Prop := oracleParsesRow.holds Try.pinned (OpenSpec.ofChange oracleParsesWrong)

/-- 'chirographkeep.FrameBack': WHATEVER THE INPUT: true; the input reads as it did. -/
def frameBackSpec : ChangeSpec := { name := "frameBack", fn := fun _ => fun
  | [d1, d2] => { results := [.lit (.bool true)], args := [d1, d2] }
  | _ => none }
def frameBackRow : OpenClaim := { program := "ytmldhnghfdhjmaa", sum := "1e10dfefd30ef11b86c6b6b146bdf13cc33d0b92c4ab29f041b8f4fffc36b7d8", func := "chirograph/chirographkeep.FrameBack", spec := "frameBack", apart := false }
def FrameBackSaid : Prop := frameBackRow.holds Try.pinned (OpenSpec.ofChange frameBackSpec)

/-- ITS FALSE NEIGHBOUR: 'it returns false'. Refute it at one input. -/
def frameBackWrong : ChangeSpec := { name := "frameBack", fn := fun _ => fun
  | [d1, d2] => { results := [.lit (.bool false)], args := [d1, d2] }
  | _ => none }
def FrameBackWrongFalsely : Prop := frameBackRow.holds Try.pinned (OpenSpec.ofChange frameBackWrong)

/-- 'chirographkeep.FrameFixed': WHATEVER THE INPUT: true; the input reads as it did. -/
def frameFixedSpec : ChangeSpec := { name := "frameFixed", fn := fun _ => fun
  | [d] => { results := [.lit (.bool true)], args := [d] }
  | _ => none }
def frameFixedRow : OpenClaim := { program := "ytmldhnghfdhjmaa", sum := "1e10dfefd30ef11b86c6b6b146bdf13cc33d0b92c4ab29f041b8f4fffc36b7d8", func := "chirograph/chirographkeep.FrameFixed", spec := "frameFixed", apart := false }
def FrameFixedSaid : Prop := frameFixedRow.holds Try.pinned (OpenSpec.ofChange frameFixedSpec)

/-- ITS FALSE NEIGHBOUR: 'it returns false'. Refute it at one input. -/
def frameFixedWrong : ChangeSpec := { name := "frameFixed", fn := fun _ => fun
  | [d] => { results := [.lit (.bool false)], args := [d] }
  | _ => none }
def FrameFixedWrongFalsely : Prop := frameFixedRow.holds Try.pinned (OpenSpec.ofChange frameFixedWrong)

/-- 'chirographkeep.FrameApart': WHATEVER THE INPUT: true; the input reads as it did. -/
def frameApartSpec : ChangeSpec := { name := "frameApart", fn := fun _ => fun
  | [d1, d2, d3, d4] => { results := [.lit (.bool true)], args := [d1, d2, d3, d4] }
  | _ => none }
def frameApartRow : OpenClaim := { program := "ytmldhnghfdhjmaa", sum := "1e10dfefd30ef11b86c6b6b146bdf13cc33d0b92c4ab29f041b8f4fffc36b7d8", func := "chirograph/chirographkeep.FrameApart", spec := "frameApart", apart := false }
def FrameApartSaid : Prop := frameApartRow.holds Try.pinned (OpenSpec.ofChange frameApartSpec)

/-- ITS FALSE NEIGHBOUR: 'it returns false'. Refute it at one input. -/
def frameApartWrong : ChangeSpec := { name := "frameApart", fn := fun _ => fun
  | [d1, d2, d3, d4] => { results := [.lit (.bool false)], args := [d1, d2, d3, d4] }
  | _ => none }
def FrameApartWrongFalsely : Prop := frameApartRow.holds Try.pinned (OpenSpec.ofChange frameApartWrong)

/- THE SECOND FORM. 'bulk': how many values and letters a reading holds, each counted each time it is reached (what is shared counts as often as it is met; a slice's spare places count too). A statement '..UptoSaid' is the law's where the arguments, and the package variables that the reading takes, are together of bulk at most 1048576: NARROWER than '..Said'. Prove '..Said' where nothing that the law and all that it calls make is longer than what came in: it says more and counts as full. Else prove '..UptoSaid'. A law counts once. -/
mutual
def uptoBulk {H : Type} : DataW H → Nat
  | .lit (.string bytes) => bytes.length + 1
  | .lit _ => 1
  | .nil => 1
  | .ptr d => uptoBulk d + 1
  | .slice elems spare => uptoBulkAll elems + uptoBulkAll spare + 1
  | .agg parts => uptoBulkAll parts + 1
  | .iface _ d => uptoBulk d + 1
  | .map entries => uptoBulkEntries entries + 1
  | .held _ => 1
def uptoBulkAll {H : Type} : List (DataW H) → Nat
  | [] => 0
  | d :: r => uptoBulk d + uptoBulkAll r
def uptoBulkEntries {H : Type} : List (Lit × DataW H) → Nat
  | [] => 0
  | x :: r => uptoBulkEntry x + uptoBulkEntries r
def uptoBulkEntry {H : Type} : Lit × DataW H → Nat
  | (.string bytes, d) => bytes.length + uptoBulk d + 1
  | (_, d) => uptoBulk d + 1
 end
def uptoSmall : (H : Type) → List (DataW H) → Bool := fun _ ds => decide (uptoBulkAll ds ≤ 1048576)
def OpenSpec.upto (s : _root_.Go.ChangeSpec) : _root_.Go.OpenSpec := { _root_.Go.OpenSpec.ofChange s with cond := some uptoSmall }

/-- 'chirographlaw.OracleFrames', WHERE WHAT IT READS IS OF BULK AT MOST 1048576: true; the input reads as it did. -/
def oracleFramesUptoRow : OpenClaim := { program := "ytmldhnghfdhjmaa", sum := "1e10dfefd30ef11b86c6b6b146bdf13cc33d0b92c4ab29f041b8f4fffc36b7d8", func := "chirograph/chirographlaw.OracleFrames", spec := "oracleFrames", apart := false, narrowed := true }
def OracleFramesUptoSaid : Prop := oracleFramesUptoRow.holds Try.pinned (OpenSpec.upto oracleFramesSpec)

/-- 'chirographlaw.OracleParses', WHERE WHAT IT READS IS OF BULK AT MOST 1048576: true; the input reads as it did. -/
def oracleParsesUptoRow : OpenClaim := { program := "ytmldhnghfdhjmaa", sum := "1e10dfefd30ef11b86c6b6b146bdf13cc33d0b92c4ab29f041b8f4fffc36b7d8", func := "chirograph/chirographlaw.OracleParses", spec := "oracleParses", apart := false, narrowed := true }
def OracleParsesUptoSaid : Prop := oracleParsesUptoRow.holds Try.pinned (OpenSpec.upto oracleParsesSpec)

/-- 'chirographkeep.FrameBack', WHERE WHAT IT READS IS OF BULK AT MOST 1048576: true; the input reads as it did. -/
def frameBackUptoRow : OpenClaim := { program := "ytmldhnghfdhjmaa", sum := "1e10dfefd30ef11b86c6b6b146bdf13cc33d0b92c4ab29f041b8f4fffc36b7d8", func := "chirograph/chirographkeep.FrameBack", spec := "frameBack", apart := false, narrowed := true }
def FrameBackUptoSaid : Prop := frameBackUptoRow.holds Try.pinned (OpenSpec.upto frameBackSpec)

/-- 'chirographkeep.FrameFixed', WHERE WHAT IT READS IS OF BULK AT MOST 1048576: true; the input reads as it did. -/
def frameFixedUptoRow : OpenClaim := { program := "ytmldhnghfdhjmaa", sum := "1e10dfefd30ef11b86c6b6b146bdf13cc33d0b92c4ab29f041b8f4fffc36b7d8", func := "chirograph/chirographkeep.FrameFixed", spec := "frameFixed", apart := false, narrowed := true }
def FrameFixedUptoSaid : Prop := frameFixedUptoRow.holds Try.pinned (OpenSpec.upto frameFixedSpec)

/-- 'chirographkeep.FrameApart', WHERE WHAT IT READS IS OF BULK AT MOST 1048576: true; the input reads as it did. -/
def frameApartUptoRow : OpenClaim := { program := "ytmldhnghfdhjmaa", sum := "1e10dfefd30ef11b86c6b6b146bdf13cc33d0b92c4ab29f041b8f4fffc36b7d8", func := "chirograph/chirographkeep.FrameApart", spec := "frameApart", apart := false, narrowed := true }
def FrameApartUptoSaid : Prop := frameApartUptoRow.holds Try.pinned (OpenSpec.upto frameApartSpec)

end Rows
end Go.Proofs.Ytmldhnghfdhjmaa
