/-
  DERIVED. GIVEN WITH THE SEED: THE CARDS: each row of YtbnmhgcllbjiaaaGreatDoorRows.lean that lists a variable, with what it lists TIED to the program's text (the seventh form; the later family's looks); each row that meets fmt, with fmt's text TOLD by the authors' own Lean function (tested against real Go, not proved from fmt's source: count such statements apart). THE CARD IS WHAT COUNTS. Prove the row's statement (the work); the ties are given (YtbnmhgcllbjiaaaGreatDoorTie.lean); close each card by the builder's one call (the guide's Derived/Test/ToyasCard.lean, 'card_holds'). Laid BY PROGRAM, IN A SANDBOX (cutbox-door.mjs). By AI agents, Wed Nov 11 2026. No macro, syntax, notation, axiom, sorry.
-/
import Derived.Test.YtbnmhgcllbjiaaaGreatDoorRows
import GoSem.ClaimSeven
namespace Go.Proofs.YtbnmhgcllbjiaaaGreatDoor
namespace Rows

/-- THE TIED CARD OF 'chirographlaw.EvalEvals'. -/
def evalEvalsCard : Claim7 := { stood := { row := evalEvalsRow, standIns := [], harness := (true, "acc6912055d37a72c8eeec6a0152fda5acffa3f25bf84f4da6d85b4579245cf2"), looks := true }, kinds := [], alts := [], laidByText := true, laidKinds := [.data, .data, .data, .pinned], laidTests := true, laidLooks := .later }
def EvalEvalsCardSaid : Prop := Claim7.holds Tryz.pinned (.plain (OpenSpec.ofChange evalEvalsSpec)) evalEvalsCard

/-- THE TIED CARD OF 'chirographlaw.EvalFolds'. -/
def evalFoldsCard : Claim7 := { stood := { row := evalFoldsRow, standIns := [], harness := (true, "acc6912055d37a72c8eeec6a0152fda5acffa3f25bf84f4da6d85b4579245cf2"), looks := true }, kinds := [], alts := [], laidByText := true, laidKinds := [.data, .data, .data, .pinned], laidTests := true, laidLooks := .later }
def EvalFoldsCardSaid : Prop := Claim7.holds Tryz.pinned (.plain (OpenSpec.ofChange evalFoldsSpec)) evalFoldsCard

/-- THE TIED CARD OF 'chirographkeep.FoldSame'. -/
def foldSameCard : Claim7 := { stood := { row := foldSameRow, standIns := [], harness := (true, "acc6912055d37a72c8eeec6a0152fda5acffa3f25bf84f4da6d85b4579245cf2"), looks := true }, kinds := [], alts := [], laidByText := true, laidKinds := [.data, .data, .data, .pinned], laidTests := true, laidLooks := .later }
def FoldSameCardSaid : Prop := Claim7.holds Tryz.pinned (.plain (OpenSpec.ofChange foldSameSpec)) foldSameCard

/-- THE SECOND FORM's CARD OF 'chirographlaw.EvalEvals'. -/
def evalEvalsUptoCard : Claim7 := { stood := { row := evalEvalsUptoRow, standIns := [], harness := (true, "acc6912055d37a72c8eeec6a0152fda5acffa3f25bf84f4da6d85b4579245cf2"), looks := true }, kinds := [], alts := [], laidByText := true, laidKinds := [.data, .data, .data, .pinned], laidTests := true, laidLooks := .later }
def EvalEvalsUptoCardSaid : Prop := Claim7.holds Tryz.pinned (.plain (OpenSpec.upto evalEvalsSpec)) evalEvalsUptoCard

/-- THE SECOND FORM's CARD OF 'chirographlaw.EvalFolds'. -/
def evalFoldsUptoCard : Claim7 := { stood := { row := evalFoldsUptoRow, standIns := [], harness := (true, "acc6912055d37a72c8eeec6a0152fda5acffa3f25bf84f4da6d85b4579245cf2"), looks := true }, kinds := [], alts := [], laidByText := true, laidKinds := [.data, .data, .data, .pinned], laidTests := true, laidLooks := .later }
def EvalFoldsUptoCardSaid : Prop := Claim7.holds Tryz.pinned (.plain (OpenSpec.upto evalFoldsSpec)) evalFoldsUptoCard

/-- THE SECOND FORM's CARD OF 'chirographkeep.FoldSame'. -/
def foldSameUptoCard : Claim7 := { stood := { row := foldSameUptoRow, standIns := [], harness := (true, "acc6912055d37a72c8eeec6a0152fda5acffa3f25bf84f4da6d85b4579245cf2"), looks := true }, kinds := [], alts := [], laidByText := true, laidKinds := [.data, .data, .data, .pinned], laidTests := true, laidLooks := .later }
def FoldSameUptoCardSaid : Prop := Claim7.holds Tryz.pinned (.plain (OpenSpec.upto foldSameSpec)) foldSameUptoCard
end Rows
end Go.Proofs.YtbnmhgcllbjiaaaGreatDoor
