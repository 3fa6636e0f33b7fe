/-
  DERIVED. GIVEN WITH THE SEED: THE CARDS: each row of YtmokcoghigimjaaGreatDoorRows.lean that lists a variable, with what it lists TIED to the program's text (the seventh form; the later family's looks); each row that meets fmt, with fmt's text TOLD by the authors' own Lean function (tested against real Go, not proved from fmt's source: count such statements apart). THE CARD IS WHAT COUNTS. Prove the row's statement (the work); the ties are given (YtmokcoghigimjaaGreatDoorTie.lean); close each card by the builder's one call (the guide's Derived/Test/ToyasCard.lean, 'card_holds'). Laid BY PROGRAM, IN A SANDBOX (cutbox-door.mjs). By AI agents, Wed Nov 11 2026. No macro, syntax, notation, axiom, sorry.
-/
import Derived.Test.YtmokcoghigimjaaGreatDoorRows
import GoSem.ClaimSeven
namespace Go.Proofs.YtmokcoghigimjaaGreatDoor
namespace Rows

/-- THE TIED CARD OF 'chirographlaw.EvalEvals'. -/
def evalEvalsCard : Claim7 := { stood := { row := evalEvalsRow, standIns := [], harness := (true, "d1a016f87c74822e3cfde162024a85c481df3bfe2944eb8cb0c3a59f0fb4504c"), looks := true }, kinds := [], alts := [], laidByText := true, laidKinds := [.data, .data, .data, .pinned], laidTests := true, laidLooks := .later }
def EvalEvalsCardSaid : Prop := Claim7.holds Tryz.pinned (.plain (OpenSpec.ofChange evalEvalsSpec)) evalEvalsCard

/-- THE TIED CARD OF 'chirographlaw.EvalFolds'. -/
def evalFoldsCard : Claim7 := { stood := { row := evalFoldsRow, standIns := [], harness := (true, "d1a016f87c74822e3cfde162024a85c481df3bfe2944eb8cb0c3a59f0fb4504c"), looks := true }, kinds := [], alts := [], laidByText := true, laidKinds := [.data, .data, .data, .pinned], laidTests := true, laidLooks := .later }
def EvalFoldsCardSaid : Prop := Claim7.holds Tryz.pinned (.plain (OpenSpec.ofChange evalFoldsSpec)) evalFoldsCard

/-- THE TIED CARD OF 'chirographkeep.KindSound'. -/
def kindSoundCard : Claim7 := { stood := { row := kindSoundRow, standIns := [], harness := (true, "d1a016f87c74822e3cfde162024a85c481df3bfe2944eb8cb0c3a59f0fb4504c"), looks := true }, kinds := [], alts := [], laidByText := true, laidKinds := [.data, .data, .data, .pinned], laidTests := true, laidLooks := .later }
def KindSoundCardSaid : Prop := Claim7.holds Tryz.pinned (.plain (OpenSpec.ofChange kindSoundSpec)) kindSoundCard

/-- THE TIED CARD OF 'chirographkeep.EvalShort'. -/
def evalShortCard : Claim7 := { stood := { row := evalShortRow, standIns := [], harness := (true, "d1a016f87c74822e3cfde162024a85c481df3bfe2944eb8cb0c3a59f0fb4504c"), looks := true }, kinds := [], alts := [], laidByText := true, laidKinds := [.data, .data, .data, .pinned], laidTests := true, laidLooks := .later }
def EvalShortCardSaid : Prop := Claim7.holds Tryz.pinned (.plain (OpenSpec.ofChange evalShortSpec)) evalShortCard

/-- THE TIED CARD OF 'chirographkeep.EvalMorgan'. -/
def evalMorganCard : Claim7 := { stood := { row := evalMorganRow, standIns := [], harness := (true, "d1a016f87c74822e3cfde162024a85c481df3bfe2944eb8cb0c3a59f0fb4504c"), looks := true }, kinds := [], alts := [], laidByText := true, laidKinds := [.data, .data, .data, .pinned], laidTests := true, laidLooks := .later }
def EvalMorganCardSaid : Prop := Claim7.holds Tryz.pinned (.plain (OpenSpec.ofChange evalMorganSpec)) evalMorganCard

/-- THE TIED CARD OF 'chirographkeep.FoldSame'. -/
def foldSameCard : Claim7 := { stood := { row := foldSameRow, standIns := [], harness := (true, "d1a016f87c74822e3cfde162024a85c481df3bfe2944eb8cb0c3a59f0fb4504c"), looks := true }, kinds := [], alts := [], laidByText := true, laidKinds := [.data, .data, .data, .pinned], laidTests := true, laidLooks := .later }
def FoldSameCardSaid : Prop := Claim7.holds Tryz.pinned (.plain (OpenSpec.ofChange foldSameSpec)) foldSameCard

/-- THE TIED CARD OF 'chirographkeep.SpanSound'. -/
def spanSoundCard : Claim7 := { stood := { row := spanSoundRow, standIns := [], harness := (true, "d1a016f87c74822e3cfde162024a85c481df3bfe2944eb8cb0c3a59f0fb4504c"), looks := true }, kinds := [], alts := [], laidByText := true, laidKinds := [.data, .data, .data, .pinned], laidTests := true, laidLooks := .later }
def SpanSoundCardSaid : Prop := Claim7.holds Tryz.pinned (.plain (OpenSpec.ofChange spanSoundSpec)) spanSoundCard

/-- THE TIED CARD OF 'chirographkeep.SpanTight'. -/
def spanTightCard : Claim7 := { stood := { row := spanTightRow, standIns := [], harness := (true, "d1a016f87c74822e3cfde162024a85c481df3bfe2944eb8cb0c3a59f0fb4504c"), looks := true }, kinds := [], alts := [], laidByText := true, laidKinds := [.data, .data, .data, .pinned], laidTests := true, laidLooks := .later }
def SpanTightCardSaid : Prop := Claim7.holds Tryz.pinned (.plain (OpenSpec.ofChange spanTightSpec)) spanTightCard

/-- THE SECOND FORM's CARD OF 'chirographlaw.EvalEvals'. -/
def evalEvalsUptoCard : Claim7 := { stood := { row := evalEvalsUptoRow, standIns := [], harness := (true, "d1a016f87c74822e3cfde162024a85c481df3bfe2944eb8cb0c3a59f0fb4504c"), looks := true }, kinds := [], alts := [], laidByText := true, laidKinds := [.data, .data, .data, .pinned], laidTests := true, laidLooks := .later }
def EvalEvalsUptoCardSaid : Prop := Claim7.holds Tryz.pinned (.plain (OpenSpec.upto evalEvalsSpec)) evalEvalsUptoCard

/-- THE SECOND FORM's CARD OF 'chirographlaw.EvalFolds'. -/
def evalFoldsUptoCard : Claim7 := { stood := { row := evalFoldsUptoRow, standIns := [], harness := (true, "d1a016f87c74822e3cfde162024a85c481df3bfe2944eb8cb0c3a59f0fb4504c"), looks := true }, kinds := [], alts := [], laidByText := true, laidKinds := [.data, .data, .data, .pinned], laidTests := true, laidLooks := .later }
def EvalFoldsUptoCardSaid : Prop := Claim7.holds Tryz.pinned (.plain (OpenSpec.upto evalFoldsSpec)) evalFoldsUptoCard

/-- THE SECOND FORM's CARD OF 'chirographkeep.KindSound'. -/
def kindSoundUptoCard : Claim7 := { stood := { row := kindSoundUptoRow, standIns := [], harness := (true, "d1a016f87c74822e3cfde162024a85c481df3bfe2944eb8cb0c3a59f0fb4504c"), looks := true }, kinds := [], alts := [], laidByText := true, laidKinds := [.data, .data, .data, .pinned], laidTests := true, laidLooks := .later }
def KindSoundUptoCardSaid : Prop := Claim7.holds Tryz.pinned (.plain (OpenSpec.upto kindSoundSpec)) kindSoundUptoCard

/-- THE SECOND FORM's CARD OF 'chirographkeep.EvalShort'. -/
def evalShortUptoCard : Claim7 := { stood := { row := evalShortUptoRow, standIns := [], harness := (true, "d1a016f87c74822e3cfde162024a85c481df3bfe2944eb8cb0c3a59f0fb4504c"), looks := true }, kinds := [], alts := [], laidByText := true, laidKinds := [.data, .data, .data, .pinned], laidTests := true, laidLooks := .later }
def EvalShortUptoCardSaid : Prop := Claim7.holds Tryz.pinned (.plain (OpenSpec.upto evalShortSpec)) evalShortUptoCard

/-- THE SECOND FORM's CARD OF 'chirographkeep.EvalMorgan'. -/
def evalMorganUptoCard : Claim7 := { stood := { row := evalMorganUptoRow, standIns := [], harness := (true, "d1a016f87c74822e3cfde162024a85c481df3bfe2944eb8cb0c3a59f0fb4504c"), looks := true }, kinds := [], alts := [], laidByText := true, laidKinds := [.data, .data, .data, .pinned], laidTests := true, laidLooks := .later }
def EvalMorganUptoCardSaid : Prop := Claim7.holds Tryz.pinned (.plain (OpenSpec.upto evalMorganSpec)) evalMorganUptoCard

/-- THE SECOND FORM's CARD OF 'chirographkeep.FoldSame'. -/
def foldSameUptoCard : Claim7 := { stood := { row := foldSameUptoRow, standIns := [], harness := (true, "d1a016f87c74822e3cfde162024a85c481df3bfe2944eb8cb0c3a59f0fb4504c"), looks := true }, kinds := [], alts := [], laidByText := true, laidKinds := [.data, .data, .data, .pinned], laidTests := true, laidLooks := .later }
def FoldSameUptoCardSaid : Prop := Claim7.holds Tryz.pinned (.plain (OpenSpec.upto foldSameSpec)) foldSameUptoCard

/-- THE SECOND FORM's CARD OF 'chirographkeep.SpanSound'. -/
def spanSoundUptoCard : Claim7 := { stood := { row := spanSoundUptoRow, standIns := [], harness := (true, "d1a016f87c74822e3cfde162024a85c481df3bfe2944eb8cb0c3a59f0fb4504c"), looks := true }, kinds := [], alts := [], laidByText := true, laidKinds := [.data, .data, .data, .pinned], laidTests := true, laidLooks := .later }
def SpanSoundUptoCardSaid : Prop := Claim7.holds Tryz.pinned (.plain (OpenSpec.upto spanSoundSpec)) spanSoundUptoCard

/-- THE SECOND FORM's CARD OF 'chirographkeep.SpanTight'. -/
def spanTightUptoCard : Claim7 := { stood := { row := spanTightUptoRow, standIns := [], harness := (true, "d1a016f87c74822e3cfde162024a85c481df3bfe2944eb8cb0c3a59f0fb4504c"), looks := true }, kinds := [], alts := [], laidByText := true, laidKinds := [.data, .data, .data, .pinned], laidTests := true, laidLooks := .later }
def SpanTightUptoCardSaid : Prop := Claim7.holds Tryz.pinned (.plain (OpenSpec.upto spanTightSpec)) spanTightUptoCard
end Rows
end Go.Proofs.YtmokcoghigimjaaGreatDoor
