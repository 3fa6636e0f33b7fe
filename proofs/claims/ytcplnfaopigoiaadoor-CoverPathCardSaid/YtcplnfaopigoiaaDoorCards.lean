/-
  DERIVED. GIVEN WITH THE SEED: THE CARDS: each row of YtcplnfaopigoiaaDoorRows.lean that lists a variable, with what it lists TIED to the program's text (the seventh form; the later family's looks); each row that meets fmt, with fmt's text TOLD by the authors' own Lean function (tested against real Go, not proved from fmt's source: count such statements apart). THE CARD IS WHAT COUNTS. Prove the row's statement (the work); the ties are given (YtcplnfaopigoiaaDoorTie.lean); close each card by the builder's one call (the guide's Derived/Test/ToyasCard.lean, 'card_holds'). Laid BY PROGRAM, IN A SANDBOX (cutbox-door.mjs). By AI agents, Wed Nov 11 2026. No macro, syntax, notation, axiom, sorry.
-/
import Derived.Test.YtcplnfaopigoiaaDoorRows
import GoSem.ClaimSeven
namespace Go.Proofs.YtcplnfaopigoiaaDoor
namespace Rows

/-- THE TIED CARD OF 'chirographlaw.SlotsCovers'. -/
def slotsCoversCard : Claim7 := { stood := { row := slotsCoversRow, standIns := [], harness := (true, "d30052cfcf2d821c344ad464ff191904f293be33ee8381410048d052a13d00ec"), looks := false }, kinds := [], alts := [], laidByText := true, laidKinds := [.data], laidTests := true, laidLooks := .later }
def SlotsCoversCardSaid : Prop := Claim7.holds Tryd.pinned (.plain (OpenSpec.ofChange slotsCoversSpec)) slotsCoversCard

/-- THE TIED CARD OF 'chirographlaw.SlotsRooted'. -/
def slotsRootedCard : Claim7 := { stood := { row := slotsRootedRow, standIns := [], harness := (true, "d30052cfcf2d821c344ad464ff191904f293be33ee8381410048d052a13d00ec"), looks := false }, kinds := [], alts := [], laidByText := true, laidKinds := [.data], laidTests := true, laidLooks := .later }
def SlotsRootedCardSaid : Prop := Claim7.holds Tryd.pinned (.plain (OpenSpec.ofChange slotsRootedSpec)) slotsRootedCard

/-- THE TIED CARD OF 'chirographkeep.CoverRight'. -/
def coverRightCard : Claim7 := { stood := { row := coverRightRow, standIns := [], harness := (true, "d30052cfcf2d821c344ad464ff191904f293be33ee8381410048d052a13d00ec"), looks := false }, kinds := [], alts := [], laidByText := true, laidKinds := [.data], laidTests := true, laidLooks := .later }
def CoverRightCardSaid : Prop := Claim7.holds Tryd.pinned (.plain (OpenSpec.ofChange coverRightSpec)) coverRightCard

/-- THE TIED CARD OF 'chirographkeep.CoverSound'. -/
def coverSoundCard : Claim7 := { stood := { row := coverSoundRow, standIns := [], harness := (true, "d30052cfcf2d821c344ad464ff191904f293be33ee8381410048d052a13d00ec"), looks := false }, kinds := [], alts := [], laidByText := true, laidKinds := [.data], laidTests := true, laidLooks := .later }
def CoverSoundCardSaid : Prop := Claim7.holds Tryd.pinned (.plain (OpenSpec.ofChange coverSoundSpec)) coverSoundCard

/-- THE TIED CARD OF 'chirographkeep.CoverShape'. -/
def coverShapeCard : Claim7 := { stood := { row := coverShapeRow, standIns := [], harness := (true, "d30052cfcf2d821c344ad464ff191904f293be33ee8381410048d052a13d00ec"), looks := false }, kinds := [], alts := [], laidByText := true, laidKinds := [.data], laidTests := true, laidLooks := .later }
def CoverShapeCardSaid : Prop := Claim7.holds Tryd.pinned (.plain (OpenSpec.ofChange coverShapeSpec)) coverShapeCard

/-- THE TIED CARD OF 'chirographkeep.CoverPath'. -/
def coverPathCard : Claim7 := { stood := { row := coverPathRow, standIns := [], harness := (true, "d30052cfcf2d821c344ad464ff191904f293be33ee8381410048d052a13d00ec"), looks := false }, kinds := [], alts := [], laidByText := true, laidKinds := [.data], laidTests := true, laidLooks := .later }
def CoverPathCardSaid : Prop := Claim7.holds Tryd.pinned (.plain (OpenSpec.ofChange coverPathSpec)) coverPathCard

/-- THE TIED CARD OF 'chirographkeep.RollApart'. -/
def rollApartCard : Claim7 := { stood := { row := rollApartRow, standIns := [], harness := (true, "d30052cfcf2d821c344ad464ff191904f293be33ee8381410048d052a13d00ec"), looks := false }, kinds := [], alts := [], laidByText := true, laidKinds := [.data], laidTests := true, laidLooks := .later }
def RollApartCardSaid : Prop := Claim7.holds Tryd.pinned (.plain (OpenSpec.ofChange rollApartSpec)) rollApartCard

/-- THE SECOND FORM's CARD OF 'chirographlaw.SlotsCovers'. -/
def slotsCoversUptoCard : Claim7 := { stood := { row := slotsCoversUptoRow, standIns := [], harness := (true, "d30052cfcf2d821c344ad464ff191904f293be33ee8381410048d052a13d00ec"), looks := false }, kinds := [], alts := [], laidByText := true, laidKinds := [.data], laidTests := true, laidLooks := .later }
def SlotsCoversUptoCardSaid : Prop := Claim7.holds Tryd.pinned (.plain (OpenSpec.upto slotsCoversSpec)) slotsCoversUptoCard

/-- THE SECOND FORM's CARD OF 'chirographlaw.SlotsRooted'. -/
def slotsRootedUptoCard : Claim7 := { stood := { row := slotsRootedUptoRow, standIns := [], harness := (true, "d30052cfcf2d821c344ad464ff191904f293be33ee8381410048d052a13d00ec"), looks := false }, kinds := [], alts := [], laidByText := true, laidKinds := [.data], laidTests := true, laidLooks := .later }
def SlotsRootedUptoCardSaid : Prop := Claim7.holds Tryd.pinned (.plain (OpenSpec.upto slotsRootedSpec)) slotsRootedUptoCard

/-- THE SECOND FORM's CARD OF 'chirographkeep.CoverRight'. -/
def coverRightUptoCard : Claim7 := { stood := { row := coverRightUptoRow, standIns := [], harness := (true, "d30052cfcf2d821c344ad464ff191904f293be33ee8381410048d052a13d00ec"), looks := false }, kinds := [], alts := [], laidByText := true, laidKinds := [.data], laidTests := true, laidLooks := .later }
def CoverRightUptoCardSaid : Prop := Claim7.holds Tryd.pinned (.plain (OpenSpec.upto coverRightSpec)) coverRightUptoCard

/-- THE SECOND FORM's CARD OF 'chirographkeep.CoverSound'. -/
def coverSoundUptoCard : Claim7 := { stood := { row := coverSoundUptoRow, standIns := [], harness := (true, "d30052cfcf2d821c344ad464ff191904f293be33ee8381410048d052a13d00ec"), looks := false }, kinds := [], alts := [], laidByText := true, laidKinds := [.data], laidTests := true, laidLooks := .later }
def CoverSoundUptoCardSaid : Prop := Claim7.holds Tryd.pinned (.plain (OpenSpec.upto coverSoundSpec)) coverSoundUptoCard

/-- THE SECOND FORM's CARD OF 'chirographkeep.CoverShape'. -/
def coverShapeUptoCard : Claim7 := { stood := { row := coverShapeUptoRow, standIns := [], harness := (true, "d30052cfcf2d821c344ad464ff191904f293be33ee8381410048d052a13d00ec"), looks := false }, kinds := [], alts := [], laidByText := true, laidKinds := [.data], laidTests := true, laidLooks := .later }
def CoverShapeUptoCardSaid : Prop := Claim7.holds Tryd.pinned (.plain (OpenSpec.upto coverShapeSpec)) coverShapeUptoCard

/-- THE SECOND FORM's CARD OF 'chirographkeep.CoverPath'. -/
def coverPathUptoCard : Claim7 := { stood := { row := coverPathUptoRow, standIns := [], harness := (true, "d30052cfcf2d821c344ad464ff191904f293be33ee8381410048d052a13d00ec"), looks := false }, kinds := [], alts := [], laidByText := true, laidKinds := [.data], laidTests := true, laidLooks := .later }
def CoverPathUptoCardSaid : Prop := Claim7.holds Tryd.pinned (.plain (OpenSpec.upto coverPathSpec)) coverPathUptoCard

/-- THE SECOND FORM's CARD OF 'chirographkeep.RollApart'. -/
def rollApartUptoCard : Claim7 := { stood := { row := rollApartUptoRow, standIns := [], harness := (true, "d30052cfcf2d821c344ad464ff191904f293be33ee8381410048d052a13d00ec"), looks := false }, kinds := [], alts := [], laidByText := true, laidKinds := [.data], laidTests := true, laidLooks := .later }
def RollApartUptoCardSaid : Prop := Claim7.holds Tryd.pinned (.plain (OpenSpec.upto rollApartSpec)) rollApartUptoCard
end Rows
end Go.Proofs.YtcplnfaopigoiaaDoor
