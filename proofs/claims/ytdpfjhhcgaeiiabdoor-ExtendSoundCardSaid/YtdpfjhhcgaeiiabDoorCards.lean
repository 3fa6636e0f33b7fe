/-
  DERIVED. GIVEN WITH THE SEED: THE CARDS: each row of YtdpfjhhcgaeiiabDoorRows.lean that lists a variable, with what it lists TIED to the program's text (the seventh form; the later family's looks); each row that meets fmt, with fmt's text TOLD by the authors' own Lean function (tested against real Go, not proved from fmt's source: count such statements apart). THE CARD IS WHAT COUNTS. Prove the row's statement (the work); the ties are given (YtdpfjhhcgaeiiabDoorTie.lean); close each card by the builder's one call (the guide's Derived/Test/ToyasCard.lean, 'card_holds'). Laid BY PROGRAM, IN A SANDBOX (cutbox-door.mjs). By AI agents, Wed Nov 11 2026. No macro, syntax, notation, axiom, sorry.
-/
import Derived.Test.YtdpfjhhcgaeiiabDoorRows
import GoSem.ClaimSeven
namespace Go.Proofs.YtdpfjhhcgaeiiabDoor
namespace Rows

/-- THE TIED CARD OF 'chirographkeep.CoverSound'. -/
def coverSoundCard : Claim7 := { stood := { row := coverSoundRow, standIns := [], harness := (true, "6a9d7e1463afd0aaba4352ba7dfaf00488184c3ef68c8bebf8bbbebe752c5202"), looks := false }, kinds := [], alts := [], laidByText := true, laidKinds := [.data], laidTests := true, laidLooks := .later }
def CoverSoundCardSaid : Prop := Claim7.holds Tryd.pinned (.plain (OpenSpec.ofChange coverSoundSpec)) coverSoundCard

/-- THE TIED CARD OF 'chirographkeep.CoverShape'. -/
def coverShapeCard : Claim7 := { stood := { row := coverShapeRow, standIns := [], harness := (true, "6a9d7e1463afd0aaba4352ba7dfaf00488184c3ef68c8bebf8bbbebe752c5202"), looks := false }, kinds := [], alts := [], laidByText := true, laidKinds := [.data], laidTests := true, laidLooks := .later }
def CoverShapeCardSaid : Prop := Claim7.holds Tryd.pinned (.plain (OpenSpec.ofChange coverShapeSpec)) coverShapeCard

/-- THE TIED CARD OF 'chirographkeep.CoverPath'. -/
def coverPathCard : Claim7 := { stood := { row := coverPathRow, standIns := [], harness := (true, "6a9d7e1463afd0aaba4352ba7dfaf00488184c3ef68c8bebf8bbbebe752c5202"), looks := false }, kinds := [], alts := [], laidByText := true, laidKinds := [.data], laidTests := true, laidLooks := .later }
def CoverPathCardSaid : Prop := Claim7.holds Tryd.pinned (.plain (OpenSpec.ofChange coverPathSpec)) coverPathCard

/-- THE TIED CARD OF 'chirographkeep.SlotsApart'. -/
def slotsApartCard : Claim7 := { stood := { row := slotsApartRow, standIns := [], harness := (true, "6a9d7e1463afd0aaba4352ba7dfaf00488184c3ef68c8bebf8bbbebe752c5202"), looks := false }, kinds := [], alts := [], laidByText := true, laidKinds := [.data], laidTests := true, laidLooks := .later }
def SlotsApartCardSaid : Prop := Claim7.holds Tryd.pinned (.plain (OpenSpec.ofChange slotsApartSpec)) slotsApartCard

/-- THE TIED CARD OF 'chirographkeep.IncludeRight'. -/
def includeRightCard : Claim7 := { stood := { row := includeRightRow, standIns := [], harness := (true, "6a9d7e1463afd0aaba4352ba7dfaf00488184c3ef68c8bebf8bbbebe752c5202"), looks := false }, kinds := [], alts := [], laidByText := true, laidKinds := [.data], laidTests := true, laidLooks := .later }
def IncludeRightCardSaid : Prop := Claim7.holds Tryd.pinned (.plain (OpenSpec.ofChange includeRightSpec)) includeRightCard

/-- THE TIED CARD OF 'chirographkeep.IncludeSound'. -/
def includeSoundCard : Claim7 := { stood := { row := includeSoundRow, standIns := [], harness := (true, "6a9d7e1463afd0aaba4352ba7dfaf00488184c3ef68c8bebf8bbbebe752c5202"), looks := false }, kinds := [], alts := [], laidByText := true, laidKinds := [.data], laidTests := true, laidLooks := .later }
def IncludeSoundCardSaid : Prop := Claim7.holds Tryd.pinned (.plain (OpenSpec.ofChange includeSoundSpec)) includeSoundCard

/-- THE TIED CARD OF 'chirographkeep.ExtendRight'. -/
def extendRightCard : Claim7 := { stood := { row := extendRightRow, standIns := [], harness := (true, "6a9d7e1463afd0aaba4352ba7dfaf00488184c3ef68c8bebf8bbbebe752c5202"), looks := false }, kinds := [], alts := [], laidByText := true, laidKinds := [.data], laidTests := true, laidLooks := .later }
def ExtendRightCardSaid : Prop := Claim7.holds Tryd.pinned (.plain (OpenSpec.ofChange extendRightSpec)) extendRightCard

/-- THE TIED CARD OF 'chirographkeep.ExtendSound'. -/
def extendSoundCard : Claim7 := { stood := { row := extendSoundRow, standIns := [], harness := (true, "6a9d7e1463afd0aaba4352ba7dfaf00488184c3ef68c8bebf8bbbebe752c5202"), looks := false }, kinds := [], alts := [], laidByText := true, laidKinds := [.data], laidTests := true, laidLooks := .later }
def ExtendSoundCardSaid : Prop := Claim7.holds Tryd.pinned (.plain (OpenSpec.ofChange extendSoundSpec)) extendSoundCard

/-- THE TIED CARD OF 'chirographkeep.RollApart'. -/
def rollApartCard : Claim7 := { stood := { row := rollApartRow, standIns := [], harness := (true, "6a9d7e1463afd0aaba4352ba7dfaf00488184c3ef68c8bebf8bbbebe752c5202"), looks := false }, kinds := [], alts := [], laidByText := true, laidKinds := [.data], laidTests := true, laidLooks := .later }
def RollApartCardSaid : Prop := Claim7.holds Tryd.pinned (.plain (OpenSpec.ofChange rollApartSpec)) rollApartCard

/-- THE SECOND FORM's CARD OF 'chirographkeep.CoverSound'. -/
def coverSoundUptoCard : Claim7 := { stood := { row := coverSoundUptoRow, standIns := [], harness := (true, "6a9d7e1463afd0aaba4352ba7dfaf00488184c3ef68c8bebf8bbbebe752c5202"), looks := false }, kinds := [], alts := [], laidByText := true, laidKinds := [.data], laidTests := true, laidLooks := .later }
def CoverSoundUptoCardSaid : Prop := Claim7.holds Tryd.pinned (.plain (OpenSpec.upto coverSoundSpec)) coverSoundUptoCard

/-- THE SECOND FORM's CARD OF 'chirographkeep.CoverShape'. -/
def coverShapeUptoCard : Claim7 := { stood := { row := coverShapeUptoRow, standIns := [], harness := (true, "6a9d7e1463afd0aaba4352ba7dfaf00488184c3ef68c8bebf8bbbebe752c5202"), looks := false }, kinds := [], alts := [], laidByText := true, laidKinds := [.data], laidTests := true, laidLooks := .later }
def CoverShapeUptoCardSaid : Prop := Claim7.holds Tryd.pinned (.plain (OpenSpec.upto coverShapeSpec)) coverShapeUptoCard

/-- THE SECOND FORM's CARD OF 'chirographkeep.CoverPath'. -/
def coverPathUptoCard : Claim7 := { stood := { row := coverPathUptoRow, standIns := [], harness := (true, "6a9d7e1463afd0aaba4352ba7dfaf00488184c3ef68c8bebf8bbbebe752c5202"), looks := false }, kinds := [], alts := [], laidByText := true, laidKinds := [.data], laidTests := true, laidLooks := .later }
def CoverPathUptoCardSaid : Prop := Claim7.holds Tryd.pinned (.plain (OpenSpec.upto coverPathSpec)) coverPathUptoCard

/-- THE SECOND FORM's CARD OF 'chirographkeep.SlotsApart'. -/
def slotsApartUptoCard : Claim7 := { stood := { row := slotsApartUptoRow, standIns := [], harness := (true, "6a9d7e1463afd0aaba4352ba7dfaf00488184c3ef68c8bebf8bbbebe752c5202"), looks := false }, kinds := [], alts := [], laidByText := true, laidKinds := [.data], laidTests := true, laidLooks := .later }
def SlotsApartUptoCardSaid : Prop := Claim7.holds Tryd.pinned (.plain (OpenSpec.upto slotsApartSpec)) slotsApartUptoCard

/-- THE SECOND FORM's CARD OF 'chirographkeep.IncludeRight'. -/
def includeRightUptoCard : Claim7 := { stood := { row := includeRightUptoRow, standIns := [], harness := (true, "6a9d7e1463afd0aaba4352ba7dfaf00488184c3ef68c8bebf8bbbebe752c5202"), looks := false }, kinds := [], alts := [], laidByText := true, laidKinds := [.data], laidTests := true, laidLooks := .later }
def IncludeRightUptoCardSaid : Prop := Claim7.holds Tryd.pinned (.plain (OpenSpec.upto includeRightSpec)) includeRightUptoCard

/-- THE SECOND FORM's CARD OF 'chirographkeep.IncludeSound'. -/
def includeSoundUptoCard : Claim7 := { stood := { row := includeSoundUptoRow, standIns := [], harness := (true, "6a9d7e1463afd0aaba4352ba7dfaf00488184c3ef68c8bebf8bbbebe752c5202"), looks := false }, kinds := [], alts := [], laidByText := true, laidKinds := [.data], laidTests := true, laidLooks := .later }
def IncludeSoundUptoCardSaid : Prop := Claim7.holds Tryd.pinned (.plain (OpenSpec.upto includeSoundSpec)) includeSoundUptoCard

/-- THE SECOND FORM's CARD OF 'chirographkeep.ExtendRight'. -/
def extendRightUptoCard : Claim7 := { stood := { row := extendRightUptoRow, standIns := [], harness := (true, "6a9d7e1463afd0aaba4352ba7dfaf00488184c3ef68c8bebf8bbbebe752c5202"), looks := false }, kinds := [], alts := [], laidByText := true, laidKinds := [.data], laidTests := true, laidLooks := .later }
def ExtendRightUptoCardSaid : Prop := Claim7.holds Tryd.pinned (.plain (OpenSpec.upto extendRightSpec)) extendRightUptoCard

/-- THE SECOND FORM's CARD OF 'chirographkeep.ExtendSound'. -/
def extendSoundUptoCard : Claim7 := { stood := { row := extendSoundUptoRow, standIns := [], harness := (true, "6a9d7e1463afd0aaba4352ba7dfaf00488184c3ef68c8bebf8bbbebe752c5202"), looks := false }, kinds := [], alts := [], laidByText := true, laidKinds := [.data], laidTests := true, laidLooks := .later }
def ExtendSoundUptoCardSaid : Prop := Claim7.holds Tryd.pinned (.plain (OpenSpec.upto extendSoundSpec)) extendSoundUptoCard

/-- THE SECOND FORM's CARD OF 'chirographkeep.RollApart'. -/
def rollApartUptoCard : Claim7 := { stood := { row := rollApartUptoRow, standIns := [], harness := (true, "6a9d7e1463afd0aaba4352ba7dfaf00488184c3ef68c8bebf8bbbebe752c5202"), looks := false }, kinds := [], alts := [], laidByText := true, laidKinds := [.data], laidTests := true, laidLooks := .later }
def RollApartUptoCardSaid : Prop := Claim7.holds Tryd.pinned (.plain (OpenSpec.upto rollApartSpec)) rollApartUptoCard
end Rows
end Go.Proofs.YtdpfjhhcgaeiiabDoor
