/-
  DERIVED. GIVEN WITH THE SEED: THE CARDS: each row of YtfedlchncngafaaGreatDoorRows.lean that lists a variable, with what it lists TIED to the program's text (the seventh form; the later family's looks); each row that meets fmt, with fmt's text TOLD by the authors' own Lean function (tested against real Go, not proved from fmt's source: count such statements apart). THE CARD IS WHAT COUNTS. Prove the row's statement (the work); the ties are given (YtfedlchncngafaaGreatDoorTie.lean); close each card by the builder's one call (the guide's Derived/Test/ToyasCard.lean, 'card_holds'). Laid BY PROGRAM, IN A SANDBOX (cutbox-door.mjs). By AI agents, Wed Nov 11 2026. No macro, syntax, notation, axiom, sorry.
-/
import Derived.Test.YtfedlchncngafaaGreatDoorRows
import GoSem.ClaimSeven
namespace Go.Proofs.YtfedlchncngafaaGreatDoor
namespace Rows

/-- THE TIED CARD OF 'chirographlaw.TableHolds'. -/
def tableHoldsCard : Claim7 := { stood := { row := tableHoldsRow, standIns := [], harness := (true, "8f589415100791ea4fe629329d24f58a8b593c99416f73eff390243a7faa407c"), looks := false }, kinds := [], alts := [], laidByText := true, laidKinds := [.data, .data, .data, .pinned], laidTests := true, laidLooks := .later }
def TableHoldsCardSaid : Prop := Claim7.holds Tryz.pinned (.plain (OpenSpec.ofChange tableHoldsSpec)) tableHoldsCard

/-- THE TIED CARD OF 'chirographlaw.TableUpdates'. -/
def tableUpdatesCard : Claim7 := { stood := { row := tableUpdatesRow, standIns := [], harness := (true, "8f589415100791ea4fe629329d24f58a8b593c99416f73eff390243a7faa407c"), looks := false }, kinds := [], alts := [], laidByText := true, laidKinds := [.data, .data, .data, .pinned], laidTests := true, laidLooks := .later }
def TableUpdatesCardSaid : Prop := Claim7.holds Tryz.pinned (.plain (OpenSpec.ofChange tableUpdatesSpec)) tableUpdatesCard

/-- THE TIED CARD OF 'chirographlaw.TableDeletes'. -/
def tableDeletesCard : Claim7 := { stood := { row := tableDeletesRow, standIns := [], harness := (true, "8f589415100791ea4fe629329d24f58a8b593c99416f73eff390243a7faa407c"), looks := false }, kinds := [], alts := [], laidByText := true, laidKinds := [.data, .data, .data, .pinned], laidTests := true, laidLooks := .later }
def TableDeletesCardSaid : Prop := Claim7.holds Tryz.pinned (.plain (OpenSpec.ofChange tableDeletesSpec)) tableDeletesCard

/-- THE TIED CARD OF 'chirographkeep.DeleteParts'. -/
def deletePartsCard : Claim7 := { stood := { row := deletePartsRow, standIns := [], harness := (true, "8f589415100791ea4fe629329d24f58a8b593c99416f73eff390243a7faa407c"), looks := false }, kinds := [], alts := [], laidByText := true, laidKinds := [.data, .data, .data, .pinned], laidTests := true, laidLooks := .later }
def DeletePartsCardSaid : Prop := Claim7.holds Tryz.pinned (.plain (OpenSpec.ofChange deletePartsSpec)) deletePartsCard

/-- THE TIED CARD OF 'chirographkeep.UpdateParts'. -/
def updatePartsCard : Claim7 := { stood := { row := updatePartsRow, standIns := [], harness := (true, "8f589415100791ea4fe629329d24f58a8b593c99416f73eff390243a7faa407c"), looks := false }, kinds := [], alts := [], laidByText := true, laidKinds := [.data, .data, .data, .pinned], laidTests := true, laidLooks := .later }
def UpdatePartsCardSaid : Prop := Claim7.holds Tryz.pinned (.plain (OpenSpec.ofChange updatePartsSpec)) updatePartsCard

/-- THE TIED CARD OF 'chirographkeep.InsertDelete'. -/
def insertDeleteCard : Claim7 := { stood := { row := insertDeleteRow, standIns := [], harness := (true, "8f589415100791ea4fe629329d24f58a8b593c99416f73eff390243a7faa407c"), looks := false }, kinds := [], alts := [], laidByText := true, laidKinds := [.data, .data, .data, .pinned], laidTests := true, laidLooks := .later }
def InsertDeleteCardSaid : Prop := Claim7.holds Tryz.pinned (.plain (OpenSpec.ofChange insertDeleteSpec)) insertDeleteCard

/-- THE SECOND FORM's CARD OF 'chirographlaw.TableHolds'. -/
def tableHoldsUptoCard : Claim7 := { stood := { row := tableHoldsUptoRow, standIns := [], harness := (true, "8f589415100791ea4fe629329d24f58a8b593c99416f73eff390243a7faa407c"), looks := false }, kinds := [], alts := [], laidByText := true, laidKinds := [.data, .data, .data, .pinned], laidTests := true, laidLooks := .later }
def TableHoldsUptoCardSaid : Prop := Claim7.holds Tryz.pinned (.plain (OpenSpec.upto tableHoldsSpec)) tableHoldsUptoCard

/-- THE SECOND FORM's CARD OF 'chirographlaw.TableUpdates'. -/
def tableUpdatesUptoCard : Claim7 := { stood := { row := tableUpdatesUptoRow, standIns := [], harness := (true, "8f589415100791ea4fe629329d24f58a8b593c99416f73eff390243a7faa407c"), looks := false }, kinds := [], alts := [], laidByText := true, laidKinds := [.data, .data, .data, .pinned], laidTests := true, laidLooks := .later }
def TableUpdatesUptoCardSaid : Prop := Claim7.holds Tryz.pinned (.plain (OpenSpec.upto tableUpdatesSpec)) tableUpdatesUptoCard

/-- THE SECOND FORM's CARD OF 'chirographlaw.TableDeletes'. -/
def tableDeletesUptoCard : Claim7 := { stood := { row := tableDeletesUptoRow, standIns := [], harness := (true, "8f589415100791ea4fe629329d24f58a8b593c99416f73eff390243a7faa407c"), looks := false }, kinds := [], alts := [], laidByText := true, laidKinds := [.data, .data, .data, .pinned], laidTests := true, laidLooks := .later }
def TableDeletesUptoCardSaid : Prop := Claim7.holds Tryz.pinned (.plain (OpenSpec.upto tableDeletesSpec)) tableDeletesUptoCard

/-- THE SECOND FORM's CARD OF 'chirographkeep.DeleteParts'. -/
def deletePartsUptoCard : Claim7 := { stood := { row := deletePartsUptoRow, standIns := [], harness := (true, "8f589415100791ea4fe629329d24f58a8b593c99416f73eff390243a7faa407c"), looks := false }, kinds := [], alts := [], laidByText := true, laidKinds := [.data, .data, .data, .pinned], laidTests := true, laidLooks := .later }
def DeletePartsUptoCardSaid : Prop := Claim7.holds Tryz.pinned (.plain (OpenSpec.upto deletePartsSpec)) deletePartsUptoCard

/-- THE SECOND FORM's CARD OF 'chirographkeep.UpdateParts'. -/
def updatePartsUptoCard : Claim7 := { stood := { row := updatePartsUptoRow, standIns := [], harness := (true, "8f589415100791ea4fe629329d24f58a8b593c99416f73eff390243a7faa407c"), looks := false }, kinds := [], alts := [], laidByText := true, laidKinds := [.data, .data, .data, .pinned], laidTests := true, laidLooks := .later }
def UpdatePartsUptoCardSaid : Prop := Claim7.holds Tryz.pinned (.plain (OpenSpec.upto updatePartsSpec)) updatePartsUptoCard

/-- THE SECOND FORM's CARD OF 'chirographkeep.InsertDelete'. -/
def insertDeleteUptoCard : Claim7 := { stood := { row := insertDeleteUptoRow, standIns := [], harness := (true, "8f589415100791ea4fe629329d24f58a8b593c99416f73eff390243a7faa407c"), looks := false }, kinds := [], alts := [], laidByText := true, laidKinds := [.data, .data, .data, .pinned], laidTests := true, laidLooks := .later }
def InsertDeleteUptoCardSaid : Prop := Claim7.holds Tryz.pinned (.plain (OpenSpec.upto insertDeleteSpec)) insertDeleteUptoCard
end Rows
end Go.Proofs.YtfedlchncngafaaGreatDoor
