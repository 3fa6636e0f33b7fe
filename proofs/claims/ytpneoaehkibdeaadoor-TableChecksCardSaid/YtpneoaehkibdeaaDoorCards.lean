/-
  DERIVED. GIVEN WITH THE SEED: THE CARDS: each row of YtpneoaehkibdeaaDoorRows.lean that lists a variable, with what it lists TIED to the program's text (the seventh form; the later family's looks); each row that meets fmt, with fmt's text TOLD by the authors' own Lean function (tested against real Go, not proved from fmt's source: count such statements apart). THE CARD IS WHAT COUNTS. Prove the row's statement (the work); the ties are given (YtpneoaehkibdeaaDoorTie.lean); close each card by the builder's one call (the guide's Derived/Test/ToyasCard.lean, 'card_holds'). Laid BY PROGRAM, IN A SANDBOX (cutbox-door.mjs). By AI agents, Wed Nov 11 2026. No macro, syntax, notation, axiom, sorry.
-/
import Derived.Test.YtpneoaehkibdeaaDoorRows
import GoSem.ClaimSeven
namespace Go.Proofs.YtpneoaehkibdeaaDoor
namespace Rows

/-- THE TIED CARD OF 'chirographlaw.TableChecks'. -/
def tableChecksCard : Claim7 := { stood := { row := tableChecksRow, standIns := [], harness := (true, "8e55f75bcab0aac43caf56d2d09d994863dc6e7af11952352e50042382d51e2f"), looks := false }, kinds := [], alts := [], laidByText := true, laidKinds := [.data, .data, .pinned], laidTests := true, laidLooks := .later }
def TableChecksCardSaid : Prop := Claim7.holds Tryd.pinned (.plain (OpenSpec.ofChange tableChecksSpec)) tableChecksCard

/-- THE TIED CARD OF 'chirographlaw.TableInserts'. -/
def tableInsertsCard : Claim7 := { stood := { row := tableInsertsRow, standIns := [], harness := (true, "8e55f75bcab0aac43caf56d2d09d994863dc6e7af11952352e50042382d51e2f"), looks := false }, kinds := [], alts := [], laidByText := true, laidKinds := [.data, .data, .pinned], laidTests := true, laidLooks := .later }
def TableInsertsCardSaid : Prop := Claim7.holds Tryd.pinned (.plain (OpenSpec.ofChange tableInsertsSpec)) tableInsertsCard

/-- THE TIED CARD OF 'chirographlaw.TableConditions'. -/
def tableConditionsCard : Claim7 := { stood := { row := tableConditionsRow, standIns := [], harness := (true, "8e55f75bcab0aac43caf56d2d09d994863dc6e7af11952352e50042382d51e2f"), looks := false }, kinds := [], alts := [], laidByText := true, laidKinds := [.data, .data, .data, .pinned], laidTests := true, laidLooks := .later }
def TableConditionsCardSaid : Prop := Claim7.holds Tryd.pinned (.plain (OpenSpec.ofChange tableConditionsSpec)) tableConditionsCard

/-- THE TIED CARD OF 'chirographlaw.TableRows'. -/
def tableRowsCard : Claim7 := { stood := { row := tableRowsRow, standIns := [], harness := (true, "8e55f75bcab0aac43caf56d2d09d994863dc6e7af11952352e50042382d51e2f"), looks := false }, kinds := [], alts := [], laidByText := true, laidKinds := [.data, .data, .pinned], laidTests := true, laidLooks := .later }
def TableRowsCardSaid : Prop := Claim7.holds Tryd.pinned (.plain (OpenSpec.ofChange tableRowsSpec)) tableRowsCard

/-- THE TIED CARD OF 'chirographkeep.InsertThere'. -/
def insertThereCard : Claim7 := { stood := { row := insertThereRow, standIns := [], harness := (true, "8e55f75bcab0aac43caf56d2d09d994863dc6e7af11952352e50042382d51e2f"), looks := false }, kinds := [], alts := [], laidByText := true, laidKinds := [.data, .data, .pinned], laidTests := true, laidLooks := .later }
def InsertThereCardSaid : Prop := Claim7.holds Tryd.pinned (.plain (OpenSpec.ofChange insertThereSpec)) insertThereCard

/-- THE TIED CARD OF 'chirographkeep.RowsRise'. -/
def rowsRiseCard : Claim7 := { stood := { row := rowsRiseRow, standIns := [], harness := (true, "8e55f75bcab0aac43caf56d2d09d994863dc6e7af11952352e50042382d51e2f"), looks := false }, kinds := [], alts := [], laidByText := true, laidKinds := [.data, .data, .pinned], laidTests := true, laidLooks := .later }
def RowsRiseCardSaid : Prop := Claim7.holds Tryd.pinned (.plain (OpenSpec.ofChange rowsRiseSpec)) rowsRiseCard

/-- THE SECOND FORM's CARD OF 'chirographlaw.TableChecks'. -/
def tableChecksUptoCard : Claim7 := { stood := { row := tableChecksUptoRow, standIns := [], harness := (true, "8e55f75bcab0aac43caf56d2d09d994863dc6e7af11952352e50042382d51e2f"), looks := false }, kinds := [], alts := [], laidByText := true, laidKinds := [.data, .data, .pinned], laidTests := true, laidLooks := .later }
def TableChecksUptoCardSaid : Prop := Claim7.holds Tryd.pinned (.plain (OpenSpec.upto tableChecksSpec)) tableChecksUptoCard

/-- THE SECOND FORM's CARD OF 'chirographlaw.TableInserts'. -/
def tableInsertsUptoCard : Claim7 := { stood := { row := tableInsertsUptoRow, standIns := [], harness := (true, "8e55f75bcab0aac43caf56d2d09d994863dc6e7af11952352e50042382d51e2f"), looks := false }, kinds := [], alts := [], laidByText := true, laidKinds := [.data, .data, .pinned], laidTests := true, laidLooks := .later }
def TableInsertsUptoCardSaid : Prop := Claim7.holds Tryd.pinned (.plain (OpenSpec.upto tableInsertsSpec)) tableInsertsUptoCard

/-- THE SECOND FORM's CARD OF 'chirographlaw.TableConditions'. -/
def tableConditionsUptoCard : Claim7 := { stood := { row := tableConditionsUptoRow, standIns := [], harness := (true, "8e55f75bcab0aac43caf56d2d09d994863dc6e7af11952352e50042382d51e2f"), looks := false }, kinds := [], alts := [], laidByText := true, laidKinds := [.data, .data, .data, .pinned], laidTests := true, laidLooks := .later }
def TableConditionsUptoCardSaid : Prop := Claim7.holds Tryd.pinned (.plain (OpenSpec.upto tableConditionsSpec)) tableConditionsUptoCard

/-- THE SECOND FORM's CARD OF 'chirographlaw.TableRows'. -/
def tableRowsUptoCard : Claim7 := { stood := { row := tableRowsUptoRow, standIns := [], harness := (true, "8e55f75bcab0aac43caf56d2d09d994863dc6e7af11952352e50042382d51e2f"), looks := false }, kinds := [], alts := [], laidByText := true, laidKinds := [.data, .data, .pinned], laidTests := true, laidLooks := .later }
def TableRowsUptoCardSaid : Prop := Claim7.holds Tryd.pinned (.plain (OpenSpec.upto tableRowsSpec)) tableRowsUptoCard

/-- THE SECOND FORM's CARD OF 'chirographkeep.InsertThere'. -/
def insertThereUptoCard : Claim7 := { stood := { row := insertThereUptoRow, standIns := [], harness := (true, "8e55f75bcab0aac43caf56d2d09d994863dc6e7af11952352e50042382d51e2f"), looks := false }, kinds := [], alts := [], laidByText := true, laidKinds := [.data, .data, .pinned], laidTests := true, laidLooks := .later }
def InsertThereUptoCardSaid : Prop := Claim7.holds Tryd.pinned (.plain (OpenSpec.upto insertThereSpec)) insertThereUptoCard

/-- THE SECOND FORM's CARD OF 'chirographkeep.RowsRise'. -/
def rowsRiseUptoCard : Claim7 := { stood := { row := rowsRiseUptoRow, standIns := [], harness := (true, "8e55f75bcab0aac43caf56d2d09d994863dc6e7af11952352e50042382d51e2f"), looks := false }, kinds := [], alts := [], laidByText := true, laidKinds := [.data, .data, .pinned], laidTests := true, laidLooks := .later }
def RowsRiseUptoCardSaid : Prop := Claim7.holds Tryd.pinned (.plain (OpenSpec.upto rowsRiseSpec)) rowsRiseUptoCard
end Rows
end Go.Proofs.YtpneoaehkibdeaaDoor
