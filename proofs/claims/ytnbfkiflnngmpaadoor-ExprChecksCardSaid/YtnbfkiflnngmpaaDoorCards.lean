/-
  DERIVED. GIVEN WITH THE SEED: THE CARDS: each row of YtnbfkiflnngmpaaDoorRows.lean that lists a variable, with what it lists TIED to the program's text (the seventh form; the later family's looks); each row that meets fmt, with fmt's text TOLD by the authors' own Lean function (tested against real Go, not proved from fmt's source: count such statements apart). THE CARD IS WHAT COUNTS. Prove the row's statement (the work); the ties are given (YtnbfkiflnngmpaaDoorTie.lean); close each card by the builder's one call (the guide's Derived/Test/ToyasCard.lean, 'card_holds'). Laid BY PROGRAM, IN A SANDBOX (cutbox-door.mjs). By AI agents, Wed Nov 11 2026. No macro, syntax, notation, axiom, sorry.
-/
import Derived.Test.YtnbfkiflnngmpaaDoorRows
import GoSem.ClaimSeven
namespace Go.Proofs.YtnbfkiflnngmpaaDoor
namespace Rows

/-- THE TIED CARD OF 'chirographlaw.ExprChecks'. -/
def exprChecksCard : Claim7 := { stood := { row := exprChecksRow, standIns := [], harness := (true, "739a94c86c4f52d27e9f09e42f529d65e90bdbd99607316c50e0f2ef9dec2a51"), looks := true }, kinds := [], alts := [], laidByText := true, laidKinds := [.data, .data, .data, .pinned], laidTests := true, laidLooks := .later }
def ExprChecksCardSaid : Prop := Claim7.holds Tryd.pinned (.plain (OpenSpec.ofChange exprChecksSpec)) exprChecksCard

/-- THE TIED CARD OF 'chirographlaw.ExprShows'. -/
def exprShowsCard : Claim7 := { stood := { row := exprShowsRow, standIns := [], harness := (true, "739a94c86c4f52d27e9f09e42f529d65e90bdbd99607316c50e0f2ef9dec2a51"), looks := true }, kinds := [], alts := [], laidByText := true, laidKinds := [.data, .listed, .data, .data, .data, .data, .pinned], laidTests := true, laidLooks := .later }
def ExprShowsCardSaid : Prop := Claim7.holds Tryd.pinned (.plain (OpenSpec.ofChange exprShowsSpec)) exprShowsCard

/-- THE TIED CARD OF 'chirographlaw.ExprReads'. -/
def exprReadsCard : Claim7 := { stood := { row := exprReadsRow, standIns := [], harness := (true, "739a94c86c4f52d27e9f09e42f529d65e90bdbd99607316c50e0f2ef9dec2a51"), looks := true }, kinds := [], alts := [], laidByText := true, laidKinds := [.data, .listed, .data, .data, .data, .data, .pinned], laidTests := true, laidLooks := .later }
def ExprReadsCardSaid : Prop := Claim7.holds Tryd.pinned (.plain (OpenSpec.ofChange exprReadsSpec)) exprReadsCard

/-- THE TIED CARD OF 'chirographlaw.ExprParses'. -/
def exprParsesCard : Claim7 := { stood := { row := exprParsesRow, standIns := [], harness := (true, "739a94c86c4f52d27e9f09e42f529d65e90bdbd99607316c50e0f2ef9dec2a51"), looks := true }, kinds := [], alts := [], laidByText := true, laidKinds := [.data, .listed, .data, .data, .data, .data, .pinned], laidTests := true, laidLooks := .later }
def ExprParsesCardSaid : Prop := Claim7.holds Tryd.pinned (.plain (OpenSpec.ofChange exprParsesSpec)) exprParsesCard

/-- THE TIED CARD OF 'chirographkeep.ExprBack'. -/
def exprBackCard : Claim7 := { stood := { row := exprBackRow, standIns := [], harness := (true, "739a94c86c4f52d27e9f09e42f529d65e90bdbd99607316c50e0f2ef9dec2a51"), looks := true }, kinds := [], alts := [], laidByText := true, laidKinds := [.data, .data, .data, .pinned], laidTests := true, laidLooks := .later }
def ExprBackCardSaid : Prop := Claim7.holds Tryd.pinned (.plain (OpenSpec.ofChange exprBackSpec)) exprBackCard

/-- THE TIED CARD OF 'chirographkeep.ExprFixed'. -/
def exprFixedCard : Claim7 := { stood := { row := exprFixedRow, standIns := [], harness := (true, "739a94c86c4f52d27e9f09e42f529d65e90bdbd99607316c50e0f2ef9dec2a51"), looks := true }, kinds := [], alts := [], laidByText := true, laidKinds := [.data, .data, .data, .pinned], laidTests := true, laidLooks := .later }
def ExprFixedCardSaid : Prop := Claim7.holds Tryd.pinned (.plain (OpenSpec.ofChange exprFixedSpec)) exprFixedCard

/-- THE TIED CARD OF 'chirographkeep.ExprFewest'. -/
def exprFewestCard : Claim7 := { stood := { row := exprFewestRow, standIns := [], harness := (true, "739a94c86c4f52d27e9f09e42f529d65e90bdbd99607316c50e0f2ef9dec2a51"), looks := true }, kinds := [], alts := [], laidByText := true, laidKinds := [.data, .data, .data, .pinned], laidTests := true, laidLooks := .later }
def ExprFewestCardSaid : Prop := Claim7.holds Tryd.pinned (.plain (OpenSpec.ofChange exprFewestSpec)) exprFewestCard

/-- THE TIED CARD OF 'chirographkeep.ExprMore'. -/
def exprMoreCard : Claim7 := { stood := { row := exprMoreRow, standIns := [], harness := (true, "739a94c86c4f52d27e9f09e42f529d65e90bdbd99607316c50e0f2ef9dec2a51"), looks := true }, kinds := [], alts := [], laidByText := true, laidKinds := [.data, .data, .data, .pinned], laidTests := true, laidLooks := .later }
def ExprMoreCardSaid : Prop := Claim7.holds Tryd.pinned (.plain (OpenSpec.ofChange exprMoreSpec)) exprMoreCard

/-- THE TIED CARD OF 'chirographkeep.ExprAhead'. -/
def exprAheadCard : Claim7 := { stood := { row := exprAheadRow, standIns := [], harness := (true, "739a94c86c4f52d27e9f09e42f529d65e90bdbd99607316c50e0f2ef9dec2a51"), looks := true }, kinds := [], alts := [], laidByText := true, laidKinds := [.data, .data, .data, .pinned], laidTests := true, laidLooks := .later }
def ExprAheadCardSaid : Prop := Claim7.holds Tryd.pinned (.plain (OpenSpec.ofChange exprAheadSpec)) exprAheadCard

/-- THE SECOND FORM's CARD OF 'chirographlaw.ExprChecks'. -/
def exprChecksUptoCard : Claim7 := { stood := { row := exprChecksUptoRow, standIns := [], harness := (true, "739a94c86c4f52d27e9f09e42f529d65e90bdbd99607316c50e0f2ef9dec2a51"), looks := true }, kinds := [], alts := [], laidByText := true, laidKinds := [.data, .data, .data, .pinned], laidTests := true, laidLooks := .later }
def ExprChecksUptoCardSaid : Prop := Claim7.holds Tryd.pinned (.plain (OpenSpec.upto exprChecksSpec)) exprChecksUptoCard

/-- THE SECOND FORM's CARD OF 'chirographlaw.ExprShows'. -/
def exprShowsUptoCard : Claim7 := { stood := { row := exprShowsUptoRow, standIns := [], harness := (true, "739a94c86c4f52d27e9f09e42f529d65e90bdbd99607316c50e0f2ef9dec2a51"), looks := true }, kinds := [], alts := [], laidByText := true, laidKinds := [.data, .listed, .data, .data, .data, .data, .pinned], laidTests := true, laidLooks := .later }
def ExprShowsUptoCardSaid : Prop := Claim7.holds Tryd.pinned (.plain (OpenSpec.upto exprShowsSpec)) exprShowsUptoCard

/-- THE SECOND FORM's CARD OF 'chirographlaw.ExprReads'. -/
def exprReadsUptoCard : Claim7 := { stood := { row := exprReadsUptoRow, standIns := [], harness := (true, "739a94c86c4f52d27e9f09e42f529d65e90bdbd99607316c50e0f2ef9dec2a51"), looks := true }, kinds := [], alts := [], laidByText := true, laidKinds := [.data, .listed, .data, .data, .data, .data, .pinned], laidTests := true, laidLooks := .later }
def ExprReadsUptoCardSaid : Prop := Claim7.holds Tryd.pinned (.plain (OpenSpec.upto exprReadsSpec)) exprReadsUptoCard

/-- THE SECOND FORM's CARD OF 'chirographlaw.ExprParses'. -/
def exprParsesUptoCard : Claim7 := { stood := { row := exprParsesUptoRow, standIns := [], harness := (true, "739a94c86c4f52d27e9f09e42f529d65e90bdbd99607316c50e0f2ef9dec2a51"), looks := true }, kinds := [], alts := [], laidByText := true, laidKinds := [.data, .listed, .data, .data, .data, .data, .pinned], laidTests := true, laidLooks := .later }
def ExprParsesUptoCardSaid : Prop := Claim7.holds Tryd.pinned (.plain (OpenSpec.upto exprParsesSpec)) exprParsesUptoCard

/-- THE SECOND FORM's CARD OF 'chirographkeep.ExprBack'. -/
def exprBackUptoCard : Claim7 := { stood := { row := exprBackUptoRow, standIns := [], harness := (true, "739a94c86c4f52d27e9f09e42f529d65e90bdbd99607316c50e0f2ef9dec2a51"), looks := true }, kinds := [], alts := [], laidByText := true, laidKinds := [.data, .data, .data, .pinned], laidTests := true, laidLooks := .later }
def ExprBackUptoCardSaid : Prop := Claim7.holds Tryd.pinned (.plain (OpenSpec.upto exprBackSpec)) exprBackUptoCard

/-- THE SECOND FORM's CARD OF 'chirographkeep.ExprFixed'. -/
def exprFixedUptoCard : Claim7 := { stood := { row := exprFixedUptoRow, standIns := [], harness := (true, "739a94c86c4f52d27e9f09e42f529d65e90bdbd99607316c50e0f2ef9dec2a51"), looks := true }, kinds := [], alts := [], laidByText := true, laidKinds := [.data, .data, .data, .pinned], laidTests := true, laidLooks := .later }
def ExprFixedUptoCardSaid : Prop := Claim7.holds Tryd.pinned (.plain (OpenSpec.upto exprFixedSpec)) exprFixedUptoCard

/-- THE SECOND FORM's CARD OF 'chirographkeep.ExprFewest'. -/
def exprFewestUptoCard : Claim7 := { stood := { row := exprFewestUptoRow, standIns := [], harness := (true, "739a94c86c4f52d27e9f09e42f529d65e90bdbd99607316c50e0f2ef9dec2a51"), looks := true }, kinds := [], alts := [], laidByText := true, laidKinds := [.data, .data, .data, .pinned], laidTests := true, laidLooks := .later }
def ExprFewestUptoCardSaid : Prop := Claim7.holds Tryd.pinned (.plain (OpenSpec.upto exprFewestSpec)) exprFewestUptoCard

/-- THE SECOND FORM's CARD OF 'chirographkeep.ExprMore'. -/
def exprMoreUptoCard : Claim7 := { stood := { row := exprMoreUptoRow, standIns := [], harness := (true, "739a94c86c4f52d27e9f09e42f529d65e90bdbd99607316c50e0f2ef9dec2a51"), looks := true }, kinds := [], alts := [], laidByText := true, laidKinds := [.data, .data, .data, .pinned], laidTests := true, laidLooks := .later }
def ExprMoreUptoCardSaid : Prop := Claim7.holds Tryd.pinned (.plain (OpenSpec.upto exprMoreSpec)) exprMoreUptoCard

/-- THE SECOND FORM's CARD OF 'chirographkeep.ExprAhead'. -/
def exprAheadUptoCard : Claim7 := { stood := { row := exprAheadUptoRow, standIns := [], harness := (true, "739a94c86c4f52d27e9f09e42f529d65e90bdbd99607316c50e0f2ef9dec2a51"), looks := true }, kinds := [], alts := [], laidByText := true, laidKinds := [.data, .data, .data, .pinned], laidTests := true, laidLooks := .later }
def ExprAheadUptoCardSaid : Prop := Claim7.holds Tryd.pinned (.plain (OpenSpec.upto exprAheadSpec)) exprAheadUptoCard
end Rows
end Go.Proofs.YtnbfkiflnngmpaaDoor
