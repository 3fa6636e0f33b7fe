/-
  DERIVED. GIVEN WITH THE SEED: THE CARDS: each row of YtoleaahnpcbkkaaDoorRows.lean that lists a variable, with what it lists TIED to the program's text (the seventh form; the later family's looks); each row that meets fmt, with fmt's text TOLD by the authors' own Lean function (tested against real Go, not proved from fmt's source: count such statements apart). THE CARD IS WHAT COUNTS. Prove the row's statement (the work); the ties are given (YtoleaahnpcbkkaaDoorTie.lean); close each card by the builder's one call (the guide's Derived/Test/ToyasCard.lean, 'card_holds'). Laid BY PROGRAM, IN A SANDBOX (cutbox-door.mjs). By AI agents, Wed Nov 11 2026. No macro, syntax, notation, axiom, sorry.
-/
import Derived.Test.YtoleaahnpcbkkaaDoorRows
import GoSem.ClaimSeven
namespace Go.Proofs.YtoleaahnpcbkkaaDoor
namespace Rows

/-- THE TIED CARD OF 'chirographlaw.KindsColumns'. -/
def kindsColumnsCard : Claim7 := { stood := { row := kindsColumnsRow, standIns := [], harness := (true, "c625b231fdfbd7cd746e1645453ea8ac048f540d8083070510425228de3ded94"), looks := false }, kinds := [], alts := [], laidByText := true, laidKinds := [.data, .data, .pinned], laidTests := true, laidLooks := .later }
def KindsColumnsCardSaid : Prop := Claim7.holds Tryd.pinned (.plain (OpenSpec.ofChange kindsColumnsSpec)) kindsColumnsCard

/-- THE TIED CARD OF 'chirographlaw.KindsOf'. -/
def kindsOfCard : Claim7 := { stood := { row := kindsOfRow, standIns := [], harness := (true, "c625b231fdfbd7cd746e1645453ea8ac048f540d8083070510425228de3ded94"), looks := false }, kinds := [], alts := [], laidByText := true, laidKinds := [.data, .data, .data, .pinned], laidTests := true, laidLooks := .later }
def KindsOfCardSaid : Prop := Claim7.holds Tryd.pinned (.plain (OpenSpec.ofChange kindsOfSpec)) kindsOfCard

/-- THE TIED CARD OF 'chirographlaw.KindsRows'. -/
def kindsRowsCard : Claim7 := { stood := { row := kindsRowsRow, standIns := [], harness := (true, "c625b231fdfbd7cd746e1645453ea8ac048f540d8083070510425228de3ded94"), looks := false }, kinds := [], alts := [], laidByText := true, laidKinds := [.data, .data, .pinned], laidTests := true, laidLooks := .later }
def KindsRowsCardSaid : Prop := Claim7.holds Tryd.pinned (.plain (OpenSpec.ofChange kindsRowsSpec)) kindsRowsCard

/-- THE TIED CARD OF 'chirographkeep.KindMore'. -/
def kindMoreCard : Claim7 := { stood := { row := kindMoreRow, standIns := [], harness := (true, "c625b231fdfbd7cd746e1645453ea8ac048f540d8083070510425228de3ded94"), looks := false }, kinds := [], alts := [], laidByText := true, laidKinds := [.data, .data, .data, .pinned], laidTests := true, laidLooks := .later }
def KindMoreCardSaid : Prop := Claim7.holds Tryd.pinned (.plain (OpenSpec.ofChange kindMoreSpec)) kindMoreCard

/-- THE TIED CARD OF 'chirographkeep.KindStrict'. -/
def kindStrictCard : Claim7 := { stood := { row := kindStrictRow, standIns := [], harness := (true, "c625b231fdfbd7cd746e1645453ea8ac048f540d8083070510425228de3ded94"), looks := false }, kinds := [], alts := [], laidByText := true, laidKinds := [.data, .data, .data, .pinned], laidTests := true, laidLooks := .later }
def KindStrictCardSaid : Prop := Claim7.holds Tryd.pinned (.plain (OpenSpec.ofChange kindStrictSpec)) kindStrictCard

/-- THE SECOND FORM's CARD OF 'chirographlaw.KindsColumns'. -/
def kindsColumnsUptoCard : Claim7 := { stood := { row := kindsColumnsUptoRow, standIns := [], harness := (true, "c625b231fdfbd7cd746e1645453ea8ac048f540d8083070510425228de3ded94"), looks := false }, kinds := [], alts := [], laidByText := true, laidKinds := [.data, .data, .pinned], laidTests := true, laidLooks := .later }
def KindsColumnsUptoCardSaid : Prop := Claim7.holds Tryd.pinned (.plain (OpenSpec.upto kindsColumnsSpec)) kindsColumnsUptoCard

/-- THE SECOND FORM's CARD OF 'chirographlaw.KindsOf'. -/
def kindsOfUptoCard : Claim7 := { stood := { row := kindsOfUptoRow, standIns := [], harness := (true, "c625b231fdfbd7cd746e1645453ea8ac048f540d8083070510425228de3ded94"), looks := false }, kinds := [], alts := [], laidByText := true, laidKinds := [.data, .data, .data, .pinned], laidTests := true, laidLooks := .later }
def KindsOfUptoCardSaid : Prop := Claim7.holds Tryd.pinned (.plain (OpenSpec.upto kindsOfSpec)) kindsOfUptoCard

/-- THE SECOND FORM's CARD OF 'chirographlaw.KindsRows'. -/
def kindsRowsUptoCard : Claim7 := { stood := { row := kindsRowsUptoRow, standIns := [], harness := (true, "c625b231fdfbd7cd746e1645453ea8ac048f540d8083070510425228de3ded94"), looks := false }, kinds := [], alts := [], laidByText := true, laidKinds := [.data, .data, .pinned], laidTests := true, laidLooks := .later }
def KindsRowsUptoCardSaid : Prop := Claim7.holds Tryd.pinned (.plain (OpenSpec.upto kindsRowsSpec)) kindsRowsUptoCard

/-- THE SECOND FORM's CARD OF 'chirographkeep.KindMore'. -/
def kindMoreUptoCard : Claim7 := { stood := { row := kindMoreUptoRow, standIns := [], harness := (true, "c625b231fdfbd7cd746e1645453ea8ac048f540d8083070510425228de3ded94"), looks := false }, kinds := [], alts := [], laidByText := true, laidKinds := [.data, .data, .data, .pinned], laidTests := true, laidLooks := .later }
def KindMoreUptoCardSaid : Prop := Claim7.holds Tryd.pinned (.plain (OpenSpec.upto kindMoreSpec)) kindMoreUptoCard

/-- THE SECOND FORM's CARD OF 'chirographkeep.KindStrict'. -/
def kindStrictUptoCard : Claim7 := { stood := { row := kindStrictUptoRow, standIns := [], harness := (true, "c625b231fdfbd7cd746e1645453ea8ac048f540d8083070510425228de3ded94"), looks := false }, kinds := [], alts := [], laidByText := true, laidKinds := [.data, .data, .data, .pinned], laidTests := true, laidLooks := .later }
def KindStrictUptoCardSaid : Prop := Claim7.holds Tryd.pinned (.plain (OpenSpec.upto kindStrictSpec)) kindStrictUptoCard
end Rows
end Go.Proofs.YtoleaahnpcbkkaaDoor
