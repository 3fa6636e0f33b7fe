/-
  DERIVED. GIVEN WITH THE SEED: THE CARDS: each row of YtjllecmlabodaaaDoorRows.lean that lists a variable, with what it lists TIED to the program's text (the seventh form; the later family's looks); each row that meets fmt, with fmt's text TOLD by the authors' own Lean function (tested against real Go, not proved from fmt's source: count such statements apart). THE CARD IS WHAT COUNTS. Prove the row's statement (the work); the ties are given (YtjllecmlabodaaaDoorTie.lean); close each card by the builder's one call (the guide's Derived/Test/ToyasCard.lean, 'card_holds'). Laid BY PROGRAM, IN A SANDBOX (cutbox-door.mjs). By AI agents, Wed Nov 11 2026. No macro, syntax, notation, axiom, sorry.
-/
import Derived.Test.YtjllecmlabodaaaDoorRows
import GoSem.ClaimSeven
namespace Go.Proofs.YtjllecmlabodaaaDoor
namespace Rows

/-- THE TIED CARD OF 'chirographlaw.SumAdds'. -/
def sumAddsCard : Claim7 := { stood := { row := sumAddsRow, standIns := [], harness := (true, "8d1ceaaf00d28be3c74669e7f95911e3bb5a002d334dfa6b19a86a5aa5244f21"), looks := false }, kinds := [], alts := [], laidByText := true, laidKinds := [.data], laidTests := true, laidLooks := .later }
def SumAddsCardSaid : Prop := Claim7.holds Tryd.pinned (.plain (OpenSpec.ofChange sumAddsSpec)) sumAddsCard

/-- THE TIED CARD OF 'chirographlaw.SumEnds'. -/
def sumEndsCard : Claim7 := { stood := { row := sumEndsRow, standIns := [], harness := (true, "8d1ceaaf00d28be3c74669e7f95911e3bb5a002d334dfa6b19a86a5aa5244f21"), looks := false }, kinds := [], alts := [], laidByText := true, laidKinds := [.data], laidTests := true, laidLooks := .later }
def SumEndsCardSaid : Prop := Claim7.holds Tryd.pinned (.plain (OpenSpec.ofChange sumEndsSpec)) sumEndsCard

/-- THE TIED CARD OF 'chirographlaw.SumSums'. -/
def sumSumsCard : Claim7 := { stood := { row := sumSumsRow, standIns := [], harness := (true, "8d1ceaaf00d28be3c74669e7f95911e3bb5a002d334dfa6b19a86a5aa5244f21"), looks := false }, kinds := [], alts := [], laidByText := true, laidKinds := [.data], laidTests := true, laidLooks := .later }
def SumSumsCardSaid : Prop := Claim7.holds Tryd.pinned (.plain (OpenSpec.ofChange sumSumsSpec)) sumSumsCard

/-- THE TIED CARD OF 'chirographlaw.MacSums'. -/
def macSumsCard : Claim7 := { stood := { row := macSumsRow, standIns := [], harness := (true, "8d1ceaaf00d28be3c74669e7f95911e3bb5a002d334dfa6b19a86a5aa5244f21"), looks := false }, kinds := [], alts := [], laidByText := true, laidKinds := [.data], laidTests := true, laidLooks := .later }
def MacSumsCardSaid : Prop := Claim7.holds Tryd.pinned (.plain (OpenSpec.ofChange macSumsSpec)) macSumsCard

/-- THE TIED CARD OF 'chirographkeep.SumParts'. -/
def sumPartsCard : Claim7 := { stood := { row := sumPartsRow, standIns := [], harness := (true, "8d1ceaaf00d28be3c74669e7f95911e3bb5a002d334dfa6b19a86a5aa5244f21"), looks := false }, kinds := [], alts := [], laidByText := true, laidKinds := [.data], laidTests := true, laidLooks := .later }
def SumPartsCardSaid : Prop := Claim7.holds Tryd.pinned (.plain (OpenSpec.ofChange sumPartsSpec)) sumPartsCard

/-- THE TIED CARD OF 'chirographkeep.SumKnown'. -/
def sumKnownCard : Claim7 := { stood := { row := sumKnownRow, standIns := [], harness := (true, "8d1ceaaf00d28be3c74669e7f95911e3bb5a002d334dfa6b19a86a5aa5244f21"), looks := false }, kinds := [], alts := [], laidByText := true, laidKinds := [.data], laidTests := true, laidLooks := .later }
def SumKnownCardSaid : Prop := Claim7.holds Tryd.pinned (.plain (OpenSpec.ofChange sumKnownSpec)) sumKnownCard

/-- THE TIED CARD OF 'chirographlaw.OracleDigests'. -/
def oracleDigestsCard : Claim7 := { stood := { row := oracleDigestsRow, standIns := [], harness := (true, "8d1ceaaf00d28be3c74669e7f95911e3bb5a002d334dfa6b19a86a5aa5244f21"), looks := false }, kinds := [], alts := [], laidByText := true, laidKinds := [.data], laidTests := true, laidLooks := .later }
def OracleDigestsCardSaid : Prop := Claim7.holds Tryd.pinned (.plain (OpenSpec.ofChange oracleDigestsSpec)) oracleDigestsCard

/-- THE TIED CARD OF 'chirographlaw.OracleSalts'. -/
def oracleSaltsCard : Claim7 := { stood := { row := oracleSaltsRow, standIns := [], harness := (true, "8d1ceaaf00d28be3c74669e7f95911e3bb5a002d334dfa6b19a86a5aa5244f21"), looks := false }, kinds := [], alts := [], laidByText := true, laidKinds := [.data], laidTests := true, laidLooks := .later }
def OracleSaltsCardSaid : Prop := Claim7.holds Tryd.pinned (.plain (OpenSpec.ofChange oracleSaltsSpec)) oracleSaltsCard

/-- THE TIED CARD OF 'chirographkeep.OpenTells'. -/
def openTellsCard : Claim7 := { stood := { row := openTellsRow, standIns := [], harness := (true, "8d1ceaaf00d28be3c74669e7f95911e3bb5a002d334dfa6b19a86a5aa5244f21"), looks := false }, kinds := [], alts := [], laidByText := true, laidKinds := [.data], laidTests := true, laidLooks := .later }
def OpenTellsCardSaid : Prop := Claim7.holds Tryd.pinned (.plain (OpenSpec.ofChange openTellsSpec)) openTellsCard

/-- THE TIED CARD OF 'chirographkeep.SaltsApart'. -/
def saltsApartCard : Claim7 := { stood := { row := saltsApartRow, standIns := [], harness := (true, "8d1ceaaf00d28be3c74669e7f95911e3bb5a002d334dfa6b19a86a5aa5244f21"), looks := false }, kinds := [], alts := [], laidByText := true, laidKinds := [.data], laidTests := true, laidLooks := .later }
def SaltsApartCardSaid : Prop := Claim7.holds Tryd.pinned (.plain (OpenSpec.ofChange saltsApartSpec)) saltsApartCard

/-- THE SECOND FORM's CARD OF 'chirographlaw.SumAdds'. -/
def sumAddsUptoCard : Claim7 := { stood := { row := sumAddsUptoRow, standIns := [], harness := (true, "8d1ceaaf00d28be3c74669e7f95911e3bb5a002d334dfa6b19a86a5aa5244f21"), looks := false }, kinds := [], alts := [], laidByText := true, laidKinds := [.data], laidTests := true, laidLooks := .later }
def SumAddsUptoCardSaid : Prop := Claim7.holds Tryd.pinned (.plain (OpenSpec.upto sumAddsSpec)) sumAddsUptoCard

/-- THE SECOND FORM's CARD OF 'chirographlaw.SumEnds'. -/
def sumEndsUptoCard : Claim7 := { stood := { row := sumEndsUptoRow, standIns := [], harness := (true, "8d1ceaaf00d28be3c74669e7f95911e3bb5a002d334dfa6b19a86a5aa5244f21"), looks := false }, kinds := [], alts := [], laidByText := true, laidKinds := [.data], laidTests := true, laidLooks := .later }
def SumEndsUptoCardSaid : Prop := Claim7.holds Tryd.pinned (.plain (OpenSpec.upto sumEndsSpec)) sumEndsUptoCard

/-- THE SECOND FORM's CARD OF 'chirographlaw.SumSums'. -/
def sumSumsUptoCard : Claim7 := { stood := { row := sumSumsUptoRow, standIns := [], harness := (true, "8d1ceaaf00d28be3c74669e7f95911e3bb5a002d334dfa6b19a86a5aa5244f21"), looks := false }, kinds := [], alts := [], laidByText := true, laidKinds := [.data], laidTests := true, laidLooks := .later }
def SumSumsUptoCardSaid : Prop := Claim7.holds Tryd.pinned (.plain (OpenSpec.upto sumSumsSpec)) sumSumsUptoCard

/-- THE SECOND FORM's CARD OF 'chirographlaw.MacSums'. -/
def macSumsUptoCard : Claim7 := { stood := { row := macSumsUptoRow, standIns := [], harness := (true, "8d1ceaaf00d28be3c74669e7f95911e3bb5a002d334dfa6b19a86a5aa5244f21"), looks := false }, kinds := [], alts := [], laidByText := true, laidKinds := [.data], laidTests := true, laidLooks := .later }
def MacSumsUptoCardSaid : Prop := Claim7.holds Tryd.pinned (.plain (OpenSpec.upto macSumsSpec)) macSumsUptoCard

/-- THE SECOND FORM's CARD OF 'chirographkeep.SumParts'. -/
def sumPartsUptoCard : Claim7 := { stood := { row := sumPartsUptoRow, standIns := [], harness := (true, "8d1ceaaf00d28be3c74669e7f95911e3bb5a002d334dfa6b19a86a5aa5244f21"), looks := false }, kinds := [], alts := [], laidByText := true, laidKinds := [.data], laidTests := true, laidLooks := .later }
def SumPartsUptoCardSaid : Prop := Claim7.holds Tryd.pinned (.plain (OpenSpec.upto sumPartsSpec)) sumPartsUptoCard

/-- THE SECOND FORM's CARD OF 'chirographkeep.SumKnown'. -/
def sumKnownUptoCard : Claim7 := { stood := { row := sumKnownUptoRow, standIns := [], harness := (true, "8d1ceaaf00d28be3c74669e7f95911e3bb5a002d334dfa6b19a86a5aa5244f21"), looks := false }, kinds := [], alts := [], laidByText := true, laidKinds := [.data], laidTests := true, laidLooks := .later }
def SumKnownUptoCardSaid : Prop := Claim7.holds Tryd.pinned (.plain (OpenSpec.upto sumKnownSpec)) sumKnownUptoCard

/-- THE SECOND FORM's CARD OF 'chirographlaw.OracleDigests'. -/
def oracleDigestsUptoCard : Claim7 := { stood := { row := oracleDigestsUptoRow, standIns := [], harness := (true, "8d1ceaaf00d28be3c74669e7f95911e3bb5a002d334dfa6b19a86a5aa5244f21"), looks := false }, kinds := [], alts := [], laidByText := true, laidKinds := [.data], laidTests := true, laidLooks := .later }
def OracleDigestsUptoCardSaid : Prop := Claim7.holds Tryd.pinned (.plain (OpenSpec.upto oracleDigestsSpec)) oracleDigestsUptoCard

/-- THE SECOND FORM's CARD OF 'chirographlaw.OracleSalts'. -/
def oracleSaltsUptoCard : Claim7 := { stood := { row := oracleSaltsUptoRow, standIns := [], harness := (true, "8d1ceaaf00d28be3c74669e7f95911e3bb5a002d334dfa6b19a86a5aa5244f21"), looks := false }, kinds := [], alts := [], laidByText := true, laidKinds := [.data], laidTests := true, laidLooks := .later }
def OracleSaltsUptoCardSaid : Prop := Claim7.holds Tryd.pinned (.plain (OpenSpec.upto oracleSaltsSpec)) oracleSaltsUptoCard

/-- THE SECOND FORM's CARD OF 'chirographkeep.OpenTells'. -/
def openTellsUptoCard : Claim7 := { stood := { row := openTellsUptoRow, standIns := [], harness := (true, "8d1ceaaf00d28be3c74669e7f95911e3bb5a002d334dfa6b19a86a5aa5244f21"), looks := false }, kinds := [], alts := [], laidByText := true, laidKinds := [.data], laidTests := true, laidLooks := .later }
def OpenTellsUptoCardSaid : Prop := Claim7.holds Tryd.pinned (.plain (OpenSpec.upto openTellsSpec)) openTellsUptoCard

/-- THE SECOND FORM's CARD OF 'chirographkeep.SaltsApart'. -/
def saltsApartUptoCard : Claim7 := { stood := { row := saltsApartUptoRow, standIns := [], harness := (true, "8d1ceaaf00d28be3c74669e7f95911e3bb5a002d334dfa6b19a86a5aa5244f21"), looks := false }, kinds := [], alts := [], laidByText := true, laidKinds := [.data], laidTests := true, laidLooks := .later }
def SaltsApartUptoCardSaid : Prop := Claim7.holds Tryd.pinned (.plain (OpenSpec.upto saltsApartSpec)) saltsApartUptoCard
end Rows
end Go.Proofs.YtjllecmlabodaaaDoor
