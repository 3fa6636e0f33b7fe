/-
  DERIVED. GIVEN WITH THE SEED: THE CARDS: each row of YtmldhnghfdhjmaaDoorRows.lean that lists a variable, with what it lists TIED to the program's text (the seventh form; the later family's looks); each row that meets fmt, with fmt's text TOLD by the authors' own Lean function (tested against real Go, not proved from fmt's source: count such statements apart). THE CARD IS WHAT COUNTS. Prove the row's statement (the work); the ties are given (YtmldhnghfdhjmaaDoorTie.lean); close each card by the builder's one call (the guide's Derived/Test/ToyasCard.lean, 'card_holds'). Laid BY PROGRAM, IN A SANDBOX (cutbox-door.mjs). By AI agents, Wed Nov 11 2026. No macro, syntax, notation, axiom, sorry.
-/
import Derived.Test.YtmldhnghfdhjmaaDoorRows
import GoSem.ClaimSeven
namespace Go.Proofs.YtmldhnghfdhjmaaDoor
namespace Rows

/-- THE TIED CARD OF 'chirographlaw.OracleDigests'. -/
def oracleDigestsCard : Claim7 := { stood := { row := oracleDigestsRow, standIns := [], harness := (true, "882b6c7fa9c9b5594b09c9f46fbfc374fd8b7627c6b722d1e34a2999be1577b1"), looks := false }, kinds := [], alts := [], laidByText := true, laidKinds := [.data], laidTests := true, laidLooks := .later }
def OracleDigestsCardSaid : Prop := Claim7.holds Tryd.pinned (.plain (OpenSpec.ofChange oracleDigestsSpec)) oracleDigestsCard

/-- THE TIED CARD OF 'chirographlaw.OracleSalts'. -/
def oracleSaltsCard : Claim7 := { stood := { row := oracleSaltsRow, standIns := [], harness := (true, "882b6c7fa9c9b5594b09c9f46fbfc374fd8b7627c6b722d1e34a2999be1577b1"), looks := false }, kinds := [], alts := [], laidByText := true, laidKinds := [.data], laidTests := true, laidLooks := .later }
def OracleSaltsCardSaid : Prop := Claim7.holds Tryd.pinned (.plain (OpenSpec.ofChange oracleSaltsSpec)) oracleSaltsCard

/-- THE TIED CARD OF 'chirographkeep.OpenTells'. -/
def openTellsCard : Claim7 := { stood := { row := openTellsRow, standIns := [], harness := (true, "882b6c7fa9c9b5594b09c9f46fbfc374fd8b7627c6b722d1e34a2999be1577b1"), looks := false }, kinds := [], alts := [], laidByText := true, laidKinds := [.data], laidTests := true, laidLooks := .later }
def OpenTellsCardSaid : Prop := Claim7.holds Tryd.pinned (.plain (OpenSpec.ofChange openTellsSpec)) openTellsCard

/-- THE TIED CARD OF 'chirographkeep.SaltsApart'. -/
def saltsApartCard : Claim7 := { stood := { row := saltsApartRow, standIns := [], harness := (true, "882b6c7fa9c9b5594b09c9f46fbfc374fd8b7627c6b722d1e34a2999be1577b1"), looks := false }, kinds := [], alts := [], laidByText := true, laidKinds := [.data], laidTests := true, laidLooks := .later }
def SaltsApartCardSaid : Prop := Claim7.holds Tryd.pinned (.plain (OpenSpec.ofChange saltsApartSpec)) saltsApartCard

/-- THE TIED CARD OF 'chirographlaw.SlotsLeaves'. -/
def slotsLeavesCard : Claim7 := { stood := { row := slotsLeavesRow, standIns := [], harness := (true, "882b6c7fa9c9b5594b09c9f46fbfc374fd8b7627c6b722d1e34a2999be1577b1"), looks := false }, kinds := [], alts := [], laidByText := true, laidKinds := [.data], laidTests := true, laidLooks := .later }
def SlotsLeavesCardSaid : Prop := Claim7.holds Tryd.pinned (.plain (OpenSpec.ofChange slotsLeavesSpec)) slotsLeavesCard

/-- THE TIED CARD OF 'chirographlaw.SlotsRoots'. -/
def slotsRootsCard : Claim7 := { stood := { row := slotsRootsRow, standIns := [], harness := (true, "882b6c7fa9c9b5594b09c9f46fbfc374fd8b7627c6b722d1e34a2999be1577b1"), looks := false }, kinds := [], alts := [], laidByText := true, laidKinds := [.data], laidTests := true, laidLooks := .later }
def SlotsRootsCardSaid : Prop := Claim7.holds Tryd.pinned (.plain (OpenSpec.ofChange slotsRootsSpec)) slotsRootsCard

/-- THE TIED CARD OF 'chirographlaw.SlotsPaths'. -/
def slotsPathsCard : Claim7 := { stood := { row := slotsPathsRow, standIns := [], harness := (true, "882b6c7fa9c9b5594b09c9f46fbfc374fd8b7627c6b722d1e34a2999be1577b1"), looks := false }, kinds := [], alts := [], laidByText := true, laidKinds := [.data], laidTests := true, laidLooks := .later }
def SlotsPathsCardSaid : Prop := Claim7.holds Tryd.pinned (.plain (OpenSpec.ofChange slotsPathsSpec)) slotsPathsCard

/-- THE SECOND FORM's CARD OF 'chirographlaw.OracleDigests'. -/
def oracleDigestsUptoCard : Claim7 := { stood := { row := oracleDigestsUptoRow, standIns := [], harness := (true, "882b6c7fa9c9b5594b09c9f46fbfc374fd8b7627c6b722d1e34a2999be1577b1"), looks := false }, kinds := [], alts := [], laidByText := true, laidKinds := [.data], laidTests := true, laidLooks := .later }
def OracleDigestsUptoCardSaid : Prop := Claim7.holds Tryd.pinned (.plain (OpenSpec.upto oracleDigestsSpec)) oracleDigestsUptoCard

/-- THE SECOND FORM's CARD OF 'chirographlaw.OracleSalts'. -/
def oracleSaltsUptoCard : Claim7 := { stood := { row := oracleSaltsUptoRow, standIns := [], harness := (true, "882b6c7fa9c9b5594b09c9f46fbfc374fd8b7627c6b722d1e34a2999be1577b1"), looks := false }, kinds := [], alts := [], laidByText := true, laidKinds := [.data], laidTests := true, laidLooks := .later }
def OracleSaltsUptoCardSaid : Prop := Claim7.holds Tryd.pinned (.plain (OpenSpec.upto oracleSaltsSpec)) oracleSaltsUptoCard

/-- THE SECOND FORM's CARD OF 'chirographkeep.OpenTells'. -/
def openTellsUptoCard : Claim7 := { stood := { row := openTellsUptoRow, standIns := [], harness := (true, "882b6c7fa9c9b5594b09c9f46fbfc374fd8b7627c6b722d1e34a2999be1577b1"), looks := false }, kinds := [], alts := [], laidByText := true, laidKinds := [.data], laidTests := true, laidLooks := .later }
def OpenTellsUptoCardSaid : Prop := Claim7.holds Tryd.pinned (.plain (OpenSpec.upto openTellsSpec)) openTellsUptoCard

/-- THE SECOND FORM's CARD OF 'chirographkeep.SaltsApart'. -/
def saltsApartUptoCard : Claim7 := { stood := { row := saltsApartUptoRow, standIns := [], harness := (true, "882b6c7fa9c9b5594b09c9f46fbfc374fd8b7627c6b722d1e34a2999be1577b1"), looks := false }, kinds := [], alts := [], laidByText := true, laidKinds := [.data], laidTests := true, laidLooks := .later }
def SaltsApartUptoCardSaid : Prop := Claim7.holds Tryd.pinned (.plain (OpenSpec.upto saltsApartSpec)) saltsApartUptoCard

/-- THE SECOND FORM's CARD OF 'chirographlaw.SlotsLeaves'. -/
def slotsLeavesUptoCard : Claim7 := { stood := { row := slotsLeavesUptoRow, standIns := [], harness := (true, "882b6c7fa9c9b5594b09c9f46fbfc374fd8b7627c6b722d1e34a2999be1577b1"), looks := false }, kinds := [], alts := [], laidByText := true, laidKinds := [.data], laidTests := true, laidLooks := .later }
def SlotsLeavesUptoCardSaid : Prop := Claim7.holds Tryd.pinned (.plain (OpenSpec.upto slotsLeavesSpec)) slotsLeavesUptoCard

/-- THE SECOND FORM's CARD OF 'chirographlaw.SlotsRoots'. -/
def slotsRootsUptoCard : Claim7 := { stood := { row := slotsRootsUptoRow, standIns := [], harness := (true, "882b6c7fa9c9b5594b09c9f46fbfc374fd8b7627c6b722d1e34a2999be1577b1"), looks := false }, kinds := [], alts := [], laidByText := true, laidKinds := [.data], laidTests := true, laidLooks := .later }
def SlotsRootsUptoCardSaid : Prop := Claim7.holds Tryd.pinned (.plain (OpenSpec.upto slotsRootsSpec)) slotsRootsUptoCard

/-- THE SECOND FORM's CARD OF 'chirographlaw.SlotsPaths'. -/
def slotsPathsUptoCard : Claim7 := { stood := { row := slotsPathsUptoRow, standIns := [], harness := (true, "882b6c7fa9c9b5594b09c9f46fbfc374fd8b7627c6b722d1e34a2999be1577b1"), looks := false }, kinds := [], alts := [], laidByText := true, laidKinds := [.data], laidTests := true, laidLooks := .later }
def SlotsPathsUptoCardSaid : Prop := Claim7.holds Tryd.pinned (.plain (OpenSpec.upto slotsPathsSpec)) slotsPathsUptoCard
end Rows
end Go.Proofs.YtmldhnghfdhjmaaDoor
