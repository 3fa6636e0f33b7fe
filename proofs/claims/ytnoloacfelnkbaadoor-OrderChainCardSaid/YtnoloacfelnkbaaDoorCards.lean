/-
  DERIVED. GIVEN WITH THE SEED: THE CARDS: each row of YtnoloacfelnkbaaDoorRows.lean that lists a variable, with what it lists TIED to the program's text (the seventh form; the later family's looks); each row that meets fmt, with fmt's text TOLD by the authors' own Lean function (tested against real Go, not proved from fmt's source: count such statements apart). THE CARD IS WHAT COUNTS. Prove the row's statement (the work); the ties are given (YtnoloacfelnkbaaDoorTie.lean); close each card by the builder's one call (the guide's Derived/Test/ToyasCard.lean, 'card_holds'). Laid BY PROGRAM, IN A SANDBOX (cutbox-door.mjs). By AI agents, Wed Nov 11 2026. No macro, syntax, notation, axiom, sorry.
-/
import Derived.Test.YtnoloacfelnkbaaDoorRows
import GoSem.ClaimSeven
namespace Go.Proofs.YtnoloacfelnkbaaDoor
namespace Rows

/-- THE TIED CARD OF 'chirographlaw.ValueChecks'. -/
def valueChecksCard : Claim7 := { stood := { row := valueChecksRow, standIns := [], harness := (true, "ec04d70f2be227c36b1cad50edc91c8ea3a17635b44cc04cedd0722608120983"), looks := false }, kinds := [], alts := [], laidByText := true, laidKinds := [.data, .pinned], laidTests := true, laidLooks := .later }
def ValueChecksCardSaid : Prop := Claim7.holds Tryd.pinned (.plain (OpenSpec.ofChange valueChecksSpec)) valueChecksCard

/-- THE TIED CARD OF 'chirographlaw.ValueCompares'. -/
def valueComparesCard : Claim7 := { stood := { row := valueComparesRow, standIns := [], harness := (true, "ec04d70f2be227c36b1cad50edc91c8ea3a17635b44cc04cedd0722608120983"), looks := false }, kinds := [], alts := [], laidByText := true, laidKinds := [.data, .pinned], laidTests := true, laidLooks := .later }
def ValueComparesCardSaid : Prop := Claim7.holds Tryd.pinned (.plain (OpenSpec.ofChange valueComparesSpec)) valueComparesCard

/-- THE TIED CARD OF 'chirographlaw.ValueEquals'. -/
def valueEqualsCard : Claim7 := { stood := { row := valueEqualsRow, standIns := [], harness := (true, "ec04d70f2be227c36b1cad50edc91c8ea3a17635b44cc04cedd0722608120983"), looks := false }, kinds := [], alts := [], laidByText := true, laidKinds := [.data, .pinned], laidTests := true, laidLooks := .later }
def ValueEqualsCardSaid : Prop := Claim7.holds Tryd.pinned (.plain (OpenSpec.ofChange valueEqualsSpec)) valueEqualsCard

/-- THE TIED CARD OF 'chirographlaw.ValueLess'. -/
def valueLessCard : Claim7 := { stood := { row := valueLessRow, standIns := [], harness := (true, "ec04d70f2be227c36b1cad50edc91c8ea3a17635b44cc04cedd0722608120983"), looks := false }, kinds := [], alts := [], laidByText := true, laidKinds := [.data, .pinned], laidTests := true, laidLooks := .later }
def ValueLessCardSaid : Prop := Claim7.holds Tryd.pinned (.plain (OpenSpec.ofChange valueLessSpec)) valueLessCard

/-- THE TIED CARD OF 'chirographkeep.OrderTurns'. -/
def orderTurnsCard : Claim7 := { stood := { row := orderTurnsRow, standIns := [], harness := (true, "ec04d70f2be227c36b1cad50edc91c8ea3a17635b44cc04cedd0722608120983"), looks := false }, kinds := [], alts := [], laidByText := true, laidKinds := [.data, .pinned], laidTests := true, laidLooks := .later }
def OrderTurnsCardSaid : Prop := Claim7.holds Tryd.pinned (.plain (OpenSpec.ofChange orderTurnsSpec)) orderTurnsCard

/-- THE TIED CARD OF 'chirographkeep.OrderChain'. -/
def orderChainCard : Claim7 := { stood := { row := orderChainRow, standIns := [], harness := (true, "ec04d70f2be227c36b1cad50edc91c8ea3a17635b44cc04cedd0722608120983"), looks := false }, kinds := [], alts := [], laidByText := true, laidKinds := [.data, .pinned], laidTests := true, laidLooks := .later }
def OrderChainCardSaid : Prop := Claim7.holds Tryd.pinned (.plain (OpenSpec.ofChange orderChainSpec)) orderChainCard

/-- THE TIED CARD OF 'chirographkeep.RealsRise'. -/
def realsRiseCard : Claim7 := { stood := { row := realsRiseRow, standIns := [], harness := (true, "ec04d70f2be227c36b1cad50edc91c8ea3a17635b44cc04cedd0722608120983"), looks := false }, kinds := [], alts := [], laidByText := true, laidKinds := [.data, .pinned], laidTests := true, laidLooks := .later }
def RealsRiseCardSaid : Prop := Claim7.holds Tryd.pinned (.plain (OpenSpec.ofChange realsRiseSpec)) realsRiseCard

/-- THE TIED CARD OF 'chirographkeep.JustOne'. -/
def justOneCard : Claim7 := { stood := { row := justOneRow, standIns := [], harness := (true, "ec04d70f2be227c36b1cad50edc91c8ea3a17635b44cc04cedd0722608120983"), looks := false }, kinds := [], alts := [], laidByText := true, laidKinds := [.data, .pinned], laidTests := true, laidLooks := .later }
def JustOneCardSaid : Prop := Claim7.holds Tryd.pinned (.plain (OpenSpec.ofChange justOneSpec)) justOneCard

/-- THE SECOND FORM's CARD OF 'chirographlaw.ValueChecks'. -/
def valueChecksUptoCard : Claim7 := { stood := { row := valueChecksUptoRow, standIns := [], harness := (true, "ec04d70f2be227c36b1cad50edc91c8ea3a17635b44cc04cedd0722608120983"), looks := false }, kinds := [], alts := [], laidByText := true, laidKinds := [.data, .pinned], laidTests := true, laidLooks := .later }
def ValueChecksUptoCardSaid : Prop := Claim7.holds Tryd.pinned (.plain (OpenSpec.upto valueChecksSpec)) valueChecksUptoCard

/-- THE SECOND FORM's CARD OF 'chirographlaw.ValueCompares'. -/
def valueComparesUptoCard : Claim7 := { stood := { row := valueComparesUptoRow, standIns := [], harness := (true, "ec04d70f2be227c36b1cad50edc91c8ea3a17635b44cc04cedd0722608120983"), looks := false }, kinds := [], alts := [], laidByText := true, laidKinds := [.data, .pinned], laidTests := true, laidLooks := .later }
def ValueComparesUptoCardSaid : Prop := Claim7.holds Tryd.pinned (.plain (OpenSpec.upto valueComparesSpec)) valueComparesUptoCard

/-- THE SECOND FORM's CARD OF 'chirographlaw.ValueEquals'. -/
def valueEqualsUptoCard : Claim7 := { stood := { row := valueEqualsUptoRow, standIns := [], harness := (true, "ec04d70f2be227c36b1cad50edc91c8ea3a17635b44cc04cedd0722608120983"), looks := false }, kinds := [], alts := [], laidByText := true, laidKinds := [.data, .pinned], laidTests := true, laidLooks := .later }
def ValueEqualsUptoCardSaid : Prop := Claim7.holds Tryd.pinned (.plain (OpenSpec.upto valueEqualsSpec)) valueEqualsUptoCard

/-- THE SECOND FORM's CARD OF 'chirographlaw.ValueLess'. -/
def valueLessUptoCard : Claim7 := { stood := { row := valueLessUptoRow, standIns := [], harness := (true, "ec04d70f2be227c36b1cad50edc91c8ea3a17635b44cc04cedd0722608120983"), looks := false }, kinds := [], alts := [], laidByText := true, laidKinds := [.data, .pinned], laidTests := true, laidLooks := .later }
def ValueLessUptoCardSaid : Prop := Claim7.holds Tryd.pinned (.plain (OpenSpec.upto valueLessSpec)) valueLessUptoCard

/-- THE SECOND FORM's CARD OF 'chirographkeep.OrderTurns'. -/
def orderTurnsUptoCard : Claim7 := { stood := { row := orderTurnsUptoRow, standIns := [], harness := (true, "ec04d70f2be227c36b1cad50edc91c8ea3a17635b44cc04cedd0722608120983"), looks := false }, kinds := [], alts := [], laidByText := true, laidKinds := [.data, .pinned], laidTests := true, laidLooks := .later }
def OrderTurnsUptoCardSaid : Prop := Claim7.holds Tryd.pinned (.plain (OpenSpec.upto orderTurnsSpec)) orderTurnsUptoCard

/-- THE SECOND FORM's CARD OF 'chirographkeep.OrderChain'. -/
def orderChainUptoCard : Claim7 := { stood := { row := orderChainUptoRow, standIns := [], harness := (true, "ec04d70f2be227c36b1cad50edc91c8ea3a17635b44cc04cedd0722608120983"), looks := false }, kinds := [], alts := [], laidByText := true, laidKinds := [.data, .pinned], laidTests := true, laidLooks := .later }
def OrderChainUptoCardSaid : Prop := Claim7.holds Tryd.pinned (.plain (OpenSpec.upto orderChainSpec)) orderChainUptoCard

/-- THE SECOND FORM's CARD OF 'chirographkeep.RealsRise'. -/
def realsRiseUptoCard : Claim7 := { stood := { row := realsRiseUptoRow, standIns := [], harness := (true, "ec04d70f2be227c36b1cad50edc91c8ea3a17635b44cc04cedd0722608120983"), looks := false }, kinds := [], alts := [], laidByText := true, laidKinds := [.data, .pinned], laidTests := true, laidLooks := .later }
def RealsRiseUptoCardSaid : Prop := Claim7.holds Tryd.pinned (.plain (OpenSpec.upto realsRiseSpec)) realsRiseUptoCard

/-- THE SECOND FORM's CARD OF 'chirographkeep.JustOne'. -/
def justOneUptoCard : Claim7 := { stood := { row := justOneUptoRow, standIns := [], harness := (true, "ec04d70f2be227c36b1cad50edc91c8ea3a17635b44cc04cedd0722608120983"), looks := false }, kinds := [], alts := [], laidByText := true, laidKinds := [.data, .pinned], laidTests := true, laidLooks := .later }
def JustOneUptoCardSaid : Prop := Claim7.holds Tryd.pinned (.plain (OpenSpec.upto justOneSpec)) justOneUptoCard
end Rows
end Go.Proofs.YtnoloacfelnkbaaDoor
