/-
  NARROWER THAN 'FOR EVERY INPUT', by the rows' own cells (each row's printed sentence says how): TableHolds: loops, laid · TableUpdates: loops, laid · TableDeletes: loops, laid · DeleteParts: laid · UpdateParts: laid · InsertDelete: laid.
  DERIVED. THE GIVEN ROWS OF THIS SEAT. 6 by the template 'for every input the law returns true; each argument reads behind the call as it read before'; 0 by the template 'total and deterministic' (their statements: YtfedlchncngafaaGreatDoorTotals.lean).
  GIVEN WITH THE SEED: the statements are not yours to turn. If you find one false, say at which input.
  Laid BY PROGRAM, IN A SANDBOX (cutbox-rows.mjs): the forced cells as the released guide's own fill.sh prints them over the translation 534c6442618afaf5… (all of the seat's roots in one cut). By AI agents, Wed Nov 11 2026. No macro, syntax, notation, axiom, sorry.
-/
import Derived.Test.YtfedlchncngafaaGreatDoorChecked
import GoSem.PinnedTables
import GoSem.Claim
import GoSem.ClaimJoined
import GoSem.ClaimMapViews
import Derived.JoinedTies
import Derived.KernelRfl
namespace Go.Proofs.YtfedlchncngafaaGreatDoor
/- THE CELL 'sum', in the pinned program and in every row, IS THE sha256 OF THE DUMP (.gsa) THAT YtfedlchncngafaaGreatDoorProg.lean LOADS. Nothing in Lean hashes anything: it is a label: what it is worth is what the hold of that sum in a sandbox is worth. -/
noncomputable def Tryz.pinned : Pinned := { name := "ytfedlchncngafaagreatdoor", sum := "534c6442618afaf56f6d0c1a4e70658f0f8ab08644022404ff8bfde568665299", checked := Tryz.checked }
namespace Rows
def none {H : Type} : Left H := { results := [], args := [] }

/- WHAT THE LISTED PACKAGE-LEVEL VARIABLES READ AS WHEN THE CALL BEGINS. Each datum BY PROGRAM (the guide's laid-datum.mjs) off the statement by which the dump's own 'gosem.cut.vars' lays the variable. In a bare row this is a premise. The card (YtfedlchncngafaaGreatDoorCards.lean) ties it to the program's text. -/
def laid_unicode_utf8_acceptRanges {H : Type} : DataW H := .agg [.agg [.lit (.int .u8 128), .lit (.int .u8 191)], .agg [.lit (.int .u8 160), .lit (.int .u8 191)], .agg [.lit (.int .u8 128), .lit (.int .u8 159)], .agg [.lit (.int .u8 144), .lit (.int .u8 191)], .agg [.lit (.int .u8 128), .lit (.int .u8 143)], .agg [.lit (.int .u8 0), .lit (.int .u8 0)], .agg [.lit (.int .u8 0), .lit (.int .u8 0)], .agg [.lit (.int .u8 0), .lit (.int .u8 0)], .agg [.lit (.int .u8 0), .lit (.int .u8 0)], .agg [.lit (.int .u8 0), .lit (.int .u8 0)], .agg [.lit (.int .u8 0), .lit (.int .u8 0)], .agg [.lit (.int .u8 0), .lit (.int .u8 0)], .agg [.lit (.int .u8 0), .lit (.int .u8 0)], .agg [.lit (.int .u8 0), .lit (.int .u8 0)], .agg [.lit (.int .u8 0), .lit (.int .u8 0)], .agg [.lit (.int .u8 0), .lit (.int .u8 0)]]
def laid_chirograph_lex_signs {H : Type} : DataW H := .agg [.lit (.string [60, 61]), .lit (.string [60, 62]), .lit (.string [62, 61]), .lit (.string [124, 124]), .lit (.string [40]), .lit (.string [41]), .lit (.string [44]), .lit (.string [46]), .lit (.string [61]), .lit (.string [60]), .lit (.string [62]), .lit (.string [43]), .lit (.string [45]), .lit (.string [42]), .lit (.string [47]), .lit (.string [59])]
def laid_chirograph_expr_forms {H : Type} : DataW H := .agg [.agg [.lit (.int .i64 0), .lit (.int .i64 0), .lit (.int .i64 0), .lit (.string []), .lit (.int .i64 0)], .agg [.lit (.int .i64 0), .lit (.int .i64 9), .lit (.int .i64 0), .lit (.string []), .lit (.int .i64 0)], .agg [.lit (.int .i64 0), .lit (.int .i64 9), .lit (.int .i64 0), .lit (.string []), .lit (.int .i64 0)], .agg [.lit (.int .i64 1), .lit (.int .i64 8), .lit (.int .i64 0), .lit (.string [45]), .lit (.int .i64 8)], .agg [.lit (.int .i64 1), .lit (.int .i64 3), .lit (.int .i64 0), .lit (.string [78, 79, 84]), .lit (.int .i64 3)], .agg [.lit (.int .i64 2), .lit (.int .i64 6), .lit (.int .i64 6), .lit (.string [43]), .lit (.int .i64 7)], .agg [.lit (.int .i64 2), .lit (.int .i64 6), .lit (.int .i64 6), .lit (.string [45]), .lit (.int .i64 7)], .agg [.lit (.int .i64 2), .lit (.int .i64 7), .lit (.int .i64 7), .lit (.string [42]), .lit (.int .i64 8)], .agg [.lit (.int .i64 2), .lit (.int .i64 7), .lit (.int .i64 7), .lit (.string [47]), .lit (.int .i64 8)], .agg [.lit (.int .i64 2), .lit (.int .i64 4), .lit (.int .i64 5), .lit (.string [61]), .lit (.int .i64 5)], .agg [.lit (.int .i64 2), .lit (.int .i64 4), .lit (.int .i64 5), .lit (.string [60, 62]), .lit (.int .i64 5)], .agg [.lit (.int .i64 2), .lit (.int .i64 4), .lit (.int .i64 5), .lit (.string [60]), .lit (.int .i64 5)], .agg [.lit (.int .i64 2), .lit (.int .i64 4), .lit (.int .i64 5), .lit (.string [60, 61]), .lit (.int .i64 5)], .agg [.lit (.int .i64 2), .lit (.int .i64 4), .lit (.int .i64 5), .lit (.string [62]), .lit (.int .i64 5)], .agg [.lit (.int .i64 2), .lit (.int .i64 4), .lit (.int .i64 5), .lit (.string [62, 61]), .lit (.int .i64 5)], .agg [.lit (.int .i64 2), .lit (.int .i64 2), .lit (.int .i64 2), .lit (.string [65, 78, 68]), .lit (.int .i64 3)], .agg [.lit (.int .i64 2), .lit (.int .i64 1), .lit (.int .i64 1), .lit (.string [79, 82]), .lit (.int .i64 2)], .agg [.lit (.int .i64 1), .lit (.int .i64 4), .lit (.int .i64 5), .lit (.string [73, 83]), .lit (.int .i64 0)], .agg [.lit (.int .i64 1), .lit (.int .i64 9), .lit (.int .i64 0), .lit (.string [76, 69, 78, 71, 84, 72]), .lit (.int .i64 0)], .agg [.lit (.int .i64 2), .lit (.int .i64 5), .lit (.int .i64 5), .lit (.string [124, 124]), .lit (.int .i64 6)], .agg [.lit (.int .i64 2), .lit (.int .i64 9), .lit (.int .i64 0), .lit (.string [67, 79, 65, 76, 69, 83, 67, 69]), .lit (.int .i64 0)]]
/-- One of Go's own tables, pinned by name: the form's constant. -/
def laid_unicode_utf8_first : DataW Unit := Go.Pinned.utf8First

/-- 'chirographlaw.TableHolds': WHATEVER THE INPUT: true; the input reads as it did. -/
def tableHoldsSpec : ChangeSpec := { name := "tableHolds", fn := fun _ => fun
  | [d1, d2, d3] => { results := [.lit (.bool true)], args := [d1, d2, d3] }
  | _ => none }
def tableHoldsRow : OpenClaim := { program := "ytfedlchncngafaagreatdoor", sum := "534c6442618afaf56f6d0c1a4e70658f0f8ab08644022404ff8bfde568665299", func := "chirograph/chirographlaw.TableHolds", spec := "tableHolds", inPlace := ["math.Float64frombits", "math/bits.Add64", "math/bits.Sub64"], unfollowed := true, recurses := true, named := ["unicode/utf8.first", "unicode/utf8.acceptRanges", "chirograph/lex.signs", "chirograph/expr.forms"], loops := true, apart := false, laid := [("unicode/utf8.acceptRanges", laid_unicode_utf8_acceptRanges), ("chirograph/lex.signs", laid_chirograph_lex_signs), ("chirograph/expr.forms", laid_chirograph_expr_forms), ("unicode/utf8.first", laid_unicode_utf8_first)] }
def TableHoldsSaid : Prop := tableHoldsRow.holds Tryz.pinned (OpenSpec.ofChange tableHoldsSpec)

/-- ITS FALSE NEIGHBOUR: 'it returns false'. Refute it at one input. -/
def tableHoldsWrong : ChangeSpec := { name := "tableHolds", fn := fun _ => fun
  | [d1, d2, d3] => { results := [.lit (.bool false)], args := [d1, d2, d3] }
  | _ => none }
def TableHoldsWrongFalsely : Prop := tableHoldsRow.holds Tryz.pinned (OpenSpec.ofChange tableHoldsWrong)

/-- 'chirographlaw.TableUpdates': WHATEVER THE INPUT: true; the input reads as it did. -/
def tableUpdatesSpec : ChangeSpec := { name := "tableUpdates", fn := fun _ => fun
  | [d1, d2, d3, d4] => { results := [.lit (.bool true)], args := [d1, d2, d3, d4] }
  | _ => none }
def tableUpdatesRow : OpenClaim := { program := "ytfedlchncngafaagreatdoor", sum := "534c6442618afaf56f6d0c1a4e70658f0f8ab08644022404ff8bfde568665299", func := "chirograph/chirographlaw.TableUpdates", spec := "tableUpdates", inPlace := ["math.Float64frombits", "math/bits.Add64", "math/bits.Sub64"], unfollowed := true, recurses := true, named := ["unicode/utf8.first", "unicode/utf8.acceptRanges", "chirograph/lex.signs", "chirograph/expr.forms"], loops := true, apart := false, laid := [("unicode/utf8.acceptRanges", laid_unicode_utf8_acceptRanges), ("chirograph/lex.signs", laid_chirograph_lex_signs), ("chirograph/expr.forms", laid_chirograph_expr_forms), ("unicode/utf8.first", laid_unicode_utf8_first)] }
def TableUpdatesSaid : Prop := tableUpdatesRow.holds Tryz.pinned (OpenSpec.ofChange tableUpdatesSpec)

/-- ITS FALSE NEIGHBOUR: 'it returns false'. Refute it at one input. -/
def tableUpdatesWrong : ChangeSpec := { name := "tableUpdates", fn := fun _ => fun
  | [d1, d2, d3, d4] => { results := [.lit (.bool false)], args := [d1, d2, d3, d4] }
  | _ => none }
def TableUpdatesWrongFalsely : Prop := tableUpdatesRow.holds Tryz.pinned (OpenSpec.ofChange tableUpdatesWrong)

/-- 'chirographlaw.TableDeletes': WHATEVER THE INPUT: true; the input reads as it did. -/
def tableDeletesSpec : ChangeSpec := { name := "tableDeletes", fn := fun _ => fun
  | [d1, d2, d3] => { results := [.lit (.bool true)], args := [d1, d2, d3] }
  | _ => none }
def tableDeletesRow : OpenClaim := { program := "ytfedlchncngafaagreatdoor", sum := "534c6442618afaf56f6d0c1a4e70658f0f8ab08644022404ff8bfde568665299", func := "chirograph/chirographlaw.TableDeletes", spec := "tableDeletes", inPlace := ["math.Float64frombits", "math/bits.Add64", "math/bits.Sub64"], unfollowed := true, recurses := true, named := ["unicode/utf8.first", "unicode/utf8.acceptRanges", "chirograph/lex.signs", "chirograph/expr.forms"], loops := true, apart := false, laid := [("unicode/utf8.acceptRanges", laid_unicode_utf8_acceptRanges), ("chirograph/lex.signs", laid_chirograph_lex_signs), ("chirograph/expr.forms", laid_chirograph_expr_forms), ("unicode/utf8.first", laid_unicode_utf8_first)] }
def TableDeletesSaid : Prop := tableDeletesRow.holds Tryz.pinned (OpenSpec.ofChange tableDeletesSpec)

/-- ITS FALSE NEIGHBOUR: 'it returns false'. Refute it at one input. -/
def tableDeletesWrong : ChangeSpec := { name := "tableDeletes", fn := fun _ => fun
  | [d1, d2, d3] => { results := [.lit (.bool false)], args := [d1, d2, d3] }
  | _ => none }
def TableDeletesWrongFalsely : Prop := tableDeletesRow.holds Tryz.pinned (OpenSpec.ofChange tableDeletesWrong)

/-- 'chirographkeep.DeleteParts': WHATEVER THE INPUT: true; the input reads as it did. -/
def deletePartsSpec : ChangeSpec := { name := "deleteParts", fn := fun _ => fun
  | [d1, d2] => { results := [.lit (.bool true)], args := [d1, d2] }
  | _ => none }
def deletePartsRow : OpenClaim := { program := "ytfedlchncngafaagreatdoor", sum := "534c6442618afaf56f6d0c1a4e70658f0f8ab08644022404ff8bfde568665299", func := "chirograph/chirographkeep.DeleteParts", spec := "deleteParts", inPlace := ["math.Float64frombits"], unfollowed := true, recurses := true, named := ["unicode/utf8.first", "unicode/utf8.acceptRanges", "chirograph/lex.signs", "chirograph/expr.forms"], apart := false, laid := [("unicode/utf8.acceptRanges", laid_unicode_utf8_acceptRanges), ("chirograph/lex.signs", laid_chirograph_lex_signs), ("chirograph/expr.forms", laid_chirograph_expr_forms), ("unicode/utf8.first", laid_unicode_utf8_first)] }
def DeletePartsSaid : Prop := deletePartsRow.holds Tryz.pinned (OpenSpec.ofChange deletePartsSpec)

/-- ITS FALSE NEIGHBOUR: 'it returns false'. Refute it at one input. -/
def deletePartsWrong : ChangeSpec := { name := "deleteParts", fn := fun _ => fun
  | [d1, d2] => { results := [.lit (.bool false)], args := [d1, d2] }
  | _ => none }
def DeletePartsWrongFalsely : Prop := deletePartsRow.holds Tryz.pinned (OpenSpec.ofChange deletePartsWrong)

/-- 'chirographkeep.UpdateParts': WHATEVER THE INPUT: true; the input reads as it did. -/
def updatePartsSpec : ChangeSpec := { name := "updateParts", fn := fun _ => fun
  | [d1, d2] => { results := [.lit (.bool true)], args := [d1, d2] }
  | _ => none }
def updatePartsRow : OpenClaim := { program := "ytfedlchncngafaagreatdoor", sum := "534c6442618afaf56f6d0c1a4e70658f0f8ab08644022404ff8bfde568665299", func := "chirograph/chirographkeep.UpdateParts", spec := "updateParts", inPlace := ["math.Float64frombits"], unfollowed := true, recurses := true, named := ["unicode/utf8.first", "unicode/utf8.acceptRanges", "chirograph/lex.signs", "chirograph/expr.forms"], apart := false, laid := [("unicode/utf8.acceptRanges", laid_unicode_utf8_acceptRanges), ("chirograph/lex.signs", laid_chirograph_lex_signs), ("chirograph/expr.forms", laid_chirograph_expr_forms), ("unicode/utf8.first", laid_unicode_utf8_first)] }
def UpdatePartsSaid : Prop := updatePartsRow.holds Tryz.pinned (OpenSpec.ofChange updatePartsSpec)

/-- ITS FALSE NEIGHBOUR: 'it returns false'. Refute it at one input. -/
def updatePartsWrong : ChangeSpec := { name := "updateParts", fn := fun _ => fun
  | [d1, d2] => { results := [.lit (.bool false)], args := [d1, d2] }
  | _ => none }
def UpdatePartsWrongFalsely : Prop := updatePartsRow.holds Tryz.pinned (OpenSpec.ofChange updatePartsWrong)

/-- 'chirographkeep.InsertDelete': WHATEVER THE INPUT: true; the input reads as it did. -/
def insertDeleteSpec : ChangeSpec := { name := "insertDelete", fn := fun _ => fun
  | [d1, d2, d3] => { results := [.lit (.bool true)], args := [d1, d2, d3] }
  | _ => none }
def insertDeleteRow : OpenClaim := { program := "ytfedlchncngafaagreatdoor", sum := "534c6442618afaf56f6d0c1a4e70658f0f8ab08644022404ff8bfde568665299", func := "chirograph/chirographkeep.InsertDelete", spec := "insertDelete", inPlace := ["math.Float64frombits"], unfollowed := true, recurses := true, named := ["unicode/utf8.first", "unicode/utf8.acceptRanges", "chirograph/lex.signs", "chirograph/expr.forms"], apart := false, laid := [("unicode/utf8.acceptRanges", laid_unicode_utf8_acceptRanges), ("chirograph/lex.signs", laid_chirograph_lex_signs), ("chirograph/expr.forms", laid_chirograph_expr_forms), ("unicode/utf8.first", laid_unicode_utf8_first)] }
def InsertDeleteSaid : Prop := insertDeleteRow.holds Tryz.pinned (OpenSpec.ofChange insertDeleteSpec)

/-- ITS FALSE NEIGHBOUR: 'it returns false'. Refute it at one input. -/
def insertDeleteWrong : ChangeSpec := { name := "insertDelete", fn := fun _ => fun
  | [d1, d2, d3] => { results := [.lit (.bool false)], args := [d1, d2, d3] }
  | _ => none }
def InsertDeleteWrongFalsely : Prop := insertDeleteRow.holds Tryz.pinned (OpenSpec.ofChange insertDeleteWrong)

/- THE SECOND FORM. 'bulk': how many values and letters a reading holds, each counted each time it is reached (what is shared counts as often as it is met; a slice's spare places count too). A statement '..UptoSaid' is the law's where the arguments, and the package variables that the reading takes, are together of bulk at most 1048576: NARROWER than '..Said'. Prove '..Said' where nothing that the law and all that it calls make is longer than what came in: it says more and counts as full. Else prove '..UptoSaid'. A law counts once. -/
mutual
def uptoBulk {H : Type} : DataW H → Nat
  | .lit (.string bytes) => bytes.length + 1
  | .lit _ => 1
  | .nil => 1
  | .ptr d => uptoBulk d + 1
  | .slice elems spare => uptoBulkAll elems + uptoBulkAll spare + 1
  | .agg parts => uptoBulkAll parts + 1
  | .iface _ d => uptoBulk d + 1
  | .map entries => uptoBulkEntries entries + 1
  | .held _ => 1
def uptoBulkAll {H : Type} : List (DataW H) → Nat
  | [] => 0
  | d :: r => uptoBulk d + uptoBulkAll r
def uptoBulkEntries {H : Type} : List (Lit × DataW H) → Nat
  | [] => 0
  | x :: r => uptoBulkEntry x + uptoBulkEntries r
def uptoBulkEntry {H : Type} : Lit × DataW H → Nat
  | (.string bytes, d) => bytes.length + uptoBulk d + 1
  | (_, d) => uptoBulk d + 1
 end
def uptoSmall : (H : Type) → List (DataW H) → Bool := fun _ ds => decide (uptoBulkAll ds ≤ 1048576)
def OpenSpec.upto (s : _root_.Go.ChangeSpec) : _root_.Go.OpenSpec := { _root_.Go.OpenSpec.ofChange s with cond := some uptoSmall }

/-- 'chirographlaw.TableHolds', WHERE WHAT IT READS IS OF BULK AT MOST 1048576: true; the input reads as it did. -/
def tableHoldsUptoRow : OpenClaim := { program := "ytfedlchncngafaagreatdoor", sum := "534c6442618afaf56f6d0c1a4e70658f0f8ab08644022404ff8bfde568665299", func := "chirograph/chirographlaw.TableHolds", spec := "tableHolds", inPlace := ["math.Float64frombits", "math/bits.Add64", "math/bits.Sub64"], unfollowed := true, recurses := true, named := ["unicode/utf8.first", "unicode/utf8.acceptRanges", "chirograph/lex.signs", "chirograph/expr.forms"], loops := true, apart := false, laid := [("unicode/utf8.acceptRanges", laid_unicode_utf8_acceptRanges), ("chirograph/lex.signs", laid_chirograph_lex_signs), ("chirograph/expr.forms", laid_chirograph_expr_forms), ("unicode/utf8.first", laid_unicode_utf8_first)], narrowed := true }
def TableHoldsUptoSaid : Prop := tableHoldsUptoRow.holds Tryz.pinned (OpenSpec.upto tableHoldsSpec)

/-- 'chirographlaw.TableUpdates', WHERE WHAT IT READS IS OF BULK AT MOST 1048576: true; the input reads as it did. -/
def tableUpdatesUptoRow : OpenClaim := { program := "ytfedlchncngafaagreatdoor", sum := "534c6442618afaf56f6d0c1a4e70658f0f8ab08644022404ff8bfde568665299", func := "chirograph/chirographlaw.TableUpdates", spec := "tableUpdates", inPlace := ["math.Float64frombits", "math/bits.Add64", "math/bits.Sub64"], unfollowed := true, recurses := true, named := ["unicode/utf8.first", "unicode/utf8.acceptRanges", "chirograph/lex.signs", "chirograph/expr.forms"], loops := true, apart := false, laid := [("unicode/utf8.acceptRanges", laid_unicode_utf8_acceptRanges), ("chirograph/lex.signs", laid_chirograph_lex_signs), ("chirograph/expr.forms", laid_chirograph_expr_forms), ("unicode/utf8.first", laid_unicode_utf8_first)], narrowed := true }
def TableUpdatesUptoSaid : Prop := tableUpdatesUptoRow.holds Tryz.pinned (OpenSpec.upto tableUpdatesSpec)

/-- 'chirographlaw.TableDeletes', WHERE WHAT IT READS IS OF BULK AT MOST 1048576: true; the input reads as it did. -/
def tableDeletesUptoRow : OpenClaim := { program := "ytfedlchncngafaagreatdoor", sum := "534c6442618afaf56f6d0c1a4e70658f0f8ab08644022404ff8bfde568665299", func := "chirograph/chirographlaw.TableDeletes", spec := "tableDeletes", inPlace := ["math.Float64frombits", "math/bits.Add64", "math/bits.Sub64"], unfollowed := true, recurses := true, named := ["unicode/utf8.first", "unicode/utf8.acceptRanges", "chirograph/lex.signs", "chirograph/expr.forms"], loops := true, apart := false, laid := [("unicode/utf8.acceptRanges", laid_unicode_utf8_acceptRanges), ("chirograph/lex.signs", laid_chirograph_lex_signs), ("chirograph/expr.forms", laid_chirograph_expr_forms), ("unicode/utf8.first", laid_unicode_utf8_first)], narrowed := true }
def TableDeletesUptoSaid : Prop := tableDeletesUptoRow.holds Tryz.pinned (OpenSpec.upto tableDeletesSpec)

/-- 'chirographkeep.DeleteParts', WHERE WHAT IT READS IS OF BULK AT MOST 1048576: true; the input reads as it did. -/
def deletePartsUptoRow : OpenClaim := { program := "ytfedlchncngafaagreatdoor", sum := "534c6442618afaf56f6d0c1a4e70658f0f8ab08644022404ff8bfde568665299", func := "chirograph/chirographkeep.DeleteParts", spec := "deleteParts", inPlace := ["math.Float64frombits"], unfollowed := true, recurses := true, named := ["unicode/utf8.first", "unicode/utf8.acceptRanges", "chirograph/lex.signs", "chirograph/expr.forms"], apart := false, laid := [("unicode/utf8.acceptRanges", laid_unicode_utf8_acceptRanges), ("chirograph/lex.signs", laid_chirograph_lex_signs), ("chirograph/expr.forms", laid_chirograph_expr_forms), ("unicode/utf8.first", laid_unicode_utf8_first)], narrowed := true }
def DeletePartsUptoSaid : Prop := deletePartsUptoRow.holds Tryz.pinned (OpenSpec.upto deletePartsSpec)

/-- 'chirographkeep.UpdateParts', WHERE WHAT IT READS IS OF BULK AT MOST 1048576: true; the input reads as it did. -/
def updatePartsUptoRow : OpenClaim := { program := "ytfedlchncngafaagreatdoor", sum := "534c6442618afaf56f6d0c1a4e70658f0f8ab08644022404ff8bfde568665299", func := "chirograph/chirographkeep.UpdateParts", spec := "updateParts", inPlace := ["math.Float64frombits"], unfollowed := true, recurses := true, named := ["unicode/utf8.first", "unicode/utf8.acceptRanges", "chirograph/lex.signs", "chirograph/expr.forms"], apart := false, laid := [("unicode/utf8.acceptRanges", laid_unicode_utf8_acceptRanges), ("chirograph/lex.signs", laid_chirograph_lex_signs), ("chirograph/expr.forms", laid_chirograph_expr_forms), ("unicode/utf8.first", laid_unicode_utf8_first)], narrowed := true }
def UpdatePartsUptoSaid : Prop := updatePartsUptoRow.holds Tryz.pinned (OpenSpec.upto updatePartsSpec)

/-- 'chirographkeep.InsertDelete', WHERE WHAT IT READS IS OF BULK AT MOST 1048576: true; the input reads as it did. -/
def insertDeleteUptoRow : OpenClaim := { program := "ytfedlchncngafaagreatdoor", sum := "534c6442618afaf56f6d0c1a4e70658f0f8ab08644022404ff8bfde568665299", func := "chirograph/chirographkeep.InsertDelete", spec := "insertDelete", inPlace := ["math.Float64frombits"], unfollowed := true, recurses := true, named := ["unicode/utf8.first", "unicode/utf8.acceptRanges", "chirograph/lex.signs", "chirograph/expr.forms"], apart := false, laid := [("unicode/utf8.acceptRanges", laid_unicode_utf8_acceptRanges), ("chirograph/lex.signs", laid_chirograph_lex_signs), ("chirograph/expr.forms", laid_chirograph_expr_forms), ("unicode/utf8.first", laid_unicode_utf8_first)], narrowed := true }
def InsertDeleteUptoSaid : Prop := insertDeleteUptoRow.holds Tryz.pinned (OpenSpec.upto insertDeleteSpec)

end Rows
end Go.Proofs.YtfedlchncngafaaGreatDoor
