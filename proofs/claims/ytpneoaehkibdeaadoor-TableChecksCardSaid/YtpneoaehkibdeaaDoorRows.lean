/-
  NARROWER THAN 'FOR EVERY INPUT', by the rows' own cells (each row's printed sentence says how): TableChecks: laid · TableInserts: laid · TableConditions: loops, laid · TableRows: laid · InsertThere: laid · RowsRise: laid.
  DERIVED. THE GIVEN ROWS OF THIS SEAT. 6 by the template 'for every input the law returns true; each argument reads behind the call as it read before'; 0 by the template 'total and deterministic' (their statements: YtpneoaehkibdeaaDoorTotals.lean).
  GIVEN WITH THE SEED: the statements are not yours to turn. If you find one false, say at which input.
  Laid BY PROGRAM, IN A SANDBOX (cutbox-rows.mjs): the forced cells as the released guide's own fill.sh prints them over the translation 2ddf2f8b8cf1a787… (all of the seat's roots in one cut). By AI agents, Wed Nov 11 2026. No macro, syntax, notation, axiom, sorry.
-/
import Derived.Test.YtpneoaehkibdeaaDoorChecked
import GoSem.PinnedTables
import GoSem.Claim
import GoSem.ClaimJoined
import GoSem.ClaimMapViews
import Derived.JoinedTies
import Derived.KernelRfl
namespace Go.Proofs.YtpneoaehkibdeaaDoor
/- THE CELL 'sum', in the pinned program and in every row, IS THE sha256 OF THE DUMP (.gsa) THAT YtpneoaehkibdeaaDoorProg.lean LOADS. Nothing in Lean hashes anything: it is a label: what it is worth is what the hold of that sum in a sandbox is worth. -/
noncomputable def Tryd.pinned : Pinned := { name := "ytpneoaehkibdeaadoor", sum := "2ddf2f8b8cf1a78716abfa9249f29c1fa3be361f9241248c24f1063785475773", checked := Tryd.checked }
namespace Rows
def none {H : Type} : Left H := { results := [], args := [] }

/- WHAT THE LISTED PACKAGE-LEVEL VARIABLES READ AS WHEN THE CALL BEGINS. Each datum BY PROGRAM (the guide's laid-datum.mjs) off the statement by which the dump's own 'gosem.cut.vars' lays the variable. In a bare row this is a premise. The card (YtpneoaehkibdeaaDoorCards.lean) ties it to the program's text. -/
def laid_unicode_utf8_acceptRanges {H : Type} : DataW H := .agg [.agg [.lit (.int .u8 128), .lit (.int .u8 191)], .agg [.lit (.int .u8 160), .lit (.int .u8 191)], .agg [.lit (.int .u8 128), .lit (.int .u8 159)], .agg [.lit (.int .u8 144), .lit (.int .u8 191)], .agg [.lit (.int .u8 128), .lit (.int .u8 143)], .agg [.lit (.int .u8 0), .lit (.int .u8 0)], .agg [.lit (.int .u8 0), .lit (.int .u8 0)], .agg [.lit (.int .u8 0), .lit (.int .u8 0)], .agg [.lit (.int .u8 0), .lit (.int .u8 0)], .agg [.lit (.int .u8 0), .lit (.int .u8 0)], .agg [.lit (.int .u8 0), .lit (.int .u8 0)], .agg [.lit (.int .u8 0), .lit (.int .u8 0)], .agg [.lit (.int .u8 0), .lit (.int .u8 0)], .agg [.lit (.int .u8 0), .lit (.int .u8 0)], .agg [.lit (.int .u8 0), .lit (.int .u8 0)], .agg [.lit (.int .u8 0), .lit (.int .u8 0)]]
def laid_chirograph_lex_signs {H : Type} : DataW H := .agg [.lit (.string [60, 61]), .lit (.string [60, 62]), .lit (.string [62, 61]), .lit (.string [124, 124]), .lit (.string [40]), .lit (.string [41]), .lit (.string [44]), .lit (.string [46]), .lit (.string [61]), .lit (.string [60]), .lit (.string [62]), .lit (.string [43]), .lit (.string [45]), .lit (.string [42]), .lit (.string [47]), .lit (.string [59])]
/-- One of Go's own tables, pinned by name: the form's constant. -/
def laid_unicode_utf8_first : DataW Unit := Go.Pinned.utf8First
def laid_chirograph_expr_forms {H : Type} : DataW H := .agg [.agg [.lit (.int .i64 0), .lit (.int .i64 0), .lit (.int .i64 0), .lit (.string []), .lit (.int .i64 0)], .agg [.lit (.int .i64 0), .lit (.int .i64 9), .lit (.int .i64 0), .lit (.string []), .lit (.int .i64 0)], .agg [.lit (.int .i64 0), .lit (.int .i64 9), .lit (.int .i64 0), .lit (.string []), .lit (.int .i64 0)], .agg [.lit (.int .i64 1), .lit (.int .i64 8), .lit (.int .i64 0), .lit (.string [45]), .lit (.int .i64 8)], .agg [.lit (.int .i64 1), .lit (.int .i64 3), .lit (.int .i64 0), .lit (.string [78, 79, 84]), .lit (.int .i64 3)], .agg [.lit (.int .i64 2), .lit (.int .i64 6), .lit (.int .i64 6), .lit (.string [43]), .lit (.int .i64 7)], .agg [.lit (.int .i64 2), .lit (.int .i64 6), .lit (.int .i64 6), .lit (.string [45]), .lit (.int .i64 7)], .agg [.lit (.int .i64 2), .lit (.int .i64 7), .lit (.int .i64 7), .lit (.string [42]), .lit (.int .i64 8)], .agg [.lit (.int .i64 2), .lit (.int .i64 7), .lit (.int .i64 7), .lit (.string [47]), .lit (.int .i64 8)], .agg [.lit (.int .i64 2), .lit (.int .i64 4), .lit (.int .i64 5), .lit (.string [61]), .lit (.int .i64 5)], .agg [.lit (.int .i64 2), .lit (.int .i64 4), .lit (.int .i64 5), .lit (.string [60, 62]), .lit (.int .i64 5)], .agg [.lit (.int .i64 2), .lit (.int .i64 4), .lit (.int .i64 5), .lit (.string [60]), .lit (.int .i64 5)], .agg [.lit (.int .i64 2), .lit (.int .i64 4), .lit (.int .i64 5), .lit (.string [60, 61]), .lit (.int .i64 5)], .agg [.lit (.int .i64 2), .lit (.int .i64 4), .lit (.int .i64 5), .lit (.string [62]), .lit (.int .i64 5)], .agg [.lit (.int .i64 2), .lit (.int .i64 4), .lit (.int .i64 5), .lit (.string [62, 61]), .lit (.int .i64 5)], .agg [.lit (.int .i64 2), .lit (.int .i64 2), .lit (.int .i64 2), .lit (.string [65, 78, 68]), .lit (.int .i64 3)], .agg [.lit (.int .i64 2), .lit (.int .i64 1), .lit (.int .i64 1), .lit (.string [79, 82]), .lit (.int .i64 2)], .agg [.lit (.int .i64 1), .lit (.int .i64 4), .lit (.int .i64 5), .lit (.string [73, 83]), .lit (.int .i64 0)], .agg [.lit (.int .i64 1), .lit (.int .i64 9), .lit (.int .i64 0), .lit (.string [76, 69, 78, 71, 84, 72]), .lit (.int .i64 0)], .agg [.lit (.int .i64 2), .lit (.int .i64 5), .lit (.int .i64 5), .lit (.string [124, 124]), .lit (.int .i64 6)], .agg [.lit (.int .i64 2), .lit (.int .i64 9), .lit (.int .i64 0), .lit (.string [67, 79, 65, 76, 69, 83, 67, 69]), .lit (.int .i64 0)]]

/-- 'chirographlaw.TableChecks': WHATEVER THE INPUT: true; the input reads as it did. -/
def tableChecksSpec : ChangeSpec := { name := "tableChecks", fn := fun _ => fun
  | [d] => { results := [.lit (.bool true)], args := [d] }
  | _ => none }
def tableChecksRow : OpenClaim := { program := "ytpneoaehkibdeaadoor", sum := "2ddf2f8b8cf1a78716abfa9249f29c1fa3be361f9241248c24f1063785475773", func := "chirograph/chirographlaw.TableChecks", spec := "tableChecks", inPlace := ["math.Float64frombits"], unfollowed := true, recurses := true, named := ["unicode/utf8.first", "unicode/utf8.acceptRanges", "chirograph/lex.signs"], apart := false, laid := [("unicode/utf8.acceptRanges", laid_unicode_utf8_acceptRanges), ("chirograph/lex.signs", laid_chirograph_lex_signs), ("unicode/utf8.first", laid_unicode_utf8_first)] }
def TableChecksSaid : Prop := tableChecksRow.holds Tryd.pinned (OpenSpec.ofChange tableChecksSpec)

/-- ITS FALSE NEIGHBOUR: 'it returns false'. Refute it at one input. -/
def tableChecksWrong : ChangeSpec := { name := "tableChecks", fn := fun _ => fun
  | [d] => { results := [.lit (.bool false)], args := [d] }
  | _ => none }
def TableChecksWrongFalsely : Prop := tableChecksRow.holds Tryd.pinned (OpenSpec.ofChange tableChecksWrong)

/-- 'chirographlaw.TableInserts': WHATEVER THE INPUT: true; the input reads as it did. -/
def tableInsertsSpec : ChangeSpec := { name := "tableInserts", fn := fun _ => fun
  | [d1, d2, d3] => { results := [.lit (.bool true)], args := [d1, d2, d3] }
  | _ => none }
def tableInsertsRow : OpenClaim := { program := "ytpneoaehkibdeaadoor", sum := "2ddf2f8b8cf1a78716abfa9249f29c1fa3be361f9241248c24f1063785475773", func := "chirograph/chirographlaw.TableInserts", spec := "tableInserts", inPlace := ["math.Float64frombits"], unfollowed := true, recurses := true, named := ["unicode/utf8.first", "unicode/utf8.acceptRanges", "chirograph/lex.signs"], apart := false, laid := [("unicode/utf8.acceptRanges", laid_unicode_utf8_acceptRanges), ("chirograph/lex.signs", laid_chirograph_lex_signs), ("unicode/utf8.first", laid_unicode_utf8_first)] }
def TableInsertsSaid : Prop := tableInsertsRow.holds Tryd.pinned (OpenSpec.ofChange tableInsertsSpec)

/-- ITS FALSE NEIGHBOUR: 'it returns false'. Refute it at one input. -/
def tableInsertsWrong : ChangeSpec := { name := "tableInserts", fn := fun _ => fun
  | [d1, d2, d3] => { results := [.lit (.bool false)], args := [d1, d2, d3] }
  | _ => none }
def TableInsertsWrongFalsely : Prop := tableInsertsRow.holds Tryd.pinned (OpenSpec.ofChange tableInsertsWrong)

/-- 'chirographlaw.TableConditions': WHATEVER THE INPUT: true; the input reads as it did. -/
def tableConditionsSpec : ChangeSpec := { name := "tableConditions", fn := fun _ => fun
  | [d1, d2] => { results := [.lit (.bool true)], args := [d1, d2] }
  | _ => none }
def tableConditionsRow : OpenClaim := { program := "ytpneoaehkibdeaadoor", sum := "2ddf2f8b8cf1a78716abfa9249f29c1fa3be361f9241248c24f1063785475773", func := "chirograph/chirographlaw.TableConditions", spec := "tableConditions", inPlace := ["math.Float64frombits"], unfollowed := true, recurses := true, named := ["unicode/utf8.first", "unicode/utf8.acceptRanges", "chirograph/lex.signs", "chirograph/expr.forms"], loops := true, apart := false, laid := [("unicode/utf8.acceptRanges", laid_unicode_utf8_acceptRanges), ("chirograph/lex.signs", laid_chirograph_lex_signs), ("chirograph/expr.forms", laid_chirograph_expr_forms), ("unicode/utf8.first", laid_unicode_utf8_first)] }
def TableConditionsSaid : Prop := tableConditionsRow.holds Tryd.pinned (OpenSpec.ofChange tableConditionsSpec)

/-- ITS FALSE NEIGHBOUR: 'it returns false'. Refute it at one input. -/
def tableConditionsWrong : ChangeSpec := { name := "tableConditions", fn := fun _ => fun
  | [d1, d2] => { results := [.lit (.bool false)], args := [d1, d2] }
  | _ => none }
def TableConditionsWrongFalsely : Prop := tableConditionsRow.holds Tryd.pinned (OpenSpec.ofChange tableConditionsWrong)

/-- 'chirographlaw.TableRows': WHATEVER THE INPUT: true; the input reads as it did. -/
def tableRowsSpec : ChangeSpec := { name := "tableRows", fn := fun _ => fun
  | [d1, d2] => { results := [.lit (.bool true)], args := [d1, d2] }
  | _ => none }
def tableRowsRow : OpenClaim := { program := "ytpneoaehkibdeaadoor", sum := "2ddf2f8b8cf1a78716abfa9249f29c1fa3be361f9241248c24f1063785475773", func := "chirograph/chirographlaw.TableRows", spec := "tableRows", inPlace := ["math.Float64frombits"], unfollowed := true, recurses := true, named := ["unicode/utf8.first", "unicode/utf8.acceptRanges", "chirograph/lex.signs"], apart := false, laid := [("unicode/utf8.acceptRanges", laid_unicode_utf8_acceptRanges), ("chirograph/lex.signs", laid_chirograph_lex_signs), ("unicode/utf8.first", laid_unicode_utf8_first)] }
def TableRowsSaid : Prop := tableRowsRow.holds Tryd.pinned (OpenSpec.ofChange tableRowsSpec)

/-- ITS FALSE NEIGHBOUR: 'it returns false'. Refute it at one input. -/
def tableRowsWrong : ChangeSpec := { name := "tableRows", fn := fun _ => fun
  | [d1, d2] => { results := [.lit (.bool false)], args := [d1, d2] }
  | _ => none }
def TableRowsWrongFalsely : Prop := tableRowsRow.holds Tryd.pinned (OpenSpec.ofChange tableRowsWrong)

/-- 'chirographkeep.InsertThere': WHATEVER THE INPUT: true; the input reads as it did. -/
def insertThereSpec : ChangeSpec := { name := "insertThere", fn := fun _ => fun
  | [d1, d2, d3] => { results := [.lit (.bool true)], args := [d1, d2, d3] }
  | _ => none }
def insertThereRow : OpenClaim := { program := "ytpneoaehkibdeaadoor", sum := "2ddf2f8b8cf1a78716abfa9249f29c1fa3be361f9241248c24f1063785475773", func := "chirograph/chirographkeep.InsertThere", spec := "insertThere", inPlace := ["math.Float64frombits"], unfollowed := true, recurses := true, named := ["unicode/utf8.first", "unicode/utf8.acceptRanges", "chirograph/lex.signs"], apart := false, laid := [("unicode/utf8.acceptRanges", laid_unicode_utf8_acceptRanges), ("chirograph/lex.signs", laid_chirograph_lex_signs), ("unicode/utf8.first", laid_unicode_utf8_first)] }
def InsertThereSaid : Prop := insertThereRow.holds Tryd.pinned (OpenSpec.ofChange insertThereSpec)

/-- ITS FALSE NEIGHBOUR: 'it returns false'. Refute it at one input. -/
def insertThereWrong : ChangeSpec := { name := "insertThere", fn := fun _ => fun
  | [d1, d2, d3] => { results := [.lit (.bool false)], args := [d1, d2, d3] }
  | _ => none }
def InsertThereWrongFalsely : Prop := insertThereRow.holds Tryd.pinned (OpenSpec.ofChange insertThereWrong)

/-- 'chirographkeep.RowsRise': WHATEVER THE INPUT: true; the input reads as it did. -/
def rowsRiseSpec : ChangeSpec := { name := "rowsRise", fn := fun _ => fun
  | [d] => { results := [.lit (.bool true)], args := [d] }
  | _ => none }
def rowsRiseRow : OpenClaim := { program := "ytpneoaehkibdeaadoor", sum := "2ddf2f8b8cf1a78716abfa9249f29c1fa3be361f9241248c24f1063785475773", func := "chirograph/chirographkeep.RowsRise", spec := "rowsRise", inPlace := ["math.Float64frombits"], unfollowed := true, recurses := true, named := ["unicode/utf8.first", "unicode/utf8.acceptRanges", "chirograph/lex.signs"], apart := false, laid := [("unicode/utf8.acceptRanges", laid_unicode_utf8_acceptRanges), ("chirograph/lex.signs", laid_chirograph_lex_signs), ("unicode/utf8.first", laid_unicode_utf8_first)] }
def RowsRiseSaid : Prop := rowsRiseRow.holds Tryd.pinned (OpenSpec.ofChange rowsRiseSpec)

/-- ITS FALSE NEIGHBOUR: 'it returns false'. Refute it at one input. -/
def rowsRiseWrong : ChangeSpec := { name := "rowsRise", fn := fun _ => fun
  | [d] => { results := [.lit (.bool false)], args := [d] }
  | _ => none }
def RowsRiseWrongFalsely : Prop := rowsRiseRow.holds Tryd.pinned (OpenSpec.ofChange rowsRiseWrong)

/- THE SECOND FORM. 'bulk': how many values and letters a reading holds, each counted each time it is reached (what is shared counts as often as it is met; a slice's spare places count too). A statement '..UptoSaid' is the law's where the arguments, and the package variables that the reading takes, are together of bulk at most 1048576: NARROWER than '..Said'. Prove '..Said' where nothing that the law and all that it calls make is longer than what came in: it says more and counts as full. Else prove '..UptoSaid'. A law counts once. -/
mutual
def uptoBulk {H : Type} : DataW H → Nat
  | .lit (.string bytes) => bytes.length + 1
  | .lit _ => 1
  | .nil => 1
  | .ptr d => uptoBulk d + 1
  | .slice elems spare => uptoBulkAll elems + uptoBulkAll spare + 1
  | .agg parts => uptoBulkAll parts + 1
  | .iface _ d => uptoBulk d + 1
  | .map entries => uptoBulkEntries entries + 1
  | .held _ => 1
def uptoBulkAll {H : Type} : List (DataW H) → Nat
  | [] => 0
  | d :: r => uptoBulk d + uptoBulkAll r
def uptoBulkEntries {H : Type} : List (Lit × DataW H) → Nat
  | [] => 0
  | x :: r => uptoBulkEntry x + uptoBulkEntries r
def uptoBulkEntry {H : Type} : Lit × DataW H → Nat
  | (.string bytes, d) => bytes.length + uptoBulk d + 1
  | (_, d) => uptoBulk d + 1
 end
def uptoSmall : (H : Type) → List (DataW H) → Bool := fun _ ds => decide (uptoBulkAll ds ≤ 1048576)
def OpenSpec.upto (s : _root_.Go.ChangeSpec) : _root_.Go.OpenSpec := { _root_.Go.OpenSpec.ofChange s with cond := some uptoSmall }

/-- 'chirographlaw.TableChecks', WHERE WHAT IT READS IS OF BULK AT MOST 1048576: true; the input reads as it did. -/
def tableChecksUptoRow : OpenClaim := { program := "ytpneoaehkibdeaadoor", sum := "2ddf2f8b8cf1a78716abfa9249f29c1fa3be361f9241248c24f1063785475773", func := "chirograph/chirographlaw.TableChecks", spec := "tableChecks", inPlace := ["math.Float64frombits"], unfollowed := true, recurses := true, named := ["unicode/utf8.first", "unicode/utf8.acceptRanges", "chirograph/lex.signs"], apart := false, laid := [("unicode/utf8.acceptRanges", laid_unicode_utf8_acceptRanges), ("chirograph/lex.signs", laid_chirograph_lex_signs), ("unicode/utf8.first", laid_unicode_utf8_first)], narrowed := true }
def TableChecksUptoSaid : Prop := tableChecksUptoRow.holds Tryd.pinned (OpenSpec.upto tableChecksSpec)

/-- 'chirographlaw.TableInserts', WHERE WHAT IT READS IS OF BULK AT MOST 1048576: true; the input reads as it did. -/
def tableInsertsUptoRow : OpenClaim := { program := "ytpneoaehkibdeaadoor", sum := "2ddf2f8b8cf1a78716abfa9249f29c1fa3be361f9241248c24f1063785475773", func := "chirograph/chirographlaw.TableInserts", spec := "tableInserts", inPlace := ["math.Float64frombits"], unfollowed := true, recurses := true, named := ["unicode/utf8.first", "unicode/utf8.acceptRanges", "chirograph/lex.signs"], apart := false, laid := [("unicode/utf8.acceptRanges", laid_unicode_utf8_acceptRanges), ("chirograph/lex.signs", laid_chirograph_lex_signs), ("unicode/utf8.first", laid_unicode_utf8_first)], narrowed := true }
def TableInsertsUptoSaid : Prop := tableInsertsUptoRow.holds Tryd.pinned (OpenSpec.upto tableInsertsSpec)

/-- 'chirographlaw.TableConditions', WHERE WHAT IT READS IS OF BULK AT MOST 1048576: true; the input reads as it did. -/
def tableConditionsUptoRow : OpenClaim := { program := "ytpneoaehkibdeaadoor", sum := "2ddf2f8b8cf1a78716abfa9249f29c1fa3be361f9241248c24f1063785475773", func := "chirograph/chirographlaw.TableConditions", spec := "tableConditions", inPlace := ["math.Float64frombits"], unfollowed := true, recurses := true, named := ["unicode/utf8.first", "unicode/utf8.acceptRanges", "chirograph/lex.signs", "chirograph/expr.forms"], loops := true, apart := false, laid := [("unicode/utf8.acceptRanges", laid_unicode_utf8_acceptRanges), ("chirograph/lex.signs", laid_chirograph_lex_signs), ("chirograph/expr.forms", laid_chirograph_expr_forms), ("unicode/utf8.first", laid_unicode_utf8_first)], narrowed := true }
def TableConditionsUptoSaid : Prop := tableConditionsUptoRow.holds Tryd.pinned (OpenSpec.upto tableConditionsSpec)

/-- 'chirographlaw.TableRows', WHERE WHAT IT READS IS OF BULK AT MOST 1048576: true; the input reads as it did. -/
def tableRowsUptoRow : OpenClaim := { program := "ytpneoaehkibdeaadoor", sum := "2ddf2f8b8cf1a78716abfa9249f29c1fa3be361f9241248c24f1063785475773", func := "chirograph/chirographlaw.TableRows", spec := "tableRows", inPlace := ["math.Float64frombits"], unfollowed := true, recurses := true, named := ["unicode/utf8.first", "unicode/utf8.acceptRanges", "chirograph/lex.signs"], apart := false, laid := [("unicode/utf8.acceptRanges", laid_unicode_utf8_acceptRanges), ("chirograph/lex.signs", laid_chirograph_lex_signs), ("unicode/utf8.first", laid_unicode_utf8_first)], narrowed := true }
def TableRowsUptoSaid : Prop := tableRowsUptoRow.holds Tryd.pinned (OpenSpec.upto tableRowsSpec)

/-- 'chirographkeep.InsertThere', WHERE WHAT IT READS IS OF BULK AT MOST 1048576: true; the input reads as it did. -/
def insertThereUptoRow : OpenClaim := { program := "ytpneoaehkibdeaadoor", sum := "2ddf2f8b8cf1a78716abfa9249f29c1fa3be361f9241248c24f1063785475773", func := "chirograph/chirographkeep.InsertThere", spec := "insertThere", inPlace := ["math.Float64frombits"], unfollowed := true, recurses := true, named := ["unicode/utf8.first", "unicode/utf8.acceptRanges", "chirograph/lex.signs"], apart := false, laid := [("unicode/utf8.acceptRanges", laid_unicode_utf8_acceptRanges), ("chirograph/lex.signs", laid_chirograph_lex_signs), ("unicode/utf8.first", laid_unicode_utf8_first)], narrowed := true }
def InsertThereUptoSaid : Prop := insertThereUptoRow.holds Tryd.pinned (OpenSpec.upto insertThereSpec)

/-- 'chirographkeep.RowsRise', WHERE WHAT IT READS IS OF BULK AT MOST 1048576: true; the input reads as it did. -/
def rowsRiseUptoRow : OpenClaim := { program := "ytpneoaehkibdeaadoor", sum := "2ddf2f8b8cf1a78716abfa9249f29c1fa3be361f9241248c24f1063785475773", func := "chirograph/chirographkeep.RowsRise", spec := "rowsRise", inPlace := ["math.Float64frombits"], unfollowed := true, recurses := true, named := ["unicode/utf8.first", "unicode/utf8.acceptRanges", "chirograph/lex.signs"], apart := false, laid := [("unicode/utf8.acceptRanges", laid_unicode_utf8_acceptRanges), ("chirograph/lex.signs", laid_chirograph_lex_signs), ("unicode/utf8.first", laid_unicode_utf8_first)], narrowed := true }
def RowsRiseUptoSaid : Prop := rowsRiseUptoRow.holds Tryd.pinned (OpenSpec.upto rowsRiseSpec)

end Rows
end Go.Proofs.YtpneoaehkibdeaaDoor
