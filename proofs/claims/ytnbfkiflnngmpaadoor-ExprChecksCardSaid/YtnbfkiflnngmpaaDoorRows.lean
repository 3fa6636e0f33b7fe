/-
  NARROWER THAN 'FOR EVERY INPUT', by the rows' own cells (each row's printed sentence says how): ExprChecks: loops, laid · ExprShows: loops, laid · ExprReads: laid · ExprParses: laid · ExprBack: laid · ExprFixed: laid · ExprFewest: laid · ExprMore: laid · ExprAhead: laid.
  DERIVED. THE GIVEN ROWS OF THIS SEAT. 9 by the template 'for every input the law returns true; each argument reads behind the call as it read before'; 0 by the template 'total and deterministic' (their statements: YtnbfkiflnngmpaaDoorTotals.lean).
  GIVEN WITH THE SEED: the statements are not yours to turn. If you find one false, say at which input.
  Laid BY PROGRAM, IN A SANDBOX (cutbox-rows.mjs): the forced cells as the released guide's own fill.sh prints them over the translation dc731b71718b5c2f… (all of the seat's roots in one cut). By AI agents, Wed Nov 11 2026. No macro, syntax, notation, axiom, sorry.
-/
import Derived.Test.YtnbfkiflnngmpaaDoorChecked
import GoSem.PinnedTables
import GoSem.Claim
import GoSem.ClaimJoined
import GoSem.ClaimMapViews
import Derived.JoinedTies
import Derived.KernelRfl
namespace Go.Proofs.YtnbfkiflnngmpaaDoor
/- THE CELL 'sum', in the pinned program and in every row, IS THE sha256 OF THE DUMP (.gsa) THAT YtnbfkiflnngmpaaDoorProg.lean LOADS. Nothing in Lean hashes anything: it is a label: what it is worth is what the hold of that sum in a sandbox is worth. -/
noncomputable def Tryd.pinned : Pinned := { name := "ytnbfkiflnngmpaadoor", sum := "dc731b71718b5c2f4a0be19dad454c8eba38b0281617799a3ebc3e70f7a13ffa", checked := Tryd.checked }
namespace Rows
def none {H : Type} : Left H := { results := [], args := [] }

/- WHAT THE LISTED PACKAGE-LEVEL VARIABLES READ AS WHEN THE CALL BEGINS. Each datum BY PROGRAM (the guide's laid-datum.mjs) off the statement by which the dump's own 'gosem.cut.vars' lays the variable. In a bare row this is a premise. The card (YtnbfkiflnngmpaaDoorCards.lean) ties it to the program's text. -/
def laid_unicode_utf8_acceptRanges {H : Type} : DataW H := .agg [.agg [.lit (.int .u8 128), .lit (.int .u8 191)], .agg [.lit (.int .u8 160), .lit (.int .u8 191)], .agg [.lit (.int .u8 128), .lit (.int .u8 159)], .agg [.lit (.int .u8 144), .lit (.int .u8 191)], .agg [.lit (.int .u8 128), .lit (.int .u8 143)], .agg [.lit (.int .u8 0), .lit (.int .u8 0)], .agg [.lit (.int .u8 0), .lit (.int .u8 0)], .agg [.lit (.int .u8 0), .lit (.int .u8 0)], .agg [.lit (.int .u8 0), .lit (.int .u8 0)], .agg [.lit (.int .u8 0), .lit (.int .u8 0)], .agg [.lit (.int .u8 0), .lit (.int .u8 0)], .agg [.lit (.int .u8 0), .lit (.int .u8 0)], .agg [.lit (.int .u8 0), .lit (.int .u8 0)], .agg [.lit (.int .u8 0), .lit (.int .u8 0)], .agg [.lit (.int .u8 0), .lit (.int .u8 0)], .agg [.lit (.int .u8 0), .lit (.int .u8 0)]]
def laid_chirograph_lex_signs {H : Type} : DataW H := .agg [.lit (.string [60, 61]), .lit (.string [60, 62]), .lit (.string [62, 61]), .lit (.string [124, 124]), .lit (.string [40]), .lit (.string [41]), .lit (.string [44]), .lit (.string [46]), .lit (.string [61]), .lit (.string [60]), .lit (.string [62]), .lit (.string [43]), .lit (.string [45]), .lit (.string [42]), .lit (.string [47]), .lit (.string [59])]
def laid_chirograph_expr_forms {H : Type} : DataW H := .agg [.agg [.lit (.int .i64 0), .lit (.int .i64 0), .lit (.int .i64 0), .lit (.string []), .lit (.int .i64 0)], .agg [.lit (.int .i64 0), .lit (.int .i64 9), .lit (.int .i64 0), .lit (.string []), .lit (.int .i64 0)], .agg [.lit (.int .i64 0), .lit (.int .i64 9), .lit (.int .i64 0), .lit (.string []), .lit (.int .i64 0)], .agg [.lit (.int .i64 1), .lit (.int .i64 8), .lit (.int .i64 0), .lit (.string [45]), .lit (.int .i64 8)], .agg [.lit (.int .i64 1), .lit (.int .i64 3), .lit (.int .i64 0), .lit (.string [78, 79, 84]), .lit (.int .i64 3)], .agg [.lit (.int .i64 2), .lit (.int .i64 6), .lit (.int .i64 6), .lit (.string [43]), .lit (.int .i64 7)], .agg [.lit (.int .i64 2), .lit (.int .i64 6), .lit (.int .i64 6), .lit (.string [45]), .lit (.int .i64 7)], .agg [.lit (.int .i64 2), .lit (.int .i64 7), .lit (.int .i64 7), .lit (.string [42]), .lit (.int .i64 8)], .agg [.lit (.int .i64 2), .lit (.int .i64 7), .lit (.int .i64 7), .lit (.string [47]), .lit (.int .i64 8)], .agg [.lit (.int .i64 2), .lit (.int .i64 4), .lit (.int .i64 5), .lit (.string [61]), .lit (.int .i64 5)], .agg [.lit (.int .i64 2), .lit (.int .i64 4), .lit (.int .i64 5), .lit (.string [60, 62]), .lit (.int .i64 5)], .agg [.lit (.int .i64 2), .lit (.int .i64 4), .lit (.int .i64 5), .lit (.string [60]), .lit (.int .i64 5)], .agg [.lit (.int .i64 2), .lit (.int .i64 4), .lit (.int .i64 5), .lit (.string [60, 61]), .lit (.int .i64 5)], .agg [.lit (.int .i64 2), .lit (.int .i64 4), .lit (.int .i64 5), .lit (.string [62]), .lit (.int .i64 5)], .agg [.lit (.int .i64 2), .lit (.int .i64 4), .lit (.int .i64 5), .lit (.string [62, 61]), .lit (.int .i64 5)], .agg [.lit (.int .i64 2), .lit (.int .i64 2), .lit (.int .i64 2), .lit (.string [65, 78, 68]), .lit (.int .i64 3)], .agg [.lit (.int .i64 2), .lit (.int .i64 1), .lit (.int .i64 1), .lit (.string [79, 82]), .lit (.int .i64 2)], .agg [.lit (.int .i64 1), .lit (.int .i64 4), .lit (.int .i64 5), .lit (.string [73, 83]), .lit (.int .i64 0)], .agg [.lit (.int .i64 1), .lit (.int .i64 9), .lit (.int .i64 0), .lit (.string [76, 69, 78, 71, 84, 72]), .lit (.int .i64 0)], .agg [.lit (.int .i64 2), .lit (.int .i64 5), .lit (.int .i64 5), .lit (.string [124, 124]), .lit (.int .i64 6)], .agg [.lit (.int .i64 2), .lit (.int .i64 9), .lit (.int .i64 0), .lit (.string [67, 79, 65, 76, 69, 83, 67, 69]), .lit (.int .i64 0)]]
/-- One of Go's own tables, pinned by name: the form's constant. -/
def laid_unicode_utf8_first : DataW Unit := Go.Pinned.utf8First
def laid_unicode_White_Space {H : Type} : DataW H := .ptr (.agg [.slice [.agg [.lit (.int .u16 9), .lit (.int .u16 13), .lit (.int .u16 1)], .agg [.lit (.int .u16 32), .lit (.int .u16 133), .lit (.int .u16 101)], .agg [.lit (.int .u16 160), .lit (.int .u16 5760), .lit (.int .u16 5600)], .agg [.lit (.int .u16 8192), .lit (.int .u16 8202), .lit (.int .u16 1)], .agg [.lit (.int .u16 8232), .lit (.int .u16 8233), .lit (.int .u16 1)], .agg [.lit (.int .u16 8239), .lit (.int .u16 8287), .lit (.int .u16 48)], .agg [.lit (.int .u16 12288), .lit (.int .u16 12288), .lit (.int .u16 1)]] [], .nil, .lit (.int .i64 2)])
def laid_strings_asciiSpace {H : Type} : DataW H := .agg [.lit (.int .u8 0), .lit (.int .u8 0), .lit (.int .u8 0), .lit (.int .u8 0), .lit (.int .u8 0), .lit (.int .u8 0), .lit (.int .u8 0), .lit (.int .u8 0), .lit (.int .u8 0), .lit (.int .u8 1), .lit (.int .u8 1), .lit (.int .u8 1), .lit (.int .u8 1), .lit (.int .u8 1), .lit (.int .u8 0), .lit (.int .u8 0), .lit (.int .u8 0), .lit (.int .u8 0), .lit (.int .u8 0), .lit (.int .u8 0), .lit (.int .u8 0), .lit (.int .u8 0), .lit (.int .u8 0), .lit (.int .u8 0), .lit (.int .u8 0), .lit (.int .u8 0), .lit (.int .u8 0), .lit (.int .u8 0), .lit (.int .u8 0), .lit (.int .u8 0), .lit (.int .u8 0), .lit (.int .u8 0), .lit (.int .u8 1), .lit (.int .u8 0), .lit (.int .u8 0), .lit (.int .u8 0), .lit (.int .u8 0), .lit (.int .u8 0), .lit (.int .u8 0), .lit (.int .u8 0), .lit (.int .u8 0), .lit (.int .u8 0), .lit (.int .u8 0), .lit (.int .u8 0), .lit (.int .u8 0), .lit (.int .u8 0), .lit (.int .u8 0), .lit (.int .u8 0), .lit (.int .u8 0), .lit (.int .u8 0), .lit (.int .u8 0), .lit (.int .u8 0), .lit (.int .u8 0), .lit (.int .u8 0), .lit (.int .u8 0), .lit (.int .u8 0), .lit (.int .u8 0), .lit (.int .u8 0), .lit (.int .u8 0), .lit (.int .u8 0), .lit (.int .u8 0), .lit (.int .u8 0), .lit (.int .u8 0), .lit (.int .u8 0), .lit (.int .u8 0), .lit (.int .u8 0), .lit (.int .u8 0), .lit (.int .u8 0), .lit (.int .u8 0), .lit (.int .u8 0), .lit (.int .u8 0), .lit (.int .u8 0), .lit (.int .u8 0), .lit (.int .u8 0), .lit (.int .u8 0), .lit (.int .u8 0), .lit (.int .u8 0), .lit (.int .u8 0), .lit (.int .u8 0), .lit (.int .u8 0), .lit (.int .u8 0), .lit (.int .u8 0), .lit (.int .u8 0), .lit (.int .u8 0), .lit (.int .u8 0), .lit (.int .u8 0), .lit (.int .u8 0), .lit (.int .u8 0), .lit (.int .u8 0), .lit (.int .u8 0), .lit (.int .u8 0), .lit (.int .u8 0), .lit (.int .u8 0), .lit (.int .u8 0), .lit (.int .u8 0), .lit (.int .u8 0), .lit (.int .u8 0), .lit (.int .u8 0), .lit (.int .u8 0), .lit (.int .u8 0), .lit (.int .u8 0), .lit (.int .u8 0), .lit (.int .u8 0), .lit (.int .u8 0), .lit (.int .u8 0), .lit (.int .u8 0), .lit (.int .u8 0), .lit (.int .u8 0), .lit (.int .u8 0), .lit (.int .u8 0), .lit (.int .u8 0), .lit (.int .u8 0), .lit (.int .u8 0), .lit (.int .u8 0), .lit (.int .u8 0), .lit (.int .u8 0), .lit (.int .u8 0), .lit (.int .u8 0), .lit (.int .u8 0), .lit (.int .u8 0), .lit (.int .u8 0), .lit (.int .u8 0), .lit (.int .u8 0), .lit (.int .u8 0), .lit (.int .u8 0), .lit (.int .u8 0), .lit (.int .u8 0), .lit (.int .u8 0), .lit (.int .u8 0), .lit (.int .u8 0), .lit (.int .u8 0), .lit (.int .u8 0), .lit (.int .u8 0), .lit (.int .u8 0), .lit (.int .u8 0), .lit (.int .u8 0), .lit (.int .u8 0), .lit (.int .u8 0), .lit (.int .u8 0), .lit (.int .u8 0), .lit (.int .u8 0), .lit (.int .u8 0), .lit (.int .u8 0), .lit (.int .u8 0), .lit (.int .u8 0), .lit (.int .u8 0), .lit (.int .u8 0), .lit (.int .u8 0), .lit (.int .u8 0), .lit (.int .u8 0), .lit (.int .u8 0), .lit (.int .u8 0), .lit (.int .u8 0), .lit (.int .u8 0), .lit (.int .u8 0), .lit (.int .u8 0), .lit (.int .u8 0), .lit (.int .u8 0), .lit (.int .u8 0), .lit (.int .u8 0), .lit (.int .u8 0), .lit (.int .u8 0), .lit (.int .u8 0), .lit (.int .u8 0), .lit (.int .u8 0), .lit (.int .u8 0), .lit (.int .u8 0), .lit (.int .u8 0), .lit (.int .u8 0), .lit (.int .u8 0), .lit (.int .u8 0), .lit (.int .u8 0), .lit (.int .u8 0), .lit (.int .u8 0), .lit (.int .u8 0), .lit (.int .u8 0), .lit (.int .u8 0), .lit (.int .u8 0), .lit (.int .u8 0), .lit (.int .u8 0), .lit (.int .u8 0), .lit (.int .u8 0), .lit (.int .u8 0), .lit (.int .u8 0), .lit (.int .u8 0), .lit (.int .u8 0), .lit (.int .u8 0), .lit (.int .u8 0), .lit (.int .u8 0), .lit (.int .u8 0), .lit (.int .u8 0), .lit (.int .u8 0), .lit (.int .u8 0), .lit (.int .u8 0), .lit (.int .u8 0), .lit (.int .u8 0), .lit (.int .u8 0), .lit (.int .u8 0), .lit (.int .u8 0), .lit (.int .u8 0), .lit (.int .u8 0), .lit (.int .u8 0), .lit (.int .u8 0), .lit (.int .u8 0), .lit (.int .u8 0), .lit (.int .u8 0), .lit (.int .u8 0), .lit (.int .u8 0), .lit (.int .u8 0), .lit (.int .u8 0), .lit (.int .u8 0), .lit (.int .u8 0), .lit (.int .u8 0), .lit (.int .u8 0), .lit (.int .u8 0), .lit (.int .u8 0), .lit (.int .u8 0), .lit (.int .u8 0), .lit (.int .u8 0), .lit (.int .u8 0), .lit (.int .u8 0), .lit (.int .u8 0), .lit (.int .u8 0), .lit (.int .u8 0), .lit (.int .u8 0), .lit (.int .u8 0), .lit (.int .u8 0), .lit (.int .u8 0), .lit (.int .u8 0), .lit (.int .u8 0), .lit (.int .u8 0), .lit (.int .u8 0), .lit (.int .u8 0), .lit (.int .u8 0), .lit (.int .u8 0), .lit (.int .u8 0), .lit (.int .u8 0), .lit (.int .u8 0), .lit (.int .u8 0), .lit (.int .u8 0), .lit (.int .u8 0), .lit (.int .u8 0), .lit (.int .u8 0), .lit (.int .u8 0), .lit (.int .u8 0), .lit (.int .u8 0), .lit (.int .u8 0), .lit (.int .u8 0), .lit (.int .u8 0), .lit (.int .u8 0), .lit (.int .u8 0), .lit (.int .u8 0), .lit (.int .u8 0), .lit (.int .u8 0), .lit (.int .u8 0), .lit (.int .u8 0)]
def laid_chirograph_chirographref_marks {H : Type} : DataW H := .agg [.lit (.string []), .lit (.string []), .lit (.string []), .lit (.string []), .lit (.string []), .lit (.string [43]), .lit (.string [45]), .lit (.string [42]), .lit (.string [47]), .lit (.string [61]), .lit (.string [60, 62]), .lit (.string [60]), .lit (.string [60, 61]), .lit (.string [62]), .lit (.string [62, 61]), .lit (.string [65, 78, 68]), .lit (.string [79, 82]), .lit (.string []), .lit (.string []), .lit (.string [124, 124]), .lit (.string [])]

/-- 'chirographlaw.ExprChecks': WHATEVER THE INPUT: true; the input reads as it did. -/
def exprChecksSpec : ChangeSpec := { name := "exprChecks", fn := fun _ => fun
  | [d] => { results := [.lit (.bool true)], args := [d] }
  | _ => none }
def exprChecksRow : OpenClaim := { program := "ytnbfkiflnngmpaadoor", sum := "dc731b71718b5c2f4a0be19dad454c8eba38b0281617799a3ebc3e70f7a13ffa", func := "chirograph/chirographlaw.ExprChecks", spec := "exprChecks", inPlace := ["math.Float64frombits"], unfollowed := true, recurses := true, named := ["chirograph/expr.forms", "unicode/utf8.first", "unicode/utf8.acceptRanges", "chirograph/lex.signs"], loops := true, apart := false, laid := [("unicode/utf8.acceptRanges", laid_unicode_utf8_acceptRanges), ("chirograph/lex.signs", laid_chirograph_lex_signs), ("chirograph/expr.forms", laid_chirograph_expr_forms), ("unicode/utf8.first", laid_unicode_utf8_first)] }
def ExprChecksSaid : Prop := exprChecksRow.holds Tryd.pinned (OpenSpec.ofChange exprChecksSpec)

/-- ITS FALSE NEIGHBOUR: 'it returns false'. Refute it at one input. -/
def exprChecksWrong : ChangeSpec := { name := "exprChecks", fn := fun _ => fun
  | [d] => { results := [.lit (.bool false)], args := [d] }
  | _ => none }
def ExprChecksWrongFalsely : Prop := exprChecksRow.holds Tryd.pinned (OpenSpec.ofChange exprChecksWrong)

/-- 'chirographlaw.ExprShows': WHATEVER THE INPUT: true; the input reads as it did. -/
def exprShowsSpec : ChangeSpec := { name := "exprShows", fn := fun _ => fun
  | [d] => { results := [.lit (.bool true)], args := [d] }
  | _ => none }
def exprShowsRow : OpenClaim := { program := "ytnbfkiflnngmpaadoor", sum := "dc731b71718b5c2f4a0be19dad454c8eba38b0281617799a3ebc3e70f7a13ffa", func := "chirograph/chirographlaw.ExprShows", spec := "exprShows", inPlace := ["math.Float64frombits"], unfollowed := true, recurses := true, named := ["chirograph/expr.forms", "unicode/utf8.first", "unicode/utf8.acceptRanges", "chirograph/lex.signs", "strings.asciiSpace", "unicode.White_Space", "chirograph/chirographref.marks"], loops := true, apart := false, laid := [("unicode/utf8.acceptRanges", laid_unicode_utf8_acceptRanges), ("unicode.White_Space", laid_unicode_White_Space), ("strings.asciiSpace", laid_strings_asciiSpace), ("chirograph/chirographref.marks", laid_chirograph_chirographref_marks), ("chirograph/lex.signs", laid_chirograph_lex_signs), ("chirograph/expr.forms", laid_chirograph_expr_forms), ("unicode/utf8.first", laid_unicode_utf8_first)] }
def ExprShowsSaid : Prop := exprShowsRow.holds Tryd.pinned (OpenSpec.ofChange exprShowsSpec)

/-- ITS FALSE NEIGHBOUR: 'it returns false'. Refute it at one input. -/
def exprShowsWrong : ChangeSpec := { name := "exprShows", fn := fun _ => fun
  | [d] => { results := [.lit (.bool false)], args := [d] }
  | _ => none }
def ExprShowsWrongFalsely : Prop := exprShowsRow.holds Tryd.pinned (OpenSpec.ofChange exprShowsWrong)

/-- 'chirographlaw.ExprReads': WHATEVER THE INPUT: true; the input reads as it did. -/
def exprReadsSpec : ChangeSpec := { name := "exprReads", fn := fun _ => fun
  | [d1, d2] => { results := [.lit (.bool true)], args := [d1, d2] }
  | _ => none }
def exprReadsRow : OpenClaim := { program := "ytnbfkiflnngmpaadoor", sum := "dc731b71718b5c2f4a0be19dad454c8eba38b0281617799a3ebc3e70f7a13ffa", func := "chirograph/chirographlaw.ExprReads", spec := "exprReads", inPlace := ["math.Float64frombits"], unfollowed := true, recurses := true, named := ["chirograph/expr.forms", "unicode/utf8.first", "unicode/utf8.acceptRanges", "chirograph/lex.signs", "strings.asciiSpace", "unicode.White_Space", "chirograph/chirographref.marks"], apart := false, laid := [("unicode/utf8.acceptRanges", laid_unicode_utf8_acceptRanges), ("unicode.White_Space", laid_unicode_White_Space), ("strings.asciiSpace", laid_strings_asciiSpace), ("chirograph/chirographref.marks", laid_chirograph_chirographref_marks), ("chirograph/lex.signs", laid_chirograph_lex_signs), ("chirograph/expr.forms", laid_chirograph_expr_forms), ("unicode/utf8.first", laid_unicode_utf8_first)] }
def ExprReadsSaid : Prop := exprReadsRow.holds Tryd.pinned (OpenSpec.ofChange exprReadsSpec)

/-- ITS FALSE NEIGHBOUR: 'it returns false'. Refute it at one input. -/
def exprReadsWrong : ChangeSpec := { name := "exprReads", fn := fun _ => fun
  | [d1, d2] => { results := [.lit (.bool false)], args := [d1, d2] }
  | _ => none }
def ExprReadsWrongFalsely : Prop := exprReadsRow.holds Tryd.pinned (OpenSpec.ofChange exprReadsWrong)

/-- 'chirographlaw.ExprParses': WHATEVER THE INPUT: true; the input reads as it did. -/
def exprParsesSpec : ChangeSpec := { name := "exprParses", fn := fun _ => fun
  | [d] => { results := [.lit (.bool true)], args := [d] }
  | _ => none }
def exprParsesRow : OpenClaim := { program := "ytnbfkiflnngmpaadoor", sum := "dc731b71718b5c2f4a0be19dad454c8eba38b0281617799a3ebc3e70f7a13ffa", func := "chirograph/chirographlaw.ExprParses", spec := "exprParses", inPlace := ["math.Float64frombits"], unfollowed := true, recurses := true, named := ["chirograph/expr.forms", "unicode/utf8.first", "unicode/utf8.acceptRanges", "chirograph/lex.signs", "strings.asciiSpace", "unicode.White_Space", "chirograph/chirographref.marks"], apart := false, laid := [("unicode/utf8.acceptRanges", laid_unicode_utf8_acceptRanges), ("unicode.White_Space", laid_unicode_White_Space), ("strings.asciiSpace", laid_strings_asciiSpace), ("chirograph/chirographref.marks", laid_chirograph_chirographref_marks), ("chirograph/lex.signs", laid_chirograph_lex_signs), ("chirograph/expr.forms", laid_chirograph_expr_forms), ("unicode/utf8.first", laid_unicode_utf8_first)] }
def ExprParsesSaid : Prop := exprParsesRow.holds Tryd.pinned (OpenSpec.ofChange exprParsesSpec)

/-- ITS FALSE NEIGHBOUR: 'it returns false'. Refute it at one input. -/
def exprParsesWrong : ChangeSpec := { name := "exprParses", fn := fun _ => fun
  | [d] => { results := [.lit (.bool false)], args := [d] }
  | _ => none }
def ExprParsesWrongFalsely : Prop := exprParsesRow.holds Tryd.pinned (OpenSpec.ofChange exprParsesWrong)

/-- 'chirographkeep.ExprBack': WHATEVER THE INPUT: true; the input reads as it did. -/
def exprBackSpec : ChangeSpec := { name := "exprBack", fn := fun _ => fun
  | [d1, d2] => { results := [.lit (.bool true)], args := [d1, d2] }
  | _ => none }
def exprBackRow : OpenClaim := { program := "ytnbfkiflnngmpaadoor", sum := "dc731b71718b5c2f4a0be19dad454c8eba38b0281617799a3ebc3e70f7a13ffa", func := "chirograph/chirographkeep.ExprBack", spec := "exprBack", inPlace := ["math.Float64frombits"], unfollowed := true, recurses := true, named := ["chirograph/expr.forms", "unicode/utf8.first", "unicode/utf8.acceptRanges", "chirograph/lex.signs"], apart := false, laid := [("unicode/utf8.acceptRanges", laid_unicode_utf8_acceptRanges), ("chirograph/lex.signs", laid_chirograph_lex_signs), ("chirograph/expr.forms", laid_chirograph_expr_forms), ("unicode/utf8.first", laid_unicode_utf8_first)] }
def ExprBackSaid : Prop := exprBackRow.holds Tryd.pinned (OpenSpec.ofChange exprBackSpec)

/-- ITS FALSE NEIGHBOUR: 'it returns false'. Refute it at one input. -/
def exprBackWrong : ChangeSpec := { name := "exprBack", fn := fun _ => fun
  | [d1, d2] => { results := [.lit (.bool false)], args := [d1, d2] }
  | _ => none }
def ExprBackWrongFalsely : Prop := exprBackRow.holds Tryd.pinned (OpenSpec.ofChange exprBackWrong)

/-- 'chirographkeep.ExprFixed': WHATEVER THE INPUT: true; the input reads as it did. -/
def exprFixedSpec : ChangeSpec := { name := "exprFixed", fn := fun _ => fun
  | [d] => { results := [.lit (.bool true)], args := [d] }
  | _ => none }
def exprFixedRow : OpenClaim := { program := "ytnbfkiflnngmpaadoor", sum := "dc731b71718b5c2f4a0be19dad454c8eba38b0281617799a3ebc3e70f7a13ffa", func := "chirograph/chirographkeep.ExprFixed", spec := "exprFixed", inPlace := ["math.Float64frombits"], unfollowed := true, recurses := true, named := ["chirograph/expr.forms", "unicode/utf8.first", "unicode/utf8.acceptRanges", "chirograph/lex.signs"], apart := false, laid := [("unicode/utf8.acceptRanges", laid_unicode_utf8_acceptRanges), ("chirograph/lex.signs", laid_chirograph_lex_signs), ("chirograph/expr.forms", laid_chirograph_expr_forms), ("unicode/utf8.first", laid_unicode_utf8_first)] }
def ExprFixedSaid : Prop := exprFixedRow.holds Tryd.pinned (OpenSpec.ofChange exprFixedSpec)

/-- ITS FALSE NEIGHBOUR: 'it returns false'. Refute it at one input. -/
def exprFixedWrong : ChangeSpec := { name := "exprFixed", fn := fun _ => fun
  | [d] => { results := [.lit (.bool false)], args := [d] }
  | _ => none }
def ExprFixedWrongFalsely : Prop := exprFixedRow.holds Tryd.pinned (OpenSpec.ofChange exprFixedWrong)

/-- 'chirographkeep.ExprFewest': WHATEVER THE INPUT: true; the input reads as it did. -/
def exprFewestSpec : ChangeSpec := { name := "exprFewest", fn := fun _ => fun
  | [d1, d2, d3] => { results := [.lit (.bool true)], args := [d1, d2, d3] }
  | _ => none }
def exprFewestRow : OpenClaim := { program := "ytnbfkiflnngmpaadoor", sum := "dc731b71718b5c2f4a0be19dad454c8eba38b0281617799a3ebc3e70f7a13ffa", func := "chirograph/chirographkeep.ExprFewest", spec := "exprFewest", inPlace := ["math.Float64frombits"], unfollowed := true, recurses := true, named := ["chirograph/expr.forms", "unicode/utf8.first", "unicode/utf8.acceptRanges", "chirograph/lex.signs"], apart := false, laid := [("unicode/utf8.acceptRanges", laid_unicode_utf8_acceptRanges), ("chirograph/lex.signs", laid_chirograph_lex_signs), ("chirograph/expr.forms", laid_chirograph_expr_forms), ("unicode/utf8.first", laid_unicode_utf8_first)] }
def ExprFewestSaid : Prop := exprFewestRow.holds Tryd.pinned (OpenSpec.ofChange exprFewestSpec)

/-- ITS FALSE NEIGHBOUR: 'it returns false'. Refute it at one input. -/
def exprFewestWrong : ChangeSpec := { name := "exprFewest", fn := fun _ => fun
  | [d1, d2, d3] => { results := [.lit (.bool false)], args := [d1, d2, d3] }
  | _ => none }
def ExprFewestWrongFalsely : Prop := exprFewestRow.holds Tryd.pinned (OpenSpec.ofChange exprFewestWrong)

/-- 'chirographkeep.ExprMore': WHATEVER THE INPUT: true; the input reads as it did. -/
def exprMoreSpec : ChangeSpec := { name := "exprMore", fn := fun _ => fun
  | [d1, d2, d3] => { results := [.lit (.bool true)], args := [d1, d2, d3] }
  | _ => none }
def exprMoreRow : OpenClaim := { program := "ytnbfkiflnngmpaadoor", sum := "dc731b71718b5c2f4a0be19dad454c8eba38b0281617799a3ebc3e70f7a13ffa", func := "chirograph/chirographkeep.ExprMore", spec := "exprMore", inPlace := ["math.Float64frombits"], unfollowed := true, recurses := true, named := ["chirograph/expr.forms", "unicode/utf8.first", "unicode/utf8.acceptRanges", "chirograph/lex.signs"], apart := false, laid := [("unicode/utf8.acceptRanges", laid_unicode_utf8_acceptRanges), ("chirograph/lex.signs", laid_chirograph_lex_signs), ("chirograph/expr.forms", laid_chirograph_expr_forms), ("unicode/utf8.first", laid_unicode_utf8_first)] }
def ExprMoreSaid : Prop := exprMoreRow.holds Tryd.pinned (OpenSpec.ofChange exprMoreSpec)

/-- ITS FALSE NEIGHBOUR: 'it returns false'. Refute it at one input. -/
def exprMoreWrong : ChangeSpec := { name := "exprMore", fn := fun _ => fun
  | [d1, d2, d3] => { results := [.lit (.bool false)], args := [d1, d2, d3] }
  | _ => none }
def ExprMoreWrongFalsely : Prop := exprMoreRow.holds Tryd.pinned (OpenSpec.ofChange exprMoreWrong)

/-- 'chirographkeep.ExprAhead': WHATEVER THE INPUT: true; the input reads as it did. -/
def exprAheadSpec : ChangeSpec := { name := "exprAhead", fn := fun _ => fun
  | [d1, d2, d3] => { results := [.lit (.bool true)], args := [d1, d2, d3] }
  | _ => none }
def exprAheadRow : OpenClaim := { program := "ytnbfkiflnngmpaadoor", sum := "dc731b71718b5c2f4a0be19dad454c8eba38b0281617799a3ebc3e70f7a13ffa", func := "chirograph/chirographkeep.ExprAhead", spec := "exprAhead", inPlace := ["math.Float64frombits"], unfollowed := true, recurses := true, named := ["chirograph/expr.forms", "unicode/utf8.first", "unicode/utf8.acceptRanges", "chirograph/lex.signs"], apart := false, laid := [("unicode/utf8.acceptRanges", laid_unicode_utf8_acceptRanges), ("chirograph/lex.signs", laid_chirograph_lex_signs), ("chirograph/expr.forms", laid_chirograph_expr_forms), ("unicode/utf8.first", laid_unicode_utf8_first)] }
def ExprAheadSaid : Prop := exprAheadRow.holds Tryd.pinned (OpenSpec.ofChange exprAheadSpec)

/-- ITS FALSE NEIGHBOUR: 'it returns false'. Refute it at one input. -/
def exprAheadWrong : ChangeSpec := { name := "exprAhead", fn := fun _ => fun
  | [d1, d2, d3] => { results := [.lit (.bool false)], args := [d1, d2, d3] }
  | _ => none }
def ExprAheadWrongFalsely : Prop := exprAheadRow.holds Tryd.pinned (OpenSpec.ofChange exprAheadWrong)

/- THE SECOND FORM. 'bulk': how many values and letters a reading holds, each counted each time it is reached (what is shared counts as often as it is met; a slice's spare places count too). A statement '..UptoSaid' is the law's where the arguments, and the package variables that the reading takes, are together of bulk at most 1048576: NARROWER than '..Said'. Prove '..Said' where nothing that the law and all that it calls make is longer than what came in: it says more and counts as full. Else prove '..UptoSaid'. A law counts once. -/
mutual
def uptoBulk {H : Type} : DataW H → Nat
  | .lit (.string bytes) => bytes.length + 1
  | .lit _ => 1
  | .nil => 1
  | .ptr d => uptoBulk d + 1
  | .slice elems spare => uptoBulkAll elems + uptoBulkAll spare + 1
  | .agg parts => uptoBulkAll parts + 1
  | .iface _ d => uptoBulk d + 1
  | .map entries => uptoBulkEntries entries + 1
  | .held _ => 1
def uptoBulkAll {H : Type} : List (DataW H) → Nat
  | [] => 0
  | d :: r => uptoBulk d + uptoBulkAll r
def uptoBulkEntries {H : Type} : List (Lit × DataW H) → Nat
  | [] => 0
  | x :: r => uptoBulkEntry x + uptoBulkEntries r
def uptoBulkEntry {H : Type} : Lit × DataW H → Nat
  | (.string bytes, d) => bytes.length + uptoBulk d + 1
  | (_, d) => uptoBulk d + 1
 end
def uptoSmall : (H : Type) → List (DataW H) → Bool := fun _ ds => decide (uptoBulkAll ds ≤ 1048576)
def OpenSpec.upto (s : _root_.Go.ChangeSpec) : _root_.Go.OpenSpec := { _root_.Go.OpenSpec.ofChange s with cond := some uptoSmall }

/-- 'chirographlaw.ExprChecks', WHERE WHAT IT READS IS OF BULK AT MOST 1048576: true; the input reads as it did. -/
def exprChecksUptoRow : OpenClaim := { program := "ytnbfkiflnngmpaadoor", sum := "dc731b71718b5c2f4a0be19dad454c8eba38b0281617799a3ebc3e70f7a13ffa", func := "chirograph/chirographlaw.ExprChecks", spec := "exprChecks", inPlace := ["math.Float64frombits"], unfollowed := true, recurses := true, named := ["chirograph/expr.forms", "unicode/utf8.first", "unicode/utf8.acceptRanges", "chirograph/lex.signs"], loops := true, apart := false, laid := [("unicode/utf8.acceptRanges", laid_unicode_utf8_acceptRanges), ("chirograph/lex.signs", laid_chirograph_lex_signs), ("chirograph/expr.forms", laid_chirograph_expr_forms), ("unicode/utf8.first", laid_unicode_utf8_first)], narrowed := true }
def ExprChecksUptoSaid : Prop := exprChecksUptoRow.holds Tryd.pinned (OpenSpec.upto exprChecksSpec)

/-- 'chirographlaw.ExprShows', WHERE WHAT IT READS IS OF BULK AT MOST 1048576: true; the input reads as it did. -/
def exprShowsUptoRow : OpenClaim := { program := "ytnbfkiflnngmpaadoor", sum := "dc731b71718b5c2f4a0be19dad454c8eba38b0281617799a3ebc3e70f7a13ffa", func := "chirograph/chirographlaw.ExprShows", spec := "exprShows", inPlace := ["math.Float64frombits"], unfollowed := true, recurses := true, named := ["chirograph/expr.forms", "unicode/utf8.first", "unicode/utf8.acceptRanges", "chirograph/lex.signs", "strings.asciiSpace", "unicode.White_Space", "chirograph/chirographref.marks"], loops := true, apart := false, laid := [("unicode/utf8.acceptRanges", laid_unicode_utf8_acceptRanges), ("unicode.White_Space", laid_unicode_White_Space), ("strings.asciiSpace", laid_strings_asciiSpace), ("chirograph/chirographref.marks", laid_chirograph_chirographref_marks), ("chirograph/lex.signs", laid_chirograph_lex_signs), ("chirograph/expr.forms", laid_chirograph_expr_forms), ("unicode/utf8.first", laid_unicode_utf8_first)], narrowed := true }
def ExprShowsUptoSaid : Prop := exprShowsUptoRow.holds Tryd.pinned (OpenSpec.upto exprShowsSpec)

/-- 'chirographlaw.ExprReads', WHERE WHAT IT READS IS OF BULK AT MOST 1048576: true; the input reads as it did. -/
def exprReadsUptoRow : OpenClaim := { program := "ytnbfkiflnngmpaadoor", sum := "dc731b71718b5c2f4a0be19dad454c8eba38b0281617799a3ebc3e70f7a13ffa", func := "chirograph/chirographlaw.ExprReads", spec := "exprReads", inPlace := ["math.Float64frombits"], unfollowed := true, recurses := true, named := ["chirograph/expr.forms", "unicode/utf8.first", "unicode/utf8.acceptRanges", "chirograph/lex.signs", "strings.asciiSpace", "unicode.White_Space", "chirograph/chirographref.marks"], apart := false, laid := [("unicode/utf8.acceptRanges", laid_unicode_utf8_acceptRanges), ("unicode.White_Space", laid_unicode_White_Space), ("strings.asciiSpace", laid_strings_asciiSpace), ("chirograph/chirographref.marks", laid_chirograph_chirographref_marks), ("chirograph/lex.signs", laid_chirograph_lex_signs), ("chirograph/expr.forms", laid_chirograph_expr_forms), ("unicode/utf8.first", laid_unicode_utf8_first)], narrowed := true }
def ExprReadsUptoSaid : Prop := exprReadsUptoRow.holds Tryd.pinned (OpenSpec.upto exprReadsSpec)

/-- 'chirographlaw.ExprParses', WHERE WHAT IT READS IS OF BULK AT MOST 1048576: true; the input reads as it did. -/
def exprParsesUptoRow : OpenClaim := { program := "ytnbfkiflnngmpaadoor", sum := "dc731b71718b5c2f4a0be19dad454c8eba38b0281617799a3ebc3e70f7a13ffa", func := "chirograph/chirographlaw.ExprParses", spec := "exprParses", inPlace := ["math.Float64frombits"], unfollowed := true, recurses := true, named := ["chirograph/expr.forms", "unicode/utf8.first", "unicode/utf8.acceptRanges", "chirograph/lex.signs", "strings.asciiSpace", "unicode.White_Space", "chirograph/chirographref.marks"], apart := false, laid := [("unicode/utf8.acceptRanges", laid_unicode_utf8_acceptRanges), ("unicode.White_Space", laid_unicode_White_Space), ("strings.asciiSpace", laid_strings_asciiSpace), ("chirograph/chirographref.marks", laid_chirograph_chirographref_marks), ("chirograph/lex.signs", laid_chirograph_lex_signs), ("chirograph/expr.forms", laid_chirograph_expr_forms), ("unicode/utf8.first", laid_unicode_utf8_first)], narrowed := true }
def ExprParsesUptoSaid : Prop := exprParsesUptoRow.holds Tryd.pinned (OpenSpec.upto exprParsesSpec)

/-- 'chirographkeep.ExprBack', WHERE WHAT IT READS IS OF BULK AT MOST 1048576: true; the input reads as it did. -/
def exprBackUptoRow : OpenClaim := { program := "ytnbfkiflnngmpaadoor", sum := "dc731b71718b5c2f4a0be19dad454c8eba38b0281617799a3ebc3e70f7a13ffa", func := "chirograph/chirographkeep.ExprBack", spec := "exprBack", inPlace := ["math.Float64frombits"], unfollowed := true, recurses := true, named := ["chirograph/expr.forms", "unicode/utf8.first", "unicode/utf8.acceptRanges", "chirograph/lex.signs"], apart := false, laid := [("unicode/utf8.acceptRanges", laid_unicode_utf8_acceptRanges), ("chirograph/lex.signs", laid_chirograph_lex_signs), ("chirograph/expr.forms", laid_chirograph_expr_forms), ("unicode/utf8.first", laid_unicode_utf8_first)], narrowed := true }
def ExprBackUptoSaid : Prop := exprBackUptoRow.holds Tryd.pinned (OpenSpec.upto exprBackSpec)

/-- 'chirographkeep.ExprFixed', WHERE WHAT IT READS IS OF BULK AT MOST 1048576: true; the input reads as it did. -/
def exprFixedUptoRow : OpenClaim := { program := "ytnbfkiflnngmpaadoor", sum := "dc731b71718b5c2f4a0be19dad454c8eba38b0281617799a3ebc3e70f7a13ffa", func := "chirograph/chirographkeep.ExprFixed", spec := "exprFixed", inPlace := ["math.Float64frombits"], unfollowed := true, recurses := true, named := ["chirograph/expr.forms", "unicode/utf8.first", "unicode/utf8.acceptRanges", "chirograph/lex.signs"], apart := false, laid := [("unicode/utf8.acceptRanges", laid_unicode_utf8_acceptRanges), ("chirograph/lex.signs", laid_chirograph_lex_signs), ("chirograph/expr.forms", laid_chirograph_expr_forms), ("unicode/utf8.first", laid_unicode_utf8_first)], narrowed := true }
def ExprFixedUptoSaid : Prop := exprFixedUptoRow.holds Tryd.pinned (OpenSpec.upto exprFixedSpec)

/-- 'chirographkeep.ExprFewest', WHERE WHAT IT READS IS OF BULK AT MOST 1048576: true; the input reads as it did. -/
def exprFewestUptoRow : OpenClaim := { program := "ytnbfkiflnngmpaadoor", sum := "dc731b71718b5c2f4a0be19dad454c8eba38b0281617799a3ebc3e70f7a13ffa", func := "chirograph/chirographkeep.ExprFewest", spec := "exprFewest", inPlace := ["math.Float64frombits"], unfollowed := true, recurses := true, named := ["chirograph/expr.forms", "unicode/utf8.first", "unicode/utf8.acceptRanges", "chirograph/lex.signs"], apart := false, laid := [("unicode/utf8.acceptRanges", laid_unicode_utf8_acceptRanges), ("chirograph/lex.signs", laid_chirograph_lex_signs), ("chirograph/expr.forms", laid_chirograph_expr_forms), ("unicode/utf8.first", laid_unicode_utf8_first)], narrowed := true }
def ExprFewestUptoSaid : Prop := exprFewestUptoRow.holds Tryd.pinned (OpenSpec.upto exprFewestSpec)

/-- 'chirographkeep.ExprMore', WHERE WHAT IT READS IS OF BULK AT MOST 1048576: true; the input reads as it did. -/
def exprMoreUptoRow : OpenClaim := { program := "ytnbfkiflnngmpaadoor", sum := "dc731b71718b5c2f4a0be19dad454c8eba38b0281617799a3ebc3e70f7a13ffa", func := "chirograph/chirographkeep.ExprMore", spec := "exprMore", inPlace := ["math.Float64frombits"], unfollowed := true, recurses := true, named := ["chirograph/expr.forms", "unicode/utf8.first", "unicode/utf8.acceptRanges", "chirograph/lex.signs"], apart := false, laid := [("unicode/utf8.acceptRanges", laid_unicode_utf8_acceptRanges), ("chirograph/lex.signs", laid_chirograph_lex_signs), ("chirograph/expr.forms", laid_chirograph_expr_forms), ("unicode/utf8.first", laid_unicode_utf8_first)], narrowed := true }
def ExprMoreUptoSaid : Prop := exprMoreUptoRow.holds Tryd.pinned (OpenSpec.upto exprMoreSpec)

/-- 'chirographkeep.ExprAhead', WHERE WHAT IT READS IS OF BULK AT MOST 1048576: true; the input reads as it did. -/
def exprAheadUptoRow : OpenClaim := { program := "ytnbfkiflnngmpaadoor", sum := "dc731b71718b5c2f4a0be19dad454c8eba38b0281617799a3ebc3e70f7a13ffa", func := "chirograph/chirographkeep.ExprAhead", spec := "exprAhead", inPlace := ["math.Float64frombits"], unfollowed := true, recurses := true, named := ["chirograph/expr.forms", "unicode/utf8.first", "unicode/utf8.acceptRanges", "chirograph/lex.signs"], apart := false, laid := [("unicode/utf8.acceptRanges", laid_unicode_utf8_acceptRanges), ("chirograph/lex.signs", laid_chirograph_lex_signs), ("chirograph/expr.forms", laid_chirograph_expr_forms), ("unicode/utf8.first", laid_unicode_utf8_first)], narrowed := true }
def ExprAheadUptoSaid : Prop := exprAheadUptoRow.holds Tryd.pinned (OpenSpec.upto exprAheadSpec)

end Rows
end Go.Proofs.YtnbfkiflnngmpaaDoor
