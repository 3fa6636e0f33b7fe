/-
  NARROWER THAN 'FOR EVERY INPUT', by the rows' own cells (each row's printed sentence says how): KindsColumns: laid · KindsOf: loops, laid · KindsRows: laid · KindMore: laid · KindStrict: laid.
  DERIVED. THE GIVEN ROWS OF THIS SEAT. 5 by the template 'for every input the law returns true; each argument reads behind the call as it read before'; 0 by the template 'total and deterministic' (their statements: YtoleaahnpcbkkaaDoorTotals.lean).
  GIVEN WITH THE SEED: the statements are not yours to turn. If you find one false, say at which input.
  Laid BY PROGRAM, IN A SANDBOX (cutbox-rows.mjs): the forced cells as the released guide's own fill.sh prints them over the translation 7e9de8e435ad4714… (all of the seat's roots in one cut). By AI agents, Wed Nov 11 2026. No macro, syntax, notation, axiom, sorry.
-/
import Derived.Test.YtoleaahnpcbkkaaDoorChecked
import GoSem.PinnedTables
import GoSem.Claim
import GoSem.ClaimJoined
import GoSem.ClaimMapViews
import Derived.JoinedTies
import Derived.KernelRfl
namespace Go.Proofs.YtoleaahnpcbkkaaDoor
/- THE CELL 'sum', in the pinned program and in every row, IS THE sha256 OF THE DUMP (.gsa) THAT YtoleaahnpcbkkaaDoorProg.lean LOADS. Nothing in Lean hashes anything: it is a label: what it is worth is what the hold of that sum in a sandbox is worth. -/
noncomputable def Tryd.pinned : Pinned := { name := "ytoleaahnpcbkkaadoor", sum := "7e9de8e435ad4714f5e05016c5b50654adac05c10676d9f5193286c75d6d3b46", checked := Tryd.checked }
namespace Rows
def none {H : Type} : Left H := { results := [], args := [] }

/- WHAT THE LISTED PACKAGE-LEVEL VARIABLES READ AS WHEN THE CALL BEGINS. Each datum BY PROGRAM (the guide's laid-datum.mjs) off the statement by which the dump's own 'gosem.cut.vars' lays the variable. In a bare row this is a premise. The card (YtoleaahnpcbkkaaDoorCards.lean) ties it to the program's text. -/
def laid_unicode_utf8_acceptRanges {H : Type} : DataW H := .agg [.agg [.lit (.int .u8 128), .lit (.int .u8 191)], .agg [.lit (.int .u8 160), .lit (.int .u8 191)], .agg [.lit (.int .u8 128), .lit (.int .u8 159)], .agg [.lit (.int .u8 144), .lit (.int .u8 191)], .agg [.lit (.int .u8 128), .lit (.int .u8 143)], .agg [.lit (.int .u8 0), .lit (.int .u8 0)], .agg [.lit (.int .u8 0), .lit (.int .u8 0)], .agg [.lit (.int .u8 0), .lit (.int .u8 0)], .agg [.lit (.int .u8 0), .lit (.int .u8 0)], .agg [.lit (.int .u8 0), .lit (.int .u8 0)], .agg [.lit (.int .u8 0), .lit (.int .u8 0)], .agg [.lit (.int .u8 0), .lit (.int .u8 0)], .agg [.lit (.int .u8 0), .lit (.int .u8 0)], .agg [.lit (.int .u8 0), .lit (.int .u8 0)], .agg [.lit (.int .u8 0), .lit (.int .u8 0)], .agg [.lit (.int .u8 0), .lit (.int .u8 0)]]
def laid_chirograph_lex_signs {H : Type} : DataW H := .agg [.lit (.string [60, 61]), .lit (.string [60, 62]), .lit (.string [62, 61]), .lit (.string [124, 124]), .lit (.string [40]), .lit (.string [41]), .lit (.string [44]), .lit (.string [46]), .lit (.string [61]), .lit (.string [60]), .lit (.string [62]), .lit (.string [43]), .lit (.string [45]), .lit (.string [42]), .lit (.string [47]), .lit (.string [59])]
/-- One of Go's own tables, pinned by name: the form's constant. -/
def laid_unicode_utf8_first : DataW Unit := Go.Pinned.utf8First
def laid_chirograph_expr_forms {H : Type} : DataW H := .agg [.agg [.lit (.int .i64 0), .lit (.int .i64 0), .lit (.int .i64 0), .lit (.string []), .lit (.int .i64 0)], .agg [.lit (.int .i64 0), .lit (.int .i64 9), .lit (.int .i64 0), .lit (.string []), .lit (.int .i64 0)], .agg [.lit (.int .i64 0), .lit (.int .i64 9), .lit (.int .i64 0), .lit (.string []), .lit (.int .i64 0)], .agg [.lit (.int .i64 1), .lit (.int .i64 8), .lit (.int .i64 0), .lit (.string [45]), .lit (.int .i64 8)], .agg [.lit (.int .i64 1), .lit (.int .i64 3), .lit (.int .i64 0), .lit (.string [78, 79, 84]), .lit (.int .i64 3)], .agg [.lit (.int .i64 2), .lit (.int .i64 6), .lit (.int .i64 6), .lit (.string [43]), .lit (.int .i64 7)], .agg [.lit (.int .i64 2), .lit (.int .i64 6), .lit (.int .i64 6), .lit (.string [45]), .lit (.int .i64 7)], .agg [.lit (.int .i64 2), .lit (.int .i64 7), .lit (.int .i64 7), .lit (.string [42]), .lit (.int .i64 8)], .agg [.lit (.int .i64 2), .lit (.int .i64 7), .lit (.int .i64 7), .lit (.string [47]), .lit (.int .i64 8)], .agg [.lit (.int .i64 2), .lit (.int .i64 4), .lit (.int .i64 5), .lit (.string [61]), .lit (.int .i64 5)], .agg [.lit (.int .i64 2), .lit (.int .i64 4), .lit (.int .i64 5), .lit (.string [60, 62]), .lit (.int .i64 5)], .agg [.lit (.int .i64 2), .lit (.int .i64 4), .lit (.int .i64 5), .lit (.string [60]), .lit (.int .i64 5)], .agg [.lit (.int .i64 2), .lit (.int .i64 4), .lit (.int .i64 5), .lit (.string [60, 61]), .lit (.int .i64 5)], .agg [.lit (.int .i64 2), .lit (.int .i64 4), .lit (.int .i64 5), .lit (.string [62]), .lit (.int .i64 5)], .agg [.lit (.int .i64 2), .lit (.int .i64 4), .lit (.int .i64 5), .lit (.string [62, 61]), .lit (.int .i64 5)], .agg [.lit (.int .i64 2), .lit (.int .i64 2), .lit (.int .i64 2), .lit (.string [65, 78, 68]), .lit (.int .i64 3)], .agg [.lit (.int .i64 2), .lit (.int .i64 1), .lit (.int .i64 1), .lit (.string [79, 82]), .lit (.int .i64 2)], .agg [.lit (.int .i64 1), .lit (.int .i64 4), .lit (.int .i64 5), .lit (.string [73, 83]), .lit (.int .i64 0)], .agg [.lit (.int .i64 1), .lit (.int .i64 9), .lit (.int .i64 0), .lit (.string [76, 69, 78, 71, 84, 72]), .lit (.int .i64 0)], .agg [.lit (.int .i64 2), .lit (.int .i64 5), .lit (.int .i64 5), .lit (.string [124, 124]), .lit (.int .i64 6)], .agg [.lit (.int .i64 2), .lit (.int .i64 9), .lit (.int .i64 0), .lit (.string [67, 79, 65, 76, 69, 83, 67, 69]), .lit (.int .i64 0)]]

/-- 'chirographlaw.KindsColumns': WHATEVER THE INPUT: true; the input reads as it did. -/
def kindsColumnsSpec : ChangeSpec := { name := "kindsColumns", fn := fun _ => fun
  | [d] => { results := [.lit (.bool true)], args := [d] }
  | _ => none }
def kindsColumnsRow : OpenClaim := { program := "ytoleaahnpcbkkaadoor", sum := "7e9de8e435ad4714f5e05016c5b50654adac05c10676d9f5193286c75d6d3b46", func := "chirograph/chirographlaw.KindsColumns", spec := "kindsColumns", inPlace := ["math.Float64frombits"], unfollowed := true, recurses := true, named := ["unicode/utf8.first", "unicode/utf8.acceptRanges", "chirograph/lex.signs"], apart := false, laid := [("unicode/utf8.acceptRanges", laid_unicode_utf8_acceptRanges), ("chirograph/lex.signs", laid_chirograph_lex_signs), ("unicode/utf8.first", laid_unicode_utf8_first)] }
def KindsColumnsSaid : Prop := kindsColumnsRow.holds Tryd.pinned (OpenSpec.ofChange kindsColumnsSpec)

/-- ITS FALSE NEIGHBOUR: 'it returns false'. Refute it at one input. -/
def kindsColumnsWrong : ChangeSpec := { name := "kindsColumns", fn := fun _ => fun
  | [d] => { results := [.lit (.bool false)], args := [d] }
  | _ => none }
def KindsColumnsWrongFalsely : Prop := kindsColumnsRow.holds Tryd.pinned (OpenSpec.ofChange kindsColumnsWrong)

/-- 'chirographlaw.KindsOf': WHATEVER THE INPUT: true; the input reads as it did. -/
def kindsOfSpec : ChangeSpec := { name := "kindsOf", fn := fun _ => fun
  | [d1, d2] => { results := [.lit (.bool true)], args := [d1, d2] }
  | _ => none }
def kindsOfRow : OpenClaim := { program := "ytoleaahnpcbkkaadoor", sum := "7e9de8e435ad4714f5e05016c5b50654adac05c10676d9f5193286c75d6d3b46", func := "chirograph/chirographlaw.KindsOf", spec := "kindsOf", inPlace := ["math.Float64frombits"], unfollowed := true, recurses := true, named := ["chirograph/expr.forms", "unicode/utf8.first", "unicode/utf8.acceptRanges", "chirograph/lex.signs"], loops := true, apart := false, laid := [("unicode/utf8.acceptRanges", laid_unicode_utf8_acceptRanges), ("chirograph/lex.signs", laid_chirograph_lex_signs), ("chirograph/expr.forms", laid_chirograph_expr_forms), ("unicode/utf8.first", laid_unicode_utf8_first)] }
def KindsOfSaid : Prop := kindsOfRow.holds Tryd.pinned (OpenSpec.ofChange kindsOfSpec)

/-- ITS FALSE NEIGHBOUR: 'it returns false'. Refute it at one input. -/
def kindsOfWrong : ChangeSpec := { name := "kindsOf", fn := fun _ => fun
  | [d1, d2] => { results := [.lit (.bool false)], args := [d1, d2] }
  | _ => none }
def KindsOfWrongFalsely : Prop := kindsOfRow.holds Tryd.pinned (OpenSpec.ofChange kindsOfWrong)

/-- 'chirographlaw.KindsRows': WHATEVER THE INPUT: true; the input reads as it did. -/
def kindsRowsSpec : ChangeSpec := { name := "kindsRows", fn := fun _ => fun
  | [d1, d2] => { results := [.lit (.bool true)], args := [d1, d2] }
  | _ => none }
def kindsRowsRow : OpenClaim := { program := "ytoleaahnpcbkkaadoor", sum := "7e9de8e435ad4714f5e05016c5b50654adac05c10676d9f5193286c75d6d3b46", func := "chirograph/chirographlaw.KindsRows", spec := "kindsRows", inPlace := ["math.Float64frombits"], unfollowed := true, recurses := true, named := ["unicode/utf8.first", "unicode/utf8.acceptRanges", "chirograph/lex.signs"], apart := false, laid := [("unicode/utf8.acceptRanges", laid_unicode_utf8_acceptRanges), ("chirograph/lex.signs", laid_chirograph_lex_signs), ("unicode/utf8.first", laid_unicode_utf8_first)] }
def KindsRowsSaid : Prop := kindsRowsRow.holds Tryd.pinned (OpenSpec.ofChange kindsRowsSpec)

/-- ITS FALSE NEIGHBOUR: 'it returns false'. Refute it at one input. -/
def kindsRowsWrong : ChangeSpec := { name := "kindsRows", fn := fun _ => fun
  | [d1, d2] => { results := [.lit (.bool false)], args := [d1, d2] }
  | _ => none }
def KindsRowsWrongFalsely : Prop := kindsRowsRow.holds Tryd.pinned (OpenSpec.ofChange kindsRowsWrong)

/-- 'chirographkeep.KindMore': WHATEVER THE INPUT: true; the input reads as it did. -/
def kindMoreSpec : ChangeSpec := { name := "kindMore", fn := fun _ => fun
  | [d1, d2] => { results := [.lit (.bool true)], args := [d1, d2] }
  | _ => none }
def kindMoreRow : OpenClaim := { program := "ytoleaahnpcbkkaadoor", sum := "7e9de8e435ad4714f5e05016c5b50654adac05c10676d9f5193286c75d6d3b46", func := "chirograph/chirographkeep.KindMore", spec := "kindMore", inPlace := ["math.Float64frombits"], unfollowed := true, recurses := true, named := ["chirograph/expr.forms", "unicode/utf8.first", "unicode/utf8.acceptRanges", "chirograph/lex.signs"], apart := false, laid := [("unicode/utf8.acceptRanges", laid_unicode_utf8_acceptRanges), ("chirograph/lex.signs", laid_chirograph_lex_signs), ("chirograph/expr.forms", laid_chirograph_expr_forms), ("unicode/utf8.first", laid_unicode_utf8_first)] }
def KindMoreSaid : Prop := kindMoreRow.holds Tryd.pinned (OpenSpec.ofChange kindMoreSpec)

/-- ITS FALSE NEIGHBOUR: 'it returns false'. Refute it at one input. -/
def kindMoreWrong : ChangeSpec := { name := "kindMore", fn := fun _ => fun
  | [d1, d2] => { results := [.lit (.bool false)], args := [d1, d2] }
  | _ => none }
def KindMoreWrongFalsely : Prop := kindMoreRow.holds Tryd.pinned (OpenSpec.ofChange kindMoreWrong)

/-- 'chirographkeep.KindStrict': WHATEVER THE INPUT: true; the input reads as it did. -/
def kindStrictSpec : ChangeSpec := { name := "kindStrict", fn := fun _ => fun
  | [d1, d2] => { results := [.lit (.bool true)], args := [d1, d2] }
  | _ => none }
def kindStrictRow : OpenClaim := { program := "ytoleaahnpcbkkaadoor", sum := "7e9de8e435ad4714f5e05016c5b50654adac05c10676d9f5193286c75d6d3b46", func := "chirograph/chirographkeep.KindStrict", spec := "kindStrict", inPlace := ["math.Float64frombits"], unfollowed := true, recurses := true, named := ["chirograph/expr.forms", "unicode/utf8.first", "unicode/utf8.acceptRanges", "chirograph/lex.signs"], apart := false, laid := [("unicode/utf8.acceptRanges", laid_unicode_utf8_acceptRanges), ("chirograph/lex.signs", laid_chirograph_lex_signs), ("chirograph/expr.forms", laid_chirograph_expr_forms), ("unicode/utf8.first", laid_unicode_utf8_first)] }
def KindStrictSaid : Prop := kindStrictRow.holds Tryd.pinned (OpenSpec.ofChange kindStrictSpec)

/-- ITS FALSE NEIGHBOUR: 'it returns false'. Refute it at one input. -/
def kindStrictWrong : ChangeSpec := { name := "kindStrict", fn := fun _ => fun
  | [d1, d2] => { results := [.lit (.bool false)], args := [d1, d2] }
  | _ => none }
def KindStrictWrongFalsely : Prop := kindStrictRow.holds Tryd.pinned (OpenSpec.ofChange kindStrictWrong)

/- THE SECOND FORM. 'bulk': how many values and letters a reading holds, each counted each time it is reached (what is shared counts as often as it is met; a slice's spare places count too). A statement '..UptoSaid' is the law's where the arguments, and the package variables that the reading takes, are together of bulk at most 1048576: NARROWER than '..Said'. Prove '..Said' where nothing that the law and all that it calls make is longer than what came in: it says more and counts as full. Else prove '..UptoSaid'. A law counts once. -/
mutual
def uptoBulk {H : Type} : DataW H → Nat
  | .lit (.string bytes) => bytes.length + 1
  | .lit _ => 1
  | .nil => 1
  | .ptr d => uptoBulk d + 1
  | .slice elems spare => uptoBulkAll elems + uptoBulkAll spare + 1
  | .agg parts => uptoBulkAll parts + 1
  | .iface _ d => uptoBulk d + 1
  | .map entries => uptoBulkEntries entries + 1
  | .held _ => 1
def uptoBulkAll {H : Type} : List (DataW H) → Nat
  | [] => 0
  | d :: r => uptoBulk d + uptoBulkAll r
def uptoBulkEntries {H : Type} : List (Lit × DataW H) → Nat
  | [] => 0
  | x :: r => uptoBulkEntry x + uptoBulkEntries r
def uptoBulkEntry {H : Type} : Lit × DataW H → Nat
  | (.string bytes, d) => bytes.length + uptoBulk d + 1
  | (_, d) => uptoBulk d + 1
 end
def uptoSmall : (H : Type) → List (DataW H) → Bool := fun _ ds => decide (uptoBulkAll ds ≤ 1048576)
def OpenSpec.upto (s : _root_.Go.ChangeSpec) : _root_.Go.OpenSpec := { _root_.Go.OpenSpec.ofChange s with cond := some uptoSmall }

/-- 'chirographlaw.KindsColumns', WHERE WHAT IT READS IS OF BULK AT MOST 1048576: true; the input reads as it did. -/
def kindsColumnsUptoRow : OpenClaim := { program := "ytoleaahnpcbkkaadoor", sum := "7e9de8e435ad4714f5e05016c5b50654adac05c10676d9f5193286c75d6d3b46", func := "chirograph/chirographlaw.KindsColumns", spec := "kindsColumns", inPlace := ["math.Float64frombits"], unfollowed := true, recurses := true, named := ["unicode/utf8.first", "unicode/utf8.acceptRanges", "chirograph/lex.signs"], apart := false, laid := [("unicode/utf8.acceptRanges", laid_unicode_utf8_acceptRanges), ("chirograph/lex.signs", laid_chirograph_lex_signs), ("unicode/utf8.first", laid_unicode_utf8_first)], narrowed := true }
def KindsColumnsUptoSaid : Prop := kindsColumnsUptoRow.holds Tryd.pinned (OpenSpec.upto kindsColumnsSpec)

/-- 'chirographlaw.KindsOf', WHERE WHAT IT READS IS OF BULK AT MOST 1048576: true; the input reads as it did. -/
def kindsOfUptoRow : OpenClaim := { program := "ytoleaahnpcbkkaadoor", sum := "7e9de8e435ad4714f5e05016c5b50654adac05c10676d9f5193286c75d6d3b46", func := "chirograph/chirographlaw.KindsOf", spec := "kindsOf", inPlace := ["math.Float64frombits"], unfollowed := true, recurses := true, named := ["chirograph/expr.forms", "unicode/utf8.first", "unicode/utf8.acceptRanges", "chirograph/lex.signs"], loops := true, apart := false, laid := [("unicode/utf8.acceptRanges", laid_unicode_utf8_acceptRanges), ("chirograph/lex.signs", laid_chirograph_lex_signs), ("chirograph/expr.forms", laid_chirograph_expr_forms), ("unicode/utf8.first", laid_unicode_utf8_first)], narrowed := true }
def KindsOfUptoSaid : Prop := kindsOfUptoRow.holds Tryd.pinned (OpenSpec.upto kindsOfSpec)

/-- 'chirographlaw.KindsRows', WHERE WHAT IT READS IS OF BULK AT MOST 1048576: true; the input reads as it did. -/
def kindsRowsUptoRow : OpenClaim := { program := "ytoleaahnpcbkkaadoor", sum := "7e9de8e435ad4714f5e05016c5b50654adac05c10676d9f5193286c75d6d3b46", func := "chirograph/chirographlaw.KindsRows", spec := "kindsRows", inPlace := ["math.Float64frombits"], unfollowed := true, recurses := true, named := ["unicode/utf8.first", "unicode/utf8.acceptRanges", "chirograph/lex.signs"], apart := false, laid := [("unicode/utf8.acceptRanges", laid_unicode_utf8_acceptRanges), ("chirograph/lex.signs", laid_chirograph_lex_signs), ("unicode/utf8.first", laid_unicode_utf8_first)], narrowed := true }
def KindsRowsUptoSaid : Prop := kindsRowsUptoRow.holds Tryd.pinned (OpenSpec.upto kindsRowsSpec)

/-- 'chirographkeep.KindMore', WHERE WHAT IT READS IS OF BULK AT MOST 1048576: true; the input reads as it did. -/
def kindMoreUptoRow : OpenClaim := { program := "ytoleaahnpcbkkaadoor", sum := "7e9de8e435ad4714f5e05016c5b50654adac05c10676d9f5193286c75d6d3b46", func := "chirograph/chirographkeep.KindMore", spec := "kindMore", inPlace := ["math.Float64frombits"], unfollowed := true, recurses := true, named := ["chirograph/expr.forms", "unicode/utf8.first", "unicode/utf8.acceptRanges", "chirograph/lex.signs"], apart := false, laid := [("unicode/utf8.acceptRanges", laid_unicode_utf8_acceptRanges), ("chirograph/lex.signs", laid_chirograph_lex_signs), ("chirograph/expr.forms", laid_chirograph_expr_forms), ("unicode/utf8.first", laid_unicode_utf8_first)], narrowed := true }
def KindMoreUptoSaid : Prop := kindMoreUptoRow.holds Tryd.pinned (OpenSpec.upto kindMoreSpec)

/-- 'chirographkeep.KindStrict', WHERE WHAT IT READS IS OF BULK AT MOST 1048576: true; the input reads as it did. -/
def kindStrictUptoRow : OpenClaim := { program := "ytoleaahnpcbkkaadoor", sum := "7e9de8e435ad4714f5e05016c5b50654adac05c10676d9f5193286c75d6d3b46", func := "chirograph/chirographkeep.KindStrict", spec := "kindStrict", inPlace := ["math.Float64frombits"], unfollowed := true, recurses := true, named := ["chirograph/expr.forms", "unicode/utf8.first", "unicode/utf8.acceptRanges", "chirograph/lex.signs"], apart := false, laid := [("unicode/utf8.acceptRanges", laid_unicode_utf8_acceptRanges), ("chirograph/lex.signs", laid_chirograph_lex_signs), ("chirograph/expr.forms", laid_chirograph_expr_forms), ("unicode/utf8.first", laid_unicode_utf8_first)], narrowed := true }
def KindStrictUptoSaid : Prop := kindStrictUptoRow.holds Tryd.pinned (OpenSpec.upto kindStrictSpec)

end Rows
end Go.Proofs.YtoleaahnpcbkkaaDoor
