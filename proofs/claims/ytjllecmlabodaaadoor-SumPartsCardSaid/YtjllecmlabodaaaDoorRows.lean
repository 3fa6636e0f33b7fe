/-
  NARROWER THAN 'FOR EVERY INPUT', by the rows' own cells (each row's printed sentence says how): SumAdds: laid · SumEnds: laid · SumSums: laid · MacSums: laid · SumParts: laid · SumKnown: laid · OracleDigests: laid · OracleSalts: laid · OpenTells: laid · SaltsApart: laid.
  DERIVED. THE GIVEN ROWS OF THIS SEAT. 10 by the template 'for every input the law returns true; each argument reads behind the call as it read before'; 0 by the template 'total and deterministic' (their statements: YtjllecmlabodaaaDoorTotals.lean).
  GIVEN WITH THE SEED: the statements are not yours to turn. If you find one false, say at which input.
  Laid BY PROGRAM, IN A SANDBOX (cutbox-rows.mjs): the forced cells as the released guide's own fill.sh prints them over the translation 7234e7a0fdf14254… (all of the seat's roots in one cut). By AI agents, Wed Nov 11 2026. No macro, syntax, notation, axiom, sorry.
-/
import Derived.Test.YtjllecmlabodaaaDoorChecked
import GoSem.Claim
import GoSem.ClaimJoined
import GoSem.ClaimMapViews
import Derived.JoinedTies
import Derived.KernelRfl
namespace Go.Proofs.YtjllecmlabodaaaDoor
/- THE CELL 'sum', in the pinned program and in every row, IS THE sha256 OF THE DUMP (.gsa) THAT YtjllecmlabodaaaDoorProg.lean LOADS. Nothing in Lean hashes anything: it is a label: what it is worth is what the hold of that sum in a sandbox is worth. -/
noncomputable def Tryd.pinned : Pinned := { name := "ytjllecmlabodaaadoor", sum := "7234e7a0fdf1425466e86f5b0ece50db684402d888b1f9f6706486c6b26e0e0c", checked := Tryd.checked }
namespace Rows
def none {H : Type} : Left H := { results := [], args := [] }

/- WHAT THE LISTED PACKAGE-LEVEL VARIABLES READ AS WHEN THE CALL BEGINS. Each datum BY PROGRAM (the guide's laid-datum.mjs) off the statement by which the dump's own 'gosem.cut.vars' lays the variable. In a bare row this is a premise. The card (YtjllecmlabodaaaDoorCards.lean) ties it to the program's text. -/
def laid_chirograph_sum_roundWords {H : Type} : DataW H := .agg [.lit (.int .u32 1116352408), .lit (.int .u32 1899447441), .lit (.int .u32 3049323471), .lit (.int .u32 3921009573), .lit (.int .u32 961987163), .lit (.int .u32 1508970993), .lit (.int .u32 2453635748), .lit (.int .u32 2870763221), .lit (.int .u32 3624381080), .lit (.int .u32 310598401), .lit (.int .u32 607225278), .lit (.int .u32 1426881987), .lit (.int .u32 1925078388), .lit (.int .u32 2162078206), .lit (.int .u32 2614888103), .lit (.int .u32 3248222580), .lit (.int .u32 3835390401), .lit (.int .u32 4022224774), .lit (.int .u32 264347078), .lit (.int .u32 604807628), .lit (.int .u32 770255983), .lit (.int .u32 1249150122), .lit (.int .u32 1555081692), .lit (.int .u32 1996064986), .lit (.int .u32 2554220882), .lit (.int .u32 2821834349), .lit (.int .u32 2952996808), .lit (.int .u32 3210313671), .lit (.int .u32 3336571891), .lit (.int .u32 3584528711), .lit (.int .u32 113926993), .lit (.int .u32 338241895), .lit (.int .u32 666307205), .lit (.int .u32 773529912), .lit (.int .u32 1294757372), .lit (.int .u32 1396182291), .lit (.int .u32 1695183700), .lit (.int .u32 1986661051), .lit (.int .u32 2177026350), .lit (.int .u32 2456956037), .lit (.int .u32 2730485921), .lit (.int .u32 2820302411), .lit (.int .u32 3259730800), .lit (.int .u32 3345764771), .lit (.int .u32 3516065817), .lit (.int .u32 3600352804), .lit (.int .u32 4094571909), .lit (.int .u32 275423344), .lit (.int .u32 430227734), .lit (.int .u32 506948616), .lit (.int .u32 659060556), .lit (.int .u32 883997877), .lit (.int .u32 958139571), .lit (.int .u32 1322822218), .lit (.int .u32 1537002063), .lit (.int .u32 1747873779), .lit (.int .u32 1955562222), .lit (.int .u32 2024104815), .lit (.int .u32 2227730452), .lit (.int .u32 2361852424), .lit (.int .u32 2428436474), .lit (.int .u32 2756734187), .lit (.int .u32 3204031479), .lit (.int .u32 3329325298)]

/-- 'chirographlaw.SumAdds': WHATEVER THE INPUT: true; the input reads as it did. -/
def sumAddsSpec : ChangeSpec := { name := "sumAdds", fn := fun _ => fun
  | [d1, d2] => { results := [.lit (.bool true)], args := [d1, d2] }
  | _ => none }
def sumAddsRow : OpenClaim := { program := "ytjllecmlabodaaadoor", sum := "7234e7a0fdf1425466e86f5b0ece50db684402d888b1f9f6706486c6b26e0e0c", func := "chirograph/chirographlaw.SumAdds", spec := "sumAdds", named := ["chirograph/sum.roundWords"], apart := false, laid := [("chirograph/sum.roundWords", laid_chirograph_sum_roundWords)] }
def SumAddsSaid : Prop := sumAddsRow.holds Tryd.pinned (OpenSpec.ofChange sumAddsSpec)

/-- ITS FALSE NEIGHBOUR: 'it returns false'. Refute it at one input. -/
def sumAddsWrong : ChangeSpec := { name := "sumAdds", fn := fun _ => fun
  | [d1, d2] => { results := [.lit (.bool false)], args := [d1, d2] }
  | _ => none }
def SumAddsWrongFalsely : Prop := sumAddsRow.holds Tryd.pinned (OpenSpec.ofChange sumAddsWrong)

/-- 'chirographlaw.SumEnds': WHATEVER THE INPUT: true; the input reads as it did. -/
def sumEndsSpec : ChangeSpec := { name := "sumEnds", fn := fun _ => fun
  | [d] => { results := [.lit (.bool true)], args := [d] }
  | _ => none }
def sumEndsRow : OpenClaim := { program := "ytjllecmlabodaaadoor", sum := "7234e7a0fdf1425466e86f5b0ece50db684402d888b1f9f6706486c6b26e0e0c", func := "chirograph/chirographlaw.SumEnds", spec := "sumEnds", named := ["chirograph/sum.roundWords"], apart := false, laid := [("chirograph/sum.roundWords", laid_chirograph_sum_roundWords)] }
def SumEndsSaid : Prop := sumEndsRow.holds Tryd.pinned (OpenSpec.ofChange sumEndsSpec)

/-- ITS FALSE NEIGHBOUR: 'it returns false'. Refute it at one input. -/
def sumEndsWrong : ChangeSpec := { name := "sumEnds", fn := fun _ => fun
  | [d] => { results := [.lit (.bool false)], args := [d] }
  | _ => none }
def SumEndsWrongFalsely : Prop := sumEndsRow.holds Tryd.pinned (OpenSpec.ofChange sumEndsWrong)

/-- 'chirographlaw.SumSums': WHATEVER THE INPUT: true; the input reads as it did. -/
def sumSumsSpec : ChangeSpec := { name := "sumSums", fn := fun _ => fun
  | [d] => { results := [.lit (.bool true)], args := [d] }
  | _ => none }
def sumSumsRow : OpenClaim := { program := "ytjllecmlabodaaadoor", sum := "7234e7a0fdf1425466e86f5b0ece50db684402d888b1f9f6706486c6b26e0e0c", func := "chirograph/chirographlaw.SumSums", spec := "sumSums", named := ["chirograph/sum.roundWords"], apart := false, laid := [("chirograph/sum.roundWords", laid_chirograph_sum_roundWords)] }
def SumSumsSaid : Prop := sumSumsRow.holds Tryd.pinned (OpenSpec.ofChange sumSumsSpec)

/-- ITS FALSE NEIGHBOUR: 'it returns false'. Refute it at one input. -/
def sumSumsWrong : ChangeSpec := { name := "sumSums", fn := fun _ => fun
  | [d] => { results := [.lit (.bool false)], args := [d] }
  | _ => none }
def SumSumsWrongFalsely : Prop := sumSumsRow.holds Tryd.pinned (OpenSpec.ofChange sumSumsWrong)

/-- 'chirographlaw.MacSums': WHATEVER THE INPUT: true; the input reads as it did. -/
def macSumsSpec : ChangeSpec := { name := "macSums", fn := fun _ => fun
  | [d1, d2] => { results := [.lit (.bool true)], args := [d1, d2] }
  | _ => none }
def macSumsRow : OpenClaim := { program := "ytjllecmlabodaaadoor", sum := "7234e7a0fdf1425466e86f5b0ece50db684402d888b1f9f6706486c6b26e0e0c", func := "chirograph/chirographlaw.MacSums", spec := "macSums", unfollowed := true, recurses := true, named := ["chirograph/sum.roundWords"], apart := false, laid := [("chirograph/sum.roundWords", laid_chirograph_sum_roundWords)] }
def MacSumsSaid : Prop := macSumsRow.holds Tryd.pinned (OpenSpec.ofChange macSumsSpec)

/-- ITS FALSE NEIGHBOUR: 'it returns false'. Refute it at one input. -/
def macSumsWrong : ChangeSpec := { name := "macSums", fn := fun _ => fun
  | [d1, d2] => { results := [.lit (.bool false)], args := [d1, d2] }
  | _ => none }
def MacSumsWrongFalsely : Prop := macSumsRow.holds Tryd.pinned (OpenSpec.ofChange macSumsWrong)

/-- 'chirographkeep.SumParts': WHATEVER THE INPUT: true; the input reads as it did. -/
def sumPartsSpec : ChangeSpec := { name := "sumParts", fn := fun _ => fun
  | [d1, d2, d3] => { results := [.lit (.bool true)], args := [d1, d2, d3] }
  | _ => none }
def sumPartsRow : OpenClaim := { program := "ytjllecmlabodaaadoor", sum := "7234e7a0fdf1425466e86f5b0ece50db684402d888b1f9f6706486c6b26e0e0c", func := "chirograph/chirographkeep.SumParts", spec := "sumParts", named := ["chirograph/sum.roundWords"], apart := false, laid := [("chirograph/sum.roundWords", laid_chirograph_sum_roundWords)] }
def SumPartsSaid : Prop := sumPartsRow.holds Tryd.pinned (OpenSpec.ofChange sumPartsSpec)

/-- ITS FALSE NEIGHBOUR: 'it returns false'. Refute it at one input. -/
def sumPartsWrong : ChangeSpec := { name := "sumParts", fn := fun _ => fun
  | [d1, d2, d3] => { results := [.lit (.bool false)], args := [d1, d2, d3] }
  | _ => none }
def SumPartsWrongFalsely : Prop := sumPartsRow.holds Tryd.pinned (OpenSpec.ofChange sumPartsWrong)

/-- 'chirographkeep.SumKnown': WHATEVER THE INPUT: true; the input reads as it did. -/
def sumKnownSpec : ChangeSpec := { name := "sumKnown", fn := fun _ => fun
  | [d] => { results := [.lit (.bool true)], args := [d] }
  | _ => none }
def sumKnownRow : OpenClaim := { program := "ytjllecmlabodaaadoor", sum := "7234e7a0fdf1425466e86f5b0ece50db684402d888b1f9f6706486c6b26e0e0c", func := "chirograph/chirographkeep.SumKnown", spec := "sumKnown", named := ["chirograph/sum.roundWords"], apart := false, laid := [("chirograph/sum.roundWords", laid_chirograph_sum_roundWords)] }
def SumKnownSaid : Prop := sumKnownRow.holds Tryd.pinned (OpenSpec.ofChange sumKnownSpec)

/-- ITS FALSE NEIGHBOUR: 'it returns false'. Refute it at one input. -/
def sumKnownWrong : ChangeSpec := { name := "sumKnown", fn := fun _ => fun
  | [d] => { results := [.lit (.bool false)], args := [d] }
  | _ => none }
def SumKnownWrongFalsely : Prop := sumKnownRow.holds Tryd.pinned (OpenSpec.ofChange sumKnownWrong)

/-- 'chirographlaw.OracleDigests': WHATEVER THE INPUT: true; the input reads as it did. -/
def oracleDigestsSpec : ChangeSpec := { name := "oracleDigests", fn := fun _ => fun
  | [d1, d2, d3] => { results := [.lit (.bool true)], args := [d1, d2, d3] }
  | _ => none }
def oracleDigestsRow : OpenClaim := { program := "ytjllecmlabodaaadoor", sum := "7234e7a0fdf1425466e86f5b0ece50db684402d888b1f9f6706486c6b26e0e0c", func := "chirograph/chirographlaw.OracleDigests", spec := "oracleDigests", named := ["chirograph/sum.roundWords"], apart := false, laid := [("chirograph/sum.roundWords", laid_chirograph_sum_roundWords)] }
def OracleDigestsSaid : Prop := oracleDigestsRow.holds Tryd.pinned (OpenSpec.ofChange oracleDigestsSpec)

/-- ITS FALSE NEIGHBOUR: 'it returns false'. Refute it at one input. -/
def oracleDigestsWrong : ChangeSpec := { name := "oracleDigests", fn := fun _ => fun
  | [d1, d2, d3] => { results := [.lit (.bool false)], args := [d1, d2, d3] }
  | _ => none }
def OracleDigestsWrongFalsely : Prop := oracleDigestsRow.holds Tryd.pinned (OpenSpec.ofChange oracleDigestsWrong)

/-- 'chirographlaw.OracleSalts': WHATEVER THE INPUT: true; the input reads as it did. -/
def oracleSaltsSpec : ChangeSpec := { name := "oracleSalts", fn := fun _ => fun
  | [d1, d2, d3, d4] => { results := [.lit (.bool true)], args := [d1, d2, d3, d4] }
  | _ => none }
def oracleSaltsRow : OpenClaim := { program := "ytjllecmlabodaaadoor", sum := "7234e7a0fdf1425466e86f5b0ece50db684402d888b1f9f6706486c6b26e0e0c", func := "chirograph/chirographlaw.OracleSalts", spec := "oracleSalts", unfollowed := true, recurses := true, named := ["chirograph/sum.roundWords"], apart := false, laid := [("chirograph/sum.roundWords", laid_chirograph_sum_roundWords)] }
def OracleSaltsSaid : Prop := oracleSaltsRow.holds Tryd.pinned (OpenSpec.ofChange oracleSaltsSpec)

/-- ITS FALSE NEIGHBOUR: 'it returns false'. Refute it at one input. -/
def oracleSaltsWrong : ChangeSpec := { name := "oracleSalts", fn := fun _ => fun
  | [d1, d2, d3, d4] => { results := [.lit (.bool false)], args := [d1, d2, d3, d4] }
  | _ => none }
def OracleSaltsWrongFalsely : Prop := oracleSaltsRow.holds Tryd.pinned (OpenSpec.ofChange oracleSaltsWrong)

/-- 'chirographkeep.OpenTells': WHATEVER THE INPUT: true; the input reads as it did. -/
def openTellsSpec : ChangeSpec := { name := "openTells", fn := fun _ => fun
  | [d1, d2] => { results := [.lit (.bool true)], args := [d1, d2] }
  | _ => none }
def openTellsRow : OpenClaim := { program := "ytjllecmlabodaaadoor", sum := "7234e7a0fdf1425466e86f5b0ece50db684402d888b1f9f6706486c6b26e0e0c", func := "chirograph/chirographkeep.OpenTells", spec := "openTells", named := ["chirograph/sum.roundWords"], apart := false, laid := [("chirograph/sum.roundWords", laid_chirograph_sum_roundWords)] }
def OpenTellsSaid : Prop := openTellsRow.holds Tryd.pinned (OpenSpec.ofChange openTellsSpec)

/-- ITS FALSE NEIGHBOUR: 'it returns false'. Refute it at one input. -/
def openTellsWrong : ChangeSpec := { name := "openTells", fn := fun _ => fun
  | [d1, d2] => { results := [.lit (.bool false)], args := [d1, d2] }
  | _ => none }
def OpenTellsWrongFalsely : Prop := openTellsRow.holds Tryd.pinned (OpenSpec.ofChange openTellsWrong)

/-- 'chirographkeep.SaltsApart': WHATEVER THE INPUT: true; the input reads as it did. -/
def saltsApartSpec : ChangeSpec := { name := "saltsApart", fn := fun _ => fun
  | [d1, d2, d3, d4, d5] => { results := [.lit (.bool true)], args := [d1, d2, d3, d4, d5] }
  | _ => none }
def saltsApartRow : OpenClaim := { program := "ytjllecmlabodaaadoor", sum := "7234e7a0fdf1425466e86f5b0ece50db684402d888b1f9f6706486c6b26e0e0c", func := "chirograph/chirographkeep.SaltsApart", spec := "saltsApart", named := ["chirograph/sum.roundWords"], apart := false, laid := [("chirograph/sum.roundWords", laid_chirograph_sum_roundWords)] }
def SaltsApartSaid : Prop := saltsApartRow.holds Tryd.pinned (OpenSpec.ofChange saltsApartSpec)

/-- ITS FALSE NEIGHBOUR: 'it returns false'. Refute it at one input. -/
def saltsApartWrong : ChangeSpec := { name := "saltsApart", fn := fun _ => fun
  | [d1, d2, d3, d4, d5] => { results := [.lit (.bool false)], args := [d1, d2, d3, d4, d5] }
  | _ => none }
def SaltsApartWrongFalsely : Prop := saltsApartRow.holds Tryd.pinned (OpenSpec.ofChange saltsApartWrong)

/- THE SECOND FORM. 'bulk': how many values and letters a reading holds, each counted each time it is reached (what is shared counts as often as it is met; a slice's spare places count too). A statement '..UptoSaid' is the law's where the arguments, and the package variables that the reading takes, are together of bulk at most 1048576: NARROWER than '..Said'. Prove '..Said' where nothing that the law and all that it calls make is longer than what came in: it says more and counts as full. Else prove '..UptoSaid'. A law counts once. -/
mutual
def uptoBulk {H : Type} : DataW H → Nat
  | .lit (.string bytes) => bytes.length + 1
  | .lit _ => 1
  | .nil => 1
  | .ptr d => uptoBulk d + 1
  | .slice elems spare => uptoBulkAll elems + uptoBulkAll spare + 1
  | .agg parts => uptoBulkAll parts + 1
  | .iface _ d => uptoBulk d + 1
  | .map entries => uptoBulkEntries entries + 1
  | .held _ => 1
def uptoBulkAll {H : Type} : List (DataW H) → Nat
  | [] => 0
  | d :: r => uptoBulk d + uptoBulkAll r
def uptoBulkEntries {H : Type} : List (Lit × DataW H) → Nat
  | [] => 0
  | x :: r => uptoBulkEntry x + uptoBulkEntries r
def uptoBulkEntry {H : Type} : Lit × DataW H → Nat
  | (.string bytes, d) => bytes.length + uptoBulk d + 1
  | (_, d) => uptoBulk d + 1
 end
def uptoSmall : (H : Type) → List (DataW H) → Bool := fun _ ds => decide (uptoBulkAll ds ≤ 1048576)
def OpenSpec.upto (s : _root_.Go.ChangeSpec) : _root_.Go.OpenSpec := { _root_.Go.OpenSpec.ofChange s with cond := some uptoSmall }

/-- 'chirographlaw.SumAdds', WHERE WHAT IT READS IS OF BULK AT MOST 1048576: true; the input reads as it did. -/
def sumAddsUptoRow : OpenClaim := { program := "ytjllecmlabodaaadoor", sum := "7234e7a0fdf1425466e86f5b0ece50db684402d888b1f9f6706486c6b26e0e0c", func := "chirograph/chirographlaw.SumAdds", spec := "sumAdds", named := ["chirograph/sum.roundWords"], apart := false, laid := [("chirograph/sum.roundWords", laid_chirograph_sum_roundWords)], narrowed := true }
def SumAddsUptoSaid : Prop := sumAddsUptoRow.holds Tryd.pinned (OpenSpec.upto sumAddsSpec)

/-- 'chirographlaw.SumEnds', WHERE WHAT IT READS IS OF BULK AT MOST 1048576: true; the input reads as it did. -/
def sumEndsUptoRow : OpenClaim := { program := "ytjllecmlabodaaadoor", sum := "7234e7a0fdf1425466e86f5b0ece50db684402d888b1f9f6706486c6b26e0e0c", func := "chirograph/chirographlaw.SumEnds", spec := "sumEnds", named := ["chirograph/sum.roundWords"], apart := false, laid := [("chirograph/sum.roundWords", laid_chirograph_sum_roundWords)], narrowed := true }
def SumEndsUptoSaid : Prop := sumEndsUptoRow.holds Tryd.pinned (OpenSpec.upto sumEndsSpec)

/-- 'chirographlaw.SumSums', WHERE WHAT IT READS IS OF BULK AT MOST 1048576: true; the input reads as it did. -/
def sumSumsUptoRow : OpenClaim := { program := "ytjllecmlabodaaadoor", sum := "7234e7a0fdf1425466e86f5b0ece50db684402d888b1f9f6706486c6b26e0e0c", func := "chirograph/chirographlaw.SumSums", spec := "sumSums", named := ["chirograph/sum.roundWords"], apart := false, laid := [("chirograph/sum.roundWords", laid_chirograph_sum_roundWords)], narrowed := true }
def SumSumsUptoSaid : Prop := sumSumsUptoRow.holds Tryd.pinned (OpenSpec.upto sumSumsSpec)

/-- 'chirographlaw.MacSums', WHERE WHAT IT READS IS OF BULK AT MOST 1048576: true; the input reads as it did. -/
def macSumsUptoRow : OpenClaim := { program := "ytjllecmlabodaaadoor", sum := "7234e7a0fdf1425466e86f5b0ece50db684402d888b1f9f6706486c6b26e0e0c", func := "chirograph/chirographlaw.MacSums", spec := "macSums", unfollowed := true, recurses := true, named := ["chirograph/sum.roundWords"], apart := false, laid := [("chirograph/sum.roundWords", laid_chirograph_sum_roundWords)], narrowed := true }
def MacSumsUptoSaid : Prop := macSumsUptoRow.holds Tryd.pinned (OpenSpec.upto macSumsSpec)

/-- 'chirographkeep.SumParts', WHERE WHAT IT READS IS OF BULK AT MOST 1048576: true; the input reads as it did. -/
def sumPartsUptoRow : OpenClaim := { program := "ytjllecmlabodaaadoor", sum := "7234e7a0fdf1425466e86f5b0ece50db684402d888b1f9f6706486c6b26e0e0c", func := "chirograph/chirographkeep.SumParts", spec := "sumParts", named := ["chirograph/sum.roundWords"], apart := false, laid := [("chirograph/sum.roundWords", laid_chirograph_sum_roundWords)], narrowed := true }
def SumPartsUptoSaid : Prop := sumPartsUptoRow.holds Tryd.pinned (OpenSpec.upto sumPartsSpec)

/-- 'chirographkeep.SumKnown', WHERE WHAT IT READS IS OF BULK AT MOST 1048576: true; the input reads as it did. -/
def sumKnownUptoRow : OpenClaim := { program := "ytjllecmlabodaaadoor", sum := "7234e7a0fdf1425466e86f5b0ece50db684402d888b1f9f6706486c6b26e0e0c", func := "chirograph/chirographkeep.SumKnown", spec := "sumKnown", named := ["chirograph/sum.roundWords"], apart := false, laid := [("chirograph/sum.roundWords", laid_chirograph_sum_roundWords)], narrowed := true }
def SumKnownUptoSaid : Prop := sumKnownUptoRow.holds Tryd.pinned (OpenSpec.upto sumKnownSpec)

/-- 'chirographlaw.OracleDigests', WHERE WHAT IT READS IS OF BULK AT MOST 1048576: true; the input reads as it did. -/
def oracleDigestsUptoRow : OpenClaim := { program := "ytjllecmlabodaaadoor", sum := "7234e7a0fdf1425466e86f5b0ece50db684402d888b1f9f6706486c6b26e0e0c", func := "chirograph/chirographlaw.OracleDigests", spec := "oracleDigests", named := ["chirograph/sum.roundWords"], apart := false, laid := [("chirograph/sum.roundWords", laid_chirograph_sum_roundWords)], narrowed := true }
def OracleDigestsUptoSaid : Prop := oracleDigestsUptoRow.holds Tryd.pinned (OpenSpec.upto oracleDigestsSpec)

/-- 'chirographlaw.OracleSalts', WHERE WHAT IT READS IS OF BULK AT MOST 1048576: true; the input reads as it did. -/
def oracleSaltsUptoRow : OpenClaim := { program := "ytjllecmlabodaaadoor", sum := "7234e7a0fdf1425466e86f5b0ece50db684402d888b1f9f6706486c6b26e0e0c", func := "chirograph/chirographlaw.OracleSalts", spec := "oracleSalts", unfollowed := true, recurses := true, named := ["chirograph/sum.roundWords"], apart := false, laid := [("chirograph/sum.roundWords", laid_chirograph_sum_roundWords)], narrowed := true }
def OracleSaltsUptoSaid : Prop := oracleSaltsUptoRow.holds Tryd.pinned (OpenSpec.upto oracleSaltsSpec)

/-- 'chirographkeep.OpenTells', WHERE WHAT IT READS IS OF BULK AT MOST 1048576: true; the input reads as it did. -/
def openTellsUptoRow : OpenClaim := { program := "ytjllecmlabodaaadoor", sum := "7234e7a0fdf1425466e86f5b0ece50db684402d888b1f9f6706486c6b26e0e0c", func := "chirograph/chirographkeep.OpenTells", spec := "openTells", named := ["chirograph/sum.roundWords"], apart := false, laid := [("chirograph/sum.roundWords", laid_chirograph_sum_roundWords)], narrowed := true }
def OpenTellsUptoSaid : Prop := openTellsUptoRow.holds Tryd.pinned (OpenSpec.upto openTellsSpec)

/-- 'chirographkeep.SaltsApart', WHERE WHAT IT READS IS OF BULK AT MOST 1048576: true; the input reads as it did. -/
def saltsApartUptoRow : OpenClaim := { program := "ytjllecmlabodaaadoor", sum := "7234e7a0fdf1425466e86f5b0ece50db684402d888b1f9f6706486c6b26e0e0c", func := "chirograph/chirographkeep.SaltsApart", spec := "saltsApart", named := ["chirograph/sum.roundWords"], apart := false, laid := [("chirograph/sum.roundWords", laid_chirograph_sum_roundWords)], narrowed := true }
def SaltsApartUptoSaid : Prop := saltsApartUptoRow.holds Tryd.pinned (OpenSpec.upto saltsApartSpec)

end Rows
end Go.Proofs.YtjllecmlabodaaaDoor
