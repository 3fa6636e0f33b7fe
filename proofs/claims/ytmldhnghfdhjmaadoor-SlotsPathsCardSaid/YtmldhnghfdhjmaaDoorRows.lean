/-
  NARROWER THAN 'FOR EVERY INPUT', by the rows' own cells (each row's printed sentence says how): OracleDigests: laid · OracleSalts: laid · OpenTells: laid · SaltsApart: laid · SlotsLeaves: laid · SlotsRoots: laid · SlotsPaths: laid.
  DERIVED. THE GIVEN ROWS OF THIS SEAT. 7 by the template 'for every input the law returns true; each argument reads behind the call as it read before'; 0 by the template 'total and deterministic' (their statements: YtmldhnghfdhjmaaDoorTotals.lean).
  GIVEN WITH THE SEED: the statements are not yours to turn. If you find one false, say at which input.
  Laid BY PROGRAM, IN A SANDBOX (cutbox-rows.mjs): the forced cells as the released guide's own fill.sh prints them over the translation 91bb856ef3a4cbe1… (all of the seat's roots in one cut). By AI agents, Wed Nov 11 2026. No macro, syntax, notation, axiom, sorry.
-/
import Derived.Test.YtmldhnghfdhjmaaDoorChecked
import GoSem.Claim
import GoSem.ClaimJoined
import GoSem.ClaimMapViews
import Derived.JoinedTies
import Derived.KernelRfl
namespace Go.Proofs.YtmldhnghfdhjmaaDoor
/- THE CELL 'sum', in the pinned program and in every row, IS THE sha256 OF THE DUMP (.gsa) THAT YtmldhnghfdhjmaaDoorProg.lean LOADS. Nothing in Lean hashes anything: it is a label: what it is worth is what the hold of that sum in a sandbox is worth. -/
noncomputable def Tryd.pinned : Pinned := { name := "ytmldhnghfdhjmaadoor", sum := "91bb856ef3a4cbe176342b4275be9b6d40621df9b73b5d65979725c3f19924a9", checked := Tryd.checked }
namespace Rows
def none {H : Type} : Left H := { results := [], args := [] }

/- WHAT THE LISTED PACKAGE-LEVEL VARIABLES READ AS WHEN THE CALL BEGINS. Each datum BY PROGRAM (the guide's laid-datum.mjs) off the statement by which the dump's own 'gosem.cut.vars' lays the variable. In a bare row this is a premise. The card (YtmldhnghfdhjmaaDoorCards.lean) ties it to the program's text. -/
def laid_chirograph_sum_roundWords {H : Type} : DataW H := .agg [.lit (.int .u32 1116352408), .lit (.int .u32 1899447441), .lit (.int .u32 3049323471), .lit (.int .u32 3921009573), .lit (.int .u32 961987163), .lit (.int .u32 1508970993), .lit (.int .u32 2453635748), .lit (.int .u32 2870763221), .lit (.int .u32 3624381080), .lit (.int .u32 310598401), .lit (.int .u32 607225278), .lit (.int .u32 1426881987), .lit (.int .u32 1925078388), .lit (.int .u32 2162078206), .lit (.int .u32 2614888103), .lit (.int .u32 3248222580), .lit (.int .u32 3835390401), .lit (.int .u32 4022224774), .lit (.int .u32 264347078), .lit (.int .u32 604807628), .lit (.int .u32 770255983), .lit (.int .u32 1249150122), .lit (.int .u32 1555081692), .lit (.int .u32 1996064986), .lit (.int .u32 2554220882), .lit (.int .u32 2821834349), .lit (.int .u32 2952996808), .lit (.int .u32 3210313671), .lit (.int .u32 3336571891), .lit (.int .u32 3584528711), .lit (.int .u32 113926993), .lit (.int .u32 338241895), .lit (.int .u32 666307205), .lit (.int .u32 773529912), .lit (.int .u32 1294757372), .lit (.int .u32 1396182291), .lit (.int .u32 1695183700), .lit (.int .u32 1986661051), .lit (.int .u32 2177026350), .lit (.int .u32 2456956037), .lit (.int .u32 2730485921), .lit (.int .u32 2820302411), .lit (.int .u32 3259730800), .lit (.int .u32 3345764771), .lit (.int .u32 3516065817), .lit (.int .u32 3600352804), .lit (.int .u32 4094571909), .lit (.int .u32 275423344), .lit (.int .u32 430227734), .lit (.int .u32 506948616), .lit (.int .u32 659060556), .lit (.int .u32 883997877), .lit (.int .u32 958139571), .lit (.int .u32 1322822218), .lit (.int .u32 1537002063), .lit (.int .u32 1747873779), .lit (.int .u32 1955562222), .lit (.int .u32 2024104815), .lit (.int .u32 2227730452), .lit (.int .u32 2361852424), .lit (.int .u32 2428436474), .lit (.int .u32 2756734187), .lit (.int .u32 3204031479), .lit (.int .u32 3329325298)]

/-- 'chirographlaw.OracleDigests': WHATEVER THE INPUT: true; the input reads as it did. -/
def oracleDigestsSpec : ChangeSpec := { name := "oracleDigests", fn := fun _ => fun
  | [d1, d2, d3] => { results := [.lit (.bool true)], args := [d1, d2, d3] }
  | _ => none }
def oracleDigestsRow : OpenClaim := { program := "ytmldhnghfdhjmaadoor", sum := "91bb856ef3a4cbe176342b4275be9b6d40621df9b73b5d65979725c3f19924a9", func := "chirograph/chirographlaw.OracleDigests", spec := "oracleDigests", named := ["chirograph/sum.roundWords"], apart := false, laid := [("chirograph/sum.roundWords", laid_chirograph_sum_roundWords)] }
def OracleDigestsSaid : Prop := oracleDigestsRow.holds Tryd.pinned (OpenSpec.ofChange oracleDigestsSpec)

/-- ITS FALSE NEIGHBOUR: 'it returns false'. Refute it at one input. -/
def oracleDigestsWrong : ChangeSpec := { name := "oracleDigests", fn := fun _ => fun
  | [d1, d2, d3] => { results := [.lit (.bool false)], args := [d1, d2, d3] }
  | _ => none }
def OracleDigestsWrongFalsely : Prop := oracleDigestsRow.holds Tryd.pinned (OpenSpec.ofChange oracleDigestsWrong)

/-- 'chirographlaw.OracleSalts': WHATEVER THE INPUT: true; the input reads as it did. -/
def oracleSaltsSpec : ChangeSpec := { name := "oracleSalts", fn := fun _ => fun
  | [d1, d2, d3, d4] => { results := [.lit (.bool true)], args := [d1, d2, d3, d4] }
  | _ => none }
def oracleSaltsRow : OpenClaim := { program := "ytmldhnghfdhjmaadoor", sum := "91bb856ef3a4cbe176342b4275be9b6d40621df9b73b5d65979725c3f19924a9", func := "chirograph/chirographlaw.OracleSalts", spec := "oracleSalts", unfollowed := true, recurses := true, named := ["chirograph/sum.roundWords"], apart := false, laid := [("chirograph/sum.roundWords", laid_chirograph_sum_roundWords)] }
def OracleSaltsSaid : Prop := oracleSaltsRow.holds Tryd.pinned (OpenSpec.ofChange oracleSaltsSpec)

/-- ITS FALSE NEIGHBOUR: 'it returns false'. Refute it at one input. -/
def oracleSaltsWrong : ChangeSpec := { name := "oracleSalts", fn := fun _ => fun
  | [d1, d2, d3, d4] => { results := [.lit (.bool false)], args := [d1, d2, d3, d4] }
  | _ => none }
def OracleSaltsWrongFalsely : Prop := oracleSaltsRow.holds Tryd.pinned (OpenSpec.ofChange oracleSaltsWrong)

/-- 'chirographkeep.OpenTells': WHATEVER THE INPUT: true; the input reads as it did. -/
def openTellsSpec : ChangeSpec := { name := "openTells", fn := fun _ => fun
  | [d1, d2] => { results := [.lit (.bool true)], args := [d1, d2] }
  | _ => none }
def openTellsRow : OpenClaim := { program := "ytmldhnghfdhjmaadoor", sum := "91bb856ef3a4cbe176342b4275be9b6d40621df9b73b5d65979725c3f19924a9", func := "chirograph/chirographkeep.OpenTells", spec := "openTells", named := ["chirograph/sum.roundWords"], apart := false, laid := [("chirograph/sum.roundWords", laid_chirograph_sum_roundWords)] }
def OpenTellsSaid : Prop := openTellsRow.holds Tryd.pinned (OpenSpec.ofChange openTellsSpec)

/-- ITS FALSE NEIGHBOUR: 'it returns false'. Refute it at one input. -/
def openTellsWrong : ChangeSpec := { name := "openTells", fn := fun _ => fun
  | [d1, d2] => { results := [.lit (.bool false)], args := [d1, d2] }
  | _ => none }
def OpenTellsWrongFalsely : Prop := openTellsRow.holds Tryd.pinned (OpenSpec.ofChange openTellsWrong)

/-- 'chirographkeep.SaltsApart': WHATEVER THE INPUT: true; the input reads as it did. -/
def saltsApartSpec : ChangeSpec := { name := "saltsApart", fn := fun _ => fun
  | [d1, d2, d3, d4, d5] => { results := [.lit (.bool true)], args := [d1, d2, d3, d4, d5] }
  | _ => none }
def saltsApartRow : OpenClaim := { program := "ytmldhnghfdhjmaadoor", sum := "91bb856ef3a4cbe176342b4275be9b6d40621df9b73b5d65979725c3f19924a9", func := "chirograph/chirographkeep.SaltsApart", spec := "saltsApart", named := ["chirograph/sum.roundWords"], apart := false, laid := [("chirograph/sum.roundWords", laid_chirograph_sum_roundWords)] }
def SaltsApartSaid : Prop := saltsApartRow.holds Tryd.pinned (OpenSpec.ofChange saltsApartSpec)

/-- ITS FALSE NEIGHBOUR: 'it returns false'. Refute it at one input. -/
def saltsApartWrong : ChangeSpec := { name := "saltsApart", fn := fun _ => fun
  | [d1, d2, d3, d4, d5] => { results := [.lit (.bool false)], args := [d1, d2, d3, d4, d5] }
  | _ => none }
def SaltsApartWrongFalsely : Prop := saltsApartRow.holds Tryd.pinned (OpenSpec.ofChange saltsApartWrong)

/-- 'chirographlaw.SlotsLeaves': WHATEVER THE INPUT: true; the input reads as it did. -/
def slotsLeavesSpec : ChangeSpec := { name := "slotsLeaves", fn := fun _ => fun
  | [d1, d2] => { results := [.lit (.bool true)], args := [d1, d2] }
  | _ => none }
def slotsLeavesRow : OpenClaim := { program := "ytmldhnghfdhjmaadoor", sum := "91bb856ef3a4cbe176342b4275be9b6d40621df9b73b5d65979725c3f19924a9", func := "chirograph/chirographlaw.SlotsLeaves", spec := "slotsLeaves", named := ["chirograph/sum.roundWords"], apart := false, laid := [("chirograph/sum.roundWords", laid_chirograph_sum_roundWords)] }
def SlotsLeavesSaid : Prop := slotsLeavesRow.holds Tryd.pinned (OpenSpec.ofChange slotsLeavesSpec)

/-- ITS FALSE NEIGHBOUR: 'it returns false'. Refute it at one input. -/
def slotsLeavesWrong : ChangeSpec := { name := "slotsLeaves", fn := fun _ => fun
  | [d1, d2] => { results := [.lit (.bool false)], args := [d1, d2] }
  | _ => none }
def SlotsLeavesWrongFalsely : Prop := slotsLeavesRow.holds Tryd.pinned (OpenSpec.ofChange slotsLeavesWrong)

/-- 'chirographlaw.SlotsRoots': WHATEVER THE INPUT: true; the input reads as it did. -/
def slotsRootsSpec : ChangeSpec := { name := "slotsRoots", fn := fun _ => fun
  | [d1, d2] => { results := [.lit (.bool true)], args := [d1, d2] }
  | _ => none }
def slotsRootsRow : OpenClaim := { program := "ytmldhnghfdhjmaadoor", sum := "91bb856ef3a4cbe176342b4275be9b6d40621df9b73b5d65979725c3f19924a9", func := "chirograph/chirographlaw.SlotsRoots", spec := "slotsRoots", recurses := true, named := ["chirograph/sum.roundWords"], apart := false, laid := [("chirograph/sum.roundWords", laid_chirograph_sum_roundWords)] }
def SlotsRootsSaid : Prop := slotsRootsRow.holds Tryd.pinned (OpenSpec.ofChange slotsRootsSpec)

/-- ITS FALSE NEIGHBOUR: 'it returns false'. Refute it at one input. -/
def slotsRootsWrong : ChangeSpec := { name := "slotsRoots", fn := fun _ => fun
  | [d1, d2] => { results := [.lit (.bool false)], args := [d1, d2] }
  | _ => none }
def SlotsRootsWrongFalsely : Prop := slotsRootsRow.holds Tryd.pinned (OpenSpec.ofChange slotsRootsWrong)

/-- 'chirographlaw.SlotsPaths': WHATEVER THE INPUT: true; the input reads as it did. -/
def slotsPathsSpec : ChangeSpec := { name := "slotsPaths", fn := fun _ => fun
  | [d1, d2, d3] => { results := [.lit (.bool true)], args := [d1, d2, d3] }
  | _ => none }
def slotsPathsRow : OpenClaim := { program := "ytmldhnghfdhjmaadoor", sum := "91bb856ef3a4cbe176342b4275be9b6d40621df9b73b5d65979725c3f19924a9", func := "chirograph/chirographlaw.SlotsPaths", spec := "slotsPaths", recurses := true, named := ["chirograph/sum.roundWords"], apart := false, laid := [("chirograph/sum.roundWords", laid_chirograph_sum_roundWords)] }
def SlotsPathsSaid : Prop := slotsPathsRow.holds Tryd.pinned (OpenSpec.ofChange slotsPathsSpec)

/-- ITS FALSE NEIGHBOUR: 'it returns false'. Refute it at one input. -/
def slotsPathsWrong : ChangeSpec := { name := "slotsPaths", fn := fun _ => fun
  | [d1, d2, d3] => { results := [.lit (.bool false)], args := [d1, d2, d3] }
  | _ => none }
def SlotsPathsWrongFalsely : Prop := slotsPathsRow.holds Tryd.pinned (OpenSpec.ofChange slotsPathsWrong)

/- THE SECOND FORM. 'bulk': how many values and letters a reading holds, each counted each time it is reached (what is shared counts as often as it is met; a slice's spare places count too). A statement '..UptoSaid' is the law's where the arguments, and the package variables that the reading takes, are together of bulk at most 1048576: NARROWER than '..Said'. Prove '..Said' where nothing that the law and all that it calls make is longer than what came in: it says more and counts as full. Else prove '..UptoSaid'. A law counts once. -/
mutual
def uptoBulk {H : Type} : DataW H → Nat
  | .lit (.string bytes) => bytes.length + 1
  | .lit _ => 1
  | .nil => 1
  | .ptr d => uptoBulk d + 1
  | .slice elems spare => uptoBulkAll elems + uptoBulkAll spare + 1
  | .agg parts => uptoBulkAll parts + 1
  | .iface _ d => uptoBulk d + 1
  | .map entries => uptoBulkEntries entries + 1
  | .held _ => 1
def uptoBulkAll {H : Type} : List (DataW H) → Nat
  | [] => 0
  | d :: r => uptoBulk d + uptoBulkAll r
def uptoBulkEntries {H : Type} : List (Lit × DataW H) → Nat
  | [] => 0
  | x :: r => uptoBulkEntry x + uptoBulkEntries r
def uptoBulkEntry {H : Type} : Lit × DataW H → Nat
  | (.string bytes, d) => bytes.length + uptoBulk d + 1
  | (_, d) => uptoBulk d + 1
 end
def uptoSmall : (H : Type) → List (DataW H) → Bool := fun _ ds => decide (uptoBulkAll ds ≤ 1048576)
def OpenSpec.upto (s : _root_.Go.ChangeSpec) : _root_.Go.OpenSpec := { _root_.Go.OpenSpec.ofChange s with cond := some uptoSmall }

/-- 'chirographlaw.OracleDigests', WHERE WHAT IT READS IS OF BULK AT MOST 1048576: true; the input reads as it did. -/
def oracleDigestsUptoRow : OpenClaim := { program := "ytmldhnghfdhjmaadoor", sum := "91bb856ef3a4cbe176342b4275be9b6d40621df9b73b5d65979725c3f19924a9", func := "chirograph/chirographlaw.OracleDigests", spec := "oracleDigests", named := ["chirograph/sum.roundWords"], apart := false, laid := [("chirograph/sum.roundWords", laid_chirograph_sum_roundWords)], narrowed := true }
def OracleDigestsUptoSaid : Prop := oracleDigestsUptoRow.holds Tryd.pinned (OpenSpec.upto oracleDigestsSpec)

/-- 'chirographlaw.OracleSalts', WHERE WHAT IT READS IS OF BULK AT MOST 1048576: true; the input reads as it did. -/
def oracleSaltsUptoRow : OpenClaim := { program := "ytmldhnghfdhjmaadoor", sum := "91bb856ef3a4cbe176342b4275be9b6d40621df9b73b5d65979725c3f19924a9", func := "chirograph/chirographlaw.OracleSalts", spec := "oracleSalts", unfollowed := true, recurses := true, named := ["chirograph/sum.roundWords"], apart := false, laid := [("chirograph/sum.roundWords", laid_chirograph_sum_roundWords)], narrowed := true }
def OracleSaltsUptoSaid : Prop := oracleSaltsUptoRow.holds Tryd.pinned (OpenSpec.upto oracleSaltsSpec)

/-- 'chirographkeep.OpenTells', WHERE WHAT IT READS IS OF BULK AT MOST 1048576: true; the input reads as it did. -/
def openTellsUptoRow : OpenClaim := { program := "ytmldhnghfdhjmaadoor", sum := "91bb856ef3a4cbe176342b4275be9b6d40621df9b73b5d65979725c3f19924a9", func := "chirograph/chirographkeep.OpenTells", spec := "openTells", named := ["chirograph/sum.roundWords"], apart := false, laid := [("chirograph/sum.roundWords", laid_chirograph_sum_roundWords)], narrowed := true }
def OpenTellsUptoSaid : Prop := openTellsUptoRow.holds Tryd.pinned (OpenSpec.upto openTellsSpec)

/-- 'chirographkeep.SaltsApart', WHERE WHAT IT READS IS OF BULK AT MOST 1048576: true; the input reads as it did. -/
def saltsApartUptoRow : OpenClaim := { program := "ytmldhnghfdhjmaadoor", sum := "91bb856ef3a4cbe176342b4275be9b6d40621df9b73b5d65979725c3f19924a9", func := "chirograph/chirographkeep.SaltsApart", spec := "saltsApart", named := ["chirograph/sum.roundWords"], apart := false, laid := [("chirograph/sum.roundWords", laid_chirograph_sum_roundWords)], narrowed := true }
def SaltsApartUptoSaid : Prop := saltsApartUptoRow.holds Tryd.pinned (OpenSpec.upto saltsApartSpec)

/-- 'chirographlaw.SlotsLeaves', WHERE WHAT IT READS IS OF BULK AT MOST 1048576: true; the input reads as it did. -/
def slotsLeavesUptoRow : OpenClaim := { program := "ytmldhnghfdhjmaadoor", sum := "91bb856ef3a4cbe176342b4275be9b6d40621df9b73b5d65979725c3f19924a9", func := "chirograph/chirographlaw.SlotsLeaves", spec := "slotsLeaves", named := ["chirograph/sum.roundWords"], apart := false, laid := [("chirograph/sum.roundWords", laid_chirograph_sum_roundWords)], narrowed := true }
def SlotsLeavesUptoSaid : Prop := slotsLeavesUptoRow.holds Tryd.pinned (OpenSpec.upto slotsLeavesSpec)

/-- 'chirographlaw.SlotsRoots', WHERE WHAT IT READS IS OF BULK AT MOST 1048576: true; the input reads as it did. -/
def slotsRootsUptoRow : OpenClaim := { program := "ytmldhnghfdhjmaadoor", sum := "91bb856ef3a4cbe176342b4275be9b6d40621df9b73b5d65979725c3f19924a9", func := "chirograph/chirographlaw.SlotsRoots", spec := "slotsRoots", recurses := true, named := ["chirograph/sum.roundWords"], apart := false, laid := [("chirograph/sum.roundWords", laid_chirograph_sum_roundWords)], narrowed := true }
def SlotsRootsUptoSaid : Prop := slotsRootsUptoRow.holds Tryd.pinned (OpenSpec.upto slotsRootsSpec)

/-- 'chirographlaw.SlotsPaths', WHERE WHAT IT READS IS OF BULK AT MOST 1048576: true; the input reads as it did. -/
def slotsPathsUptoRow : OpenClaim := { program := "ytmldhnghfdhjmaadoor", sum := "91bb856ef3a4cbe176342b4275be9b6d40621df9b73b5d65979725c3f19924a9", func := "chirograph/chirographlaw.SlotsPaths", spec := "slotsPaths", recurses := true, named := ["chirograph/sum.roundWords"], apart := false, laid := [("chirograph/sum.roundWords", laid_chirograph_sum_roundWords)], narrowed := true }
def SlotsPathsUptoSaid : Prop := slotsPathsUptoRow.holds Tryd.pinned (OpenSpec.upto slotsPathsSpec)

end Rows
end Go.Proofs.YtmldhnghfdhjmaaDoor
