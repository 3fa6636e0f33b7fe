/-
  CONTRACTS of package lex's shown: a number, a quote, any other token but a real.
  CONDITIONS: each theorem's own hypotheses; internal/strconv's uint64pow10 holds its powers ('PW').
-/
import Derived.Test.YtlhoakpijfhljaaDoorShowQ
import Derived.Lib.AppendIntMem
import Derived.Lib.QuietBelow
namespace Go.Proofs.YtlhoakpijfhljaaDoor
open Go.RowKit
set_option linter.unusedVariables false
set_option maxRecDepth 100000

/-- What a token is shown as. -/
def shownT (hex : Int → List UInt8) (k : Int) (s : List UInt8) (i b : Int) : List UInt8 := if k = 3 then Lib.itoa i else if k = 4 then 39 :: bodyQ s ++ [39] else if k = 5 then hex b else s
def PW (w : World) : Prop := Lib.TabIs Tryd.prog w "internal/strconv.uint64pow10" .u64 Lib.pow10Tab
theorem itoa_any (n : Int) (w : World) (h0 : -9223372036854775808 ≤ n) (h1 : n ≤ 9223372036854775807) (hP : PW w) :
    Calls Tryd.prog 19 #[.int .i64 n] w fun e w' => e = .returned (.string (str (Lib.itoa n))) ∧ Below w.heap.size w w' := by
  refine (Any.strconv_Itoa Tryd.laysIt n h0 h1 w hP).mono ?_
  rintro e w' ⟨rfl, k, os, rfl⟩
  exact ⟨rfl, Lib.below_grow _ w (Nat.le_refl _) k os⟩
theorem shown_num (s : ByteArray) (i b : Int) (w : World) (h0 : -9223372036854775808 ≤ i) (h1 : i ≤ 9223372036854775807) (hP : ∀ W, Below w.heap.size w W → PW W) :
    Calls Tryd.prog 9 #[.agg #[.int .i64 3, .string s, .int .i64 i, .int .u64 b]] w fun e w' => e = .returned (.string (str (Lib.itoa i))) ∧ Below w.heap.size w w' := by
  obtain ⟨w2, hw2⟩ : ∃ w2, w.alloc (.cells #[.int .i64 3, .string s, .int .i64 i, .int .u64 b] 33) = w2 := ⟨_, rfl⟩
  have hb2 : Below w.heap.size w w2 := by rw [← hw2]; exact (Below.refl _ _).alloc (Nat.le_refl _) _
  have z2 : Blk w2 w.heap.size 33 [.int .i64 3, .string s, .int .i64 i, .int .u64 b] := by rw [← hw2]; exact Blk.new w #[.int .i64 3, .string s, .int .i64 i, .int .u64 b] _
  have c0 := z2.cell (j := 0) rfl
  have c1 := z2.cell (j := 1) rfl
  have c2 := z2.cell (j := 2) rfl
  have c3 := z2.cell (j := 3) rfl
  have cI := itoa_any i w2 h0 h1 (hP w2 hb2)
  generalize str (Lib.itoa i) = O at *
  clear hP
  go_enter Tryd.func9, Tryd.ntmps9
  go_upto_region 1 with fail
  try rw [hw2]
  clear hw2
  go_wp2_with fail
  refine cI.mono ?_
  rintro e w3 ⟨rfl, hb3⟩
  have hbb := below_stepL hb2 hb2.size hb3
  clear cI
  go_wp2_with fail
  go_ret
  exact ⟨by first | rfl | trivial, hbb⟩
theorem shown_quote (l : List UInt8) (i b : Int) (w : World) (hl : l.length ≤ 1000) (hv : Lib.validD l = true) :
    Calls Tryd.prog 9 #[.agg #[.int .i64 4, .string (str l), .int .i64 i, .int .u64 b]] w fun e w' => e = .returned (.string (str (39 :: bodyQ l ++ [39]))) ∧ Below w.heap.size w w' := by
  have cQ := fun W => quotedShow_any l W hl hv
  generalize str (39 :: bodyQ l ++ [39]) = O at *
  generalize str l = s at *
  obtain ⟨w2, hw2⟩ : ∃ w2, w.alloc (.cells #[.int .i64 4, .string s, .int .i64 i, .int .u64 b] 33) = w2 := ⟨_, rfl⟩
  have hb2 : Below w.heap.size w w2 := by rw [← hw2]; exact (Below.refl _ _).alloc (Nat.le_refl _) _
  have z2 : Blk w2 w.heap.size 33 [.int .i64 4, .string s, .int .i64 i, .int .u64 b] := by rw [← hw2]; exact Blk.new w #[.int .i64 4, .string s, .int .i64 i, .int .u64 b] _
  have c0 := z2.cell (j := 0) rfl
  have c1 := z2.cell (j := 1) rfl
  have c2 := z2.cell (j := 2) rfl
  have c3 := z2.cell (j := 3) rfl
  clear hl hv
  go_enter Tryd.func9, Tryd.ntmps9
  go_upto_region 1 with fail
  try rw [hw2]
  clear hw2
  go_wp2_with fail
  refine (cQ _).mono ?_
  rintro e w3 ⟨rfl, hb3⟩
  have hbb := below_stepL hb2 hb2.size hb3
  clear cQ
  go_wp2_with fail
  go_ret
  exact ⟨by first | rfl | trivial, hbb⟩
theorem shown_text (k : Int) (s : ByteArray) (i b : Int) (w : World) (h3 : (k == 3) = false) (h4 : (k == 4) = false) (h5 : (k == 5) = false) :
    Calls Tryd.prog 9 #[.agg #[.int .i64 k, .string s, .int .i64 i, .int .u64 b]] w fun e w' => e = .returned (.string s) ∧ Below w.heap.size w w' := by
  obtain ⟨w2, hw2⟩ : ∃ w2, w.alloc (.cells #[.int .i64 k, .string s, .int .i64 i, .int .u64 b] 33) = w2 := ⟨_, rfl⟩
  have hb2 : Below w.heap.size w w2 := by rw [← hw2]; exact (Below.refl _ _).alloc (Nat.le_refl _) _
  have z2 : Blk w2 w.heap.size 33 [.int .i64 k, .string s, .int .i64 i, .int .u64 b] := by rw [← hw2]; exact Blk.new w #[.int .i64 k, .string s, .int .i64 i, .int .u64 b] _
  have c0 := z2.cell (j := 0) rfl
  have c1 := z2.cell (j := 1) rfl
  have c2 := z2.cell (j := 2) rfl
  have c3 := z2.cell (j := 3) rfl
  go_enter Tryd.func9, Tryd.ntmps9
  go_upto_region 1 with fail
  try rw [hw2]
  clear hw2
  go_wp2_with fail
  go_ret
  exact ⟨by first | rfl | trivial, hb2⟩
end Go.Proofs.YtlhoakpijfhljaaDoor
