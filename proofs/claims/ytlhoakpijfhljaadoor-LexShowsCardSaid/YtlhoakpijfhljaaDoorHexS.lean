/-
  CONTRACTS of strconv.FormatUint at base 16 and package lex's hex and shown.
  CONDITIONS: each theorem's own hypotheses; math/bits's deBruijn64tab holds 4 at 15 ('DB'); internal/strconv's uint64pow10 holds its powers ('PW').
-/
import Derived.Test.YtlhoakpijfhljaaDoorHexB
import Derived.Test.YtlhoakpijfhljaaDoorShowS
namespace Go.Proofs.YtlhoakpijfhljaaDoor
open Go.RowKit
set_option linter.unusedVariables false
set_option maxRecDepth 100000

theorem fmtUint_in (u : Nat) (w : World) (hu : u < 18446744073709551616) (hD : ∀ W, Below w.heap.size w W → DB W) :
    Calls Tryd.prog 48 #[.int .u64 u, .int .i64 16] w fun e w' => e = .returned (.string (str (hexTo 15 u []))) ∧ Below w.heap.size w w' := by
  have c := fmtBits_16 u w hu hD
  clear hD
  generalize str (hexTo 15 u []) = O at *
  go_enter Tryd.func48, Tryd.ntmps48
  go_wp2_with fail
  refine c.mono ?_
  rintro e w1 ⟨rfl, hb⟩
  clear c
  go_wp2_with fail
  go_ret
  exact ⟨rfl, hb⟩
theorem fmtUint_16 (u : Nat) (w : World) (hu : u < 18446744073709551616) (hD : ∀ W, Below w.heap.size w W → DB W) :
    Calls Tryd.prog 38 #[.int .u64 u, .int .i64 16] w fun e w' => e = .returned (.string (str (hexTo 15 u []))) ∧ Below w.heap.size w w' := by
  have c := fmtUint_in u w hu hD
  clear hD
  generalize str (hexTo 15 u []) = O at *
  go_enter Tryd.func38, Tryd.ntmps38
  go_wp2_with fail
  refine c.mono ?_
  rintro e w1 ⟨rfl, hb⟩
  clear c
  go_wp2_with fail
  go_ret
  exact ⟨rfl, hb⟩
theorem repeat_zero (c : Nat) : Lib.repeatL [48] c = List.replicate c 48 := by
  induction c with
  | zero => rfl
  | succ n ih => simp_all [Lib.repeatL, List.replicate_succ]
theorem hex_any (u : Nat) (w : World) (hu : u < 18446744073709551616) (hD : ∀ W, Below w.heap.size w W → DB W) :
    Calls Tryd.prog 21 #[.int .u64 u] w fun e w' => e = .returned (.string (str (35 :: hex16 u))) ∧ Below w.heap.size w w' := by
  have c := fmtUint_16 u w hu hD
  have hl := hexTo_len 15 u []
  have hp := hexAll_pad 15 u [] (by simpa using hu)
  simp only [List.length_nil, Nat.zero_add] at hl hp
  have cR := fun W => repeat_any [48] (16 - (hexTo 15 u []).length) W (by omega) (by simp; omega)
  rw [repeat_zero] at cR
  obtain ⟨OUT, hOUT⟩ : ∃ OUT, str (35 :: hex16 u) = OUT := ⟨_, rfl⟩
  rw [hOUT]
  have hcat : str [35] ++ str (List.replicate (16 - (hexTo 15 u []).length) 48) ++ str (hexTo 15 u []) = OUT := by
    rw [str_append, str_append, ← hOUT]
    congr 1
    show _ = 35 :: hexAll 15 u []
    rw [hp]; simp
  have hsz := str_size (hexTo 15 u [])
  have hsr := str_size (List.replicate (16 - (hexTo 15 u []).length) 48)
  rw [List.length_replicate] at hsr
  generalize (hexTo 15 u []).length = m at *
  generalize str (hexTo 15 u []) = S at *
  generalize str (List.replicate (16 - m) 48) = Z at *
  have wA : IntKind.i64.wrap (16 - (S.size : Int)) = 16 - (S.size : Int) := by rw [IntKind.wrap_i64] <;> omega
  have e16 : ((16 - m : Nat) : Int) = 16 - (S.size : Int) := by omega
  rw [e16] at cR
  have hcat2 : (⟨#[35]⟩ : ByteArray) ++ Z ++ S = OUT := hcat
  have hs1 : ((⟨#[35]⟩ : ByteArray) ++ Z).size = 17 - m := by rw [ByteArray.size_append]; have : (⟨#[35]⟩ : ByteArray).size = 1 := rfl; omega
  have HC := Lib.hid hcat2
  have k1 : ((S.size : Nat) : Int) ≤ 16 := by omega
  have k2 : ((Z.size : Nat) : Int) ≤ 16 := by omega
  clear hp hOUT hcat hcat2 hD hl e16 hsz hsr
  go_enter Tryd.func21, Tryd.ntmps21
  go_wp2_with fail
  refine c.mono ?_
  rintro e w1 ⟨rfl, hb⟩
  clear c
  go_wp2_with fail
  refine (cR _).mono ?_
  rintro e w2 ⟨rfl, hb2⟩
  have hbb := below_stepL hb hb.size hb2
  clear cR
  go_wp2_with fail
  go_ret
  exact ⟨by rw [HC.out]; rfl, hbb⟩
theorem shown_hex (s : ByteArray) (i b : Int) (w : World) (h0 : 0 ≤ b) (h1 : b ≤ 18446744073709551615) (hD : ∀ W, Below w.heap.size w W → DB W) :
    Calls Tryd.prog 9 #[.agg #[.int .i64 5, .string s, .int .i64 i, .int .u64 b]] w fun e w' => e = .returned (.string (str (35 :: hex16 b.toNat))) ∧ Below w.heap.size w w' := by
  obtain ⟨w2, hw2⟩ : ∃ w2, w.alloc (.cells #[.int .i64 5, .string s, .int .i64 i, .int .u64 b] 33) = w2 := ⟨_, rfl⟩
  have hb2 : Below w.heap.size w w2 := by rw [← hw2]; exact (Below.refl _ _).alloc (Nat.le_refl _) _
  have z2 : Blk w2 w.heap.size 33 [.int .i64 5, .string s, .int .i64 i, .int .u64 b] := by rw [← hw2]; exact Blk.new w #[.int .i64 5, .string s, .int .i64 i, .int .u64 b] _
  have c0 := z2.cell (j := 0) rfl
  have c1 := z2.cell (j := 1) rfl
  have c2 := z2.cell (j := 2) rfl
  have c3 := z2.cell (j := 3) rfl
  obtain ⟨u, rfl⟩ : ∃ u : Nat, b = (u : Int) := ⟨b.toNat, by omega⟩
  have cI := hex_any u w2 (by omega) (fun W hW => hD W (below_stepL hb2 hb2.size hW))
  rw [Int.toNat_natCast]
  generalize str (35 :: hex16 u) = O at *
  clear hD
  go_enter Tryd.func9, Tryd.ntmps9
  go_upto_region 1 with fail
  try rw [hw2]
  clear hw2
  go_wp2_with fail
  refine cI.mono ?_
  rintro e w3 ⟨rfl, hb3⟩
  have hbb := below_stepL hb2 hb2.size hb3
  clear cI
  go_wp2_with fail
  go_ret
  exact ⟨by first | rfl | trivial, hbb⟩
end Go.Proofs.YtlhoakpijfhljaaDoor
