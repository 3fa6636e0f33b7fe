/-
  MERGED: Piece, ParseA, ParseB, ParseC, ParseD.
  CONDITIONS: each theorem's own hypotheses.
-/
import Derived.Test.YtcnemacakjemjaaDoorGBase
import Derived.Test.YtcnemacakjemjaaDoorRowT
import Derived.Laws.BitsAllLaws
import Derived.Test.YtcnemacakjemjaaDoorGReg
import Derived.Deep.Cut
import Derived.Lib.LazyBuf

/-! PIECES OF SLICES of bytes (for seats without UpTo: the same names: never both in one seat). CONDITIONS: each theorem's own hypotheses. -/
namespace Go.Proofs.YtcnemacakjemjaaDoor
open Go.RowKit CodeMath
set_option linter.unusedVariables false

def pieceA (ao : Option Addr) (lo cap : Nat) : Option Addr := if cap = lo then ao else ao.map (·.add (lo * 1))
theorem piece_bytes (ao : Option Addr) (L : List UInt8) (cap lo n : Nat) (h : L.length ≤ cap) (W : World) (hb : Bytes W ao L) : Bytes W (pieceA ao lo cap) ((L.drop lo).take n) := by
  unfold pieceA
  split
  · left
    rw [List.drop_of_length_le (by omega), List.take_nil]
  · rcases hb with h | ⟨a, o, h1, h2, h3⟩
    · left; rw [h]; simp
    · subst h1
      refine .inr ⟨a, o + lo, ?_, h2, fun j x hx => ?_⟩
      · by_cases hl : lo = 0
        · subst hl; rfl
        · simp [Addr.add, hl]
      · rw [List.getElem?_take] at hx
        split at hx
        · rw [List.getElem?_drop] at hx
          rw [Nat.add_assoc]
          exact h3 _ x hx
        · cases hx
theorem slice_first (ao : Option Addr) (n cap m : Nat) (hm : m ≤ cap) (W : World) : (Instr.slice 37 (.slice ao n cap) none (some (.int .i64 (m : Int))) none).run Tryd.prog W = .ok (.slice ao m cap) W := by
  have hs : (sizeOf (Tryd.prog.elem 37)).run Tryd.prog W = .ok 1 W := by kernel_rfl
  have h := run_slice_h (P := Tryd.prog) W 37 ao n cap (by kernel_rfl) .i64 (m : Int) (by omega) (by omega)
  rw [h, hs, Int.toNat_natCast]
  simp only [Result.andThen, sliced, Nat.sub_zero]
  cases ao with
  | none => simp
  | some a => simp [Addr.add]
theorem slice_mid (ao : Option Addr) (n cap lo hi : Nat) (h1 : lo ≤ hi) (h2 : hi ≤ cap) (W : World) : (Instr.slice 37 (.slice ao n cap) (some (.int .i64 (lo : Int))) (some (.int .i64 (hi : Int))) none).run Tryd.prog W = .ok (.slice (pieceA ao lo cap) (hi - lo) (cap - lo)) W := by
  have hs : (sizeOf (Tryd.prog.elem 37)).run Tryd.prog W = .ok 1 W := by kernel_rfl
  have h := run_slice_lh (P := Tryd.prog) W 37 ao n cap (by kernel_rfl) .i64 .i64 (lo : Int) (hi : Int) (by omega) (by omega) (by omega)
  rw [h, hs, Int.toNat_natCast, Int.toNat_natCast]
  rfl
theorem slice_last (ao : Option Addr) (n cap lo : Nat) (h1 : lo ≤ n) (W : World) : (Instr.slice 37 (.slice ao n cap) (some (.int .i64 (lo : Int))) none none).run Tryd.prog W = .ok (.slice (pieceA ao lo cap) (n - lo) (cap - lo)) W := by
  have hs : (sizeOf (Tryd.prog.elem 37)).run Tryd.prog W = .ok 1 W := by kernel_rfl
  have h := run_slice_l (P := Tryd.prog) W 37 ao n cap (by kernel_rfl) .i64 (lo : Int) (by omega) (by omega)
  rw [h, hs, Int.toNat_natCast]
  rfl
end Go.Proofs.YtcnemacakjemjaaDoor

/-! CONTRACTS of package numeral's Of, bytes.Clone, and package oracle's readers. CONDITIONS: each theorem's own hypotheses. -/
namespace Go.Proofs.YtcnemacakjemjaaDoor
open Go.RowKit CodeMath Go.Proofs.YtcnemacakjemjaaDoor.FrameMath
set_option linter.unusedVariables false

theorem or_byteP (N : Int) (c : UInt8) (h0 : 0 ≤ N) (h1 : N < two56) : bits .or .u64 (N * 256) c.toNat = N * 256 + c.toNat := by
  unfold two56 at h1
  have hc := byte_lt c
  rw [u64_or _ _ (by omega) (by omega) (by omega) (by omega)]
  rw [nat_join 8 _ _ (by omega) (by simp; omega)]
  omega
/-- The rest of a slice, and its front. -/
theorem RowV.rest {w : World} {ao : Option Addr} {cap : Nat} {l : List UInt8} (k : Nat) (hk : k ≤ l.length) (hc : l.length ≤ cap) (hq : cap ≤ 9223372036854775807) (hn : ao = none → cap = 0) (h : Bytes w ao l) : RowV w (.slice (pieceA ao k cap) (l.length - k) (cap - k)) (l.drop k) := by
  refine ⟨_, _, by rw [List.length_drop], by rw [List.length_drop]; omega, by omega, fun hh => ?_, ?_⟩
  · unfold pieceA at hh
    split at hh
    · omega
    · cases ao with
      | none => have := hn rfl; omega
      | some a => cases hh
  · have := piece_bytes ao l cap k l.length hc w h
    rwa [List.take_of_length_le (by rw [List.length_drop]; omega)] at this
theorem bytes_front {w : World} {ao : Option Addr} {l : List UInt8} (h : Bytes w ao l) (n : Nat) : Bytes w ao (l.take n) := by
  rcases h with h | ⟨a, o, h, h2, h3⟩
  · left; rw [h]; simp
  · exact .inr ⟨a, o, h, h2, fun j x hx => h3 j x (by rw [List.getElem?_take] at hx; split at hx <;> simp_all)⟩
theorem num_small (l : List UInt8) (k : Nat) (hk : k ≤ 4) (hl : l.length = k) : 0 ≤ num l 0 ∧ num l 0 ≤ 4294967295 := by
  have h := num_range l 0
  have h2 : (256 : Int) ^ l.length ≤ 256 ^ 4 := by
    have := Nat.pow_le_pow_right (n := 256) (by decide) (show l.length ≤ 4 by omega)
    have h3 : ((256 ^ l.length : Nat) : Int) ≤ ((256 ^ 4 : Nat) : Int) := Int.ofNat_le.2 this
    rw [Int.natCast_pow, Int.natCast_pow] at h3
    exact h3
  have e : (256 : Int) ^ 4 = 4294967296 := by decide
  rw [e] at h2
  omega
set_option maxRecDepth 100000 in
set_option maxHeartbeats 1000000 in
theorem bytesClone_any (l : List UInt8) (ao : Option Addr) (cap : Nat) (w : World) (hc : l.length ≤ cap) (hl : l.length ≤ 140737488351232) (hn : ao = none → cap = 0) (hb : Bytes w ao l) :
    Calls Tryd.prog 20 #[.slice ao l.length cap] w fun e w' => ∃ v, e = .returned v ∧ OwnB w' w.heap.size v l ∧ Below w.heap.size w w' := by
  cases ao with
  | none =>
    have h0 := hn rfl
    have hl0 : l = [] := List.eq_nil_of_length_eq_zero (by omega)
    subst hl0
    subst h0
    have hO : OwnB w w.heap.size (.slice none 0 0) [] := World.ownsRow_nil _ _ _ _
    have hB := Below.refl w.heap.size w
    have hq : ∀ W, (binOp .eql 37 (.slice none 0 0) (.slice none 0 0)).run Tryd.prog W = .ok (.bool true) W := fun W => Lib.run_eql_slice_nil W _ _ none 0 0 0 0 Tryd.underlying37
    go_enter Tryd.func20, Tryd.ntmps20
    go_wp2_with fail
    go_ret
    exact ⟨_, rfl, hO, hB⟩
  | some a =>
    have o1 := ownB_fresh w w.heap.size (Nat.le_refl _)
    have b1 : Below w.heap.size w (w.alloc (.cells #[] 5)) := (Below.refl _ _).alloc (Nat.le_refl _) _
    have hb1 := hb.keep b1
    clear hb
    have hq : ∀ W n c, (binOp .eql 37 (.slice (some a) n c) (.slice none 0 0)).run Tryd.prog W = .ok (.bool false) W := fun W n c => Lib.run_eql_slice_nil W _ _ (some a) n c 0 0 Tryd.underlying37
    go_enter Tryd.func20, Tryd.ntmps20
    go_wp2_with (first
      | (at_builtin; refine wpList_append_came rfl _ _ rfl w.heap.size _ _ rfl o1 l (some a) cap rfl hb1 (fun h => by cases h) (by simpa using hl) b1.size ?_; intro v5 w5 ho5 hb5)
      | fail)
    go_ret
    exact ⟨_, rfl, ho5, b1.trans hb5⟩
end Go.Proofs.YtcnemacakjemjaaDoor

/-! CONTRACTS of package oracle's readTag, readPart, readParts, Parse. CONDITIONS: each theorem's own hypotheses. -/
namespace Go.Proofs.YtcnemacakjemjaaDoor
open Go.RowKit CodeMath Go.Proofs.YtcnemacakjemjaaDoor.FrameMath
set_option linter.unusedVariables false

/-- One part off the front. -/
def cut1 (l : List UInt8) : Option (List UInt8 × List UInt8) := if l.length < 4 then none else if ((l.drop 4).length : Int) < num (l.take 4) 0 then none else some ((l.drop 4).take (num (l.take 4) 0).toNat, (l.drop 4).drop (num (l.take 4) 0).toNat)
theorem cutN_succ (n : Nat) (l : List UInt8) : cutN (n + 1) l = match cut1 l with | none => .short | some (p, r) => cons p (cutN n r) := by
  unfold cut1
  show (if _ then _ else _) = _
  by_cases h1 : l.length < 4
  · rw [if_pos h1, if_pos h1]
  · rw [if_neg h1, if_neg h1]
    by_cases h2 : ((l.drop 4).length : Int) < num (l.take 4) 0
    · rw [if_pos h2, if_pos h2]
    · rw [if_neg h2, if_neg h2]
def apps (acc : List (List UInt8)) : Cut → Cut
  | .short => .short
  | .ok ps r => .ok (acc ++ ps) r
theorem apps_nil (c : Cut) : apps [] c = c := by cases c <;> rfl
theorem apps_cons (acc : List (List UInt8)) (p : List UInt8) (c : Cut) : apps acc (cons p c) = apps (acc ++ [p]) c := by
  cases c with
  | short => rfl
  | ok ps r => simp [apps, cons]
/-- What is read of the parts. -/
inductive PR where
  | err (e : Int)
  | ok (ps : List (List UInt8)) (r : List UInt8)
def ofCut : Cut → PR
  | .short => .err 4
  | .ok ps r => .ok ps r
def partsR : List UInt8 → PR
  | [] => .err 4
  | n :: l => if 8 < n.toNat then .err 1 else ofCut (cutN n.toNat l)
def PartsPost (R : PR) (w : World) (e : Ending) (w' : World) : Prop := match R with
  | .err c => e = .returned (.tuple #[.slice none 0 0, .slice none 0 0, .int .i64 c]) ∧ Below w.heap.size w w'
  | .ok ps r => ∃ v u, e = .returned (.tuple #[v, u, .int .i64 0]) ∧ OwnL w' w.heap.size v ps ∧ RowV w u r ∧ Below w.heap.size w w'
def ParsePost (R : FrameMath.Res) (w : World) (e : Ending) (w' : World) : Prop := match R with
  | .err c => e = .returned (.tuple #[.int .i64 0, .slice none 0 0, .int .i64 c]) ∧ Below w.heap.size w w'
  | .ok t ps => ∃ v, e = .returned (.tuple #[.int .i64 (t : Nat), v, .int .i64 0]) ∧ OwnL w' w.heap.size v ps ∧ Below w.heap.size w w'

def PartF (a1 a2 : Option Addr) (m k1 N m2 k2 : Nat) (PT : List UInt8) : Nat → Value → World → Prop
  | 0, v, _ => v = .slice a1 m k1
  | 1, v, _ => v = .int .i64 (N : Int)
  | 2, v, _ => v = .slice a1 N k1
  | 3, v, w => RowT w v PT
  | 4, v, _ => v = .slice a1 m k1
  | 5, v, _ => v = .int .i64 (N : Int)
  | 6, v, _ => v = .slice a2 m2 k2
  | 7, v, w => RowT w v PT
  | 8, v, _ => v = .slice a2 m2 k2
  | _, _, _ => True
theorem partF_keep {a1 a2 : Option Addr} {m k1 N m2 k2 : Nat} {PT : List UInt8} (i : Nat) (v : Value) (w w' : World) (h : PartF a1 a2 m k1 N m2 k2 PT i v w) (he : Below w.heap.size w w') : PartF a1 a2 m k1 N m2 k2 PT i v w' := by
  unfold PartF at *
  split at h <;> (try exact h) <;> (try exact trivial)
  · exact h.keep he
  · exact h.keep he
theorem RowV.part {w : World} {ao : Option Addr} {cap : Nat} {l : List UInt8} (N : Nat) (h4 : 4 ≤ l.length) (hN : N ≤ l.length - 4) (hc : l.length ≤ cap) (hq : cap ≤ 9223372036854775807) (hn : ao = none → cap = 0) (h : Bytes w ao l) : RowV w (.slice (pieceA (pieceA ao 4 cap) N (cap - 4)) (l.length - 4 - N) (cap - 4 - N)) ((l.drop 4).drop N) := by
  obtain ⟨a1, k1, e1, g1, g2, g3, g4⟩ := RowV.rest 4 h4 hc hq hn h
  obtain ⟨ea, en, ek⟩ := Value.slice.inj e1
  rw [ea, en, ek]
  exact RowV.rest N (by omega) g1 g2 g3 g4
end Go.Proofs.YtcnemacakjemjaaDoor

/-! CONTRACTS of package oracle's readTag, readParts, Parse. CONDITIONS: each theorem's own hypotheses. -/
namespace Go.Proofs.YtcnemacakjemjaaDoor
open Go.RowKit CodeMath Go.Proofs.YtcnemacakjemjaaDoor.FrameMath
set_option linter.unusedVariables false

theorem num_one (t : UInt8) (l : List UInt8) : num ((t :: l).take 1) 0 = (t.toNat : Int) := by
  rw [List.take_succ_cons, List.take_zero]
  simp [num]
end Go.Proofs.YtcnemacakjemjaaDoor

/-! CONTRACT of package oracle's Parse. CONDITIONS: each theorem's own hypotheses. -/
namespace Go.Proofs.YtcnemacakjemjaaDoor
open Go.RowKit CodeMath Go.Proofs.YtcnemacakjemjaaDoor.FrameMath
set_option linter.unusedVariables false

/-- What parsing is, by its parts. -/
theorem parse_parts (t : UInt8) (l : List UInt8) (hs : ¬ 16777216 < (t :: l).length) (ht : ¬ (t.toNat < 1 ∨ 9 < t.toNat)) : parse (t :: l) = match partsR l with
    | .err e => .err e
    | .ok ps r => if r = [] then .ok t.toNat ps else .err 3 := by
  unfold parse
  rw [if_neg hs]
  simp only []
  rw [if_neg ht]
  cases l with
  | nil => rfl
  | cons n l =>
    simp only [partsR]
    by_cases h8 : 8 < n.toNat
    · rw [if_pos h8, if_pos h8]
    · rw [if_neg h8, if_neg h8]
      cases cutN n.toNat l with
      | short => rfl
      | ok ps r => rfl
end Go.Proofs.YtcnemacakjemjaaDoor
