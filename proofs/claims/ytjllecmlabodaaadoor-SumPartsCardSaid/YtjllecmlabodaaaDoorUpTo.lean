/-
  STREAMS OF THE FIRST BYTES of a line, and pieces of a slice.
  CONDITIONS: each theorem's own hypotheses.
-/
import Derived.Test.YtjllecmlabodaaaDoorRefSum
import Derived.Test.YtjllecmlabodaaaDoorEnds
namespace Go.Proofs.YtjllecmlabodaaaDoor
open Go.RowKit CodeMath
set_option linter.unusedVariables false

def upto (L : List UInt8) (p : Nat) : Stm := can (ShaMath.run ShaMath.blk ShaMath.h0 (L.take p)) (ShaMath.rest (L.take p)) p
theorem upto_rest (L : List UInt8) (p : Nat) (hp : p ≤ L.length) : (ShaMath.rest (L.take p)).length = p % 64 := by
  rw [ShaMath.rest_length, List.length_take, Nat.min_eq_left hp]
theorem upto_held (L : List UInt8) (p : Nat) : (upto L p).held.length = 64 := can_held _ _ _ (Nat.le_of_lt (ShaMath.rest_lt _))
theorem upto_fit (L : List UInt8) (p : Nat) (hp : p ≤ 1152921504606846976) : (upto L p).Fit := can_fit _ (run_ok _ _ _ h0_ok) _ _ (ShaMath.rest_lt _) (by omega) (by omega)
theorem upto_good (L : List UInt8) (p : Nat) (hp : p ≤ L.length) (h60 : p ≤ 1152921504606846976) : (upto L p).good = true := can_good _ _ _ (ShaMath.rest_lt _) (by omega) (by omega) (by rw [upto_rest L p hp]; omega)
theorem upto_zero (L : List UInt8) : upto L 0 = can ShaMath.h0 [] 0 := by
  unfold upto
  rw [List.take_zero, ShaMath.run_short _ _ _ (by decide), ShaMath.rest_short _ (by decide)]
  rfl
theorem upto_n (L : List UInt8) (p : Nat) (hp : p ≤ L.length) : (upto L p).n = ((p % 64 : Nat) : Int) := by
  show (((ShaMath.rest (L.take p)).length : Nat) : Int) = _
  rw [upto_rest L p hp]
theorem upto_left (L : List UInt8) (p : Nat) : (upto L p).held.take (upto L p).n.toNat = ShaMath.rest (L.take p) := by
  unfold upto can
  simp only [Int.toNat_natCast]
  rw [List.take_append_of_le_length (Nat.le_refl _), List.take_of_length_le (Nat.le_refl _)]
theorem upto_72 (L : List UInt8) (p : Nat) (hp : p ≤ L.length) : (upto L p).cells[72]? = some (.int .i64 ((p % 64 : Nat) : Int)) := by rw [Stm.get_n _ (upto_held L p), upto_n L p hp]
theorem upto_73 (L : List UInt8) (p : Nat) : (upto L p).cells[73]? = some (.int .i64 (p : Int)) := by rw [Stm.get_len _ (upto_held L p)]; rfl
theorem take_piece (L : List UInt8) (p q : Nat) (h : p ≤ q) : L.take p ++ (L.drop p).take (q - p) = L.take q := by
  have h1 : (L.take q).take p = L.take p := by rw [List.take_take, Nat.min_eq_left h]
  have h2 : (L.take q).drop p = (L.drop p).take (q - p) := by rw [List.drop_take]
  rw [← h1, ← h2, List.take_append_drop]
theorem upto_add (L : List UInt8) (p q n : Nat) (hq : q = p + n) (h2 : q ≤ L.length) (h60 : L.length ≤ 1152921504606846976) (a1 : Option Addr) (c1 : Nat) (hc : n ≤ c1) (hc1 : c1 ≤ 9223372036854775807) (W : World) (hb : Bytes W a1 ((L.drop p).take n)) (hT : KW W) :
    Calls Tryd.prog 13 #[.agg (upto L p).cells.toArray, .slice a1 n c1] W fun e w' => e = .returned (.tuple #[.agg (upto L q).cells.toArray, .int .i64 0]) ∧ Below W.heap.size W w' := by
  have hpl : ((L.drop p).take n).length = n := by rw [List.length_take, List.length_drop]; omega
  have h := Add_good (upto L p) (upto_fit L p (by omega)) ((L.drop p).take n) a1 c1 (by omega) hc1 (upto_good L p (by omega) (by omega)) (by show ¬ (1152921504606846976 - (p : Int) < _); omega) W hb hT
  have e : can (ShaMath.run ShaMath.blk (upto L p).h ((upto L p).held.take (upto L p).n.toNat ++ (L.drop p).take n)) (ShaMath.rest ((upto L p).held.take (upto L p).n.toNat ++ (L.drop p).take n)) ((upto L p).len + ((L.drop p).take n).length) = upto L q := by
    rw [upto_left, show (upto L p).h = ShaMath.run ShaMath.blk ShaMath.h0 (L.take p) from rfl, ShaMath.run_cut, ShaMath.rest_cut, hpl]
    have t := take_piece L p q (by omega)
    rw [show q - p = n by omega] at t
    rw [t, show (upto L p).len + (n : Int) = (q : Int) by show (p : Int) + n = q; omega]
    rfl
  rw [e, hpl] at h
  exact h
theorem upto_end (L : List UInt8) (p : Nat) (hp : p = L.length) (h60 : L.length ≤ 1152921504606846976) (W : World) (hT : KW W) :
    Calls Tryd.prog 17 #[.agg (upto L p).cells.toArray] W fun e w' => e = .returned (.tuple #[.agg (u8s (ShaMath.sha L)).toArray, .int .i64 0]) ∧ Below W.heap.size W w' := by
  have h := End_good (upto L p) (upto_fit L p (by omega)) (upto_good L p (by omega) (by omega)) W hT
  have e : ShaMath.fin (upto L p).h ((upto L p).held.take (upto L p).n.toNat) (upto L p).len.toNat = ShaMath.sha L := by
    rw [upto_left]
    subst hp
    show ShaMath.fin (ShaMath.run ShaMath.blk ShaMath.h0 (L.take L.length)) (ShaMath.rest (L.take L.length)) (L.length : Int).toNat = _
    rw [List.take_length, Int.toNat_natCast]
    rfl
  rw [e] at h
  exact h
/-! ### pieces of a slice -/
def pieceA (ao : Option Addr) (lo cap : Nat) : Option Addr := if cap = lo then ao else ao.map (·.add (lo * 1))
theorem piece_bytes (ao : Option Addr) (L : List UInt8) (cap lo n : Nat) (h : L.length ≤ cap) (W : World) (hb : Bytes W ao L) : Bytes W (pieceA ao lo cap) ((L.drop lo).take n) := by
  unfold pieceA
  split
  · left
    rw [List.drop_of_length_le (by omega), List.take_nil]
  · rcases hb with h | ⟨a, o, h1, h2, h3⟩
    · left; rw [h]; simp
    · subst h1
      refine .inr ⟨a, o + lo, ?_, h2, fun j x hx => ?_⟩
      · by_cases hl : lo = 0
        · subst hl; rfl
        · simp [Addr.add, hl]
      · rw [List.getElem?_take] at hx
        split at hx
        · rw [List.getElem?_drop] at hx
          rw [Nat.add_assoc]
          exact h3 _ x hx
        · cases hx
theorem slice_first (ao : Option Addr) (n cap m : Nat) (hm : m ≤ cap) (W : World) : (Instr.slice 27 (.slice ao n cap) none (some (.int .i64 (m : Int))) none).run Tryd.prog W = .ok (.slice ao m cap) W := by
  have hs : (sizeOf (Tryd.prog.elem 27)).run Tryd.prog W = .ok 1 W := by kernel_rfl
  have h := run_slice_h (P := Tryd.prog) W 27 ao n cap (by kernel_rfl) .i64 (m : Int) (by omega) (by omega)
  rw [h, hs, Int.toNat_natCast]
  simp only [Result.andThen, sliced, Nat.sub_zero]
  cases ao with
  | none => simp
  | some a => simp [Addr.add]
theorem slice_mid (ao : Option Addr) (n cap lo hi : Nat) (h1 : lo ≤ hi) (h2 : hi ≤ cap) (W : World) : (Instr.slice 27 (.slice ao n cap) (some (.int .i64 (lo : Int))) (some (.int .i64 (hi : Int))) none).run Tryd.prog W = .ok (.slice (pieceA ao lo cap) (hi - lo) (cap - lo)) W := by
  have hs : (sizeOf (Tryd.prog.elem 27)).run Tryd.prog W = .ok 1 W := by kernel_rfl
  have h := run_slice_lh (P := Tryd.prog) W 27 ao n cap (by kernel_rfl) .i64 .i64 (lo : Int) (hi : Int) (by omega) (by omega) (by omega)
  rw [h, hs, Int.toNat_natCast, Int.toNat_natCast]
  rfl
theorem slice_last (ao : Option Addr) (n cap lo : Nat) (h1 : lo ≤ n) (W : World) : (Instr.slice 27 (.slice ao n cap) (some (.int .i64 (lo : Int))) none none).run Tryd.prog W = .ok (.slice (pieceA ao lo cap) (n - lo) (cap - lo)) W := by
  have hs : (sizeOf (Tryd.prog.elem 27)).run Tryd.prog W = .ok 1 W := by kernel_rfl
  have h := run_slice_l (P := Tryd.prog) W 27 ao n cap (by kernel_rfl) .i64 (lo : Int) (by omega) (by omega)
  rw [h, hs, Int.toNat_natCast]
  rfl
end Go.Proofs.YtjllecmlabodaaaDoor
