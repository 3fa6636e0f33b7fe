/-
  MERGED: LawS2, PathA, Place, PathB.
  CONDITIONS: each theorem's own hypotheses.
-/
import Derived.Test.YtcnemacakjemjaaDoorGRefS
import Derived.Test.YtcnemacakjemjaaDoorSame
import Derived.Test.YtcnemacakjemjaaDoorGBase

/-! THE WALK of the law 'chirographlaw.SlotsRoots'. CONDITIONS: package sum's roundWords hold what their initialiser lays ('KW'). -/
namespace Go.Proofs.YtcnemacakjemjaaDoor
open Go.RowKit CodeMath Go.Proofs.YtcnemacakjemjaaDoor.FrameMath
set_option linter.unusedVariables false
set_option maxRecDepth 100000

theorem some_height (l : List Sl) : ∃ h, h ≤ 6 ∧ (isPow l.length = true → l.length = 2 ^ h) := by
  cases hp : isPow l.length with
  | false => exact ⟨0, by decide, fun h => by cases h⟩
  | true =>
    obtain ⟨k, hk6, hk⟩ := pow_of hp
    exact ⟨k, hk6, fun _ => hk⟩
end Go.Proofs.YtcnemacakjemjaaDoor

/-! PATHS, plain: each entry is the root of a block. CONDITIONS: each theorem's own hypotheses. -/
namespace Go.Proofs.YtcnemacakjemjaaDoor
open Go.RowKit CodeMath Go.Proofs.YtcnemacakjemjaaDoor.FrameMath
set_option linter.unusedVariables false
set_option maxRecDepth 100000

theorem tower_at (m : Int) : ∀ (h t : Nat) (rows : List (List UInt8)), t ≤ h → (tower m h rows)[t]? = some (topL m t rows)
  | 0, t, rows, ht => by
    obtain rfl : t = 0 := by omega
    rfl
  | h + 1, 0, rows, _ => rfl
  | h + 1, t + 1, rows, ht => by
    show (rows :: tower m h (up m rows))[t + 1]? = _
    rw [List.getElem?_cons_succ]
    exact tower_at m h t (up m rows) (by omega)
theorem topL_length (m : Int) : ∀ (t q : Nat) (rows : List (List UInt8)), rows.length = q * 2 ^ t → (topL m t rows).length = q
  | 0, q, rows, h => by simpa [topL] using h
  | t + 1, q, rows, h => by
    have e1 : 2 ^ (t + 1) = 2 * 2 ^ t := by rw [Nat.pow_succ, Nat.mul_comm]
    show (topL m t (up m rows)).length = q
    refine topL_length m t q (up m rows) ?_
    rw [up_length, h, e1, ← Nat.mul_assoc, Nat.mul_comm q 2, Nat.mul_assoc]
    omega
def blockB (m : Int) (rows : List (List UInt8)) (t j : Nat) : List UInt8 := rootB m t ((rows.drop (j * 2 ^ t)).take (2 ^ t))
theorem topL_at (m : Int) : ∀ (t j : Nat) (rows : List (List UInt8)), (j + 1) * 2 ^ t ≤ rows.length → (topL m t rows)[j]? = some (blockB m rows t j)
  | 0, j, rows, h => by
    rw [Nat.pow_zero, Nat.mul_one] at h
    obtain ⟨x, hx⟩ : ∃ x, rows[j]? = some x := ⟨_, List.getElem?_eq_getElem (by omega)⟩
    show rows[j]? = some (((rows.drop (j * 1)).take 1).headD [])
    rw [hx, Nat.mul_one]
    have hj := (List.getElem?_eq_some_iff.1 hx)
    obtain ⟨h1, h2⟩ := hj
    rw [List.drop_eq_getElem_cons h1]
    simp [h2]
  | t + 1, j, rows, h => by
    have e1 : 2 ^ (t + 1) = 2 * 2 ^ t := by rw [Nat.pow_succ, Nat.mul_comm]
    have e2 : (j + 1) * 2 ^ (t + 1) = 2 * ((j + 1) * 2 ^ t) := by rw [e1, ← Nat.mul_assoc, Nat.mul_comm (j + 1) 2, Nat.mul_assoc]
    have e3 : j * 2 ^ (t + 1) = 2 * (j * 2 ^ t) := by rw [e1, ← Nat.mul_assoc, Nat.mul_comm j 2, Nat.mul_assoc]
    have e4 : (j + 1) * 2 ^ t = j * 2 ^ t + 2 ^ t := by rw [Nat.add_mul, Nat.one_mul]
    show (topL m t (up m rows))[j]? = _
    rw [topL_at m t j (up m rows) (by rw [up_length]; omega)]
    unfold blockB
    rw [up_drop, up_take, ← e3, ← e1, rootB_up]
    rw [List.length_take, List.length_drop]
    omega
/-- The other half's place. -/
def sib (i t : Nat) : Nat := (i / 2 ^ t) ^^^ 1
theorem sib_lt : ∀ (h t i : Nat), h ≤ 6 → t < h → i < 2 ^ h → sib i t < 2 ^ (h - t) := by
  have key : ∀ (h : Fin 7) (t : Fin 7) (i : Fin 64), t.1 < h.1 → i.1 < 2 ^ h.1 → sib i.1 t.1 < 2 ^ (h.1 - t.1) := by decide +kernel
  intro h t i h6 ht hi
  have h64 : 2 ^ h ≤ 2 ^ 6 := Nat.pow_le_pow_right (by decide) h6
  have e6 : 2 ^ 6 = 64 := by decide
  exact key ⟨h, by omega⟩ ⟨t, by omega⟩ ⟨i, by omega⟩ ht hi
theorem sib_small : ∀ (h t i : Nat), h ≤ 6 → i < 2 ^ h → sib i t ≤ 64 ∧ i / 2 ^ t < 65 := by
  intro h t i h6 hi
  have h64 : 2 ^ h ≤ 2 ^ 6 := Nat.pow_le_pow_right (by decide) h6
  have e6 : 2 ^ 6 = 64 := by decide
  have h1 : i / 2 ^ t ≤ i := Nat.div_le_self _ _
  have h2 : i / 2 ^ t < 65 := by omega
  have key : ∀ n : Fin 65, n.1 ≠ 64 → n.1 ^^^ 1 ≤ 64 := by decide +kernel
  exact ⟨key ⟨i / 2 ^ t, h2⟩ (by show i / 2 ^ t ≠ 64; omega), h2⟩
theorem xor_one : ∀ n : Nat, n < 65 → bits .xor .i64 (n : Int) 1 = ((n ^^^ 1 : Nat) : Int) := by
  refine bounded ?_
  decide +kernel
def wayB (m : Int) (rows : List (List UInt8)) (i h : Nat) : List (List UInt8) := (List.range h).map fun t => blockB m rows t (sib i t)
theorem wayB_length (m : Int) (rows : List (List UInt8)) (i h : Nat) : (wayB m rows i h).length = h := by simp [wayB]
theorem wayB_at (m : Int) (rows : List (List UInt8)) (i h t : Nat) (ht : t < h) : (wayB m rows i h)[t]? = some (blockB m rows t (sib i t)) := by simp [wayB, ht]
theorem tower_path (m : Int) (h t i : Nat) (rows : List (List UInt8)) (h6 : h ≤ 6) (ht : t < h) (hi : i < 2 ^ h) (hl : rows.length = 2 ^ h) :
    ∃ lev, (tower m h rows)[t]? = some lev ∧ lev.length = 2 ^ (h - t) ∧ lev[sib i t]? = some (blockB m rows t (sib i t)) := by
  have e : 2 ^ h = 2 ^ (h - t) * 2 ^ t := by rw [← Nat.pow_add]; congr 1; omega
  have hs := sib_lt h t i h6 ht hi
  refine ⟨topL m t rows, tower_at m h t rows (by omega), topL_length m t (2 ^ (h - t)) rows (by rw [hl, e]), topL_at m t _ rows ?_⟩
  rw [hl, e]
  exact Nat.mul_le_mul_right _ hs
def pathR (m : Int) (h : Nat) (l : List Sl) (i : Int) : LR := match levelsR m l with
  | .err e => .err e
  | .ok rows => if 0 ≤ i ∧ i < l.length then .ok (wayB m rows i.toNat h) else .err 6
def LinesPost (R : LR) (w : World) (e : Ending) (w' : World) : Prop := match R with
  | .err c => e = .returned (.tuple #[.slice none 0 0, .int .i64 c]) ∧ Below w.heap.size w w'
  | .ok rows => ∃ ap cp, e = .returned (.tuple #[.slice ap rows.length cp, .int .i64 0]) ∧ Lines w' ap rows ∧ Below w.heap.size w w'
end Go.Proofs.YtcnemacakjemjaaDoor

/-! CONTRACT of known.Place. CONDITIONS: each theorem's own hypotheses. -/
namespace Go.Proofs.YtcnemacakjemjaaDoor
open Go.RowKit CodeMath
set_option linter.unusedVariables false
set_option maxRecDepth 100000

end Go.Proofs.YtcnemacakjemjaaDoor

/-! CONTRACT of package slots' Path. CONDITIONS: package sum's roundWords hold what their initialiser lays ('KW'). -/
namespace Go.Proofs.YtcnemacakjemjaaDoor
open Go.RowKit CodeMath Go.Proofs.YtcnemacakjemjaaDoor.FrameMath
set_option linter.unusedVariables false
set_option maxRecDepth 100000

end Go.Proofs.YtcnemacakjemjaaDoor
