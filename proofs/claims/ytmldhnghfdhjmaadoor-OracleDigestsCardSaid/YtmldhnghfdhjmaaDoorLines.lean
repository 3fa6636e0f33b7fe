/-
  SLICES OF LINES of bytes, and package oracle's frameBytes.
  CONDITIONS: each theorem's own hypotheses.
-/
import Derived.Test.YtmldhnghfdhjmaaDoorNum
import Derived.Test.YtmldhnghfdhjmaaDoorFrameMath
namespace Go.Proofs.YtmldhnghfdhjmaaDoor
open Go.RowKit CodeMath
set_option linter.unusedVariables false

/-- A slice of slices of bytes, wherever they lie. -/
def Lines (w : World) (ap : Option Addr) (rows : List (List UInt8)) : Prop := rows = [] ∨ ∃ a o, ap = some ⟨a, o, none⟩ ∧ a < w.heap.size ∧ ∀ i l, rows[i]? = some l → ∃ ao cap, w.cell? ⟨a, o + i, none⟩ = some (.slice ao l.length cap) ∧ l.length ≤ cap ∧ cap ≤ 9223372036854775807 ∧ (ao = none → cap = 0) ∧ Bytes w ao l
theorem Lines.keep {w w1 : World} {ap : Option Addr} {rows : List (List UInt8)} (h : Lines w ap rows) (hb : Below w.heap.size w w1) : Lines w1 ap rows := by
  rcases h with h | ⟨a, o, h1, h2, h3⟩
  · exact .inl h
  · refine .inr ⟨a, o, h1, Nat.lt_of_lt_of_le h2 hb.size, fun i l hi => ?_⟩
    obtain ⟨ao, cap, k1, k2, k3, k4, k5⟩ := h3 i l hi
    exact ⟨ao, cap, (hb.cell (p := ⟨a, o + i, none⟩) h2).trans k1, k2, k3, k4, k5.keep hb⟩
/-- How many bytes the frame of the first rows has. -/
def weigh (rows : List (List UInt8)) : Nat → Nat
  | 0 => 2
  | i + 1 => weigh rows i + (4 + (rows.getD i []).length)
theorem weigh_le (rows : List (List UInt8)) (B : Nat) (hB : ∀ l ∈ rows, l.length ≤ B) : ∀ i, weigh rows i ≤ 2 + i * (4 + B)
  | 0 => by simp [weigh]
  | i + 1 => by
    have ih := weigh_le rows B hB i
    have : (rows.getD i []).length ≤ B := by
      rw [List.getD_eq_getElem?_getD]
      cases h : rows[i]? with
      | none => simp
      | some l => exact hB l (List.mem_of_getElem? h)
    simp only [weigh, Nat.succ_mul]
    omega
set_option maxRecDepth 100000 in
set_option maxHeartbeats 2000000 in
theorem frameBytes_any (rows : List (List UInt8)) (ap : Option Addr) (capp : Nat) (w : World) (hl : Lines w ap rows) (hn : rows.length ≤ 1000) (hB : ∀ l ∈ rows, l.length ≤ 140737488351232) :
    Calls Tryd.prog 47 #[.slice ap rows.length capp] w fun e w' => e = .returned (.int .i64 (weigh rows rows.length : Nat)) ∧ w = w' := by
  obtain ⟨n, hnn⟩ : ∃ n, rows.length = n := ⟨_, rfl⟩
  have hw := weigh_le rows _ hB
  obtain ⟨R, hR⟩ : ∃ R : Nat, weigh rows rows.length = R := ⟨_, rfl⟩
  rw [hR, hnn]
  rw [hnn] at hn hR
  have nI : (n : Int) ≤ 1000 := by omega
  have HR := Lib.hid hR
  have HN := Lib.hid hnn
  have HW := Lib.hid hw
  clear hR hnn hw
  go_enter Tryd.func47, Tryd.ntmps47
  go_wp2_with fail
  go_loopw [3, 8] (fun s ix wr => ∃ i : Nat, i ≤ n ∧ ix = .int .i64 i ∧ s = .int .i64 (weigh rows i : Nat) ∧ wr = w) (fun _ ix _ => n - (intOf ix).toNat)
  case atStart => exact ⟨0, Nat.zero_le _, rfl, rfl, rfl⟩
  case round =>
    obtain ⟨i, hi, rfl, rfl, rfl⟩ := hrel
    have b1 := HW.out i
    have b2 := HW.out (i + 1)
    by_cases hlt : i < n
    · have iI : (i : Int) < n := by omega
      obtain ⟨l, hl'⟩ : ∃ l, rows[i]? = some l := ⟨_, List.getElem?_eq_getElem (by rw [HN.out]; exact hlt)⟩
      rcases hl with h0 | ⟨a, o, rfl, h2, h3⟩
      · rw [h0] at hl'; simp at hl'
      · obtain ⟨al, cl, k1, k2, k3, k4, k5⟩ := h3 i l hl'
        have hg : rows.getD i [] = l := by rw [List.getD_eq_getElem?_getD, hl']; rfl
        have e : ((weigh rows (i + 1) : Nat) : Int) = (weigh rows i : Nat) + (4 + (l.length : Int)) := by
          simp only [weigh, hg]; omega
        have lB := hB l (List.mem_of_getElem? hl')
        have m1 : i * (4 + 140737488351232) ≤ 1000 * (4 + 140737488351232) := Nat.mul_le_mul_right _ (by omega)
        obtain ⟨q, hq⟩ : ∃ q, weigh rows i = q := ⟨_, rfl⟩
        have hqb : q ≤ 140737488351240002 := by rw [← hq]; omega
        rw [hq] at e ⊢
        have E := Lib.hid e
        have qI : (q : Int) ≤ 140737488351240002 := by omega
        have lI : (l.length : Int) ≤ 140737488351232 := by omega
        have HI := Lib.hid hlt
        clear b1 b2 m1 hq e hg hl' h3 hlt hqb
        go_wp2_with fail
        go_roundw
        case rel => exact ⟨i + 1, HI.out, by go_num, by rw [E.out], by first | rfl | trivial⟩
        case measure => have := HI.out; simp [intOf]; omega
    · have iI : ¬ ((i : Int) < n) := by omega
      have hie : i = n := by omega
      rw [hie, HR.out]
      clear hie hlt b1 b2
      go_wp2_with fail
      go_ret
      exact ⟨rfl, by first | rfl | trivial⟩
end Go.Proofs.YtmldhnghfdhjmaaDoor
