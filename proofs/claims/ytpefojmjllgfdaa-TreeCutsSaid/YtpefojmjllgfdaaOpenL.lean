/-
  OPENING ARGUMENTS that are slices of slices of bytes.
  CONDITIONS: each theorem's own hypotheses.
-/
import Derived.Test.YtpefojmjllgfdaaGOpen
import Derived.Test.YtpefojmjllgfdaaGBase
namespace Go.Proofs.Ytpefojmjllgfdaa
open Go.ChangeShapes Go.WideShapes Go.RowKit Go.Deep Go.Joins CodeMath
open Go.ChangeMaps (open_string shut_string)
set_option linter.unusedVariables false

set_option maxRecDepth 100000
theorem row_list {α : Type} : ∀ {n : Nat} {p : Nat → α → Prop} (h : ∀ i, i < n → ∃ x, p i x), ∃ l : List α, l.length = n ∧ ∀ j x, l[j]? = some x → p j x
  | 0, p, h => ⟨[], rfl, fun j x hx => by simp at hx⟩
  | n + 1, p, h => by
    obtain ⟨l, hl, hp⟩ := row_list (n := n) (p := p) (fun i hi => h i (by omega))
    obtain ⟨x, hx⟩ := h n (by omega)
    refine ⟨l ++ [x], by simp [hl], fun j y hy => ?_⟩
    by_cases hj : j < l.length
    · rw [List.getElem?_append_left hj] at hy; exact hp j y hy
    · rw [List.getElem?_append_right (by omega)] at hy
      have : j - l.length = 0 := by
        rcases Nat.eq_zero_or_pos (j - l.length) with h0 | h0
        · exact h0
        · rw [List.getElem?_eq_none (by simp; omega)] at hy; cases hy
      rw [this] at hy
      simp only [List.getElem?_cons_zero, Option.some.injEq] at hy
      rw [← hy, show j = n by omega]; exact hx
section
variable {H : Type} {enc : TypeId × Value → H} {W : World} {base : Nat} {v : Value} {d : DataW H} {p : List MemPlace}
/-- A slice of bytes as a cell's value. -/
def RowV (W : World) (u : Value) (l : List UInt8) : Prop := ∃ ao cap, u = .slice ao l.length cap ∧ l.length ≤ cap ∧ cap ≤ 9223372036854775807 ∧ (ao = none → cap = 0) ∧ Bytes W ao l
theorem open_row {fuel : Nat} {cs : List Value} {x : DataW H × List MemPlace} (h : DataW.trod enc Try.prog W 0 (fun _ => true) true fuel 55 cs = some x) :
    ∃ (l : List UInt8) (u : Value), cs = [u] ∧ RowV W u l ∧ ((∀ n ∈ x.1.weights Try.prog 55, n ≤ reachBytes) → l.length ≤ 140737488351232) := by
  rcases open_ints Try.underlying55 Try.underlying5 (by kernel_rfl) h with ⟨hcs, _⟩ | ⟨a, len, cap, zs, hcs, _, hl, hm, hz, hxd, hcell, hwz⟩
  · exact ⟨[], _, hcs, ⟨none, 0, rfl, Nat.le_refl _, Nat.zero_le _, fun _ => rfl, .inl rfl⟩, fun _ => by simp⟩
  · have hzl : len ≤ zs.length := by rw [hz]; simp; exact hl
    have hlen : ((zs.take len).map (fun z => UInt8.ofNat z.toNat)).length = len := by simp; omega
    refine ⟨(zs.take len).map (fun z => UInt8.ofNat z.toNat), _, hcs, ⟨some a, cap, by rw [hlen], by rw [hlen]; exact hl, by unfold maxLen at hm; omega, (fun h => by cases h), ?_⟩, fun hw => ?_⟩
    · rcases Nat.eq_zero_or_pos len with h0 | h0
      · left; rw [h0]; rfl
      · right
        have hx1 := hcell 0 (by omega)
        have hsp := add_spot hx1
        have hlt : a.block < W.heap.size := by
          have := cell_lt hx1
          simpa [Addr.add] using this
        obtain ⟨b, o, s⟩ := a
        simp only [Addr.mk.injEq, true_and] at hsp
        subst hsp
        refine ⟨b, o, rfl, hlt, fun j x hx => ?_⟩
        have hj : j < len := by
          have := (List.getElem?_eq_some_iff.1 hx).1
          omega
        have hq := hcell j (by omega)
        rw [add_none] at hq
        rw [List.getElem?_map, List.getElem?_take_of_lt hj] at hx
        rw [hq]
        have hzj : j < zs.length := by omega
        rw [List.getElem?_eq_getElem hzj] at hx
        simp only [Option.map_some, Option.some.injEq] at hx
        have hb := bounds_u8 (hwz zs[j] (List.getElem_mem _))
        have : zs.getD j 0 = zs[j] := by simp [List.getD, List.getElem?_eq_getElem hzj]
        rw [this, ← hx]
        congr 2
        simp only [UInt8.toNat_ofNat']
        omega
    · rw [hlen]
      rw [hxd] at hw
      have := hw ((lits IntKind.u8 (zs.take len) : List (DataW H)).length + (lits IntKind.u8 (zs.drop len) : List (DataW H)).length) (by
        simp only [DataW.weights, Try.underlying55]
        rw [show Try.prog.bytesOf 5 = 1 by kernel_rfl, Nat.mul_one]
        exact List.mem_cons_self ..)
      simp only [lits, List.length_map, List.length_take, List.length_drop, reachBytes] at this
      omega
theorem weights_all {e : TypeId} : ∀ (ds : List (DataW H)) (d : DataW H), d ∈ ds → ∀ n ∈ d.weights Try.prog e, n ∈ DataW.weightsAll Try.prog e ds
  | [], d, h, n, hn => by cases h
  | d0 :: ds, d, h, n, hn => by
    simp only [DataW.weightsAll, List.mem_append]
    rcases List.mem_cons.1 h with rfl | h
    · exact .inl hn
    · exact .inr (weights_all ds d h n hn)
/-- Cells that hold slices of bytes. -/
def LinesV (W : World) (ao : Option Addr) (rows : List (List UInt8)) : Prop := rows = [] ∨ ∃ a o, ao = some ⟨a, o, none⟩ ∧ a < W.heap.size ∧ ∀ i l, rows[i]? = some l → ∃ u, W.cell? ⟨a, o + i, none⟩ = some u ∧ RowV W u l
theorem LinesV.lines {W : World} {ao : Option Addr} {rows : List (List UInt8)} (h : LinesV W ao rows) : Lines W ao rows := by
  rcases h with h | ⟨a, o, h1, h2, h3⟩
  · exact .inl h
  · refine .inr ⟨a, o, h1, h2, fun i l hi => ?_⟩
    obtain ⟨u, hc, ao, cap, rfl, k1, k2, k3, k4⟩ := h3 i l hi
    exact ⟨ao, cap, hc, k1, k2, k3, k4⟩
end
end Go.Proofs.Ytpefojmjllgfdaa
