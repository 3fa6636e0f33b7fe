/-
  MERGED: OpenB, OpenC, OpenC4.
  CONDITIONS: each theorem's own hypotheses.
-/
import Derived.Test.YtopgakdgifmecaaGBase
import Derived.Deep.Slices
import Derived.Lib.SmallJoins
import Derived.OpenShut
import Derived.Carry

/-! OPENING ARGUMENTS that are slices of bytes (for seats without stage 2's functions: the same names as in Open and Open2: never both in one seat). CONDITIONS: each theorem's own hypotheses. -/
namespace Go.Proofs.Ytopgakdgifmecaa
open Go.ChangeShapes Go.WideShapes Go.RowKit Go.Deep Go.Joins CodeMath
open Go.ChangeMaps (open_string shut_string)
set_option linter.unusedVariables false

set_option maxRecDepth 100000
section
variable {H : Type} {enc : TypeId × Value → H} {W : World} {base : Nat} {v : Value} {d : DataW H} {p : List MemPlace}
theorem add_spot {a : Addr} {x : Value} (h : W.cell? (a.add 0) = some x) : a = ⟨a.block, a.off, none⟩ := by
  have e : a.add 0 = a := by simp [Addr.add]
  rw [e] at h
  unfold World.cell? at h
  obtain ⟨b, o, s⟩ := a
  cases s with
  | none => rfl
  | some q => split at h <;> simp at h
theorem add_none (b o i : Nat) : (⟨b, o, none⟩ : Addr).add i = ⟨b, o + i, none⟩ := by unfold Addr.add; split <;> simp_all
theorem cell_lt {a : Addr} {x : Value} (h : W.cell? a = some x) : a.block < W.heap.size := World.block_lt_of_cell? W a h
theorem open_byteslice (hval : Value.okWide Try.prog W .any base 55 v) (h : DataW.Trod enc Try.prog W 0 (fun _ => true) true 55 v d p) :
    ∃ (l : List UInt8) (ao : Option Addr) (cap : Nat), v = .slice ao l.length cap ∧ l.length ≤ cap ∧ cap ≤ 9223372036854775807 ∧ Bytes W ao l := by
  obtain ⟨ao, len, cap, rfl⟩ := okWide_slice Try.underlying55 hval
  obtain ⟨fuel, hf⟩ := h
  rcases open_ints Try.underlying55 Try.underlying5 (by kernel_rfl) hf with ⟨hcs, _⟩ | ⟨a, len', cap', zs, hcs, _, hl, hm, hz, _, hcell, hwz⟩
  · simp [Value.cells] at hcs
    obtain ⟨rfl, rfl, rfl⟩ := hcs
    exact ⟨[], none, 0, rfl, Nat.le_refl _, Nat.zero_le _, .inl rfl⟩
  · simp [Value.cells] at hcs
    obtain ⟨rfl, rfl, rfl⟩ := hcs
    have hzl : len ≤ zs.length := by rw [hz]; simp; exact hl
    refine ⟨(zs.take len).map (fun z => UInt8.ofNat z.toNat), some a, cap, ?_, by simp; omega, by unfold maxLen at hm; omega, ?_⟩
    · simp; omega
    · rcases Nat.eq_zero_or_pos len with h0 | h0
      · left; rw [h0]; rfl
      · right
        have hx1 := hcell 0 (by omega)
        have hsp := add_spot hx1
        have hlt : a.block < W.heap.size := by
          have := cell_lt hx1
          simpa [Addr.add] using this
        obtain ⟨b, o, s⟩ := a
        simp only [Addr.mk.injEq, true_and] at hsp
        subst hsp
        refine ⟨b, o, rfl, hlt, fun j x hx => ?_⟩
        have hj : j < len := by
          have := (List.getElem?_eq_some_iff.1 hx).1
          simp at this; omega
        have hq := hcell j (by omega)
        rw [add_none] at hq
        rw [List.getElem?_map, List.getElem?_take_of_lt hj] at hx
        rw [hq]
        have hzj : j < zs.length := by omega
        rw [List.getElem?_eq_getElem hzj] at hx
        simp only [Option.map_some, Option.some.injEq] at hx
        have hb := bounds_u8 (hwz zs[j] (List.getElem_mem _))
        have : zs.getD j 0 = zs[j] := by simp [List.getD, List.getElem?_eq_getElem hzj]
        rw [this, ← hx]
        congr 2
        simp only [UInt8.toNat_ofNat']
        omega
theorem open_byteslice2 (hval : Value.okWide Try.prog W .any base 55 v) (h : DataW.Trod enc Try.prog W 0 (fun _ => true) true 55 v d p) :
    ∃ (l : List UInt8) (ao : Option Addr) (cap : Nat), v = .slice ao l.length cap ∧ l.length ≤ cap ∧ (l = [] ∨ ∃ el sp, d = .slice el sp ∧ el.length = l.length) ∧ Bytes W ao l := by
  obtain ⟨ao, len, cap, rfl⟩ := okWide_slice Try.underlying55 hval
  obtain ⟨fuel, hf⟩ := h
  rcases open_ints Try.underlying55 Try.underlying5 (by kernel_rfl) hf with ⟨hcs, _⟩ | ⟨a, len', cap', zs, hcs, _, hl, hm, hz, hxd, hcell, hwz⟩
  · simp [Value.cells] at hcs
    obtain ⟨rfl, rfl, rfl⟩ := hcs
    exact ⟨[], none, 0, rfl, Nat.le_refl _, .inl rfl, .inl rfl⟩
  · simp [Value.cells] at hcs
    obtain ⟨rfl, rfl, rfl⟩ := hcs
    have hzl : len ≤ zs.length := by rw [hz]; simp; exact hl
    refine ⟨(zs.take len).map (fun z => UInt8.ofNat z.toNat), some a, cap, ?_, by simp; omega, .inr ?_, ?_⟩
    · simp; omega
    · simp only [Prod.mk.injEq] at hxd
      exact ⟨_, _, hxd.1, by simp [lits]⟩
    · rcases Nat.eq_zero_or_pos len with h0 | h0
      · left; rw [h0]; rfl
      · right
        have hx1 := hcell 0 (by omega)
        have hsp := add_spot hx1
        have hlt : a.block < W.heap.size := by
          have := cell_lt hx1
          simpa [Addr.add] using this
        obtain ⟨b, o, s⟩ := a
        simp only [Addr.mk.injEq, true_and] at hsp
        subst hsp
        refine ⟨b, o, rfl, hlt, fun j x hx => ?_⟩
        have hj : j < len := by
          have := (List.getElem?_eq_some_iff.1 hx).1
          simp at this; omega
        have hq := hcell j (by omega)
        rw [add_none] at hq
        rw [List.getElem?_map, List.getElem?_take_of_lt hj] at hx
        rw [hq]
        have hzj : j < zs.length := by omega
        rw [List.getElem?_eq_getElem hzj] at hx
        simp only [Option.map_some, Option.some.injEq] at hx
        have hb := bounds_u8 (hwz zs[j] (List.getElem_mem _))
        have : zs.getD j 0 = zs[j] := by simp [List.getD, List.getElem?_eq_getElem hzj]
        rw [this, ← hx]
        congr 2
        simp only [UInt8.toNat_ofNat']
        omega
end
end Go.Proofs.Ytopgakdgifmecaa

/-! OPENING ARGUMENTS more: slices of bytes, what nil says; arrays of bytes by value. CONDITIONS: each theorem's own hypotheses. -/
namespace Go.Proofs.Ytopgakdgifmecaa
open Go.ChangeShapes Go.WideShapes Go.RowKit Go.Deep Go.Joins CodeMath
open Go.ChangeMaps (open_string shut_string)
set_option linter.unusedVariables false

set_option maxRecDepth 100000
section
variable {H : Type} {enc : TypeId × Value → H} {W : World} {base : Nat} {v : Value} {d : DataW H} {p : List MemPlace}
theorem open_byteslice3 (hval : Value.okWide Try.prog W .any base 55 v) (h : DataW.Trod enc Try.prog W 0 (fun _ => true) true 55 v d p) :
    ∃ (l : List UInt8) (ao : Option Addr) (cap : Nat), v = .slice ao l.length cap ∧ l.length ≤ cap ∧ (l = [] ∨ ∃ el sp, d = .slice el sp ∧ el.length = l.length) ∧ (ao = none → cap = 0) ∧ Bytes W ao l := by
  obtain ⟨ao, len, cap, rfl⟩ := okWide_slice Try.underlying55 hval
  obtain ⟨fuel, hf⟩ := h
  rcases open_ints Try.underlying55 Try.underlying5 (by kernel_rfl) hf with ⟨hcs, _⟩ | ⟨a, len', cap', zs, hcs, _, hl, hm, hz, hxd, hcell, hwz⟩
  · simp [Value.cells] at hcs
    obtain ⟨rfl, rfl, rfl⟩ := hcs
    exact ⟨[], none, 0, rfl, Nat.le_refl _, .inl rfl, fun _ => rfl, .inl rfl⟩
  · simp [Value.cells] at hcs
    obtain ⟨rfl, rfl, rfl⟩ := hcs
    have hzl : len ≤ zs.length := by rw [hz]; simp; exact hl
    refine ⟨(zs.take len).map (fun z => UInt8.ofNat z.toNat), some a, cap, ?_, by simp; omega, .inr ?_, (fun h => by cases h), ?_⟩
    · simp; omega
    · simp only [Prod.mk.injEq] at hxd
      exact ⟨_, _, hxd.1, by simp [lits]⟩
    · rcases Nat.eq_zero_or_pos len with h0 | h0
      · left; rw [h0]; rfl
      · right
        have hx1 := hcell 0 (by omega)
        have hsp := add_spot hx1
        have hlt : a.block < W.heap.size := by
          have := cell_lt hx1
          simpa [Addr.add] using this
        obtain ⟨b, o, s⟩ := a
        simp only [Addr.mk.injEq, true_and] at hsp
        subst hsp
        refine ⟨b, o, rfl, hlt, fun j x hx => ?_⟩
        have hj : j < len := by
          have := (List.getElem?_eq_some_iff.1 hx).1
          simp at this; omega
        have hq := hcell j (by omega)
        rw [add_none] at hq
        rw [List.getElem?_map, List.getElem?_take_of_lt hj] at hx
        rw [hq]
        have hzj : j < zs.length := by omega
        rw [List.getElem?_eq_getElem hzj] at hx
        simp only [Option.map_some, Option.some.injEq] at hx
        have hb := bounds_u8 (hwz zs[j] (List.getElem_mem _))
        have : zs.getD j 0 = zs[j] := by simp [List.getD, List.getElem?_eq_getElem hzj]
        rw [this, ← hx]
        congr 2
        simp only [UInt8.toNat_ofNat']
        omega
theorem okWide_array {r : Reach} {t e : TypeId} {n : Nat} (ht : Try.prog.underlying t = some (.array n e)) (h : Value.okWide Try.prog W r base t v) : ∃ cs, v = .agg cs ∧ cs.size = Try.prog.cellsOf t := by
  unfold Value.okWide at h
  rw [ht] at h
  obtain ⟨cs, h1, h2, _⟩ := h
  exact ⟨cs, h1, h2⟩
/-- An array of bytes, by value. -/
theorem open_u8s {t : TypeId} {n : Nat} (ht : Try.prog.underlying t = some (.array n 5)) (hC : Try.prog.cellsOf t = n) (hval : Value.okWide Try.prog W .any base t v) (h : DataW.Trod enc Try.prog W 0 (fun _ => true) true t v d p) :
    ∃ l : List UInt8, l.length = n ∧ v = .agg (l.map fun x => Value.int .u8 x.toNat).toArray := by
  obtain ⟨cs, rfl, hsz⟩ := okWide_array ht hval
  obtain ⟨fuel, hf⟩ := h
  obtain ⟨xs, m, _, hx, hlen, hxl, hel⟩ := DataW.trod_array ht hf
  have hce : Try.prog.cellsOf 5 = 1 := by kernel_rfl
  rw [hce] at hel
  have hp : ∀ i, i < n → ∃ c : UInt8, (Value.agg cs).cells.toList[i]? = some (.int .u8 c.toNat) := by
    intro i hi
    have h1 := hel i hi
    have hil : i < cs.size := by omega
    have hcl : (Value.agg cs).cells = cs := rfl
    rw [hcl] at h1 ⊢
    rw [Nat.mul_one] at h1
    have h2 : (cs.toList.drop i).take 1 = [cs[i]] := by
      rw [List.drop_eq_getElem_cons (by simpa using hil)]
      simp
    rw [h2] at h1
    have hxi : i < xs.length := by omega
    rw [List.getElem?_eq_getElem hxi] at h1
    obtain ⟨z, e1, _, wz⟩ := DataW.trod_int Try.underlying5 h1
    simp only [List.cons.injEq, and_true] at e1
    have hb := bounds_u8 wz
    refine ⟨UInt8.ofNat z.toNat, ?_⟩
    rw [List.getElem?_eq_getElem (by simpa using hil)]
    simp only [Array.getElem_toList]
    rw [e1]
    congr 2
    simp only [UInt8.toNat_ofNat']
    omega
  refine ⟨(List.range n).map (fun i => (match (Value.agg cs).cells.toList[i]? with | some (Value.int IntKind.u8 z) => UInt8.ofNat z.toNat | _ => 0)), by simp, ?_⟩
  congr 1
  apply Array.ext
  · simp [hsz, hC]
  · intro i h1 h2
    have hi : i < n := by omega
    obtain ⟨c, hc⟩ := hp i hi
    simp only [List.getElem_toArray, List.getElem_map]
    rw [List.getElem_range]
    rw [hc]
    have hcl : (Value.agg cs).cells = cs := rfl
    rw [hcl, List.getElem?_eq_getElem (by simpa using h1)] at hc
    simp only [Array.getElem_toList, Option.some.injEq] at hc
    rw [hc]
    congr 1
    simp
end
end Go.Proofs.Ytopgakdgifmecaa

/-! OPENING ARGUMENTS that are slices of bytes, with all that is known of them. CONDITIONS: each theorem's own hypotheses. -/
namespace Go.Proofs.Ytopgakdgifmecaa
open Go.ChangeShapes Go.WideShapes Go.RowKit Go.Deep Go.Joins CodeMath
open Go.ChangeMaps (open_string shut_string)
set_option linter.unusedVariables false

set_option maxRecDepth 100000
section
variable {H : Type} {enc : TypeId × Value → H} {W : World} {base : Nat} {v : Value} {d : DataW H} {p : List MemPlace}
theorem open_byteslice4 (hval : Value.okWide Try.prog W .any base 55 v) (h : DataW.Trod enc Try.prog W 0 (fun _ => true) true 55 v d p) :
    ∃ (l : List UInt8) (ao : Option Addr) (cap : Nat), v = .slice ao l.length cap ∧ l.length ≤ cap ∧ cap ≤ 9223372036854775807 ∧ (l = [] ∨ ∃ el sp, d = .slice el sp ∧ el.length = l.length) ∧ (ao = none → cap = 0) ∧ Bytes W ao l := by
  obtain ⟨l, ao, cap, rfl, h1, h2, h3, h4⟩ := open_byteslice3 hval h
  obtain ⟨l', ao', cap', e, _, h5, _⟩ := open_byteslice hval h
  simp only [Value.slice.injEq] at e
  exact ⟨l, ao, cap, rfl, h1, by omega, h2, h3, h4⟩
end
end Go.Proofs.Ytopgakdgifmecaa
