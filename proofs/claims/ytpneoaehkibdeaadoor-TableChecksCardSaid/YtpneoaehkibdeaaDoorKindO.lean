/-
  OPENING ARGUMENTS that are slices of columns.
  CONDITIONS: each theorem's own hypotheses.
-/
import Derived.Test.YtpneoaehkibdeaaDoorKindM
import Derived.Test.YtpneoaehkibdeaaDoorRawL
import Derived.Test.YtpneoaehkibdeaaDoorStr0
namespace Go.Proofs.YtpneoaehkibdeaaDoor
open Go.ChangeShapes Go.WideShapes Go.RowKit Go.Deep Go.Joins
open Go.ChangeMaps (open_string shut_string)
set_option linter.unusedVariables false
set_option maxRecDepth 100000

structure FitC (c : Cl) : Prop where
  k0 : -9223372036854775808 ≤ c.k
  k1 : c.k ≤ 9223372036854775807
  n1 : c.n.length ≤ 9223372036854775807
def LiesC (W : World) (a o : Nat) (l : List Cl) : Prop := ∀ j c, l[j]? = some c → W.cell? ⟨a, o + j * 3, none⟩ = some (.string (str c.n)) ∧ W.cell? ⟨a, o + j * 3 + 1, none⟩ = some (.int .i64 c.k) ∧ W.cell? ⟨a, o + j * 3 + 2, none⟩ = some (.bool c.nl)
def Cols (W : World) (ao : Option Addr) (l : List Cl) : Prop := (∀ c ∈ l, FitC c) ∧ (l = [] ∨ ∃ a o, ao = some ⟨a, o, none⟩ ∧ a < W.heap.size ∧ LiesC W a o l)
theorem Cols.keep {w w1 : World} {ao : Option Addr} {l : List Cl} (h : Cols w ao l) (hb : Below w.heap.size w w1) : Cols w1 ao l := by
  refine ⟨h.1, ?_⟩
  rcases h.2 with h | ⟨a, o, h1, h2, h3⟩
  · exact .inl h
  · refine .inr ⟨a, o, h1, Nat.lt_of_lt_of_le h2 hb.size, fun j v hv => ?_⟩
    obtain ⟨c0, c1, c2⟩ := h3 j v hv
    exact ⟨(hb.cell (p := ⟨a, _, none⟩) h2).trans c0, (hb.cell (p := ⟨a, _, none⟩) h2).trans c1, (hb.cell (p := ⟨a, _, none⟩) h2).trans c2⟩
section
variable {H : Type} {enc : TypeId × Value → H} {W : World} {base : Nat} {v : Value} {d : DataW H} {p : List MemPlace}
theorem col_fields : ∃ f0 f1 f2 : Field, Tryd.prog.underlying 67 = some (.struct #[f0, f1, f2]) ∧ (f0.type = 9 ∧ f0.offset = 0) ∧ (f1.type = 3 ∧ f1.offset = 1) ∧ (f2.type = 4 ∧ f2.offset = 2) := ⟨_, _, _, rfl, ⟨rfl, rfl⟩, ⟨rfl, rfl⟩, ⟨rfl, rfl⟩⟩
theorem open_cols (hval : Value.okWide Tryd.prog W .any base 22 v) (h : DataW.Trod enc Tryd.prog W 0 (fun _ => true) true 22 v d p) :
    ∃ (l : List Cl) (ao : Option Addr) (cap : Nat), v = .slice ao l.length cap ∧ l.length ≤ cap ∧ cap ≤ 9223372036854775807 ∧ Cols W ao l := by
  obtain ⟨ao, len, cap, rfl⟩ := okWide_slice Tryd.underlying22 hval
  obtain ⟨fuel, hf⟩ := h
  rcases open_slice Tryd.underlying22 hf with ⟨hcs, _⟩ | ⟨a, len', cap', m, n, D, Pl, hcs, _, hl, hm, hmm, _, hel⟩
  · simp [Value.cells] at hcs
    obtain ⟨rfl, rfl, rfl⟩ := hcs
    exact ⟨[], none, 0, rfl, Nat.le_refl _, Nat.zero_le _, by simp, .inl rfl⟩
  · simp [Value.cells] at hcs
    obtain ⟨rfl, rfl, rfl⟩ := hcs
    simp only [if_true] at hmm
    rw [show Tryd.prog.cellsOf 67 = 3 by kernel_rfl] at hel
    have c1 : Tryd.prog.cellsOf 3 = 1 := by kernel_rfl
    have cS : Tryd.prog.cellsOf 9 = 1 := by kernel_rfl
    have cB : Tryd.prog.cellsOf 4 = 1 := by kernel_rfl
    have hD : ∀ i, i < len → ∃ c : Cl, FitC c ∧ W.cells? 0 (a.add (i * 3)) 3 = some [.string (str c.n), .int .i64 c.k, .bool c.nl] := fun i hi => by
      obtain ⟨cs, g1, g2⟩ := hel i (by omega)
      obtain ⟨_, hlen, _⟩ := World.cells?_some g1
      obtain ⟨f0, f1, f2, hs, ⟨t0, o0⟩, ⟨t1, o1⟩, ⟨t2, o2⟩⟩ := col_fields
      obtain ⟨y0, y1, y2, n', _, _, h0, h1, h2⟩ := trod_struct3 hs g2
      match cs, hlen with
      | [v0, v1, v2], _ =>
        rw [t0, o0, cS] at h0
        rw [t1, o1, c1] at h1
        rw [t2, o2, cB] at h2
        obtain ⟨s, e0, _, w0⟩ := DataW.trod_string Tryd.underlying9 h0
        obtain ⟨k, e1, _, w1⟩ := DataW.trod_int Tryd.underlying3 h1
        obtain ⟨b, e2, _⟩ := DataW.trod_bool Tryd.underlying4 h2
        simp at e0 e1 e2
        subst e0 e1 e2
        have b1 := bounds_i64 w1
        have z : s.size ≤ 9223372036854775807 := by have := w0; unfold maxLen at this; omega
        exact ⟨⟨s.data.toList, k, b⟩, ⟨b1.1, b1.2, by rw [← Lib.size_eq]; exact z⟩, by rw [g1, ← str_eq s]⟩
    obtain ⟨l, hll, hlp⟩ := list_of hD
    subst hll
    refine ⟨l, _, _, rfl, hl, by unfold maxLen at hm; omega, fun c hc => ?_, ?_⟩
    · obtain ⟨j, hj⟩ := List.mem_iff_getElem?.1 hc
      exact (hlp j c hj).1
    · rcases Nat.eq_zero_or_pos l.length with h0 | h0
      · exact .inl (List.length_eq_zero_iff.1 h0)
      · right
        have hcell : ∀ i t, l[i]? = some t → ∀ q x, ([.string (str t.n), .int .i64 t.k, .bool t.nl] : List Value)[q]? = some x → W.cell? ((a.add (i * 3)).add q) = some x := fun i t ht q x hx => by
          obtain ⟨_, _, hq⟩ := World.cells?_some (hlp i t ht).2
          have hq3 : q < 3 := (List.getElem?_eq_some_iff.1 hx).1
          rw [hq q hq3]; exact hx
        have hx1 := hcell 0 l[0] (List.getElem?_eq_getElem h0) 0 _ rfl
        have hx2 : W.cell? (a.add 0) = some (.string (str l[0].n)) := by rw [Nat.zero_mul] at hx1; simpa [Addr.add] using hx1
        have hsp := add_spot hx2
        have hlt : a.block < W.heap.size := by
          have := cell_lt hx2
          simpa [Addr.add] using this
        obtain ⟨b, o, s⟩ := a
        simp only [Addr.mk.injEq, true_and] at hsp
        subst hsp
        refine ⟨b, o, rfl, hlt, fun i t ht => ?_⟩
        have k0 := hcell i t ht 0 _ rfl
        have k1 := hcell i t ht 1 _ rfl
        have k2 := hcell i t ht 2 _ rfl
        rw [add_none, add_none] at k0 k1 k2
        exact ⟨k0, k1, k2⟩
end
end Go.Proofs.YtpneoaehkibdeaaDoor
