/-
  OPENING ARGUMENTS that are slices of raw things, over stage 1's texts (ValA ..): the same names as in Raws, CodeR and Open: never two of these in one seat. Here a raw thing's B has bounds, too.
  CONDITIONS: each theorem's own hypotheses.
-/
import Derived.Test.YtpneoaehkibdeaaDoorGValB
import Derived.Deep.Slices
import Derived.Lib.SmallJoins
import Derived.OpenShut
import Derived.Carry
namespace Go.Proofs.YtpneoaehkibdeaaDoor
open Go.ChangeShapes Go.WideShapes Go.RowKit Go.Deep Go.Joins
open Go.ChangeMaps (open_string shut_string)
set_option linter.unusedVariables false

structure R where
  k : Int
  a : Int
  b : Int
  s : ByteArray
structure R.Fits (r : R) : Prop where
  k0 : -9223372036854775808 ≤ r.k
  k1 : r.k ≤ 9223372036854775807
  a0 : -9223372036854775808 ≤ r.a
  a1 : r.a ≤ 9223372036854775807
  b0 : -9223372036854775808 ≤ r.b
  b1 : r.b ≤ 9223372036854775807
def LiesR (w : World) (a : Nat) (o : Nat) (l : List R) : Prop :=
  ∀ j v, l[j]? = some v → w.cell? ⟨a, o + j * 4, none⟩ = some (.int .i64 v.k) ∧ w.cell? ⟨a, o + j * 4 + 1, none⟩ = some (.int .i64 v.a) ∧ w.cell? ⟨a, o + j * 4 + 2, none⟩ = some (.int .i64 v.b) ∧ w.cell? ⟨a, o + j * 4 + 3, none⟩ = some (.string v.s)
def Raws (w : World) (ao : Option Addr) (l : List R) : Prop := (∀ r ∈ l, r.Fits) ∧ (l = [] ∨ ∃ a o, ao = some ⟨a, o, none⟩ ∧ a < w.heap.size ∧ LiesR w a o l)

theorem Raws.keep {w w1 : World} {ao : Option Addr} {l : List R} (h : Raws w ao l) (hb : Below w.heap.size w w1) : Raws w1 ao l := by
  refine ⟨h.1, ?_⟩
  rcases h.2 with h | ⟨a, o, h1, h2, h3⟩
  · exact .inl h
  · refine .inr ⟨a, o, h1, Nat.lt_of_lt_of_le h2 hb.size, fun j v hv => ?_⟩
    obtain ⟨c0, c1, c2, c3⟩ := h3 j v hv
    exact ⟨(hb.cell (p := ⟨a, _, none⟩) h2).trans c0, (hb.cell (p := ⟨a, _, none⟩) h2).trans c1, (hb.cell (p := ⟨a, _, none⟩) h2).trans c2, (hb.cell (p := ⟨a, _, none⟩) h2).trans c3⟩
set_option maxRecDepth 100000
theorem list_of {α : Type} : ∀ {n : Nat} {p : Nat → α → Prop} (h : ∀ i, i < n → ∃ x, p i x), ∃ l : List α, l.length = n ∧ ∀ j x, l[j]? = some x → p j x
  | 0, p, h => ⟨[], rfl, fun j x hx => by simp at hx⟩
  | n + 1, p, h => by
    obtain ⟨l, hl, hp⟩ := list_of (n := n) (p := p) (fun i hi => h i (by omega))
    obtain ⟨x, hx⟩ := h n (by omega)
    refine ⟨l ++ [x], by simp [hl], fun j y hy => ?_⟩
    by_cases hj : j < l.length
    · rw [List.getElem?_append_left hj] at hy; exact hp j y hy
    · rw [List.getElem?_append_right (by omega)] at hy
      have : j - l.length = 0 := by
        rcases Nat.eq_zero_or_pos (j - l.length) with h0 | h0
        · exact h0
        · rw [List.getElem?_eq_none (by simp; omega)] at hy; cases hy
      rw [this] at hy
      simp only [List.getElem?_cons_zero, Option.some.injEq] at hy
      rw [← hy, show j = n by omega]; exact hx
section
variable {H : Type} {enc : TypeId × Value → H} {W : World} {base : Nat} {v : Value} {d : DataW H} {p : List MemPlace}
theorem add_spot {a : Addr} {x : Value} (h : W.cell? (a.add 0) = some x) : a = ⟨a.block, a.off, none⟩ := by
  have e : a.add 0 = a := by simp [Addr.add]
  rw [e] at h
  unfold World.cell? at h
  obtain ⟨b, o, s⟩ := a
  cases s with
  | none => rfl
  | some q => split at h <;> simp at h
theorem add_none (b o i : Nat) : (⟨b, o, none⟩ : Addr).add i = ⟨b, o + i, none⟩ := by unfold Addr.add; split <;> simp_all
theorem cell_lt {a : Addr} {x : Value} (h : W.cell? a = some x) : a.block < W.heap.size := World.block_lt_of_cell? W a h
/-- A slice of structs of four one-cell fields. -/
theorem open4 {t e : TypeId} {f0 f1 f2 f3 : Field} (ht : Tryd.prog.underlying t = some (.slice e)) (he : Tryd.prog.underlying e = some (.struct #[f0, f1, f2, f3])) (hone : oneCellFields Tryd.prog #[f0, f1, f2, f3] = true) (hC : Tryd.prog.cellsOf e = 4)
    (hval : Value.okWide Tryd.prog W .any base t v) (h : DataW.Trod enc Tryd.prog W 0 (fun _ => true) true t v d p) :
    ∃ ao len cap, v = .slice ao len cap ∧ len ≤ cap ∧ cap ≤ 9223372036854775807 ∧ (len = 0 ∨ ∃ a o, ao = some ⟨a, o, none⟩ ∧ a < W.heap.size ∧ ∀ i, i < len → ∃ q : Value × Value × Value × Value,
      W.cell? ⟨a, o + i * 4, none⟩ = some q.1 ∧ W.cell? ⟨a, o + i * 4 + 1, none⟩ = some q.2.1 ∧ W.cell? ⟨a, o + i * 4 + 2, none⟩ = some q.2.2.1 ∧ W.cell? ⟨a, o + i * 4 + 3, none⟩ = some q.2.2.2 ∧
      ∃ n y0 y1 y2 y3, DataW.trod enc Tryd.prog W 0 (fun _ => true) true n f0.type [q.1] = some y0 ∧ DataW.trod enc Tryd.prog W 0 (fun _ => true) true n f1.type [q.2.1] = some y1 ∧ DataW.trod enc Tryd.prog W 0 (fun _ => true) true n f2.type [q.2.2.1] = some y2 ∧ DataW.trod enc Tryd.prog W 0 (fun _ => true) true n f3.type [q.2.2.2] = some y3) := by
  obtain ⟨ao, len, cap, rfl⟩ := okWide_slice ht hval
  obtain ⟨fuel, hf⟩ := h
  rcases open_slice ht hf with ⟨hcs, _⟩ | ⟨a, len', cap', m, n, D, Pl, hcs, _, hl, hm, hmm, _, hel⟩
  · simp [Value.cells] at hcs
    obtain ⟨rfl, rfl, rfl⟩ := hcs
    exact ⟨none, 0, 0, rfl, Nat.le_refl _, Nat.zero_le _, .inl rfl⟩
  · simp [Value.cells] at hcs
    obtain ⟨rfl, rfl, rfl⟩ := hcs
    refine ⟨_, _, _, rfl, hl, by unfold maxLen at hm; omega, ?_⟩
    rcases Nat.eq_zero_or_pos len with h0 | h0
    · exact .inl h0
    · right
      have hml : len ≤ m := by rw [hmm]; simp; exact hl
      rw [hC] at hel
      obtain ⟨cs0, g0, _⟩ := hel 0 (by omega)
      have hlen0 := (World.cells?_some g0)
      have hs := hlen0.2.2 0 (by decide)
      have hc0 : ∃ x, W.cell? ((a.add (0 * 4)).add 0) = some x := by
        rw [hs]
        have : 0 < cs0.length := by rw [hlen0.2.1]; decide
        exact ⟨cs0[0], List.getElem?_eq_getElem this⟩
      obtain ⟨x0, hx0⟩ := hc0
      have hx1 : W.cell? (a.add 0) = some x0 := by rw [Nat.zero_mul] at hx0; simpa [Addr.add] using hx0
      have hsp := add_spot hx1
      have hlt : a.block < W.heap.size := by
        have := cell_lt hx1
        simpa [Addr.add] using this
      obtain ⟨b, o, s⟩ := a
      simp only [Addr.mk.injEq, true_and] at hsp
      subst hsp
      refine ⟨b, o, rfl, hlt, fun i hi => ?_⟩
      obtain ⟨cs, g1, g2⟩ := hel i (by omega)
      obtain ⟨_, hlen, hcell⟩ := World.cells?_some g1
      match cs, hlen with
      | [c0, c1, c2, c3], _ =>
        obtain ⟨y0, y1, y2, y3, n', _, _, t0, t1, t2, t3⟩ := trod_struct4 he g2
        obtain ⟨o0, k0⟩ := hone_of hone 0 f0 rfl
        obtain ⟨o1, k1⟩ := hone_of hone 1 f1 rfl
        obtain ⟨o2, k2⟩ := hone_of hone 2 f2 rfl
        obtain ⟨o3, k3⟩ := hone_of hone 3 f3 rfl
        have q0 := hcell 0 (by decide)
        have q1 := hcell 1 (by decide)
        have q2 := hcell 2 (by decide)
        have q3 := hcell 3 (by decide)
        rw [add_none, add_none] at q0 q1 q2 q3
        exact ⟨(c0, c1, c2, c3), q0, q1, q2, q3, n', y0, y1, y2, y3, by simpa [o0, k0] using t0, by simpa [o1, k1] using t1, by simpa [o2, k2] using t2, by simpa [o3, k3] using t3⟩
theorem open_raws (hval : Value.okWide Tryd.prog W .any base 51 v) (h : DataW.Trod enc Tryd.prog W 0 (fun _ => true) true 51 v d p) :
    ∃ (l : List R) (ao : Option Addr) (cap : Nat), v = .slice ao l.length cap ∧ l.length ≤ cap ∧ cap ≤ 9223372036854775807 ∧ Raws W ao l := by
  obtain ⟨ao, len, cap, rfl, h1, h2, h3⟩ := open4 Tryd.underlying51 Tryd.underlying89 (by kernel_rfl) (by kernel_rfl) hval h
  rcases h3 with rfl | ⟨a, o, rfl, ha, hel⟩
  · exact ⟨[], ao, cap, rfl, h1, h2, by simp, .inl rfl⟩
  · obtain ⟨l, hl, hp⟩ := list_of (n := len) (p := fun i (r : R) => r.Fits ∧ W.cell? ⟨a, o + i * 4, none⟩ = some (.int .i64 r.k) ∧ W.cell? ⟨a, o + i * 4 + 1, none⟩ = some (.int .i64 r.a) ∧ W.cell? ⟨a, o + i * 4 + 2, none⟩ = some (.int .i64 r.b) ∧ W.cell? ⟨a, o + i * 4 + 3, none⟩ = some (.string r.s)) (fun i hi => by
      obtain ⟨⟨q0, q1, q2, q3⟩, c0, c1, c2, c3, n, y0, y1, y2, y3, t0, t1, t2, t3⟩ := hel i hi
      obtain ⟨k, e0, _, w0⟩ := DataW.trod_int Tryd.underlying3 t0
      obtain ⟨x, e1, _, w1⟩ := DataW.trod_int Tryd.underlying3 t1
      obtain ⟨y, e2, _, w2⟩ := DataW.trod_int Tryd.underlying3 t2
      obtain ⟨s, e3, _, w3⟩ := DataW.trod_string Tryd.underlying9 t3
      simp at e0 e1 e2 e3
      subst e0 e1 e2 e3
      have b0 := bounds_i64 w0
      have b1 := bounds_i64 w1
      have b2 := bounds_i64 w2
      exact ⟨⟨k, x, y, s⟩, ⟨b0.1, b0.2, b1.1, b1.2, b2.1, b2.2⟩, c0, c1, c2, c3⟩)
    subst hl
    refine ⟨l, _, cap, rfl, h1, h2, fun r hr => ?_, .inr ⟨a, o, rfl, ha, fun j r hr => (hp j r hr).2⟩⟩
    obtain ⟨j, hj⟩ := List.mem_iff_getElem?.1 hr
    exact (hp j r hj).1
/-- A slice of numbers. -/
def Ints (W : World) (ao : Option Addr) (l : List Int) : Prop := (∀ x ∈ l, -9223372036854775808 ≤ x ∧ x ≤ 9223372036854775807) ∧ (l = [] ∨ ∃ a o, ao = some ⟨a, o, none⟩ ∧ a < W.heap.size ∧ ∀ j x, l[j]? = some x → W.cell? ⟨a, o + j, none⟩ = some (.int .i64 x))
theorem open_intslice (hval : Value.okWide Tryd.prog W .any base 101 v) (h : DataW.Trod enc Tryd.prog W 0 (fun _ => true) true 101 v d p) :
    ∃ (l : List Int) (ao : Option Addr) (cap : Nat), v = .slice ao l.length cap ∧ l.length ≤ cap ∧ cap ≤ 9223372036854775807 ∧ Ints W ao l := by
  obtain ⟨ao, len, cap, rfl⟩ := okWide_slice Tryd.underlying101 hval
  obtain ⟨fuel, hf⟩ := h
  rcases open_ints Tryd.underlying101 Tryd.underlying3 (by kernel_rfl) hf with ⟨hcs, _⟩ | ⟨a, len', cap', zs, hcs, _, hl, hm, hz, hxd, hcell, hwz⟩
  · simp [Value.cells] at hcs
    obtain ⟨rfl, rfl, rfl⟩ := hcs
    exact ⟨[], none, 0, rfl, Nat.le_refl _, Nat.zero_le _, by simp, .inl rfl⟩
  · simp [Value.cells] at hcs
    obtain ⟨rfl, rfl, rfl⟩ := hcs
    have hzl : len ≤ zs.length := by rw [hz]; simp; exact hl
    have hlen : (zs.take len).length = len := by simp; omega
    refine ⟨zs.take len, _, _, by rw [hlen], by rw [hlen]; exact hl, by unfold maxLen at hm; omega, fun x hx => ?_, ?_⟩
    · obtain ⟨j, hj⟩ := List.mem_iff_getElem?.1 (List.mem_of_mem_take hx)
      exact bounds_i64 (hwz x (List.mem_of_getElem? hj))
    · rcases Nat.eq_zero_or_pos len with h0 | h0
      · left; rw [h0]; rfl
      · right
        have hx1 := hcell 0 (by omega)
        have hsp := add_spot hx1
        have hlt : a.block < W.heap.size := by
          have := cell_lt hx1
          simpa [Addr.add] using this
        obtain ⟨b, o, s⟩ := a
        simp only [Addr.mk.injEq, true_and] at hsp
        subst hsp
        refine ⟨b, o, rfl, hlt, fun j x hx => ?_⟩
        have hj : j < len := by have := (List.getElem?_eq_some_iff.1 hx).1; omega
        have hq := hcell j (by omega)
        rw [add_none] at hq
        rw [List.getElem?_take_of_lt hj] at hx
        rw [hq]
        have hzj : j < zs.length := by omega
        rw [List.getElem?_eq_getElem hzj] at hx
        cases hx
        simp [List.getElem?_eq_getElem hzj]
end
end Go.Proofs.YtpneoaehkibdeaaDoor
