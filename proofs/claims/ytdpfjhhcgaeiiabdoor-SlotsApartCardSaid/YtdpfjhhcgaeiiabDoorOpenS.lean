/-
  OPENING ARGUMENTS that are slots, by value.
  CONDITIONS: each theorem's own hypotheses.
-/
import Derived.Test.YtdpfjhhcgaeiiabDoorRowT
import Derived.Deep.Strs
namespace Go.Proofs.YtdpfjhhcgaeiiabDoor
open Go.ChangeShapes Go.WideShapes Go.RowKit Go.Deep Go.Joins CodeMath
open Go.ChangeMaps (open_string shut_string)
set_option linter.unusedVariables false
set_option maxRecDepth 100000
/-- A slot. -/
structure Sl where
  f : Bool
  s : List UInt8
  d : List UInt8
def SlotAt (W : World) (a o : Nat) (x : Sl) : Prop := ∃ us ud, W.cell? ⟨a, o, none⟩ = some (.bool x.f) ∧ W.cell? ⟨a, o + 1, none⟩ = some us ∧ W.cell? ⟨a, o + 2, none⟩ = some ud ∧ RowV W us x.s ∧ RowV W ud x.d
/-- A slice of slots. -/
def Slots (W : World) (ao : Option Addr) (l : List Sl) : Prop := l = [] ∨ ∃ a o, ao = some ⟨a, o, none⟩ ∧ a < W.heap.size ∧ ∀ (i : Nat) (x : Sl), l[i]? = some x → SlotAt W a (o + i * 3) x
theorem SlotAt.keep {W W' : World} {a o : Nat} {x : Sl} (h : SlotAt W a o x) (ha : a < W.heap.size) (hb : Below W.heap.size W W') : SlotAt W' a o x := by
  obtain ⟨us, ud, h1, h2, h3, h4, h5⟩ := h
  exact ⟨us, ud, (hb.cell (p := ⟨a, o, none⟩) ha).trans h1, (hb.cell (p := ⟨a, o + 1, none⟩) ha).trans h2, (hb.cell (p := ⟨a, o + 2, none⟩) ha).trans h3, h4.keep hb, h5.keep hb⟩
theorem Slots.keep {W W' : World} {ao : Option Addr} {l : List Sl} (h : Slots W ao l) (hb : Below W.heap.size W W') : Slots W' ao l := by
  rcases h with h | ⟨a, o, h1, h2, h3⟩
  · exact .inl h
  · exact .inr ⟨a, o, h1, Nat.lt_of_lt_of_le h2 hb.size, fun i x hi => (h3 i x hi).keep h2 hb⟩
section
variable {H : Type} {enc : TypeId × Value → H} {W : World} {base : Nat} {v : Value} {d : DataW H} {p : List MemPlace}
theorem slot_fields : ∃ f0 f1 f2 : Field, Tryd.prog.underlying 40 = some (.struct #[f0, f1, f2]) ∧ f0.type = 4 ∧ f0.offset = 0 ∧ f1.type = 28 ∧ f1.offset = 1 ∧ f2.type = 28 ∧ f2.offset = 2 := ⟨_, _, _, rfl, rfl, rfl, rfl, rfl, rfl, rfl⟩
theorem open_slotcells {fuel : Nat} {cs : List Value} {x : DataW H × List MemPlace} (hcl : cs.length = 3) (h : DataW.trod enc Tryd.prog W 0 (fun _ => true) true fuel 40 cs = some x) :
    ∃ (f : Bool) (s dt : List UInt8) (us ud : Value), cs = [.bool f, us, ud] ∧ RowV W us s ∧ RowV W ud dt ∧ ((∀ n ∈ x.1.weights Tryd.prog 40, n ≤ reachBytes) → s.length ≤ 140737488351232 ∧ dt.length ≤ 140737488351232) := by
  obtain ⟨f0, f1, f2, hs, t0, o0, t1, o1, t2, o2⟩ := slot_fields
  obtain ⟨y0, y1, y2, n, rfl, _, h0, h1, h2⟩ := trod_struct3 hs h
  match cs, hcl with
  | [c0, c1, c2], _ =>
    have cb : Tryd.prog.cellsOf 4 = 1 := by kernel_rfl
    have cu : Tryd.prog.cellsOf 28 = 1 := by kernel_rfl
    rw [t0, o0, cb] at h0
    rw [t1, o1, cu] at h1
    rw [t2, o2, cu] at h2
    obtain ⟨f, e0, _⟩ := DataW.trod_bool Tryd.underlying4 h0
    obtain ⟨s, us, e1, r1, b1⟩ := open_row h1
    obtain ⟨dt, ud, e2, r2, b2⟩ := open_row h2
    simp at e0 e1 e2
    subst e0 e1 e2
    refine ⟨f, s, dt, _, _, rfl, r1, r2, fun hw => ⟨b1 fun n hn => hw n ?_, b2 fun n hn => hw n ?_⟩⟩
    · simp only [DataW.weights, hs, List.map_cons, List.map_nil, DataW.weightsEach, t0, t1, t2, List.mem_append]
      exact .inr (.inl hn)
    · simp only [DataW.weights, hs, List.map_cons, List.map_nil, DataW.weightsEach, t0, t1, t2, List.mem_append]
      exact .inr (.inr (.inl hn))
theorem open_slot (hval : Value.okWide Tryd.prog W .any base 40 v) (h : DataW.Trod enc Tryd.prog W 0 (fun _ => true) true 40 v d p) :
    ∃ (f : Bool) (s dt : List UInt8) (us ud : Value), v = .agg #[.bool f, us, ud] ∧ ((∀ n ∈ d.weights Tryd.prog 40, n ≤ reachBytes) → s.length ≤ 140737488351232 ∧ dt.length ≤ 140737488351232) ∧ RowV W us s ∧ RowV W ud dt := by
  obtain ⟨f0, f1, f2, hs, _⟩ := slot_fields
  obtain ⟨cs, rfl, hsz⟩ := okWide_struct hs hval
  rw [show Tryd.prog.cellsOf 40 = 3 by kernel_rfl] at hsz
  obtain ⟨fuel, hf⟩ := h
  rw [show (Value.agg cs).cells.toList = cs.toList from rfl] at hf
  obtain ⟨f, s, dt, us, ud, e, r1, r2, b⟩ := open_slotcells (by simpa using hsz) hf
  refine ⟨f, s, dt, us, ud, ?_, b, r1, r2⟩
  congr 1
  exact Array.toList_inj.1 (by rw [e])
theorem open_slots (hval : Value.okWide Tryd.prog W .any base 24 v) (h : DataW.Trod enc Tryd.prog W 0 (fun _ => true) true 24 v d p) :
    ∃ (l : List Sl) (ao : Option Addr) (cap : Nat), v = .slice ao l.length cap ∧ l.length ≤ cap ∧ cap ≤ 9223372036854775807 ∧
      ((∀ n ∈ d.weights Tryd.prog 24, n ≤ reachBytes) → l.length ≤ 140737488351232 ∧ ∀ x ∈ l, x.s.length ≤ 140737488351232 ∧ x.d.length ≤ 140737488351232) ∧ Slots W ao l := by
  obtain ⟨ao, len, cap, rfl⟩ := okWide_slice Tryd.underlying24 hval
  obtain ⟨fuel, hf⟩ := h
  rcases open_slice Tryd.underlying24 hf with ⟨hcs, _⟩ | ⟨a, len', cap', m, n, D, Pl, hcs, _, hl, hm, hmm, hxd, hel⟩
  · simp [Value.cells] at hcs
    obtain ⟨rfl, rfl, rfl⟩ := hcs
    exact ⟨[], none, 0, rfl, Nat.le_refl _, Nat.zero_le _, fun _ => ⟨by simp, by simp⟩, .inl rfl⟩
  · simp [Value.cells] at hcs
    obtain ⟨rfl, rfl, rfl⟩ := hcs
    simp only [if_true] at hmm
    have hC : Tryd.prog.cellsOf 40 = 3 := by kernel_rfl
    rw [hC] at hel
    have hD : ∀ i, i < len → ∃ x : Sl, (∃ us ud cs, W.cells? 0 (a.add (i * 3)) 3 = some cs ∧ cs = [.bool x.f, us, ud] ∧ RowV W us x.s ∧ RowV W ud x.d) ∧ ((∀ n ∈ (D i).weights Tryd.prog 40, n ≤ reachBytes) → x.s.length ≤ 140737488351232 ∧ x.d.length ≤ 140737488351232) := fun i hi => by
      obtain ⟨cs, g1, g2⟩ := hel i (by omega)
      obtain ⟨_, hlen, _⟩ := World.cells?_some g1
      obtain ⟨f, s, dt, us, ud, e, r1, r2, b⟩ := open_slotcells hlen g2
      exact ⟨⟨f, s, dt⟩, ⟨us, ud, cs, g1, e, r1, r2⟩, b⟩
    obtain ⟨l, hll, hlp⟩ := row_list hD
    subst hll
    refine ⟨l, _, _, rfl, hl, by unfold maxLen at hm; omega, fun hw => ⟨?_, fun x hx => ?_⟩, ?_⟩
    · simp only [Prod.mk.injEq] at hxd
      rw [hxd.1] at hw
      have := hw _ (by simp only [DataW.weights, Tryd.underlying24]; exact List.mem_cons_self ..)
      rw [show Tryd.prog.bytesOf 40 = 56 by kernel_rfl] at this
      simp only [List.length_map, List.length_range, reachBytes] at this
      omega
    · obtain ⟨i, hi⟩ := List.mem_iff_getElem?.1 hx
      refine (hlp i x hi).2 (fun n hn => hw n ?_)
      have hil : i < l.length := (List.getElem?_eq_some_iff.1 hi).1
      simp only [Prod.mk.injEq] at hxd
      rw [hxd.1]
      simp only [DataW.weights, Tryd.underlying24]
      refine List.mem_cons_of_mem _ (List.mem_append.2 (.inl (weights_all _ (D i) ?_ n hn)))
      exact List.mem_map.2 ⟨i, List.mem_range.2 hil, rfl⟩
    · rcases Nat.eq_zero_or_pos l.length with h0 | h0
      · exact .inl (List.length_eq_zero_iff.1 h0)
      · right
        obtain ⟨cs0, g0, _⟩ := hel 0 (by omega)
        have hlen0 := World.cells?_some g0
        have hs := hlen0.2.2 0 (by decide)
        have hc0 : ∃ x, W.cell? ((a.add (0 * 3)).add 0) = some x := by
          rw [hs]
          have : 0 < cs0.length := by rw [hlen0.2.1]; decide
          exact ⟨cs0[0], List.getElem?_eq_getElem this⟩
        obtain ⟨x0, hx0⟩ := hc0
        have hx1 : W.cell? (a.add 0) = some x0 := by rw [Nat.zero_mul] at hx0; simpa [Addr.add] using hx0
        have hsp := add_spot hx1
        have hlt : a.block < W.heap.size := by
          have := cell_lt hx1
          simpa [Addr.add] using this
        obtain ⟨b, o, q⟩ := a
        simp only [Addr.mk.injEq, true_and] at hsp
        subst hsp
        refine ⟨b, o, rfl, hlt, fun i x hi => ?_⟩
        obtain ⟨us, ud, cs, g1, e, r1, r2⟩ := (hlp i x hi).1
        obtain ⟨_, _, hcell⟩ := World.cells?_some g1
        have q0 := hcell 0 (by decide)
        have q1 := hcell 1 (by decide)
        have q2 := hcell 2 (by decide)
        rw [add_none, add_none] at q0 q1 q2
        rw [e] at q0 q1 q2
        exact ⟨us, ud, q0, q1, q2, r1, r2⟩
end
end Go.Proofs.YtdpfjhhcgaeiiabDoor
