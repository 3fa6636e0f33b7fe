/-
  OPENING ARGUMENTS that are covers, by value, and slices of bools.
  CONDITIONS: each theorem's own hypotheses.
-/
import Derived.Test.YtcnemacakjemjaaDoorCovA
import Derived.Deep.Grids
namespace Go.Proofs.YtcnemacakjemjaaDoor
open Go.ChangeShapes Go.WideShapes Go.RowKit Go.Deep Go.Joins CodeMath
open Go.ChangeMaps (open_string shut_string)
set_option linter.unusedVariables false

set_option maxRecDepth 100000
section
variable {H : Type} {enc : TypeId × Value → H} {W : World} {base : Nat} {v : Value} {d : DataW H} {p : List MemPlace}
theorem open_slotsC {fuel : Nat} {cs0 : List Value} {x0 : DataW H × List MemPlace} (hf : DataW.trod enc Tryd.prog W 0 (fun _ => true) true fuel 22 cs0 = some x0) :
    ∃ (l : List Sl) (ao : Option Addr) (cap : Nat), cs0 = [.slice ao l.length cap] ∧ l.length ≤ cap ∧ cap ≤ 9223372036854775807 ∧
      ((∀ n ∈ x0.1.weights Tryd.prog 22, n ≤ reachBytes) → l.length ≤ 140737488351232 ∧ ∀ x ∈ l, x.s.length ≤ 140737488351232 ∧ x.d.length ≤ 140737488351232) ∧ Slots W ao l := by
  rcases open_slice Tryd.underlying22 hf with ⟨hcs, _⟩ | ⟨a, len, cap, m, n, D, Pl, hcs, _, hl, hm, hmm, hxd, hel⟩
  · subst hcs
    exact ⟨[], none, 0, rfl, Nat.le_refl _, Nat.zero_le _, fun _ => ⟨by simp, by simp⟩, .inl rfl⟩
  · subst hcs
    simp only [if_true] at hmm
    have hC : Tryd.prog.cellsOf 39 = 3 := by kernel_rfl
    rw [hC] at hel
    have hD : ∀ i, i < len → ∃ x : Sl, (∃ us ud cs, W.cells? 0 (a.add (i * 3)) 3 = some cs ∧ cs = [.bool x.f, us, ud] ∧ RowV W us x.s ∧ RowV W ud x.d) ∧ ((∀ n ∈ (D i).weights Tryd.prog 39, n ≤ reachBytes) → x.s.length ≤ 140737488351232 ∧ x.d.length ≤ 140737488351232) := fun i hi => by
      obtain ⟨cs, g1, g2⟩ := hel i (by omega)
      obtain ⟨_, hlen, _⟩ := World.cells?_some g1
      obtain ⟨f, s, dt, us, ud, e, r1, r2, b⟩ := open_slotcells hlen g2
      exact ⟨⟨f, s, dt⟩, ⟨us, ud, cs, g1, e, r1, r2⟩, b⟩
    obtain ⟨l, hll, hlp⟩ := row_list hD
    subst hll
    refine ⟨l, _, _, rfl, hl, by unfold maxLen at hm; omega, fun hw => ⟨?_, fun x hx => ?_⟩, ?_⟩
    · rw [hxd] at hw
      have := hw _ (by simp only [DataW.weights, Tryd.underlying22]; exact List.mem_cons_self ..)
      rw [show Tryd.prog.bytesOf 39 = 56 by kernel_rfl] at this
      simp only [List.length_map, List.length_range, reachBytes] at this
      omega
    · obtain ⟨i, hi⟩ := List.mem_iff_getElem?.1 hx
      refine (hlp i x hi).2 (fun n hn => hw n ?_)
      have hil : i < l.length := (List.getElem?_eq_some_iff.1 hi).1
      rw [hxd]
      simp only [DataW.weights, Tryd.underlying22]
      refine List.mem_cons_of_mem _ (List.mem_append.2 (.inl (weights_all _ (D i) ?_ n hn)))
      exact List.mem_map.2 ⟨i, List.mem_range.2 hil, rfl⟩
    · rcases Nat.eq_zero_or_pos l.length with h0 | h0
      · exact .inl (List.length_eq_zero_iff.1 h0)
      · right
        obtain ⟨cs0, g0, _⟩ := hel 0 (by omega)
        have hlen0 := World.cells?_some g0
        have hs := hlen0.2.2 0 (by decide)
        have hc0 : ∃ x, W.cell? ((a.add (0 * 3)).add 0) = some x := by
          rw [hs]
          have : 0 < cs0.length := by rw [hlen0.2.1]; decide
          exact ⟨cs0[0], List.getElem?_eq_getElem this⟩
        obtain ⟨x0, hx0⟩ := hc0
        have hx1 : W.cell? (a.add 0) = some x0 := by rw [Nat.zero_mul] at hx0; simpa [Addr.add] using hx0
        have hsp := add_spot hx1
        have hlt : a.block < W.heap.size := by
          have := cell_lt hx1
          simpa [Addr.add] using this
        obtain ⟨b, o, q⟩ := a
        simp only [Addr.mk.injEq, true_and] at hsp
        subst hsp
        refine ⟨b, o, rfl, hlt, fun i x hi => ?_⟩
        obtain ⟨us, ud, cs, g1, e, r1, r2⟩ := (hlp i x hi).1
        obtain ⟨_, _, hcell⟩ := World.cells?_some g1
        have q0 := hcell 0 (by decide)
        have q1 := hcell 1 (by decide)
        have q2 := hcell 2 (by decide)
        rw [add_none, add_none] at q0 q1 q2
        rw [e] at q0 q1 q2
        exact ⟨us, ud, q0, q1, q2, r1, r2⟩
theorem open_linesC {fuel : Nat} {cs0 : List Value} {x0 : DataW H × List MemPlace} (hf : DataW.trod enc Tryd.prog W 0 (fun _ => true) true fuel 24 cs0 = some x0) :
    ∃ (rows : List (List UInt8)) (ao : Option Addr) (cap : Nat), cs0 = [.slice ao rows.length cap] ∧ rows.length ≤ cap ∧ cap ≤ 9223372036854775807 ∧
      ((∀ n ∈ x0.1.weights Tryd.prog 24, n ≤ reachBytes) → rows.length ≤ 140737488351232 ∧ ∀ l ∈ rows, l.length ≤ 140737488351232) ∧ Lines W ao rows := by
  rcases open_slice1 Tryd.underlying24 (by kernel_rfl) hf with ⟨hcs, _⟩ | ⟨a, len, cap, m, n, V, D, Pl, hcs, _, hl, hm, hmm, hxd, hel⟩
  · subst hcs
    exact ⟨[], none, 0, rfl, Nat.le_refl _, Nat.zero_le _, fun _ => ⟨by simp, by simp⟩, .inl rfl⟩
  · subst hcs
    simp only [if_true] at hmm
    subst hmm
    obtain ⟨rows, hrl, hrp⟩ := row_list (n := len) (p := fun i (l : List UInt8) => RowV W (V i) l ∧ ((∀ n ∈ (D i).weights Tryd.prog 37, n ≤ reachBytes) → l.length ≤ 140737488351232)) (fun i hi => by
      obtain ⟨h1, h2⟩ := hel i (by omega)
      obtain ⟨l, u, e, hu, hb⟩ := open_row h2
      simp only [List.cons.injEq, and_true] at e
      subst e
      exact ⟨l, hu, hb⟩)
    subst hrl
    refine ⟨rows, _, _, rfl, hl, by unfold maxLen at hm; omega, fun hw => ⟨?_, fun l hl' => ?_⟩, LinesV.lines ?_⟩
    · rw [hxd] at hw
      have := hw _ (by simp only [DataW.weights, Tryd.underlying24]; exact List.mem_cons_self ..)
      rw [show Tryd.prog.bytesOf 37 = 24 by kernel_rfl] at this
      simp only [List.length_map, List.length_range, reachBytes] at this
      omega
    · obtain ⟨i, hi⟩ := List.mem_iff_getElem?.1 hl'
      refine (hrp i l hi).2 (fun n hn => hw n ?_)
      have hil : i < rows.length := (List.getElem?_eq_some_iff.1 hi).1
      rw [hxd]
      simp only [DataW.weights, Tryd.underlying24]
      refine List.mem_cons_of_mem _ (List.mem_append.2 (.inl (weights_all _ (D i) ?_ n hn)))
      exact List.mem_map.2 ⟨i, List.mem_range.2 hil, rfl⟩
    · rcases Nat.eq_zero_or_pos rows.length with h0 | h0
      · exact .inl (List.length_eq_zero_iff.1 h0)
      · right
        have hx1 := (hel 0 (by omega)).1
        have hsp := add_spot hx1
        have hlt : a.block < W.heap.size := by
          have := cell_lt hx1
          simpa [Addr.add] using this
        obtain ⟨b, o, s⟩ := a
        simp only [Addr.mk.injEq, true_and] at hsp
        subst hsp
        refine ⟨b, o, rfl, hlt, fun i l hi => ⟨V i, ?_, (hrp i l hi).1⟩⟩
        have hil : i < rows.length := (List.getElem?_eq_some_iff.1 hi).1
        have hq := (hel i (by omega)).1
        rw [add_none] at hq
        exact hq
theorem cover_fields : ∃ f0 f1 : Field, Tryd.prog.underlying 26 = some (.struct #[f0, f1]) ∧ f0.type = 22 ∧ f0.offset = 0 ∧ f1.type = 24 ∧ f1.offset = 1 := ⟨_, _, rfl, rfl, rfl, rfl, rfl⟩
theorem open_cover (hval : Value.okWide Tryd.prog W .any base 26 v) (h : DataW.Trod enc Tryd.prog W 0 (fun _ => true) true 26 v d p) :
    ∃ (S : List Sl) (aS : Option Addr) (cS : Nat) (R : List (List UInt8)) (aR : Option Addr) (cR : Nat), v = .agg #[.slice aS S.length cS, .slice aR R.length cR] ∧ S.length ≤ cS ∧ cS ≤ 9223372036854775807 ∧ R.length ≤ cR ∧ cR ≤ 9223372036854775807 ∧
      ((∀ n ∈ d.weights Tryd.prog 26, n ≤ reachBytes) → ∀ l ∈ R, l.length ≤ 140737488351232) ∧ Slots W aS S ∧ Lines W aR R := by
  obtain ⟨f0, f1, hs, t0, o0, t1, o1⟩ := cover_fields
  obtain ⟨cs, rfl, hsz⟩ := okWide_struct hs hval
  rw [show Tryd.prog.cellsOf 26 = 2 by kernel_rfl] at hsz
  obtain ⟨fuel, hf⟩ := h
  rw [show (Value.agg cs).cells.toList = cs.toList from rfl] at hf
  obtain ⟨y0, y1, n, hdp, _, h0, h1⟩ := trod_struct2 hs hf
  simp only [Prod.mk.injEq] at hdp
  obtain ⟨rfl, -⟩ := hdp
  have cu : Tryd.prog.cellsOf 22 = 1 := by kernel_rfl
  have cl : Tryd.prog.cellsOf 24 = 1 := by kernel_rfl
  rw [t0, o0, cu] at h0
  rw [t1, o1, cl] at h1
  obtain ⟨S, aS, cS, e0, s1, s2, b0, hS⟩ := open_slotsC h0
  obtain ⟨R, aR, cR, e1, r1, r2, b1, hR⟩ := open_linesC h1
  obtain ⟨cl, rfl⟩ : ∃ l, cs = l.toArray := ⟨cs.toList, by simp⟩
  match cl, hsz with
  | [c0, c1], _ =>
    simp at e0 e1
    subst e0 e1
    refine ⟨S, aS, cS, R, aR, cR, rfl, s1, s2, r1, r2, fun hw => (b1 fun n hn => hw n ?_).2, hS, hR⟩
    simp only [DataW.weights, hs, List.map_cons, List.map_nil, DataW.weightsEach, t0, t1, List.mem_append]
    exact .inr (.inl hn)
theorem open_boolsO (hval : Value.okWide Tryd.prog W .any base 23 v) (h : DataW.Trod enc Tryd.prog W 0 (fun _ => true) true 23 v d p) :
    ∃ (o : List Bool) (ao : Option Addr) (cap : Nat), v = .slice ao o.length cap ∧ o.length ≤ cap ∧ cap ≤ 9223372036854775807 ∧ Bools W ao o := by
  obtain ⟨ao, len, cap, rfl⟩ := okWide_slice Tryd.underlying23 hval
  obtain ⟨fuel, hf⟩ := h
  rcases open_bools Tryd.underlying23 Tryd.underlying4 (by kernel_rfl) hf with ⟨hcs, _⟩ | ⟨a, len', cap', B, hcs, _, hl, hm, hxd, hel⟩
  · simp [Value.cells] at hcs
    obtain ⟨rfl, rfl, rfl⟩ := hcs
    exact ⟨[], none, 0, rfl, Nat.le_refl _, Nat.zero_le _, .inl rfl⟩
  · simp [Value.cells] at hcs
    obtain ⟨rfl, rfl, rfl⟩ := hcs
    have hlen : ((List.range len).map B).length = len := by simp
    refine ⟨(List.range len).map B, some a, cap, by rw [hlen], by omega, by unfold maxLen at hm; omega, ?_⟩
    rcases Nat.eq_zero_or_pos len with h0 | h0
    · subst h0; exact .inl rfl
    · right
      have hx1 := hel 0 (by omega)
      have hsp := add_spot hx1
      have hlt : a.block < W.heap.size := by
        have := cell_lt hx1
        simpa [Addr.add] using this
      obtain ⟨b, q, s⟩ := a
      simp only [Addr.mk.injEq, true_and] at hsp
      subst hsp
      refine ⟨b, q, rfl, hlt, fun i x hi => ?_⟩
      have hil : i < len := by have := (List.getElem?_eq_some_iff.1 hi).1; omega
      have hq := hel i (by omega)
      rw [add_none] at hq
      rw [hq]
      rw [List.getElem?_map, List.getElem?_range hil] at hi
      simpa using hi
end
end Go.Proofs.YtcnemacakjemjaaDoor
