/-
  OPENING ARGUMENTS that are trees (api.Tree), by value.
  CONDITIONS: each theorem's own hypotheses.
-/
import Derived.Test.YtpefojmjllgfdaaOpenL
import Derived.Test.YtpefojmjllgfdaaTSmall
import Derived.Deep.Strs
import Derived.Deep.Grids
namespace Go.Proofs.Ytpefojmjllgfdaa
open Go.ChangeShapes Go.WideShapes Go.RowKit Go.Deep Go.Joins CodeMath
open Go.ChangeMaps (open_string shut_string)
set_option linter.unusedVariables false

set_option maxRecDepth 100000
section
variable {H : Type} {enc : TypeId × Value → H} {W : World} {base : Nat} {v : Value} {d : DataW H} {p : List MemPlace}
theorem open_strsT {fuel : Nat} {cs : List Value} {x : DataW H × List MemPlace} (h : DataW.trod enc Try.prog W 0 (fun _ => true) true fuel 48 cs = some x) :
    ∃ (l : List (List UInt8)) (ao : Option Addr) (cap : Nat), cs = [.slice ao l.length cap] ∧ l.length ≤ cap ∧ cap ≤ 9223372036854775807 ∧ ((∀ n ∈ x.1.weights Try.prog 48, n ≤ reachBytes) → l.length ≤ 8796093022208) ∧ Strs W ao l := by
  rcases open_slice1 Try.underlying48 (by kernel_rfl) h with ⟨hcs, _⟩ | ⟨a, len, cap, m, n, V, D, Pl, hcs, _, hl, hm, hmm, hxd, hel⟩
  · subst hcs
    exact ⟨[], none, 0, rfl, Nat.le_refl _, Nat.zero_le _, fun _ => by simp, .inl rfl⟩
  · subst hcs
    simp only [if_true] at hmm
    subst hmm
    obtain ⟨l, hll, hlp⟩ := row_list (n := len) (p := fun i (s : List UInt8) => V i = .string (str s)) (fun i hi => by
      obtain ⟨h1, h2⟩ := hel i (by omega)
      obtain ⟨s, e, -⟩ := DataW.trod_string Try.underlying9 h2
      simp only [List.cons.injEq, and_true] at e
      exact ⟨s.data.toList, by rw [e, ← str_eq]⟩)
    subst hll
    refine ⟨l, _, _, rfl, hl, by unfold maxLen at hm; omega, fun hw => ?_, ?_⟩
    · rw [hxd] at hw
      have := hw _ (by simp only [DataW.weights, Try.underlying48]; exact List.mem_cons_self ..)
      rw [show Try.prog.bytesOf 9 = 16 by kernel_rfl] at this
      simp only [List.length_map, List.length_range, reachBytes] at this
      omega
    · rcases Nat.eq_zero_or_pos l.length with h0 | h0
      · exact .inl (List.length_eq_zero_iff.1 h0)
      · right
        have hx1 := (hel 0 (by omega)).1
        have hsp := add_spot hx1
        have hlt : a.block < W.heap.size := by
          have := cell_lt hx1
          simpa [Addr.add] using this
        obtain ⟨b, o, s⟩ := a
        simp only [Addr.mk.injEq, true_and] at hsp
        subst hsp
        refine ⟨b, o, rfl, hlt, fun i s hi => ?_⟩
        have hil : i < l.length := (List.getElem?_eq_some_iff.1 hi).1
        have hq := (hel i (by omega)).1
        rw [add_none, hlp i s hi] at hq
        exact hq
theorem open_intsT {fuel : Nat} {cs : List Value} {x : DataW H × List MemPlace} (h : DataW.trod enc Try.prog W 0 (fun _ => true) true fuel 49 cs = some x) :
    ∃ (l : List Int) (ao : Option Addr) (cap : Nat), cs = [.slice ao l.length cap] ∧ l.length ≤ cap ∧ cap ≤ 9223372036854775807 ∧ Ints W ao l := by
  rcases open_ints Try.underlying49 Try.underlying3 (by kernel_rfl) h with ⟨hcs, _⟩ | ⟨a, len, cap, zs, hcs, _, hl, hm, hz, hxd, hcell, hwz⟩
  · exact ⟨[], none, 0, hcs, Nat.le_refl _, Nat.zero_le _, fun x hx => by simp at hx, .inl rfl⟩
  · have hzl : len ≤ zs.length := by rw [hz]; simp; exact hl
    have hlen : (zs.take len).length = len := by simp; omega
    refine ⟨zs.take len, some a, cap, by rw [hlen]; exact hcs, by rw [hlen]; exact hl, by unfold maxLen at hm; omega, fun x hx => ?_, ?_⟩
    · have := bounds_i64 (hwz x (List.mem_of_mem_take hx))
      omega
    · rcases Nat.eq_zero_or_pos len with h0 | h0
      · left; rw [h0]; rfl
      · right
        have hx1 := hcell 0 (by omega)
        have hsp := add_spot hx1
        have hlt : a.block < W.heap.size := by
          have := cell_lt hx1
          simpa [Addr.add] using this
        obtain ⟨b, o, s⟩ := a
        simp only [Addr.mk.injEq, true_and] at hsp
        subst hsp
        refine ⟨b, o, rfl, hlt, fun j x hx => ?_⟩
        have hj : j < len := by
          have := (List.getElem?_eq_some_iff.1 hx).1
          omega
        have hq := hcell j (by omega)
        rw [add_none] at hq
        rw [List.getElem?_take_of_lt hj] at hx
        rw [hq, List.getD_eq_getElem?_getD, hx]; rfl
theorem node_fields : ∃ f0 f1 f2 : Field, Try.prog.underlying 51 = some (.struct #[f0, f1, f2]) ∧ f0.type = 48 ∧ f0.offset = 0 ∧ f1.type = 49 ∧ f1.offset = 1 ∧ f2.type = 49 ∧ f2.offset = 2 := ⟨_, _, _, rfl, rfl, rfl, rfl, rfl, rfl, rfl⟩
theorem tree_fields : ∃ f0 : Field, Try.prog.underlying 24 = some (.struct #[f0]) ∧ f0.type = 22 ∧ f0.offset = 0 := ⟨_, rfl, rfl, rfl⟩
theorem open_nodecells {fuel : Nat} {cs : List Value} {x : DataW H × List MemPlace} (hcl : cs.length = 3) (h : DataW.trod enc Try.prog W 0 (fun _ => true) true fuel 51 cs = some x) :
    ∃ (n : Nq) (s : NqS), cs = nqL n s ∧ NqIn W n s ∧ ((∀ q ∈ x.1.weights Try.prog 51, q ≤ reachBytes) → n.keys.length ≤ 8796093022208) := by
  obtain ⟨f0, f1, f2, hs, t0, o0, t1, o1, t2, o2⟩ := node_fields
  obtain ⟨y0, y1, y2, n, rfl, _, h0, h1, h2⟩ := trod_struct3 hs h
  match cs, hcl with
  | [c0, c1, c2], _ =>
    have cb : Try.prog.cellsOf 48 = 1 := by kernel_rfl
    have cu : Try.prog.cellsOf 49 = 1 := by kernel_rfl
    rw [t0, o0, cb] at h0
    rw [t1, o1, cu] at h1
    rw [t2, o2, cu] at h2
    obtain ⟨ks, ak, ck, e0, k1, k2, kb, K⟩ := open_strsT h0
    obtain ⟨vs, av, cv, e1, v1, v2, V⟩ := open_intsT h1
    obtain ⟨kd, ac, cc, e2, c1, c2, C⟩ := open_intsT h2
    simp at e0 e1 e2
    subst e0 e1 e2
    refine ⟨⟨ks, vs, kd⟩, ⟨ak, ck, av, cv, ac, cc⟩, rfl, ⟨K, k1, k2, V, v1, v2, C, c1, c2⟩, fun hw => kb fun q hq => hw q ?_⟩
    simp only [DataW.weights, hs, List.map_cons, List.map_nil, DataW.weightsEach, t0, t1, t2, List.mem_append]
    exact .inl hq
theorem open_nodes {fuel : Nat} {cs0 : List Value} {x0 : DataW H × List MemPlace} (hf : DataW.trod enc Try.prog W 0 (fun _ => true) true fuel 22 cs0 = some x0) :
    ∃ (l : List Nq) (ao : Option Addr) (cap : Nat), cs0 = [.slice ao l.length cap] ∧ l.length ≤ cap ∧ cap ≤ 9223372036854775807 ∧
      ((∀ n ∈ x0.1.weights Try.prog 22, n ≤ reachBytes) → l.length ≤ 9223372036854775806 ∧ FewKeys l) ∧ Nodes W ao l := by
  rcases open_slice Try.underlying22 hf with ⟨hcs, _⟩ | ⟨a, len, cap, m, n, D, Pl, hcs, _, hl, hm, hmm, hxd, hel⟩
  · subst hcs
    exact ⟨[], none, 0, rfl, Nat.le_refl _, Nat.zero_le _, fun _ => ⟨by simp, fun n hn => by simp at hn⟩, .inl rfl⟩
  · subst hcs
    simp only [if_true] at hmm
    have hC : Try.prog.cellsOf 51 = 3 := by kernel_rfl
    rw [hC] at hel
    have hD : ∀ i, i < len → ∃ x : Nq, (∃ s cs, W.cells? 0 (a.add (i * 3)) 3 = some cs ∧ cs = nqL x s ∧ NqIn W x s) ∧ ((∀ n ∈ (D i).weights Try.prog 51, n ≤ reachBytes) → x.keys.length ≤ 8796093022208) := fun i hi => by
      obtain ⟨cs, g1, g2⟩ := hel i (by omega)
      obtain ⟨_, hlen, _⟩ := World.cells?_some g1
      obtain ⟨x, s, e, r, b⟩ := open_nodecells hlen g2
      exact ⟨x, ⟨s, cs, g1, e, r⟩, b⟩
    obtain ⟨l, hll, hlp⟩ := row_list hD
    subst hll
    refine ⟨l, _, _, rfl, hl, by unfold maxLen at hm; omega, fun hw => ⟨?_, fun x hx => ?_⟩, ?_⟩
    · rw [hxd] at hw
      have := hw _ (by simp only [DataW.weights, Try.underlying22]; exact List.mem_cons_self ..)
      rw [show Try.prog.bytesOf 51 = 72 by kernel_rfl] at this
      simp only [List.length_map, List.length_range, reachBytes] at this
      omega
    · obtain ⟨i, hi⟩ := List.mem_iff_getElem?.1 hx
      refine (hlp i x hi).2 (fun n hn => hw n ?_)
      have hil : i < l.length := (List.getElem?_eq_some_iff.1 hi).1
      rw [hxd]
      simp only [DataW.weights, Try.underlying22]
      refine List.mem_cons_of_mem _ (List.mem_append.2 (.inl (weights_all _ (D i) ?_ n hn)))
      exact List.mem_map.2 ⟨i, List.mem_range.2 hil, rfl⟩
    · rcases Nat.eq_zero_or_pos l.length with h0 | h0
      · exact .inl (List.length_eq_zero_iff.1 h0)
      · right
        obtain ⟨cs0, g0, _⟩ := hel 0 (by omega)
        have hlen0 := World.cells?_some g0
        have hs := hlen0.2.2 0 (by decide)
        have hc0 : ∃ x, W.cell? ((a.add (0 * 3)).add 0) = some x := by
          rw [hs]
          have : 0 < cs0.length := by rw [hlen0.2.1]; decide
          exact ⟨cs0[0], List.getElem?_eq_getElem this⟩
        obtain ⟨x0, hx0⟩ := hc0
        have hx1 : W.cell? (a.add 0) = some x0 := by rw [Nat.zero_mul] at hx0; simpa [Addr.add] using hx0
        have hsp := add_spot hx1
        have hlt : a.block < W.heap.size := by
          have := cell_lt hx1
          simpa [Addr.add] using this
        obtain ⟨b, o, q⟩ := a
        simp only [Addr.mk.injEq, true_and] at hsp
        subst hsp
        refine ⟨b, o, rfl, hlt, fun i x hi => ?_⟩
        obtain ⟨s, cs, g1, e, r⟩ := (hlp i x hi).1
        obtain ⟨_, _, hcell⟩ := World.cells?_some g1
        have q0 := hcell 0 (by decide)
        have q1 := hcell 1 (by decide)
        have q2 := hcell 2 (by decide)
        rw [add_none, add_none] at q0 q1 q2
        rw [e] at q0 q1 q2
        exact ⟨s, r, q0, q1, q2⟩
theorem open_apitree (hval : Value.okWide Try.prog W .any base 24 v) (h : DataW.Trod enc Try.prog W 0 (fun _ => true) true 24 v d p) :
    ∃ (ns : List Nq) (ao : Option Addr) (cap : Nat), v = .agg #[.slice ao ns.length cap] ∧ ns.length ≤ cap ∧ cap ≤ 9223372036854775807 ∧
      ((∀ n ∈ d.weights Try.prog 24, n ≤ reachBytes) → ns.length ≤ 9223372036854775806 ∧ FewKeys ns) ∧ Nodes W ao ns := by
  obtain ⟨f0, hs, t0, o0⟩ := tree_fields
  obtain ⟨cs, rfl, hsz⟩ := okWide_struct hs hval
  rw [show Try.prog.cellsOf 24 = 1 by kernel_rfl] at hsz
  obtain ⟨fuel, hf⟩ := h
  rw [show (Value.agg cs).cells.toList = cs.toList from rfl] at hf
  obtain ⟨y0, n, hdp, _, h0⟩ := trod_struct1 hs hf
  simp only [Prod.mk.injEq] at hdp
  obtain ⟨rfl, -⟩ := hdp
  have cu : Try.prog.cellsOf 22 = 1 := by kernel_rfl
  rw [t0, o0, cu] at h0
  obtain ⟨ns, ao, cap, e0, s1, s2, b0, hN⟩ := open_nodes h0
  obtain ⟨cl, rfl⟩ : ∃ l, cs = l.toArray := ⟨cs.toList, by simp⟩
  match cl, hsz with
  | [c0], _ =>
    simp at e0
    subst e0
    refine ⟨ns, ao, cap, rfl, s1, s2, fun hw => b0 fun n hn => hw n ?_, hN⟩
    simp only [DataW.weights, hs, List.map_cons, List.map_nil, DataW.weightsEach, t0, List.mem_append]
    exact .inl hn
end
end Go.Proofs.Ytpefojmjllgfdaa
