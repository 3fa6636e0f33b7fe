/-
  == OF ARRAYS AND STREAMS that are the same.
  CONDITIONS: each theorem's own hypotheses.
-/
import Derived.Test.YtjllecmlabodaaaDoorAddMath
import Derived.ChangeKeysEq
import Derived.Laws.StructEq
namespace Go.Proofs.YtjllecmlabodaaaDoor
open Go.RowKit CodeMath
set_option linter.unusedVariables false

theorem eqItems_same {P : Program} (d : Nat) (e : TypeId) (k k' : IntKind) (he : P.underlying e = some (.int k')) (hp : P.plainKey e = true) (xs : Array Value) (w : World) : ∀ (is : List Nat), (∀ i ∈ is, ∃ z : Int, xs[i]? = some (.int k z)) → (Op.eqItems (d + 1) e 1 xs xs is).run P w = .ok true w
  | [], _ => rfl
  | i :: is, h => by
    obtain ⟨z, hz⟩ := h i (by simp)
    have ih := eqItems_same d e k k' he hp xs w is (fun j hj => h j (List.mem_cons_of_mem _ hj))
    have h1 := run_part_plain (w := w) hp hz
    have h2 := run_equalIn_int (P := P) w d e k k' z z he
    have h3 : (z == z) = true := by simp
    rw [h3] at h2
    simp [Op.eqItems, h1, h2, ih]
theorem eqArr_same {P : Program} (d : Nat) {t e : TypeId} {n : Nat} {i : TypeInfo} (k k' : IntKind) (ht : P.underlying t = some (.array n e)) (hi : P.info? e = some i) (hc : P.cellsOf e = 1) (he : P.underlying e = some (.int k')) (hp : P.plainKey e = true) (xs : Array Value) (w : World)
    (h : ∀ j, j < n → ∃ z : Int, xs[j]? = some (.int k z)) : (Op.equalIn (d + 2) t (.agg xs) (.agg xs)).run P w = .ok true w := by
  have h1 := run_equalIn_array (P := P) (w := w) (d + 1) xs xs ht hi
  rw [hc] at h1
  rw [h1]
  exact eqItems_same d e k k' he hp xs w _ (fun j hj => h j (by simpa using hj))
theorem info_of {P : Program} {e : TypeId} {n : Nat} (h : (P.info? e).map (·.size) = some n) : ∃ i, P.info? e = some i := by
  cases hi : P.info? e with
  | none => rw [hi] at h; cases h
  | some i => exact ⟨i, rfl⟩
theorem eq32 (l : List UInt8) (hl : l.length = 32) (w : World) : (Op.equalIn 10000 33 (.agg (u8s l).toArray) (.agg (u8s l).toArray)).run Tryd.prog w = .ok true w := by
  obtain ⟨i, hi⟩ := info_of (P := Tryd.prog) (e := 5) (n := 1) (by kernel_rfl)
  refine eqArr_same 9998 .u8 .u8 (n := 32) (e := 5) rfl hi (by kernel_rfl) Tryd.underlying5 (by kernel_rfl) _ w (fun j hj => ?_)
  refine ⟨(l[j]'(by omega)).toNat, ?_⟩
  rw [List.getElem?_toArray]
  exact u8s_get (List.getElem?_eq_getElem _)
theorem eq64 (l : List UInt8) (hl : l.length = 64) (d : Nat) (w : World) : (Op.equalIn (d + 2) 24 (.agg (u8s l).toArray) (.agg (u8s l).toArray)).run Tryd.prog w = .ok true w := by
  obtain ⟨i, hi⟩ := info_of (P := Tryd.prog) (e := 5) (n := 1) (by kernel_rfl)
  refine eqArr_same d .u8 .u8 (n := 64) (e := 5) rfl hi (by kernel_rfl) Tryd.underlying5 (by kernel_rfl) _ w (fun j hj => ?_)
  refine ⟨(l[j]'(by omega)).toNat, ?_⟩
  rw [List.getElem?_toArray]
  exact u8s_get (List.getElem?_eq_getElem _)
theorem eq8 (l : List Nat) (hl : l.length = 8) (d : Nat) (w : World) : (Op.equalIn (d + 2) 23 (.agg (u32s l).toArray) (.agg (u32s l).toArray)).run Tryd.prog w = .ok true w := by
  obtain ⟨i, hi⟩ := info_of (P := Tryd.prog) (e := 22) (n := 1) (by kernel_rfl)
  refine eqArr_same d .u32 .u32 (n := 8) (e := 22) rfl hi (by kernel_rfl) Tryd.underlying22 (by kernel_rfl) _ w (fun j hj => ?_)
  refine ⟨(l[j]'(by omega) : Nat), ?_⟩
  rw [List.getElem?_toArray]
  exact u32s_get (List.getElem?_eq_getElem _)
theorem part_agg {P : Program} {t : TypeId} {n : Nat} (ha : ∀ w, (isAgg t).run P w = .ok true w) (hs : ∀ w, (sizeOf t).run P w = .ok n w) (cs : Array Value) (off : Nat) (w : World) : (part t cs off).run P w = .ok (.agg (cs.extract off (off + n))) w := by
  simp [part, ha, hs]
theorem eqStm (s : Stm) (hf : s.held.length = 64) (w : World) : (Op.equalIn 10000 26 (.agg s.cells.toArray) (.agg s.cells.toArray)).run Tryd.prog w = .ok true w := by
  have h := run_equalIn_struct (P := Tryd.prog) w 9999 26 s.cells.toArray s.cells.toArray (by kernel_rfl) (by kernel_rfl)
  rw [h]
  have p0 : ∀ W, (part 23 s.cells.toArray 0).run Tryd.prog W = .ok (.agg (u32s (lst s.h)).toArray) W := fun W => by
    rw [part_agg (n := 8) (fun _ => by kernel_rfl) (fun _ => by kernel_rfl)]
    congr 2
    rw [← Stm.get_h s]
    simp [List.extract]
  have p1 : ∀ W, (part 24 s.cells.toArray 8).run Tryd.prog W = .ok (.agg (u8s s.held).toArray) W := fun W => by
    rw [part_agg (n := 64) (fun _ => by kernel_rfl) (fun _ => by kernel_rfl)]
    congr 2
    rw [← Stm.get_all s hf]
    simp [List.extract]
  have p2 : ∀ W, (part 3 s.cells.toArray 72).run Tryd.prog W = .ok (.int .i64 s.n) W := fun W => run_part_plain W (by kernel_rfl) (by rw [List.getElem?_toArray]; exact s.get_n hf)
  have p3 : ∀ W, (part 3 s.cells.toArray 73).run Tryd.prog W = .ok (.int .i64 s.len) W := fun W => run_part_plain W (by kernel_rfl) (by rw [List.getElem?_toArray]; exact s.get_len hf)
  have e0 := fun W => eq8 (lst s.h) rfl 9997 W
  have e1 := fun W => eq64 s.held hf 9997 W
  have e2 := fun W => run_equalIn_int (P := Tryd.prog) W 9998 3 .i64 .i64 s.n s.n Tryd.underlying3
  have e3 := fun W => run_equalIn_int (P := Tryd.prog) W 9998 3 .i64 .i64 s.len s.len Tryd.underlying3
  have hm : (Tryd.prog.fieldsOf 26).toList.map (fun f => (f.name == "_", f.type, f.offset)) = [(false, 23, 0), (false, 24, 8), (false, 3, 72), (false, 3, 73)] := by kernel_rfl
  generalize (Tryd.prog.fieldsOf 26).toList = fs at hm ⊢
  have hl := congrArg List.length hm
  rw [List.length_map] at hl
  obtain ⟨f0, f1, f2, f3, rfl⟩ : ∃ f0 f1 f2 f3, fs = [f0, f1, f2, f3] := by
    obtain ⟨f0, t0, rfl⟩ := List.exists_cons_of_length_pos (show 0 < fs.length by rw [hl]; decide)
    obtain ⟨f1, t1, rfl⟩ := List.exists_cons_of_length_pos (show 0 < t0.length by simp at hl; omega)
    obtain ⟨f2, t2, rfl⟩ := List.exists_cons_of_length_pos (show 0 < t1.length by simp at hl; omega)
    obtain ⟨f3, t3, rfl⟩ := List.exists_cons_of_length_pos (show 0 < t2.length by simp at hl; omega)
    have : t3 = [] := List.eq_nil_of_length_eq_zero (by simp only [List.length_cons, List.length_nil] at hl; omega)
    subst this
    exact ⟨f0, f1, f2, f3, rfl⟩
  simp only [List.map_cons, List.map_nil, List.cons.injEq, Prod.mk.injEq, beq_eq_false_iff_ne, and_true] at hm
  obtain ⟨⟨n0, t0, o0⟩, ⟨n1, t1, o1⟩, ⟨n2, t2, o2⟩, ⟨n3, t3, o3⟩⟩ := hm
  have b2 : (s.n == s.n) = true := by simp
  have b3 : (s.len == s.len) = true := by simp
  rw [b2] at e2
  rw [b3] at e3
  simp [Op.eqFields, n0, n1, n2, n3, t0, t1, t2, t3, o0, o1, o2, o3, p0, p1, p2, p3, e0, e1, e2, e3]
end Go.Proofs.YtjllecmlabodaaaDoor
