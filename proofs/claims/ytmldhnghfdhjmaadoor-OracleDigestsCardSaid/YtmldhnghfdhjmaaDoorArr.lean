/-
  ARRAYS AND STRUCTS IN BLOCKS OF THEIR OWN: what a block holds, behind stores, allocs, calls; a whole array in and out; an array's element.
  CONDITIONS: each theorem's own hypotheses.
-/
import Derived.Test.YtmldhnghfdhjmaaDoorStrA
import Derived.Laws.Rows
import Derived.Deep.MidRow
import Derived.Deep.WholeRow
import Derived.OwnWalk
namespace Go.Proofs.YtmldhnghfdhjmaaDoor
open Go.RowKit CodeMath
set_option linter.unusedVariables false

/-- A block of cells. -/
def Blk (w : World) (b : Nat) (T : TypeId) (cs : List Value) : Prop := w.heap[b]? = some (.cells cs.toArray T (0, 0))
theorem Blk.new (w : World) (cs : Array Value) (T : TypeId) : Blk (w.alloc (.cells cs T)) w.heap.size T cs.toList := by
  unfold Blk
  rw [heap_alloc_new]
theorem Blk.lt {w : World} {b : Nat} {T : TypeId} {cs : List Value} (h : Blk w b T cs) : b < w.heap.size := by
  unfold Blk at h
  exact (Array.getElem?_eq_some_iff.1 h).1
theorem Blk.same {w w' : World} {b : Nat} {T : TypeId} {cs : List Value} (h : Blk w b T cs) (e : w'.heap[b]? = w.heap[b]?) : Blk w' b T cs := e.trans h
theorem Blk.keep {w w' : World} {M b : Nat} {T : TypeId} {cs : List Value} (h : Blk w b T cs) (hb : Below M w w') (hM : b < M) : Blk w' b T cs := h.same (hb.block b hM)
theorem Blk.call {w w' : World} {b : Nat} {T : TypeId} {cs : List Value} (h : Blk w b T cs) (hb : Below w.heap.size w w') : Blk w' b T cs := h.keep hb h.lt
theorem Blk.cell {w : World} {b : Nat} {T : TypeId} {cs : List Value} (h : Blk w b T cs) {j : Nat} {v : Value} (hv : cs[j]? = some v) : w.cell? ⟨b, j, none⟩ = some v := by
  rw [cell_of_row w b j _ _ _ h]
  simpa using hv
theorem Blk.free {w : World} {b : Nat} {T : TypeId} {cs : List Value} (h : Blk w b T cs) (j : Nat) : w.frozen? ⟨b, j, none⟩ = false := frozen_of_row w b j _ _ h
theorem Blk.set {w : World} {b : Nat} {T : TypeId} {cs : List Value} (h : Blk w b T cs) (j : Nat) (v : Value) : Blk (w.setCell ⟨b, j, none⟩ v) b T (cs.set j v) := by
  unfold Blk
  rw [heap_setCell_same w b j _ _ v h]
  simp
theorem Blk.other {w : World} {b : Nat} {T : TypeId} {cs : List Value} (h : Blk w b T cs) (a : Addr) (v : Value) (ha : b ≠ a.block) : Blk (w.setCell a v) b T cs := h.same (heap_setCell_other w a b v ha)
theorem Blk.alloc {w : World} {b : Nat} {T : TypeId} {cs : List Value} (h : Blk w b T cs) (o : Obj) : Blk (w.alloc o) b T cs := h.same (Below.heap_alloc w o b h.lt)
theorem Blk.drew {w : World} {b : Nat} {T : TypeId} {cs : List Value} (h : Blk w b T cs) : Blk w.drew b T cs := h
theorem Blk.range {w : World} {b : Nat} {T : TypeId} {cs : List Value} (h : Blk w b T cs) (o n : Nat) : w.rangeAt b o ((cs.drop o).take n) := by
  have := World.rangeAt_of_block h o n
  have e : (cs.toArray.extract o (o + n)).toList = (cs.drop o).take n := by
    simp [List.extract]
  rwa [e] at this
theorem Blk.there {w : World} {b : Nat} {T : TypeId} {cs : List Value} (h : Blk w b T cs) (o n : Nat) (hn : o + n ≤ cs.length) : w.there b o n := fun j hj => by
  refine ⟨?_, h.free _⟩
  rw [h.cell (List.getElem?_eq_getElem (by omega : o + j < cs.length))]
  rfl
theorem Blk.sets {T : TypeId} {b : Nat} : ∀ (vs : List Value) {w : World} {cs : List Value} (o : Nat), Blk w b T cs → o + vs.length ≤ cs.length → Blk (w.setCells b o vs) b T (cs.take o ++ (vs ++ cs.drop (o + vs.length)))
  | [], w, cs, o, h, hl => by
    have : cs.take o ++ ([] ++ cs.drop (o + 0)) = cs := by simp
    show Blk w b T _
    rw [List.length_nil, this]; exact h
  | v :: vs, w, cs, o, h, hl => by
    have h1 := Blk.sets vs (o + 1) (h.set o v) (by simp at hl ⊢; omega)
    have ho : o < cs.length := by simp at hl; omega
    have e : (cs.set o v).take (o + 1) ++ (vs ++ (cs.set o v).drop (o + 1 + vs.length)) = cs.take o ++ (v :: vs ++ cs.drop (o + (v :: vs).length)) := by
      rw [List.take_succ_eq_append_getElem (by simpa using ho), List.take_set_of_le (by omega), List.getElem_set_self, List.drop_set_of_lt (by omega), List.append_assoc, List.singleton_append, List.cons_append, List.length_cons]
      rw [show o + 1 + vs.length = o + (vs.length + 1) by omega]
    rw [e] at h1
    exact h1
theorem setCells_block (b : Nat) : ∀ (vs : List Value) (o : Nat) (w : World) (k : Nat), k ≠ b → (w.setCells b o vs).heap[k]? = w.heap[k]?
  | [], o, w, k, h => rfl
  | v :: vs, o, w, k, h => (setCells_block b vs (o + 1) (w.setCell ⟨b, o, none⟩ v) k h).trans (heap_setCell_other w ⟨b, o, none⟩ k v h)
theorem setCells_size (b : Nat) : ∀ (vs : List Value) (o : Nat) (w : World), (w.setCells b o vs).heap.size = w.heap.size
  | [], o, w => rfl
  | v :: vs, o, w => (setCells_size b vs (o + 1) (w.setCell ⟨b, o, none⟩ v)).trans (by unfold World.setCell; simp)
theorem Blk.setsOther {w : World} {b k : Nat} {T : TypeId} {cs : List Value} (h : Blk w b T cs) (o : Nat) (vs : List Value) (hk : b ≠ k) : Blk (w.setCells k o vs) b T cs := h.same (setCells_block k vs o w b hk)
theorem below_sets {B : Nat} {a : World} (b : Nat) (hb : B ≤ b) : ∀ (vs : List Value) (o : Nat) {w : World}, Below B a w → Below B a (w.setCells b o vs)
  | [], o, w, h => h
  | v :: vs, o, w, h => below_sets b hb vs (o + 1) (h.setCell (p := ⟨b, o, none⟩) hb v)

/-! ### lists of numbers as cells -/
def u8s (l : List UInt8) : List Value := l.map fun x => .int .u8 x.toNat
def u32s (l : List Nat) : List Value := l.map fun x => .int .u32 (x : Nat)
theorem u8s_length (l : List UInt8) : (u8s l).length = l.length := by simp [u8s]
theorem u32s_length (l : List Nat) : (u32s l).length = l.length := by simp [u32s]
theorem u8s_get {l : List UInt8} {j : Nat} {c : UInt8} (h : l[j]? = some c) : (u8s l)[j]? = some (.int .u8 c.toNat) := by simp [u8s, h]
theorem u32s_get {l : List Nat} {j : Nat} {c : Nat} (h : l[j]? = some c) : (u32s l)[j]? = some (.int .u32 (c : Nat)) := by simp [u32s, h]
theorem u32s_set (l : List Nat) (j c : Nat) : (u32s l).set j (.int .u32 (c : Nat)) = u32s (l.set j c) := by
  unfold u32s; rw [← List.map_set]
theorem u8s_set (l : List UInt8) (j : Nat) (c : UInt8) : (u8s l).set j (.int .u8 (c.toNat : Nat)) = u8s (l.set j c) := by
  unfold u8s; rw [← List.map_set (f := fun x : UInt8 => Value.int .u8 x.toNat)]
theorem u8s_one (l : List UInt8) : ∀ v ∈ u8s l, v.oneCell' = true := by
  intro v hv; obtain ⟨x, _, rfl⟩ := List.mem_map.1 hv; rfl
theorem u32s_one (l : List Nat) : ∀ v ∈ u32s l, v.oneCell' = true := by
  intro v hv; obtain ⟨x, _, rfl⟩ := List.mem_map.1 hv; rfl

/-- An array's element. -/
theorem run_index_in {P : Program} {t e : TypeId} {n : Nat} (w : World) (cs : List Value) (i : Nat) (v : Value) (ht : P.underlying t = some (.array n e)) (hn : cs.length = n) (hs : ∀ w, (sizeOf e).run P w = .ok 1 w) (ha : ∀ w, (isAgg e).run P w = .ok false w) (hv : cs[i]? = some v) :
    (Instr.index t (.agg cs.toArray) (.int .i64 (i : Int))).run P w = .ok v w := by
  have hi : i < cs.length := (List.getElem?_eq_some_iff.1 hv).1
  have h1 : (0 : Int) ≤ i ∧ (i : Int) < n := by omega
  have h2 : i < n := by omega
  simp [Instr.index, run_underlying ht, asIntOf, h2, hs, ha, hv, go_sem]
theorem size_u8 (w : World) : (sizeOf 5).run Tryd.prog w = .ok 1 w := by kernel_rfl
theorem agg_u8 (w : World) : (isAgg 5).run Tryd.prog w = .ok false w := by kernel_rfl
theorem size_u32 (w : World) : (sizeOf 74).run Tryd.prog w = .ok 1 w := by kernel_rfl
theorem agg_u32 (w : World) : (isAgg 74).run Tryd.prog w = .ok false w := by kernel_rfl
theorem run_index_u8s {t : TypeId} {n : Nat} (ht : Tryd.prog.underlying t = some (.array n 5)) (l : List UInt8) (hn : l.length = n) (i : Nat) (c : UInt8) (hv : l[i]? = some c) (w : World) :
    (Instr.index t (.agg (u8s l).toArray) (.int .i64 (i : Int))).run Tryd.prog w = .ok (.int .u8 c.toNat) w := run_index_in w (u8s l) i _ ht (by rw [u8s_length, hn]) size_u8 agg_u8 (u8s_get hv)
theorem run_index_u32s {t : TypeId} {n : Nat} (ht : Tryd.prog.underlying t = some (.array n 74)) (l : List Nat) (hn : l.length = n) (i : Nat) (c : Nat) (hv : l[i]? = some c) (w : World) :
    (Instr.index t (.agg (u32s l).toArray) (.int .i64 (i : Int))).run Tryd.prog w = .ok (.int .u32 (c : Nat)) w := run_index_in w (u32s l) i _ ht (by rw [u32s_length, hn]) size_u32 agg_u32 (u32s_get hv)
/-- A result that is a whole block. -/
theorem results_arr {fn : Func} {p : Tmp} {T : TypeId} {d : TypeDesc} (h : fn.results = #[.cell p T]) (tmps : Array Value) (w : World) (g : Nat) (cs : List Value) (hp : tmps.getD p undef = .pointer (some ⟨g, 0, none⟩)) (hg : Blk w g T cs)
    (hu : Tryd.prog.underlying T = some d) (hd : d.isRow = true) (hi : (Tryd.prog.info? T).map (·.size) = some cs.length) :
    (results fn tmps).run Tryd.prog w = .ok (.agg cs.toArray) w :=
  results_cell_row h tmps w g T cs.toArray (0, 0) d hp hg hu (by cases d <;> simp_all) (by simpa using hi)
/-- A whole array or struct out of a block. -/
theorem load_arr {T : TypeId} {d : TypeDesc} {w : World} {g : Nat} {cs : List Value} {T0 : TypeId} (hg : Blk w g T0 cs) (o n : Nat) (hn : o + n ≤ cs.length)
    (hu : Tryd.prog.underlying T = some d) (hd : d.isRow = true) (hi : (Tryd.prog.info? T).map (·.size) = some n) :
    (Instr.loadAt T (.pointer (some ⟨g, o, none⟩))).run Tryd.prog w = .ok (.agg ((cs.drop o).take n).toArray) w :=
  run_loadAt_mid w g o T _ d (hg.range o n) hu hd (by simpa [show min n (cs.length - o) = n by omega] using hi)
/-- A whole array or struct into a block. -/
theorem store_arr {T : TypeId} {w : World} {g : Nat} {cs : List Value} {T0 : TypeId} (hg : Blk w g T0 cs) (o : Nat) (vs : List Value) (hn : o + vs.length ≤ cs.length) (hi : (Tryd.prog.info? T).map (·.size) = some vs.length) (h1 : ∀ v ∈ vs, v.oneCell' = true) :
    (Instr.storeAt T (.pointer (some ⟨g, o, none⟩)) (.agg vs.toArray)).run Tryd.prog w = .ok () (w.setCells g o vs) := by
  have := run_storeAt_mid (P := Tryd.prog) w g o T vs.toArray (by simpa using hg.there o vs.length hn) (by simpa using hi) (all_oneCell_toArray h1)
  simpa using this
theorem Blk.atNew {w : World} {g : Nat} (cs : Array Value) (T : TypeId) (h : w.heap.size = g) : Blk (w.alloc (.cells cs T)) g T cs.toList := by
  subst h; exact Blk.new w cs T
theorem load_whole {T : TypeId} {d : TypeDesc} {w : World} {g : Nat} {cs : List Value} {T0 : TypeId} (hg : Blk w g T0 cs)
    (hu : Tryd.prog.underlying T = some d) (hd : d.isRow = true) (hi : (Tryd.prog.info? T).map (·.size) = some cs.length) :
    (Instr.loadAt T (.pointer (some ⟨g, 0, none⟩))).run Tryd.prog w = .ok (.agg cs.toArray) w := by
  have := load_arr (T := T) hg 0 cs.length (by omega) hu hd hi
  simpa using this
/-- A whole array or struct loaded out of a block. -/
theorem wpList_load_blk {ops : Array Oper} {rest : List Oper} {o : Oper} {a : Act} {w : World} {Q : Exit → Act → World → Prop} (hgd : o.guard = none) (T : TypeId) (x : Operand) (ho : o.op = .load T x)
    (g off n : Nat) (hx : a.eval x = .pointer (some ⟨g, off, none⟩)) (T0 : TypeId) (cs : List Value) (hB : Blk w g T0 cs) (hn : off + n ≤ cs.length) (V : Array Value) (hV : ((cs.drop off).take n).toArray = V) (d : TypeDesc)
    (hu : Tryd.prog.underlying T = some d) (hd : d.isRow = true) (hi : (Tryd.prog.info? T).map (·.size) = some n)
    (h : wpList Tryd.prog ops Q rest (a.put o.dst (.agg V)) w) : wpList Tryd.prog ops Q (o :: rest) a w := by
  subst hV
  exact wpList_load_mid hgd T x ho g off hx ((cs.drop off).take n) d (hB.range off n) hu hd (by rw [hi, List.length_take, List.length_drop, Nat.min_eq_left (by omega)]) h
/-- A whole array or struct stored into a block. -/
theorem wpList_store_blk {ops : Array Oper} {rest : List Oper} {o : Oper} {a : Act} {w : World} {Q : Exit → Act → World → Prop} (hgd : o.guard = none) (T : TypeId) (x y : Operand) (ho : o.op = .store T x y)
    (g off : Nat) (hx : a.eval x = .pointer (some ⟨g, off, none⟩)) (T0 : TypeId) (cs : List Value) (hB : Blk w g T0 cs) (vs : List Value) (V : Array Value) (hV : V.toList = vs) (hy : a.eval y = .agg V) (hn : off + vs.length ≤ cs.length)
    (hi : (Tryd.prog.info? T).map (·.size) = some vs.length) (h1 : ∀ v ∈ vs, v.oneCell' = true)
    (h : ∀ w', w.grownBy w' (some g) → w'.heap.size = w.heap.size → Blk w' g T0 (cs.take off ++ (vs ++ cs.drop (off + vs.length))) → wpList Tryd.prog ops Q rest (a.put o.dst undef) w') : wpList Tryd.prog ops Q (o :: rest) a w := by
  subst hV
  refine wpList_store_mid hgd T x y ho g off V hx hy (by simpa using hB.there off V.toList.length hn) (by simpa using hi) (by simpa using all_oneCell_toArray h1) ?_
  have hbz := below_sets (B := 0) g (Nat.zero_le _) V.toList off (Below.refl 0 w)
  refine h _ ⟨hbz.os, hbz.tape, hbz.output, ?_, ?_⟩ (setCells_size _ _ _ _) (Blk.sets _ _ hB hn)
  · rw [setCells_size]; exact Nat.le_refl _
  · intro k hk hne; exact setCells_block g _ _ _ k (fun e => hne (by rw [e]))
/-- The world behind a letter, and what is known of it. -/
theorem wp_gen {P : Program} {c : Code} {Q : Exit → Act → World → Prop} {a : Act} {w : World} (R : World → Prop) (h : R w) (k : ∀ W, R W → Code.wp P c Q a W) : Code.wp P c Q a w := k w h
theorem wp_gen_exit {Q : Exit → Act → World → Prop} {e : Exit} {a : Act} {w : World} (R : World → Prop) (h : R w) (k : ∀ W, R W → Q e a W) : Q e a w := k w h
theorem wpList_gen {P : Program} {ops : Array Oper} {l : List Oper} {Q : Exit → Act → World → Prop} {a : Act} {w : World} (R : World → Prop) (h : R w) (k : ∀ W, R W → wpList P ops Q l a W) : wpList P ops Q l a w := k w h
theorem shl8_or (x c : Nat) (hx : x < 16777216) (hc : c < 256) : bits .or .u32 ((x : Int) * 256 % 4294967296) (c : Int) = ((x * 256 + c : Nat) : Int) := by
  have e : (x : Int) * 256 % 4294967296 = ((x * 256 : Nat) : Int) := by omega
  rw [e, u32_or_nat _ _ (by omega) (by omega)]
  congr 1
  have := Nat.shiftLeft_add_eq_or_of_lt (i := 8) (b := c) hc x
  rw [Nat.shiftLeft_eq] at this
  exact this.symm
end Go.Proofs.YtmldhnghfdhjmaaDoor
