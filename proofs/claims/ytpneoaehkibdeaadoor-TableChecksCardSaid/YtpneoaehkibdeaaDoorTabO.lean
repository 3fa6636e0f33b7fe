/-
  OPENING A TABLE: its columns, and its two drawers of four cells.
  CONDITIONS: each theorem's own hypotheses.
-/
import Derived.Test.YtpneoaehkibdeaaDoorKindR
import Derived.Test.YtpneoaehkibdeaaDoorKindO
import Derived.Test.YtpneoaehkibdeaaDoorGKindC
namespace Go.Proofs.YtpneoaehkibdeaaDoor
open Go.ChangeShapes Go.WideShapes Go.RowKit Go.Deep Go.Joins
open Go.ChangeMaps (open_string shut_string)
set_option linter.unusedVariables false
set_option maxRecDepth 100000

section
variable {H : Type} {enc : TypeId × Value → H} {W : World} {base : Nat} {v : Value} {d : DataW H} {p : List MemPlace}
theorem open_colsT {fuel : Nat} {cs : List Value} {x : DataW H × List MemPlace} (hf : DataW.trod enc Tryd.prog W 0 (fun _ => true) true fuel 22 cs = some x) :
    ∃ (l : List Cl) (ao : Option Addr) (cap : Nat), cs = [.slice ao l.length cap] ∧ l.length ≤ cap ∧ cap ≤ 9223372036854775807 ∧ Cols W ao l := by
  rcases open_slice Tryd.underlying22 hf with ⟨hcs, _⟩ | ⟨a, len', cap', m, n, D, Pl, hcs, _, hl, hm, hmm, _, hel⟩
  · subst hcs
    exact ⟨[], none, 0, rfl, Nat.le_refl _, Nat.zero_le _, by simp, .inl rfl⟩
  · subst hcs
    simp only [if_true] at hmm
    rw [show Tryd.prog.cellsOf 67 = 3 by kernel_rfl] at hel
    have c1 : Tryd.prog.cellsOf 3 = 1 := by kernel_rfl
    have cS : Tryd.prog.cellsOf 9 = 1 := by kernel_rfl
    have cB : Tryd.prog.cellsOf 4 = 1 := by kernel_rfl
    have hD : ∀ i, i < len' → ∃ c : Cl, FitC c ∧ W.cells? 0 (a.add (i * 3)) 3 = some [.string (str c.n), .int .i64 c.k, .bool c.nl] := fun i hi => by
      obtain ⟨cs, g1, g2⟩ := hel i (by omega)
      obtain ⟨_, hlen, _⟩ := World.cells?_some g1
      obtain ⟨f0, f1, f2, hs, ⟨t0, o0⟩, ⟨t1, o1⟩, ⟨t2, o2⟩⟩ := col_fields
      obtain ⟨y0, y1, y2, n', _, _, h0, h1, h2⟩ := trod_struct3 hs g2
      match cs, hlen with
      | [v0, v1, v2], _ =>
        rw [t0, o0, cS] at h0
        rw [t1, o1, c1] at h1
        rw [t2, o2, cB] at h2
        obtain ⟨s, e0, _, w0⟩ := DataW.trod_string Tryd.underlying9 h0
        obtain ⟨k, e1, _, w1⟩ := DataW.trod_int Tryd.underlying3 h1
        obtain ⟨b, e2, _⟩ := DataW.trod_bool Tryd.underlying4 h2
        simp at e0 e1 e2
        subst e0 e1 e2
        have b1 := bounds_i64 w1
        have z : s.size ≤ 9223372036854775807 := by have := w0; unfold maxLen at this; omega
        exact ⟨⟨s.data.toList, k, b⟩, ⟨b1.1, b1.2, by rw [← Lib.size_eq]; exact z⟩, by rw [g1, ← str_eq s]⟩
    obtain ⟨l, hll, hlp⟩ := list_of hD
    subst hll
    refine ⟨l, _, _, rfl, hl, by unfold maxLen at hm; omega, fun c hc => ?_, ?_⟩
    · obtain ⟨j, hj⟩ := List.mem_iff_getElem?.1 hc
      exact (hlp j c hj).1
    · rcases Nat.eq_zero_or_pos l.length with h0 | h0
      · exact .inl (List.length_eq_zero_iff.1 h0)
      · right
        have hcell : ∀ i t, l[i]? = some t → ∀ q x, ([.string (str t.n), .int .i64 t.k, .bool t.nl] : List Value)[q]? = some x → W.cell? ((a.add (i * 3)).add q) = some x := fun i t ht q x hx => by
          obtain ⟨_, _, hq⟩ := World.cells?_some (hlp i t ht).2
          have hq3 : q < 3 := (List.getElem?_eq_some_iff.1 hx).1
          rw [hq q hq3]; exact hx
        have hx1 := hcell 0 l[0] (List.getElem?_eq_getElem h0) 0 _ rfl
        have hx2 : W.cell? (a.add 0) = some (.string (str l[0].n)) := by rw [Nat.zero_mul] at hx1; simpa [Addr.add] using hx1
        have hsp := add_spot hx2
        have hlt : a.block < W.heap.size := by
          have := cell_lt hx2
          simpa [Addr.add] using this
        obtain ⟨b, o, s⟩ := a
        simp only [Addr.mk.injEq, true_and] at hsp
        subst hsp
        refine ⟨b, o, rfl, hlt, fun i t ht => ?_⟩
        have k0 := hcell i t ht 0 _ rfl
        have k1 := hcell i t ht 1 _ rfl
        have k2 := hcell i t ht 2 _ rfl
        rw [add_none, add_none] at k0 k1 k2
        exact ⟨k0, k1, k2⟩
theorem open4T {fuel : Nat} {cs : List Value} {x : DataW H × List MemPlace} {t e : TypeId} {f0 f1 f2 f3 : Field} (ht : Tryd.prog.underlying t = some (.slice e)) (he : Tryd.prog.underlying e = some (.struct #[f0, f1, f2, f3])) (hone : oneCellFields Tryd.prog #[f0, f1, f2, f3] = true) (hC : Tryd.prog.cellsOf e = 4)
    (hf : DataW.trod enc Tryd.prog W 0 (fun _ => true) true fuel t cs = some x) :
    ∃ ao len cap, cs = [.slice ao len cap] ∧ len ≤ cap ∧ cap ≤ 9223372036854775807 ∧ (len = 0 ∨ ∃ a o, ao = some ⟨a, o, none⟩ ∧ a < W.heap.size ∧ ∀ i, i < len → ∃ q : Value × Value × Value × Value,
      W.cell? ⟨a, o + i * 4, none⟩ = some q.1 ∧ W.cell? ⟨a, o + i * 4 + 1, none⟩ = some q.2.1 ∧ W.cell? ⟨a, o + i * 4 + 2, none⟩ = some q.2.2.1 ∧ W.cell? ⟨a, o + i * 4 + 3, none⟩ = some q.2.2.2 ∧
      ∃ n y0 y1 y2 y3, DataW.trod enc Tryd.prog W 0 (fun _ => true) true n f0.type [q.1] = some y0 ∧ DataW.trod enc Tryd.prog W 0 (fun _ => true) true n f1.type [q.2.1] = some y1 ∧ DataW.trod enc Tryd.prog W 0 (fun _ => true) true n f2.type [q.2.2.1] = some y2 ∧ DataW.trod enc Tryd.prog W 0 (fun _ => true) true n f3.type [q.2.2.2] = some y3) := by
  rcases open_slice ht hf with ⟨hcs, _⟩ | ⟨a, len, cap, m, n, D, Pl, hcs, _, hl, hm, hmm, _, hel⟩
  · subst hcs
    exact ⟨none, 0, 0, rfl, Nat.le_refl _, Nat.zero_le _, .inl rfl⟩
  · subst hcs
    refine ⟨_, _, _, rfl, hl, by unfold maxLen at hm; omega, ?_⟩
    rcases Nat.eq_zero_or_pos len with h0 | h0
    · exact .inl h0
    · right
      have hml : len ≤ m := by rw [hmm]; simp; exact hl
      rw [hC] at hel
      obtain ⟨cs0, g0, _⟩ := hel 0 (by omega)
      have hlen0 := (World.cells?_some g0)
      have hs := hlen0.2.2 0 (by decide)
      have hc0 : ∃ x, W.cell? ((a.add (0 * 4)).add 0) = some x := by
        rw [hs]
        have : 0 < cs0.length := by rw [hlen0.2.1]; decide
        exact ⟨cs0[0], List.getElem?_eq_getElem this⟩
      obtain ⟨x0, hx0⟩ := hc0
      have hx1 : W.cell? (a.add 0) = some x0 := by rw [Nat.zero_mul] at hx0; simpa [Addr.add] using hx0
      have hsp := add_spot hx1
      have hlt : a.block < W.heap.size := by
        have := cell_lt hx1
        simpa [Addr.add] using this
      obtain ⟨b, o, s⟩ := a
      simp only [Addr.mk.injEq, true_and] at hsp
      subst hsp
      refine ⟨b, o, rfl, hlt, fun i hi => ?_⟩
      obtain ⟨cs, g1, g2⟩ := hel i (by omega)
      obtain ⟨_, hlen, hcell⟩ := World.cells?_some g1
      match cs, hlen with
      | [c0, c1, c2, c3], _ =>
        obtain ⟨y0, y1, y2, y3, n', _, _, t0, t1, t2, t3⟩ := trod_struct4 he g2
        obtain ⟨o0, k0⟩ := hone_of hone 0 f0 rfl
        obtain ⟨o1, k1⟩ := hone_of hone 1 f1 rfl
        obtain ⟨o2, k2⟩ := hone_of hone 2 f2 rfl
        obtain ⟨o3, k3⟩ := hone_of hone 3 f3 rfl
        have q0 := hcell 0 (by decide)
        have q1 := hcell 1 (by decide)
        have q2 := hcell 2 (by decide)
        have q3 := hcell 3 (by decide)
        rw [add_none, add_none] at q0 q1 q2 q3
        exact ⟨(c0, c1, c2, c3), q0, q1, q2, q3, n', y0, y1, y2, y3, by simpa [o0, k0] using t0, by simpa [o1, k1] using t1, by simpa [o2, k2] using t2, by simpa [o3, k3] using t3⟩
theorem open_valsT {fuel : Nat} {cs : List Value} {x : DataW H × List MemPlace} (hf : DataW.trod enc Tryd.prog W 0 (fun _ => true) true fuel 23 cs = some x) :
    ∃ (l : List Vl) (ao : Option Addr) (cap : Nat), cs = [.slice ao l.length cap] ∧ l.length ≤ cap ∧ cap ≤ 9223372036854775807 ∧ Vals W ao l := by
  obtain ⟨ao, len, cap, rfl, h1, h2, h3⟩ := open4T Tryd.underlying23 Tryd.underlying39 (by kernel_rfl) (by kernel_rfl) hf
  rcases h3 with rfl | ⟨a, o, rfl, ha, hel⟩
  · exact ⟨[], ao, cap, rfl, h1, h2, by simp, .inl rfl⟩
  · obtain ⟨l, hl, hp⟩ := list_of (n := len) (p := fun i (r : Vl) => FitV r ∧ W.cell? ⟨a, o + i * 4, none⟩ = some (.int .i64 r.k) ∧ W.cell? ⟨a, o + i * 4 + 1, none⟩ = some (.int .i64 r.i) ∧ W.cell? ⟨a, o + i * 4 + 2, none⟩ = some (.int .u64 r.b) ∧ W.cell? ⟨a, o + i * 4 + 3, none⟩ = some (.string (str r.s))) (fun i hi => by
      obtain ⟨⟨q0, q1, q2, q3⟩, c0, c1, c2, c3, n, y0, y1, y2, y3, t0, t1, t2, t3⟩ := hel i hi
      obtain ⟨k, e0, _, w0⟩ := DataW.trod_int Tryd.underlying3 t0
      obtain ⟨x, e1, _, w1⟩ := DataW.trod_int Tryd.underlying3 t1
      obtain ⟨y, e2, _, w2⟩ := DataW.trod_int Tryd.underlying37 t2
      obtain ⟨s, e3, _, w3⟩ := DataW.trod_string Tryd.underlying9 t3
      simp at e0 e1 e2 e3
      subst e0 e1 e2 e3
      have b1 := bounds_i64 w1
      have b2 := bounds_u64 w2
      have z1 : s.size ≤ 9223372036854775807 := by have := w3; unfold maxLen at this; omega
      refine ⟨⟨k, x, y, s.data.toList⟩, ⟨b1.1, b1.2, b2.1, b2.2, by rw [← Lib.size_eq]; exact z1⟩, c0, c1, c2, ?_⟩
      show _ = some (Value.string (str s.data.toList))
      rw [← str_eq s]; exact c3)
    subst hl
    refine ⟨l, _, cap, rfl, h1, h2, fun r hr => ?_, .inr ⟨a, o, rfl, ha, fun j r hr => (hp j r hr).2⟩⟩
    obtain ⟨j, hj⟩ := List.mem_iff_getElem?.1 hr
    exact (hp j r hj).1
/-- A cell of a drawer. -/
structure Ce where
  full : Bool
  row : List Vl
  ao : Option Addr
  cap : Nat
def ceV (c : Ce) : List Value := [.bool c.full, .slice c.ao c.row.length c.cap]
def CeOk (W : World) (c : Ce) : Prop := c.row.length ≤ c.cap ∧ c.cap ≤ 9223372036854775807 ∧ Vals W c.ao c.row
theorem CeOk.keep {w w1 : World} {c : Ce} (h : CeOk w c) (hb : Below w.heap.size w w1) : CeOk w1 c := ⟨h.1, h.2.1, h.2.2.keep hb⟩
theorem ce_fields : ∃ f0 f1 : Field, Tryd.prog.underlying 25 = some (.struct #[f0, f1]) ∧ (f0.type = 4 ∧ f0.offset = 0) ∧ (f1.type = 23 ∧ f1.offset = 1) := ⟨_, _, rfl, ⟨rfl, rfl⟩, ⟨rfl, rfl⟩⟩
theorem open_ce {fuel : Nat} {cs : List Value} {x : DataW H × List MemPlace} (hl : cs.length = 2) (hf : DataW.trod enc Tryd.prog W 0 (fun _ => true) true fuel 25 cs = some x) : ∃ c : Ce, cs = ceV c ∧ CeOk W c := by
  obtain ⟨f0, f1, hs, ⟨t0, o0⟩, ⟨t1, o1⟩⟩ := ce_fields
  obtain ⟨y0, y1, n, _, _, h0, h1⟩ := trod_struct2 hs hf
  have cB : Tryd.prog.cellsOf 4 = 1 := by kernel_rfl
  have cV : Tryd.prog.cellsOf 23 = 1 := by kernel_rfl
  match cs, hl with
  | [c0, c1], _ =>
    rw [t0, o0, cB] at h0
    rw [t1, o1, cV] at h1
    obtain ⟨b, e0, _⟩ := DataW.trod_bool Tryd.underlying4 h0
    obtain ⟨l, ao, cap, e1, g1, g2, g3⟩ := open_valsT h1
    simp at e0 e1
    subst e0 e1
    exact ⟨⟨b, l, ao, cap⟩, rfl, g1, g2, g3⟩
/-- A drawer: four cells. -/
abbrev Dr := Ce × Ce × Ce × Ce
def drV (d : Dr) : List Value := ceV d.1 ++ (ceV d.2.1 ++ (ceV d.2.2.1 ++ ceV d.2.2.2))
def DrOk (W : World) (d : Dr) : Prop := CeOk W d.1 ∧ CeOk W d.2.1 ∧ CeOk W d.2.2.1 ∧ CeOk W d.2.2.2
theorem DrOk.keep {w w1 : World} {d : Dr} (h : DrOk w d) (hb : Below w.heap.size w w1) : DrOk w1 d := ⟨h.1.keep hb, h.2.1.keep hb, h.2.2.1.keep hb, h.2.2.2.keep hb⟩
theorem cut2 (cs : List Value) (i : Nat) (h : i + 2 ≤ cs.length) : ((cs.drop i).take 2).length = 2 := by simp; omega
theorem open_dr {fuel : Nat} {cs : List Value} {x : DataW H × List MemPlace} (hl : cs.length = 8) (hf : DataW.trod enc Tryd.prog W 0 (fun _ => true) true fuel 26 cs = some x) : ∃ d : Dr, cs = drV d ∧ DrOk W d := by
  have hA : Tryd.prog.underlying 26 = some (.array 4 25) := rfl
  obtain ⟨xs, m, _, _, _, hxl, hel⟩ := DataW.trod_array hA hf
  have cC : Tryd.prog.cellsOf 25 = 2 := by kernel_rfl
  rw [cC] at hel
  have g : ∀ i, i < 4 → ∃ c : Ce, (cs.drop (i * 2)).take 2 = ceV c ∧ CeOk W c := fun i hi => by
    have h1 := hel i hi
    rw [List.getElem?_eq_getElem (by omega : i < xs.length)] at h1
    exact open_ce (cut2 _ _ (by omega)) h1
  obtain ⟨c0, e0, k0⟩ := g 0 (by omega)
  obtain ⟨c1, e1, k1⟩ := g 1 (by omega)
  obtain ⟨c2, e2, k2⟩ := g 2 (by omega)
  obtain ⟨c3, e3, k3⟩ := g 3 (by omega)
  refine ⟨(c0, c1, c2, c3), ?_, k0, k1, k2, k3⟩
  match cs, hl with
  | [a0, a1, a2, a3, a4, a5, a6, a7], _ =>
    simp [ceV] at e0 e1 e2 e3
    obtain ⟨rfl, rfl⟩ := e0
    obtain ⟨rfl, rfl⟩ := e1
    obtain ⟨rfl, rfl⟩ := e2
    obtain ⟨rfl, rfl⟩ := e3
    rfl
/-- A table. -/
structure Tb where
  there : Bool
  name : List UInt8
  cols : List Cl
  ao : Option Addr
  cap : Nat
  d0 : Dr
  d1 : Dr
def tbV (t : Tb) : List Value := .bool t.there :: .string (str t.name) :: .slice t.ao t.cols.length t.cap :: (drV t.d0 ++ drV t.d1)
structure TbOk (W : World) (t : Tb) : Prop where
  nm : t.name.length ≤ 9223372036854775807
  c1 : t.cols.length ≤ t.cap
  c2 : t.cap ≤ 9223372036854775807
  C : Cols W t.ao t.cols
  D0 : DrOk W t.d0
  D1 : DrOk W t.d1
theorem TbOk.keep {w w1 : World} {t : Tb} (h : TbOk w t) (hb : Below w.heap.size w w1) : TbOk w1 t := ⟨h.nm, h.c1, h.c2, h.C.keep hb, h.D0.keep hb, h.D1.keep hb⟩
theorem tb_fields : ∃ fs : Array Field, Tryd.prog.underlying 29 = some (.struct fs) ∧ fs.toList.map (fun f => (f.type, f.offset)) = [(4, 0), (9, 1), (22, 2), (27, 3)] := ⟨_, rfl, by kernel_rfl⟩
theorem open_table (hval : Value.okWide Tryd.prog W .any base 29 v) (h : DataW.Trod enc Tryd.prog W 0 (fun _ => true) true 29 v d p) :
    ∃ t : Tb, v = .agg (tbV t).toArray ∧ TbOk W t := by
  obtain ⟨fs, hs, hm⟩ := tb_fields
  obtain ⟨cs, rfl, hsz⟩ := okWide_struct hs hval
  have hC : Tryd.prog.cellsOf 29 = 19 := by kernel_rfl
  rw [hC] at hsz
  obtain ⟨fuel, hf⟩ := h
  obtain ⟨xs, n, _, hx, _, hlen, hg⟩ := DataW.trod_struct hs hf
  have hcl : (Value.agg cs).cells.toList = cs.toList := rfl
  rw [hcl] at hg
  have at_ : ∀ (i : Nat) (t : TypeId) (off : Nat), (fs.toList.map (fun f => (f.type, f.offset)))[i]? = some (t, off) → ∃ x, DataW.trod enc Tryd.prog W 0 (fun _ => true) true n t ((cs.toList.drop off).take (Tryd.prog.cellsOf t)) = some x := by
    intro i t off hi
    rw [List.getElem?_map] at hi
    obtain ⟨f, hf1, hf2⟩ := Option.map_eq_some_iff.1 hi
    simp only [Prod.mk.injEq] at hf2
    obtain ⟨rfl, rfl⟩ := hf2
    have hf1' : fs[i]? = some f := by simpa using hf1
    have h1 := hg i f hf1'
    have hil : i < fs.size := (Array.getElem?_eq_some_iff.1 hf1').1
    rw [List.getElem?_eq_getElem (by omega : i < xs.length)] at h1
    exact ⟨_, h1⟩
  rw [hm] at at_
  obtain ⟨x0, h0⟩ := at_ 0 _ _ rfl
  obtain ⟨x1, h1⟩ := at_ 1 _ _ rfl
  obtain ⟨x2, h2⟩ := at_ 2 _ _ rfl
  obtain ⟨x3, h3⟩ := at_ 3 _ _ rfl
  rw [show Tryd.prog.cellsOf 4 = 1 by kernel_rfl] at h0
  rw [show Tryd.prog.cellsOf 9 = 1 by kernel_rfl] at h1
  rw [show Tryd.prog.cellsOf 22 = 1 by kernel_rfl] at h2
  rw [show Tryd.prog.cellsOf 27 = 16 by kernel_rfl] at h3
  obtain ⟨b, e0, _⟩ := DataW.trod_bool Tryd.underlying4 h0
  obtain ⟨s, e1, _, w1⟩ := DataW.trod_string Tryd.underlying9 h1
  obtain ⟨l, ao, cap, e2, g1, g2, g3⟩ := open_colsT h2
  have hA : Tryd.prog.underlying 27 = some (.array 2 26) := rfl
  obtain ⟨ys, m, _, _, _, hyl, hel⟩ := DataW.trod_array hA h3
  have cC : Tryd.prog.cellsOf 26 = 8 := by kernel_rfl
  rw [cC] at hel
  have hcs : cs.toList.length = 19 := by simpa using hsz
  have g : ∀ i, i < 2 → ∃ d : Dr, ((((cs.toList.drop 3).take 16).drop (i * 8)).take 8) = drV d ∧ DrOk W d := fun i hi => by
    have h1 := hel i hi
    rw [List.getElem?_eq_getElem (by omega : i < ys.length)] at h1
    exact open_dr (by simp; omega) h1
  obtain ⟨d0, k0, r0⟩ := g 0 (by omega)
  obtain ⟨d1, k1, r1⟩ := g 1 (by omega)
  have z : s.size ≤ 9223372036854775807 := by have := w1; unfold maxLen at this; omega
  refine ⟨⟨b, s.data.toList, l, ao, cap, d0, d1⟩, ?_, ⟨by rw [← Lib.size_eq]; exact z, g1, g2, g3, r0, r1⟩⟩
  congr 1
  apply Array.toList_inj.1
  show cs.toList = Value.bool b :: Value.string (str s.data.toList) :: Value.slice ao l.length cap :: (drV d0 ++ drV d1)
  rw [← str_eq s, ← k0, ← k1]
  generalize cs.toList = L at *
  match L, hcs with
  | [v0, v1, v2, v3, v4, v5, v6, v7, v8, v9, v10, v11, v12, v13, v14, v15, v16, v17, v18], _ =>
    simp at e0 e1 e2
    subst e0 e1 e2
    rfl
end
end Go.Proofs.YtpneoaehkibdeaaDoor
