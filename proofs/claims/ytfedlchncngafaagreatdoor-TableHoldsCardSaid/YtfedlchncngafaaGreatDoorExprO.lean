/-
  OPENING an expression that came in: a tree of nodes, each node's parts in an array of their own.
  CONDITIONS: each theorem's own hypotheses.
-/
import Derived.Test.YtfedlchncngafaaGreatDoorExprT
import Derived.Test.YtfedlchncngafaaGreatDoorRawL
import Derived.Test.YtfedlchncngafaaGreatDoorStr0
namespace Go.Proofs.YtfedlchncngafaaGreatDoor
open Go.ChangeShapes Go.WideShapes Go.RowKit Go.Deep Go.Joins
open Go.ChangeMaps (open_string shut_string)
set_option linter.unusedVariables false
set_option maxRecDepth 100000

/-- A node's cells but the last one. -/
def ndC (d : Nd) : List Value := [.int .i64 d.op, .int .i64 d.k, .int .i64 d.i, .int .u64 d.b, .string (str d.t), .string (str d.n)]
structure FitN (d : Nd) : Prop where
  o0 : -9223372036854775808 ≤ d.op
  o1 : d.op ≤ 9223372036854775807
  k0 : -9223372036854775808 ≤ d.k
  k1 : d.k ≤ 9223372036854775807
  i0 : -9223372036854775808 ≤ d.i
  i1 : d.i ≤ 9223372036854775807
  b0 : 0 ≤ d.b
  b1 : d.b ≤ 18446744073709551615
  t1 : d.t.length ≤ 9223372036854775807
  n1 : d.n.length ≤ 9223372036854775807
mutual
def AtT (W : World) : T → Option Addr → Prop
  | .mk d l, ao => FitN d ∧ AtL W ao 0 l
def AtL (W : World) (ao : Option Addr) : Nat → List T → Prop
  | _, [] => True
  | j, t :: l => (∃ a o ao' cap, ao = some ⟨a, o, none⟩ ∧ a < W.heap.size ∧ (∀ q x, (ndC t.nd)[q]? = some x → W.cell? ⟨a, o + j * 7 + q, none⟩ = some x) ∧ W.cell? ⟨a, o + j * 7 + 6, none⟩ = some (.slice ao' t.kids.length cap) ∧ t.kids.length ≤ cap ∧ (cap ≤ 9223372036854775807 ∧ (ao' = none → cap = 0)) ∧ AtT W t ao') ∧ AtL W ao (j + 1) l
end
/-- What lies at a place of the parts. -/
def NodeAt (W : World) (a o : Nat) (j : Nat) (t : T) : Prop := ∃ ao' cap, (∀ q x, (ndC t.nd)[q]? = some x → W.cell? ⟨a, o + j * 7 + q, none⟩ = some x) ∧ W.cell? ⟨a, o + j * 7 + 6, none⟩ = some (.slice ao' t.kids.length cap) ∧ t.kids.length ≤ cap ∧ (cap ≤ 9223372036854775807 ∧ (ao' = none → cap = 0)) ∧ AtT W t ao'
theorem AtL.at {W : World} {ao : Option Addr} : ∀ {l : List T} {j : Nat}, AtL W ao j l → ∀ i t, l[i]? = some t → ∃ a o, ao = some ⟨a, o, none⟩ ∧ a < W.heap.size ∧ NodeAt W a o (j + i) t
  | [], j, _, i, t, h => by simp at h
  | u :: l, j, hA, i, t, h => by
    simp only [AtL] at hA
    obtain ⟨⟨a, o, ao', cap, e, h1, h2, h3, h4, h5, h6⟩, hl⟩ := hA
    cases i with
    | zero =>
      simp only [List.getElem?_cons_zero, Option.some.injEq] at h
      subst h
      exact ⟨a, o, e, h1, ao', cap, h2, h3, h4, h5, h6⟩
    | succ i =>
      obtain ⟨a2, o2, e2, k1, k2⟩ := AtL.at hl i t (by simpa using h)
      exact ⟨a2, o2, e2, k1, by rw [show j + (i + 1) = j + 1 + i by omega]; exact k2⟩
theorem atL_of {W : World} {ao : Option Addr} {a o : Nat} (e : ao = some ⟨a, o, none⟩) (ha : a < W.heap.size) : ∀ (l : List T) (j : Nat), (∀ i t, l[i]? = some t → NodeAt W a o (j + i) t) → AtL W ao j l
  | [], j, _ => by simp [AtL]
  | t :: l, j, h => by
    simp only [AtL]
    obtain ⟨ao', cap, h2, h3, h4, h5, h6⟩ := h 0 t rfl
    refine ⟨⟨a, o, ao', cap, e, ha, h2, h3, h4, h5, h6⟩, atL_of e ha l (j + 1) (fun i u hu => ?_)⟩
    have := h (i + 1) u (by simpa using hu)
    rw [show j + 1 + i = j + (i + 1) by omega]; exact this
theorem keepT {W W' : World} (hb : Below W.heap.size W W') : ∀ (n : Nat) (t : T), t.deep ≤ n → ∀ ao, AtT W t ao → AtT W' t ao
  | 0, t, h, ao, hA => by have := T.deep_eq t; omega
  | n + 1, .mk d l, h, ao, hA => by
    simp only [AtT] at hA ⊢
    refine ⟨hA.1, ?_⟩
    have hdl : deepL l ≤ n := by simp only [T.deep] at h; omega
    have hl : ∀ (m : List T) (j : Nat), deepL m ≤ n → AtL W ao j m → AtL W' ao j m := by
      intro m
      induction m with
      | nil => intro j _ _; simp [AtL]
      | cons u m ih =>
        intro j hd hj
        simp only [AtL] at hj ⊢
        simp only [deepL] at hd
        obtain ⟨⟨a, o, ao', cap, e, h1, h2, h3, h4, h5, h6⟩, hr⟩ := hj
        exact ⟨⟨a, o, ao', cap, e, Nat.lt_of_lt_of_le h1 hb.size, fun q x hq => (hb.cell (p := ⟨a, _, none⟩) h1).trans (h2 q x hq), (hb.cell (p := ⟨a, _, none⟩) h1).trans h3, h4, h5, keepT hb n u (by omega) _ h6⟩, ih (j + 1) (by omega) hr⟩
    exact hl l 0 hdl hA.2
theorem AtT.keep {W W' : World} {t : T} {ao : Option Addr} (h : AtT W t ao) (hb : Below W.heap.size W W') : AtT W' t ao := keepT hb t.deep t (Nat.le_refl _) ao h
theorem AtL.keep {W W' : World} {l : List T} {ao : Option Addr} (h : AtL W ao 0 l) (hb : Below W.heap.size W W') : AtL W' ao 0 l := by
  rcases Nat.eq_zero_or_pos l.length with h0 | h0
  · rw [List.eq_nil_of_length_eq_zero h0]; simp [AtL]
  · obtain ⟨a, o, e, ha, _⟩ := AtL.at h 0 l[0] (List.getElem?_eq_getElem h0)
    refine atL_of e (Nat.lt_of_lt_of_le ha hb.size) l 0 (fun i t ht => ?_)
    obtain ⟨a2, o2, e2, _, ao', cap, h2, h3, h4, h5, h6⟩ := AtL.at h i t ht
    obtain ⟨rfl, rfl⟩ : a2 = a ∧ o2 = o := by rw [e] at e2; simp at e2; exact ⟨e2.1.symm, e2.2.symm⟩
    exact ⟨ao', cap, fun q x hq => (hb.cell (p := ⟨a2, _, none⟩) ha).trans (h2 q x hq), (hb.cell (p := ⟨a2, _, none⟩) ha).trans h3, h4, h5, h6.keep hb⟩
/-- An expression by value. -/
def exprV (t : T) (ao : Option Addr) (cap : Nat) : Value := .agg (ndC t.nd ++ [Value.slice ao t.kids.length cap]).toArray
section
variable {H : Type} {enc : TypeId × Value → H} {W : World} {base : Nat} {v : Value} {d : DataW H} {p : List MemPlace}
theorem value_fields : ∃ f0 f1 f2 f3 : Field, Tryz.prog.underlying 24 = some (.struct #[f0, f1, f2, f3]) ∧ (f0.type = 3 ∧ f0.offset = 0) ∧ (f1.type = 3 ∧ f1.offset = 1) ∧ (f2.type = 22 ∧ f2.offset = 2) ∧ (f3.type = 9 ∧ f3.offset = 3) := ⟨_, _, _, _, rfl, ⟨rfl, rfl⟩, ⟨rfl, rfl⟩, ⟨rfl, rfl⟩, ⟨rfl, rfl⟩⟩
theorem expr_fields : ∃ f0 f1 f2 f3 : Field, Tryz.prog.underlying 27 = some (.struct #[f0, f1, f2, f3]) ∧ (f0.type = 3 ∧ f0.offset = 0) ∧ (f1.type = 24 ∧ f1.offset = 1) ∧ (f2.type = 9 ∧ f2.offset = 5) ∧ (f3.type = 25 ∧ f3.offset = 6) := ⟨_, _, _, _, rfl, ⟨rfl, rfl⟩, ⟨rfl, rfl⟩, ⟨rfl, rfl⟩, ⟨rfl, rfl⟩⟩
theorem open_tree : ∀ (fuel : Nat) (cs : List Value) (x : DataW H × List MemPlace), cs.length = 7 → DataW.trod enc Tryz.prog W 0 (fun _ => true) true fuel 27 cs = some x →
    ∃ (t : T) (ao : Option Addr) (cap : Nat), cs = ndC t.nd ++ [.slice ao t.kids.length cap] ∧ t.kids.length ≤ cap ∧ (cap ≤ 9223372036854775807 ∧ (ao = none → cap = 0)) ∧ AtT W t ao := by
  intro fuel
  induction fuel using Nat.strongRecOn with
  | _ fuel IH =>
  intro cs x hcl h
  obtain ⟨f0, f1, f2, f3, hs, ⟨t0, o0⟩, ⟨t1, o1⟩, ⟨t2, o2⟩, ⟨t3, o3⟩⟩ := expr_fields
  have c1 : Tryz.prog.cellsOf 3 = 1 := by kernel_rfl
  have c64 : Tryz.prog.cellsOf 22 = 1 := by kernel_rfl
  have cS : Tryz.prog.cellsOf 9 = 1 := by kernel_rfl
  have cV : Tryz.prog.cellsOf 24 = 4 := by kernel_rfl
  have cL : Tryz.prog.cellsOf 25 = 1 := by kernel_rfl
  have cE : Tryz.prog.cellsOf 27 = 7 := by kernel_rfl
  obtain ⟨xs, n, hfu, _, _, hxl, hf⟩ := DataW.trod_struct hs h
  match cs, hcl, xs, hxl with
  | [v0, v1, v2, v3, v4, v5, v6], _, [y0, y1, y2, y3], _ =>
    have g0 := hf 0 f0 rfl
    have g1 := hf 1 f1 rfl
    have g2 := hf 2 f2 rfl
    have g3 := hf 3 f3 rfl
    rw [t0, o0, c1] at g0
    rw [t1, o1, cV] at g1
    rw [t2, o2, cS] at g2
    rw [t3, o3, cL] at g3
    simp only [List.drop_zero, List.take_succ_cons, List.take_zero, List.drop_succ_cons, List.getElem?_cons_zero, List.getElem?_cons_succ] at g0 g1 g2 g3
    obtain ⟨op, e0, _, w0⟩ := DataW.trod_int Tryz.underlying3 g0
    obtain ⟨nm, e2, _, w2⟩ := DataW.trod_string Tryz.underlying9 g2
    obtain ⟨q0, q1, q2, q3, hs', ⟨p0, r0⟩, ⟨p1, r1⟩, ⟨p2, r2⟩, ⟨p3, r3⟩⟩ := value_fields
    obtain ⟨ys, n', _, _, _, hyl, hg⟩ := DataW.trod_struct hs' g1
    match ys, hyl with
    | [z0, z1, z2, z3], _ =>
      have k0 := hg 0 q0 rfl
      have k1 := hg 1 q1 rfl
      have k2 := hg 2 q2 rfl
      have k3 := hg 3 q3 rfl
      rw [p0, r0, c1] at k0
      rw [p1, r1, c1] at k1
      rw [p2, r2, c64] at k2
      rw [p3, r3, cS] at k3
      simp only [List.drop_zero, List.take_succ_cons, List.take_zero, List.drop_succ_cons, List.getElem?_cons_zero, List.getElem?_cons_succ] at k0 k1 k2 k3
      obtain ⟨vk, m0, _, u0⟩ := DataW.trod_int Tryz.underlying3 k0
      obtain ⟨vi, m1, _, u1⟩ := DataW.trod_int Tryz.underlying3 k1
      obtain ⟨vb, m2, _, u2⟩ := DataW.trod_int Tryz.underlying22 k2
      obtain ⟨vt, m3, _, u3⟩ := DataW.trod_string Tryz.underlying9 k3
      simp at e0 e2 m0 m1 m2 m3
      subst e0 e2 m0 m1 m2 m3
      have b0 := bounds_i64 w0
      have b1 := bounds_i64 u0
      have b2 := bounds_i64 u1
      have b3 := bounds_u64 u2
      have z4 : vt.size ≤ 9223372036854775807 := by have := u3; unfold maxLen at this; omega
      have z5 : nm.size ≤ 9223372036854775807 := by have := w2; unfold maxLen at this; omega
      have fit : FitN ⟨op, vk, vi, vb, vt.data.toList, nm.data.toList⟩ := ⟨b0.1, b0.2, b1.1, b1.2, b2.1, b2.2, b3.1, b3.2, by rw [← Lib.size_eq]; exact z4, by rw [← Lib.size_eq]; exact z5⟩
      have hnd : ndC ⟨op, vk, vi, vb, vt.data.toList, nm.data.toList⟩ = [.int .i64 op, .int .i64 vk, .int .i64 vi, .int .u64 vb, .string vt, .string nm] := by
        simp only [ndC]; rw [← str_eq vt, ← str_eq nm]
      rcases DataW.trod_slice Tryz.underlying25 g3 with ⟨hcs, _⟩ | ⟨a, len, cap, elems, rest, m, hfm, hcs, _, _, hl, hm, hlen, hel, _, _⟩
      · simp at hcs
        subst hcs
        exact ⟨.mk ⟨op, vk, vi, vb, vt.data.toList, nm.data.toList⟩ [], none, 0, by simp only [T.nd, T.kids]; rw [hnd]; rfl, Nat.le_refl _, ⟨Nat.zero_le _, fun _ => rfl⟩, by simp [AtT, AtL, fit]⟩
      · simp at hcs
        subst hcs
        rw [cE] at hel
        have hD : ∀ i, i < len → ∃ t : T, ∃ ao' cap', W.cells? 0 (a.add (i * 7)) 7 = some (ndC t.nd ++ [.slice ao' t.kids.length cap']) ∧ t.kids.length ≤ cap' ∧ (cap' ≤ 9223372036854775807 ∧ (ao' = none → cap' = 0)) ∧ AtT W t ao' := fun i hi => by
          have h1 := hel i hi
          rw [List.getElem?_eq_getElem (by omega)] at h1
          obtain ⟨cs', h2, h3⟩ := Option.bind_eq_some_iff.1 h1
          obtain ⟨_, hlen', _⟩ := World.cells?_some h2
          obtain ⟨t, ao', cap', j1, j2, j3, j4⟩ := IH m (by omega) cs' _ hlen' h3
          exact ⟨t, ao', cap', by rw [h2, j1], j2, j3, j4⟩
        obtain ⟨l, hll, hlp⟩ := list_of hD
        subst hll
        refine ⟨.mk ⟨op, vk, vi, vb, vt.data.toList, nm.data.toList⟩ l, some a, cap, by simp only [T.nd, T.kids]; rw [hnd]; rfl, hl, ⟨by unfold maxLen at hm; omega, fun h => by cases h⟩, ?_⟩
        simp only [AtT]
        refine ⟨fit, ?_⟩
        rcases Nat.eq_zero_or_pos l.length with h0 | h0
        · rw [List.eq_nil_of_length_eq_zero h0]; simp [AtL]
        · have hcell : ∀ i t, l[i]? = some t → ∃ ao' cap', (∀ q x, (ndC t.nd ++ [.slice ao' t.kids.length cap'])[q]? = some x → W.cell? ((a.add (i * 7)).add q) = some x) ∧ t.kids.length ≤ cap' ∧ (cap' ≤ 9223372036854775807 ∧ (ao' = none → cap' = 0)) ∧ AtT W t ao' := fun i t ht => by
            obtain ⟨ao', cap', j1, j2, j3, j4⟩ := hlp i t ht
            obtain ⟨_, hlen', hq⟩ := World.cells?_some j1
            refine ⟨ao', cap', fun q x hx => ?_, j2, j3, j4⟩
            have hq7 : q < 7 := by have := (List.getElem?_eq_some_iff.1 hx).1; rw [hlen'] at this; exact this
            rw [hq q hq7]; exact hx
          obtain ⟨ao', cap', j1, _⟩ := hcell 0 l[0] (List.getElem?_eq_getElem h0)
          have hx1 := j1 0 _ rfl
          have hx2 : W.cell? (a.add 0) = some (.int .i64 l[0].nd.op) := by rw [Nat.zero_mul] at hx1; simpa [Addr.add, ndC] using hx1
          have hsp := add_spot hx2
          have hlt : a.block < W.heap.size := by
            have := cell_lt hx2
            simpa [Addr.add] using this
          obtain ⟨b, o, s⟩ := a
          simp only [Addr.mk.injEq, true_and] at hsp
          subst hsp
          refine atL_of rfl hlt l 0 (fun i t ht => ?_)
          obtain ⟨ao', cap', j1, j2, j3, j4⟩ := hcell i t ht
          refine ⟨ao', cap', fun q x hx => ?_, ?_, j2, j3, j4⟩
          · have := j1 q x (by rw [List.getElem?_append_left (List.getElem?_eq_some_iff.1 hx).1]; exact hx)
            rw [add_none, add_none] at this
            rw [Nat.zero_add]; exact this
          · have := j1 6 _ rfl
            rw [add_none, add_none] at this
            rw [Nat.zero_add]; exact this
theorem open_expr (hval : Value.okWide Tryz.prog W .any base 27 v) (h : DataW.Trod enc Tryz.prog W 0 (fun _ => true) true 27 v d p) :
    ∃ (t : T) (ao : Option Addr) (cap : Nat), v = exprV t ao cap ∧ t.kids.length ≤ cap ∧ (cap ≤ 9223372036854775807 ∧ (ao = none → cap = 0)) ∧ AtT W t ao := by
  obtain ⟨f0, f1, f2, f3, hs, _⟩ := expr_fields
  obtain ⟨cs, rfl, hsz⟩ := okWide_struct hs hval
  rw [show Tryz.prog.cellsOf 27 = 7 by kernel_rfl] at hsz
  obtain ⟨fuel, hf⟩ := h
  rw [show (Value.agg cs).cells.toList = cs.toList from rfl] at hf
  obtain ⟨t, ao, cap, e, h1, h2, h3⟩ := open_tree fuel cs.toList _ (by simpa using hsz) hf
  refine ⟨t, ao, cap, ?_, h1, h2, h3⟩
  unfold exprV
  congr 1
  exact Array.toList_inj.1 (by rw [e])
end
end Go.Proofs.YtfedlchncngafaaGreatDoor
