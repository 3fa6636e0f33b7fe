/-
  CONTRACTS of the makers of operations: op1, op2; expressions with all that is known of where they lie.
  CONDITIONS: each theorem's own hypotheses.
-/
import Derived.Test.YtfedlchncngafaaGreatDoorExprC
import Derived.Test.YtfedlchncngafaaGreatDoorTyT
import Derived.Test.YtfedlchncngafaaGreatDoorBlk
namespace Go.Proofs.YtfedlchncngafaaGreatDoor
open Go.RowKit
set_option linter.unusedVariables false
set_option maxRecDepth 100000

/-- An expression lies in a world. -/
structure XT (w : World) (t : T) (ao : Option Addr) (cap : Nat) : Prop where
  A : AtT w t ao
  n1 : t.kids.length ≤ cap
  n2 : cap ≤ 9223372036854775807
  n3 : ao = none → cap = 0
theorem XT.keep {w w' : World} {t : T} {ao : Option Addr} {cap : Nat} (h : XT w t ao cap) (hb : Below w.heap.size w w') : XT w' t ao cap := ⟨h.A.keep hb, h.n1, h.n2, h.n3⟩
theorem xt_leaf (w : World) (d : Nd) (h : FitN d) : XT w (.mk d []) none 0 := ⟨by simp only [AtT, AtL]; exact ⟨h, trivial⟩, Nat.le_refl _, by decide, fun _ => rfl⟩
theorem fit_lit (k i b : Int) (s : List UInt8) (hk : 0 ≤ k ∧ k ≤ 4) (hi : -9223372036854775808 ≤ i ∧ i ≤ 9223372036854775807) (hb : 0 ≤ b ∧ b ≤ 18446744073709551615) (hs : s.length ≤ 1000000) : FitN ⟨1, k, i, b, s, []⟩ :=
  ⟨(by decide : (-9223372036854775808 : Int) ≤ 1), (by decide : (1 : Int) ≤ _), by show (-9223372036854775808 : Int) ≤ k; omega, by show k ≤ 9223372036854775807; omega, hi.1, hi.2, hb.1, hb.2, by show s.length ≤ _; omega, Nat.zero_le _⟩
theorem fit_col (n : List UInt8) (hn : n.length ≤ 1000000) : FitN ⟨2, 0, 0, 0, [], n⟩ :=
  ⟨(by decide : (-9223372036854775808 : Int) ≤ 2), (by decide : (2 : Int) ≤ _), (by decide : (-9223372036854775808 : Int) ≤ 0), (by decide : (0 : Int) ≤ _), (by decide : (-9223372036854775808 : Int) ≤ 0), (by decide : (0 : Int) ≤ _), (by decide : (0 : Int) ≤ 0), (by decide : (0 : Int) ≤ _), Nat.zero_le _, by show n.length ≤ _; omega⟩
theorem results_expr {fn : Func} {t : Tmp} (h : fn.results = #[.cell t 27]) (tmps : Array Value) (w : World) (g : Nat) (x0 x1 x2 x3 x4 x5 x6 : Value) (hp : tmps.getD t undef = .pointer (some ⟨g, 0, none⟩)) (hB : Blk w g 27 [x0, x1, x2, x3, x4, x5, x6]) :
    (results fn tmps).run Tryz.prog w = .ok (.agg #[x0, x1, x2, x3, x4, x5, x6]) w := by
  have c0 := hB.cell (j := 0) rfl
  have c1 := hB.cell (j := 1) rfl
  have c2 := hB.cell (j := 2) rfl
  have c3 := hB.cell (j := 3) rfl
  have c4 := hB.cell (j := 4) rfl
  have c5 := hB.cell (j := 5) rfl
  have c6 := hB.cell (j := 6) rfl
  have hp' : tmps[t]?.getD undef = .pointer (some ⟨g, 0, none⟩) := by simpa using hp
  simp [results, h, hp', go_sem, c0, c1, c2, c3, c4, c5, c6]
theorem Blk.set7 {W : World} {g : Nat} {T : TypeId} {a0 a1 a2 a3 a4 a5 a6 b0 b1 b2 b3 b4 b5 b6 : Value} (h : Blk W g T [b0, b1, b2, b3, b4, b5, b6]) : Blk (((((((W.setCell ⟨g, 0, none⟩ a0).setCell ⟨g, 1, none⟩ a1).setCell ⟨g, 2, none⟩ a2).setCell ⟨g, 3, none⟩ a3).setCell ⟨g, 4, none⟩ a4).setCell ⟨g, 5, none⟩ a5).setCell ⟨g, 6, none⟩ a6) g T [a0, a1, a2, a3, a4, a5, a6] := by
  have := ((((((h.set 0 a0).set 1 a1).set 2 a2).set 3 a3).set 4 a4).set 5 a5).set 6 a6
  exact this
theorem below_set7 {w W : World} {g : Nat} {a0 a1 a2 a3 a4 a5 a6 : Value} (h : Below w.heap.size w W) (hg : w.heap.size ≤ g) : Below w.heap.size w (((((((W.setCell ⟨g, 0, none⟩ a0).setCell ⟨g, 1, none⟩ a1).setCell ⟨g, 2, none⟩ a2).setCell ⟨g, 3, none⟩ a3).setCell ⟨g, 4, none⟩ a4).setCell ⟨g, 5, none⟩ a5).setCell ⟨g, 6, none⟩ a6) :=
  ((((((h.setCell (p := ⟨g, 0, none⟩) hg a0).setCell (p := ⟨g, 1, none⟩) hg a1).setCell (p := ⟨g, 2, none⟩) hg a2).setCell (p := ⟨g, 3, none⟩) hg a3).setCell (p := ⟨g, 4, none⟩) hg a4).setCell (p := ⟨g, 5, none⟩) hg a5).setCell (p := ⟨g, 6, none⟩) hg a6
theorem Blk.others7 {W : World} {g q : Nat} {T : TypeId} {cs : List Value} {a0 a1 a2 a3 a4 a5 a6 : Value} (h : Blk W q T cs) (hne : q ≠ g) : Blk (((((((W.setCell ⟨g, 0, none⟩ a0).setCell ⟨g, 1, none⟩ a1).setCell ⟨g, 2, none⟩ a2).setCell ⟨g, 3, none⟩ a3).setCell ⟨g, 4, none⟩ a4).setCell ⟨g, 5, none⟩ a5).setCell ⟨g, 6, none⟩ a6) q T cs :=
  ((((((h.other ⟨g, 0, none⟩ a0 hne).other ⟨g, 1, none⟩ a1 hne).other ⟨g, 2, none⟩ a2 hne).other ⟨g, 3, none⟩ a3 hne).other ⟨g, 4, none⟩ a4 hne).other ⟨g, 5, none⟩ a5 hne).other ⟨g, 6, none⟩ a6 hne
/-- The cells of a node that lies in a row. -/
def xcells (t : T) (ao : Option Addr) (cap : Nat) : List Value := [.int .i64 t.nd.op, .int .i64 t.nd.k, .int .i64 t.nd.i, .int .u64 t.nd.b, .string (str t.nd.t), .string (str t.nd.n), .slice ao t.kids.length cap]
theorem node_of {w : World} {g : Nat} {ty : TypeId} {pre post : List Value} {t : T} {ao : Option Addr} {cap : Nat} (j : Nat) (hB : Blk w g ty (pre ++ xcells t ao cap ++ post)) (hp : pre.length = j * 7) (h : XT w t ao cap) : NodeAt w g 0 j t := by
  refine ⟨ao, cap, fun q x hq => ?_, ?_, h.n1, ⟨h.n2, h.n3⟩, h.A⟩
  · refine hB.cell ?_
    have hq6 : q < 6 := by
      have := (List.getElem?_eq_some_iff.1 hq).1
      simpa [ndC] using this
    rw [List.append_assoc, List.getElem?_append_right (by omega), show 0 + j * 7 + q - pre.length = q by omega, List.getElem?_append_left (by simp [xcells]; omega)]
    rcases (show q = 0 ∨ q = 1 ∨ q = 2 ∨ q = 3 ∨ q = 4 ∨ q = 5 by omega) with rfl | rfl | rfl | rfl | rfl | rfl <;> exact hq
  · refine hB.cell ?_
    rw [List.append_assoc, List.getElem?_append_right (by omega), show 0 + j * 7 + 6 - pre.length = 6 by omega, List.getElem?_append_left (by simp [xcells])]
    rfl
theorem fitN_op (op : Int) (h : 0 ≤ op ∧ op ≤ 100) : FitN ⟨op, 0, 0, 0, [], []⟩ := ⟨by show _ ≤ op; omega, by show op ≤ _; omega, (by decide : (-9223372036854775808 : Int) ≤ 0), (by decide : (0 : Int) ≤ _), (by decide : (-9223372036854775808 : Int) ≤ 0), (by decide : (0 : Int) ≤ _), (by decide : (0 : Int) ≤ 0), (by decide : (0 : Int) ≤ _), Nat.zero_le _, Nat.zero_le _⟩
theorem xt_two (op : Int) (hop : 0 ≤ op ∧ op ≤ 100) {W : World} {g : Nat} {t u : T} {ao ap : Option Addr} {cap caq : Nat} (ht : XT W t ao cap) (hu : XT W u ap caq) (hB : Blk W g 27 (xcells t ao cap ++ xcells u ap caq)) : XT W (opN op [t, u]) (some ⟨g, 0, none⟩) 2 := by
  refine ⟨?_, Nat.le_refl _, by decide, fun h => by cases h⟩
  simp only [opN, AtT]
  refine ⟨fitN_op op hop, atL_of rfl hB.lt [t, u] 0 (fun i x hx => ?_)⟩
  match i, hx with
  | 0, hx =>
    simp only [List.getElem?_cons_zero, Option.some.injEq] at hx
    subst hx
    exact node_of (pre := []) (post := xcells u ap caq) 0 (by simpa using hB) rfl ht
  | 1, hx =>
    simp only [List.getElem?_cons_succ, List.getElem?_cons_zero, Option.some.injEq] at hx
    subst hx
    exact node_of (pre := xcells t ao cap) (post := []) 1 (by simpa using hB) rfl hu
  | i + 2, hx => simp at hx
theorem xt_one (op : Int) (hop : 0 ≤ op ∧ op ≤ 100) {W : World} {g : Nat} {t : T} {ao : Option Addr} {cap : Nat} (ht : XT W t ao cap) (hB : Blk W g 27 (xcells t ao cap)) : XT W (opN op [t]) (some ⟨g, 0, none⟩) 1 := by
  refine ⟨?_, Nat.le_refl _, by decide, fun h => by cases h⟩
  simp only [opN, AtT]
  refine ⟨fitN_op op hop, atL_of rfl hB.lt [t] 0 (fun i x hx => ?_)⟩
  match i, hx with
  | 0, hx =>
    simp only [List.getElem?_cons_zero, Option.some.injEq] at hx
    subst hx
    exact node_of (pre := []) (post := []) 0 (by simpa using hB) rfl ht
  | i + 1, hx => simp at hx
def opV (op : Int) (g n : Nat) : Value := .agg #[.int .i64 op, .int .i64 0, .int .i64 0, .int .u64 0, .string ⟨#[]⟩, .string ⟨#[]⟩, .slice (some ⟨g, 0, none⟩) n n]
theorem opV_expr (op : Int) (g : Nat) (l : List T) : opV op g l.length = exprV (opN op l) (some ⟨g, 0, none⟩) l.length := rfl
def OpOk (op : Int) (l : List T) (cs : List Value) (w : World) (e : Ending) (w' : World) : Prop := ∃ g, e = .returned (opV op g l.length) ∧ XT w' (opN op l) (some ⟨g, 0, none⟩) l.length ∧ w.heap.size ≤ g ∧ Below w.heap.size w w' ∧ Blk w' g 27 cs
set_option maxHeartbeats 8000000 in
theorem op2_any (op : Int) (hop : 0 ≤ op ∧ op ≤ 100) (t u : T) (ao ap : Option Addr) (cap caq : Nat) (w : World) (ht : XT w t ao cap) (hu : XT w u ap caq) :
    Calls Tryz.prog 23 #[.int .i64 op, exprV t ao cap, exprV u ap caq] w (OpOk op [t, u] (xcells t ao cap ++ xcells u ap caq) w) := by
  unfold OpOk
  have hz0 := Blk.new w (xcells t ao cap).toArray 27
  have hb1 := (Below.refl w.heap.size w).alloc (Nat.le_refl _) (.cells (xcells t ao cap).toArray 27)
  obtain ⟨w1, hw1⟩ : ∃ w1, w.alloc (.cells (xcells t ao cap).toArray 27) = w1 := ⟨_, rfl⟩
  have hs1 : w1.heap.size = w.heap.size + 1 := by rw [← hw1]; simp
  rw [hw1] at hz0 hb1
  have hz1 := Blk.atNew (w := w1) (g := w.heap.size + 1) (xcells u ap caq).toArray 27 hs1
  have hy0 := hz0.alloc (.cells (xcells u ap caq).toArray 27)
  have hb2 := hb1.alloc hb1.size (.cells (xcells u ap caq).toArray 27)
  obtain ⟨w2, hw2⟩ : ∃ w2, w1.alloc (.cells (xcells u ap caq).toArray 27) = w2 := ⟨_, rfl⟩
  have hs2 : w2.heap.size = w.heap.size + 1 + 1 := by rw [← hw2]; simp [hs1]
  rw [hw2] at hz1 hy0 hb2
  have hz2 := Blk.atNew (w := w2) (g := w.heap.size + 1 + 1) #[.int .i64 0, .int .i64 0, .int .i64 0, .int .u64 0, .string ⟨#[]⟩, .string ⟨#[]⟩, .slice none 0 0] 27 hs2
  have x0 := hy0.alloc (.cells #[.int .i64 0, .int .i64 0, .int .i64 0, .int .u64 0, .string ⟨#[]⟩, .string ⟨#[]⟩, .slice none 0 0] 27)
  have x1 := hz1.alloc (.cells #[.int .i64 0, .int .i64 0, .int .i64 0, .int .u64 0, .string ⟨#[]⟩, .string ⟨#[]⟩, .slice none 0 0] 27)
  have hb3 := hb2.alloc hb2.size (.cells #[.int .i64 0, .int .i64 0, .int .i64 0, .int .u64 0, .string ⟨#[]⟩, .string ⟨#[]⟩, .slice none 0 0] 27)
  obtain ⟨w3, hw3⟩ : ∃ w3, w2.alloc (.cells #[.int .i64 0, .int .i64 0, .int .i64 0, .int .u64 0, .string ⟨#[]⟩, .string ⟨#[]⟩, .slice none 0 0] 27) = w3 := ⟨_, rfl⟩
  have hs3 : w3.heap.size = w.heap.size + 1 + 1 + 1 := by rw [← hw3]; simp [hs2]
  rw [hw3] at hz2 x0 x1 hb3
  have hz3 := Blk.atNew (w := w3) (g := w.heap.size + 1 + 1 + 1) (xcells t ao cap ++ xcells u ap caq).toArray 27 hs3
  have x2 := hz2.alloc (.cells (xcells t ao cap ++ xcells u ap caq).toArray 27)
  have hb4 := hb3.alloc hb3.size (.cells (xcells t ao cap ++ xcells u ap caq).toArray 27)
  obtain ⟨w4, hw4⟩ : ∃ w4, w3.alloc (.cells (xcells t ao cap ++ xcells u ap caq).toArray 27) = w4 := ⟨_, rfl⟩
  rw [hw4] at hz3 x2 hb4
  have ht4 := fun W (hW : Below w.heap.size w W) => ht.keep hW
  have hu4 := fun W (hW : Below w.heap.size w W) => hu.keep hW
  have hfin : ∀ W, Below w.heap.size w W → Blk W (w.heap.size + 1 + 1 + 1) 27 (xcells t ao cap ++ xcells u ap caq) → XT W (opN op [t, u]) (some ⟨w.heap.size + 1 + 1 + 1, 0, none⟩) 2 := fun W hW hB => by
    refine ⟨?_, Nat.le_refl _, by decide, fun h => by cases h⟩
    simp only [opN, AtT]
    refine ⟨fitN_op op hop, atL_of rfl hB.lt [t, u] 0 (fun i x hx => ?_)⟩
    match i, hx with
    | 0, hx =>
      simp only [List.getElem?_cons_zero, Option.some.injEq] at hx
      subst hx
      exact node_of (pre := []) (post := xcells u ap caq) 0 (by simpa using hB) rfl (ht4 W hW)
    | 1, hx =>
      simp only [List.getElem?_cons_succ, List.getElem?_cons_zero, Option.some.injEq] at hx
      subst hx
      exact node_of (pre := xcells t ao cap) (post := []) 1 (by simpa using hB) rfl (hu4 W hW)
    | i + 2, hx => simp at hx
  have HFIN := Lib.hid hfin
  have HZ3 := Lib.hid hz3
  simp only [exprV_cells]
  unfold xcells at hw1 hw2 hw4 x0 x1
  clear hz0 hz1 hz2 hz3 hy0 hb1 hb2 hb3 ht hu ht4 hu4 hfin hop
  obtain ⟨⟨o1, k1, i1, b1, s1, m1⟩, l1⟩ := t
  obtain ⟨⟨o2, k2, i2, b2, s2, m2⟩, l2⟩ := u
  simp only [T.nd, T.kids, List.length_cons, List.length_nil] at *
  obtain ⟨L1, hL1⟩ : ∃ L, l1.length = L := ⟨_, rfl⟩
  obtain ⟨L2, hL2⟩ : ∃ L, l2.length = L := ⟨_, rfl⟩
  simp only [hL1, hL2] at hw1 hw2 hw4 x0 x1 ⊢
  generalize str s1 = S1 at *
  generalize str m1 = M1 at *
  generalize str s2 = S2 at *
  generalize str m2 = M2 at *
  have p0 := x0.cell (j := 0) rfl
  have p1 := x0.cell (j := 1) rfl
  have p2 := x0.cell (j := 2) rfl
  have p3 := x0.cell (j := 3) rfl
  have p4 := x0.cell (j := 4) rfl
  have p5 := x0.cell (j := 5) rfl
  have p6 := x0.cell (j := 6) rfl
  have q0 := x1.cell (j := 0) rfl
  have q1 := x1.cell (j := 1) rfl
  have q2 := x1.cell (j := 2) rfl
  have q3 := x1.cell (j := 3) rfl
  have q4 := x1.cell (j := 4) rfl
  have q5 := x1.cell (j := 5) rfl
  have q6 := x1.cell (j := 6) rfl
  have r0 := x2.cell (j := 0) rfl
  have r1 := x2.cell (j := 1) rfl
  have r2 := x2.cell (j := 2) rfl
  have r3 := x2.cell (j := 3) rfl
  have r4 := x2.cell (j := 4) rfl
  have r5 := x2.cell (j := 5) rfl
  have r6 := x2.cell (j := 6) rfl
  have f0 := x2.free 0
  have f1 := x2.free 1
  have f2 := x2.free 2
  have f3 := x2.free 3
  have f4 := x2.free 4
  have f5 := x2.free 5
  have f6 := x2.free 6
  simp only [List.cons_append, List.nil_append] at hw4
  clear hL1 hL2
  go_enter Tryz.func23, Tryz.ntmps23
  go_upto_region 1 with fail
  try rw [hw1]
  try rw [hw2]
  try rw [hw3]
  go_wp2_with fail
  try rw [hw4]
  have hne : w.heap.size + 1 + 1 + 1 ≠ w.heap.size + 1 + 1 := by omega
  have hrr : w.heap.size ≤ w.heap.size + 1 + 1 := by omega
  have hbF := below_set7 (a0 := .int .i64 op) (a1 := .int .i64 0) (a2 := .int .i64 0) (a3 := .int .u64 0) (a4 := .string ⟨#[]⟩) (a5 := .string ⟨#[]⟩) (a6 := .slice (some ⟨w.heap.size + 1 + 1 + 1, 0, none⟩) 2 2) hb4 hrr
  exact bodyPost_ret (results_expr rfl _ _ (w.heap.size + 1 + 1) _ _ _ _ _ _ _ rfl x2.set7) rfl ⟨w.heap.size + 1 + 1 + 1, rfl, HFIN.out _ hbF (HZ3.out.others7 hne), by omega, hbF, HZ3.out.others7 hne⟩
set_option maxHeartbeats 8000000 in
theorem op1_any (op : Int) (hop : 0 ≤ op ∧ op ≤ 100) (t : T) (ao : Option Addr) (cap : Nat) (w : World) (ht : XT w t ao cap) :
    Calls Tryz.prog 53 #[.int .i64 op, exprV t ao cap] w (OpOk op [t] (xcells t ao cap) w) := by
  unfold OpOk
  have hz0 := Blk.new w (xcells t ao cap).toArray 27
  have hb1 := (Below.refl w.heap.size w).alloc (Nat.le_refl _) (.cells (xcells t ao cap).toArray 27)
  obtain ⟨w1, hw1⟩ : ∃ w1, w.alloc (.cells (xcells t ao cap).toArray 27) = w1 := ⟨_, rfl⟩
  have hs1 : w1.heap.size = w.heap.size + 1 := by rw [← hw1]; simp
  rw [hw1] at hz0 hb1
  have hz2 := Blk.atNew (w := w1) (g := w.heap.size + 1) #[.int .i64 0, .int .i64 0, .int .i64 0, .int .u64 0, .string ⟨#[]⟩, .string ⟨#[]⟩, .slice none 0 0] 27 hs1
  have x0 := hz0.alloc (.cells #[.int .i64 0, .int .i64 0, .int .i64 0, .int .u64 0, .string ⟨#[]⟩, .string ⟨#[]⟩, .slice none 0 0] 27)
  have hb3 := hb1.alloc hb1.size (.cells #[.int .i64 0, .int .i64 0, .int .i64 0, .int .u64 0, .string ⟨#[]⟩, .string ⟨#[]⟩, .slice none 0 0] 27)
  obtain ⟨w3, hw3⟩ : ∃ w3, w1.alloc (.cells #[.int .i64 0, .int .i64 0, .int .i64 0, .int .u64 0, .string ⟨#[]⟩, .string ⟨#[]⟩, .slice none 0 0] 27) = w3 := ⟨_, rfl⟩
  have hs3 : w3.heap.size = w.heap.size + 1 + 1 := by rw [← hw3]; simp [hs1]
  rw [hw3] at hz2 x0 hb3
  have hz3 := Blk.atNew (w := w3) (g := w.heap.size + 1 + 1) (xcells t ao cap).toArray 27 hs3
  have x2 := hz2.alloc (.cells (xcells t ao cap).toArray 27)
  have hb4 := hb3.alloc hb3.size (.cells (xcells t ao cap).toArray 27)
  obtain ⟨w4, hw4⟩ : ∃ w4, w3.alloc (.cells (xcells t ao cap).toArray 27) = w4 := ⟨_, rfl⟩
  rw [hw4] at hz3 x2 hb4
  have ht4 := fun W (hW : Below w.heap.size w W) => ht.keep hW
  have hfin : ∀ W, Below w.heap.size w W → Blk W (w.heap.size + 1 + 1) 27 (xcells t ao cap) → XT W (opN op [t]) (some ⟨w.heap.size + 1 + 1, 0, none⟩) 1 := fun W hW hB => by
    refine ⟨?_, Nat.le_refl _, by decide, fun h => by cases h⟩
    simp only [opN, AtT]
    refine ⟨fitN_op op hop, atL_of rfl hB.lt [t] 0 (fun i x hx => ?_)⟩
    match i, hx with
    | 0, hx =>
      simp only [List.getElem?_cons_zero, Option.some.injEq] at hx
      subst hx
      exact node_of (pre := []) (post := []) 0 (by simpa using hB) rfl (ht4 W hW)
    | i + 1, hx => simp at hx
  have HFIN := Lib.hid hfin
  have HZ3 := Lib.hid hz3
  simp only [exprV_cells]
  unfold xcells at hw1 hw4 x0
  clear hz0 hz2 hz3 hb1 hb3 ht ht4 hfin hop
  obtain ⟨⟨o1, k1, i1, b1, s1, m1⟩, l1⟩ := t
  simp only [T.nd, T.kids, List.length_cons, List.length_nil] at *
  obtain ⟨L1, hL1⟩ : ∃ L, l1.length = L := ⟨_, rfl⟩
  simp only [hL1] at hw1 hw4 x0 ⊢
  generalize str s1 = S1 at *
  generalize str m1 = M1 at *
  have p0 := x0.cell (j := 0) rfl
  have p1 := x0.cell (j := 1) rfl
  have p2 := x0.cell (j := 2) rfl
  have p3 := x0.cell (j := 3) rfl
  have p4 := x0.cell (j := 4) rfl
  have p5 := x0.cell (j := 5) rfl
  have p6 := x0.cell (j := 6) rfl
  have r0 := x2.cell (j := 0) rfl
  have r1 := x2.cell (j := 1) rfl
  have r2 := x2.cell (j := 2) rfl
  have r3 := x2.cell (j := 3) rfl
  have r4 := x2.cell (j := 4) rfl
  have r5 := x2.cell (j := 5) rfl
  have r6 := x2.cell (j := 6) rfl
  have f0 := x2.free 0
  have f1 := x2.free 1
  have f2 := x2.free 2
  have f3 := x2.free 3
  have f4 := x2.free 4
  have f5 := x2.free 5
  have f6 := x2.free 6
  clear hL1
  go_enter Tryz.func53, Tryz.ntmps53
  go_upto_region 1 with fail
  try rw [hw1]
  try rw [hw3]
  go_wp2_with fail
  try rw [hw4]
  have hne : w.heap.size + 1 + 1 ≠ w.heap.size + 1 := by omega
  have hrr : w.heap.size ≤ w.heap.size + 1 := by omega
  have hbF := below_set7 (a0 := .int .i64 op) (a1 := .int .i64 0) (a2 := .int .i64 0) (a3 := .int .u64 0) (a4 := .string ⟨#[]⟩) (a5 := .string ⟨#[]⟩) (a6 := .slice (some ⟨w.heap.size + 1 + 1, 0, none⟩) 1 1) hb4 hrr
  exact bodyPost_ret (results_expr rfl _ _ (w.heap.size + 1) _ _ _ _ _ _ _ rfl x2.set7) rfl ⟨w.heap.size + 1 + 1, rfl, HFIN.out _ hbF (HZ3.out.others7 hne), by omega, hbF, HZ3.out.others7 hne⟩
end Go.Proofs.YtfedlchncngafaaGreatDoor
