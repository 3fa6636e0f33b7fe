/-
  MERGED: HeapM, HeapN, HeapL, HeapE, HeapC, HeapD, HeapF.
  CONDITIONS: each theorem's own hypotheses.
-/
import Derived.Test.YtablacloabpjfabGreatDoorLoX
import Derived.Test.YtablacloabpjfabGreatDoorExprO
import Derived.Test.YtablacloabpjfabGreatDoorKindO
import Derived.Test.YtablacloabpjfabGreatDoorBlk
import Derived.Test.YtablacloabpjfabGreatDoorTyT
import Derived.Test.YtablacloabpjfabGreatDoorRawB
import Derived.Test.YtablacloabpjfabGreatDoorOps
import Derived.Test.YtablacloabpjfabGreatDoorGReg
import Derived.OwnWalk
import Derived.Laws.OwnMore
import Derived.Laws.AppendOwnNone
import Derived.Test.YtablacloabpjfabGreatDoorGRegE

/-! A BLOCK SET ASIDE: what holds of a world but for one block; trees that lie elsewhere. CONDITIONS: each theorem's own hypotheses. -/
namespace Go.Proofs.YtablacloabpjfabGreatDoor
open Go.RowKit
set_option linter.unusedVariables false
set_option maxRecDepth 100000

/-- The world without what block H holds. -/
def hd (H : Nat) (w : World) : World := { w with heap := w.heap.setIfInBounds H (.cells #[] 0 (0, 0)) }
theorem hd_size (H : Nat) (w : World) : (hd H w).heap.size = w.heap.size := by simp [hd]
theorem hd_at (H : Nat) (w : World) (k : Nat) (h : k ≠ H) : (hd H w).heap[k]? = w.heap[k]? := by
  show (w.heap.setIfInBounds H _)[k]? = _
  rw [Array.getElem?_setIfInBounds, if_neg (fun e => h e.symm)]
theorem hd_cell (H : Nat) (w : World) (a : Addr) (h : a.block ≠ H) : (hd H w).cell? a = w.cell? a := by
  unfold World.cell?
  rw [hd_at H w _ h]
theorem hd_none (H : Nat) (w : World) (a : Addr) (h : a.block = H) : (hd H w).cell? a = none := by
  unfold World.cell?
  have e : (hd H w).heap[a.block]? = if H < w.heap.size then some (.cells #[] 0 (0, 0)) else none := by
    show (w.heap.setIfInBounds H _)[a.block]? = _
    rw [Array.getElem?_setIfInBounds, if_pos h.symm]
  rw [e]
  by_cases hh : H < w.heap.size
  · rw [if_pos hh]; simp
  · rw [if_neg hh]
theorem hd_sub {H : Nat} {w : World} {a : Addr} {v : Value} (h : (hd H w).cell? a = some v) : w.cell? a = some v := by
  by_cases e : a.block = H
  · rw [hd_none H w a e] at h; cases h
  · rw [hd_cell H w a e] at h; exact h
theorem hd_alloc (H : Nat) (w : World) (o : Obj) (h : H < w.heap.size) : hd H (w.alloc o) = (hd H w).alloc o := by
  unfold hd World.alloc
  simp only [World.mk.injEq, and_true]
  apply Array.ext_getElem?
  intro i
  rw [Array.getElem?_setIfInBounds, Array.getElem?_push, Array.getElem?_push, Array.getElem?_setIfInBounds, Array.size_setIfInBounds, Array.size_push]
  by_cases e : H = i
  · subst e
    rw [if_pos rfl, if_pos (by omega), if_neg (by omega), if_pos rfl, if_pos h]
  · rw [if_neg e, if_neg e]
theorem hd_drewN (H : Nat) (w : World) (q : Nat) : hd H (w.drewN q) = (hd H w).drewN q := rfl
theorem hd_drew (H : Nat) (w : World) : hd H w.drew = (hd H w).drew := rfl
theorem hd_set (H : Nat) (w : World) (j : Nat) (v : Value) : hd H (w.setCell ⟨H, j, none⟩ v) = hd H w := by
  unfold hd World.setCell
  simp only [World.mk.injEq, and_true]
  apply Array.ext_getElem?
  intro i
  rw [Array.getElem?_setIfInBounds, Array.getElem?_setIfInBounds, Array.size_modify, Array.getElem?_modify]
  by_cases e : H = i
  · rw [if_pos e, if_pos e]
  · rw [if_neg e, if_neg e, if_neg e]
theorem hd_other (H : Nat) (w : World) (a : Addr) (v : Value) (h : a.block ≠ H) : hd H (w.setCell a v) = (hd H w).setCell a v := by
  unfold hd World.setCell
  simp only [World.mk.injEq, and_true]
  apply Array.ext_getElem?
  intro i
  rw [Array.getElem?_setIfInBounds, Array.size_modify, Array.getElem?_modify, Array.getElem?_modify, Array.getElem?_setIfInBounds]
  by_cases e : H = i
  · have hne : ¬ a.block = i := fun q => h (by rw [e]; exact q)
    rw [if_pos e, if_neg hne, if_pos e]
  · rw [if_neg e, if_neg e]
theorem Blk.hide {w : World} {b : Nat} {T : TypeId} {cs : List Value} (h : Blk w b T cs) (H : Nat) (hb : b ≠ H) : Blk (hd H w) b T cs := (hd_at H w b hb).trans h
theorem Blk.unhide {w : World} {b : Nat} {T : TypeId} {cs : List Value} {H : Nat} (h : Blk (hd H w) b T cs) (hb : b ≠ H) : Blk w b T cs := (hd_at H w b hb).symm.trans h
theorem AtT.show {H : Nat} {w : World} {t : T} {ao : Option Addr} (h : AtT (hd H w) t ao) : AtT w t ao := h.sub (by rw [hd_size]; exact Nat.le_refl _) (fun _ _ => hd_sub)
theorem Cols.show {H : Nat} {w : World} {ao : Option Addr} {l : List Cl} (h : Cols (hd H w) ao l) : Cols w ao l := by
  refine ⟨h.1, ?_⟩
  rcases h.2 with h | ⟨a, o, h1, h2, h3⟩
  · exact .inl h
  · rw [hd_size] at h2
    exact .inr ⟨a, o, h1, h2, fun j v hv => ⟨hd_sub (h3 j v hv).1, hd_sub (h3 j v hv).2.1, hd_sub (h3 j v hv).2.2⟩⟩
theorem Raws.show {H : Nat} {w : World} {ao : Option Addr} {l : List R} (h : Raws (hd H w) ao l) : Raws w ao l := by
  refine ⟨h.1, ?_⟩
  rcases h.2 with h | ⟨a, o, h1, h2, h3⟩
  · exact .inl h
  · rw [hd_size] at h2
    exact .inr ⟨a, o, h1, h2, fun j v hv => by
      have := h3 j v hv
      exact ⟨hd_sub this.1, hd_sub this.2.1, hd_sub this.2.2.1, hd_sub this.2.2.2⟩⟩
end Go.Proofs.YtablacloabpjfabGreatDoor

/-! CONTRACT of the heap of raw things: next. CONDITIONS: each theorem's own hypotheses. -/
namespace Go.Proofs.YtablacloabpjfabGreatDoor
open Go.RowKit
set_option linter.unusedVariables false
set_option maxRecDepth 100000

/-- What a heap holds: raw things, and columns; only its place changes. -/
structure HpS where
  aol : Option Addr
  capl : Nat
  l : List R
  aoc : Option Addr
  capc : Nat
  cs : List Cl
def HpAt (S : HpS) (H : Nat) (w : World) (n : Nat) : Prop := Blk w H 65 [.slice S.aol S.l.length S.capl, .int .i64 n, .slice S.aoc S.cs.length S.capc] ∧ Raws (hd H w) S.aol S.l ∧ Cols (hd H w) S.aoc S.cs
structure HpK (S : HpS) : Prop where
  l40 : S.l.length ≤ 40
  c4 : S.cs.length ≤ 4
  cols : colsR S.cs = 0
  key : ∀ c, S.cs[0]? = some c → c.k = 2
/-- But for block H nothing that was there has changed. -/
def HB (H : Nat) (w w' : World) : Prop := Below w.heap.size (hd H w) (hd H w')
theorem HB.refl (H : Nat) (w : World) : HB H w w := Below.refl _ _
theorem HB.size {H : Nat} {w w' : World} (h : HB H w w') : w.heap.size ≤ w'.heap.size := by
  have := Below.size h; rw [hd_size, hd_size] at this; exact this
theorem HB.trans {H : Nat} {a b c : World} (h : HB H a b) (k : HB H b c) : HB H a c := Below.trans h (Below.mono k h.size)
theorem HB.alloc {H : Nat} {a w : World} (h : HB H a w) (hH : H < w.heap.size) (o : Obj) : HB H a (w.alloc o) := by
  unfold HB; rw [hd_alloc H w o hH]; exact Below.alloc h (by rw [hd_size]; exact h.size) o
theorem dqB {B : Nat} {a w : World} (h : Below B a w) : ∀ q, Below B a (w.drewN q)
  | 0 => h
  | q + 1 => (dqB h q).drew
theorem HB.drewN {H : Nat} {a w : World} (h : HB H a w) (q : Nat) : HB H a (w.drewN q) := by
  unfold HB; rw [hd_drewN]; exact dqB h q
theorem HB.drew {H : Nat} {a w : World} (h : HB H a w) : HB H a w.drew := by
  unfold HB; rw [hd_drew]; exact Below.drew h
theorem HB.own {H : Nat} {a w : World} (h : HB H a w) (j : Nat) (v : Value) : HB H a (w.setCell ⟨H, j, none⟩ v) := by
  unfold HB; rw [hd_set]; exact h
theorem HB.set {H : Nat} {a w : World} (h : HB H a w) {p : Addr} (hp : a.heap.size ≤ p.block) (hH : H < a.heap.size) (v : Value) : HB H a (w.setCell p v) := by
  unfold HB; rw [hd_other H w p v (by omega)]; exact Below.setCell h hp v
theorem HB.below {H : Nat} {a w w' : World} (h : HB H a w) (hb : Below w.heap.size w w') : HB H a w' := by
  refine h.trans ?_
  refine ⟨hb.os, hb.tape, hb.output, by rw [hd_size, hd_size]; exact hb.size, fun k hk => ?_⟩
  by_cases e : k = H
  · subst e
    show (w'.heap.setIfInBounds k _)[k]? = (w.heap.setIfInBounds k _)[k]?
    rw [Array.getElem?_setIfInBounds, Array.getElem?_setIfInBounds, if_pos rfl, if_pos rfl, if_pos hk, if_pos (Nat.lt_of_lt_of_le hk hb.size)]
  · rw [hd_at H w' k e, hd_at H w k e]; exact hb.block k hk
theorem HB.old {H : Nat} {w w' : World} (h : HB H w w') (k : Nat) (hk : k < w.heap.size) (hH : k ≠ H) : w'.heap[k]? = w.heap[k]? := by
  have := Below.block h k hk
  rw [hd_at H w' k hH, hd_at H w k hH] at this
  exact this
theorem Blk.hb {H : Nat} {w w' : World} {b : Nat} {T : TypeId} {cs : List Value} (h : Blk w b T cs) (hb : HB H w w') (hne : b ≠ H) : Blk w' b T cs := h.same (hb.old b h.lt hne)
/-- The heap's cells, its place put on, elsewhere unchanged. -/
theorem HpAt.move {S : HpS} {H : Nat} {w w' : World} {n m : Nat} (h : HpAt S H w n) (hb : HB H w w') (hB : Blk w' H 65 [.slice S.aol S.l.length S.capl, .int .i64 m, .slice S.aoc S.cs.length S.capc]) : HpAt S H w' m := by
  have hb' : Below (hd H w).heap.size (hd H w) (hd H w') := by rw [hd_size]; exact hb
  exact ⟨hB, h.2.1.keep hb', h.2.2.keep hb'⟩
theorem HpAt.call {S : HpS} {H : Nat} {w w' : World} {n : Nat} (h : HpAt S H w n) (hb : Below w.heap.size w w') : HpAt S H w' n := h.move ((HB.refl H w).below hb) (h.1.call hb)
theorem HpAt.lt {S : HpS} {H : Nat} {w : World} {n : Nat} (h : HpAt S H w n) : H < w.heap.size := h.1.lt
def rawV (r : R) : Value := .agg #[.int .i64 r.k, .int .i64 r.a, .int .i64 r.b, .string r.s]
def NextOk (S : HpS) (H n : Nat) (w : World) (e : Ending) (w' : World) : Prop := ∃ r : R, e = .returned (rawV r) ∧ r.Fits ∧ HpAt S H w' (n + 1) ∧ HB H w w'
theorem Blk.three {w : World} {b : Nat} {T : TypeId} {v0 v1 v2 : Value} (h : Blk w b T [v0, v1, v2]) : (w.cell? ⟨b, 0, none⟩ = some v0 ∧ w.cell? ⟨b, 1, none⟩ = some v1 ∧ w.cell? ⟨b, 2, none⟩ = some v2) ∧ w.frozen? ⟨b, 0, none⟩ = false ∧ w.frozen? ⟨b, 1, none⟩ = false ∧ w.frozen? ⟨b, 2, none⟩ = false :=
  ⟨⟨h.cell (j := 0) rfl, h.cell (j := 1) rfl, h.cell (j := 2) rfl⟩, h.free 0, h.free 1, h.free 2⟩
theorem Blk.fourC {w : World} {b : Nat} {T : TypeId} {v0 v1 v2 v3 : Value} (h : Blk w b T [v0, v1, v2, v3]) : (w.cell? ⟨b, 0, none⟩ = some v0 ∧ w.cell? ⟨b, 1, none⟩ = some v1 ∧ w.cell? ⟨b, 2, none⟩ = some v2 ∧ w.cell? ⟨b, 3, none⟩ = some v3) ∧ w.frozen? ⟨b, 0, none⟩ = false ∧ w.frozen? ⟨b, 1, none⟩ = false ∧ w.frozen? ⟨b, 2, none⟩ = false ∧ w.frozen? ⟨b, 3, none⟩ = false :=
  ⟨⟨h.cell (j := 0) rfl, h.cell (j := 1) rfl, h.cell (j := 2) rfl, h.cell (j := 3) rfl⟩, h.free 0, h.free 1, h.free 2, h.free 3⟩
theorem results_raw {fn : Func} {t : Tmp} (h : fn.results = #[.cell t 54]) (tmps : Array Value) (w : World) (g : Nat) (x0 x1 x2 x3 : Value) (hp : tmps.getD t undef = .pointer (some ⟨g, 0, none⟩)) (hB : Blk w g 54 [x0, x1, x2, x3]) :
    (results fn tmps).run Tryz.prog w = .ok (.agg #[x0, x1, x2, x3]) w := by
  have c0 := hB.cell (j := 0) rfl
  have c1 := hB.cell (j := 1) rfl
  have c2 := hB.cell (j := 2) rfl
  have c3 := hB.cell (j := 3) rfl
  have hp' : tmps[t]?.getD undef = .pointer (some ⟨g, 0, none⟩) := by simpa using hp
  simp [results, h, hp', go_sem, c0, c1, c2, c3]
theorem Blk.set4R {W : World} {g : Nat} {T : TypeId} {a b c d a' b' c' d' : Value} (h : Blk W g T [a', b', c', d']) : Blk ((((W.setCell ⟨g, 0, none⟩ a).setCell ⟨g, 1, none⟩ b).setCell ⟨g, 2, none⟩ c).setCell ⟨g, 3, none⟩ d) g T [a, b, c, d] := (((h.set 0 a).set 1 b).set 2 c).set 3 d
theorem Blk.other4R {W : World} {g g' : Nat} {T : TypeId} {cs : List Value} {a b c d : Value} (h : Blk W g T cs) (hg : g ≠ g') : Blk ((((W.setCell ⟨g', 0, none⟩ a).setCell ⟨g', 1, none⟩ b).setCell ⟨g', 2, none⟩ c).setCell ⟨g', 3, none⟩ d) g T cs :=
  (((h.other ⟨g', 0, none⟩ a hg).other ⟨g', 1, none⟩ b hg).other ⟨g', 2, none⟩ c hg).other ⟨g', 3, none⟩ d hg
theorem HB.set4 {H : Nat} {a w : World} {g : Nat} {x0 x1 x2 x3 : Value} (h : HB H a w) (hg : a.heap.size ≤ g) (hH : H < a.heap.size) : HB H a ((((w.setCell ⟨g, 0, none⟩ x0).setCell ⟨g, 1, none⟩ x1).setCell ⟨g, 2, none⟩ x2).setCell ⟨g, 3, none⟩ x3) :=
  (((h.set (p := ⟨g, 0, none⟩) hg hH x0).set (p := ⟨g, 1, none⟩) hg hH x1).set (p := ⟨g, 2, none⟩) hg hH x2).set (p := ⟨g, 3, none⟩) hg hH x3
/-- Elsewhere written. -/
theorem HpAt.far {S : HpS} {H : Nat} {w w' : World} {n : Nat} (h : HpAt S H w n) (hb : HB H w w') (hB : w'.heap[H]? = w.heap[H]?) : HpAt S H w' n := h.move hb (h.1.same hB)
set_option maxHeartbeats 8000000 in
theorem next_any (S : HpS) (H n : Nat) (w : World) (hn : n ≤ 1000000) (h : HpAt S H w n) (h40 : S.l.length ≤ 40) :
    Calls Tryz.prog 44 #[.pointer (some ⟨H, 0, none⟩)] w (NextOk S H n w) := by
  have hlt := h.lt
  obtain ⟨aol, capl, l, aoc, capc, cs⟩ := S
  obtain ⟨w1, hw1⟩ : ∃ w1, w.alloc (.cells #[.int .i64 0, .int .i64 0, .int .i64 0, .string ⟨#[]⟩] 54) = w1 := ⟨_, rfl⟩
  have z1 := Blk.new w #[.int .i64 0, .int .i64 0, .int .i64 0, .string ⟨#[]⟩] 54
  rw [hw1] at z1
  have hb1 : HB H w w1 := by rw [← hw1]; exact (HB.refl H w).alloc hlt _
  have h1 : HpAt _ H w1 n := h.call (by rw [← hw1]; exact (Below.refl _ _).alloc (Nat.le_refl _) _)
  obtain ⟨⟨p0, p1, p2⟩, f0, f1, f2⟩ := h1.1.three
  have hne : w.heap.size ≠ H := by omega
  obtain ⟨w2, hw2⟩ : ∃ w2, w1.setCell ⟨H, 1, none⟩ (.int .i64 ((n : Int) + 1)) = w2 := ⟨_, rfl⟩
  have hn2 : ((n + 1 : Nat) : Int) = (n : Int) + 1 := by omega
  have zH : Blk w2 H 65 [.slice aol l.length capl, .int .i64 ((n : Int) + 1), .slice aoc cs.length capc] := by rw [← hw2]; exact h1.1.set 1 _
  have z2 : Blk w2 w.heap.size 54 [.int .i64 0, .int .i64 0, .int .i64 0, .string ⟨#[]⟩] := by rw [← hw2]; exact z1.other ⟨H, 1, none⟩ _ hne
  have hb2 : HB H w w2 := by rw [← hw2]; exact hb1.own 1 _
  have h2 : HpAt ⟨aol, capl, l, aoc, capc, cs⟩ H w2 (n + 1) := h.move hb2 (by show Blk w2 H _ [_, .int .i64 ((n + 1 : Nat) : Int), _]; rw [hn2]; exact zH)
  have hn1 : IntKind.i64.wrap ((n : Int) + 1) = (n : Int) + 1 := by rw [IntKind.wrap_i64]; omega
  obtain ⟨⟨q0, q1, q2⟩, g0, g1, g2⟩ := zH.three
  obtain ⟨⟨r0, r1, r2, r3⟩, k0, k1, k2, k3⟩ := z2.fourC
  have HH0 := Lib.hid h
  have HH2 := Lib.hid h2
  have HB2 := Lib.hid hb2
  obtain ⟨L, hL⟩ : ∃ L, l.length = L := ⟨_, rfl⟩
  simp only [hL] at p0 q0 h40
  have HL := Lib.hid hL
  obtain ⟨M, hM⟩ : ∃ M, cs.length = M := ⟨_, rfl⟩
  simp only [hM] at p2 q2
  have hH2 : H < w2.heap.size := h2.lt
  have hz2 : w.heap.size < w2.heap.size := z2.lt
  have HN := Lib.hid hn2
  have HZH := Lib.hid zH
  clear h h1 h2 hb1 hb2 z1 zH hL hM hn2
  by_cases hL0 : L = 0
  · subst hL0
    go_enter Tryz.func44, Tryz.ntmps44
    go_upto_region 1 with fail
    try rw [hw1]
    go_upto_region 2 with fail
    try rw [hw2]
    clear hw1 hw2 p0 p1 p2 f0 f1 f2
    go_upto_region 3 with fail
    go_region
    have hf := (HB2.out.set4 (x0 := .int .i64 0) (x1 := .int .i64 ((n : Int) + 1)) (x2 := .int .i64 ((n : Int) + 1)) (x3 := .string ⟨#[]⟩) (Nat.le_refl _) hlt).drew
    have hHn := (HZH.out.other4R (a := .int .i64 0) (b := .int .i64 ((n : Int) + 1)) (c := .int .i64 ((n : Int) + 1)) (d := .string ⟨#[]⟩) (g' := w.heap.size) (by omega)).drew
    rw [← HN.out] at hHn
    have HFIN := Lib.hid (HH0.out.move hf hHn)
    have hZ := (z2.set4R (a := .int .i64 0) (b := .int .i64 ((n : Int) + 1)) (c := .int .i64 ((n : Int) + 1)) (d := .string ⟨#[]⟩)).drew
    go_wp2_with fail
    exact bodyPost_ret (results_raw rfl _ _ w.heap.size _ _ _ _ rfl hZ) rfl ⟨⟨0, (n : Int) + 1, (n : Int) + 1, ⟨#[]⟩⟩, rfl, ⟨(by show (-9223372036854775808 : Int) ≤ 0; decide), (by show (0 : Int) ≤ _; decide), (by show (-9223372036854775808 : Int) ≤ (n : Int) + 1; omega), (by show (n : Int) + 1 ≤ _; omega), (by show (-9223372036854775808 : Int) ≤ (n : Int) + 1; omega), (by show (n : Int) + 1 ≤ _; omega)⟩, HFIN.out, hf⟩
  · have z0 : ((L : Int) == 0) = false := by simp; omega
    obtain ⟨j, hj⟩ : ∃ j, n % L = j := ⟨_, rfl⟩
    obtain ⟨q, hq⟩ : ∃ q, (n + 1) / L = q := ⟨_, rfl⟩
    have hjL : j < L := by rw [← hj]; exact Nat.mod_lt _ (by omega)
    have hjl : j < l.length := by rw [HL.out]; exact hjL
    have hqn : q ≤ n + 1 := by rw [← hq]; exact Nat.div_le_self _ _
    obtain ⟨r, hr⟩ : ∃ r, l[j]? = some r := ⟨l[j], List.getElem?_eq_getElem hjl⟩
    have hfit := HH2.out.2.1.1 r (List.mem_of_getElem? hr)
    rcases HH2.out.2.1.2 with hnil | ⟨a, o, haol, ha, hl⟩
    · simp only at hnil; rw [hnil] at hjl; exact absurd hjl (Nat.not_lt_zero _)
    simp only at haol hl
    subst haol
    obtain ⟨c0, c1, c2, c3⟩ := hl j r hr
    have d0 := hd_sub c0
    have d1 := hd_sub c1
    have d2 := hd_sub c2
    have d3 := hd_sub c3
    clear c0 c1 c2 c3
    have ha2 : a < w2.heap.size := by rw [hd_size] at ha; exact ha
    have e0 : IntKind.i64.wrap (n : Int) = (n : Int) := by rw [IntKind.wrap_i64]; omega
    have e1 : IntKind.i64.wrap ((n : Int) + 1 - 1) = (n : Int) := by rw [IntKind.wrap_i64]; omega
    have e2 : ((n : Int)).tmod (L : Int) = (j : Int) := by rw [← hj]; rfl
    have e3 : (n : Int) % (L : Int) = (j : Int) := by rw [← hj]; rfl
    have e4 : ((n : Int) + 1).tdiv (L : Int) = (q : Int) := by rw [← hq]; rfl
    have e5 : ((n : Int) + 1) / (L : Int) = (q : Int) := by rw [← hq]; rfl
    have hjI : (j : Int) < (L : Int) := by omega
    have hj0 : (0 : Int) ≤ (j : Int) := by omega
    have HFIT := Lib.hid hfit
    obtain ⟨rk, ra, rb, rs⟩ := r
    simp only at d0 d1 d2 d3
    clear hl hr hfit hjl hj hq ha
    go_enter Tryz.func44, Tryz.ntmps44
    go_upto_region 1 with fail
    try rw [hw1]
    go_upto_region 2 with fail
    try rw [hw2]
    clear hw1 hw2 p0 p1 p2 f0 f1 f2
    go_upto_region 4 with fail
    go_region
    have hb5 : HB H w ((w2.alloc (.cells #[.int .i64 rk, .int .i64 ra, .int .i64 rb, .string rs] 54)).drew) := (HB2.out.alloc hH2 _).drew
    have zR : Blk ((w2.alloc (.cells #[.int .i64 rk, .int .i64 ra, .int .i64 rb, .string rs] 54)).drew) w2.heap.size 54 [.int .i64 rk, .int .i64 ra, .int .i64 rb, .string rs] := (Blk.new w2 #[.int .i64 rk, .int .i64 ra, .int .i64 rb, .string rs] _).drew
    have zH5 := (HZH.out.alloc (.cells #[.int .i64 rk, .int .i64 ra, .int .i64 rb, .string rs] 54)).drew
    have z5 := (z2.alloc (.cells #[.int .i64 rk, .int .i64 ra, .int .i64 rb, .string rs] 54)).drew
    have hgH : w2.heap.size ≠ H := by omega
    have hgr : w2.heap.size ≠ w.heap.size := by omega
    have hgw : w.heap.size ≤ w2.heap.size := by omega
    generalize hw5 : (w2.alloc (.cells #[.int .i64 rk, .int .i64 ra, .int .i64 rb, .string rs] 54)).drew = w5 at *
    clear hw5 q0 q1 q2 g0 g1 g2 r0 r1 r2 r3 k0 k1 k2 k3 d0 d1 d2 d3 hH2 hz2 ha2 z2
    generalize w2.heap.size = g at *
    have HZH5 := Lib.hid zH5
    simp only [HL.out] at zH5
    obtain ⟨⟨q0, q1, q2⟩, g0, g1, g2⟩ := zH5.three
    obtain ⟨⟨r0, r1, r2, r3⟩, k0, k1, k2, k3⟩ := zR.fourC
    have zR' := zR.set 1 (.int .i64 (wrap64 (ra + (q : Int))))
    simp only [List.set_cons_succ, List.set_cons_zero] at zR'
    have z5' := z5.other ⟨g, 1, none⟩ (.int .i64 (wrap64 (ra + (q : Int)))) (by simp; omega)
    have zH6 := HZH5.out.other ⟨g, 1, none⟩ (.int .i64 (wrap64 (ra + (q : Int)))) (by simp; omega)
    have hb6 := hb5.set (p := ⟨g, 1, none⟩) hgw hlt (.int .i64 (wrap64 (ra + (q : Int))))
    go_upto_region 5 with fail
    go_region
    have yR := zR'.drew
    have y5 := z5'.drew
    have yH := zH6.drew
    have hb7 := hb6.drew
    have hwr : -9223372036854775808 ≤ wrap64 (ra + (q : Int)) ∧ wrap64 (ra + (q : Int)) ≤ 9223372036854775807 := by unfold wrap64; omega
    clear q0 q1 q2 g0 g1 g2 r0 r1 r2 r3 k0 k1 k2 k3 zR z5 zH5 hb5 HZH5 HZH HB2 HH2 zR' z5' zH6 hb6
    generalize hw6 : (w5.setCell ⟨g, 1, none⟩ (.int .i64 (wrap64 (ra + (q : Int))))).drew = w6 at *
    clear hw6
    generalize wrap64 (ra + (q : Int)) = rx at *
    obtain ⟨⟨r0, r1, r2, r3⟩, k0, k1, k2, k3⟩ := yR.fourC
    obtain ⟨⟨q0, q1, q2, q3⟩, f0, f1, f2, f3⟩ := y5.fourC
    have hf := hb7.set4 (x0 := .int .i64 rk) (x1 := .int .i64 rx) (x2 := .int .i64 rb) (x3 := .string rs) (Nat.le_refl _) hlt
    have hHn := yH.other4R (a := .int .i64 rk) (b := .int .i64 rx) (c := .int .i64 rb) (d := .string rs) (g' := w.heap.size) (by omega)
    rw [← HN.out] at hHn
    have HFIN := Lib.hid (HH0.out.move hf hHn)
    have HWR := Lib.hid hwr
    have HF := Lib.hid hf
    have HZ := Lib.hid (y5.set4R (a := .int .i64 rk) (b := .int .i64 rx) (c := .int .i64 rb) (d := .string rs))
    clear hHn yH yR y5 e0 e1 e2 e3 e4 e5 hjI hj0 hjL hqn hwr hf hb7 hgH hgr hgw
    go_wp2_with fail
    exact bodyPost_ret (results_raw rfl _ _ w.heap.size _ _ _ _ rfl HZ.out) rfl ⟨⟨rk, rx, rb, rs⟩, rfl, ⟨HFIT.out.k0, HFIT.out.k1, HWR.out.1, HWR.out.2, HFIT.out.b0, HFIT.out.b1⟩, HFIN.out, HF.out⟩
end Go.Proofs.YtablacloabpjfabGreatDoor

/-! CONTRACT of the heap of raw things: leaf. CONDITIONS: each theorem's own hypotheses. -/
namespace Go.Proofs.YtablacloabpjfabGreatDoor
open Go.RowKit
set_option linter.unusedVariables false
set_option maxRecDepth 100000

theorem and_63h (n : Int) : bits .and .i64 n 9223372036854775807 = n % 9223372036854775808 := by
  have h127 : (BitVec.ofInt 64 9223372036854775807).toNat = 2 ^ 63 - 1 := by decide
  have key : (BitVec.ofInt 64 n &&& BitVec.ofInt 64 9223372036854775807).toNat = (n % ((2 ^ 64 : Nat) : Int)).toNat % 2 ^ 63 := by
    rw [BitVec.toNat_and, BitVec.toNat_ofInt, h127, Nat.and_two_pow_sub_one_eq_mod]
  show IntKind.i64.wrap ((BitVec.ofInt 64 n &&& BitVec.ofInt 64 9223372036854775807).toNat : Nat) = n % 9223372036854775808
  rw [key, IntKind.wrap_i64]
  omega
theorem chk2_i (i i' b : Int) (s : ByteArray) : chk 2 i b s = chk 2 i' b s := by
  unfold chk own good
  simp
theorem chk_pos (k i b : Int) (s : ByteArray) (hk : k = 1 ∨ k = 3 ∨ k = 4) (h : chk k i b s = 0) : 0 ≤ i := by
  unfold chk at h
  rw [if_neg (by omega)] at h
  by_cases c2 : 40 < s.size
  · rw [if_pos c2] at h; cases h
  rw [if_neg c2] at h
  by_cases c3 : (own k i b s && good k i b s) = true
  · simp only [Bool.and_eq_true] at c3
    obtain ⟨ho, hg⟩ := c3
    unfold own at ho
    unfold good at hg
    rcases hk with rfl | rfl | rfl
    · simp at hg; omega
    · simp at ho; omega
    · simp at ho; omega
  · rw [if_neg c3] at h; cases h
theorem chk_size (k i b : Int) (s : ByteArray) (h : chk k i b s = 0) : s.size ≤ 40 := by
  unfold chk at h
  split at h
  · cases h
  · split at h
    · cases h
    · omega
def LeafOk (S : HpS) (kind : Int) (w : World) (e : Ending) (w' : World) : Prop := ∃ t, e = .returned (exprV t none 0) ∧ Hid (Leaf S.cs kind t) ∧ Hid (∀ W, XT W t none 0) ∧ Below w.heap.size w w'
theorem leaf_lit (S : HpS) (kind k i b : Int) (s : ByteArray) (w w' : World) (hk : k = kind ∨ k = 0) (hk4 : 0 ≤ k ∧ k ≤ 4) (hc : chk k i b s = 0) (hi : 0 ≤ i ∧ i ≤ 9223372036854775807) (hb : 0 ≤ b ∧ b ≤ 18446744073709551615) (hw : Below w.heap.size w w') :
    LeafOk S kind w (.returned (.agg #[.int .i64 1, .int .i64 k, .int .i64 i, .int .u64 b, .string s, .string ⟨#[]⟩, .slice none 0 0])) w' := by
  have hs := chk_size k i b s hc
  have hsl : s.data.toList.length ≤ 40 := by rw [← Lib.size_eq]; exact hs
  refine ⟨litT k i b s.data.toList, ?_, .inr ⟨k, i, b, s.data.toList, hk, by rw [← str_eq s]; exact hc, hi.1, hi.2, hb.1, hb.2, rfl⟩, fun W => xt_leaf W _ (fit_lit k i b _ hk4 ⟨by omega, hi.2⟩ hb (by omega)), hw⟩
  show _ = Ending.returned (.agg #[.int .i64 1, .int .i64 k, .int .i64 i, .int .u64 b, .string (str s.data.toList), .string (str []), .slice none 0 0])
  rw [← str_eq s]; rfl
theorem leaf_col (S : HpS) (kind : Int) (j : Nat) (c : Cl) (hj : S.cs[j]? = some c) (hk : c.k = kind) (hn : c.n.length ≤ 1000000) (w w' : World) (hw : Below w.heap.size w w') :
    LeafOk S kind w (.returned (.agg #[.int .i64 2, .int .i64 0, .int .i64 0, .int .u64 0, .string ⟨#[]⟩, .string (str c.n), .slice none 0 0])) w' :=
  ⟨colT c.n, rfl, .inl ⟨j, c, hj, hk, rfl⟩, fun W => xt_leaf W _ (fit_col c.n hn), hw⟩
set_option maxHeartbeats 16000000 in
theorem leaf_any (S : HpS) (H n : Nat) (kind : Int) (r : R) (w : World) (h : HpAt S H w n) (hS : HpK S) (hk : 1 ≤ kind ∧ kind ≤ 4) (hr : r.Fits) (hnm : ∀ c ∈ S.cs, c.n.length ≤ 1000000) :
    Calls Tryz.prog 52 #[.pointer (some ⟨H, 0, none⟩), .int .i64 kind, rawV r] w (LeafOk S kind w) := by
  have hlt := h.lt
  have hcol := fun j c hj hk hn w' hw => leaf_col S kind j c hj hk hn w w' hw
  have hlit := fun k i b s w' => leaf_lit S kind k i b s w w'
  obtain ⟨aol, capl, l, aoc, capc, cs⟩ := S
  have hC := h.2.2
  have hc4 := hS.c4
  simp only at hC hc4 hnm hcol
  obtain ⟨rk, ra, rb, rs⟩ := r
  have cP := fun m (hm : 0 < m) (hm1 : m ≤ 4611686018427387904) W => picked_any ra m W hm hm1 hr.a0 hr.a1
  have cQ := fun m (hm : 0 < m) (hm1 : m ≤ 4611686018427387904) W => picked_any rb m W hm hm1 hr.b0 hr.b1
  have cV := fun W => valOf_any kind rk ra rb rs W (by omega) hk.2 hr.a0 hr.a1
  unfold rawV
  simp only at cP cQ cV ⊢
  obtain ⟨z0, z1, hb2⟩ : Blk ((w.alloc (.cells #[.int .i64 rk, .int .i64 ra, .int .i64 rb, .string rs] 54)).alloc (.cells #[.int .i64 0, .int .i64 0, .int .i64 0, .int .u64 0, .string ⟨#[]⟩, .string ⟨#[]⟩, .slice none 0 0] 27)) w.heap.size 54 [.int .i64 rk, .int .i64 ra, .int .i64 rb, .string rs] ∧ Blk ((w.alloc (.cells #[.int .i64 rk, .int .i64 ra, .int .i64 rb, .string rs] 54)).alloc (.cells #[.int .i64 0, .int .i64 0, .int .i64 0, .int .u64 0, .string ⟨#[]⟩, .string ⟨#[]⟩, .slice none 0 0] 27)) (w.heap.size + 1) 27 [.int .i64 0, .int .i64 0, .int .i64 0, .int .u64 0, .string ⟨#[]⟩, .string ⟨#[]⟩, .slice none 0 0] ∧ Below w.heap.size w ((w.alloc (.cells #[.int .i64 rk, .int .i64 ra, .int .i64 rb, .string rs] 54)).alloc (.cells #[.int .i64 0, .int .i64 0, .int .i64 0, .int .u64 0, .string ⟨#[]⟩, .string ⟨#[]⟩, .slice none 0 0] 27)) :=
    ⟨(Blk.new w _ _).alloc _, Blk.atNew _ _ (by simp), ((Below.refl _ _).alloc (Nat.le_refl _) _).alloc (by simp) _⟩
  generalize hw2 : (w.alloc (.cells #[.int .i64 rk, .int .i64 ra, .int .i64 rb, .string rs] 54)).alloc (.cells #[.int .i64 0, .int .i64 0, .int .i64 0, .int .u64 0, .string ⟨#[]⟩, .string ⟨#[]⟩, .slice none 0 0] 27) = w2 at z0 z1 hb2
  obtain ⟨⟨p0, p1, p2⟩, _⟩ := (h.1.call hb2).three
  simp only at p0 p1 p2
  have HC := Lib.hid (h.call hb2).2.2
  have HCOL := Lib.hid hcol
  have HLIT := Lib.hid hlit
  have HNM := Lib.hid hnm
  have HHB := Lib.hid hb2
  obtain ⟨M, hM⟩ : ∃ M, cs.length = M := ⟨_, rfl⟩
  simp only [hM] at p2 hc4
  have HM := Lib.hid hM
  have hz : w.heap.size < w2.heap.size := z0.lt
  have hz1 : w.heap.size + 1 < w2.heap.size := z1.lt
  clear h hS hr hC hnm hcol hlit hM hb2
  go_enter Tryz.func52, Tryz.ntmps52
  go_upto_region 1 with fail
  try rw [hw2]
  clear hw2
  go_wp2_with fail
  go_loopw [15] (fun i wr => ∃ (j : Nat), j ≤ M ∧ i = .int .i64 j ∧ Hid (Below w2.heap.size w2 wr)) (fun i _ => M - (intOf i).toNat)
  case atStart => exact ⟨0, Nat.zero_le _, rfl, Lib.hid (Below.refl _ _)⟩
  case round =>
    obtain ⟨j, hj, rfl, hbw⟩ := hrel
    by_cases h1 : j < M
    · have hjl : j < cs.length := by rw [HM.out]; exact h1
      obtain ⟨c, hcj⟩ : ∃ c, cs[j]? = some c := ⟨cs[j], List.getElem?_eq_getElem hjl⟩
      rcases HC.out.2 with hn | ⟨a, o, haoc, ha, hl⟩
      · rw [hn] at hjl; exact absurd hjl (Nat.not_lt_zero _)
      subst haoc
      obtain ⟨e0, e1, e2⟩ := hl j c hcj
      have ha2 : a < w2.heap.size := by rw [hd_size] at ha; exact ha
      have d0 := (hbw.out.cell (p := ⟨a, o + j * 3, none⟩) ha2).trans (hd_sub e0)
      have d1 := (hbw.out.cell (p := ⟨a, o + j * 3 + 1, none⟩) ha2).trans (hd_sub e1)
      have d2 := (hbw.out.cell (p := ⟨a, o + j * 3 + 2, none⟩) ha2).trans (hd_sub e2)
      obtain ⟨⟨q0, q1, q2, q3⟩, _⟩ := (z0.call hbw.out).fourC
      have y1 := z1.call hbw.out
      have hcolj := HCOL.out j c hcj
      have hnmj := HNM.out c (List.mem_of_getElem? hcj)
      have HHBr := Lib.hid (HHB.out.trans (hbw.out.mono (by have := HHB.out.size; omega)))
      have hzr : w.heap.size < wr.heap.size := Nat.lt_of_lt_of_le hz hbw.out.size
      have hzr1 : w.heap.size + 1 < wr.heap.size := Nat.lt_of_lt_of_le hz1 hbw.out.size
      have har : a < wr.heap.size := Nat.lt_of_lt_of_le ha2 hbw.out.size
      clear e0 e1 e2 hl ha ha2 hcj hjl p0 p1 p2 z0 z1 cV cQ
      obtain ⟨cn, ck, cl⟩ := c
      simp only at d0 d1 d2 hcolj hnmj
      have cPj := fun W => cP (2 + (j : Int)) (by omega) (by omega) W
      have ew : IntKind.i64.wrap (2 + (j : Int)) = 2 + (j : Int) := by rw [IntKind.wrap_i64]; omega
      have hjI : (j : Int) < (M : Int) := by omega
      have hj0 : (0 : Int) ≤ (j : Int) := by omega
      have HCJ := Lib.hid hcolj
      have HNJ := Lib.hid hnmj
      have HY := Lib.hid y1
      have b0 := y1.cell (j := 0) rfl
      have b1 := y1.cell (j := 1) rfl
      have b2 := y1.cell (j := 2) rfl
      have b3 := y1.cell (j := 3) rfl
      have b4 := y1.cell (j := 4) rfl
      have b5 := y1.cell (j := 5) rfl
      have b6 := y1.cell (j := 6) rfl
      have f0 := y1.free 0
      have f1 := y1.free 1
      have f2 := y1.free 2
      have f3 := y1.free 3
      have f4 := y1.free 4
      have f5 := y1.free 5
      have f6 := y1.free 6
      have HHK := Lib.hid hk
      clear hcolj hnmj cP y1 hk
      generalize hNN : str cn = NN at *
      have HNN := Lib.hid hNN
      clear hNN
      generalize hpm : ra % (2 + (j : Int)) = pm at *
      clear hpm
      by_cases hck : ck = kind
      · have hck1 : (ck == kind) = true := by simpa using hck
        have HCK := Lib.hid hck
        clear hck
        by_cases hp : pm = 0
        · subst hp
          go_wp2_with fail
          refine (cPj _).mono ?_
          rintro e w9 ⟨rfl, rfl⟩
          clear cPj
          go_wp2_with fail
          have hbf := (below_set7 (a0 := .int .i64 2) (a1 := .int .i64 0) (a2 := .int .i64 0) (a3 := .int .u64 0) (a4 := .string ⟨#[]⟩) (a5 := .string NN) (a6 := .slice none 0 0) HHBr.out (show w.heap.size ≤ w.heap.size + 1 by omega)).alloc (by simp [World.setCell]; omega) (.cells #[.string NN, .int .i64 ck, .bool cl] 57)
          have hpost := HCJ.out HCK.out HNJ.out _ hbf
          exact bodyPost_ret (results_expr rfl _ _ (w.heap.size + 1) _ _ _ _ _ _ _ rfl ((HY.out.set7).alloc _)) rfl hpost
        · have hp1 : (pm == 0) = false := by simpa using hp
          clear hp
          go_wp2_with fail
          refine (cPj _).mono ?_
          rintro e w9 ⟨rfl, rfl⟩
          clear cPj
          go_wp2_with fail
          go_roundw
          case rel => exact ⟨j + 1, by omega, by go_num, hbw.out.alloc hbw.out.size _⟩
          case measure => simp [intOf]; omega
      · have hck1 : (ck == kind) = false := by simpa using hck
        clear hck cPj
        go_wp2_with fail
        go_roundw
        case rel => exact ⟨j + 1, by omega, by go_num, hbw.out.alloc hbw.out.size _⟩
        case measure => simp [intOf]; omega
    · have y0 := z0.call hbw.out
      have y1 := z1.call hbw.out
      have hb0r := HHB.out.trans (hbw.out.mono (by have := HHB.out.size; omega))
      obtain ⟨⟨q0, q1, q2, q3⟩, _⟩ := y0.fourC
      have HHK := Lib.hid hk
      clear p0 p1 p2 z0 z1 hz hz1 HC HCOL HNM hk
      have hjI : ¬ (j : Int) < (M : Int) := by omega
      go_upto_region 7 with fail
      go_wp2_with fail
      refine (cV _).mono ?_
      rintro e w3 ⟨v, hvk, hvf, hvc, rfl, hb3⟩
      have x0 := y0.call hb3
      have x1 := y1.call hb3
      have hb03 := hb0r.trans (hb3.mono hb0r.size)
      clear cV y0 y1 hb0r hbw q0 q1 q2 q3 hb3
      obtain ⟨vk, vi, vb, vs⟩ := v
      simp only at hvk
      subst hvk
      have zv := Blk.new w3 #[.int .i64 vk, .int .i64 vi, .int .u64 vb, .string vs] 24
      have u0 := x0.alloc (.cells #[.int .i64 vk, .int .i64 vi, .int .u64 vb, .string vs] 24)
      have u1 := x1.alloc (.cells #[.int .i64 vk, .int .i64 vi, .int .u64 vb, .string vs] 24)
      have hb04 := hb03.alloc hb03.size (.cells #[.int .i64 vk, .int .i64 vi, .int .u64 vb, .string vs] 24)
      have hgne : w3.heap.size ≠ w.heap.size := by have := x0.lt; omega
      have hgne1 : w3.heap.size ≠ w.heap.size + 1 := by have := x1.lt; omega
      have hgw : w.heap.size ≤ w3.heap.size := hb03.size
      go_upto_region 8 with fail
      generalize hw4 : w3.alloc (.cells #[.int .i64 vk, .int .i64 vi, .int .u64 vb, .string vs] 24) = w4 at *
      clear hw4 x0 x1 hb03
      generalize w3.heap.size = g at *
      obtain ⟨⟨q0, q1, q2, q3⟩, _⟩ := u0.fourC
      obtain ⟨⟨r0, r1, r2, r3⟩, k0, k1, k2, k3⟩ := zv.fourC
      have cB9 := fun W => cQ 9 (by decide) (by decide) W
      have cB4 := fun W => cQ 4 (by decide) (by decide) W
      have cA20 := fun W => cP 20 (by decide) (by decide) W
      have hr20 : 0 ≤ ra % 20 ∧ ra % 20 ≤ 19 := by omega
      generalize ra % 20 = a20 at *
      generalize rb % 9 = b9 at *
      generalize rb % 4 = b4 at *
      have HV := Lib.hid (And.intro hvf hvc)
      have HZV := Lib.hid zv
      have HU1 := Lib.hid u1
      have HB4 := Lib.hid hb04
      clear cQ cP hvf hvc zv u1 hb04
      by_cases hb9 : b9 = 0
      · subst hb9
        go_wp2_with fail
        refine (cB9 _).mono ?_
        rintro e w5 ⟨rfl, rfl⟩
        clear cB9 cB4 cA20
        have zN := HZV.out.set4R (a := .int .i64 0) (b := .int .i64 0) (c := .int .u64 0) (d := .string ⟨#[]⟩)
        have uN := HU1.out.other4R (a := .int .i64 0) (b := .int .i64 0) (c := .int .u64 0) (d := .string ⟨#[]⟩) (g' := g) (fun e => hgne1 e.symm)
        have hbN := below_set4 (a := .int .i64 0) (b := .int .i64 0) (c := .int .u64 0) (d := .string ⟨#[]⟩) HB4.out hgw
        go_upto_region 14 with fail
        generalize hwN : (((w4.setCell ⟨g, 0, none⟩ (.int .i64 0)).setCell ⟨g, 1, none⟩ (.int .i64 0)).setCell ⟨g, 2, none⟩ (.int .u64 0)).setCell ⟨g, 3, none⟩ (.string ⟨#[]⟩) = wN at *
        clear hwN r0 r1 r2 r3 k0 k1 k2 k3 q0 q1 q2 q3 u0
        obtain ⟨⟨r0, r1, r2, r3⟩, k0, k1, k2, k3⟩ := zN.fourC
        have b0 := uN.cell (j := 0) rfl
        have b1 := uN.cell (j := 1) rfl
        have b2 := uN.cell (j := 2) rfl
        have b3 := uN.cell (j := 3) rfl
        have b4' := uN.cell (j := 4) rfl
        have b5 := uN.cell (j := 5) rfl
        have b6 := uN.cell (j := 6) rfl
        have f0 := uN.free 0
        have f1 := uN.free 1
        have f2 := uN.free 2
        have f3 := uN.free 3
        have f4 := uN.free 4
        have f5 := uN.free 5
        have f6 := uN.free 6
        have hbf := below_set7 (a0 := .int .i64 1) (a1 := .int .i64 0) (a2 := .int .i64 0) (a3 := .int .u64 0) (a4 := .string ⟨#[]⟩) (a5 := .string ⟨#[]⟩) (a6 := .slice none 0 0) hbN (show w.heap.size ≤ w.heap.size + 1 by omega)
        have hpost := HLIT.out 0 0 0 ⟨#[]⟩ _ (.inr rfl) (by decide) rchk_null (by decide) (by decide) hbf
        have HU := Lib.hid uN
        clear uN zN hbN hbf
        go_wp2_with fail
        exact bodyPost_ret (results_expr rfl _ _ (w.heap.size + 1) _ _ _ _ _ _ _ rfl HU.out.set7) rfl hpost
      have hb91 : (b9 == 0) = false := by simpa using hb9
      clear hb9
      by_cases hk2 : vk = 2
      · subst hk2
        have hsel := trivial
        by_cases hb4 : b4 = 0
        · subst hb4
          go_wp2_with fail
          refine (cB9 _).mono ?_
          rintro e w5 ⟨rfl, rfl⟩
          clear cB9 cA20
          go_wp2_with fail
          refine (cB4 _).mono ?_
          rintro e w5 ⟨rfl, rfl⟩
          clear cB4
          have hand := and_63h ra
          have hnn : 0 ≤ ra % 9223372036854775808 ∧ ra % 9223372036854775808 ≤ 9223372036854775807 := by omega
          rw [← hand] at hnn
          clear hand
          obtain ⟨iv, hiv⟩ : ∃ iv, bits .and .i64 ra 9223372036854775807 = iv := ⟨_, rfl⟩
          rw [hiv] at hnn
          have HNNN := Lib.hid hnn
          clear hnn
          have zN := HZV.out.set 1 (.int .i64 iv)
          simp only [List.set_cons_succ, List.set_cons_zero] at zN
          have uN := HU1.out.other ⟨g, 1, none⟩ (.int .i64 iv) (by simp; omega)
          have hbN := HB4.out.setCell (p := ⟨g, 1, none⟩) hgw (.int .i64 iv)
          go_upto_region 14 with fail
          generalize hwN : w4.setCell ⟨g, 1, none⟩ (.int .i64 iv) = wN at *
          clear hwN r0 r1 r2 r3 k0 k1 k2 k3 q0 q1 q2 q3 u0
          obtain ⟨⟨r0, r1, r2, r3⟩, k0, k1, k2, k3⟩ := zN.fourC
          have b0 := uN.cell (j := 0) rfl
          have b1 := uN.cell (j := 1) rfl
          have b2 := uN.cell (j := 2) rfl
          have b3 := uN.cell (j := 3) rfl
          have b4' := uN.cell (j := 4) rfl
          have b5 := uN.cell (j := 5) rfl
          have b6 := uN.cell (j := 6) rfl
          have f0 := uN.free 0
          have f1 := uN.free 1
          have f2 := uN.free 2
          have f3 := uN.free 3
          have f4 := uN.free 4
          have f5 := uN.free 5
          have f6 := uN.free 6
          have hbf := below_set7 (a0 := .int .i64 1) (a1 := .int .i64 2) (a2 := .int .i64 iv) (a3 := .int .u64 vb) (a4 := .string vs) (a5 := .string ⟨#[]⟩) (a6 := .slice none 0 0) hbN (show w.heap.size ≤ w.heap.size + 1 by omega)
          have hpost := HLIT.out 2 iv vb vs _ (.inl rfl) (by decide) (by rw [chk2_i iv vi]; exact HV.out.2) HNNN.out ⟨HV.out.1.b0, HV.out.1.b1⟩ hbf
          have HU := Lib.hid uN
          clear uN zN hbN hbf
          go_wp2_with fail
          exact bodyPost_ret (results_expr rfl _ _ (w.heap.size + 1) _ _ _ _ _ _ _ rfl HU.out.set7) rfl hpost
        · have hb41 : (b4 == 0) = false := by simpa using hb4
          clear hb4
          go_wp2_with fail
          refine (cB9 _).mono ?_
          rintro e w5 ⟨rfl, rfl⟩
          clear cB9
          go_wp2_with fail
          refine (cB4 _).mono ?_
          rintro e w5 ⟨rfl, rfl⟩
          clear cB4
          go_wp2_with fail
          refine (cA20 _).mono ?_
          rintro e w5 ⟨rfl, rfl⟩
          clear cA20
          have HNNN := Lib.hid (show 0 ≤ a20 ∧ a20 ≤ 9223372036854775807 by omega)
          clear hr20
          have zN := HZV.out.set 1 (.int .i64 a20)
          simp only [List.set_cons_succ, List.set_cons_zero] at zN
          have uN := HU1.out.other ⟨g, 1, none⟩ (.int .i64 a20) (by simp; omega)
          have hbN := HB4.out.setCell (p := ⟨g, 1, none⟩) hgw (.int .i64 a20)
          go_upto_region 14 with fail
          generalize hwN : w4.setCell ⟨g, 1, none⟩ (.int .i64 a20) = wN at *
          clear hwN r0 r1 r2 r3 k0 k1 k2 k3 q0 q1 q2 q3 u0
          obtain ⟨⟨r0, r1, r2, r3⟩, k0, k1, k2, k3⟩ := zN.fourC
          have b0 := uN.cell (j := 0) rfl
          have b1 := uN.cell (j := 1) rfl
          have b2 := uN.cell (j := 2) rfl
          have b3 := uN.cell (j := 3) rfl
          have b4' := uN.cell (j := 4) rfl
          have b5 := uN.cell (j := 5) rfl
          have b6 := uN.cell (j := 6) rfl
          have f0 := uN.free 0
          have f1 := uN.free 1
          have f2 := uN.free 2
          have f3 := uN.free 3
          have f4 := uN.free 4
          have f5 := uN.free 5
          have f6 := uN.free 6
          have hbf := below_set7 (a0 := .int .i64 1) (a1 := .int .i64 2) (a2 := .int .i64 a20) (a3 := .int .u64 vb) (a4 := .string vs) (a5 := .string ⟨#[]⟩) (a6 := .slice none 0 0) hbN (show w.heap.size ≤ w.heap.size + 1 by omega)
          have hpost := HLIT.out 2 a20 vb vs _ (.inl rfl) (by decide) (by rw [chk2_i a20 vi]; exact HV.out.2) HNNN.out ⟨HV.out.1.b0, HV.out.1.b1⟩ hbf
          have HU := Lib.hid uN
          clear uN zN hbN hbf
          go_wp2_with fail
          exact bodyPost_ret (results_expr rfl _ _ (w.heap.size + 1) _ _ _ _ _ _ _ rfl HU.out.set7) rfl hpost
      · have hk21 : (vk == 2) = false := by simpa using hk2
        have hpos := chk_pos vk vi vb vs (by have := HHK.out; omega) HV.out.2
        have HNNN := Lib.hid (And.intro hpos HV.out.1.i1)
        clear hk2 hpos
        go_wp2_with fail
        refine (cB9 _).mono ?_
        rintro e w5 ⟨rfl, rfl⟩
        clear cB9 cA20 cB4
        have zN := HZV.out
        have uN := HU1.out
        have hbN := HB4.out
        go_upto_region 14 with fail
        clear r0 r1 r2 r3 k0 k1 k2 k3 q0 q1 q2 q3 u0
        obtain ⟨⟨r0, r1, r2, r3⟩, k0, k1, k2, k3⟩ := zN.fourC
        have b0 := uN.cell (j := 0) rfl
        have b1 := uN.cell (j := 1) rfl
        have b2 := uN.cell (j := 2) rfl
        have b3 := uN.cell (j := 3) rfl
        have b4' := uN.cell (j := 4) rfl
        have b5 := uN.cell (j := 5) rfl
        have b6 := uN.cell (j := 6) rfl
        have f0 := uN.free 0
        have f1 := uN.free 1
        have f2 := uN.free 2
        have f3 := uN.free 3
        have f4 := uN.free 4
        have f5 := uN.free 5
        have f6 := uN.free 6
        have hbf := below_set7 (a0 := .int .i64 1) (a1 := .int .i64 vk) (a2 := .int .i64 vi) (a3 := .int .u64 vb) (a4 := .string vs) (a5 := .string ⟨#[]⟩) (a6 := .slice none 0 0) hbN (show w.heap.size ≤ w.heap.size + 1 by omega)
        have hpost := HLIT.out vk vi vb vs _ (.inl rfl) (by have := HHK.out; omega) HV.out.2 HNNN.out ⟨HV.out.1.b0, HV.out.1.b1⟩ hbf
        have HU := Lib.hid uN
        clear uN zN hbN hbf
        go_wp2_with fail
        exact bodyPost_ret (results_expr rfl _ _ (w.heap.size + 1) _ _ _ _ _ _ _ rfl HU.out.set7) rfl hpost
end Go.Proofs.YtablacloabpjfabGreatDoor

/-! CONTRACT of the heap of raw things: expr, by its depth. CONDITIONS: each theorem's own hypotheses. -/
namespace Go.Proofs.YtablacloabpjfabGreatDoor
open Go.RowKit
set_option linter.unusedVariables false
set_option maxRecDepth 100000

theorem XTb.hb {b H : Nat} {w w' : World} {t : T} {ao : Option Addr} {cap : Nat} (h : XTb b w t ao cap) (hH : H < b) (k : HB H w w') : XTb b w' t ao cap :=
  XT.keep h (lo_below (show (hd H w').os = (hd H w).os from Below.os k) (show (hd H w').tape = (hd H w).tape from Below.tape k) (show (hd H w').output = (hd H w).output from Below.output k) k.size (fun q hq hs => k.old q hs (by omega)))
theorem hop2 (b op : Int) (B : Nat) (hop : 0 ≤ op ∧ op ≤ 100) (t u : T) (ao ap : Option Addr) (cap caq : Nat) (w : World) (ht : XTb B w t ao cap) (hu : XTb B w u ap caq) (hB : B ≤ w.heap.size) :
    Calls Tryz.prog 24 #[.int .i64 op, exprV t ao cap, exprV u ap caq] w fun e w' => ∃ g, e = .returned (.agg #[.int .i64 op, .int .i64 0, .int .i64 0, .int .u64 0, .string ⟨#[]⟩, .string ⟨#[]⟩, .slice (some ⟨g, 0, none⟩) 2 2]) ∧ Hid (XTb B w' (opN op [t, u]) (some ⟨g, 0, none⟩) 2) ∧ Below w.heap.size w w' :=
  (op2_any op hop t u ao ap cap caq w ht.show hu.show).mono fun e w' ⟨g, h1, _, h3, h4, h5⟩ => ⟨g, h1, xt_two op hop (ht.below h4) (hu.below h4) (h5.lo (by omega)), h4⟩
theorem hop1 (b op : Int) (B : Nat) (hop : 0 ≤ op ∧ op ≤ 100) (t : T) (ao : Option Addr) (cap : Nat) (w : World) (ht : XTb B w t ao cap) (hB : B ≤ w.heap.size) :
    Calls Tryz.prog 29 #[.int .i64 op, exprV t ao cap] w fun e w' => ∃ g, e = .returned (.agg #[.int .i64 op, .int .i64 0, .int .i64 0, .int .u64 0, .string ⟨#[]⟩, .string ⟨#[]⟩, .slice (some ⟨g, 0, none⟩) 1 1]) ∧ Hid (XTb B w' (opN op [t]) (some ⟨g, 0, none⟩) 1) ∧ Below w.heap.size w w' :=
  (op1_any op hop t ao cap w ht.show).mono fun e w' ⟨g, h1, _, h3, h4, h5⟩ => ⟨g, h1, xt_one op hop (ht.below h4) (h5.lo (by omega)), h4⟩
def ExprPost (S : HpS) (H : Nat) (kind : Int) (d n : Nat) (w : World) (e : Ending) (w' : World) : Prop := ∃ t ao cap m, e = .returned (exprV t ao cap) ∧ Hid (Ty S.cs d kind t) ∧ Hid (XTb w.heap.size w' t ao cap) ∧ Hid (HpAt S H w' m) ∧ m + 1 ≤ n + 2 ^ d ∧ HB H w w'
def ExOk (S : HpS) (H d : Nat) : Prop := ∀ (kind : Int) (n : Nat) (w : World), (1 ≤ kind ∧ kind ≤ 4) → HpAt S H w n → n + 2 ^ d ≤ 1000000 →
    Calls Tryz.prog 32 #[.pointer (some ⟨H, 0, none⟩), .int .i64 kind, .int .i64 (d : Int)] w (ExprPost S H kind d n w)
theorem HB.set7 {H : Nat} {a w : World} {g : Nat} {a0 a1 a2 a3 a4 a5 a6 : Value} (h : HB H a w) (hg : a.heap.size ≤ g) (hH : H < a.heap.size) : HB H a (((((((w.setCell ⟨g, 0, none⟩ a0).setCell ⟨g, 1, none⟩ a1).setCell ⟨g, 2, none⟩ a2).setCell ⟨g, 3, none⟩ a3).setCell ⟨g, 4, none⟩ a4).setCell ⟨g, 5, none⟩ a5).setCell ⟨g, 6, none⟩ a6) :=
  ((((((h.set (p := ⟨g, 0, none⟩) hg hH a0).set (p := ⟨g, 1, none⟩) hg hH a1).set (p := ⟨g, 2, none⟩) hg hH a2).set (p := ⟨g, 3, none⟩) hg hH a3).set (p := ⟨g, 4, none⟩) hg hH a4).set (p := ⟨g, 5, none⟩) hg hH a5).set (p := ⟨g, 6, none⟩) hg hH a6
/-- The result's cell is written last: what is known behind it. -/
theorem ex_done {S : HpS} {H : Nat} {kind : Int} {d n m B : Nat} {w w6 : World} {t : T} {ao : Option Addr} {cap : Nat} {a0 a1 a2 a3 a4 a5 a6 : Value} (h : HpAt S H w n) (h6 : HpAt S H w6 m) (hb : HB H w w6) (hT : Ty S.cs d kind t) (hX : XTb (B + 1) w6 t ao cap) (hm : m + 1 ≤ n + 2 ^ d) (hB : w.heap.size = B) (he : exprV t ao cap = .agg #[a0, a1, a2, a3, a4, a5, a6]) :
    ExprPost S H kind d n w (.returned (.agg #[a0, a1, a2, a3, a4, a5, a6])) (((((((w6.setCell ⟨B, 0, none⟩ a0).setCell ⟨B, 1, none⟩ a1).setCell ⟨B, 2, none⟩ a2).setCell ⟨B, 3, none⟩ a3).setCell ⟨B, 4, none⟩ a4).setCell ⟨B, 5, none⟩ a5).setCell ⟨B, 6, none⟩ a6) := by
  have hlt := h.lt
  have hbF := hb.set7 (g := B) (a0 := a0) (a1 := a1) (a2 := a2) (a3 := a3) (a4 := a4) (a5 := a5) (a6 := a6) (by omega) hlt
  exact ⟨t, ao, cap, m, by rw [he], hT, (hX.set7 (by omega)).mono (by omega), h.move hbF (h6.1.others7 (by omega)), hm, hbF⟩
set_option maxHeartbeats 8000000 in
theorem ex_one (S : HpS) (H : Nat) (hS : HpK S) (hnm : ∀ c ∈ S.cs, c.n.length ≤ 1000000) : ExOk S H 1 := by
  intro kind n w hk h hn
  have hlt := h.lt
  have z0 := Blk.new w #[.int .i64 0, .int .i64 0, .int .i64 0, .int .u64 0, .string ⟨#[]⟩, .string ⟨#[]⟩, .slice none 0 0] 27
  have hb0 := (Below.refl w.heap.size w).alloc (Nat.le_refl _) (.cells #[.int .i64 0, .int .i64 0, .int .i64 0, .int .u64 0, .string ⟨#[]⟩, .string ⟨#[]⟩, .slice none 0 0] 27)
  obtain ⟨w1, hw1⟩ : ∃ w1, w.alloc (.cells #[.int .i64 0, .int .i64 0, .int .i64 0, .int .u64 0, .string ⟨#[]⟩, .string ⟨#[]⟩, .slice none 0 0] 27) = w1 := ⟨_, rfl⟩
  rw [hw1] at z0 hb0
  obtain ⟨B, hB⟩ : ∃ B, w.heap.size = B := ⟨_, rfl⟩
  have h1 := h.call hb0
  have cN := next_any S H n w1 (by omega) h1 hS.l40
  have HH := Lib.hid h
  have HB1 := Lib.hid ((HB.refl H w).below hb0)
  have HSZ := Lib.hid hB
  simp only [hB] at z0 hlt
  have hHB : H ≠ B := by omega
  clear h h1 hb0 hB
  unfold NextOk at cN
  go_enter Tryz.func32, Tryz.ntmps32
  go_upto_region 1 with fail
  simp only [HSZ.out]
  try rw [hw1]
  clear hw1
  go_wp2_with fail
  refine cN.mono ?_
  rintro e w2 ⟨r, rfl, hrf, h2, hb2⟩
  have x0 := z0.hb hb2 (fun e => hHB e.symm)
  have hb02 := HB1.out.trans hb2
  clear cN z0 hb2 HB1
  obtain ⟨rk, ra, rb, rs⟩ := r
  unfold rawV
  simp only
  have zR := Blk.new w2 #[.int .i64 rk, .int .i64 ra, .int .i64 rb, .string rs] 54
  have hb23 := (Below.refl w2.heap.size w2).alloc (Nat.le_refl _) (.cells #[.int .i64 rk, .int .i64 ra, .int .i64 rb, .string rs] 54)
  have y0 := x0.call hb23
  have h3 := h2.call hb23
  have hb03 := hb02.below hb23
  go_upto_region 2 with fail
  generalize hw3 : w2.alloc (.cells #[.int .i64 rk, .int .i64 ra, .int .i64 rb, .string rs] 54) = w3 at *
  clear hw3 x0 h2 hb02 hb23
  generalize w2.heap.size = gR at *
  have cL := leaf_any S H (n + 1) kind ⟨rk, ra, rb, rs⟩ w3 h3 hS hk hrf hnm
  unfold rawV LeafOk at cL
  simp only at cL
  obtain ⟨⟨q0, q1, q2, q3⟩, _⟩ := zR.fourC
  go_wp2_with fail
  refine cL.mono ?_
  rintro e w4 ⟨t, rfl, HL, HX, hb4⟩
  simp only [exprV_cells]
  have y1 := y0.call hb4
  have h4 := h3.call hb4
  have hb04 := hb03.below hb4
  have hpost := ex_done (d := 1) HH.out h4 hb04 (Ty.leaf HL.out) (HX.out _) (by omega) HSZ.out (exprV_cells t none 0)
  have HP := Lib.hid hpost
  have HY := Lib.hid y1
  have b0 := y1.cell (j := 0) rfl
  have b1 := y1.cell (j := 1) rfl
  have b2 := y1.cell (j := 2) rfl
  have b3 := y1.cell (j := 3) rfl
  have b4 := y1.cell (j := 4) rfl
  have b5 := y1.cell (j := 5) rfl
  have b6 := y1.cell (j := 6) rfl
  have f0 := y1.free 0
  have f1 := y1.free 1
  have f2 := y1.free 2
  have f3 := y1.free 3
  have f4 := y1.free 4
  have f5 := y1.free 5
  have f6 := y1.free 6
  clear hpost y1 y0 h3 h4 hb03 hb04 hb4 zR cL HL HX q0 q1 q2 q3
  go_wp2_with fail
  exact bodyPost_ret (results_expr rfl _ _ B _ _ _ _ _ _ _ rfl HY.out.set7) rfl HP.out
set_option maxHeartbeats 64000000 in
theorem ex_step (S : HpS) (H d : Nat) (hS : HpK S) (hnm : ∀ c ∈ S.cs, c.n.length ≤ 1000000) (hd : 1 ≤ d) (IH : ExOk S H d) : ExOk S H (d + 1) := by
  intro kind n w hk h hn
  have hpow : 2 ^ (d + 1) = 2 ^ d + 2 ^ d := by rw [Nat.pow_succ]; omega
  have hPpos : 0 < 2 ^ d := Nat.pow_pos (by decide)
  have HPOW := Lib.hid hpow
  rw [hpow] at hn
  obtain ⟨D, hD⟩ : ∃ D : Int, ((d + 1 : Nat) : Int) = D := ⟨_, rfl⟩
  have hD1 : ¬ D ≤ 1 := by omega
  have hD2 : IntKind.i64.wrap (D - 1) = (d : Int) := by
    have : d < 2 ^ d := Nat.lt_two_pow_self
    rw [IntKind.wrap_i64]; omega
  rw [hD]
  have HIH := Lib.hid IH
  obtain ⟨P, hP⟩ : ∃ P, 2 ^ d = P := ⟨_, rfl⟩
  rw [hP] at hn hPpos
  have HPP := Lib.hid hP
  clear hpow hD hd IH hP
  have hlt := h.lt
  have z0 := Blk.new w #[.int .i64 0, .int .i64 0, .int .i64 0, .int .u64 0, .string ⟨#[]⟩, .string ⟨#[]⟩, .slice none 0 0] 27
  have hb0 := (Below.refl w.heap.size w).alloc (Nat.le_refl _) (.cells #[.int .i64 0, .int .i64 0, .int .i64 0, .int .u64 0, .string ⟨#[]⟩, .string ⟨#[]⟩, .slice none 0 0] 27)
  obtain ⟨w1, hw1⟩ : ∃ w1, w.alloc (.cells #[.int .i64 0, .int .i64 0, .int .i64 0, .int .u64 0, .string ⟨#[]⟩, .string ⟨#[]⟩, .slice none 0 0] 27) = w1 := ⟨_, rfl⟩
  rw [hw1] at z0 hb0
  obtain ⟨B, hB⟩ : ∃ B, w.heap.size = B := ⟨_, rfl⟩
  have h1 := h.call hb0
  have cN := next_any S H n w1 (by omega) h1 hS.l40
  have HH := Lib.hid h
  have HB1 := Lib.hid ((HB.refl H w).below hb0)
  have HSZ := Lib.hid hB
  simp only [hB] at z0 hlt
  have hHB : H ≠ B := by omega
  clear h h1 hb0 hB
  unfold NextOk at cN
  go_enter Tryz.func32, Tryz.ntmps32
  go_upto_region 1 with fail
  simp only [HSZ.out]
  try rw [hw1]
  clear hw1
  go_wp2_with fail
  refine cN.mono ?_
  rintro e w2 ⟨r, rfl, hrf, h2, hb2⟩
  have x0 := z0.hb hb2 (fun e => hHB e.symm)
  have hb02 := HB1.out.trans hb2
  clear cN z0 hb2 HB1
  obtain ⟨rk, ra, rb, rs⟩ := r
  unfold rawV
  simp only
  have zR := Blk.new w2 #[.int .i64 rk, .int .i64 ra, .int .i64 rb, .string rs] 54
  have hb23 := (Below.refl w2.heap.size w2).alloc (Nat.le_refl _) (.cells #[.int .i64 rk, .int .i64 ra, .int .i64 rb, .string rs] 54)
  have y0 := x0.call hb23
  have h3 := h2.call hb23
  have hb03 := hb02.below hb23
  go_upto_region 2 with fail
  generalize hw3 : w2.alloc (.cells #[.int .i64 rk, .int .i64 ra, .int .i64 rb, .string rs] 54) = w3 at *
  clear hw3 x0 h2 hb02 hb23
  generalize w2.heap.size = gR at *
  have hB3 : B + 1 ≤ w3.heap.size := y0.lt
  have cK5 := fun W => picked_any rk 5 W (by decide) (by decide) hrf.k0 hrf.k1
  have cB7 := fun W => picked_any rb 7 W (by decide) (by decide) hrf.b0 hrf.b1
  have cA4 := fun W => picked_any ra 4 W (by decide) (by decide) hrf.a0 hrf.a1
  have cA6 := fun W => picked_any ra 6 W (by decide) (by decide) hrf.a0 hrf.a1
  have hq4 : 0 ≤ ra % 4 ∧ ra % 4 ≤ 3 := by omega
  have hq6 : 0 ≤ ra % 6 ∧ ra % 6 ≤ 5 := by omega
  have hq7 : rb % 7 = 0 ∨ rb % 7 = 1 ∨ rb % 7 = 2 ∨ rb % 7 = 3 ∨ rb % 7 = 4 ∨ rb % 7 = 5 ∨ rb % 7 = 6 := by omega
  generalize rk % 5 = q5 at *
  generalize rb % 7 = k at *
  generalize ra % 4 = q4 at *
  generalize ra % 6 = q6 at *
  obtain ⟨⟨r0, r1, r2, r3⟩, _⟩ := zR.fourC
  by_cases hq5 : q5 = 0
  · subst hq5
    have cL := leaf_any S H (n + 1) kind ⟨rk, ra, rb, rs⟩ w3 h3 hS hk hrf hnm
    unfold rawV LeafOk at cL
    simp only at cL
    go_wp2_with fail
    refine (cK5 _).mono ?_
    rintro e w9 ⟨rfl, rfl⟩
    clear cK5 cB7 cA4 cA6
    go_wp2_with fail
    refine cL.mono ?_
    rintro e w4 ⟨t, rfl, HL, HX, hb4⟩
    simp only [exprV_cells]
    have y1 := y0.call hb4
    have h4 := h3.call hb4
    have hb04 := hb03.below hb4
    have hpost := ex_done (d := d + 1) HH.out h4 hb04 (Ty.leaf HL.out) (HX.out _) (by rw [HPOW.out, HPP.out]; omega) HSZ.out (exprV_cells t none 0)
    have HP := Lib.hid hpost
    have HY := Lib.hid y1
    have b0 := y1.cell (j := 0) rfl
    have b1 := y1.cell (j := 1) rfl
    have b2 := y1.cell (j := 2) rfl
    have b3 := y1.cell (j := 3) rfl
    have b4 := y1.cell (j := 4) rfl
    have b5 := y1.cell (j := 5) rfl
    have b6 := y1.cell (j := 6) rfl
    have f0 := y1.free 0
    have f1 := y1.free 1
    have f2 := y1.free 2
    have f3 := y1.free 3
    have f4 := y1.free 4
    have f5 := y1.free 5
    have f6 := y1.free 6
    clear hpost y1 y0 h3 h4 hb03 hb04 hb4 zR cL HL HX r0 r1 r2 r3 HIH
    go_wp2_with fail
    exact bodyPost_ret (results_expr rfl _ _ B _ _ _ _ _ _ _ rfl HY.out.set7) rfl HP.out
  have hq51 : (q5 == 0) = false := by simpa using hq5
  clear hq5 hnm hrf hS
  rcases (show kind = 2 ∨ kind = 1 ∨ kind = 4 ∨ kind = 3 by omega) with rfl | rfl | rfl | rfl
  · rcases hq7 with rfl | rfl | rfl | rfl | rfl | rfl | rfl
    · go_wp2_with fail
      refine (cK5 _).mono ?_
      rintro e w9 ⟨rfl, rfl⟩
      clear cK5
      go_wp2_with fail
      refine (cB7 _).mono ?_
      rintro e w9 ⟨rfl, rfl⟩
      clear cB7
      clear cA4 cA6
      have c1 := HIH.out 2 (n + 1) w3 (by decide) h3 (by rw [HPP.out]; omega)
      go_wp2_with fail
      refine c1.mono ?_
      rintro e w4 ⟨t, ao, cap, m, rfl, HT, HX, H4, hm, hb4⟩
      rw [HPP.out] at hm
      have X4 := HX.out.mono hB3
      have c3 := HIH.out 2 m w4 (by decide) H4.out (by rw [HPP.out]; omega)
      clear HX c1 HIH
      go_wp2_with fail
      refine c3.mono ?_
      rintro e w5 ⟨u, ap, caq, m2, rfl, HU, HX, H5, hm2, hb5⟩
      rw [HPP.out] at hm2
      have U5 := HX.out.mono (Nat.le_trans hB3 hb4.size)
      have X5 := X4.hb (show H < B + 1 by omega) hb5
      have c2 := hop2 0 (5) (B + 1) (by decide) t u ao ap cap caq w5 X5 U5 (Nat.le_trans (Nat.le_trans hB3 hb4.size) hb5.size)
      clear HX c3 X4
      go_wp2_with fail
      refine c2.mono ?_
      rintro e w6 ⟨g, rfl, HX6, hb6⟩
      have y1 := ((y0.hb hb4 (fun e => hHB e.symm)).hb hb5 (fun e => hHB e.symm)).call hb6
      have HP := Lib.hid (ex_done (d := d + 1) HH.out (H5.out.call hb6) (((hb03.trans hb4).trans hb5).below hb6) (.inr (.inr ⟨_, _, t, u, .inr (.inl ⟨rfl, by decide, rfl⟩), HT.out, HU.out, rfl⟩)) HX6.out (by rw [HPOW.out, HPP.out]; omega) HSZ.out rfl)
      have HY := Lib.hid y1
      have b0 := y1.cell (j := 0) rfl
      have b1 := y1.cell (j := 1) rfl
      have b2 := y1.cell (j := 2) rfl
      have b3 := y1.cell (j := 3) rfl
      have b4 := y1.cell (j := 4) rfl
      have b5 := y1.cell (j := 5) rfl
      have b6 := y1.cell (j := 6) rfl
      have f0 := y1.free 0
      have f1 := y1.free 1
      have f2 := y1.free 2
      have f3 := y1.free 3
      have f4 := y1.free 4
      have f5 := y1.free 5
      have f6 := y1.free 6
      clear y1 y0 h3 hb03 hb4 hb5 hb6 zR c2 HX6 H4 H5 X5 U5 HT HU hm hm2
      go_wp2_with fail
      exact bodyPost_ret (results_expr rfl _ _ B _ _ _ _ _ _ _ rfl HY.out.set7) rfl HP.out
    · go_wp2_with fail
      refine (cK5 _).mono ?_
      rintro e w9 ⟨rfl, rfl⟩
      clear cK5
      go_wp2_with fail
      refine (cB7 _).mono ?_
      rintro e w9 ⟨rfl, rfl⟩
      clear cB7
      clear cA4 cA6
      have c1 := HIH.out 2 (n + 1) w3 (by decide) h3 (by rw [HPP.out]; omega)
      go_wp2_with fail
      refine c1.mono ?_
      rintro e w4 ⟨t, ao, cap, m, rfl, HT, HX, H4, hm, hb4⟩
      rw [HPP.out] at hm
      have X4 := HX.out.mono hB3
      have c3 := HIH.out 2 m w4 (by decide) H4.out (by rw [HPP.out]; omega)
      clear HX c1 HIH
      go_wp2_with fail
      refine c3.mono ?_
      rintro e w5 ⟨u, ap, caq, m2, rfl, HU, HX, H5, hm2, hb5⟩
      rw [HPP.out] at hm2
      have U5 := HX.out.mono (Nat.le_trans hB3 hb4.size)
      have X5 := X4.hb (show H < B + 1 by omega) hb5
      have c2 := hop2 0 (6) (B + 1) (by decide) t u ao ap cap caq w5 X5 U5 (Nat.le_trans (Nat.le_trans hB3 hb4.size) hb5.size)
      clear HX c3 X4
      go_wp2_with fail
      refine c2.mono ?_
      rintro e w6 ⟨g, rfl, HX6, hb6⟩
      have y1 := ((y0.hb hb4 (fun e => hHB e.symm)).hb hb5 (fun e => hHB e.symm)).call hb6
      have HP := Lib.hid (ex_done (d := d + 1) HH.out (H5.out.call hb6) (((hb03.trans hb4).trans hb5).below hb6) (.inr (.inr ⟨_, _, t, u, .inr (.inl ⟨rfl, by decide, rfl⟩), HT.out, HU.out, rfl⟩)) HX6.out (by rw [HPOW.out, HPP.out]; omega) HSZ.out rfl)
      have HY := Lib.hid y1
      have b0 := y1.cell (j := 0) rfl
      have b1 := y1.cell (j := 1) rfl
      have b2 := y1.cell (j := 2) rfl
      have b3 := y1.cell (j := 3) rfl
      have b4 := y1.cell (j := 4) rfl
      have b5 := y1.cell (j := 5) rfl
      have b6 := y1.cell (j := 6) rfl
      have f0 := y1.free 0
      have f1 := y1.free 1
      have f2 := y1.free 2
      have f3 := y1.free 3
      have f4 := y1.free 4
      have f5 := y1.free 5
      have f6 := y1.free 6
      clear y1 y0 h3 hb03 hb4 hb5 hb6 zR c2 HX6 H4 H5 X5 U5 HT HU hm hm2
      go_wp2_with fail
      exact bodyPost_ret (results_expr rfl _ _ B _ _ _ _ _ _ _ rfl HY.out.set7) rfl HP.out
    · go_wp2_with fail
      refine (cK5 _).mono ?_
      rintro e w9 ⟨rfl, rfl⟩
      clear cK5
      go_wp2_with fail
      refine (cB7 _).mono ?_
      rintro e w9 ⟨rfl, rfl⟩
      clear cB7
      clear cA4 cA6
      have c1 := HIH.out 2 (n + 1) w3 (by decide) h3 (by rw [HPP.out]; omega)
      go_wp2_with fail
      refine c1.mono ?_
      rintro e w4 ⟨t, ao, cap, m, rfl, HT, HX, H4, hm, hb4⟩
      rw [HPP.out] at hm
      have X4 := HX.out.mono hB3
      have c3 := HIH.out 2 m w4 (by decide) H4.out (by rw [HPP.out]; omega)
      clear HX c1 HIH
      go_wp2_with fail
      refine c3.mono ?_
      rintro e w5 ⟨u, ap, caq, m2, rfl, HU, HX, H5, hm2, hb5⟩
      rw [HPP.out] at hm2
      have U5 := HX.out.mono (Nat.le_trans hB3 hb4.size)
      have X5 := X4.hb (show H < B + 1 by omega) hb5
      have c2 := hop2 0 (7) (B + 1) (by decide) t u ao ap cap caq w5 X5 U5 (Nat.le_trans (Nat.le_trans hB3 hb4.size) hb5.size)
      clear HX c3 X4
      go_wp2_with fail
      refine c2.mono ?_
      rintro e w6 ⟨g, rfl, HX6, hb6⟩
      have y1 := ((y0.hb hb4 (fun e => hHB e.symm)).hb hb5 (fun e => hHB e.symm)).call hb6
      have HP := Lib.hid (ex_done (d := d + 1) HH.out (H5.out.call hb6) (((hb03.trans hb4).trans hb5).below hb6) (.inr (.inr ⟨_, _, t, u, .inr (.inl ⟨rfl, by decide, rfl⟩), HT.out, HU.out, rfl⟩)) HX6.out (by rw [HPOW.out, HPP.out]; omega) HSZ.out rfl)
      have HY := Lib.hid y1
      have b0 := y1.cell (j := 0) rfl
      have b1 := y1.cell (j := 1) rfl
      have b2 := y1.cell (j := 2) rfl
      have b3 := y1.cell (j := 3) rfl
      have b4 := y1.cell (j := 4) rfl
      have b5 := y1.cell (j := 5) rfl
      have b6 := y1.cell (j := 6) rfl
      have f0 := y1.free 0
      have f1 := y1.free 1
      have f2 := y1.free 2
      have f3 := y1.free 3
      have f4 := y1.free 4
      have f5 := y1.free 5
      have f6 := y1.free 6
      clear y1 y0 h3 hb03 hb4 hb5 hb6 zR c2 HX6 H4 H5 X5 U5 HT HU hm hm2
      go_wp2_with fail
      exact bodyPost_ret (results_expr rfl _ _ B _ _ _ _ _ _ _ rfl HY.out.set7) rfl HP.out
    · go_wp2_with fail
      refine (cK5 _).mono ?_
      rintro e w9 ⟨rfl, rfl⟩
      clear cK5
      go_wp2_with fail
      refine (cB7 _).mono ?_
      rintro e w9 ⟨rfl, rfl⟩
      clear cB7
      clear cA4 cA6
      have c1 := HIH.out 2 (n + 1) w3 (by decide) h3 (by rw [HPP.out]; omega)
      go_wp2_with fail
      refine c1.mono ?_
      rintro e w4 ⟨t, ao, cap, m, rfl, HT, HX, H4, hm, hb4⟩
      rw [HPP.out] at hm
      have X4 := HX.out.mono hB3
      have c3 := HIH.out 2 m w4 (by decide) H4.out (by rw [HPP.out]; omega)
      clear HX c1 HIH
      go_wp2_with fail
      refine c3.mono ?_
      rintro e w5 ⟨u, ap, caq, m2, rfl, HU, HX, H5, hm2, hb5⟩
      rw [HPP.out] at hm2
      have U5 := HX.out.mono (Nat.le_trans hB3 hb4.size)
      have X5 := X4.hb (show H < B + 1 by omega) hb5
      have c2 := hop2 0 (8) (B + 1) (by decide) t u ao ap cap caq w5 X5 U5 (Nat.le_trans (Nat.le_trans hB3 hb4.size) hb5.size)
      clear HX c3 X4
      go_wp2_with fail
      refine c2.mono ?_
      rintro e w6 ⟨g, rfl, HX6, hb6⟩
      have y1 := ((y0.hb hb4 (fun e => hHB e.symm)).hb hb5 (fun e => hHB e.symm)).call hb6
      have HP := Lib.hid (ex_done (d := d + 1) HH.out (H5.out.call hb6) (((hb03.trans hb4).trans hb5).below hb6) (.inr (.inr ⟨_, _, t, u, .inr (.inl ⟨rfl, by decide, rfl⟩), HT.out, HU.out, rfl⟩)) HX6.out (by rw [HPOW.out, HPP.out]; omega) HSZ.out rfl)
      have HY := Lib.hid y1
      have b0 := y1.cell (j := 0) rfl
      have b1 := y1.cell (j := 1) rfl
      have b2 := y1.cell (j := 2) rfl
      have b3 := y1.cell (j := 3) rfl
      have b4 := y1.cell (j := 4) rfl
      have b5 := y1.cell (j := 5) rfl
      have b6 := y1.cell (j := 6) rfl
      have f0 := y1.free 0
      have f1 := y1.free 1
      have f2 := y1.free 2
      have f3 := y1.free 3
      have f4 := y1.free 4
      have f5 := y1.free 5
      have f6 := y1.free 6
      clear y1 y0 h3 hb03 hb4 hb5 hb6 zR c2 HX6 H4 H5 X5 U5 HT HU hm hm2
      go_wp2_with fail
      exact bodyPost_ret (results_expr rfl _ _ B _ _ _ _ _ _ _ rfl HY.out.set7) rfl HP.out
    · go_wp2_with fail
      refine (cK5 _).mono ?_
      rintro e w9 ⟨rfl, rfl⟩
      clear cK5
      go_wp2_with fail
      refine (cB7 _).mono ?_
      rintro e w9 ⟨rfl, rfl⟩
      clear cB7
      clear cA4 cA6
      have c1 := HIH.out 2 (n + 1) w3 (by decide) h3 (by rw [HPP.out]; omega)
      clear HIH
      go_wp2_with fail
      refine c1.mono ?_
      rintro e w4 ⟨t, ao, cap, m, rfl, HT, HX, H4, hm, hb4⟩
      rw [HPP.out] at hm
      have X4 := HX.out.mono hB3
      have c2 := hop1 0 (3) (B + 1) (by decide) t ao cap w4 X4 (Nat.le_trans hB3 hb4.size)
      clear HX c1
      go_wp2_with fail
      refine c2.mono ?_
      rintro e w5 ⟨g, rfl, HX5, hb5⟩
      have y1 := (y0.hb hb4 (fun e => hHB e.symm)).call hb5
      have HP := Lib.hid (ex_done (d := d + 1) HH.out (H4.out.call hb5) ((hb03.trans hb4).below hb5) (.inr (.inl ⟨_, _, t, .inl ⟨rfl, rfl, rfl⟩, HT.out, rfl⟩)) HX5.out (by rw [HPOW.out, HPP.out]; omega) HSZ.out rfl)
      have HY := Lib.hid y1
      have b0 := y1.cell (j := 0) rfl
      have b1 := y1.cell (j := 1) rfl
      have b2 := y1.cell (j := 2) rfl
      have b3 := y1.cell (j := 3) rfl
      have b4 := y1.cell (j := 4) rfl
      have b5 := y1.cell (j := 5) rfl
      have b6 := y1.cell (j := 6) rfl
      have f0 := y1.free 0
      have f1 := y1.free 1
      have f2 := y1.free 2
      have f3 := y1.free 3
      have f4 := y1.free 4
      have f5 := y1.free 5
      have f6 := y1.free 6
      clear y1 y0 h3 hb03 hb4 hb5 zR c2 HX5 H4 X4 HT hm
      go_wp2_with fail
      exact bodyPost_ret (results_expr rfl _ _ B _ _ _ _ _ _ _ rfl HY.out.set7) rfl HP.out
    · go_wp2_with fail
      refine (cK5 _).mono ?_
      rintro e w9 ⟨rfl, rfl⟩
      clear cK5
      go_wp2_with fail
      refine (cB7 _).mono ?_
      rintro e w9 ⟨rfl, rfl⟩
      clear cB7
      clear cA4 cA6
      have c1 := HIH.out 4 (n + 1) w3 (by decide) h3 (by rw [HPP.out]; omega)
      clear HIH
      go_wp2_with fail
      refine c1.mono ?_
      rintro e w4 ⟨t, ao, cap, m, rfl, HT, HX, H4, hm, hb4⟩
      rw [HPP.out] at hm
      have X4 := HX.out.mono hB3
      have c2 := hop1 0 (18) (B + 1) (by decide) t ao cap w4 X4 (Nat.le_trans hB3 hb4.size)
      clear HX c1
      go_wp2_with fail
      refine c2.mono ?_
      rintro e w5 ⟨g, rfl, HX5, hb5⟩
      have y1 := (y0.hb hb4 (fun e => hHB e.symm)).call hb5
      have HP := Lib.hid (ex_done (d := d + 1) HH.out (H4.out.call hb5) ((hb03.trans hb4).below hb5) (.inr (.inl ⟨_, _, t, .inr (.inl ⟨rfl, rfl, rfl⟩), HT.out, rfl⟩)) HX5.out (by rw [HPOW.out, HPP.out]; omega) HSZ.out rfl)
      have HY := Lib.hid y1
      have b0 := y1.cell (j := 0) rfl
      have b1 := y1.cell (j := 1) rfl
      have b2 := y1.cell (j := 2) rfl
      have b3 := y1.cell (j := 3) rfl
      have b4 := y1.cell (j := 4) rfl
      have b5 := y1.cell (j := 5) rfl
      have b6 := y1.cell (j := 6) rfl
      have f0 := y1.free 0
      have f1 := y1.free 1
      have f2 := y1.free 2
      have f3 := y1.free 3
      have f4 := y1.free 4
      have f5 := y1.free 5
      have f6 := y1.free 6
      clear y1 y0 h3 hb03 hb4 hb5 zR c2 HX5 H4 X4 HT hm
      go_wp2_with fail
      exact bodyPost_ret (results_expr rfl _ _ B _ _ _ _ _ _ _ rfl HY.out.set7) rfl HP.out
    · go_wp2_with fail
      refine (cK5 _).mono ?_
      rintro e w9 ⟨rfl, rfl⟩
      clear cK5
      go_wp2_with fail
      refine (cB7 _).mono ?_
      rintro e w9 ⟨rfl, rfl⟩
      clear cB7
      clear cA4 cA6
      have c1 := HIH.out 2 (n + 1) w3 (by decide) h3 (by rw [HPP.out]; omega)
      go_wp2_with fail
      refine c1.mono ?_
      rintro e w4 ⟨t, ao, cap, m, rfl, HT, HX, H4, hm, hb4⟩
      rw [HPP.out] at hm
      have X4 := HX.out.mono hB3
      have c3 := HIH.out 2 m w4 (by decide) H4.out (by rw [HPP.out]; omega)
      clear HX c1 HIH
      go_wp2_with fail
      refine c3.mono ?_
      rintro e w5 ⟨u, ap, caq, m2, rfl, HU, HX, H5, hm2, hb5⟩
      rw [HPP.out] at hm2
      have U5 := HX.out.mono (Nat.le_trans hB3 hb4.size)
      have X5 := X4.hb (show H < B + 1 by omega) hb5
      have c2 := hop2 0 (20) (B + 1) (by decide) t u ao ap cap caq w5 X5 U5 (Nat.le_trans (Nat.le_trans hB3 hb4.size) hb5.size)
      clear HX c3 X4
      go_wp2_with fail
      refine c2.mono ?_
      rintro e w6 ⟨g, rfl, HX6, hb6⟩
      have y1 := ((y0.hb hb4 (fun e => hHB e.symm)).hb hb5 (fun e => hHB e.symm)).call hb6
      have HP := Lib.hid (ex_done (d := d + 1) HH.out (H5.out.call hb6) (((hb03.trans hb4).trans hb5).below hb6) (.inr (.inr ⟨_, _, t, u, .inl ⟨rfl, rfl⟩, HT.out, HU.out, rfl⟩)) HX6.out (by rw [HPOW.out, HPP.out]; omega) HSZ.out rfl)
      have HY := Lib.hid y1
      have b0 := y1.cell (j := 0) rfl
      have b1 := y1.cell (j := 1) rfl
      have b2 := y1.cell (j := 2) rfl
      have b3 := y1.cell (j := 3) rfl
      have b4 := y1.cell (j := 4) rfl
      have b5 := y1.cell (j := 5) rfl
      have b6 := y1.cell (j := 6) rfl
      have f0 := y1.free 0
      have f1 := y1.free 1
      have f2 := y1.free 2
      have f3 := y1.free 3
      have f4 := y1.free 4
      have f5 := y1.free 5
      have f6 := y1.free 6
      clear y1 y0 h3 hb03 hb4 hb5 hb6 zR c2 HX6 H4 H5 X5 U5 HT HU hm hm2
      go_wp2_with fail
      exact bodyPost_ret (results_expr rfl _ _ B _ _ _ _ _ _ _ rfl HY.out.set7) rfl HP.out
  · rcases hq7 with rfl | rfl | rfl | rfl | rfl | rfl | rfl
    · go_wp2_with fail
      refine (cK5 _).mono ?_
      rintro e w9 ⟨rfl, rfl⟩
      clear cK5
      go_wp2_with fail
      refine (cB7 _).mono ?_
      rintro e w9 ⟨rfl, rfl⟩
      clear cB7
      clear cA6
      have ew4 : IntKind.i64.wrap (1 + q4) = 1 + q4 := by rw [IntKind.wrap_i64]; omega
      go_wp2_with fail
      refine (cA4 _).mono ?_
      rintro e w9 ⟨rfl, rfl⟩
      clear cA4
      have c1 := HIH.out 1 (n + 1) w3 (by decide) h3 (by rw [HPP.out]; omega)
      clear HIH
      go_wp2_with fail
      refine c1.mono ?_
      rintro e w4 ⟨t, ao, cap, m, rfl, HT, HX, H4, hm, hb4⟩
      rw [HPP.out] at hm
      have X4 := HX.out.mono hB3
      have c2 := hop1 0 (4) (B + 1) (by decide) t ao cap w4 X4 (Nat.le_trans hB3 hb4.size)
      clear HX c1
      go_wp2_with fail
      refine c2.mono ?_
      rintro e w5 ⟨g, rfl, HX5, hb5⟩
      have y1 := (y0.hb hb4 (fun e => hHB e.symm)).call hb5
      have HP := Lib.hid (ex_done (d := d + 1) HH.out (H4.out.call hb5) ((hb03.trans hb4).below hb5) (.inr (.inl ⟨_, _, t, .inr (.inr (.inl ⟨rfl, rfl, rfl⟩)), HT.out, rfl⟩)) HX5.out (by rw [HPOW.out, HPP.out]; omega) HSZ.out rfl)
      have HY := Lib.hid y1
      have b0 := y1.cell (j := 0) rfl
      have b1 := y1.cell (j := 1) rfl
      have b2 := y1.cell (j := 2) rfl
      have b3 := y1.cell (j := 3) rfl
      have b4 := y1.cell (j := 4) rfl
      have b5 := y1.cell (j := 5) rfl
      have b6 := y1.cell (j := 6) rfl
      have f0 := y1.free 0
      have f1 := y1.free 1
      have f2 := y1.free 2
      have f3 := y1.free 3
      have f4 := y1.free 4
      have f5 := y1.free 5
      have f6 := y1.free 6
      clear y1 y0 h3 hb03 hb4 hb5 zR c2 HX5 H4 X4 HT hm
      go_wp2_with fail
      exact bodyPost_ret (results_expr rfl _ _ B _ _ _ _ _ _ _ rfl HY.out.set7) rfl HP.out
    · go_wp2_with fail
      refine (cK5 _).mono ?_
      rintro e w9 ⟨rfl, rfl⟩
      clear cK5
      go_wp2_with fail
      refine (cB7 _).mono ?_
      rintro e w9 ⟨rfl, rfl⟩
      clear cB7
      clear cA6
      have ew4 : IntKind.i64.wrap (1 + q4) = 1 + q4 := by rw [IntKind.wrap_i64]; omega
      go_wp2_with fail
      refine (cA4 _).mono ?_
      rintro e w9 ⟨rfl, rfl⟩
      clear cA4
      have c1 := HIH.out 1 (n + 1) w3 (by decide) h3 (by rw [HPP.out]; omega)
      go_wp2_with fail
      refine c1.mono ?_
      rintro e w4 ⟨t, ao, cap, m, rfl, HT, HX, H4, hm, hb4⟩
      rw [HPP.out] at hm
      have X4 := HX.out.mono hB3
      have c3 := HIH.out 1 m w4 (by decide) H4.out (by rw [HPP.out]; omega)
      clear HX c1 HIH
      go_wp2_with fail
      refine c3.mono ?_
      rintro e w5 ⟨u, ap, caq, m2, rfl, HU, HX, H5, hm2, hb5⟩
      rw [HPP.out] at hm2
      have U5 := HX.out.mono (Nat.le_trans hB3 hb4.size)
      have X5 := X4.hb (show H < B + 1 by omega) hb5
      have c2 := hop2 0 (15) (B + 1) (by decide) t u ao ap cap caq w5 X5 U5 (Nat.le_trans (Nat.le_trans hB3 hb4.size) hb5.size)
      clear HX c3 X4
      go_wp2_with fail
      refine c2.mono ?_
      rintro e w6 ⟨g, rfl, HX6, hb6⟩
      have y1 := ((y0.hb hb4 (fun e => hHB e.symm)).hb hb5 (fun e => hHB e.symm)).call hb6
      have HP := Lib.hid (ex_done (d := d + 1) HH.out (H5.out.call hb6) (((hb03.trans hb4).trans hb5).below hb6) (.inr (.inr ⟨_, _, t, u, .inr (.inr (.inl ⟨rfl, .inl rfl, rfl⟩)), HT.out, HU.out, rfl⟩)) HX6.out (by rw [HPOW.out, HPP.out]; omega) HSZ.out rfl)
      have HY := Lib.hid y1
      have b0 := y1.cell (j := 0) rfl
      have b1 := y1.cell (j := 1) rfl
      have b2 := y1.cell (j := 2) rfl
      have b3 := y1.cell (j := 3) rfl
      have b4 := y1.cell (j := 4) rfl
      have b5 := y1.cell (j := 5) rfl
      have b6 := y1.cell (j := 6) rfl
      have f0 := y1.free 0
      have f1 := y1.free 1
      have f2 := y1.free 2
      have f3 := y1.free 3
      have f4 := y1.free 4
      have f5 := y1.free 5
      have f6 := y1.free 6
      clear y1 y0 h3 hb03 hb4 hb5 hb6 zR c2 HX6 H4 H5 X5 U5 HT HU hm hm2
      go_wp2_with fail
      exact bodyPost_ret (results_expr rfl _ _ B _ _ _ _ _ _ _ rfl HY.out.set7) rfl HP.out
    · go_wp2_with fail
      refine (cK5 _).mono ?_
      rintro e w9 ⟨rfl, rfl⟩
      clear cK5
      go_wp2_with fail
      refine (cB7 _).mono ?_
      rintro e w9 ⟨rfl, rfl⟩
      clear cB7
      clear cA6
      have ew4 : IntKind.i64.wrap (1 + q4) = 1 + q4 := by rw [IntKind.wrap_i64]; omega
      go_wp2_with fail
      refine (cA4 _).mono ?_
      rintro e w9 ⟨rfl, rfl⟩
      clear cA4
      have c1 := HIH.out 1 (n + 1) w3 (by decide) h3 (by rw [HPP.out]; omega)
      go_wp2_with fail
      refine c1.mono ?_
      rintro e w4 ⟨t, ao, cap, m, rfl, HT, HX, H4, hm, hb4⟩
      rw [HPP.out] at hm
      have X4 := HX.out.mono hB3
      have c3 := HIH.out 1 m w4 (by decide) H4.out (by rw [HPP.out]; omega)
      clear HX c1 HIH
      go_wp2_with fail
      refine c3.mono ?_
      rintro e w5 ⟨u, ap, caq, m2, rfl, HU, HX, H5, hm2, hb5⟩
      rw [HPP.out] at hm2
      have U5 := HX.out.mono (Nat.le_trans hB3 hb4.size)
      have X5 := X4.hb (show H < B + 1 by omega) hb5
      have c2 := hop2 0 (16) (B + 1) (by decide) t u ao ap cap caq w5 X5 U5 (Nat.le_trans (Nat.le_trans hB3 hb4.size) hb5.size)
      clear HX c3 X4
      go_wp2_with fail
      refine c2.mono ?_
      rintro e w6 ⟨g, rfl, HX6, hb6⟩
      have y1 := ((y0.hb hb4 (fun e => hHB e.symm)).hb hb5 (fun e => hHB e.symm)).call hb6
      have HP := Lib.hid (ex_done (d := d + 1) HH.out (H5.out.call hb6) (((hb03.trans hb4).trans hb5).below hb6) (.inr (.inr ⟨_, _, t, u, .inr (.inr (.inl ⟨rfl, .inr rfl, rfl⟩)), HT.out, HU.out, rfl⟩)) HX6.out (by rw [HPOW.out, HPP.out]; omega) HSZ.out rfl)
      have HY := Lib.hid y1
      have b0 := y1.cell (j := 0) rfl
      have b1 := y1.cell (j := 1) rfl
      have b2 := y1.cell (j := 2) rfl
      have b3 := y1.cell (j := 3) rfl
      have b4 := y1.cell (j := 4) rfl
      have b5 := y1.cell (j := 5) rfl
      have b6 := y1.cell (j := 6) rfl
      have f0 := y1.free 0
      have f1 := y1.free 1
      have f2 := y1.free 2
      have f3 := y1.free 3
      have f4 := y1.free 4
      have f5 := y1.free 5
      have f6 := y1.free 6
      clear y1 y0 h3 hb03 hb4 hb5 hb6 zR c2 HX6 H4 H5 X5 U5 HT HU hm hm2
      go_wp2_with fail
      exact bodyPost_ret (results_expr rfl _ _ B _ _ _ _ _ _ _ rfl HY.out.set7) rfl HP.out
    · go_wp2_with fail
      refine (cK5 _).mono ?_
      rintro e w9 ⟨rfl, rfl⟩
      clear cK5
      go_wp2_with fail
      refine (cB7 _).mono ?_
      rintro e w9 ⟨rfl, rfl⟩
      clear cB7
      clear cA6
      have ew4 : IntKind.i64.wrap (1 + q4) = 1 + q4 := by rw [IntKind.wrap_i64]; omega
      go_wp2_with fail
      refine (cA4 _).mono ?_
      rintro e w9 ⟨rfl, rfl⟩
      clear cA4
      have c1 := HIH.out (1 + q4) (n + 1) w3 (by omega) h3 (by rw [HPP.out]; omega)
      clear HIH
      go_wp2_with fail
      refine c1.mono ?_
      rintro e w4 ⟨t, ao, cap, m, rfl, HT, HX, H4, hm, hb4⟩
      rw [HPP.out] at hm
      have X4 := HX.out.mono hB3
      have c2 := hop1 0 (17) (B + 1) (by decide) t ao cap w4 X4 (Nat.le_trans hB3 hb4.size)
      clear HX c1
      go_wp2_with fail
      refine c2.mono ?_
      rintro e w5 ⟨g, rfl, HX5, hb5⟩
      have y1 := (y0.hb hb4 (fun e => hHB e.symm)).call hb5
      have HP := Lib.hid (ex_done (d := d + 1) HH.out (H4.out.call hb5) ((hb03.trans hb4).below hb5) (.inr (.inl ⟨_, _, t, .inr (.inr (.inr ⟨rfl, rfl, by omega, by omega⟩)), HT.out, rfl⟩)) HX5.out (by rw [HPOW.out, HPP.out]; omega) HSZ.out rfl)
      have HY := Lib.hid y1
      have b0 := y1.cell (j := 0) rfl
      have b1 := y1.cell (j := 1) rfl
      have b2 := y1.cell (j := 2) rfl
      have b3 := y1.cell (j := 3) rfl
      have b4 := y1.cell (j := 4) rfl
      have b5 := y1.cell (j := 5) rfl
      have b6 := y1.cell (j := 6) rfl
      have f0 := y1.free 0
      have f1 := y1.free 1
      have f2 := y1.free 2
      have f3 := y1.free 3
      have f4 := y1.free 4
      have f5 := y1.free 5
      have f6 := y1.free 6
      clear y1 y0 h3 hb03 hb4 hb5 zR c2 HX5 H4 X4 HT hm
      go_wp2_with fail
      exact bodyPost_ret (results_expr rfl _ _ B _ _ _ _ _ _ _ rfl HY.out.set7) rfl HP.out
    · go_wp2_with fail
      refine (cK5 _).mono ?_
      rintro e w9 ⟨rfl, rfl⟩
      clear cK5
      go_wp2_with fail
      refine (cB7 _).mono ?_
      rintro e w9 ⟨rfl, rfl⟩
      clear cB7
      have ew4 : IntKind.i64.wrap (1 + q4) = 1 + q4 := by rw [IntKind.wrap_i64]; omega
      go_wp2_with fail
      refine (cA4 _).mono ?_
      rintro e w9 ⟨rfl, rfl⟩
      clear cA4
      have ew6 : IntKind.i64.wrap (9 + q6) = 9 + q6 := by rw [IntKind.wrap_i64]; omega
      go_wp2_with fail
      refine (cA6 _).mono ?_
      rintro e w9 ⟨rfl, rfl⟩
      clear cA6
      have c1 := HIH.out (1 + q4) (n + 1) w3 (by omega) h3 (by rw [HPP.out]; omega)
      go_wp2_with fail
      refine c1.mono ?_
      rintro e w4 ⟨t, ao, cap, m, rfl, HT, HX, H4, hm, hb4⟩
      rw [HPP.out] at hm
      have X4 := HX.out.mono hB3
      have c3 := HIH.out (1 + q4) m w4 (by omega) H4.out (by rw [HPP.out]; omega)
      clear HX c1 HIH
      go_wp2_with fail
      refine c3.mono ?_
      rintro e w5 ⟨u, ap, caq, m2, rfl, HU, HX, H5, hm2, hb5⟩
      rw [HPP.out] at hm2
      have U5 := HX.out.mono (Nat.le_trans hB3 hb4.size)
      have X5 := X4.hb (show H < B + 1 by omega) hb5
      have c2 := hop2 0 (9 + q6) (B + 1) (by omega) t u ao ap cap caq w5 X5 U5 (Nat.le_trans (Nat.le_trans hB3 hb4.size) hb5.size)
      clear HX c3 X4
      go_wp2_with fail
      refine c2.mono ?_
      rintro e w6 ⟨g, rfl, HX6, hb6⟩
      have y1 := ((y0.hb hb4 (fun e => hHB e.symm)).hb hb5 (fun e => hHB e.symm)).call hb6
      have HP := Lib.hid (ex_done (d := d + 1) HH.out (H5.out.call hb6) (((hb03.trans hb4).trans hb5).below hb6) (.inr (.inr ⟨_, _, t, u, .inr (.inr (.inr (.inl ⟨rfl, by omega, by omega, by omega⟩))), HT.out, HU.out, rfl⟩)) HX6.out (by rw [HPOW.out, HPP.out]; omega) HSZ.out rfl)
      have HY := Lib.hid y1
      have b0 := y1.cell (j := 0) rfl
      have b1 := y1.cell (j := 1) rfl
      have b2 := y1.cell (j := 2) rfl
      have b3 := y1.cell (j := 3) rfl
      have b4 := y1.cell (j := 4) rfl
      have b5 := y1.cell (j := 5) rfl
      have b6 := y1.cell (j := 6) rfl
      have f0 := y1.free 0
      have f1 := y1.free 1
      have f2 := y1.free 2
      have f3 := y1.free 3
      have f4 := y1.free 4
      have f5 := y1.free 5
      have f6 := y1.free 6
      clear y1 y0 h3 hb03 hb4 hb5 hb6 zR c2 HX6 H4 H5 X5 U5 HT HU hm hm2
      go_wp2_with fail
      exact bodyPost_ret (results_expr rfl _ _ B _ _ _ _ _ _ _ rfl HY.out.set7) rfl HP.out
    · go_wp2_with fail
      refine (cK5 _).mono ?_
      rintro e w9 ⟨rfl, rfl⟩
      clear cK5
      go_wp2_with fail
      refine (cB7 _).mono ?_
      rintro e w9 ⟨rfl, rfl⟩
      clear cB7
      have ew4 : IntKind.i64.wrap (1 + q4) = 1 + q4 := by rw [IntKind.wrap_i64]; omega
      go_wp2_with fail
      refine (cA4 _).mono ?_
      rintro e w9 ⟨rfl, rfl⟩
      clear cA4
      have ew6 : IntKind.i64.wrap (9 + q6) = 9 + q6 := by rw [IntKind.wrap_i64]; omega
      go_wp2_with fail
      refine (cA6 _).mono ?_
      rintro e w9 ⟨rfl, rfl⟩
      clear cA6
      have c1 := HIH.out (1 + q4) (n + 1) w3 (by omega) h3 (by rw [HPP.out]; omega)
      go_wp2_with fail
      refine c1.mono ?_
      rintro e w4 ⟨t, ao, cap, m, rfl, HT, HX, H4, hm, hb4⟩
      rw [HPP.out] at hm
      have X4 := HX.out.mono hB3
      have c3 := HIH.out (1 + q4) m w4 (by omega) H4.out (by rw [HPP.out]; omega)
      clear HX c1 HIH
      go_wp2_with fail
      refine c3.mono ?_
      rintro e w5 ⟨u, ap, caq, m2, rfl, HU, HX, H5, hm2, hb5⟩
      rw [HPP.out] at hm2
      have U5 := HX.out.mono (Nat.le_trans hB3 hb4.size)
      have X5 := X4.hb (show H < B + 1 by omega) hb5
      have c2 := hop2 0 (9 + q6) (B + 1) (by omega) t u ao ap cap caq w5 X5 U5 (Nat.le_trans (Nat.le_trans hB3 hb4.size) hb5.size)
      clear HX c3 X4
      go_wp2_with fail
      refine c2.mono ?_
      rintro e w6 ⟨g, rfl, HX6, hb6⟩
      have y1 := ((y0.hb hb4 (fun e => hHB e.symm)).hb hb5 (fun e => hHB e.symm)).call hb6
      have HP := Lib.hid (ex_done (d := d + 1) HH.out (H5.out.call hb6) (((hb03.trans hb4).trans hb5).below hb6) (.inr (.inr ⟨_, _, t, u, .inr (.inr (.inr (.inl ⟨rfl, by omega, by omega, by omega⟩))), HT.out, HU.out, rfl⟩)) HX6.out (by rw [HPOW.out, HPP.out]; omega) HSZ.out rfl)
      have HY := Lib.hid y1
      have b0 := y1.cell (j := 0) rfl
      have b1 := y1.cell (j := 1) rfl
      have b2 := y1.cell (j := 2) rfl
      have b3 := y1.cell (j := 3) rfl
      have b4 := y1.cell (j := 4) rfl
      have b5 := y1.cell (j := 5) rfl
      have b6 := y1.cell (j := 6) rfl
      have f0 := y1.free 0
      have f1 := y1.free 1
      have f2 := y1.free 2
      have f3 := y1.free 3
      have f4 := y1.free 4
      have f5 := y1.free 5
      have f6 := y1.free 6
      clear y1 y0 h3 hb03 hb4 hb5 hb6 zR c2 HX6 H4 H5 X5 U5 HT HU hm hm2
      go_wp2_with fail
      exact bodyPost_ret (results_expr rfl _ _ B _ _ _ _ _ _ _ rfl HY.out.set7) rfl HP.out
    · go_wp2_with fail
      refine (cK5 _).mono ?_
      rintro e w9 ⟨rfl, rfl⟩
      clear cK5
      go_wp2_with fail
      refine (cB7 _).mono ?_
      rintro e w9 ⟨rfl, rfl⟩
      clear cB7
      have ew4 : IntKind.i64.wrap (1 + q4) = 1 + q4 := by rw [IntKind.wrap_i64]; omega
      go_wp2_with fail
      refine (cA4 _).mono ?_
      rintro e w9 ⟨rfl, rfl⟩
      clear cA4
      have ew6 : IntKind.i64.wrap (9 + q6) = 9 + q6 := by rw [IntKind.wrap_i64]; omega
      go_wp2_with fail
      refine (cA6 _).mono ?_
      rintro e w9 ⟨rfl, rfl⟩
      clear cA6
      have c1 := HIH.out (1 + q4) (n + 1) w3 (by omega) h3 (by rw [HPP.out]; omega)
      go_wp2_with fail
      refine c1.mono ?_
      rintro e w4 ⟨t, ao, cap, m, rfl, HT, HX, H4, hm, hb4⟩
      rw [HPP.out] at hm
      have X4 := HX.out.mono hB3
      have c3 := HIH.out (1 + q4) m w4 (by omega) H4.out (by rw [HPP.out]; omega)
      clear HX c1 HIH
      go_wp2_with fail
      refine c3.mono ?_
      rintro e w5 ⟨u, ap, caq, m2, rfl, HU, HX, H5, hm2, hb5⟩
      rw [HPP.out] at hm2
      have U5 := HX.out.mono (Nat.le_trans hB3 hb4.size)
      have X5 := X4.hb (show H < B + 1 by omega) hb5
      have c2 := hop2 0 (9 + q6) (B + 1) (by omega) t u ao ap cap caq w5 X5 U5 (Nat.le_trans (Nat.le_trans hB3 hb4.size) hb5.size)
      clear HX c3 X4
      go_wp2_with fail
      refine c2.mono ?_
      rintro e w6 ⟨g, rfl, HX6, hb6⟩
      have y1 := ((y0.hb hb4 (fun e => hHB e.symm)).hb hb5 (fun e => hHB e.symm)).call hb6
      have HP := Lib.hid (ex_done (d := d + 1) HH.out (H5.out.call hb6) (((hb03.trans hb4).trans hb5).below hb6) (.inr (.inr ⟨_, _, t, u, .inr (.inr (.inr (.inl ⟨rfl, by omega, by omega, by omega⟩))), HT.out, HU.out, rfl⟩)) HX6.out (by rw [HPOW.out, HPP.out]; omega) HSZ.out rfl)
      have HY := Lib.hid y1
      have b0 := y1.cell (j := 0) rfl
      have b1 := y1.cell (j := 1) rfl
      have b2 := y1.cell (j := 2) rfl
      have b3 := y1.cell (j := 3) rfl
      have b4 := y1.cell (j := 4) rfl
      have b5 := y1.cell (j := 5) rfl
      have b6 := y1.cell (j := 6) rfl
      have f0 := y1.free 0
      have f1 := y1.free 1
      have f2 := y1.free 2
      have f3 := y1.free 3
      have f4 := y1.free 4
      have f5 := y1.free 5
      have f6 := y1.free 6
      clear y1 y0 h3 hb03 hb4 hb5 hb6 zR c2 HX6 H4 H5 X5 U5 HT HU hm hm2
      go_wp2_with fail
      exact bodyPost_ret (results_expr rfl _ _ B _ _ _ _ _ _ _ rfl HY.out.set7) rfl HP.out
  · rcases hq7 with rfl | rfl | rfl | rfl | rfl | rfl | rfl
    · go_wp2_with fail
      refine (cK5 _).mono ?_
      rintro e w9 ⟨rfl, rfl⟩
      clear cK5
      go_wp2_with fail
      refine (cB7 _).mono ?_
      rintro e w9 ⟨rfl, rfl⟩
      clear cB7
      clear cA4 cA6
      have c1 := HIH.out 4 (n + 1) w3 (by decide) h3 (by rw [HPP.out]; omega)
      go_wp2_with fail
      refine c1.mono ?_
      rintro e w4 ⟨t, ao, cap, m, rfl, HT, HX, H4, hm, hb4⟩
      rw [HPP.out] at hm
      have X4 := HX.out.mono hB3
      have c3 := HIH.out 4 m w4 (by decide) H4.out (by rw [HPP.out]; omega)
      clear HX c1 HIH
      go_wp2_with fail
      refine c3.mono ?_
      rintro e w5 ⟨u, ap, caq, m2, rfl, HU, HX, H5, hm2, hb5⟩
      rw [HPP.out] at hm2
      have U5 := HX.out.mono (Nat.le_trans hB3 hb4.size)
      have X5 := X4.hb (show H < B + 1 by omega) hb5
      have c2 := hop2 0 (19) (B + 1) (by decide) t u ao ap cap caq w5 X5 U5 (Nat.le_trans (Nat.le_trans hB3 hb4.size) hb5.size)
      clear HX c3 X4
      go_wp2_with fail
      refine c2.mono ?_
      rintro e w6 ⟨g, rfl, HX6, hb6⟩
      have y1 := ((y0.hb hb4 (fun e => hHB e.symm)).hb hb5 (fun e => hHB e.symm)).call hb6
      have HP := Lib.hid (ex_done (d := d + 1) HH.out (H5.out.call hb6) (((hb03.trans hb4).trans hb5).below hb6) (.inr (.inr ⟨_, _, t, u, .inr (.inr (.inr (.inr ⟨rfl, rfl, rfl⟩))), HT.out, HU.out, rfl⟩)) HX6.out (by rw [HPOW.out, HPP.out]; omega) HSZ.out rfl)
      have HY := Lib.hid y1
      have b0 := y1.cell (j := 0) rfl
      have b1 := y1.cell (j := 1) rfl
      have b2 := y1.cell (j := 2) rfl
      have b3 := y1.cell (j := 3) rfl
      have b4 := y1.cell (j := 4) rfl
      have b5 := y1.cell (j := 5) rfl
      have b6 := y1.cell (j := 6) rfl
      have f0 := y1.free 0
      have f1 := y1.free 1
      have f2 := y1.free 2
      have f3 := y1.free 3
      have f4 := y1.free 4
      have f5 := y1.free 5
      have f6 := y1.free 6
      clear y1 y0 h3 hb03 hb4 hb5 hb6 zR c2 HX6 H4 H5 X5 U5 HT HU hm hm2
      go_wp2_with fail
      exact bodyPost_ret (results_expr rfl _ _ B _ _ _ _ _ _ _ rfl HY.out.set7) rfl HP.out
    · go_wp2_with fail
      refine (cK5 _).mono ?_
      rintro e w9 ⟨rfl, rfl⟩
      clear cK5
      go_wp2_with fail
      refine (cB7 _).mono ?_
      rintro e w9 ⟨rfl, rfl⟩
      clear cB7
      clear cA4 cA6
      have c1 := HIH.out 4 (n + 1) w3 (by decide) h3 (by rw [HPP.out]; omega)
      go_wp2_with fail
      refine c1.mono ?_
      rintro e w4 ⟨t, ao, cap, m, rfl, HT, HX, H4, hm, hb4⟩
      rw [HPP.out] at hm
      have X4 := HX.out.mono hB3
      have c3 := HIH.out 4 m w4 (by decide) H4.out (by rw [HPP.out]; omega)
      clear HX c1 HIH
      go_wp2_with fail
      refine c3.mono ?_
      rintro e w5 ⟨u, ap, caq, m2, rfl, HU, HX, H5, hm2, hb5⟩
      rw [HPP.out] at hm2
      have U5 := HX.out.mono (Nat.le_trans hB3 hb4.size)
      have X5 := X4.hb (show H < B + 1 by omega) hb5
      have c2 := hop2 0 (19) (B + 1) (by decide) t u ao ap cap caq w5 X5 U5 (Nat.le_trans (Nat.le_trans hB3 hb4.size) hb5.size)
      clear HX c3 X4
      go_wp2_with fail
      refine c2.mono ?_
      rintro e w6 ⟨g, rfl, HX6, hb6⟩
      have y1 := ((y0.hb hb4 (fun e => hHB e.symm)).hb hb5 (fun e => hHB e.symm)).call hb6
      have HP := Lib.hid (ex_done (d := d + 1) HH.out (H5.out.call hb6) (((hb03.trans hb4).trans hb5).below hb6) (.inr (.inr ⟨_, _, t, u, .inr (.inr (.inr (.inr ⟨rfl, rfl, rfl⟩))), HT.out, HU.out, rfl⟩)) HX6.out (by rw [HPOW.out, HPP.out]; omega) HSZ.out rfl)
      have HY := Lib.hid y1
      have b0 := y1.cell (j := 0) rfl
      have b1 := y1.cell (j := 1) rfl
      have b2 := y1.cell (j := 2) rfl
      have b3 := y1.cell (j := 3) rfl
      have b4 := y1.cell (j := 4) rfl
      have b5 := y1.cell (j := 5) rfl
      have b6 := y1.cell (j := 6) rfl
      have f0 := y1.free 0
      have f1 := y1.free 1
      have f2 := y1.free 2
      have f3 := y1.free 3
      have f4 := y1.free 4
      have f5 := y1.free 5
      have f6 := y1.free 6
      clear y1 y0 h3 hb03 hb4 hb5 hb6 zR c2 HX6 H4 H5 X5 U5 HT HU hm hm2
      go_wp2_with fail
      exact bodyPost_ret (results_expr rfl _ _ B _ _ _ _ _ _ _ rfl HY.out.set7) rfl HP.out
    · go_wp2_with fail
      refine (cK5 _).mono ?_
      rintro e w9 ⟨rfl, rfl⟩
      clear cK5
      go_wp2_with fail
      refine (cB7 _).mono ?_
      rintro e w9 ⟨rfl, rfl⟩
      clear cB7
      clear cA4 cA6
      have c1 := HIH.out 4 (n + 1) w3 (by decide) h3 (by rw [HPP.out]; omega)
      go_wp2_with fail
      refine c1.mono ?_
      rintro e w4 ⟨t, ao, cap, m, rfl, HT, HX, H4, hm, hb4⟩
      rw [HPP.out] at hm
      have X4 := HX.out.mono hB3
      have c3 := HIH.out 4 m w4 (by decide) H4.out (by rw [HPP.out]; omega)
      clear HX c1 HIH
      go_wp2_with fail
      refine c3.mono ?_
      rintro e w5 ⟨u, ap, caq, m2, rfl, HU, HX, H5, hm2, hb5⟩
      rw [HPP.out] at hm2
      have U5 := HX.out.mono (Nat.le_trans hB3 hb4.size)
      have X5 := X4.hb (show H < B + 1 by omega) hb5
      have c2 := hop2 0 (19) (B + 1) (by decide) t u ao ap cap caq w5 X5 U5 (Nat.le_trans (Nat.le_trans hB3 hb4.size) hb5.size)
      clear HX c3 X4
      go_wp2_with fail
      refine c2.mono ?_
      rintro e w6 ⟨g, rfl, HX6, hb6⟩
      have y1 := ((y0.hb hb4 (fun e => hHB e.symm)).hb hb5 (fun e => hHB e.symm)).call hb6
      have HP := Lib.hid (ex_done (d := d + 1) HH.out (H5.out.call hb6) (((hb03.trans hb4).trans hb5).below hb6) (.inr (.inr ⟨_, _, t, u, .inr (.inr (.inr (.inr ⟨rfl, rfl, rfl⟩))), HT.out, HU.out, rfl⟩)) HX6.out (by rw [HPOW.out, HPP.out]; omega) HSZ.out rfl)
      have HY := Lib.hid y1
      have b0 := y1.cell (j := 0) rfl
      have b1 := y1.cell (j := 1) rfl
      have b2 := y1.cell (j := 2) rfl
      have b3 := y1.cell (j := 3) rfl
      have b4 := y1.cell (j := 4) rfl
      have b5 := y1.cell (j := 5) rfl
      have b6 := y1.cell (j := 6) rfl
      have f0 := y1.free 0
      have f1 := y1.free 1
      have f2 := y1.free 2
      have f3 := y1.free 3
      have f4 := y1.free 4
      have f5 := y1.free 5
      have f6 := y1.free 6
      clear y1 y0 h3 hb03 hb4 hb5 hb6 zR c2 HX6 H4 H5 X5 U5 HT HU hm hm2
      go_wp2_with fail
      exact bodyPost_ret (results_expr rfl _ _ B _ _ _ _ _ _ _ rfl HY.out.set7) rfl HP.out
    · go_wp2_with fail
      refine (cK5 _).mono ?_
      rintro e w9 ⟨rfl, rfl⟩
      clear cK5
      go_wp2_with fail
      refine (cB7 _).mono ?_
      rintro e w9 ⟨rfl, rfl⟩
      clear cB7
      clear cA4 cA6
      have c1 := HIH.out 4 (n + 1) w3 (by decide) h3 (by rw [HPP.out]; omega)
      go_wp2_with fail
      refine c1.mono ?_
      rintro e w4 ⟨t, ao, cap, m, rfl, HT, HX, H4, hm, hb4⟩
      rw [HPP.out] at hm
      have X4 := HX.out.mono hB3
      have c3 := HIH.out 4 m w4 (by decide) H4.out (by rw [HPP.out]; omega)
      clear HX c1 HIH
      go_wp2_with fail
      refine c3.mono ?_
      rintro e w5 ⟨u, ap, caq, m2, rfl, HU, HX, H5, hm2, hb5⟩
      rw [HPP.out] at hm2
      have U5 := HX.out.mono (Nat.le_trans hB3 hb4.size)
      have X5 := X4.hb (show H < B + 1 by omega) hb5
      have c2 := hop2 0 (19) (B + 1) (by decide) t u ao ap cap caq w5 X5 U5 (Nat.le_trans (Nat.le_trans hB3 hb4.size) hb5.size)
      clear HX c3 X4
      go_wp2_with fail
      refine c2.mono ?_
      rintro e w6 ⟨g, rfl, HX6, hb6⟩
      have y1 := ((y0.hb hb4 (fun e => hHB e.symm)).hb hb5 (fun e => hHB e.symm)).call hb6
      have HP := Lib.hid (ex_done (d := d + 1) HH.out (H5.out.call hb6) (((hb03.trans hb4).trans hb5).below hb6) (.inr (.inr ⟨_, _, t, u, .inr (.inr (.inr (.inr ⟨rfl, rfl, rfl⟩))), HT.out, HU.out, rfl⟩)) HX6.out (by rw [HPOW.out, HPP.out]; omega) HSZ.out rfl)
      have HY := Lib.hid y1
      have b0 := y1.cell (j := 0) rfl
      have b1 := y1.cell (j := 1) rfl
      have b2 := y1.cell (j := 2) rfl
      have b3 := y1.cell (j := 3) rfl
      have b4 := y1.cell (j := 4) rfl
      have b5 := y1.cell (j := 5) rfl
      have b6 := y1.cell (j := 6) rfl
      have f0 := y1.free 0
      have f1 := y1.free 1
      have f2 := y1.free 2
      have f3 := y1.free 3
      have f4 := y1.free 4
      have f5 := y1.free 5
      have f6 := y1.free 6
      clear y1 y0 h3 hb03 hb4 hb5 hb6 zR c2 HX6 H4 H5 X5 U5 HT HU hm hm2
      go_wp2_with fail
      exact bodyPost_ret (results_expr rfl _ _ B _ _ _ _ _ _ _ rfl HY.out.set7) rfl HP.out
    · go_wp2_with fail
      refine (cK5 _).mono ?_
      rintro e w9 ⟨rfl, rfl⟩
      clear cK5
      go_wp2_with fail
      refine (cB7 _).mono ?_
      rintro e w9 ⟨rfl, rfl⟩
      clear cB7
      clear cA4 cA6
      have c1 := HIH.out 4 (n + 1) w3 (by decide) h3 (by rw [HPP.out]; omega)
      go_wp2_with fail
      refine c1.mono ?_
      rintro e w4 ⟨t, ao, cap, m, rfl, HT, HX, H4, hm, hb4⟩
      rw [HPP.out] at hm
      have X4 := HX.out.mono hB3
      have c3 := HIH.out 4 m w4 (by decide) H4.out (by rw [HPP.out]; omega)
      clear HX c1 HIH
      go_wp2_with fail
      refine c3.mono ?_
      rintro e w5 ⟨u, ap, caq, m2, rfl, HU, HX, H5, hm2, hb5⟩
      rw [HPP.out] at hm2
      have U5 := HX.out.mono (Nat.le_trans hB3 hb4.size)
      have X5 := X4.hb (show H < B + 1 by omega) hb5
      have c2 := hop2 0 (20) (B + 1) (by decide) t u ao ap cap caq w5 X5 U5 (Nat.le_trans (Nat.le_trans hB3 hb4.size) hb5.size)
      clear HX c3 X4
      go_wp2_with fail
      refine c2.mono ?_
      rintro e w6 ⟨g, rfl, HX6, hb6⟩
      have y1 := ((y0.hb hb4 (fun e => hHB e.symm)).hb hb5 (fun e => hHB e.symm)).call hb6
      have HP := Lib.hid (ex_done (d := d + 1) HH.out (H5.out.call hb6) (((hb03.trans hb4).trans hb5).below hb6) (.inr (.inr ⟨_, _, t, u, .inl ⟨rfl, rfl⟩, HT.out, HU.out, rfl⟩)) HX6.out (by rw [HPOW.out, HPP.out]; omega) HSZ.out rfl)
      have HY := Lib.hid y1
      have b0 := y1.cell (j := 0) rfl
      have b1 := y1.cell (j := 1) rfl
      have b2 := y1.cell (j := 2) rfl
      have b3 := y1.cell (j := 3) rfl
      have b4 := y1.cell (j := 4) rfl
      have b5 := y1.cell (j := 5) rfl
      have b6 := y1.cell (j := 6) rfl
      have f0 := y1.free 0
      have f1 := y1.free 1
      have f2 := y1.free 2
      have f3 := y1.free 3
      have f4 := y1.free 4
      have f5 := y1.free 5
      have f6 := y1.free 6
      clear y1 y0 h3 hb03 hb4 hb5 hb6 zR c2 HX6 H4 H5 X5 U5 HT HU hm hm2
      go_wp2_with fail
      exact bodyPost_ret (results_expr rfl _ _ B _ _ _ _ _ _ _ rfl HY.out.set7) rfl HP.out
    · go_wp2_with fail
      refine (cK5 _).mono ?_
      rintro e w9 ⟨rfl, rfl⟩
      clear cK5
      go_wp2_with fail
      refine (cB7 _).mono ?_
      rintro e w9 ⟨rfl, rfl⟩
      clear cB7
      clear cA4 cA6
      have c1 := HIH.out 4 (n + 1) w3 (by decide) h3 (by rw [HPP.out]; omega)
      go_wp2_with fail
      refine c1.mono ?_
      rintro e w4 ⟨t, ao, cap, m, rfl, HT, HX, H4, hm, hb4⟩
      rw [HPP.out] at hm
      have X4 := HX.out.mono hB3
      have c3 := HIH.out 4 m w4 (by decide) H4.out (by rw [HPP.out]; omega)
      clear HX c1 HIH
      go_wp2_with fail
      refine c3.mono ?_
      rintro e w5 ⟨u, ap, caq, m2, rfl, HU, HX, H5, hm2, hb5⟩
      rw [HPP.out] at hm2
      have U5 := HX.out.mono (Nat.le_trans hB3 hb4.size)
      have X5 := X4.hb (show H < B + 1 by omega) hb5
      have c2 := hop2 0 (20) (B + 1) (by decide) t u ao ap cap caq w5 X5 U5 (Nat.le_trans (Nat.le_trans hB3 hb4.size) hb5.size)
      clear HX c3 X4
      go_wp2_with fail
      refine c2.mono ?_
      rintro e w6 ⟨g, rfl, HX6, hb6⟩
      have y1 := ((y0.hb hb4 (fun e => hHB e.symm)).hb hb5 (fun e => hHB e.symm)).call hb6
      have HP := Lib.hid (ex_done (d := d + 1) HH.out (H5.out.call hb6) (((hb03.trans hb4).trans hb5).below hb6) (.inr (.inr ⟨_, _, t, u, .inl ⟨rfl, rfl⟩, HT.out, HU.out, rfl⟩)) HX6.out (by rw [HPOW.out, HPP.out]; omega) HSZ.out rfl)
      have HY := Lib.hid y1
      have b0 := y1.cell (j := 0) rfl
      have b1 := y1.cell (j := 1) rfl
      have b2 := y1.cell (j := 2) rfl
      have b3 := y1.cell (j := 3) rfl
      have b4 := y1.cell (j := 4) rfl
      have b5 := y1.cell (j := 5) rfl
      have b6 := y1.cell (j := 6) rfl
      have f0 := y1.free 0
      have f1 := y1.free 1
      have f2 := y1.free 2
      have f3 := y1.free 3
      have f4 := y1.free 4
      have f5 := y1.free 5
      have f6 := y1.free 6
      clear y1 y0 h3 hb03 hb4 hb5 hb6 zR c2 HX6 H4 H5 X5 U5 HT HU hm hm2
      go_wp2_with fail
      exact bodyPost_ret (results_expr rfl _ _ B _ _ _ _ _ _ _ rfl HY.out.set7) rfl HP.out
    · go_wp2_with fail
      refine (cK5 _).mono ?_
      rintro e w9 ⟨rfl, rfl⟩
      clear cK5
      go_wp2_with fail
      refine (cB7 _).mono ?_
      rintro e w9 ⟨rfl, rfl⟩
      clear cB7
      clear cA4 cA6
      have c1 := HIH.out 4 (n + 1) w3 (by decide) h3 (by rw [HPP.out]; omega)
      go_wp2_with fail
      refine c1.mono ?_
      rintro e w4 ⟨t, ao, cap, m, rfl, HT, HX, H4, hm, hb4⟩
      rw [HPP.out] at hm
      have X4 := HX.out.mono hB3
      have c3 := HIH.out 4 m w4 (by decide) H4.out (by rw [HPP.out]; omega)
      clear HX c1 HIH
      go_wp2_with fail
      refine c3.mono ?_
      rintro e w5 ⟨u, ap, caq, m2, rfl, HU, HX, H5, hm2, hb5⟩
      rw [HPP.out] at hm2
      have U5 := HX.out.mono (Nat.le_trans hB3 hb4.size)
      have X5 := X4.hb (show H < B + 1 by omega) hb5
      have c2 := hop2 0 (20) (B + 1) (by decide) t u ao ap cap caq w5 X5 U5 (Nat.le_trans (Nat.le_trans hB3 hb4.size) hb5.size)
      clear HX c3 X4
      go_wp2_with fail
      refine c2.mono ?_
      rintro e w6 ⟨g, rfl, HX6, hb6⟩
      have y1 := ((y0.hb hb4 (fun e => hHB e.symm)).hb hb5 (fun e => hHB e.symm)).call hb6
      have HP := Lib.hid (ex_done (d := d + 1) HH.out (H5.out.call hb6) (((hb03.trans hb4).trans hb5).below hb6) (.inr (.inr ⟨_, _, t, u, .inl ⟨rfl, rfl⟩, HT.out, HU.out, rfl⟩)) HX6.out (by rw [HPOW.out, HPP.out]; omega) HSZ.out rfl)
      have HY := Lib.hid y1
      have b0 := y1.cell (j := 0) rfl
      have b1 := y1.cell (j := 1) rfl
      have b2 := y1.cell (j := 2) rfl
      have b3 := y1.cell (j := 3) rfl
      have b4 := y1.cell (j := 4) rfl
      have b5 := y1.cell (j := 5) rfl
      have b6 := y1.cell (j := 6) rfl
      have f0 := y1.free 0
      have f1 := y1.free 1
      have f2 := y1.free 2
      have f3 := y1.free 3
      have f4 := y1.free 4
      have f5 := y1.free 5
      have f6 := y1.free 6
      clear y1 y0 h3 hb03 hb4 hb5 hb6 zR c2 HX6 H4 H5 X5 U5 HT HU hm hm2
      go_wp2_with fail
      exact bodyPost_ret (results_expr rfl _ _ B _ _ _ _ _ _ _ rfl HY.out.set7) rfl HP.out
  · go_wp2_with fail
    refine (cK5 _).mono ?_
    rintro e w9 ⟨rfl, rfl⟩
    clear cK5
    go_wp2_with fail
    refine (cB7 _).mono ?_
    rintro e w9 ⟨rfl, rfl⟩
    clear cB7
    clear cA4 cA6
    have c1 := HIH.out 3 (n + 1) w3 (by decide) h3 (by rw [HPP.out]; omega)
    go_wp2_with fail
    refine c1.mono ?_
    rintro e w4 ⟨t, ao, cap, m, rfl, HT, HX, H4, hm, hb4⟩
    rw [HPP.out] at hm
    have X4 := HX.out.mono hB3
    have c3 := HIH.out 3 m w4 (by decide) H4.out (by rw [HPP.out]; omega)
    clear HX c1 HIH
    go_wp2_with fail
    refine c3.mono ?_
    rintro e w5 ⟨u, ap, caq, m2, rfl, HU, HX, H5, hm2, hb5⟩
    rw [HPP.out] at hm2
    have U5 := HX.out.mono (Nat.le_trans hB3 hb4.size)
    have X5 := X4.hb (show H < B + 1 by omega) hb5
    have c2 := hop2 0 (20) (B + 1) (by decide) t u ao ap cap caq w5 X5 U5 (Nat.le_trans (Nat.le_trans hB3 hb4.size) hb5.size)
    clear HX c3 X4
    go_wp2_with fail
    refine c2.mono ?_
    rintro e w6 ⟨g, rfl, HX6, hb6⟩
    have y1 := ((y0.hb hb4 (fun e => hHB e.symm)).hb hb5 (fun e => hHB e.symm)).call hb6
    have HP := Lib.hid (ex_done (d := d + 1) HH.out (H5.out.call hb6) (((hb03.trans hb4).trans hb5).below hb6) (.inr (.inr ⟨_, _, t, u, .inl ⟨rfl, rfl⟩, HT.out, HU.out, rfl⟩)) HX6.out (by rw [HPOW.out, HPP.out]; omega) HSZ.out rfl)
    have HY := Lib.hid y1
    have b0 := y1.cell (j := 0) rfl
    have b1 := y1.cell (j := 1) rfl
    have b2 := y1.cell (j := 2) rfl
    have b3 := y1.cell (j := 3) rfl
    have b4 := y1.cell (j := 4) rfl
    have b5 := y1.cell (j := 5) rfl
    have b6 := y1.cell (j := 6) rfl
    have f0 := y1.free 0
    have f1 := y1.free 1
    have f2 := y1.free 2
    have f3 := y1.free 3
    have f4 := y1.free 4
    have f5 := y1.free 5
    have f6 := y1.free 6
    clear y1 y0 h3 hb03 hb4 hb5 hb6 zR c2 HX6 H4 H5 X5 U5 HT HU hm hm2
    go_wp2_with fail
    exact bodyPost_ret (results_expr rfl _ _ B _ _ _ _ _ _ _ rfl HY.out.set7) rfl HP.out
theorem ex_any (S : HpS) (H : Nat) (hS : HpK S) (hnm : ∀ c ∈ S.cs, c.n.length ≤ 1000000) : ∀ d, 1 ≤ d → ExOk S H d
  | 0, h => by omega
  | 1, _ => ex_one S H hS hnm
  | d + 2, _ => ex_step S H (d + 1) hS hnm (by omega) (ex_any S H hS hnm (d + 1) (by omega))
end Go.Proofs.YtablacloabpjfabGreatDoor

/-! CONTRACTS of Cols, heapOf: the columns that raw things make, and a heap of raw things. CONDITIONS: each theorem's own hypotheses. -/
namespace Go.Proofs.YtablacloabpjfabGreatDoor
open Go.RowKit
set_option linter.unusedVariables false
set_option maxRecDepth 100000

def cellsC1 (c : Cl) : List Value := [.string (str c.n), .int .i64 c.k, .bool c.nl]
def cellsC (l : List Cl) : List Value := l.flatMap cellsC1
theorem cellsC_length : ∀ l : List Cl, (cellsC l).length = l.length * 3
  | [] => rfl
  | t :: l => by
    show ((cellsC1 t) ++ cellsC l).length = _
    rw [List.length_append, cellsC_length l]
    simp [cellsC1]; omega
theorem cellsC_append (l m : List Cl) : cellsC (l ++ m) = cellsC l ++ cellsC m := by simp [cellsC]
theorem cellsC_at : ∀ (l : List Cl) (j q : Nat) (t : Cl), l[j]? = some t → q < 3 → (cellsC l)[j * 3 + q]? = (cellsC1 t)[q]?
  | [], j, q, v, h, hq => by simp at h
  | u :: l, 0, q, v, h, hq => by
    simp only [List.getElem?_cons_zero, Option.some.injEq] at h
    subst h
    show ((cellsC1 u) ++ cellsC l)[0 * 3 + q]? = _
    rw [List.getElem?_append_left (by simp [cellsC1]; omega)]
    simp
  | u :: l, j + 1, q, v, h, hq => by
    simp only [List.getElem?_cons_succ] at h
    show ((cellsC1 u) ++ cellsC l)[(j + 1) * 3 + q]? = _
    rw [List.getElem?_append_right (by simp [cellsC1]; omega)]
    rw [show (j + 1) * 3 + q - (cellsC1 u).length = j * 3 + q by simp [cellsC1]; omega]
    exact cellsC_at l j q v h hq
/-- A slice of columns of the call's own. -/
def OwnC (w : World) (base : Nat) (v : Value) (l : List Cl) : Prop := w.ownsRow base 57 3 v l.length (cellsC l)
theorem infoC : (Tryz.prog.info? 57).map (fun i => (i.zero, i.size, i.bytes)) = some (some (.agg #[.string ⟨#[]⟩, .int .i64 0, .bool false]), 3, 32) := by kernel_rfl
theorem OwnC.nil (w : World) (base : Nat) : OwnC w base (.slice none 0 0) [] := World.ownsRow_nil _ _ _ _
theorem OwnC.keep {w w1 : World} {base : Nat} {v : Value} {l : List Cl} (h : OwnC w base v l) (hb : Below w.heap.size w w1) : OwnC w1 base v l :=
  World.ownsRow.kept (row := none) h ⟨hb.os, hb.tape, hb.output, hb.size, fun k hk _ => hb.block k hk⟩ (by cases v.ownBlock <;> simp)
theorem OwnC.cols {w : World} {base : Nat} {v : Value} {l : List Cl} (h : OwnC w base v l) (hf : ∀ c ∈ l, FitC c) : ∃ ao cap, v = .slice ao l.length cap ∧ l.length ≤ cap ∧ cap ≤ 9223372036854775807 ∧ Cols w ao l ∧ ∀ a, ao = some a → base ≤ a.block := by
  rcases h.2 with ⟨rfl, h0⟩ | ⟨g, cap, cur, rfl, hbg, hg, h1, h2, _⟩
  · exact ⟨none, 0, by rw [h0], by omega, by omega, ⟨hf, .inl (List.eq_nil_of_length_eq_zero h0)⟩, fun a ha => by cases ha⟩
  · refine ⟨_, _, rfl, h1, by unfold maxLen at h2; omega, ⟨hf, .inr ⟨g, 0, rfl, (Array.getElem?_eq_some_iff.1 hg).1, fun j t ht => ?_⟩⟩, fun a ha => by cases ha; exact hbg⟩
    have hj : j < l.length := (List.getElem?_eq_some_iff.1 ht).1
    have hc : ∀ q, q < 3 → w.cell? ⟨g, j * 3 + q, none⟩ = (cellsC1 t)[q]? := fun q hq => by
      rw [World.ownsRow.cellAt h (j * 3 + q) (by omega), cellsC_at l j q t ht hq]
    rw [Nat.zero_add]
    exact ⟨hc 0 (by decide), hc 1 (by decide), hc 2 (by decide)⟩
theorem addr_addC (b j : Nat) : (⟨b, 0, none⟩ : Addr).add j = ⟨b, j, none⟩ := by unfold Addr.add; split <;> simp_all
/-- append(l, c), one column. -/
theorem wpList_append_colC {ops : Array Oper} {rest : List Oper} {o : Oper} {a : Act} {Q : Exit → Act → World → Prop} {w : World} (hgd : o.guard = none) (s x : Operand)
    (ho : o.op = .call { callee := .builtin .append, args := #[s, x], argTypes := #[34, 34] }) (base : Nat) (v : Value) (l : List Cl) (hs : a.eval s = v) (hown : OwnC w base v l)
    (u : Cl) (S : ByteArray) (hS : S = str u.n) (k : Int) (nl : Bool) (hk : k = u.k) (hn : nl = u.nl) (m : Nat) (hx : a.eval x = .slice (some ⟨m, 0, none⟩) 1 1) (hm : m = w.heap.size) (hl : l.length ≤ 1000000) (hb : base ≤ w.heap.size)
    (h : ∀ v' w', OwnC w' base v' (l ++ [u]) → Below base w w' → wpList Tryz.prog ops Q rest (a.put o.dst v') w') : wpList Tryz.prog ops Q (o :: rest) a (w.alloc (.cells #[.string S, .int .i64 k, .bool nl] 57)) := by
  subst hm hS hk hn
  obtain ⟨i0, hi, hz0, hz1, hz2⟩ := info_parts infoC
  refine wpList_append_own _ hgd s x 34 ho base 57 i0 _ 3 32 Tryz.underlying34 hi hz0 hz1 hz2 rfl (by decide) v l.length (cellsC l) hs (World.ownsRow.alloc hown _) ⟨w.heap.size, 0, none⟩ 1 1 (cellsC1 u) hx rfl ?_ ?_ (by unfold maxLen; omega) (by omega) (by simp; omega) ?_
  · intro j y hj
    have hj4 : j < 3 := by have := (List.getElem?_eq_some_iff.1 hj).1; simpa [cellsC1] using this
    rw [addr_addC, World.cell?_alloc_new]
    rcases (show j = 0 ∨ j = 1 ∨ j = 2 by omega) with rfl | rfl | rfl <;> exact hj
  · intro y hy
    simp [cellsC1] at hy
    rcases hy with rfl | rfl | rfl <;> rfl
  · intro v' w' h1 h2 _
    refine h v' w' ?_ ?_
    · unfold OwnC
      rw [cellsC_append, List.length_append]
      have e : cellsC [u] = cellsC1 u := by simp [cellsC]
      rw [e]; exact h1
    · exact ((Below.refl base w).alloc hb _).grown h2 (by simp; omega) (fun k hk => (hown.lt k hk).1)
/-! ### which columns raw things make -/
def nmC (i : Nat) : List UInt8 := if i = 0 then [97] else if i = 1 then [98] else [99]
def tailC : Nat → List (Int × Bool) → List Cl
  | _, [] => []
  | i, (k, b) :: r => ⟨nmC i, k, b⟩ :: tailC (i + 1) r
def madeC (ks : List (Int × Bool)) : List Cl := ⟨[107], 2, false⟩ :: tailC 0 ks
theorem tailC_snoc : ∀ (ks : List (Int × Bool)) (i : Nat) (p : Int × Bool), tailC i (ks ++ [p]) = tailC i ks ++ [⟨nmC (i + ks.length), p.1, p.2⟩]
  | [], i, (k, b) => by simp [tailC]
  | (k, b) :: r, i, p => by
    simp only [List.cons_append, tailC, List.length_cons]
    rw [tailC_snoc r (i + 1) p, show i + 1 + r.length = i + (r.length + 1) by omega]
theorem madeC_snoc (ks : List (Int × Bool)) (p : Int × Bool) : madeC (ks ++ [p]) = madeC ks ++ [⟨nmC ks.length, p.1, p.2⟩] := by
  unfold madeC
  rw [tailC_snoc, Nat.zero_add]; rfl
theorem tailC_length : ∀ (ks : List (Int × Bool)) (i : Nat), (tailC i ks).length = ks.length
  | [], _ => rfl
  | (k, b) :: r, i => by simp only [tailC, List.length_cons]; rw [tailC_length r]
theorem madeC_length (ks : List (Int × Bool)) : (madeC ks).length = ks.length + 1 := by unfold madeC; rw [List.length_cons, tailC_length]
theorem colF_okC (n : List UInt8) (k : Int) (b : Bool) (a : List Cl) (hn : tokC 1 n 0 0 = 0) (hk : 1 ≤ k ∧ k ≤ 4) (ha : a.any (fun x => x.n == n) = false) : colF ⟨n, k, b⟩ a = 0 := by
  unfold colF
  simp only
  rw [hn, if_neg (by decide), if_neg (by omega), ha, if_neg (by decide)]
theorem madeC_ok (ks : List (Int × Bool)) (h3 : ks.length ≤ 3) (hk : ∀ p ∈ ks, 1 ≤ p.1 ∧ p.1 ≤ 4) : colsR (madeC ks) = 0 := by
  unfold colsR
  rw [madeC_length, if_neg (by omega)]
  have t0 : tokC 1 [107] 0 0 = 0 := by decide
  have ta : tokC 1 [97] 0 0 = 0 := by decide
  have tb : tokC 1 [98] 0 0 = 0 := by decide
  have tc : tokC 1 [99] 0 0 = 0 := by decide
  match ks, h3, hk with
  | [], _, _ =>
    simp only [madeC, tailC, colsG]
    rw [colF_okC _ _ _ _ t0 (by decide) (by simp), if_pos rfl]
  | [(k, b)], _, hk =>
    have := hk (k, b) (by simp)
    simp only [madeC, tailC, colsG, List.nil_append, nmC]
    rw [colF_okC _ _ _ _ t0 (by decide) (by simp), if_pos rfl]
    simp only [if_true]
    rw [colF_okC _ _ _ _ ta this (by simp), if_pos rfl]
  | [(k, b), (k1, b1)], _, hk =>
    have h1 := hk (k, b) (by simp)
    have h2 := hk (k1, b1) (by simp)
    simp only [madeC, tailC, colsG, List.nil_append, nmC]
    rw [colF_okC _ _ _ _ t0 (by decide) (by simp), if_pos rfl]
    simp only [if_true]
    rw [colF_okC _ _ _ _ ta h1 (by simp), if_pos rfl]
    simp only [Nat.zero_add, Nat.one_ne_zero, if_false]
    rw [colF_okC _ _ _ _ tb h2 (by simp), if_pos rfl]
  | [(k, b), (k1, b1), (k2, b2)], _, hk =>
    have h1 := hk (k, b) (by simp)
    have h2 := hk (k1, b1) (by simp)
    have h4 := hk (k2, b2) (by simp)
    simp only [madeC, tailC, colsG, List.nil_append, nmC]
    rw [colF_okC _ _ _ _ t0 (by decide) (by simp), if_pos rfl]
    simp only [if_true]
    rw [colF_okC _ _ _ _ ta h1 (by simp), if_pos rfl]
    simp only [Nat.zero_add, Nat.one_ne_zero, if_false]
    rw [colF_okC _ _ _ _ tb h2 (by simp), if_pos rfl]
    simp only [show ¬ (1 + 1 = 0) by decide, show ¬ (1 + 1 = 1) by decide, if_false]
    rw [colF_okC _ _ _ _ tc h4 (by simp), if_pos rfl]
theorem madeC_fit (ks : List (Int × Bool)) (hk : ∀ p ∈ ks, 1 ≤ p.1 ∧ p.1 ≤ 4) : ∀ c ∈ madeC ks, FitC c ∧ c.n.length ≤ 1000000 := by
  have hnm : ∀ i, (nmC i).length = 1 := fun i => by unfold nmC; split; rfl; split <;> rfl
  have go : ∀ (r : List (Int × Bool)) (i : Nat), (∀ p ∈ r, 1 ≤ p.1 ∧ p.1 ≤ 4) → ∀ c ∈ tailC i r, FitC c ∧ c.n.length ≤ 1000000 := by
    intro r
    induction r with
    | nil => intro i _ c hc; cases hc
    | cons p r ih =>
      obtain ⟨k, b⟩ := p
      intro i h c hc
      simp only [tailC] at hc
      rcases List.mem_cons.1 hc with rfl | hm
      · have := h (k, b) (by simp)
        simp only at this
        exact ⟨⟨by show _ ≤ k; omega, by show k ≤ _; omega, by show (nmC i).length ≤ _; rw [hnm]; decide⟩, by show (nmC i).length ≤ _; rw [hnm]; decide⟩
      · exact ih (i + 1) (fun p hp => h p (by simp [hp])) c hm
  intro c hc
  unfold madeC at hc
  rcases List.mem_cons.1 hc with rfl | hm
  · exact ⟨⟨by decide, by decide, by decide⟩, by decide⟩
  · exact go ks 0 hk c hm
theorem someH_any (ao : Option Addr) (n cap m : Nat) (M : Int) (hM : M = m) (w : World) (hn : n ≤ cap) (hc : n ≤ 9223372036854775807) (hm : m ≤ 1000000) :
    Calls Tryz.prog 36 #[.slice ao n cap, .int .i64 M] w fun e w' => e = .returned (.slice ao (min n m) cap) ∧ w = w' := by
  have e : min n m = (min (n : Int) M).toNat := by omega
  rw [e]
  have h0 : 0 ≤ M := by omega
  have h1 : M ≤ 1000000 := by omega
  clear e hM
  go_enter Tryz.func36, Tryz.ntmps36
  go_wp2
  go_ret
  exact ⟨rfl, rfl⟩
def ColsOk (q : Nat) (w : World) (e : Ending) (w' : World) : Prop := ∃ (v : Value) (ks : List (Int × Bool)), e = .returned v ∧ OwnC w' w.heap.size v (madeC ks) ∧ ks.length = min q 3 ∧ Hid (∀ p ∈ ks, 1 ≤ p.1 ∧ p.1 ≤ 4) ∧ Below w.heap.size w w'
theorem Raws.take {w : World} {ao : Option Addr} {l : List R} (h : Raws w ao l) (q : Nat) : Raws w ao (l.take q) := by
  refine ⟨fun r hr => h.1 r (List.mem_of_mem_take hr), ?_⟩
  rcases h.2 with h | ⟨a, o, h1, h2, h3⟩
  · left; rw [h]; simp
  · refine .inr ⟨a, o, h1, h2, fun j v hv => h3 j v ?_⟩
    rw [List.getElem?_take] at hv
    split at hv
    · exact hv
    · cases hv
end Go.Proofs.YtablacloabpjfabGreatDoor

/-! CONTRACTS of Cols, heapOf, exprOf. CONDITIONS: each theorem's own hypotheses. -/
namespace Go.Proofs.YtablacloabpjfabGreatDoor
open Go.RowKit
set_option linter.unusedVariables false
set_option maxRecDepth 100000
theorem Blk.fourH {w : World} {b : Nat} {T : TypeId} {v0 v1 v2 v3 : Value} (h : Blk w b T [v0, v1, v2, v3]) : w.cell? ⟨b, 0, none⟩ = some v0 ∧ w.cell? ⟨b, 1, none⟩ = some v1 ∧ w.cell? ⟨b, 2, none⟩ = some v2 ∧ w.cell? ⟨b, 3, none⟩ = some v3 :=
  ⟨h.cell (j := 0) rfl, h.cell (j := 1) rfl, h.cell (j := 2) rfl, h.cell (j := 3) rfl⟩
theorem below_stepH {B : Nat} {a W w : World} (h : Below B a W) (hs : B ≤ W.heap.size) (hb : Below W.heap.size W w) : Below B a w := h.trans (hb.mono hs)
theorem OwnC.lit (w : World) : OwnC (w.alloc (.cells #[.string ⟨#[107]⟩, .int .i64 2, .bool false] 57)) w.heap.size (.slice (some ⟨w.heap.size, 0, none⟩) 1 1) (madeC []) := by
  have hz := Blk.new w #[.string ⟨#[107]⟩, .int .i64 2, .bool false] 57
  refine ⟨rfl, .inr ⟨w.heap.size, 1, _, rfl, Nat.le_refl _, hz, Nat.le_refl _, by unfold maxLen; omega, rfl, ?_⟩⟩
  show List.take _ [Value.string ⟨#[107]⟩, .int .i64 2, .bool false] = _
  rfl

/-! ### Cols -/
theorem cut_abc (j : Nat) (hj : j < 3) (w : World) : (Instr.slice 9 (.string ⟨#[97, 98, 99]⟩) (some (.int .i64 (j : Int))) (some (.int .i64 ((j : Int) + 1))) none).run Tryz.prog w = .ok (.string (str (nmC j))) w := by
  have := cut_str [97, 98, 99] j (j + 1) (j : Int) ((j : Int) + 1) rfl (by omega) (by omega) (by show j + 1 ≤ 3; omega) w
  rcases (show j = 0 ∨ j = 1 ∨ j = 2 by omega) with rfl | rfl | rfl <;> exact this
def ColF (w5 : World) (u : Value) (j gr : Nat) (rk ra : Int) : Nat → Value → World → Prop
  | 0, v, _ => v = u
  | 1, v, _ => v = .int .i64 (j : Int)
  | 2, v, _ => v = .int .i64 (j : Int)
  | 3, v, _ => v = .int .i64 ((j : Int) + 1)
  | 4, v, _ => v = .string (str (nmC j))
  | 5, v, _ => v = .pointer (some ⟨gr, 0, none⟩)
  | 6, v, _ => v = .int .i64 rk
  | 7, v, _ => v = .int .i64 (rk % 4)
  | 8, v, _ => v = .int .i64 (1 + rk % 4)
  | 9, v, _ => v = .pointer (some ⟨gr, 1, none⟩)
  | 10, v, _ => v = .int .i64 ra
  | 11, v, _ => v = .int .i64 (ra % 2)
  | 12, v, _ => v = .bool (ra % 2 == 0)
  | 13, v, _ => v = .agg #[.string (str (nmC j)), .int .i64 (1 + rk % 4), .bool (ra % 2 == 0)]
  | 14, v, w => ∃ W0 : World, w = W0.alloc (.cells #[.string (str (nmC j)), .int .i64 (1 + rk % 4), .bool (ra % 2 == 0)] 57) ∧ v = .slice (some ⟨W0.heap.size, 0, none⟩) 1 1 ∧ Below w5.heap.size w5 W0
  | _, _, _ => True
set_option maxHeartbeats 8000000 in
theorem Cols_some (l : List R) (a o cap : Nat) (w : World) (hf : ∀ r ∈ l, r.Fits) (hcap : l.length ≤ cap) (hc : l.length ≤ 9223372036854775807) (ha : a < w.heap.size) (hl : LiesR w a o l) :
    Calls Tryz.prog 51 #[.slice (some ⟨a, o, none⟩) l.length cap] w (ColsOk l.length w) := by
  unfold ColsOk
  have c36 := fun w => someH_any (some ⟨a, o, none⟩) l.length cap 3 3 rfl w hcap hc (by decide)
  obtain ⟨n, hn⟩ : ∃ n, l.length = n := ⟨_, rfl⟩
  rw [hn] at c36 hcap hc
  obtain ⟨q, hq⟩ : ∃ q, min n 3 = q := ⟨_, rfl⟩
  rw [hq] at c36
  have hq3 : q ≤ 3 := by omega
  rw [hn, hq]
  have HN := Lib.hid hn
  have HQ := Lib.hid hq
  have HF := Lib.hid hf
  have HL := Lib.hid hl
  clear hn hq hf hl
  have zk := Blk.new w #[.string ⟨#[107]⟩, .int .i64 2, .bool false] 57
  have hbk := (Below.refl w.heap.size w).alloc (Nat.le_refl _) (.cells #[.string ⟨#[107]⟩, .int .i64 2, .bool false] 57)
  have ho0 := OwnC.lit w
  obtain ⟨wk, hwk⟩ : ∃ wk, w.alloc (.cells #[.string ⟨#[107]⟩, .int .i64 2, .bool false] 57) = wk := ⟨_, rfl⟩
  rw [hwk] at hbk ho0
  have HWK := Lib.hid hwk
  have HO0 := Lib.hid ho0
  clear zk hwk ho0
  go_enter Tryz.func51, Tryz.ntmps51
  go_upto_region 2 with fail
  rw [HWK.out]
  clear HWK
  go_wp2_with fail
  refine (c36 _).mono ?_
  rintro e w1 ⟨rfl, rfl⟩
  clear c36
  go_wp2_with fail
  go_loopw [3, 11] (fun u i wr => ∃ (j : Nat) (ks : List (Int × Bool)), j ≤ q ∧ i = .int .i64 j ∧ ks.length = j ∧ Hid (∀ p ∈ ks, 1 ≤ p.1 ∧ p.1 ≤ 4) ∧ OwnC wr w.heap.size u (madeC ks) ∧ Below w.heap.size w wr) (fun _ i _ => q - (intOf i).toNat)
  case atStart => exact ⟨0, [], Nat.zero_le _, rfl, rfl, Lib.hid (by simp), HO0.out, hbk⟩
  case round =>
    obtain ⟨j, ks, hj, rfl, hvl, hg, ho, hbw⟩ := hrel
    by_cases h1 : j < q
    · have hlt : j < l.length := by have := HQ.out; have := HN.out; omega
      obtain ⟨r, hr⟩ : ∃ r, l[j]? = some r := ⟨l[j], List.getElem?_eq_getElem hlt⟩
      have hfit := HF.out r (List.mem_of_getElem? hr)
      obtain ⟨c0, c1, c2, c3⟩ := HL.out j r hr
      have d0 := (hbw.cell (p := ⟨a, o + j * 4, none⟩) ha).trans c0
      have d1 := (hbw.cell (p := ⟨a, o + j * 4 + 1, none⟩) ha).trans c1
      have d2 := (hbw.cell (p := ⟨a, o + j * 4 + 2, none⟩) ha).trans c2
      have d3 := (hbw.cell (p := ⟨a, o + j * 4 + 3, none⟩) ha).trans c3
      obtain ⟨rk, ra, rb, rs⟩ := r
      simp only at d0 d1 d2 d3
      have cK := fun W => picked_any rk 4 W (by decide) (by decide) hfit.k0 hfit.k1
      have cM := fun W => picked_any ra 2 W (by decide) (by decide) hfit.a0 hfit.a1
      have hk0 := Int.emod_nonneg rk (show (4 : Int) ≠ 0 by decide)
      have hk4 := Int.emod_lt_of_pos rk (show (0 : Int) < 4 by decide)
      have hw1 : IntKind.i64.wrap ((j : Int) + 1) = (j : Int) + 1 := by rw [IntKind.wrap_i64]; omega
      have hw2 : IntKind.i64.wrap (1 + rk % 4) = 1 + rk % 4 := by rw [IntKind.wrap_i64]; omega
      have hcut := fun W => cut_abc j (by omega) W
      have zr := Blk.new wr #[.int .i64 rk, .int .i64 ra, .int .i64 rb, .string rs] 54
      have hbr := (Below.refl wr.heap.size wr).alloc (Nat.le_refl _) (.cells #[.int .i64 rk, .int .i64 ra, .int .i64 rb, .string rs] 54)
      have hb5 := hbw.alloc hbw.size (.cells #[.int .i64 rk, .int .i64 ra, .int .i64 rb, .string rs] 54)
      have ho5 := OwnC.keep ho hbr
      have HV := Lib.hid hvl
      have HO5 := Lib.hid ho5
      clear c0 c1 c2 c3 hr hfit ho ho5 hvl hbr hlt
      go_upto_region 5 with fail
      generalize hw5 : wr.alloc (.cells #[.int .i64 rk, .int .i64 ra, .int .i64 rb, .string rs] 54) = w5 at *
      clear hw5 d0 d1 d2 d3 hbw
      generalize wr.heap.size = gr at *
      refine wp_region_chain 15 [14] (by kernel_rfl) (by kernel_rfl) (by kernel_rfl) (ColF w5 u3 j gr rk ra) (fun _ W => Below w5.heap.size w5 W) (fun _ _ _ => True) ?hF ?h0 ?hstep ?hcall ?hdone
      case hF =>
        intro s i hs j v W W' hjn hne hpb h he
        rcases s with _ | s
        rotate_left
        · simp at hs
        obtain rfl : 14 = i := by simpa using hs
        rcases (show j = 0 ∨ j = 1 ∨ j = 2 ∨ j = 3 ∨ j = 4 ∨ j = 5 ∨ j = 6 ∨ j = 7 ∨ j = 8 ∨ j = 9 ∨ j = 10 ∨ j = 11 ∨ j = 12 ∨ j = 13 ∨ j = 14 by omega) with rfl | rfl | rfl | rfl | rfl | rfl | rfl | rfl | rfl | rfl | rfl | rfl | rfl | rfl | rfl
        · exact h
        · exact h
        · exact h
        · exact h
        · exact h
        · exact h
        · exact h
        · exact h
        · exact h
        · exact h
        · exact h
        · exact h
        · exact h
        · exact h
        · exact absurd rfl hne
      case h0 => exact Below.drew (Below.refl _ _)
      case hstep =>
        intro j hj hni s vs act W K ha' hst hd hu hK
        simp only [fillF, Act.put, List.take_succ_cons, List.take_zero, List.setIfInBounds_toArray, List.set_cons_zero, List.set_cons_succ] at ha'
        subst ha'
        clear hu
        obtain ⟨p0, p1, p2, p3⟩ := Blk.fourH (zr.call hst)
        rcases (show j = 0 ∨ j = 1 ∨ j = 2 ∨ j = 3 ∨ j = 4 ∨ j = 5 ∨ j = 6 ∨ j = 7 ∨ j = 8 ∨ j = 9 ∨ j = 10 ∨ j = 11 ∨ j = 12 ∨ j = 13 ∨ j = 14 by omega) with rfl | rfl | rfl | rfl | rfl | rfl | rfl | rfl | rfl | rfl | rfl | rfl | rfl | rfl | rfl
        · refine wpOp_step rfl (fun K' hK' => ?_)
          go_simp
          exact hK' _ _ (hK _ rfl)
        · refine wpOp_step rfl (fun K' hK' => ?_)
          go_simp
          exact hK' _ _ (hK _ rfl)
        · refine wpOp_step rfl (fun K' hK' => ?_)
          go_simp
          exact hK' _ _ (hK _ rfl)
        · have e2 : vs 2 = .int .i64 (j : Int) := hd 2 (by kernel_rfl)
          simp only [e2] at hK ⊢
          refine wpOp_step rfl (fun K' hK' => ?_)
          go_simp
          exact hK' _ _ (hK _ rfl)
        · have e1 : vs 1 = .int .i64 (j : Int) := hd 1 (by kernel_rfl)
          have e3 : vs 3 = .int .i64 ((j : Int) + 1) := hd 3 (by kernel_rfl)
          simp only [e1, e3] at hK ⊢
          refine wpOp_step rfl (fun K' hK' => ?_)
          go_simp
          exact hK' _ _ (hK _ rfl)
        · refine wpOp_step rfl (fun K' hK' => ?_)
          go_simp
          exact hK' _ _ (hK _ rfl)
        · have e5 : vs 5 = .pointer (some ⟨gr, 0, none⟩) := hd 5 (by kernel_rfl)
          simp only [e5] at hK ⊢
          refine wpOp_step rfl (fun K' hK' => ?_)
          go_simp
          exact hK' _ _ (hK _ rfl)
        · have e6 : vs 6 = .int .i64 rk := hd 6 (by kernel_rfl)
          simp only [e6] at hK ⊢
          refine wpOp_step rfl (fun K' hK' => ?_)
          go_simp
          refine (cK W).mono ?_
          rintro e W' ⟨rfl, rfl⟩
          go_simp
          exact hK' _ _ (hK _ rfl)
        · have e7 : vs 7 = .int .i64 (rk % 4) := hd 7 (by kernel_rfl)
          simp only [e7] at hK ⊢
          refine wpOp_step rfl (fun K' hK' => ?_)
          go_simp
          exact hK' _ _ (hK _ rfl)
        · refine wpOp_step rfl (fun K' hK' => ?_)
          go_simp
          exact hK' _ _ (hK _ rfl)
        · have e9 : vs 9 = .pointer (some ⟨gr, 1, none⟩) := hd 9 (by kernel_rfl)
          simp only [e9] at hK ⊢
          refine wpOp_step rfl (fun K' hK' => ?_)
          go_simp
          exact hK' _ _ (hK _ rfl)
        · have e10 : vs 10 = .int .i64 ra := hd 10 (by kernel_rfl)
          simp only [e10] at hK ⊢
          refine wpOp_step rfl (fun K' hK' => ?_)
          go_simp
          refine (cM W).mono ?_
          rintro e W' ⟨rfl, rfl⟩
          go_simp
          exact hK' _ _ (hK _ rfl)
        · have e11 : vs 11 = .int .i64 (ra % 2) := hd 11 (by kernel_rfl)
          simp only [e11] at hK ⊢
          refine wpOp_step rfl (fun K' hK' => ?_)
          go_simp
          exact hK' _ _ (hK _ rfl)
        · have e4 : vs 4 = .string (str (nmC j)) := hd 4 (by kernel_rfl)
          have e8 : vs 8 = .int .i64 (1 + rk % 4) := hd 8 (by kernel_rfl)
          have e12 : vs 12 = .bool (ra % 2 == 0) := hd 12 (by kernel_rfl)
          simp only [e4, e8, e12] at hK ⊢
          refine wpOp_step rfl (fun K' hK' => ?_)
          go_simp
          exact hK' _ _ (hK _ rfl)
        · exact (hni (by decide)).elim
      case hcall =>
        intro s j hs vs act W K ha' hst hd hK
        simp only [fillF, Act.put, List.take_succ_cons, List.take_zero, List.setIfInBounds_toArray, List.set_cons_zero, List.set_cons_succ] at ha'
        subst ha'
        rcases s with _ | s
        · obtain rfl : 14 = j := by simpa using hs
          have e13 : vs 13 = .agg #[.string (str (nmC j)), .int .i64 (1 + rk % 4), .bool (ra % 2 == 0)] := hd 13 (by kernel_rfl)
          simp only [e13] at hK ⊢
          refine wpOp_step rfl (fun K' hK' => ?_)
          go_simp
          exact hK' _ _ (hK _ _ ⟨W, rfl, rfl, hst⟩ trivial (hst.alloc hst.size _))
        · simp at hs
      intro vs act W ha' hst hf
      simp only [fillF, Act.put, List.take_succ_cons, List.take_zero, List.drop_succ_cons, List.drop_zero, List.setIfInBounds_toArray, List.set_cons_zero, List.set_cons_succ] at ha' ⊢
      subst ha'
      have e0 : vs 0 = u3 := hf 0 (by decide)
      obtain ⟨W0, rfl, f14, g14⟩ := hf 14 (by decide)
      have hob := OwnC.keep HO5.out g14
      have hbb := Nat.le_trans hb5.size g14.size
      have hb0 := below_stepH hb5 hb5.size g14
      simp only [e0, f14]
      clear hf hcut cK cM hst hb5 zr e0 f14
      generalize vs 1 = x1
      generalize vs 2 = x2
      generalize vs 3 = x3
      generalize vs 4 = x4
      generalize vs 5 = x5
      generalize vs 6 = x6
      generalize vs 7 = x7
      generalize vs 8 = x8
      generalize vs 9 = x9
      generalize vs 10 = x10
      generalize vs 11 = x11
      generalize vs 12 = x12
      generalize vs 13 = x13
      have hl6 : (madeC ks).length ≤ 1000000 := by rw [madeC_length, HV.out]; omega
      refine wpList_append_colC rfl (.tmp 16) (.tmp 30) rfl w.heap.size u3 (madeC ks) rfl hob ⟨nmC j, 1 + rk % 4, ra % 2 == 0⟩ _ rfl _ _ rfl rfl W0.heap.size rfl rfl hl6 hbb ?_
      intro v1 w2 ho2 hb2
      go_wp2_with fail
      go_roundw
      case rel => exact ⟨j + 1, ks ++ [(1 + rk % 4, ra % 2 == 0)], by omega, by go_num, by simp [HV.out], Lib.hid (fun p hp => by
          rcases List.mem_append.1 hp with hp | hp
          · exact hg.out p hp
          · rw [List.mem_singleton] at hp; subst hp; exact ⟨by show 1 ≤ 1 + rk % 4; omega, by show 1 + rk % 4 ≤ 4; omega⟩), by rw [madeC_snoc, HV.out]; exact ho2, hb0.trans hb2⟩
      case measure => simp [intOf]; omega
    · have hjm : j = q := by omega
      have HJ := Lib.hid hjm
      clear hjm
      go_wp2_with fail
      go_ret
      exact ⟨_, ks, rfl, ho, by rw [hvl, HJ.out], hg, hbw⟩
theorem Cols_nil (ao : Option Addr) (cap : Nat) (w : World) : Calls Tryz.prog 51 #[.slice ao 0 cap] w (ColsOk 0 w) := by
  unfold ColsOk
  have c36 := fun w => someH_any ao 0 cap 3 3 rfl w (Nat.zero_le _) (by decide) (by decide)
  rw [Nat.zero_min] at c36
  have hbk := (Below.refl w.heap.size w).alloc (Nat.le_refl _) (.cells #[.string ⟨#[107]⟩, .int .i64 2, .bool false] 57)
  have ho0 := OwnC.lit w
  obtain ⟨wk, hwk⟩ : ∃ wk, w.alloc (.cells #[.string ⟨#[107]⟩, .int .i64 2, .bool false] 57) = wk := ⟨_, rfl⟩
  rw [hwk] at hbk ho0
  have HWK := Lib.hid hwk
  have HO0 := Lib.hid ho0
  clear hwk ho0
  go_enter Tryz.func51, Tryz.ntmps51
  go_upto_region 2 with fail
  rw [HWK.out]
  clear HWK
  go_wp2_with fail
  refine (c36 _).mono ?_
  rintro e w1 ⟨rfl, rfl⟩
  clear c36
  go_wp2_with fail
  refine wp_loop_rounds 1 ?_
  rw [rounds_succ]
  go_wp2
  go_ret
  exact ⟨_, [], rfl, HO0.out, rfl, Lib.hid (by simp), hbk⟩
theorem Cols_any (l : List R) (ao : Option Addr) (cap : Nat) (w : World) (h : Raws w ao l) (hcap : l.length ≤ cap) (hc : l.length ≤ 9223372036854775807) :
    Calls Tryz.prog 51 #[.slice ao l.length cap] w (ColsOk l.length w) := by
  rcases h.2 with rfl | ⟨a, o, rfl, ha, hl⟩
  · exact Cols_nil ao cap w
  · exact Cols_some l a o cap w h.1 hcap hc ha hl
/-! ### heapOf -/
theorem hd_new (w : World) (o : Obj) : Below w.heap.size w (hd w.heap.size (w.alloc o)) := by
  refine ⟨rfl, rfl, rfl, by rw [hd_size]; simp, fun k hk => ?_⟩
  rw [hd_at _ _ k (by omega)]
  exact Below.heap_alloc w o k hk
theorem madeC_one (ks : List (Int × Bool)) : ∀ c ∈ madeC ks, c.n.length = 1 := by
  have hnm : ∀ i, (nmC i).length = 1 := fun i => by unfold nmC; split; rfl; split <;> rfl
  have go : ∀ (r : List (Int × Bool)) (i : Nat), ∀ c ∈ tailC i r, c.n.length = 1 := by
    intro r
    induction r with
    | nil => intro i c hc; cases hc
    | cons p r ih =>
      obtain ⟨k, b⟩ := p
      intro i c hc
      simp only [tailC] at hc
      rcases List.mem_cons.1 hc with rfl | hm
      · exact hnm i
      · exact ih (i + 1) c hm
  intro c hc
  unfold madeC at hc
  rcases List.mem_cons.1 hc with rfl | hm
  · rfl
  · exact go ks 0 c hm
def HeapOk (ao : Option Addr) (l : List R) (w : World) (e : Ending) (w' : World) : Prop := ∃ (S : HpS) (H : Nat), e = .returned (.pointer (some ⟨H, 0, none⟩)) ∧ Hid (HpAt S H w' 0) ∧ Hid (HpK S) ∧ Hid (∀ c ∈ S.cs, c.n.length = 1) ∧ Hid (1 ≤ S.cs.length ∧ S.cs.length ≤ S.capc ∧ S.capc ≤ 9223372036854775807) ∧ Hid ((S.aol = ao ∧ (l = [] → S.l = [])) ∧ ∀ a, S.aoc = some a → w.heap.size ≤ a.block) ∧ w.heap.size ≤ H ∧ Below w.heap.size w w'
set_option maxHeartbeats 4000000 in
theorem heapOf_any (l : List R) (ao : Option Addr) (cap : Nat) (w : World) (h : Raws w ao l) (hcap : l.length ≤ cap) (hc : l.length ≤ 9223372036854775807) :
    Calls Tryz.prog 31 #[.slice ao l.length cap] w (HeapOk ao l w) := by
  unfold HeapOk
  obtain ⟨n, hn⟩ : ∃ n, l.length = n := ⟨_, rfl⟩
  have c1 := fun W => someH_any ao n cap 40 40 rfl W (by omega) (by omega) (by decide)
  have c2 := fun W => picked_any (n : Int) 4 W (by decide) (by decide) (by omega) (by omega)
  have c3 := fun W => someH_any ao n cap (n % 4) ((n : Int) % 4) (by omega) W (by omega) (by omega) (by omega)
  have hl4 : (l.take (min n (n % 4))).length = min n (n % 4) := by rw [List.length_take]; omega
  have hl40 : (l.take (min n 40)).length = min n 40 := by rw [List.length_take]; omega
  have c4 := Cols_any (l.take (min n (n % 4))) ao cap w (h.take _) (by omega) (by omega)
  rw [hl4] at c4
  unfold ColsOk at c4
  have HR := Lib.hid (h.take (min n 40))
  have hm40 : min n 40 ≤ 40 := by omega
  rw [hn]
  have H40 := Lib.hid (And.intro hl40 hm40)
  clear h hcap hc hn hl4 hl40 hm40
  generalize hq4 : min n (n % 4) = q at *
  generalize hq40 : min n 40 = p at *
  clear hq4 hq40
  generalize (n : Int) % 4 = m4 at *
  go_enter Tryz.func31, Tryz.ntmps31
  go_wp2_with fail
  refine (c1 _).mono ?_
  rintro e w1 ⟨rfl, rfl⟩
  clear c1
  go_wp2_with fail
  refine (c2 _).mono ?_
  rintro e w1 ⟨rfl, rfl⟩
  clear c2
  go_wp2_with fail
  refine (c3 _).mono ?_
  rintro e w1 ⟨rfl, rfl⟩
  clear c3
  go_wp2_with fail
  refine c4.mono ?_
  rintro e w2 ⟨v, ks, rfl, ho, hk, hk4, hb2⟩
  obtain ⟨aoc, capc, rfl, hlc, hcc, hcols, hcb⟩ := OwnC.cols ho (fun c hc => (madeC_fit ks hk4.out c hc).1)
  have hk3 : ks.length ≤ 3 := by omega
  have HC := Lib.hid hcols
  have HLC := Lib.hid (And.intro (show 1 ≤ (madeC ks).length by rw [madeC_length]; omega) (And.intro hlc hcc))
  have HK3 := Lib.hid hk3
  have HCB := Lib.hid hcb
  clear ho hcols hlc hcc hk hk3 hcb c4
  go_wp2_with fail
  go_ret
  obtain ⟨e40, h40⟩ := H40.out
  have hz := Blk.new w2 #[.slice ao (l.take p).length cap, .int .i64 ((0 : Nat) : Int), .slice aoc (madeC ks).length capc] 65
  have hnew := hd_new w2 (.cells #[.slice ao p cap, .int .i64 0, .slice aoc (madeC ks).length capc] 65)
  rw [e40] at hz
  refine ⟨⟨ao, cap, l.take p, aoc, capc, madeC ks⟩, w2.heap.size, rfl, Lib.hid ⟨?_, (HR.out.keep hb2).keep hnew, HC.out.keep hnew⟩, Lib.hid ⟨by show (l.take p).length ≤ 40; omega, by show (madeC ks).length ≤ 4; rw [madeC_length]; have := HK3.out; omega, madeC_ok ks HK3.out hk4.out, fun c hc => by
    have e : some (⟨[107], 2, false⟩ : Cl) = some c := hc
    simp only [Option.some.injEq] at e
    rw [← e]⟩, Lib.hid (madeC_one ks), HLC, Lib.hid ⟨⟨rfl, fun h => by show l.take p = []; rw [h]; simp⟩, HCB.out⟩, hb2.size, hb2.alloc hb2.size _⟩
  show Blk _ _ _ [.slice ao (l.take p).length cap, _, _]
  rw [e40]
  exact hz
end Go.Proofs.YtablacloabpjfabGreatDoor

/-! CONTRACT of exprOf: the expression of a kind that raw things make, with its columns and its heap. CONDITIONS: each theorem's own hypotheses. -/
namespace Go.Proofs.YtablacloabpjfabGreatDoor
open Go.RowKit
set_option linter.unusedVariables false
set_option maxRecDepth 100000

theorem cell_setO (W : World) (p q : Addr) (v : Value) (h : q.block ≠ p.block) : (W.setCell p v).cell? q = W.cell? q := by
  unfold World.cell?
  rw [Below.heap_setCell W p v q.block (fun e => h (by first | exact e | exact e.symm))]
theorem Raws.setO {W : World} {ao : Option Addr} {l : List R} (h : Raws W ao l) (p : Addr) (v : Value) (hp : ∀ a, ao = some a → l = [] ∨ a.block ≠ p.block) : Raws (W.setCell p v) ao l := by
  refine ⟨h.1, ?_⟩
  rcases h.2 with h | ⟨a, o, rfl, h2, h3⟩
  · exact .inl h
  · rcases hp _ rfl with hl | hne
    · exact .inl hl
    · refine .inr ⟨a, o, rfl, by simpa [World.setCell] using h2, fun j u hu => ?_⟩
      have hne' : a ≠ p.block := hne
      obtain ⟨c0, c1, c2, c3⟩ := h3 j u hu
      exact ⟨(cell_setO W p _ v hne').trans c0, (cell_setO W p _ v hne').trans c1, (cell_setO W p _ v hne').trans c2, (cell_setO W p _ v hne').trans c3⟩
theorem Cols.setO {W : World} {ao : Option Addr} {l : List Cl} (h : Cols W ao l) (p : Addr) (v : Value) (hp : ∀ a, ao = some a → a.block ≠ p.block) : Cols (W.setCell p v) ao l := by
  refine ⟨h.1, ?_⟩
  rcases h.2 with h | ⟨a, o, rfl, h2, h3⟩
  · exact .inl h
  · have hne' : a ≠ p.block := hp _ rfl
    refine .inr ⟨a, o, rfl, by simpa [World.setCell] using h2, fun j u hu => ?_⟩
    obtain ⟨c0, c1, c2⟩ := h3 j u hu
    exact ⟨(cell_setO W p _ v hne').trans c0, (cell_setO W p _ v hne').trans c1, (cell_setO W p _ v hne').trans c2⟩
theorem HpAt.low {S : HpS} {H n : Nat} {W : World} (h : HpAt S H W n) (p : Addr) (v : Value) (hH : p.block ≠ H) (hr : ∀ a, S.aol = some a → S.l = [] ∨ a.block ≠ p.block) (hc : ∀ a, S.aoc = some a → a.block ≠ p.block) : HpAt S H (W.setCell p v) n := by
  obtain ⟨h1, h2, h3⟩ := h
  refine ⟨h1.other p v (fun e => hH (by first | exact e | exact e.symm)), ?_, ?_⟩
  · rw [hd_other H W p v hH]; exact h2.setO p v hr
  · rw [hd_other H W p v hH]; exact h3.setO p v hc
theorem HpAt.low7 {S : HpS} {H n g : Nat} {W : World} {a0 a1 a2 a3 a4 a5 a6 : Value} (h : HpAt S H W n) (hH : g ≠ H) (hr : ∀ a, S.aol = some a → S.l = [] ∨ a.block ≠ g) (hc : ∀ a, S.aoc = some a → a.block ≠ g) : HpAt S H (((((((W.setCell ⟨g, 0, none⟩ a0).setCell ⟨g, 1, none⟩ a1).setCell ⟨g, 2, none⟩ a2).setCell ⟨g, 3, none⟩ a3).setCell ⟨g, 4, none⟩ a4).setCell ⟨g, 5, none⟩ a5).setCell ⟨g, 6, none⟩ a6) n :=
  ((((((h.low ⟨g, 0, none⟩ a0 hH hr hc).low ⟨g, 1, none⟩ a1 hH hr hc).low ⟨g, 2, none⟩ a2 hH hr hc).low ⟨g, 3, none⟩ a3 hH hr hc).low ⟨g, 4, none⟩ a4 hH hr hc).low ⟨g, 5, none⟩ a5 hH hr hc).low ⟨g, 6, none⟩ a6 hH hr hc
theorem HpAt.drew {S : HpS} {H n : Nat} {W : World} (h : HpAt S H W n) : HpAt S H W.drew n := h.far (HB.drew (HB.refl _ _)) rfl
theorem below_hb {H : Nat} {w wA W : World} (h : Below w.heap.size w wA) (hH : w.heap.size ≤ H) (k : HB H wA W) : Below w.heap.size w W :=
  ⟨(show (hd H W).os = (hd H wA).os from Below.os k).trans h.os, (show (hd H W).tape = (hd H wA).tape from Below.tape k).trans h.tape, (show (hd H W).output = (hd H wA).output from Below.output k).trans h.output, Nat.le_trans h.size k.size, fun q hq => (k.old q (Nat.lt_of_lt_of_le hq h.size) (by omega)).trans (h.block q hq)⟩
theorem results_exprof {fn : Func} {t a b : Tmp} (h : fn.results = #[.cell t 27, .tmp a, .tmp b]) (tmps : Array Value) (w : World) (g : Nat) (x0 x1 x2 x3 x4 x5 x6 : Value) (hp : tmps.getD t undef = .pointer (some ⟨g, 0, none⟩)) (hB : Blk w g 27 [x0, x1, x2, x3, x4, x5, x6]) :
    (results fn tmps).run Tryz.prog w = .ok (.tuple #[.agg #[x0, x1, x2, x3, x4, x5, x6], tmps.getD a undef, tmps.getD b undef]) w := by
  have c0 := hB.cell (j := 0) rfl
  have c1 := hB.cell (j := 1) rfl
  have c2 := hB.cell (j := 2) rfl
  have c3 := hB.cell (j := 3) rfl
  have c4 := hB.cell (j := 4) rfl
  have c5 := hB.cell (j := 5) rfl
  have c6 := hB.cell (j := 6) rfl
  have hp' : tmps[t]?.getD undef = .pointer (some ⟨g, 0, none⟩) := by simpa using hp
  simp [results, h, hp', go_sem, c0, c1, c2, c3, c4, c5, c6]
def ExSt (S : HpS) (H gE : Nat) (w wA : World) (s : Nat) (W : World) : Prop := (∃ m, m ≤ 100 * s ∧ HpAt S H W m) ∧ Below w.heap.size w W ∧ (s ≤ 1 → HB H wA W)
def ExE (g : Nat) (s : Nat) (W W' : World) : Prop := s = 1 → ∃ a0 a1 a2 a3 a4 a5 a6, W' = (((((((W.setCell ⟨g, 0, none⟩ a0).setCell ⟨g, 1, none⟩ a1).setCell ⟨g, 2, none⟩ a2).setCell ⟨g, 3, none⟩ a3).setCell ⟨g, 4, none⟩ a4).setCell ⟨g, 5, none⟩ a5).setCell ⟨g, 6, none⟩ a6)
def ExF (S : HpS) (H gE b : Nat) (kd : Int) : Nat → Value → World → Prop
  | 0, v, _ => v = .pointer (some ⟨H, 0, none⟩)
  | 1, v, _ => v = .int .i64 kd
  | 2, v, _ => v = .int .i64 (kd % 4)
  | 3, v, _ => v = .int .i64 (1 + kd % 4)
  | 4, v, w => ∃ t ao cap, v = exprV t ao cap ∧ Hid (Ty S.cs 4 (1 + kd % 4) t) ∧ Hid (XTb b w t ao cap)
  | 5, v, _ => v = .pointer (some ⟨H, 0, none⟩)
  | 6, v, _ => v = .pointer (some ⟨H, 0, none⟩)
  | 7, v, _ => v = .pointer (some ⟨H, 2, none⟩)
  | 8, v, _ => v = .slice S.aoc S.cs.length S.capc
  | 9, v, _ => v = .pointer (some ⟨H, 0, none⟩)
  | 10, v, w => ∃ t ao cap, Blk w gE 27 (xcells t ao cap) ∧ Hid (Ty S.cs 4 (1 + kd % 4) t) ∧ Hid (XTb b w t ao cap)
  | 11, v, _ => v = .slice S.aoc S.cs.length S.capc
  | _, _, _ => True
/-- What exprOf hands back. -/
def ExprOfOk (kd : Int) (w : World) (e : Ending) (w' : World) : Prop := ∃ (S : HpS) (H m : Nat) (t : T) (ao : Option Addr) (cap : Nat), e = .returned (.tuple #[exprV t ao cap, .slice S.aoc S.cs.length S.capc, .pointer (some ⟨H, 0, none⟩)]) ∧ Hid (Ty S.cs 4 (1 + kd % 4) t) ∧ Hid (XTb (H + 1) w' t ao cap) ∧ Hid (HpAt S H w' m ∧ m ≤ 1000) ∧ Hid (HpK S) ∧ Hid (∀ c ∈ S.cs, c.n.length = 1) ∧ Hid (1 ≤ S.cs.length ∧ S.cs.length ≤ S.capc ∧ S.capc ≤ 9223372036854775807) ∧ w.heap.size ≤ H ∧ Below w.heap.size w w'
set_option maxHeartbeats 8000000 in
theorem exprOf_any (l : List R) (ao : Option Addr) (cap : Nat) (kd : Int) (w : World) (h : Raws w ao l) (hcap : l.length ≤ cap) (hc : l.length ≤ 9223372036854775807) (hk0 : -9223372036854775808 ≤ kd) (hk1 : kd ≤ 9223372036854775807) :
    Calls Tryz.prog 17 #[.slice ao l.length cap, .int .i64 kd] w (ExprOfOk kd w) := by
  have cK := fun W => picked_any kd 4 W (by decide) (by decide) hk0 hk1
  have hp0 := Int.emod_nonneg kd (show (4 : Int) ≠ 0 by decide)
  have hp1 := Int.emod_lt_of_pos kd (show (0 : Int) < 4 by decide)
  have hw1 : IntKind.i64.wrap (1 + kd % 4) = 1 + kd % 4 := by rw [IntKind.wrap_i64]; omega
  have hkr : 1 ≤ 1 + kd % 4 ∧ 1 + kd % 4 ≤ 4 := by omega
  obtain ⟨n, hn⟩ : ∃ n, l.length = n := ⟨_, rfl⟩
  have hz0 := Blk.new w #[.int .i64 0, .int .i64 0, .int .i64 0, .int .u64 0, .string ⟨#[]⟩, .string ⟨#[]⟩, .slice none 0 0] 27
  have hb0 := (Below.refl w.heap.size w).alloc (Nat.le_refl _) (.cells #[.int .i64 0, .int .i64 0, .int .i64 0, .int .u64 0, .string ⟨#[]⟩, .string ⟨#[]⟩, .slice none 0 0] 27)
  obtain ⟨w1, hw⟩ : ∃ w1, w.alloc (.cells #[.int .i64 0, .int .i64 0, .int .i64 0, .int .u64 0, .string ⟨#[]⟩, .string ⟨#[]⟩, .slice none 0 0] 27) = w1 := ⟨_, rfl⟩
  have hs1 : w1.heap.size = w.heap.size + 1 := by rw [← hw]; simp
  rw [hw] at hz0 hb0
  have cH := heapOf_any l ao cap w1 (h.keep hb0) hcap hc
  rw [hn] at cH
  unfold HeapOk at cH
  have hra : ∀ a, ao = some a → l = [] ∨ a.block < w.heap.size := fun a ha => by
    rcases h.2 with h | ⟨a0, o0, e, h, _⟩
    · exact .inl h
    · rw [e] at ha; cases ha; exact .inr h
  have HRA := Lib.hid hra
  have HW := Lib.hid hw
  have HS1 := Lib.hid hs1
  have HK := Lib.hid (And.intro hk0 hk1)
  have HKR := Lib.hid hkr
  rw [hn]
  clear hra h hcap hc hw hs1 hn hk0 hk1 hkr
  go_enter Tryz.func17, Tryz.ntmps17
  go_upto_region 1 with fail
  rw [HW.out]
  clear HW
  obtain ⟨gE, hgE⟩ : ∃ gE, w.heap.size = gE := ⟨_, rfl⟩
  rw [hgE]
  go_wp2_with fail
  refine cH.mono ?_
  rintro e wA ⟨S, H, rfl, HA, HS, HNM, HCP, HBL, hH, hbA⟩
  have hA := HA.out
  have HLT := Lib.hid (show H + 1 ≤ wA.heap.size from hA.lt)
  have hS := HS.out
  have hwA := below_stepH hb0 hb0.size hbA
  have hzE : Blk wA gE 27 [.int .i64 0, .int .i64 0, .int .i64 0, .int .u64 0, .string ⟨#[]⟩, .string ⟨#[]⟩, .slice none 0 0] := by have := hz0.call hbA; rw [hgE] at this; exact this
  have hgb : gE < wA.heap.size := hzE.lt
  have hgw : w.heap.size ≤ gE := by omega
  have hne0 : gE ≠ H := by have := HS1.out; omega
  have hwH : w.heap.size ≤ H := by have := HS1.out; omega
  have hgr : ∀ a, S.aol = some a → S.l = [] ∨ a.block ≠ gE := fun a ha => by
    obtain ⟨⟨e1, e2⟩, _⟩ := HBL.out
    rw [e1] at ha
    rcases HRA.out a ha with h | h
    · exact .inl (e2 h)
    · exact .inr (by omega)
  have hgc : ∀ a, S.aoc = some a → a.block ≠ gE := fun a ha => by have := HBL.out.2 a ha; have := HS1.out; omega
  have cE : ∀ W, HpAt S H W 0 → Calls Tryz.prog 32 #[.pointer (some ⟨H, 0, none⟩), .int .i64 (1 + kd % 4), .int .i64 4] W (ExprPost S H (1 + kd % 4) 4 0 W) := fun W hW => ex_any S H hS (fun c hc => by have := HNM.out c hc; omega) 4 (by decide) (1 + kd % 4) 0 W HKR.out hW (by decide)
  unfold ExprPost at cE
  clear cH hz0 hb0 hbA
  go_upto_region 2 with fail
  refine wp_region_chain 12 [4, 10] (by kernel_rfl) (by kernel_rfl) (by kernel_rfl) (ExF S H gE wA.heap.size kd) (ExSt S H gE w wA) (ExE gE) ?hF ?h0 ?hstep ?hcall ?hdone
  case hF =>
    intro s i hs j v W W' hjn hne hpb h he
    rcases (show j = 0 ∨ j = 1 ∨ j = 2 ∨ j = 3 ∨ j = 4 ∨ j = 5 ∨ j = 6 ∨ j = 7 ∨ j = 8 ∨ j = 9 ∨ j = 10 ∨ j = 11 by omega) with rfl | rfl | rfl | rfl | rfl | rfl | rfl | rfl | rfl | rfl | rfl | rfl
    · exact h
    · exact h
    · exact h
    · exact h
    · rcases s with _ | _ | s
      · obtain rfl : 4 = i := by simpa using hs
        exact absurd rfl hne
      · obtain ⟨t, ao, cap, h1, h2, h3⟩ := h
        obtain ⟨b0, b1, b2, b3, b4, b5, b6, rfl⟩ := he rfl
        exact ⟨t, ao, cap, h1, h2, Lib.hid (((((((h3.out.set ⟨gE, 0, none⟩ b0 hgb).set ⟨gE, 1, none⟩ b1 hgb).set ⟨gE, 2, none⟩ b2 hgb).set ⟨gE, 3, none⟩ b3 hgb).set ⟨gE, 4, none⟩ b4 hgb).set ⟨gE, 5, none⟩ b5 hgb).set ⟨gE, 6, none⟩ b6 hgb)⟩
      · simp at hs
    · exact h
    · exact h
    · exact h
    · exact h
    · exact h
    · rcases s with _ | _ | s
      · obtain rfl : 4 = i := by simpa using hs
        exact Bool.noConfusion (hpb.symm.trans (by kernel_rfl : pathB _ 4 10 4 = true))
      · obtain rfl : 10 = i := by simpa using hs
        exact absurd rfl hne
      · simp at hs
    · exact h
  case h0 => exact ⟨⟨0, Nat.zero_le _, hA.drew⟩, Below.drew hwA, fun _ => HB.drew (HB.refl _ _)⟩
  case hstep =>
    intro j hj hni s vs act W K ha' hst hd hu hK
    simp only [fillF, Act.put, List.take_succ_cons, List.take_zero, List.setIfInBounds_toArray, List.set_cons_zero, List.set_cons_succ] at ha'
    subst ha'
    clear hu
    obtain ⟨⟨m0, hm0, hA0⟩, hbl, hhb⟩ := hst
    obtain ⟨⟨p0, p1, p2⟩, _⟩ := hA0.1.three
    rcases (show j = 0 ∨ j = 1 ∨ j = 2 ∨ j = 3 ∨ j = 4 ∨ j = 5 ∨ j = 6 ∨ j = 7 ∨ j = 8 ∨ j = 9 ∨ j = 10 ∨ j = 11 by omega) with rfl | rfl | rfl | rfl | rfl | rfl | rfl | rfl | rfl | rfl | rfl | rfl
    · refine wpOp_step rfl (fun K' hK' => ?_)
      go_simp
      exact hK' _ _ (hK _ rfl)
    · refine wpOp_step rfl (fun K' hK' => ?_)
      go_simp
      exact hK' _ _ (hK _ rfl)
    · have e1 : vs 1 = .int .i64 kd := hd 1 (by kernel_rfl)
      simp only [e1] at hK ⊢
      refine wpOp_step rfl (fun K' hK' => ?_)
      go_simp
      refine (cK W).mono ?_
      rintro e W' ⟨rfl, rfl⟩
      go_simp
      exact hK' _ _ (hK _ rfl)
    · have e2 : vs 2 = .int .i64 (kd % 4) := hd 2 (by kernel_rfl)
      simp only [e2] at hK ⊢
      refine wpOp_step rfl (fun K' hK' => ?_)
      go_simp
      exact hK' _ _ (hK _ rfl)
    · exact (hni (by decide)).elim
    · refine wpOp_step rfl (fun K' hK' => ?_)
      go_simp
      exact hK' _ _ (hK _ rfl)
    · have e5 : vs 5 = .pointer (some ⟨H, 0, none⟩) := hd 5 (by kernel_rfl)
      simp only [e5] at hK ⊢
      refine wpOp_step rfl (fun K' hK' => ?_)
      go_simp
      exact hK' _ _ (hK _ rfl)
    · have e6 : vs 6 = .pointer (some ⟨H, 0, none⟩) := hd 6 (by kernel_rfl)
      simp only [e6] at hK ⊢
      refine wpOp_step rfl (fun K' hK' => ?_)
      go_simp
      exact hK' _ _ (hK _ rfl)
    · have e7 : vs 7 = .pointer (some ⟨H, 2, none⟩) := hd 7 (by kernel_rfl)
      simp only [e7] at hK ⊢
      refine wpOp_step rfl (fun K' hK' => ?_)
      go_simp
      exact hK' _ _ (hK _ rfl)
    · refine wpOp_step rfl (fun K' hK' => ?_)
      go_simp
      exact hK' _ _ (hK _ rfl)
    · exact (hni (by decide)).elim
    · have e8 : vs 8 = .slice S.aoc S.cs.length S.capc := hd 8 (by kernel_rfl)
      simp only [e8] at hK ⊢
      refine wpOp_step rfl (fun K' hK' => ?_)
      go_simp
      exact hK' _ _ (hK _ rfl)
  case hcall =>
    intro s j hs vs act W K ha' hst hd hK
    simp only [fillF, Act.put, List.take_succ_cons, List.take_zero, List.setIfInBounds_toArray, List.set_cons_zero, List.set_cons_succ] at ha'
    subst ha'
    rcases s with _ | _ | s
    · obtain rfl : 4 = j := by simpa using hs
      have e0 : vs 0 = .pointer (some ⟨H, 0, none⟩) := hd 0 (by kernel_rfl)
      have e3 : vs 3 = .int .i64 (1 + kd % 4) := hd 3 (by kernel_rfl)
      simp only [e0, e3] at hK ⊢
      obtain ⟨⟨m, hm, hA1⟩, hbl, hhb⟩ := hst
      obtain rfl : m = 0 := by omega
      have hh := hhb (by decide)
      have hsz := hh.size
      refine wpOp_step rfl (fun K' hK' => ?_)
      go_simp
      refine (cE W hA1).mono ?_
      rintro e W' ⟨t, ao, cap, m', rfl, hT, hX, hA', hm', hb'⟩
      go_simp
      exact hK' _ _ (hK _ _ ⟨t, ao, cap, rfl, hT, Lib.hid (hX.out.mono hsz)⟩ (fun h => absurd h (by decide)) ⟨⟨m', by omega, hA'.out⟩, below_hb hwA hwH (hh.trans hb'), fun _ => hh.trans hb'⟩)
    · obtain rfl : 10 = j := by simpa using hs
      obtain ⟨t4, a4, c4, e4, y4, x4⟩ := hd 4 (by kernel_rfl)
      simp only [e4] at hK ⊢
      obtain ⟨⟨m, hm, hA1⟩, hbl, hhb⟩ := hst
      have zE := hzE.hb (hhb (by decide)) hne0
      refine wpOp_step rfl (fun K' hK' => ?_)
      rw [exprV_cells] at hK ⊢
      have r0 := zE.cell (j := 0) rfl
      have r1 := zE.cell (j := 1) rfl
      have r2 := zE.cell (j := 2) rfl
      have r3 := zE.cell (j := 3) rfl
      have r4 := zE.cell (j := 4) rfl
      have r5 := zE.cell (j := 5) rfl
      have r6 := zE.cell (j := 6) rfl
      have f0 := zE.free 0
      have f1 := zE.free 1
      have f2 := zE.free 2
      have f3 := zE.free 3
      have f4 := zE.free 4
      have f5 := zE.free 5
      have f6 := zE.free 6
      have HD := Lib.hid (fun a0 a1 a2 a3 a4 a5 a6 => hA1.low7 (a0 := a0) (a1 := a1) (a2 := a2) (a3 := a3) (a4 := a4) (a5 := a5) (a6 := a6) hne0 hgr hgc)
      have HZ := Lib.hid zE
      have HX4 := Lib.hid (fun b0 b1 b2 b3 b4 b5 b6 => ((((((x4.out.set ⟨gE, 0, none⟩ b0 hgb).set ⟨gE, 1, none⟩ b1 hgb).set ⟨gE, 2, none⟩ b2 hgb).set ⟨gE, 3, none⟩ b3 hgb).set ⟨gE, 4, none⟩ b4 hgb).set ⟨gE, 5, none⟩ b5 hgb).set ⟨gE, 6, none⟩ b6 hgb)
      clear zE hA1
      go_simp
      exact hK' _ _ (hK undef _ ⟨t4, a4, c4, HZ.out.set7, y4, Lib.hid (HX4.out _ _ _ _ _ _ _)⟩ (fun _ => ⟨_, _, _, _, _, _, _, rfl⟩) ⟨⟨m, by omega, HD.out _ _ _ _ _ _ _⟩, below_set7 hbl hgw, fun h => absurd h (by decide)⟩)
    · simp at hs
  intro vs act W ha' hst hf
  simp only [fillF, Act.put, List.take_succ_cons, List.take_zero, List.drop_succ_cons, List.drop_zero, List.setIfInBounds_toArray, List.set_cons_zero, List.set_cons_succ] at ha' ⊢
  subst ha'
  obtain ⟨t, at9, ct9, zT, hT, hX⟩ := hf 10 (by decide)
  have e9 : vs 9 = .pointer (some ⟨H, 0, none⟩) := hf 9 (by decide)
  have e11 : vs 11 = .slice S.aoc S.cs.length S.capc := hf 11 (by decide)
  obtain ⟨⟨m, hm, hAm⟩, hbl, -⟩ := hst
  have HF := Lib.hid (And.intro zT (And.intro hAm hbl))
  have HM : m ≤ 1000 := by simp at hm; omega
  clear hf cE cK zT hAm hbl hA hS hgr hgc
  simp only [e9, e11]
  go_wp2_with fail
  obtain ⟨zT, hAm, hbl⟩ := HF.out
  refine bodyPost_ret (results_exprof rfl _ _ gE _ _ _ _ _ _ _ rfl zT) rfl ⟨S, H, m, t, at9, ct9, rfl, hT, Lib.hid (hX.out.mono HLT.out), Lib.hid ⟨hAm, HM⟩, HS, HNM, HCP, hwH, hbl⟩
end Go.Proofs.YtablacloabpjfabGreatDoor
