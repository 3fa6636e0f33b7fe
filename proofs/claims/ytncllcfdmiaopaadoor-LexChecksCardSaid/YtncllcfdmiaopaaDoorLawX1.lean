/-
  THE WALK of the law 'chirographlaw.LexChecks'.
  CONDITIONS: package lex's signs and unicode/utf8's two tables hold what their initialisers lay ('SW', 'Tabs').
-/
import Derived.Test.YtncllcfdmiaopaaDoorLexE
import Derived.OpenShut
namespace Go.Proofs.YtncllcfdmiaopaaDoor
open Go.RowKit
set_option linter.unusedVariables false
set_option maxRecDepth 100000

set_option maxHeartbeats 2000000 in
theorem lexChecks_walk (k : Int) (s : ByteArray) (i b : Int) (w : World) (hT : Tabs w) (hS : SW w) (wk : (Lit.int .i64 k).wf = true) (hs : s.size ≤ 9223372036854775807) (wi : (Lit.int .i64 i).wf = true) (wb : (Lit.int .u64 b).wf = true) :
    Calls Tryd.prog 3 #[.agg #[.int .i64 k, .string s, .int .i64 i, .int .u64 b]] w fun e w' => e = .returned (.bool true) ∧ Below w.heap.size w w' := by
  obtain ⟨hb0, hb1⟩ := bounds_u64 wb
  obtain ⟨l, rfl⟩ : ∃ l, s = str l := ⟨_, str_eq s⟩
  rw [str_size] at hs
  have hw2 : ∃ w2, w.alloc (.cells #[.int .i64 k, .string (str l), .int .i64 i, .int .u64 b] 24) = w2 := ⟨_, rfl⟩
  obtain ⟨w2, hw2⟩ := hw2
  have hb2 : Below w.heap.size w w2 := by rw [← hw2]; exact (Below.refl _ _).alloc (Nat.le_refl _) _
  have hq : ∀ W, Below w2.heap.size w2 W → W.cell? ⟨w.heap.size, 0, none⟩ = some (.int .i64 k) ∧ W.cell? ⟨w.heap.size, 1, none⟩ = some (.string (str l)) ∧ W.cell? ⟨w.heap.size, 2, none⟩ = some (.int .i64 i) ∧ W.cell? ⟨w.heap.size, 3, none⟩ = some (.int .u64 b) := by
    subst hw2
    exact fun W hW => ⟨(hW.cell (p := ⟨w.heap.size, 0, none⟩) (by simp)).trans (by simp), (hW.cell (p := ⟨w.heap.size, 1, none⟩) (by simp)).trans (by simp), (hW.cell (p := ⟨w.heap.size, 2, none⟩) (by simp)).trans (by simp), (hW.cell (p := ⟨w.heap.size, 3, none⟩) (by simp)).trans (by simp)⟩
  have cC := fun W (hW : Below w.heap.size w W) => lexCheck_any k i b l W hb0 hb1 hs (tabs_below hT hW) (hS.keep hW (Nat.le_refl _))
  have cF := fun W (hW : Below w.heap.size w W) => tokenFault_any k i b l W hb0 hb1 hs (tabs_below hT hW)
  generalize tokC k l i b = C at *
  generalize str l = s at *
  have HQ := Lib.hid hq
  have CC := Lib.hid cC
  have CF := Lib.hid cF
  obtain ⟨p0, p1, p2, p3⟩ := hq w2 (Below.refl _ _)
  clear wk wi wb hs hT hS hb0 hb1 hq cC cF
  go_enter Tryd.func3, Tryd.ntmps3
  go_upto_region 1 with fail
  try rw [hw2]
  clear hw2
  go_wp2_with fail
  refine (CC.out w2 hb2).mono ?_
  rintro e w3 ⟨rfl, hb3⟩
  clear p0 p1 p2 p3
  obtain ⟨p0, p1, p2, p3⟩ := HQ.out w3 hb3
  have hb03 := below_stepL hb2 hb2.size hb3
  have hCC : (C == C) = true := by simp
  clear CC
  go_wp2_with fail
  refine (CF.out w3 hb03).mono ?_
  rintro e w4 ⟨rfl, hb4⟩
  have hbb := below_stepL hb03 hb03.size hb4
  clear CF p0 p1 p2 p3
  go_wp2_with fail
  go_ret
  exact ⟨by first | rfl | simp, hbb⟩
end Go.Proofs.YtncllcfdmiaopaaDoor
