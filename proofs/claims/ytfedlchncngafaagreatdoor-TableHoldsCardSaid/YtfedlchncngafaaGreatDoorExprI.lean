/-
  CONTRACT of the reference's ExprFault; the walk of the law 'chirographlaw.ExprChecks'.
  CONDITIONS: each theorem's own hypotheses; the tables 'Tabs', 'SW' and the forms 'FW' hold what their initialisers lay.
-/
import Derived.Test.YtfedlchncngafaaGreatDoorExprF
import Derived.Test.YtfedlchncngafaaGreatDoorExprH
namespace Go.Proofs.YtfedlchncngafaaGreatDoor
open Go.RowKit
set_option linter.unusedVariables false
set_option maxRecDepth 100000

set_option maxHeartbeats 4000000 in
theorem exprFault_any (t : T) (ao : Option Addr) (cap : Nat) (w : World) (hA : AtT w t ao) (hl : t.kids.length ≤ cap) (hcap : cap ≤ 9223372036854775807) (hn : ao = none → cap = 0) (hT : Tabs w) :
    Calls Tryz.prog 105 #[exprV t ao cap] w fun e w' => e = .returned (.int .i64 (exprR t)) ∧ Below w.heap.size w w' := by
  have c1 := fun W (hW : Below w.heap.size w W) => within_any t ao cap W (hA.keep hW) hl hcap hn
  have c2 := fun W (hW : Below w.heap.size w W) => node_any t.deep t ao cap W (Nat.le_refl _) (hA.keep hW) (by omega) (tabs_below hT hW)
  simp only [exprV_cells] at c1 c2 ⊢
  have hE : exprR t = if layF 7 [t] 0 = true then formT t else 1 := by
    unfold exprR
    have h := room_lay t
    cases hB : layF 7 [t] 0 with
    | true =>
      rw [hB] at h
      rw [if_neg (fun hh => by have := h.1 hh; cases this)]; rfl
    | false =>
      rw [hB] at h
      rw [if_pos (h.2 rfl)]; rfl
  rw [hE]
  generalize layF 7 [t] 0 = B at *
  generalize formT t = F at *
  generalize t.kids.length = L at *
  generalize t.nd = nd at *
  obtain ⟨op, k, i, b, s, nm⟩ := nd
  simp only at c1 c2 ⊢
  generalize str s = S at *
  generalize str nm = N at *
  clear hA hT hE hl hcap hn
  cases B
  · rw [if_neg (by decide)]
    go_enter Tryz.func105, Tryz.ntmps105
    go_wp2_with fail
    refine (c1 _ ((Below.refl _ _).alloc (Nat.le_refl _) _)).mono ?_
    rintro e w1 ⟨rfl, hb⟩
    have hbb : Below w.heap.size w w1 := ((Below.refl _ _).alloc (Nat.le_refl _) _).trans (hb.mono (by simp))
    clear c1 c2 hb
    go_wp2_with fail
    go_ret
    exact ⟨rfl, hbb⟩
  · rw [if_pos rfl]
    go_enter Tryz.func105, Tryz.ntmps105
    go_wp2_with fail
    refine (c1 _ ((Below.refl _ _).alloc (Nat.le_refl _) _)).mono ?_
    rintro e w1 ⟨rfl, hb⟩
    have hbb : Below w.heap.size w w1 := ((Below.refl _ _).alloc (Nat.le_refl _) _).trans (hb.mono (by simp))
    obtain ⟨hc, hf⟩ := bcellX hb
    have p0 := (hc w.heap.size 0 (by simp)).trans (show _ = some (.int .i64 op) by simp)
    have p1 := (hc w.heap.size 1 (by simp)).trans (show _ = some (.int .i64 k) by simp)
    have p2 := (hc w.heap.size 2 (by simp)).trans (show _ = some (.int .i64 i) by simp)
    have p3 := (hc w.heap.size 3 (by simp)).trans (show _ = some (.int .u64 b) by simp)
    have p4 := (hc w.heap.size 4 (by simp)).trans (show _ = some (.string S) by simp)
    have p5 := (hc w.heap.size 5 (by simp)).trans (show _ = some (.string N) by simp)
    have p6 := (hc w.heap.size 6 (by simp)).trans (show _ = some (.slice ao L cap) by simp)
    clear c1 hb hc hf
    go_wp2_with fail
    refine (c2 _ hbb).mono ?_
    rintro e w2 ⟨rfl, hb2⟩
    have hb3 := below_two hbb hb2
    clear c2 hb2 p0 p1 p2 p3 p4 p5 p6
    go_wp2_with fail
    go_ret
    exact ⟨rfl, hb3⟩
end Go.Proofs.YtfedlchncngafaaGreatDoor
