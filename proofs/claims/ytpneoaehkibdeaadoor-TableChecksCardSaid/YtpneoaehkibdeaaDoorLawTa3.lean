/-
  THE WALK of the law 'chirographlaw.TableChecks'.
  CONDITIONS: each theorem's own hypotheses; the tables 'Tabs' and package lex's signs 'SW' hold what their initialisers lay.
-/
import Derived.Test.YtpneoaehkibdeaaDoorTabE
import Derived.Laws.Rows
namespace Go.Proofs.YtpneoaehkibdeaaDoor
open Go.RowKit
set_option linter.unusedVariables false
set_option maxRecDepth 100000

theorem load_table (W : World) (g : Nat) (V : Array Value) (h : W.heap[g]? = some (.cells V 29 (0, 0))) (hl : V.size = 19) : (Instr.loadAt 29 (.pointer (some ⟨g, 0, none⟩))).run Tryd.prog W = .ok (.agg V) W := by
  obtain ⟨fs, hs, -⟩ := tb_fields
  simp only [Instr.loadAt, Instr.sureAddr, Sem.run_bind, Sem.run_pure, Result.andThen_ok]
  exact run_loadVar_row W g 29 29 V (0, 0) _ h hs rfl (by rw [hl]; kernel_rfl)
theorem wpList_load_table {ops : Array Oper} {rest : List Oper} {o : Oper} {a : Act} {w : World} {Q : Exit → Act → World → Prop} (hgd : o.guard = none) (x : Operand) (ho : o.op = .load 29 x) (g : Nat) (hx : a.eval x = .pointer (some ⟨g, 0, none⟩)) (V : Array Value)
    (hl : (Instr.loadAt 29 (.pointer (some ⟨g, 0, none⟩))).run Tryd.prog w = .ok (.agg V) w) (h : wpList Tryd.prog ops Q rest (a.put o.dst (.agg V)) w) : wpList Tryd.prog ops Q (o :: rest) a w :=
  wpList_plain hgd fun K hK => by
    unfold Oper.wp execOp
    simp only [ho, hx, Sem.run_bind, Sem.run_pure, Result.andThen_ok, hl]
    exact hK _ _ h
set_option maxHeartbeats 16000000 in
theorem tableChecks_walk (t : Tb) (w : World) (hT : Tabs w) (hS : SW w) (hO : TbOk w t) :
    Calls Tryd.prog 3 #[.agg (tbV t).toArray] w fun e w' => e = .returned (.bool true) ∧ Below w.heap.size w w' := by
  have CA : Hid (∀ W, Below w.heap.size w W → _) := Lib.hid (fun W h => tabCheck_any t W (hO.keep h) (tabs_below hT h) (hS.keep h (Nat.le_refl _)))
  have CB : Hid (∀ W, Below w.heap.size w W → _) := Lib.hid (fun W h => tabFault_any t W (hO.keep h) (tabs_below hT h) (hS.keep h (Nat.le_refl _)))
  generalize tabR t = R at CA CB
  obtain ⟨V, hV⟩ : ∃ V, (tbV t).toArray = V := ⟨_, rfl⟩
  have hl : V.size = 19 := by rw [← hV]; rfl
  rw [hV] at CA CB ⊢
  clear hT hS hO hV
  have HL := Lib.hid hl
  have zt : (w.alloc (.cells V 29)).heap[w.heap.size]? = some (.cells V 29 (0, 0)) := by rw [heap_alloc_new]
  have hbt := (Below.refl w.heap.size w).alloc (Nat.le_refl _) (.cells V 29)
  obtain ⟨w1, hw1⟩ : ∃ W, w.alloc (.cells V 29) = W := ⟨_, rfl⟩
  rw [hw1] at zt hbt
  obtain ⟨bt, hbn⟩ : ∃ x, w.heap.size = x := ⟨_, rfl⟩
  rw [hbn] at zt
  have hltb : bt < w1.heap.size := (Array.getElem?_eq_some_iff.1 zt).1
  have l1 := load_table w1 bt V zt hl
  have HZT := Lib.hid (And.intro zt hltb)
  have HW1 := Lib.hid hw1
  have HBN := Lib.hid hbn
  have HBT := Lib.hid hbt
  have cA := CA.out w1 hbt
  have e1 : (R == R) = true := by simp
  clear zt hw1 hbn hbt hl hltb
  go_enter Tryd.func3, Tryd.ntmps3
  go_upto_region 1 with fail
  rw [HW1.out, HBN.out]
  go_upto_region 2 with (first
    | (with_reducible refine wpList_load_table rfl (.tmp 1) rfl bt rfl V l1 ?_)
    | (go_at_call 9; refine cA.mono ?_; rintro e w2 ⟨rfl, hb2⟩))
  have HB2 := Lib.hid (below_stepL HBT.out HBT.out.size hb2)
  have l2 := load_table w2 bt V ((hb2.block bt HZT.out.2).trans HZT.out.1) HL.out
  have cB := CB.out w2 HB2.out
  clear cA CA CB hb2 l1
  go_upto_region 3 with (first
    | (with_reducible refine wpList_load_table rfl (.tmp 1) rfl bt rfl V l2 ?_)
    | (go_at_call 10; refine cB.mono ?_; rintro e w3 ⟨rfl, hb3⟩))
  have HB3 := Lib.hid (below_stepL HB2.out HB2.out.size hb3)
  clear cB hb3 l2
  go_wp2_with fail
  go_ret
  exact ⟨by first | rfl | simp, HB3.out⟩
end Go.Proofs.YtpneoaehkibdeaaDoor
