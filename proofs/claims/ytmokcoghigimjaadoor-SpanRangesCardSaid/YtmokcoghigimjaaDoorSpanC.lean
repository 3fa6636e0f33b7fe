/-
  CONTRACTS of package span: common, compared.
  CONDITIONS: each theorem's own hypotheses.
-/
import Derived.Test.YtmokcoghigimjaaDoorSpanA
namespace Go.Proofs.YtmokcoghigimjaaDoor
open Go.RowKit
set_option linter.unusedVariables false
set_option maxRecDepth 100000

theorem three_newG (w : World) (a b c : Array Value) (A B C : TypeId) : Blk (((w.alloc (.cells a A)).alloc (.cells b B)).alloc (.cells c C)) w.heap.size A a.toList ∧ Blk (((w.alloc (.cells a A)).alloc (.cells b B)).alloc (.cells c C)) (w.heap.size + 1) B b.toList ∧ Blk (((w.alloc (.cells a A)).alloc (.cells b B)).alloc (.cells c C)) (w.heap.size + 1 + 1) C c.toList ∧ Below w.heap.size w (((w.alloc (.cells a A)).alloc (.cells b B)).alloc (.cells c C)) :=
  ⟨((Blk.new w a A).alloc _).alloc _, (Blk.atNew b B (by simp)).alloc _, Blk.atNew c C (by simp), (((Below.refl _ _).alloc (Nat.le_refl _) _).alloc (by simp) _).alloc (by simp; omega) _⟩
/-- What common makes of its ends. -/
def endG (X Y : Int) : Rg := if Y < X then noneG else ⟨X, Y⟩
theorem common_end (a b : Rg) : commonG a b = endG (max a.lo b.lo) (min a.hi b.hi) := rfl
def CommonOk (l h l' h' X Y : Int) : Prop := ∀ w : World, Calls Tryd.prog 13 #[.agg #[.int .i64 l, .int .i64 h], .agg #[.int .i64 l', .int .i64 h']] w fun e w' => e = .returned (rgV (endG X Y)) ∧ Below w.heap.size w w'
set_option maxHeartbeats 8000000 in
theorem common_at (l h l' h' X Y : Int) (f1 : max l l' = X) (f2 : min h h' = Y) : CommonOk l h l' h' X Y := by
  intro w
  have cN := fun W => span_none_any W
  unfold rgV noneG at *
  simp only at cN
  obtain ⟨z0, z1, z2, hb⟩ := three_newG w #[.int .i64 l, .int .i64 h] #[.int .i64 l', .int .i64 h'] #[.int .i64 0, .int .i64 0] 29 29 29
  obtain ⟨w1, hw1⟩ : ∃ w1, ((w.alloc (.cells #[.int .i64 l, .int .i64 h] 29)).alloc (.cells #[.int .i64 l', .int .i64 h'] 29)).alloc (.cells #[.int .i64 0, .int .i64 0] 29) = w1 := ⟨_, rfl⟩
  rw [hw1] at z0 z1 z2 hb
  obtain ⟨⟨p0, p1⟩, _⟩ := z0.two
  obtain ⟨⟨q0, q1⟩, _⟩ := z1.two
  have hrr : w.heap.size ≤ w.heap.size + 1 + 1 := by omega
  have z3 : Blk (w1.alloc (.cells #[.int .i64 X, .int .i64 Y] 29)) w1.heap.size 29 [.int .i64 X, .int .i64 Y] := Blk.new w1 #[.int .i64 X, .int .i64 Y] _
  have z4 := z2.alloc (.cells #[.int .i64 X, .int .i64 Y] 29)
  have hb4 : Below w.heap.size w (w1.alloc (.cells #[.int .i64 X, .int .i64 Y] 29)) := hb.alloc hb.size _
  obtain ⟨w4, hw4⟩ : ∃ w4, w1.alloc (.cells #[.int .i64 X, .int .i64 Y] 29) = w4 := ⟨_, rfl⟩
  rw [hw4] at z3 z4 hb4
  have HW4 := Lib.hid hw4
  have HB4 := Lib.hid (And.intro z3 (And.intro z4 hb4))
  obtain ⟨B, hB⟩ : ∃ B, decide (Y < X) = B := ⟨_, rfl⟩
  have hE : Hid (endG X Y = if B = true then noneG else ⟨X, Y⟩) := by
    show _ = _
    rw [← hB]; unfold endG; simp only [decide_eq_true_eq]
  obtain ⟨E, hEE⟩ : ∃ E, endG X Y = E := ⟨_, rfl⟩
  rw [hEE] at hE
  have HEE := Lib.hid hEE
  simp only [hEE]
  clear hw4 z3 z4 hb4 z0 z1 hEE
  go_enter Tryd.func13, Tryd.ntmps13
  go_upto_region 1 with fail
  try rw [hw1]
  clear hw1
  generalize hgr : w.heap.size + 1 + 1 = gr at *
  clear hgr
  go_upto_region 2 with fail
  try simp only [f1, f2]
  rw [HW4.out]
  obtain ⟨z3, z4, hb4⟩ := HB4.out
  clear HW4 HB4 hb z2 p0 p1 q0 q1 f1 f2
  generalize w1.heap.size = g1 at *
  obtain ⟨⟨p0, p1⟩, f0, f1⟩ := z3.two
  obtain ⟨⟨q0, q1⟩, r0, r1⟩ := z4.two
  cases B
  · go_wp2_with fail
    exact bodyPost_ret (results_rg rfl _ _ gr _ _ rfl z4.set2) rfl ⟨by rw [hE.out]; rfl, below_set2 hb4 hrr⟩
  · go_wp2_with fail
    refine (cN _).mono ?_
    rintro e w2 ⟨rfl, hb2⟩
    have z5 := z4.call hb2
    have hbb := below_stepG hb4 hb4.size hb2
    clear hb2 hb4 z4 z3 p0 p1 q0 q1 r0 r1 f0 f1
    obtain ⟨⟨q0, q1⟩, r0, r1⟩ := z5.two
    go_wp2_with fail
    exact bodyPost_ret (results_rg rfl _ _ gr _ _ rfl z5.set2) rfl ⟨by rw [hE.out]; rfl, below_set2 hbb hrr⟩
theorem span_common_any (a b : Rg) (w : World) : Calls Tryd.prog 13 #[rgV a, rgV b] w fun e w' => e = .returned (rgV (commonG a b)) ∧ Below w.heap.size w w' := by
  rw [common_end]
  exact common_at a.lo a.hi b.lo b.hi _ _ rfl rfl w
end Go.Proofs.YtmokcoghigimjaaDoor
