/-
  CONTRACTS of package value's order and of the reference's Order, over values that may be.
  CONDITIONS: each theorem's own hypotheses.
-/
import Derived.Test.YtoleaahnpcbkkaaGreatDoorValA
import Derived.BigQuiet
import Derived.Deep.QuietTactic
import Derived.Deep.RegionWith
import Derived.Outline
namespace Go.Proofs.YtoleaahnpcbkkaaGreatDoor
open Go.RowKit
set_option linter.unusedVariables false

theorem bcell {W w1 : World} (hb : Below W.heap.size W w1) : (∀ b o, b < W.heap.size → w1.cell? ⟨b, o, none⟩ = W.cell? ⟨b, o, none⟩) ∧ (∀ b o, b < W.heap.size → w1.frozen? ⟨b, o, none⟩ = W.frozen? ⟨b, o, none⟩) :=
  ⟨fun b o h => hb.cell (p := ⟨b, o, none⟩) h, fun b o h => hb.frozen (p := ⟨b, o, none⟩) h⟩

/-- How two values stand whose kinds are a and b. -/
def ord (k i b : Int) (s : ByteArray) (k' i' b' : Int) (s' : ByteArray) : Int :=
  if k ≠ k' then cmp3 k k' else if k = 3 then cmp3 (FloatOrd.key b.toNat) (FloatOrd.key b'.toNat) else if k = 4 then Lib.compareBytes s.data.toList s'.data.toList else if k = 1 ∨ k = 2 then cmp3 i i' else 0

theorem four_below {w w1 w2 : World} {o1 o2 : Obj} (hb : Below ((w.alloc o1).alloc o2).drew.heap.size ((w.alloc o1).alloc o2).drew w1) (hb2 : Below w1.heap.size w1 w2) : Below w.heap.size w w2 :=
  ((((Below.refl _ _).alloc (Nat.le_refl _) _).alloc (by simp) _).drew.trans (hb.mono (by simp; omega))).trans (hb2.mono (by have := hb.size; simp at this; omega))

set_option maxHeartbeats 2000000 in
theorem order_real (i b : Int) (s : ByteArray) (i' b' : Int) (s' : ByteArray) (w : World) (hb : FloatOrd.fine b.toNat) (hb' : FloatOrd.fine b'.toNat) :
    Calls Tryz.prog 176 #[.agg #[.int .i64 3, .int .i64 i, .int .u64 b, .string s], .agg #[.int .i64 3, .int .i64 i', .int .u64 b', .string s']] w fun e w' => e = .returned (.int .i64 (cmp3 (FloatOrd.key b.toNat) (FloatOrd.key b'.toNat))) ∧ Below w.heap.size w w' := by
  have cC := fun w => floatCmp_fine b.toNat b'.toNat w hb hb'
  clear hb hb'
  go_enter Tryz.func176, Tryz.ntmps176
  go_wp2_with fail
  go_region_with (first | (go_at_call 114; refine (real64_any _ _ _ _ _).mono ?_; rintro e w1 ⟨rfl, hb⟩; obtain ⟨hc, hf⟩ := bcell hb; have hz : w.heap.size + 1 < w1.heap.size := by ((have := hb.size; try simp at this); omega)) | (go_at_call 178; refine (cC _).mono ?_; rintro e w' ⟨rfl, rfl⟩))
  all_goals go_wp2
  all_goals go_ret
  all_goals exact ⟨rfl, four_below (by assumption) (by assumption)⟩

set_option maxHeartbeats 1000000 in
theorem order_any (k i b : Int) (s : ByteArray) (k' i' b' : Int) (s' : ByteArray) (w : World) (hb : k = 3 → FloatOrd.fine b.toNat) (hb' : k' = 3 → FloatOrd.fine b'.toNat) :
    Calls Tryz.prog 176 #[.agg #[.int .i64 k, .int .i64 i, .int .u64 b, .string s], .agg #[.int .i64 k', .int .i64 i', .int .u64 b', .string s']] w fun e w' => e = .returned (.int .i64 (ord k i b s k' i' b' s')) ∧ Below w.heap.size w w' := by
  unfold ord
  by_cases hk : k = k'
  · subst hk
    rw [if_neg (by omega)]
    rcases kcase k with (rfl | rfl | rfl | rfl | rfl) | ⟨_, k1, k2, k3, k4⟩
    · go_enter Tryz.func176, Tryz.ntmps176
      go_wp2
      go_ret
      exact ⟨rfl, ((Below.refl _ _).alloc (Nat.le_refl _) _).alloc (by simp) _⟩
    · have cC := fun w => intCmp_any i i' w
      go_enter Tryz.func176, Tryz.ntmps176
      go_wp2_with fail
      refine (cC _).mono ?_
      rintro e w1 ⟨rfl, rfl⟩
      go_wp2_with fail
      go_ret
      exact ⟨rfl, ((Below.refl _ _).alloc (Nat.le_refl _) _).alloc (by simp) _⟩
    · have cC := fun w => intCmp_any i i' w
      go_enter Tryz.func176, Tryz.ntmps176
      go_wp2_with fail
      refine (cC _).mono ?_
      rintro e w1 ⟨rfl, rfl⟩
      go_wp2_with fail
      go_ret
      exact ⟨rfl, ((Below.refl _ _).alloc (Nat.le_refl _) _).alloc (by simp) _⟩
    · exact order_real i b s i' b' s' w (hb rfl) (hb' rfl)
    · have cC := fun w => strCmp_any s s' w
      go_enter Tryz.func176, Tryz.ntmps176
      go_wp2_with fail
      refine (cC _).mono ?_
      rintro e w1 ⟨rfl, rfl⟩
      go_wp2_with fail
      go_ret
      exact ⟨rfl, ((Below.refl _ _).alloc (Nat.le_refl _) _).alloc (by simp) _⟩
    · have e1 : ¬ k = 1 := by simpa using k1
      have e2 : ¬ k = 2 := by simpa using k2
      have e3 : ¬ k = 3 := by simpa using k3
      have e4 : ¬ k = 4 := by simpa using k4
      rw [if_neg e3, if_neg e4, if_neg (by omega)]
      clear e1 e2 e3 e4
      go_enter Tryz.func176, Tryz.ntmps176
      go_wp2
      go_ret
      exact ⟨rfl, ((Below.refl _ _).alloc (Nat.le_refl _) _).alloc (by simp) _⟩
  · rw [if_pos hk]
    have hk' : (k == k') = false := by simpa using hk
    have cC := fun w => intCmp_any k k' w
    clear hk
    go_enter Tryz.func176, Tryz.ntmps176
    go_wp2_with fail
    refine (cC _).mono ?_
    rintro e w1 ⟨rfl, rfl⟩
    go_wp2_with fail
    go_ret
    exact ⟨rfl, ((Below.refl _ _).alloc (Nat.le_refl _) _).alloc (by simp) _⟩
end Go.Proofs.YtoleaahnpcbkkaaGreatDoor
