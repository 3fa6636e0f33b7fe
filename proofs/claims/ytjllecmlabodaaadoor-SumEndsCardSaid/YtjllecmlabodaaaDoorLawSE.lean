/-
  THE LAW SumEnds: walk.
  CONDITIONS: package sum's roundWords hold what their initialiser lays ('KW').
-/
import Derived.Test.YtjllecmlabodaaaDoorLawS
import Derived.Test.YtjllecmlabodaaaDoorGuard
namespace Go.Proofs.YtjllecmlabodaaaDoor
open Go.RowKit CodeMath
set_option linter.unusedVariables false

set_option maxRecDepth 100000 in
set_option maxHeartbeats 2000000 in
theorem sumEnds_any (s : Stm) (f : s.Fit) (D : List UInt8) (hsl : D.length = 32) (x : Int) (w : World)
    (c1 : ∀ W, Below w.heap.size w W → Calls Tryd.prog 17 #[.agg s.cells.toArray] W fun e w' => e = .returned (.tuple #[.agg (u8s D).toArray, .int .i64 x]) ∧ Below W.heap.size W w')
    (c2 : ∀ W, Calls Tryd.prog 18 #[.agg s.cells.toArray] W fun e w' => e = .returned (.tuple #[.agg (u8s D).toArray, .int .i64 x]) ∧ Below W.heap.size W w') :
    Calls Tryd.prog 4 #[.agg s.cells.toArray] w fun e w' => e = .returned (.bool true) ∧ Below w.heap.size w w' := by
  have heq := fun W => eq32 D hsl W
  obtain ⟨A, hA⟩ : ∃ A, s.cells.toArray = A := ⟨_, rfl⟩
  obtain ⟨V, hV⟩ : ∃ V, (u8s D).toArray = V := ⟨_, rfl⟩
  rw [hA, hV] at c1 c2
  rw [hV] at heq
  rw [hA]
  have hc74 := Stm.cells_length _ f.held
  have e1 : ((s.cells.drop 0).take 74).toArray = A := by rw [List.drop_zero, List.take_of_length_le (by omega)]; exact hA
  have szD : (u8s D).length = 32 := by rw [u8s_length, hsl]
  have z32 : (u8s (List.replicate 32 0)).length = 32 := by rw [u8s_length, List.length_replicate]
  have eV : (((u8s D).drop 0).take 32).toArray = V := by rw [List.drop_zero, List.take_of_length_le (by rw [szD]; exact Nat.le_refl _)]; exact hV
  obtain ⟨Y, hY⟩ : ∃ Y, (u8s (List.replicate 32 0)).toArray = Y := ⟨_, rfl⟩
  have zv32 : ∀ W, (zeroValue 33).run Tryd.prog W = .ok (.agg Y) W := fun W => by rw [← hY]; kernel_rfl
  have by32 : ∀ W : World, Blk (W.alloc (.cells Y 33)) W.heap.size 33 (u8s (List.replicate 32 0)) := fun W => by rw [← hY]; exact Blk.new W _ _
  have hgd : Tryd.prog.eqGuardType Tryd.prog.depth 33 = false := by kernel_rfl
  have hxx : (x == x) = true := by simp
  clear hY
  go_enter Tryd.func4, Tryd.ntmps4
  go_upto_region 1 with fail
  refine wp_gen (fun W => Blk W w.heap.size 26 s.cells ∧ Below w.heap.size w W) ⟨by rw [← hA]; exact Blk.new _ _ _, (Below.refl _ _).alloc (Nat.le_refl _) _⟩ ?_
  rintro W ⟨b0, m0⟩
  go_wp2_with (first
    | (with_reducible refine wpList_load_blk rfl 26 (.tmp 1) rfl w.heap.size 0 74 rfl _ _ b0 (by rw [hc74]; omega) A e1 _ rfl rfl (by kernel_rfl) ?_)
    | (go_at_call 17; refine (c1 _ m0).mono ?_; rintro e w1 ⟨rfl, k1⟩; have b1 := b0.call k1; have m1 := below_step m0 m0.size k1; have bn := by32 w1; have lt1 := b1.lt; clear c1)
    | (with_reducible refine wpList_store_blk rfl 33 (.tmp 3) (.tmp 10) rfl w1.heap.size 0 rfl _ _ bn (u8s D) V (by rw [← hV]) rfl (by rw [szD, z32]; omega) (by rw [szD]; kernel_rfl) (u8s_one _) ?_; intro w2 hg2 hs2 hB2; rw [Nat.zero_add, List.take_zero, List.nil_append, List.drop_of_length_le (by rw [szD, z32]; exact Nat.le_refl _), List.append_nil] at hB2; have m2 : Below w.heap.size w w2 := (m1.alloc m1.size _).grown hg2 (by have := m1.size; simp; omega) (fun k h => by cases h; exact m1.size); have b2 := (b1.alloc (.cells Y 33)).same (hg2.block w.heap.size (b1.alloc _).lt (by simp; omega)); have lt2 := hB2.lt)
    | (with_reducible refine wpList_load_blk rfl 26 (.tmp 1) rfl w.heap.size 0 74 rfl _ _ b2 (by rw [hc74]; omega) A e1 _ rfl rfl (by kernel_rfl) ?_)
    | (go_at_call 18; refine (c2 _).mono ?_; rintro e w3 ⟨rfl, k3⟩; have B3 := hB2.call k3; have m3 := below_step m2 m2.size k3; have bn3 := by32 w3; have lt3 := B3.lt; clear c2)
    | (with_reducible refine wpList_store_blk rfl 33 (.tmp 5) (.tmp 15) rfl w3.heap.size 0 rfl _ _ bn3 (u8s D) V (by rw [← hV]) rfl (by rw [szD, z32]; omega) (by rw [szD]; kernel_rfl) (u8s_one _) ?_; intro w4 hg4 hs4 hB4; rw [Nat.zero_add, List.take_zero, List.nil_append, List.drop_of_length_le (by rw [szD, z32]; exact Nat.le_refl _), List.append_nil] at hB4; have B4 := (B3.alloc (.cells Y 33)).same (hg4.block w1.heap.size (B3.alloc _).lt (by simp; omega)); have m4 : Below w.heap.size w w4 := (m3.alloc m3.size _).grown hg4 (by have := m3.size; simp; omega) (fun k h => by cases h; exact m3.size))
    | (refine wpList_load_want rfl 33 (.tmp 3) rfl w1.heap.size 0 32 rfl _ _ B4 (by rw [szD]; omega) V eV _ rfl rfl (by kernel_rfl) ?_)
    | (refine wpList_load_want rfl 33 (.tmp 5) rfl w3.heap.size 0 32 rfl _ _ hB4 (by rw [szD]; omega) V eV _ rfl rfl (by kernel_rfl) ?_))
  go_ret
  exact ⟨rfl, m4⟩
theorem sumEnds_walk (s : Stm) (w : World) (hT : KW w) (f : s.Fit) :
    Calls Tryd.prog 4 #[.agg s.cells.toArray] w fun e w' => e = .returned (.bool true) ∧ Below w.heap.size w w' := by
  cases hg : s.good with
  | true => exact sumEnds_any s f _ (ShaMath.St.bytes_length _) 0 w (fun W hW => End_good s f hg W (hT.keep hW (Nat.le_refl _))) (fun W => Ended_good s f hg W)
  | false => exact sumEnds_any s f _ (List.length_replicate ..) 11 w (fun W hW => End_bad s f hg W (hT.keep hW (Nat.le_refl _))) (fun W => Ended_bad s f hg W)
end Go.Proofs.YtjllecmlabodaaaDoor
