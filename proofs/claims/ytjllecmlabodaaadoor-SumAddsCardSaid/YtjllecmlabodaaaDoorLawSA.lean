/-
  THE LAW SumAdds: walk.
  CONDITIONS: package sum's roundWords hold what their initialiser lays ('KW').
-/
import Derived.Test.YtjllecmlabodaaaDoorLawS
import Derived.Test.YtjllecmlabodaaaDoorGuard
namespace Go.Proofs.YtjllecmlabodaaaDoor
open Go.RowKit CodeMath
set_option linter.unusedVariables false

set_option maxRecDepth 100000 in
set_option maxHeartbeats 4000000 in
theorem sumAdds_any (s : Stm) (f : s.Fit) (l : List UInt8) (ao : Option Addr) (cap : Nat) (R : Stm) (hR : R.held.length = 64) (x : Int) (w : World)
    (c1 : ∀ W, Below w.heap.size w W → Calls Tryd.prog 13 #[.agg s.cells.toArray, .slice ao l.length cap] W fun e w' => e = .returned (.tuple #[.agg R.cells.toArray, .int .i64 x]) ∧ Below W.heap.size W w')
    (c2 : ∀ W, Below w.heap.size w W → Calls Tryd.prog 14 #[.agg s.cells.toArray, .slice ao l.length cap] W fun e w' => e = .returned (.tuple #[.agg R.cells.toArray, .int .i64 x]) ∧ Below W.heap.size W w') :
    Calls Tryd.prog 3 #[.agg s.cells.toArray, .slice ao l.length cap] w fun e w' => e = .returned (.bool true) ∧ Below w.heap.size w w' := by
  have heq := fun W => eqStm R hR W
  have heq0 := fun W => eqStm (can ShaMath.h0 [] 0) rfl W
  have c3 := fun W => begin_any W
  have c4 := fun W => begun_any W
  obtain ⟨A, hA⟩ : ∃ A, s.cells.toArray = A := ⟨_, rfl⟩
  obtain ⟨V, hV⟩ : ∃ V, R.cells.toArray = V := ⟨_, rfl⟩
  obtain ⟨V0, hV0⟩ : ∃ V, (can ShaMath.h0 [] 0).cells.toArray = V := ⟨_, rfl⟩
  rw [hA, hV] at c1 c2
  rw [hV] at heq
  rw [hV0] at heq0 c3 c4
  rw [hA]
  have hc74 := Stm.cells_length _ f.held
  have e1 : ((s.cells.drop 0).take 74).toArray = A := by rw [List.drop_zero, List.take_of_length_le (by omega)]; exact hA
  have szR := Stm.cells_length _ hR
  have hn : noStm.cells.length = 74 := rfl
  have eV : ((R.cells.drop 0).take 74).toArray = V := by rw [List.drop_zero, List.take_of_length_le (by omega)]; exact hV
  have hzero := zero_stream
  have bz : ∀ W : World, Blk (W.alloc (.cells noCells 26)) W.heap.size 26 noStm.cells := fun W => Blk.new W noCells _
  have hgd : Tryd.prog.eqGuardType Tryd.prog.depth 26 = false := by kernel_rfl
  have hxx : (x == x) = true := by simp
  clear hV0
  go_enter Tryd.func3, Tryd.ntmps3
  go_upto_region 1 with fail
  refine wp_gen (fun W => Blk W w.heap.size 26 s.cells ∧ Below w.heap.size w W) ⟨by rw [← hA]; exact Blk.new _ _ _, (Below.refl _ _).alloc (Nat.le_refl _) _⟩ ?_
  rintro W ⟨b0, m0⟩
  go_wp2_with (first
    | (with_reducible refine wpList_load_blk rfl 26 (.tmp 2) rfl w.heap.size 0 74 rfl _ _ b0 (by rw [hc74]; omega) A e1 _ rfl rfl (by kernel_rfl) ?_)
    | (go_at_call 13; refine (c1 _ m0).mono ?_; rintro e w1 ⟨rfl, k1⟩; have b1 := b0.call k1; have m1 := below_step m0 m0.size k1; have bn := bz w1; have lt1 := b1.lt; clear c1)
    | (with_reducible refine wpList_store_blk rfl 26 (.tmp 5) (.tmp 13) rfl w1.heap.size 0 rfl _ _ bn R.cells V (by rw [← hV]) rfl (by rw [szR, hn]; omega) (by rw [szR]; kernel_rfl) (stm_one _) ?_; intro w2 hg2 hs2 hB2; rw [Nat.zero_add, List.take_zero, List.nil_append, List.drop_of_length_le (by rw [szR, hn]; exact Nat.le_refl _), List.append_nil] at hB2; have m2 : Below w.heap.size w w2 := (m1.alloc m1.size _).grown hg2 (by have := m1.size; simp; omega) (fun k h => by cases h; exact m1.size); have b2 := (b1.alloc (.cells noCells 26)).same (hg2.block w.heap.size (b1.alloc _).lt (by simp; omega)); have lt2 := hB2.lt)
    | (with_reducible refine wpList_load_blk rfl 26 (.tmp 2) rfl w.heap.size 0 74 rfl _ _ b2 (by rw [hc74]; omega) A e1 _ rfl rfl (by kernel_rfl) ?_)
    | (go_at_call 14; refine (c2 _ m2).mono ?_; rintro e w3 ⟨rfl, k3⟩; have B3 := hB2.call k3; have m3 := below_step m2 m2.size k3; have bn3 := bz w3; have lt3 := B3.lt; clear c2)
    | (with_reducible refine wpList_store_blk rfl 26 (.tmp 7) (.tmp 19) rfl w3.heap.size 0 rfl _ _ bn3 R.cells V (by rw [← hV]) rfl (by rw [szR, hn]; omega) (by rw [szR]; kernel_rfl) (stm_one _) ?_; intro w4 hg4 hs4 hB4; rw [Nat.zero_add, List.take_zero, List.nil_append, List.drop_of_length_le (by rw [szR, hn]; exact Nat.le_refl _), List.append_nil] at hB4; have B4 := (B3.alloc (.cells noCells 26)).same (hg4.block w1.heap.size (B3.alloc _).lt (by simp; omega)); have m4 : Below w.heap.size w w4 := (m3.alloc m3.size _).grown hg4 (by have := m3.size; simp; omega) (fun k h => by cases h; exact m3.size))
    | (refine wpList_load_want rfl 26 (.tmp 5) rfl w1.heap.size 0 74 rfl _ _ B4 (by rw [szR]; omega) V eV _ rfl rfl (by kernel_rfl) ?_)
    | (refine wpList_load_want rfl 26 (.tmp 7) rfl w3.heap.size 0 74 rfl _ _ hB4 (by rw [szR]; omega) V eV _ rfl rfl (by kernel_rfl) ?_)
    | (go_at_call 15; refine (c3 _).mono ?_; rintro e w5 ⟨rfl, k5⟩; have m5 := below_step m4 m4.size k5; clear c3)
    | (go_at_call 16; refine (c4 _).mono ?_; rintro e w6 ⟨rfl, k6⟩; have m6 := below_step m5 m5.size k6; clear c4))
  go_ret
  exact ⟨rfl, m6⟩
theorem sumAdds_walk (s : Stm) (l : List UInt8) (ao : Option Addr) (cap : Nat) (w : World) (hT : KW w) (f : s.Fit) (hc : l.length ≤ cap) (hq : cap ≤ 9223372036854775807) (hr : l.length ≤ 140737488351232) (hn : ao = none → cap = 0) (hb : Bytes w ao l) :
    Calls Tryd.prog 3 #[.agg s.cells.toArray, .slice ao l.length cap] w fun e w' => e = .returned (.bool true) ∧ Below w.heap.size w w' := by
  cases hg : s.good with
  | true =>
    obtain ⟨ga, gb, -, -⟩ := good_facts s hg
    by_cases hbig : 1152921504606846976 - s.len < (l.length : Int)
    · exact sumAdds_any s f l ao cap noStm rfl 1 w (fun W hW => Add_big s f l ao cap hc hq hg hbig W (hb.keep hW) (hT.keep hW (Nat.le_refl _))) (fun W hW => Added_big s f l ao cap hc hq hg (by omega) W)
    · exact sumAdds_any s f l ao cap _ (can_held _ _ _ (Nat.le_of_lt (ShaMath.rest_lt _))) 0 w (fun W hW => Add_good s f l ao cap hc hq hg hbig W (hb.keep hW) (hT.keep hW (Nat.le_refl _))) (fun W hW => Added_good s f l ao cap hc hq hg (by omega) W (hb.keep hW))
  | false => exact sumAdds_any s f l ao cap noStm rfl 11 w (fun W hW => Add_bad s f l ao cap hc hq hg W (hb.keep hW) (hT.keep hW (Nat.le_refl _))) (fun W hW => Added_bad s f _ hg W)
end Go.Proofs.YtjllecmlabodaaaDoor
