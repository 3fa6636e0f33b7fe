/-
  THE LAW MacSums: its walk.
  CONDITIONS: package sum's roundWords hold what their initialiser lays ('KW').
-/
import Derived.Test.YtjllecmlabodaaaDoorEqArr
import Derived.Test.YtjllecmlabodaaaDoorMaced2
import Derived.Test.YtjllecmlabodaaaDoorMac2
namespace Go.Proofs.YtjllecmlabodaaaDoor
open Go.RowKit CodeMath
set_option linter.unusedVariables false

set_option maxRecDepth 100000 in
set_option maxHeartbeats 2000000 in
theorem macSums_walk (k : List UInt8) (ak : Option Addr) (ck : Nat) (l : List UInt8) (ao : Option Addr) (cap : Nat) (w : World) (hT : KW w) (hck : k.length ≤ ck) (hck1 : ck ≤ 9223372036854775807) (hrk : k.length ≤ 140737488351232) (hnk : ak = none → ck = 0) (hbk : Bytes w ak k) (hc : l.length ≤ cap) (hq : cap ≤ 9223372036854775807) (hr : l.length ≤ 140737488351232) (hn : ao = none → cap = 0) (hb : Bytes w ao l) :
    Calls Tryd.prog 6 #[.slice ak k.length ck, .slice ao l.length cap] w fun e w' => e = .returned (.bool true) ∧ Below w.heap.size w w' := by
  have hsl : (ShaMath.hmac k l).length = 32 := ShaMath.sha_length _
  have c1 := fun W (h0 : Bytes W ak k) (h1 : Bytes W ao l) (h2 : KW W) => mac_any k l ak ao ck cap W hck hck1 h0 (by omega) hc hq h1 (by omega) h2
  have c2 := fun W (h0 : Bytes W ak k) (h1 : Bytes W ao l) => maced_any k l ak ao ck cap W hck hck1 h0 (by omega) hc hq h1 (by omega)
  generalize ShaMath.hmac k l = D at hsl c1 c2
  have heq := fun W => eq32 D hsl W
  obtain ⟨V, hV⟩ : ∃ V, (u8s D).toArray = V := ⟨_, rfl⟩
  rw [hV] at c1 c2 heq
  have szD : (u8s D).length = 32 := by rw [u8s_length, hsl]
  have z32 : (u8s (List.replicate 32 0)).length = 32 := by rw [u8s_length, List.length_replicate]
  have eV : (((u8s D).drop 0).take 32).toArray = V := by rw [List.drop_zero, List.take_of_length_le (by rw [szD]; exact Nat.le_refl _)]; exact hV
  obtain ⟨Y, hY⟩ : ∃ Y, (u8s (List.replicate 32 0)).toArray = Y := ⟨_, rfl⟩
  have zv32 : ∀ W, (zeroValue 33).run Tryd.prog W = .ok (.agg Y) W := fun W => by rw [← hY]; kernel_rfl
  have by32 : ∀ W : World, Blk (W.alloc (.cells Y 33)) W.heap.size 33 (u8s (List.replicate 32 0)) := fun W => by rw [← hY]; exact Blk.new W _ _
  have hgd : Tryd.prog.eqGuardType Tryd.prog.depth 33 = false := by kernel_rfl
  clear hY
  go_enter Tryd.func6, Tryd.ntmps6
  go_wp2_with (first
    | (go_at_call 21; refine (c1 _ hbk hb hT).mono ?_; rintro e w1 ⟨rfl, k1⟩; have bn := by32 w1; clear c1)
    | (with_reducible refine wpList_store_blk rfl 33 (.tmp 5) (.tmp 9) rfl w1.heap.size 0 rfl _ _ bn (u8s D) V (by rw [← hV]) rfl (by rw [szD, z32]; omega) (by rw [szD]; kernel_rfl) (u8s_one _) ?_; intro w2 hg2 hs2 hB2; rw [Nat.zero_add, List.take_zero, List.nil_append, List.drop_of_length_le (by rw [szD, z32]; exact Nat.le_refl _), List.append_nil] at hB2; have m2 : Below w.heap.size w w2 := (k1.alloc k1.size _).grown hg2 (by have := k1.size; simp; omega) (fun k h => by cases h; exact k1.size); have lt2 := hB2.lt)
    | (go_at_call 22; refine (c2 _ (hbk.keep m2) (hb.keep m2)).mono ?_; rintro e w3 ⟨rfl, k3⟩; have B3 := hB2.call k3; have m3 := below_step m2 m2.size k3; have bn3 := by32 w3; have lt3 := B3.lt; clear c2)
    | (with_reducible refine wpList_store_blk rfl 33 (.tmp 6) (.tmp 12) rfl w3.heap.size 0 rfl _ _ bn3 (u8s D) V (by rw [← hV]) rfl (by rw [szD, z32]; omega) (by rw [szD]; kernel_rfl) (u8s_one _) ?_; intro w4 hg4 hs4 hB4; rw [Nat.zero_add, List.take_zero, List.nil_append, List.drop_of_length_le (by rw [szD, z32]; exact Nat.le_refl _), List.append_nil] at hB4; have B4 := (B3.alloc (.cells Y 33)).same (hg4.block w1.heap.size (B3.alloc _).lt (by simp; omega)); have m4 : Below w.heap.size w w4 := (m3.alloc m3.size _).grown hg4 (by have := m3.size; simp; omega) (fun k h => by cases h; exact m3.size))
    | (with_reducible refine wpList_load_blk rfl 33 (.tmp 5) rfl w1.heap.size 0 32 rfl _ _ B4 (by rw [szD]; omega) V eV _ rfl rfl (by kernel_rfl) ?_)
    | (with_reducible refine wpList_load_blk rfl 33 (.tmp 6) rfl w3.heap.size 0 32 rfl _ _ hB4 (by rw [szD]; omega) V eV _ rfl rfl (by kernel_rfl) ?_))
  go_ret
  exact ⟨rfl, m4⟩
end Go.Proofs.YtjllecmlabodaaaDoor
