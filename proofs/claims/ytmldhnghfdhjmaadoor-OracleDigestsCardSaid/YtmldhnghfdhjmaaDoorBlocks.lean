/-
  CONTRACT of the reference's blocks: all whole blocks worked in.
  CONDITIONS: each theorem's own hypotheses.
-/
import Derived.Test.YtmldhnghfdhjmaaDoorBlock
import Derived.Test.YtmldhnghfdhjmaaDoorAddMath
namespace Go.Proofs.YtmldhnghfdhjmaaDoor
open Go.RowKit CodeMath
set_option linter.unusedVariables false

theorem cut_to (l : List UInt8) (j : Nat) (y : Int) (hy : y = j) (hj : j ≤ l.length) (w : World) :
    (Instr.slice 9 (.string (str l)) none (some (.int .i64 y)) none).run Tryd.prog w = .ok (.string (str (l.take j))) w := by
  subst hy
  rw [run_slice_string_to_if (h := Tryd.underlying9), if_pos ⟨by omega, by rw [str_size]; omega⟩, Int.toNat_natCast, str_extract l 0 j (Nat.zero_le _)]
  rfl
theorem cut_from (l : List UInt8) (i : Nat) (x : Int) (hx : x = i) (hi : i ≤ l.length) (w : World) :
    (Instr.slice 9 (.string (str l)) (some (.int .i64 x)) none none).run Tryd.prog w = .ok (.string (str (l.drop i))) w := by
  subst hx
  rw [run_slice_string_from_if (h := Tryd.underlying9), if_pos ⟨by omega, by rw [str_size]; omega⟩, Int.toNat_natCast, str_size, str_extract l i _ hi, List.take_of_length_le (by rw [List.length_drop]; exact Nat.le_refl _)]
def sizeS (v : Value) : Nat := match v with
  | .string s => s.size
  | _ => 0
theorem whole8 (g : ShaMath.St) (hz : (u32s (lst g)).length = 8) (x : Nat) (hx : x = 8) : (List.take 0 (u32s (List.replicate 8 0)) ++ (u32s (lst g) ++ List.drop (0 + x) (u32s (List.replicate 8 0)))) = u32s (lst g) := by
  subst hx; rfl
set_option maxRecDepth 100000 in
set_option maxHeartbeats 4000000 in
theorem blocks_any (h : ShaMath.St) (o : Ok8 h) (l : List UInt8) (w : World) (hl : l.length ≤ 9223372036854775807) :
    Calls Tryd.prog 68 #[.agg (u32s (lst h)).toArray, .string (str l)] w fun e w' => e = .returned (.agg (u32s (lst (ShaMath.run ShaMath.blk h l))).toArray) ∧ Below w.heap.size w w' := by
  obtain ⟨H, hH⟩ : ∃ H, (u32s (lst h)).toArray = H := ⟨_, rfl⟩
  rw [hH]
  go_enter Tryd.func68, Tryd.ntmps68
  go_upto_region 1 with fail
  refine wp_gen (fun W => Hid (Blk W w.heap.size 75 (u32s (lst h))) ∧ Hid (Blk W (w.heap.size + 1) 75 (u32s (List.replicate 8 0))) ∧ Below w.heap.size w W) ?_ ?_
  · refine ⟨?_, Blk.atNew _ _ (by simp), ((Below.refl _ _).alloc (Nat.le_refl _) _).alloc (by simp) _⟩
    rw [← hH]
    exact (Blk.new w (u32s (lst h)).toArray 75).alloc _
  rintro W ⟨b1, b2, hb⟩
  clear hH
  go_loopw [1] (fun t wr => ∃ (m : List UInt8) (g : ShaMath.St), t = .string (str m) ∧ m.length ≤ 9223372036854775807 ∧ Ok8 g ∧ Hid (ShaMath.run ShaMath.blk g m = ShaMath.run ShaMath.blk h l) ∧ Hid (Blk wr w.heap.size 75 (u32s (lst g))) ∧ Hid (Blk wr (w.heap.size + 1) 75 (u32s (List.replicate 8 0))) ∧ Below w.heap.size w wr) (fun t _ => sizeS t)
  case atStart => exact ⟨l, h, rfl, hl, o, Lib.hid rfl, b1, b2, hb⟩
  case round =>
    obtain ⟨m, g, rfl, hm, og, hrun, k1, k2, hbr⟩ := hrel
    have hsz := str_size m
    by_cases h64 : 64 ≤ m.length
    · have ht := cut_to m 64 64 rfl h64
      have hf := cut_from m 64 64 rfl h64
      have cB := fun W => block_any g og (m.take 64) W (by rw [List.length_take]; omega)
      have hnext : Hid (ShaMath.run ShaMath.blk (ShaMath.blk g (m.take 64)) (m.drop 64) = ShaMath.run ShaMath.blk h l) := Lib.hid (by rw [← ShaMath.run_step _ _ _ h64]; exact hrun.out)
      have hdl : (m.drop 64).length ≤ 9223372036854775807 := by rw [List.length_drop]; omega
      have hms : (str (m.drop 64)).size < (str m).size := by rw [str_size, str_size, List.length_drop]; omega
      have hI : (64 : Int) ≤ (str m).size := by rw [hsz]; omega
      obtain ⟨S, hS⟩ : ∃ S, str m = S := ⟨_, rfl⟩
      obtain ⟨T, hT⟩ : ∃ T, str (m.take 64) = T := ⟨_, rfl⟩
      obtain ⟨R, hR⟩ : ∃ R, str (m.drop 64) = R := ⟨_, rfl⟩
      obtain ⟨G, hG⟩ : ∃ G, (u32s (lst g)).toArray = G := ⟨_, rfl⟩
      obtain ⟨G2, hG2⟩ : ∃ G2, (u32s (lst (ShaMath.blk g (m.take 64)))).toArray = G2 := ⟨_, rfl⟩
      rw [hS] at ht hf hms hI ⊢
      rw [hT] at ht cB
      rw [hR] at hf hms
      rw [hG, hG2] at cB
      have okn := blk_ok g (m.take 64)
      have hld : ∀ W, Below wr.heap.size wr W → (Instr.loadAt 75 (.pointer (some ⟨w.heap.size, 0, none⟩))).run Tryd.prog W = .ok (.agg G) W := fun W hW => by
        rw [← hG]; exact load_whole (k1.out.call hW) (d := .array 8 74) rfl rfl (by kernel_rfl)
      have h8 : (u32s (lst (ShaMath.blk g (m.take 64)))).length = 8 := rfl
      have h8' : (u32s (lst g)).length = 8 := rfl
      have HLD := Lib.hid hld
      have HSR := Lib.hid hR
      clear hld hsz hS hT hR hG b1 b2 hb hrun
      go_upto_region 3 with fail
      refine wp_region_det 3 (by kernel_rfl) (by kernel_rfl) (by kernel_rfl) ?_
      simp only [List.take_succ_cons, List.take_zero, List.drop_succ_cons, List.drop_zero]
      repeat (first
        | (apply wpDet_plain _ rfl; (focus (intro W hW; exact detV_load 75 (.tmp 2) rfl (HLD.out W hW))); simp only [Act.put, List.setIfInBounds_toArray, List.set_cons_zero, List.set_cons_succ])
        | (apply wpDet_plain _ rfl; (focus (intro W hW; go_simp; exact ⟨rfl, Below.refl _ _⟩)); simp only [Act.put, List.setIfInBounds_toArray, List.set_cons_zero, List.set_cons_succ]))
      refine wpDet_nil ?_
      intro W hW
      have k1' := k1.out.call hW
      have k2' := k2.out.call hW
      have hbW := hbr.trans (hW.mono hbr.size)
      clear HLD
      go_wp2_with (first
        | (go_at_call 76; refine (cB _).mono ?_; rintro e w4 ⟨rfl, hb4⟩; have k3 := k1'.call hb4)
        | (with_reducible refine wpList_store_blk rfl 75 (.tmp 2) (.tmp 13) rfl w.heap.size 0 rfl _ _ k3 (u32s (lst (ShaMath.blk g (m.take 64)))) G2 (by rw [← hG2]) rfl (by rw [h8, h8']; omega) (by rw [h8]; kernel_rfl) (u32s_one _) ?_; intro w7 hg7 hs7 hB7))
      have k4 := (k2'.call hb4).same (hg7.block (w.heap.size + 1) (k2'.call hb4).lt (by simp))
      have hb7 : Below w.heap.size w w7 := (below_step hbW hbW.size hb4).grown hg7 (Nat.le_trans hbW.size hb4.size) (fun k h => by cases h; exact Nat.le_refl _)
      have hB8 : Blk w7 w.heap.size 75 (u32s (lst (ShaMath.blk g (m.take 64)))) := hB7
      go_roundw
      case rel => exact ⟨m.drop 64, _, by rw [HSR.out], hdl, okn, hnext, Lib.hid hB8, Lib.hid k4, hb7⟩
      case measure => exact hms
    · have hI : ¬ ((64 : Int) ≤ (str m).size) := by rw [hsz]; omega
      have he := hrun.out
      rw [ShaMath.run_short _ _ _ (by omega)] at he
      have k1' := k1.out
      have k2' := k2.out
      have HE := Lib.hid he
      obtain ⟨G, hG⟩ : ∃ G, (u32s (lst g)).toArray = G := ⟨_, rfl⟩
      have eG : (((u32s (lst g)).drop 0).take 8).toArray = G := by rw [← hG]; rfl
      have h8 : (u32s (lst g)).length = 8 := rfl
      have h8' : (u32s (List.replicate 8 0)).length = 8 := rfl
      obtain ⟨S, hS⟩ : ∃ S, str m = S := ⟨_, rfl⟩
      rw [hS] at hI ⊢
      clear he hrun k1 k2 hsz hS b1 b2 hb
      go_wp2_with (first
        | (with_reducible refine wpList_load_blk rfl 75 (.tmp 2) rfl w.heap.size 0 8 rfl _ _ k1' (by rw [h8]; omega) G eG _ rfl rfl (by kernel_rfl) ?_)
        | (with_reducible refine wpList_store_blk rfl 75 (.tmp 4) (.tmp 14) rfl (w.heap.size + 1) 0 rfl _ _ k2' (u32s (lst g)) G (by rw [← hG]) rfl (by rw [h8, h8']; omega) (by rw [h8]; kernel_rfl) (u32s_one _) ?_; intro w7 hg7 hs7 hB7))
      refine bodyPost_ret (results_arr rfl _ _ (w.heap.size + 1) (u32s (lst g)) rfl ?_ rfl rfl (by rw [h8]; kernel_rfl)) rfl ⟨by rw [HE.out], ?_⟩
      · exact hB7
      · exact hbr.grown hg7 hbr.size (fun k h => by cases h; exact Nat.le_succ _)
end Go.Proofs.YtmldhnghfdhjmaaDoor
