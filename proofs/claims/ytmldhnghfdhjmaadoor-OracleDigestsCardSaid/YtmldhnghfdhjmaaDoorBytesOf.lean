/-
  CONTRACT of package sum's bytesOf: words as bytes.
  CONDITIONS: each theorem's own hypotheses.
-/
import Derived.Test.YtmldhnghfdhjmaaDoorStir
namespace Go.Proofs.YtmldhnghfdhjmaaDoor
open Go.RowKit CodeMath
set_option linter.unusedVariables false

/-- The first bytes of a line, noughts behind them. -/
def fillZ (L : List UInt8) (i : Nat) : List UInt8 := L.take i ++ List.replicate (L.length - i) 0
theorem fillZ_length (L : List UInt8) (i : Nat) (h : i ≤ L.length) : (fillZ L i).length = L.length := by
  unfold fillZ; rw [List.length_append, List.length_take, List.length_replicate]; omega
theorem fillZ_set (L : List UInt8) (i : Nat) (c : UInt8) (h : L[i]? = some c) : (fillZ L i).set i c = fillZ L (i + 1) := by
  have hi := (List.getElem?_eq_some_iff.1 h).1
  have hc := (List.getElem?_eq_some_iff.1 h).2
  unfold fillZ
  rw [List.take_succ_eq_append_getElem hi, hc, List.set_append_right _ _ (by rw [List.length_take]; omega), List.length_take, Nat.min_eq_left (by omega), Nat.sub_self, show L.length - i = (L.length - (i + 1)) + 1 by omega, List.replicate_succ, List.set_cons_zero]
  simp
theorem fillZ_end (L : List UInt8) : fillZ L L.length = L := by simp [fillZ]
theorem fillZ_zero (L : List UInt8) : fillZ L 0 = List.replicate L.length 0 := by simp [fillZ]
theorem fillZ_some (L : List UInt8) (i : Nat) (h : i < L.length) : ∃ c, (fillZ L i)[i]? = some c := ⟨_, List.getElem?_eq_getElem (by rw [fillZ_length _ _ (by omega)]; exact h)⟩
/-- A byte of words. -/
theorem bytes_at4 (h : ShaMath.St) (i : Nat) (hi : i < 32) : h.bytes[i]? = some (lowB (((lst h).getD (i / 4) 0 : Nat) / 256 ^ (3 - i % 4))) := by
  have hq : i / 4 < 8 := by omega
  have e : i = 4 * (i / 4) + i % 4 := by omega
  have hr : i % 4 < 4 := by omega
  generalize i / 4 = q at e hq ⊢
  generalize i % 4 = r at e hr ⊢
  subst e
  rcases (show q = 0 ∨ q = 1 ∨ q = 2 ∨ q = 3 ∨ q = 4 ∨ q = 5 ∨ q = 6 ∨ q = 7 by omega) with rfl | rfl | rfl | rfl | rfl | rfl | rfl | rfl <;>
  rcases (show r = 0 ∨ r = 1 ∨ r = 2 ∨ r = 3 by omega) with rfl | rfl | rfl | rfl <;> rfl
theorem shifted' (n : Int) (j : Nat) : n / 2 ^ (8 * j) % 256 = ((lowB (n / 256 ^ j)).toNat : Int) := by
  rw [lowB_toNat, Int.pow_mul]; rfl
set_option maxRecDepth 100000 in
set_option maxHeartbeats 2000000 in
theorem bytesOf_any (h : ShaMath.St) (w : World) :
    Calls Tryd.prog 75 #[.agg (u32s (lst h)).toArray] w fun e w' => e = .returned (.agg (u8s h.bytes).toArray) ∧ Below w.heap.size w w' := by
  obtain ⟨H, hH⟩ : ∃ H, (u32s (lst h)).toArray = H := ⟨_, rfl⟩
  rw [hH]
  go_enter Tryd.func75, Tryd.ntmps75
  go_upto_region 2 with fail
  refine wp_gen (fun W => Blk W w.heap.size 75 (u32s (lst h)) ∧ Blk W (w.heap.size + 1) 51 (u8s (List.replicate 32 0)) ∧ Blk W (w.heap.size + 1 + 1) 51 (u8s (fillZ h.bytes 0)) ∧ Below w.heap.size w W) ?_ ?_
  · have e0 : ∀ (a b : Array Value) (S T : TypeId), (((w.alloc (.cells H 75)).alloc (.cells a S)).heap.size = w.heap.size + 1 + 1) ∧ ((w.alloc (.cells H 75)).heap.size = w.heap.size + 1) := fun a b S T => ⟨by simp, by simp⟩
    refine ⟨?_, ?_, ?_, ?_⟩
    · rw [← hH]
      exact ((Blk.new w (u32s (lst h)).toArray 75).alloc _).alloc _
    · exact (Blk.atNew (w := w.alloc (.cells H 75)) (g := w.heap.size + 1) _ _ (e0 #[] #[] 0 0).2).alloc _
    · rw [fillZ_zero, ShaMath.St.bytes_length]
      exact Blk.atNew _ _ (e0 _ #[] _ 0).1
    · exact (((Below.refl _ _).alloc (Nat.le_refl _) _).alloc (by simp) _).alloc (by simp; omega) _
  · rintro W ⟨b1, b2, b3, hb⟩
    have hbl := h.bytes_length
    go_wp2_with fail
    go_loopw [5] (fun ix wr => ∃ i : Nat, i ≤ 32 ∧ ix = .int .i64 i ∧ Hid (Blk wr w.heap.size 75 (u32s (lst h))) ∧ Hid (Blk wr (w.heap.size + 1) 51 (u8s (List.replicate 32 0))) ∧ Hid (Blk wr (w.heap.size + 1 + 1) 51 (u8s (fillZ h.bytes i))) ∧ Below w.heap.size w wr) (fun ix _ => 32 - (intOf ix).toNat)
    case atStart => exact ⟨0, by omega, rfl, Lib.hid b1, Lib.hid b2, Lib.hid b3, hb⟩
    case round =>
      obtain ⟨i, hi, rfl, h1, h2, h3, hbr⟩ := hrel
      by_cases h32 : i < 32
      · have iI : (i : Int) < 32 := by omega
        have ca := h1.out.cell (u32s_get (lst_get h (i / 4) (by omega)))
        obtain ⟨c0, hc0⟩ := fillZ_some h.bytes i (by omega)
        have cb := h3.out.cell (u8s_get hc0)
        have cf := h3.out.free i
        have hbyte := bytes_at4 h i h32
        generalize (lst h).getD (i / 4) 0 = x at ca hbyte
        have hst := h3.out.set i (.int .u8 (((lowB ((x : Nat) / 256 ^ (3 - i % 4))).toNat : Nat) : Int))
        rw [u8s_set, fillZ_set _ _ _ hbyte] at hst
        have ho1 := h1.out.other ⟨w.heap.size + 1 + 1, i, none⟩ (.int .u8 (((lowB ((x : Nat) / 256 ^ (3 - i % 4))).toNat : Nat) : Int)) (show w.heap.size ≠ w.heap.size + 1 + 1 by omega)
        have ho2 := h2.out.other ⟨w.heap.size + 1 + 1, i, none⟩ (.int .u8 (((lowB ((x : Nat) / 256 ^ (3 - i % 4))).toNat : Nat) : Int)) (by simp)
        rw [← shifted'] at hst ho1 ho2
        have S1 := Lib.hid hst
        have S2 := Lib.hid ho1
        have S3 := Lib.hid ho2
        clear b1 b2 b3 hb hc0 hst ho1 ho2 h1 h2 h3 hbyte
        go_wp2
        go_roundw
        case rel => exact ⟨i + 1, by omega, by go_num, S2, S3, S1, hbr.setCell (by simp; omega) _⟩
        case measure => simp [intOf]; omega
      · have h32e : i = 32 := by omega
        have iI : ¬ ((i : Int) < 32) := by omega
        have k3 := h3.out
        have k2 := h2.out
        rw [h32e, ← hbl, fillZ_end] at k3
        obtain ⟨R, hR⟩ : ∃ R, (u8s h.bytes).toArray = R := ⟨_, rfl⟩
        have hV : (((u8s h.bytes).drop 0).take 32).toArray = R := by rw [← hR, List.drop_zero, List.take_of_length_le (by rw [u8s_length, hbl]; exact Nat.le_refl _)]
        clear h32e h32 h1 h2 h3 b1 b2 b3 hb
        go_wp2_with (first
          | (with_reducible refine wpList_load_blk rfl 51 (.tmp 3) rfl (w.heap.size + 1 + 1) 0 32 rfl _ (u8s h.bytes) k3 (by rw [u8s_length, hbl]; omega) R hV _ rfl rfl (by kernel_rfl) ?_)
          | (with_reducible refine wpList_store_blk rfl 51 (.tmp 2) (.tmp 21) rfl (w.heap.size + 1) 0 rfl _ _ k2 (u8s h.bytes) R (by rw [← hR]) rfl (by rw [u8s_length, u8s_length, List.length_replicate, hbl]; omega) (by rw [u8s_length, hbl]; kernel_rfl) (u8s_one _) ?_; intro w7 hg7 hs7 hB7))
        refine bodyPost_ret (results_arr rfl _ _ (w.heap.size + 1) (u8s h.bytes) rfl ?_ rfl rfl (by rw [u8s_length, hbl]; kernel_rfl)) rfl ⟨by rw [hR], ?_⟩
        · rw [Nat.zero_add, List.take_zero, List.nil_append, List.drop_of_length_le (by rw [u8s_length, u8s_length, List.length_replicate, hbl]; exact Nat.le_refl _), List.append_nil] at hB7; exact hB7
        · exact hbr.grown hg7 hbr.size (fun k h => by cases h; omega)
end Go.Proofs.YtmldhnghfdhjmaaDoor
