/-
  CONTRACT of package sum's spread: the words of a block.
  CONDITIONS: each theorem's own hypotheses.
-/
import Derived.Test.YtmldhnghfdhjmaaDoorSpreadMath
import Derived.Test.YtmldhnghfdhjmaaDoorShaT
import Derived.Deep.Cut
import Derived.Deep.CutRange
import Derived.Deep.DeepCutAuto
import Derived.Outline
import Derived.LoopTactic
import Derived.BigQuiet
import Derived.Deep.QuietTactic
import Derived.StillTailTactics
namespace Go.Proofs.YtmldhnghfdhjmaaDoor
open Go.RowKit CodeMath
set_option linter.unusedVariables false

set_option maxRecDepth 100000 in
set_option maxHeartbeats 2000000 in
theorem spread_any (l : List UInt8) (w : World) (hl : l.length = 64) :
    Calls Tryd.prog 79 #[.agg (u8s l).toArray] w fun e w' => e = .returned (.agg (u32s (ShaMath.sched l)).toArray) ∧ Below w.heap.size w w' := by
  obtain ⟨A, hA⟩ : ∃ A, (u8s l).toArray = A := ⟨_, rfl⟩
  rw [hA]
  go_enter Tryd.func79, Tryd.ntmps79
  go_upto_region 2 with fail
  have hV : (((u8s l).drop 0).take 64).toArray = A := by rw [← hA, List.drop_zero, List.take_of_length_le (by rw [u8s_length]; omega)]
  refine wp_gen (fun W => Blk W w.heap.size 76 (u8s l) ∧ Blk W (w.heap.size + 1) 108 (u32s (List.replicate 64 0)) ∧ Blk W (w.heap.size + 1 + 1) 108 (u32s (W1 l 0)) ∧ Below w.heap.size w W) ?_ ?_
  · have e0 : ∀ (a b : Array Value) (S T : TypeId), (((w.alloc (.cells A 76)).alloc (.cells a S)).heap.size = w.heap.size + 1 + 1) ∧ ((w.alloc (.cells A 76)).heap.size = w.heap.size + 1) := fun a b S T => ⟨by simp, by simp⟩
    refine ⟨?_, ?_, ?_, ?_⟩
    · have := ((Blk.new w A 76).alloc (.cells #[] 0)).alloc (.cells #[] 0)
      rw [← hA] at this ⊢
      exact ((Blk.new w (u8s l).toArray 76).alloc _).alloc _
    · exact (Blk.atNew (w := w.alloc (.cells A 76)) (g := w.heap.size + 1) _ _ (e0 #[] #[] 0 0).2).alloc _
    · rw [W1_zero]
      exact Blk.atNew _ _ (e0 _ #[] _ 0).1
    · exact (((Below.refl _ _).alloc (Nat.le_refl _) _).alloc (by simp) _).alloc (by simp; omega) _
  · rintro W ⟨b1, b2, b3, hb⟩
    go_wp2_with (with_reducible refine wpList_load_blk rfl 76 (.tmp 1) rfl w.heap.size 0 64 rfl _ (u8s l) b1 (by rw [u8s_length]; omega) A hV _ rfl rfl (by kernel_rfl) ?_)
    go_loopw [10] (fun ix wr => ∃ i : Nat, i ≤ 64 ∧ ix = .int .i64 i ∧ Hid (Blk wr (w.heap.size + 1 + 1) 108 (u32s (W1 l i))) ∧ Hid (Blk wr (w.heap.size + 1) 108 (u32s (List.replicate 64 0))) ∧ Below w.heap.size w wr) (fun ix _ => 64 - (intOf ix).toNat)
    case atStart => exact ⟨0, by omega, rfl, Lib.hid b3, Lib.hid b2, hb⟩
    case round =>
      obtain ⟨i, hi, rfl, h3, h2, hbw⟩ := hrel
      by_cases h64 : i < 64
      · obtain ⟨c, hc⟩ : ∃ c, l[i]? = some c := ⟨l[i], List.getElem?_eq_getElem (by omega)⟩
        have hidx := fun W => run_index_u8s (t := 76) rfl l hl i c hc W
        rw [hA] at hidx
        have hcell := h3.out.cell (u32s_get (W1_get l i (i / 4) (by omega)))
        have hfz := h3.out.free (i / 4)
        have hx := shl8_or (wpart l i (i / 4)) c.toNat (wpart_lt l i) c.toNat_lt
        have hset := h3.out.set (i / 4) (.int .u32 ((wpart l i (i / 4) * 256 + c.toNat : Nat) : Int))
        rw [u32s_set, W1_set l i c hc h64] at hset
        have hoth := h2.out.other ⟨w.heap.size + 1 + 1, i / 4, none⟩ (.int .u32 ((wpart l i (i / 4) * 256 + c.toNat : Nat) : Int)) (by simp)
        have HS := Lib.hid hset
        have HO := Lib.hid hoth
        generalize wpart l i (i / 4) = X at hcell hx HS HO
        have HX := Lib.hid hx
        have hcI : (c.toNat : Int) ≤ 255 := by have := c.toNat_lt; omega
        clear hset hoth hx hV b1 b2 b3 hb hc
        go_wp2
        go_roundw
        case rel => exact ⟨i + 1, by omega, by go_num, by rw [HX.out]; exact HS, by rw [HX.out]; exact HO, hbw.setCell (by simp; omega) _⟩
        case measure => simp [intOf]; omega
      · have hi64 : i = 64 := by omega
        have h4 := h3.out
        rw [hi64, W1_end l hl] at h4
        clear hi64
        have H4 : Hid (Blk wr (w.heap.size + 1 + 1) 108 (u32s (E2 l 0))) := Lib.hid h4
        clear h3 h4 hV b1 b2 b3 hb
        go_wp2_with fail
        obtain ⟨w0, hw0⟩ : ∃ w0 : World, w0 = wr := ⟨_, rfl⟩
        rw [← hw0] at hbw H4 h2 ⊢
        clear hw0
        go_loopw [6] (fun ix wr => ∃ m : Nat, 16 ≤ m ∧ m ≤ 64 ∧ ix = .int .i64 m ∧ Hid (Blk wr (w.heap.size + 1 + 1) 108 (u32s (E2 l (m - 16)))) ∧ Hid (Blk wr (w.heap.size + 1) 108 (u32s (List.replicate 64 0))) ∧ Below w.heap.size w wr) (fun ix _ => 64 - (intOf ix).toNat)
        case atStart => exact ⟨16, by omega, by omega, rfl, H4, h2, hbw⟩
        case round =>
          obtain ⟨m, hm0, hm1, rfl, h3, h2', hbr⟩ := hrel
          by_cases h64 : m < 64
          · have ga := h3.out.cell (u32s_get (E2_get l (m - 16) (m - 2) (by omega)))
            have gb := h3.out.cell (u32s_get (E2_get l (m - 16) (m - 7) (by omega)))
            have gc := h3.out.cell (u32s_get (E2_get l (m - 16) (m - 15) (by omega)))
            have gd := h3.out.cell (u32s_get (E2_get l (m - 16) (m - 16) (by omega)))
            have la := E2_lt l (m - 16) (m - 2)
            have lb := E2_lt l (m - 16) (m - 7)
            have lc := E2_lt l (m - 16) (m - 15)
            have ld := E2_lt l (m - 16) (m - 16)
            have hsum := nextW_sum l (m - 16) _ _ _ _ (by rw [show 14 + (m - 16) = m - 2 by omega]) (by rw [show 9 + (m - 16) = m - 7 by omega]) (by rw [show 1 + (m - 16) = m - 15 by omega]) rfl
            generalize (ShaMath.extend (m - 16) (ShaMath.words 16 l)).getD (m - 2) 0 = a at ga la hsum
            generalize (ShaMath.extend (m - 16) (ShaMath.words 16 l)).getD (m - 7) 0 = b at gb lb hsum
            generalize (ShaMath.extend (m - 16) (ShaMath.words 16 l)).getD (m - 15) 0 = c at gc lc hsum
            generalize (ShaMath.extend (m - 16) (ShaMath.words 16 l)).getD (m - 16) 0 = d at gd ld hsum
            have HSUM := Lib.hid hsum
            have mI0 : (16 : Int) ≤ m := by omega
            have mI1 : (m : Int) < 64 := by omega
            clear hsum H4 h2 hbw
            go_wp2_with fail
            go_quiet (fail)
            have k3 : Blk (wr.drewN nq) (w.heap.size + 1 + 1) 108 (u32s (E2 l (m - 16))) := h3.out.same rfl
            have k2 : Blk (wr.drewN nq) (w.heap.size + 1) 108 (u32s (List.replicate 64 0)) := h2'.out.same rfl
            have kb : Below w.heap.size w (wr.drewN nq) := ⟨hbr.os, hbr.tape, hbr.output, hbr.size, hbr.block⟩
            have gb' : (wr.drewN nq).cell? ⟨w.heap.size + 1 + 1, m - 7, none⟩ = some (.int .u32 b) := gb
            have gd' : (wr.drewN nq).cell? ⟨w.heap.size + 1 + 1, m - 16, none⟩ = some (.int .u32 d) := gd
            clear h3 h2' hbr ga gb gc gd
            generalize wr.drewN nq = W2 at k3 k2 kb gb' gd' ⊢
            have t17 := fun W => turn_any a 17 W la (by decide) (by decide)
            have t19 := fun W => turn_any a 19 W la (by decide) (by decide)
            have t7 := fun W => turn_any c 7 W lc (by decide) (by decide)
            have t18 := fun W => turn_any c 18 W lc (by decide) (by decide)
            have s1 := small1_bits a la
            have s0 := small0_bits c lc
            have s1l := small1_lt a la
            have s0l := small0_lt c lc
            have hN := nextW_lt (ShaMath.extend (m - 16) (ShaMath.words 16 l))
            have hst := k3.set m (.int .u32 ((ShaMath.nextW (ShaMath.extend (m - 16) (ShaMath.words 16 l)) : Nat) : Int))
            have hE := E2_set l (m - 16) (by omega)
            rw [show 16 + (m - 16) = m by omega, show m - 16 + 1 = m + 1 - 16 by omega] at hE
            rw [u32s_set, hE] at hst
            have hot := k2.other ⟨w.heap.size + 1 + 1, m, none⟩ (.int .u32 ((ShaMath.nextW (ShaMath.extend (m - 16) (ShaMath.words 16 l)) : Nat) : Int)) (by simp)
            have hsm := HSUM.out
            generalize ShaMath.nextW (ShaMath.extend (m - 16) (ShaMath.words 16 l)) = N at hst hot hsm hN
            generalize ShaMath.rot a 17 = ra at t17 s1
            generalize ShaMath.rot a 19 = rb at t19 s1
            generalize ShaMath.rot c 7 = rc at t7 s0
            generalize ShaMath.rot c 18 = rd at t18 s0
            generalize ShaMath.small1 a = S1 at s1 s1l hsm
            generalize ShaMath.small0 c = S0 at s0 s0l hsm
            have hsI : ((S1 : Int) + b + S0 + d) % 4294967296 = (N : Int) := by omega
            have HI := Lib.hid hsI
            have HST := Lib.hid hst
            have HOT := Lib.hid hot
            obtain ⟨u0, hu0⟩ : ∃ u, W2.cell? ⟨w.heap.size + 1 + 1, m, none⟩ = some u := ⟨_, k3.cell (List.getElem?_eq_getElem (by rw [u32s_length, E2_length l _ (by omega)]; omega))⟩
            have hfz := k3.free m
            clear hsm hsI hst hot hE HSUM k3 k2
            go_wp2_with (first
              | (go_at_call_of 80 (Value.int .i64 17); refine (t17 _).mono ?_; rintro e w' ⟨rfl, rfl⟩)
              | (go_at_call_of 80 (Value.int .i64 19); refine (t19 _).mono ?_; rintro e w' ⟨rfl, rfl⟩)
              | (go_at_call_of 80 (Value.int .i64 7); refine (t7 _).mono ?_; rintro e w' ⟨rfl, rfl⟩)
              | (go_at_call_of 80 (Value.int .i64 18); refine (t18 _).mono ?_; rintro e w' ⟨rfl, rfl⟩))
            have w7 : IntKind.i64.wrap ((m : Int) - 7) = ((m - 7 : Nat) : Int) := by simp [IntKind.wrap, IntKind.signed, IntKind.bits]; omega
            have w16 : IntKind.i64.wrap ((m : Int) - 16) = ((m - 16 : Nat) : Int) := by simp [IntKind.wrap, IntKind.signed, IntKind.bits]; omega
            obtain ⟨p7, hp7⟩ : ∃ p, m - 7 = p := ⟨_, rfl⟩
            obtain ⟨p16, hp16⟩ : ∃ p, m - 16 = p := ⟨_, rfl⟩
            rw [hp7] at gb' w7
            rw [hp16] at gd' w16
            have l7 : (p7 : Int) < 64 := by omega
            have l16 : (p16 : Int) < 64 := by omega
            clear hp7 hp16
            go_still_tail 15, (by kernel_rfl)
            change wpList _ _ _ _ _ W2.drew
            go_wp2
            go_roundw
            case rel =>
              refine ⟨m + 1, by omega, by omega, by go_num, Lib.hid ?_, Lib.hid ?_, ?_⟩
              · rw [HI.out]; exact HST.out
              · rw [HI.out]; exact HOT.out
              · exact (kb.setCell (by simp; omega) _).drew
            case measure => simp [intOf]; omega
          · obtain rfl : m = 64 := by omega
            have k3 := h3.out
            have k2 := h2'.out
            rw [show 64 - 16 = 48 from rfl, E2_end] at k3
            have hsl : (ShaMath.sched l).length = 64 := by rw [← E2_end, E2_length l 48 (by omega)]
            have hV2 : (((u32s (ShaMath.sched l)).drop 0).take 64).toArray = (u32s (ShaMath.sched l)).toArray := by rw [List.drop_zero, List.take_of_length_le (by rw [u32s_length]; omega)]
            generalize hS : ShaMath.sched l = S at k3 hsl hV2
            have HS := Lib.hid hS
            obtain ⟨B, hB⟩ : ∃ B, (u32s S).toArray = B := ⟨_, rfl⟩
            rw [hB] at hV2
            clear h3 h2' hS H4 h2 hbw
            go_wp2_with (first
              | (with_reducible refine wpList_load_blk rfl 108 (.tmp 3) rfl (w.heap.size + 1 + 1) 0 64 rfl _ (u32s S) k3 (by rw [u32s_length]; omega) B hV2 _ rfl rfl (by kernel_rfl) ?_)
              | (with_reducible refine wpList_store_blk rfl 108 (.tmp 2) (.tmp 69) rfl (w.heap.size + 1) 0 rfl _ _ k2 (u32s S) B (by rw [← hB]) rfl (by rw [u32s_length, u32s_length, List.length_replicate]; omega) (by rw [u32s_length, hsl]; kernel_rfl) (u32s_one S) ?_; intro w4 hg4 hs4 hB4))
            refine bodyPost_ret (results_arr rfl _ _ (w.heap.size + 1) (u32s S) rfl ?_ rfl rfl (by rw [u32s_length, hsl]; kernel_rfl)) rfl ⟨?_, ?_⟩
            · rw [Nat.zero_add, List.take_zero, List.nil_append, List.drop_of_length_le (by rw [u32s_length, u32s_length, List.length_replicate, hsl]; exact Nat.le_refl _), List.append_nil] at hB4; exact hB4
            · rw [HS.out]
            · exact hbr.grown hg4 hbr.size (fun k h => by cases h; simp)
end Go.Proofs.YtmldhnghfdhjmaaDoor
