/-
  CONTRACT of package sum's stir: a block worked in.
  CONDITIONS: package sum's roundWords hold what their initialiser lays ('KW').
-/
import Derived.Test.YtmldhnghfdhjmaaDoorStirMath
import Derived.Test.YtmldhnghfdhjmaaDoorSpread
import Derived.Test.YtmldhnghfdhjmaaDoorOwnB
namespace Go.Proofs.YtmldhnghfdhjmaaDoor
open Go.RowKit CodeMath
set_option linter.unusedVariables false

/-- The words of the rounds lie where their variable is. -/
def KW (w : World) : Prop := 0 < w.heap.size ∧ ∀ i x, ShaMath.kk[i]? = some x → w.cell? ⟨0, i, none⟩ = some (.int .u32 (x : Nat))
theorem KW.keep {w w' : World} {B : Nat} (h : KW w) (hb : Below B w w') (hB : w.heap.size ≤ B) : KW w' :=
  ⟨Nat.lt_of_lt_of_le h.1 hb.size, fun i x hx => (hb.cell (p := ⟨0, i, none⟩) (Nat.lt_of_lt_of_le h.1 hB)).trans (h.2 i x hx)⟩
theorem kk_length : ShaMath.kk.length = 64 := rfl
theorem kk_get (i : Nat) (h : i < 64) : ShaMath.kk[i]? = some (ShaMath.kk.getD i 0) := by
  rw [List.getD_eq_getElem?_getD, List.getElem?_eq_getElem (by rw [kk_length]; exact h)]
  rfl
set_option maxRecDepth 100000 in
set_option maxHeartbeats 4000000 in
theorem stir_any (h : ShaMath.St) (o : Ok8 h) (l : List UInt8) (w : World) (hl : l.length = 64) (hT : KW w) :
    Calls Tryd.prog 74 #[.agg (u32s (lst h)).toArray, .agg (u8s l).toArray] w fun e w' => e = .returned (.agg (u32s (lst (ShaMath.blk h l))).toArray) ∧ Below w.heap.size w w' := by
  obtain ⟨A, hA⟩ : ∃ A, (u8s l).toArray = A := ⟨_, rfl⟩
  obtain ⟨H, hH⟩ : ∃ H, (u32s (lst h)).toArray = H := ⟨_, rfl⟩
  rw [hA, hH]
  go_enter Tryd.func74, Tryd.ntmps74
  go_upto_region 1 with fail
  refine wp_gen (fun W => Blk W w.heap.size 75 (u32s (lst h)) ∧ Blk W (w.heap.size + 1) 76 (u8s l) ∧ Blk W (w.heap.size + 1 + 1) 75 (u32s (List.replicate 8 0)) ∧ Below w.heap.size w W) ?_ ?_
  · have e0 : ∀ (a b : Array Value) (S T : TypeId), (((w.alloc (.cells H 75)).alloc (.cells a S)).heap.size = w.heap.size + 1 + 1) ∧ ((w.alloc (.cells H 75)).heap.size = w.heap.size + 1) := fun a b S T => ⟨by simp, by simp⟩
    refine ⟨?_, ?_, ?_, ?_⟩
    · rw [← hH]
      exact ((Blk.new w (u32s (lst h)).toArray 75).alloc _).alloc _
    · rw [← hA]
      exact (Blk.atNew (w := w.alloc (.cells H 75)) (g := w.heap.size + 1) (u8s l).toArray _ (e0 #[] #[] 0 0).2).alloc _
    · exact Blk.atNew _ _ (e0 _ #[] _ 0).1
    · exact (((Below.refl _ _).alloc (Nat.le_refl _) _).alloc (by simp) _).alloc (by simp; omega) _
  · rintro W ⟨b1, b2, b3, hb⟩
    have c0 := b1.cell (u32s_get (show (lst h)[0]? = some h.p from rfl))
    have c1 := b1.cell (u32s_get (show (lst h)[1]? = some h.q from rfl))
    have c2 := b1.cell (u32s_get (show (lst h)[2]? = some h.r from rfl))
    have c3 := b1.cell (u32s_get (show (lst h)[3]? = some h.s from rfl))
    have c4 := b1.cell (u32s_get (show (lst h)[4]? = some h.t from rfl))
    have c5 := b1.cell (u32s_get (show (lst h)[5]? = some h.u from rfl))
    have c6 := b1.cell (u32s_get (show (lst h)[6]? = some h.v from rfl))
    have c7 := b1.cell (u32s_get (show (lst h)[7]? = some h.x from rfl))
    go_quiet (fail)
    go_wp2_with fail
    go_quiet (fail)
    rename_i nq1 nq2
    refine wp_gen_exit (fun W2 => Blk W2 w.heap.size 75 (u32s (lst h)) ∧ Blk W2 (w.heap.size + 1) 76 (u8s l) ∧ Blk W2 (w.heap.size + 1 + 1) 75 (u32s (List.replicate 8 0)) ∧ Below w.heap.size w W2) ⟨b1.same rfl, b2.same rfl, b3.same rfl, ⟨hb.os, hb.tape, hb.output, hb.size, hb.block⟩⟩ ?_
    clear b1 b2 b3 hb c0 c1 c2 c3 c4 c5 c6 c7
    rintro W2 ⟨b1, b2, b3, hb⟩
    have hV : (((u8s l).drop 0).take 64).toArray = A := by rw [← hA, List.drop_zero, List.take_of_length_le (by rw [u8s_length]; omega)]
    have cS := fun W => spread_any l W hl
    rw [hA] at cS
    obtain ⟨B, hB⟩ : ∃ B, (u32s (ShaMath.sched l)).toArray = B := ⟨_, rfl⟩
    rw [hB] at cS
    go_wp2_with (first
      | (with_reducible refine wpList_load_blk rfl 76 (.tmp 3) rfl (w.heap.size + 1) 0 64 rfl _ (u8s l) b2 (by rw [u8s_length]; omega) A hV _ rfl rfl (by kernel_rfl) ?_)
      | (go_at_call 79; refine (cS _).mono ?_; rintro e w4 ⟨rfl, hb4⟩))
    have hsl : (ShaMath.sched l).length = 64 := by rw [← E2_end, E2_length l 48 (by omega)]
    have k1 := b1.call hb4
    have k3 := b3.call hb4
    have kb : Below w.heap.size w w4 := below_step hb hb.size hb4
    clear b1 b2 b3 hb hb4 cS hV
    generalize hS : ShaMath.sched l = S at hsl hB
    have HS := Lib.hid hS
    clear hS
    go_loopw [5, 6, 7, 8, 9, 10, 11, 12, 39] (fun t5 t6 t7 t8 t9 t10 t11 t12 ix wr => ∃ (i : Nat) (g : ShaMath.St), i ≤ 64 ∧ ix = .int .i64 i ∧ Hid (g = ShaMath.roundsN i ShaMath.kk S h) ∧ t5 = .int .u32 (g.p : Nat) ∧ t6 = .int .u32 (g.q : Nat) ∧ t7 = .int .u32 (g.r : Nat) ∧ t8 = .int .u32 (g.s : Nat) ∧ t9 = .int .u32 (g.t : Nat) ∧ t10 = .int .u32 (g.u : Nat) ∧ t11 = .int .u32 (g.v : Nat) ∧ t12 = .int .u32 (g.x : Nat) ∧ Hid (Blk wr w.heap.size 75 (u32s (lst h))) ∧ Hid (Blk wr (w.heap.size + 1 + 1) 75 (u32s (List.replicate 8 0))) ∧ Below w.heap.size w wr) (fun _ _ _ _ _ _ _ _ ix _ => 64 - (intOf ix).toNat)
    case atStart => exact ⟨0, h, by omega, rfl, Lib.hid rfl, rfl, rfl, rfl, rfl, rfl, rfl, rfl, rfl, Lib.hid k1, Lib.hid k3, kb⟩
    case round =>
      obtain ⟨i, g, hi, rfl, hg, rfl, rfl, rfl, rfl, rfl, rfl, rfl, rfl, h1, h3, hbr⟩ := hrel
      by_cases h64 : i < 64
      · have hidx := fun W => run_index_u32s (t := 108) rfl S hsl i (S.getD i 0) (by rw [List.getD_eq_getElem?_getD, List.getElem?_eq_getElem (by omega)]; rfl) W
        rw [hB] at hidx
        have hk := (hT.keep hbr (Nat.le_refl _)).2 i _ (kk_get i h64)
        have hnext : Hid (ShaMath.round g (ShaMath.kk.getD i 0) (S.getD i 0) = ShaMath.roundsN (i + 1) ShaMath.kk S h) := Lib.hid (by rw [rounds_snoc, ← hg.out])
        obtain ⟨sx, hsx⟩ : ∃ sx, S.getD i 0 = sx := ⟨_, rfl⟩
        obtain ⟨kx, hkx⟩ : ∃ kx, ShaMath.kk.getD i 0 = kx := ⟨_, rfl⟩
        rw [hsx] at hidx hnext
        rw [hkx] at hk hnext
        clear hsx hkx
        have og : Ok8 g := by rw [hg.out]; exact rounds_ok _ _ _ _ o
        have z1 := choice_bits2 g og
        have z2 := most_bits g og
        have z3 := big1_bits g.t og.t
        have z4 := big0_bits g.p og.p
        have z5 := Lib.hid (one_sum g kx sx)
        have z6 := Lib.hid (two_sum g)
        have t6 := fun W => turn_same g.t 6 W og.t (by decide) (by decide)
        have t11 := fun W => turn_same g.t 11 W og.t (by decide) (by decide)
        have t25 := fun W => turn_same g.t 25 W og.t (by decide) (by decide)
        have t2 := fun W => turn_any g.p 2 W og.p (by decide) (by decide)
        have t13 := fun W => turn_any g.p 13 W og.p (by decide) (by decide)
        have t22 := fun W => turn_any g.p 22 W og.p (by decide) (by decide)
        have hr : (ShaMath.round g kx sx).p = (ShaMath.one g kx sx + ShaMath.two g) % 4294967296 ∧ (ShaMath.round g kx sx).t = (g.s + ShaMath.one g kx sx) % 4294967296 := ⟨rfl, rfl⟩
        generalize ShaMath.rot g.t 6 = r6 at t6 z3
        generalize ShaMath.rot g.t 11 = r11 at t11 z3
        generalize ShaMath.rot g.t 25 = r25 at t25 z3
        generalize ShaMath.rot g.p 2 = r2 at t2 z4
        generalize ShaMath.rot g.p 13 = r13 at t13 z4
        generalize ShaMath.rot g.p 22 = r22 at t22 z4
        have HR := Lib.hid hr
        have iI : (i : Int) < 64 := by omega
        clear hr hg k1 k3 kb og
        go_upto_region 8 with fail
        go_quiet (first
          | (go_at_call_of 80 (Value.int .i64 6); refine Calls.quiet_of_same (t6 _))
          | (go_at_call_of 80 (Value.int .i64 11); refine Calls.quiet_of_same (t11 _))
          | (go_at_call_of 80 (Value.int .i64 25); refine Calls.quiet_of_same (t25 _)))
        have k1 : Blk (wr.drewN nq) w.heap.size 75 (u32s (lst h)) := h1.out.same rfl
        have k3 : Blk (wr.drewN nq) (w.heap.size + 1 + 1) 75 (u32s (List.replicate 8 0)) := h3.out.same rfl
        have kb : Below w.heap.size w (wr.drewN nq) := ⟨hbr.os, hbr.tape, hbr.output, hbr.size, hbr.block⟩
        have K1 := Lib.hid k1
        have K3 := Lib.hid k3
        clear k1 k3 h1 h3 hbr
        generalize wr.drewN nq = W5 at K1 K3 kb ⊢
        go_wp2_with (first
          | (go_at_call_of 80 (Value.int .i64 2); refine (t2 _).mono ?_; rintro e w' ⟨rfl, rfl⟩)
          | (go_at_call_of 80 (Value.int .i64 13); refine (t13 _).mono ?_; rintro e w' ⟨rfl, rfl⟩)
          | (go_at_call_of 80 (Value.int .i64 22); refine (t22 _).mono ?_; rintro e w' ⟨rfl, rfl⟩))
        go_roundw
        case rel =>
          refine ⟨i + 1, ShaMath.round g kx sx, by omega, by go_num, hnext, ?_, rfl, rfl, rfl, ?_, rfl, rfl, rfl, K1, K3, kb⟩
          · rw [z5.out, z6.out, HR.out.1, cast_add_mod]
          · rw [z5.out, HR.out.2, cast_add_mod]
        case measure => simp [intOf]; omega
      · have hi64 : i = 64 := by omega
        have hgE := hg.out
        rw [hi64] at hgE
        have hblk : Hid (ShaMath.plus h g = ShaMath.blk h l) := Lib.hid (by rw [hgE, ← HS.out]; rfl)
        have iI : ¬ ((i : Int) < 64) := by omega
        clear hi64 hgE hg k1 k3 kb hsl
        go_upto_region 14 with fail
        have hsz := h3.out.lt
        refine wp_gen (fun W => Blk W wr.heap.size 75 (u32s (addL (lst g) (lst h) 0)) ∧ Blk W w.heap.size 75 (u32s (lst h)) ∧ Blk W (w.heap.size + 1 + 1) 75 (u32s (List.replicate 8 0)) ∧ Below w.heap.size w W) ⟨by rw [addL_zero]; exact Blk.new wr _ _, h1.out.alloc _, h3.out.alloc _, hbr.alloc hbr.size _⟩ ?_
        rintro W6 ⟨d1, d2, d3, db⟩
        generalize wr.heap.size = A6 at hsz d1 ⊢
        clear h1 h3 hbr h64 iI hi
        go_wp2_with fail
        go_loopw [112] (fun ix wr => ∃ j : Nat, j ≤ 8 ∧ ix = .int .i64 j ∧ Hid (Blk wr A6 75 (u32s (addL (lst g) (lst h) j))) ∧ Hid (Blk wr w.heap.size 75 (u32s (lst h))) ∧ Hid (Blk wr (w.heap.size + 1 + 1) 75 (u32s (List.replicate 8 0))) ∧ Below w.heap.size w wr) (fun ix _ => 8 - (intOf ix).toNat)
        case atStart => exact ⟨0, by omega, rfl, Lib.hid d1, Lib.hid d2, Lib.hid d3, db⟩
        case round =>
          obtain ⟨j, hj, rfl, e1, e2, e3, eb⟩ := hrel
          by_cases h8 : j < 8
          · have jI : (j : Int) < 8 := by omega
            have ca := e1.out.cell (u32s_get (addL_here (lst g) (lst h) j h8))
            have cb := e2.out.cell (u32s_get (lst_get h j h8))
            have cf := e1.out.free j
            have hst := e1.out.set j (.int .u32 ((((lst g).getD j 0 + (lst h).getD j 0) % 4294967296 : Nat) : Int))
            rw [u32s_set, addL_set _ _ _ h8] at hst
            have ho2 := e2.out.other ⟨A6, j, none⟩ (.int .u32 ((((lst g).getD j 0 + (lst h).getD j 0) % 4294967296 : Nat) : Int)) (by simp; omega)
            have ho3 := e3.out.other ⟨A6, j, none⟩ (.int .u32 ((((lst g).getD j 0 + (lst h).getD j 0) % 4294967296 : Nat) : Int)) (by simp; omega)
            generalize (lst g).getD j 0 = x at ca hst ho2 ho3
            generalize (lst h).getD j 0 = y at cb hst ho2 ho3
            rw [← cast_add_mod] at hst ho2 ho3
            have S1 := Lib.hid hst
            have S2 := Lib.hid ho2
            have S3 := Lib.hid ho3
            clear hst ho2 ho3 e1 e2 e3 d1 d2 d3 db
            go_upto_region 17 with fail
            go_still_tail 8, (by kernel_rfl)
            change wpList _ _ _ _ _ wr.drew
            go_wp2
            go_roundw
            case rel => exact ⟨j + 1, by omega, by go_num, S1, S2, S3, (eb.setCell (by simp; omega) _).drew⟩
            case measure => simp [intOf]; omega
          · have h8e : j = 8 := by omega
            have jI : ¬ ((j : Int) < 8) := by omega
            have k1 := e1.out
            have k3 := e3.out
            rw [h8e, addL_end, hblk.out] at k1
            clear h8e h8 e1 e2 e3 d1 d2 d3 db
            have hV : (((u32s (lst (ShaMath.blk h l))).drop 0).take 8).toArray = (u32s (lst (ShaMath.blk h l))).toArray := rfl
            obtain ⟨R, hR⟩ : ∃ R, (u32s (lst (ShaMath.blk h l))).toArray = R := ⟨_, rfl⟩
            rw [hR] at hV
            go_wp2_with (first
              | (with_reducible refine wpList_load_blk rfl 75 (.tmp 19) rfl A6 0 8 rfl _ (u32s (lst (ShaMath.blk h l))) k1 (by rw [u32s_length, lst_length]; omega) R hV _ rfl rfl (by kernel_rfl) ?_)
              | (with_reducible refine wpList_store_blk rfl 75 (.tmp 4) (.tmp 124) rfl (w.heap.size + 1 + 1) 0 rfl _ _ k3 (u32s (lst (ShaMath.blk h l))) R (by rw [← hR]) rfl (by rw [u32s_length, u32s_length, List.length_replicate, lst_length]; omega) (by rw [u32s_length, lst_length]; kernel_rfl) (u32s_one _) ?_; intro w7 hg7 hs7 hB7))
            refine bodyPost_ret (results_arr rfl _ _ (w.heap.size + 1 + 1) (u32s (lst (ShaMath.blk h l))) rfl ?_ rfl rfl (by rw [u32s_length, lst_length]; kernel_rfl)) rfl ⟨by rw [hR], ?_⟩
            · rw [Nat.zero_add, List.take_zero, List.nil_append, List.drop_of_length_le (by rw [u32s_length, u32s_length, List.length_replicate, lst_length]; exact Nat.le_refl _), List.append_nil] at hB7; exact hB7
            · exact eb.grown hg7 eb.size (fun k h => by cases h; omega)
end Go.Proofs.YtmldhnghfdhjmaaDoor
