/-
  CONTRACT of the reference's block: a block worked in.
  CONDITIONS: each theorem's own hypotheses.
-/
import Derived.Test.YtmldhnghfdhjmaaDoorShaC
import Derived.Test.YtmldhnghfdhjmaaDoorStir
namespace Go.Proofs.YtmldhnghfdhjmaaDoor
open Go.RowKit CodeMath
set_option linter.unusedVariables false

theorem choice_or (h : ShaMath.St) (o : Ok8 h) : bits .or .u32 (bits .and .u32 (h.t : Int) (h.u : Int)) (bits .and .u32 (bits .xor .u32 (if IntKind.u32.signed = true then -1 else IntKind.u32.max) (h.t : Int)) (h.v : Int)) = ((choice h : Nat) : Int) := by
  rw [show (if IntKind.u32.signed = true then (-1 : Int) else IntKind.u32.max) = ((4294967295 : Nat) : Int) from rfl, u32_xor_nat _ _ (by decide) o.t, not_nat _ o.t, u32_and_nat _ _ o.t o.u, u32_and_nat _ _ (by omega) o.v, u32_or_nat _ _ (and_lt _ _ o.t) (and_lt _ _ (by omega))]
  rfl
theorem most_or (h : ShaMath.St) (o : Ok8 h) : bits .or .u32 (bits .or .u32 (bits .and .u32 (h.p : Int) (h.q : Int)) (bits .and .u32 (h.p : Int) (h.r : Int))) (bits .and .u32 (h.q : Int) (h.r : Int)) = ((most h : Nat) : Int) := by
  rw [u32_and_nat _ _ o.p o.q, u32_and_nat _ _ o.p o.r, u32_and_nat _ _ o.q o.r, u32_or_nat _ _ (and_lt _ _ o.p) (and_lt _ _ o.p), u32_or_nat _ _ (Nat.or_lt_two_pow (n := 32) (and_lt _ _ o.p) (and_lt _ _ o.p)) (and_lt _ _ o.q)]
  rfl
/-- Of the words of the rounds, as hex digits, the i-th one. -/
theorem hexK (s : ByteArray) (hs : (decide (s.data.toList.length = 512) && s.data.toList.all fun c => decide (48 ≤ c.toNat ∧ c.toNat ≤ 57 ∨ 97 ≤ c.toNat ∧ c.toNat ≤ 102)) = true)
    (hk : ((List.range 64).all fun i => decide (hexL ((s.data.toList.drop (8 * i)).take 8) = ShaMath.kk.getD i 0)) = true) (i : Nat) (hi : i < 64) (w : World) :
    Calls Tryd.prog 69 #[.string s, .int .i64 i] w fun e w' => e = .returned (.int .u32 (ShaMath.kk.getD i 0 : Nat)) ∧ Below w.heap.size w w' := by
  simp only [Bool.and_eq_true, decide_eq_true_eq, List.all_eq_true] at hs
  simp only [List.all_eq_true, List.mem_range, decide_eq_true_eq] at hk
  have h := hexWord_any s.data.toList i w (by omega) (by omega) (fun c hc => hs.2 c hc)
  rw [hk i hi, ← str_eq] at h
  exact h
theorem one_wrap (h : ShaMath.St) (k w : Nat) : (((((h.x : Int) + (ShaMath.big1 h.t : Nat)) % 4294967296 + (choice h : Nat)) % 4294967296 + (k : Nat)) % 4294967296 + (w : Nat)) % 4294967296 = ((ShaMath.one h k w : Nat) : Int) := by
  rw [← one_sum]
  omega
set_option maxRecDepth 100000 in
set_option maxHeartbeats 4000000 in
theorem block_any (h : ShaMath.St) (o : Ok8 h) (l : List UInt8) (w : World) (hl : l.length = 64) :
    Calls Tryd.prog 76 #[.agg (u32s (lst h)).toArray, .string (str l)] w fun e w' => e = .returned (.agg (u32s (lst (ShaMath.blk h l))).toArray) ∧ Below w.heap.size w w' := by
  have cS := fun W => schedule_any l W hl
  obtain ⟨SL, hSL⟩ : ∃ SL, str l = SL := ⟨_, rfl⟩
  rw [hSL] at cS ⊢
  obtain ⟨H, hH⟩ : ∃ H, (u32s (lst h)).toArray = H := ⟨_, rfl⟩
  rw [hH]
  clear hSL
  go_enter Tryd.func76, Tryd.ntmps76
  go_upto_region 1 with fail
  refine wp_gen (fun W => Blk W w.heap.size 75 (u32s (lst h)) ∧ Blk W (w.heap.size + 1) 75 (u32s (List.replicate 8 0)) ∧ Below w.heap.size w W) ?_ ?_
  · refine ⟨?_, Blk.atNew _ _ (by simp), ((Below.refl _ _).alloc (Nat.le_refl _) _).alloc (by simp) _⟩
    rw [← hH]
    exact (Blk.new w (u32s (lst h)).toArray 75).alloc _
  rintro W ⟨b1, b2, hb⟩
  go_upto_region 2 with (go_at_call 81; refine (cS _).mono ?_; rintro e w4 ⟨v4, rfl, ho4, hb4⟩)
  have hsl : (ShaMath.sched l).length = 64 := by rw [← E2_end, E2_length l 48 (by omega)]
  obtain ⟨g4, cap4, rfl, hc4, hd4⟩ := ho4.shape1 (by rw [hsl]; omega)
  have hsy : ∀ j, (ShaMath.sched l).getD j 0 < 4294967296 := fun j => by have := E2_lt l 48 j; exact this
  rw [hsl] at hc4 ho4 ⊢
  have c4 : ∀ j, j < 64 → w4.cell? ⟨g4, j, none⟩ = some (.int .u32 ((ShaMath.sched l).getD j 0 : Nat)) := fun j hj => ho4.cell' hsl j hj
  have lt4 : g4 < w4.heap.size := (ho4.lt g4 rfl).2
  have k1 := b1.call hb4
  have k2 := b2.call hb4
  have kb : Below w.heap.size w w4 := below_step hb hb.size hb4
  clear b1 b2 hb hb4 cS ho4
  generalize hS : ShaMath.sched l = S at hsl c4 hsy
  have HS := Lib.hid hS
  have C4 := Lib.hid c4
  have SY := Lib.hid hsy
  clear hS c4 hsy hsl
  have c0 := k1.cell (u32s_get (show (lst h)[0]? = some h.p from rfl))
  have c1 := k1.cell (u32s_get (show (lst h)[1]? = some h.q from rfl))
  have c2 := k1.cell (u32s_get (show (lst h)[2]? = some h.r from rfl))
  have c3 := k1.cell (u32s_get (show (lst h)[3]? = some h.s from rfl))
  have c4 := k1.cell (u32s_get (show (lst h)[4]? = some h.t from rfl))
  have c5 := k1.cell (u32s_get (show (lst h)[5]? = some h.u from rfl))
  have c6 := k1.cell (u32s_get (show (lst h)[6]? = some h.v from rfl))
  have c7 := k1.cell (u32s_get (show (lst h)[7]? = some h.x from rfl))
  go_quiet (fail)
  have k1' : Blk (w4.drewN nq) w.heap.size 75 (u32s (lst h)) := k1.same rfl
  have k2' : Blk (w4.drewN nq) (w.heap.size + 1) 75 (u32s (List.replicate 8 0)) := k2.same rfl
  have kb' : Below w.heap.size w (w4.drewN nq) := below_drewN kb nq
  have C4' : Hid (∀ j, j < 64 → (w4.drewN nq).cell? ⟨g4, j, none⟩ = some (.int .u32 (S.getD j 0 : Nat))) := C4
  have lt4' : g4 < (w4.drewN nq).heap.size := lt4
  clear k1 k2 kb C4 lt4 c0 c1 c2 c3 c4 c5 c6 c7
  generalize w4.drewN nq = w5 at k1' k2' kb' C4' lt4' ⊢
  go_wp2_with fail
  go_loopw [6, 7, 8, 9, 10, 11, 12, 13, 14] (fun t5 t6 t7 t8 t9 t10 t11 t12 ix wr => ∃ (i : Nat) (g : ShaMath.St), i ≤ 64 ∧ ix = .int .i64 i ∧ Hid (g = ShaMath.roundsN i ShaMath.kk S h) ∧ t5 = .int .u32 (g.p : Nat) ∧ t6 = .int .u32 (g.q : Nat) ∧ t7 = .int .u32 (g.r : Nat) ∧ t8 = .int .u32 (g.s : Nat) ∧ t9 = .int .u32 (g.t : Nat) ∧ t10 = .int .u32 (g.u : Nat) ∧ t11 = .int .u32 (g.v : Nat) ∧ t12 = .int .u32 (g.x : Nat) ∧ Below w5.heap.size w5 wr) (fun _ _ _ _ _ _ _ _ ix _ => 64 - (intOf ix).toNat)
  case atStart => exact ⟨0, h, by omega, rfl, Lib.hid rfl, rfl, rfl, rfl, rfl, rfl, rfl, rfl, rfl, Below.refl _ _⟩
  case round =>
    obtain ⟨i, g, hi, rfl, hg, rfl, rfl, rfl, rfl, rfl, rfl, rfl, rfl, hbr⟩ := hrel
    by_cases h64 : i < 64
    · have hnext : Hid (ShaMath.round g (ShaMath.kk.getD i 0) (S.getD i 0) = ShaMath.roundsN (i + 1) ShaMath.kk S h) := Lib.hid (by rw [rounds_snoc, ← hg.out])
      have hidx : ∀ W, Below wr.heap.size wr W → W.cell? ⟨g4, i, none⟩ = some (.int .u32 (S.getD i 0 : Nat)) := fun W hW => (hW.cell (p := ⟨g4, i, none⟩) (Nat.lt_of_lt_of_le lt4' hbr.size)).trans ((hbr.cell (p := ⟨g4, i, none⟩) lt4').trans (C4'.out i h64))
      have cH := fun s h1 h2 W => hexK s h1 h2 i h64 W
      have hsx := SY.out i
      obtain ⟨sx, hsx'⟩ : ∃ sx, S.getD i 0 = sx := ⟨_, rfl⟩
      obtain ⟨kx, hkx⟩ : ∃ kx, ShaMath.kk.getD i 0 = kx := ⟨_, rfl⟩
      rw [hsx'] at hidx hnext hsx
      rw [hkx] at cH hnext
      have HID := Lib.hid hidx
      have CH := Lib.hid cH
      clear hsx' hkx hidx cH
      have og : Ok8 g := by rw [hg.out]; exact rounds_ok _ _ _ _ o
      have z1 := choice_or g og
      have z2 := most_or g og
      have z3 := big1_bits g.t og.t
      have z4 := big0_bits g.p og.p
      have z5 := Lib.hid (one_wrap g kx sx)
      have z6 := Lib.hid (two_sum g)
      have t6 := fun W => rot_at g.t 6 6 rfl W og.t (by decide) (by decide)
      have t11 := fun W => rot_at g.t 11 11 rfl W og.t (by decide) (by decide)
      have t25 := fun W => rot_at g.t 25 25 rfl W og.t (by decide) (by decide)
      have t2 := fun W => rot_at g.p 2 2 rfl W og.p (by decide) (by decide)
      have t13 := fun W => rot_at g.p 13 13 rfl W og.p (by decide) (by decide)
      have t22 := fun W => rot_at g.p 22 22 rfl W og.p (by decide) (by decide)
      have hr : (ShaMath.round g kx sx).p = (ShaMath.one g kx sx + ShaMath.two g) % 4294967296 ∧ (ShaMath.round g kx sx).t = (g.s + ShaMath.one g kx sx) % 4294967296 := ⟨rfl, rfl⟩
      generalize ShaMath.rot g.t 6 = r6 at t6 z3
      generalize ShaMath.rot g.t 11 = r11 at t11 z3
      generalize ShaMath.rot g.t 25 = r25 at t25 z3
      generalize ShaMath.rot g.p 2 = r2 at t2 z4
      generalize ShaMath.rot g.p 13 = r13 at t13 z4
      generalize ShaMath.rot g.p 22 = r22 at t22 z4
      have HR := Lib.hid hr
      have iI : (i : Int) < 64 := by omega
      clear hr hg og
      go_upto_region 8 with fail
      refine wp_region_det 20 (by kernel_rfl) (by kernel_rfl) (by kernel_rfl) ?_
      simp only [List.take_succ_cons, List.take_zero, List.drop_succ_cons, List.drop_zero]
      repeat (first
        | (apply wpDet_plain _ rfl; (focus (intro W hW; go_simp; exact ⟨rfl, Below.refl _ _⟩)); simp only [Act.put, List.setIfInBounds_toArray, List.set_cons_zero, List.set_cons_succ])
        | (apply wpDet_plain _ rfl; (focus (intro W hW; have q1 := HID.out W hW; go_simp; exact ⟨rfl, Below.refl _ _⟩)); simp only [Act.put, List.setIfInBounds_toArray, List.set_cons_zero, List.set_cons_succ])
        | (apply wpDet_plain _ rfl; (focus (intro W hW; go_simp; (first | (with_reducible refine (t6 W).mono ?_) | (with_reducible refine (t11 W).mono ?_) | (with_reducible refine (t25 W).mono ?_)); rintro e w' ⟨rfl, hb⟩; exact ⟨rfl, hb⟩)); simp only [Act.put, List.setIfInBounds_toArray, List.set_cons_zero, List.set_cons_succ])
        | (apply wpDet_plain _ rfl; (focus (intro W hW; go_simp; refine (CH.out _ (by decide +kernel) (by decide +kernel) W).mono ?_; rintro e w' ⟨rfl, hb⟩; exact ⟨rfl, hb⟩)); simp only [Act.put, List.setIfInBounds_toArray, List.set_cons_zero, List.set_cons_succ]))
      refine wpDet_nil ?_
      intro W hW
      have hbW := hbr.trans (hW.mono hbr.size)
      clear HID CH hW hbr t6 t11 t25 z1 z3 
      go_wp2_with (first
        | (go_at_call 82; (with_reducible refine (t2 _).mono ?_); rintro e w' ⟨rfl, hb⟩; have m1 := hbW.trans (hb.mono hbW.size); clear hb t2)
        | (go_at_call 82; (with_reducible refine (t13 _).mono ?_); rintro e w' ⟨rfl, hb⟩; have m2 := m1.trans (hb.mono m1.size); clear hb t13)
        | (go_at_call 82; (with_reducible refine (t22 _).mono ?_); rintro e w' ⟨rfl, hb⟩; have m3 := m2.trans (hb.mono m2.size); clear hb t22))
      go_roundw
      case rel =>
        refine ⟨i + 1, ShaMath.round g kx sx, by omega, by go_num, hnext, ?_, rfl, rfl, rfl, ?_, rfl, rfl, rfl, m3⟩
        · rw [z5.out, z6.out, HR.out.1, cast_add_mod]
        · rw [z5.out, HR.out.2, cast_add_mod]
      case measure => simp [intOf]; omega
    · have hi64 : i = 64 := by omega
      have hgE := hg.out
      rw [hi64] at hgE
      have hblk : Hid (ShaMath.plus h g = ShaMath.blk h l) := Lib.hid (by rw [hgE, ← HS.out]; rfl)
      have iI : ¬ ((i : Int) < 64) := by omega
      have q1 := k1'.call hbr
      have q2 := k2'.call hbr
      have qb := kb'.trans (hbr.mono kb'.size)
      have c0 := q1.cell (u32s_get (show (lst h)[0]? = some h.p from rfl))
      have c1 := q1.cell (u32s_get (show (lst h)[1]? = some h.q from rfl))
      have c2 := q1.cell (u32s_get (show (lst h)[2]? = some h.r from rfl))
      have c3 := q1.cell (u32s_get (show (lst h)[3]? = some h.s from rfl))
      have c4 := q1.cell (u32s_get (show (lst h)[4]? = some h.t from rfl))
      have c5 := q1.cell (u32s_get (show (lst h)[5]? = some h.u from rfl))
      have c6 := q1.cell (u32s_get (show (lst h)[6]? = some h.v from rfl))
      have c7 := q1.cell (u32s_get (show (lst h)[7]? = some h.x from rfl))
      clear hi64 hgE hg q1 k1' k2' kb' C4' lt4' hbr h64
      have hpl : (u32s (lst (ShaMath.plus h g))).length = 8 := rfl
      have hz8 : (u32s (List.replicate 8 0)).length = 8 := rfl
      have e0 := cast_add_mod h.p g.p
      have e1 := cast_add_mod h.q g.q
      have e2 := cast_add_mod h.r g.r
      have e3 := cast_add_mod h.s g.s
      have e4 := cast_add_mod h.t g.t
      have e5 := cast_add_mod h.u g.u
      have e6 := cast_add_mod h.v g.v
      have e7 := cast_add_mod h.x g.x
      have hV : (#[.int .u32 (((h.p + g.p) % 4294967296 : Nat) : Int), .int .u32 (((h.q + g.q) % 4294967296 : Nat) : Int), .int .u32 (((h.r + g.r) % 4294967296 : Nat) : Int), .int .u32 (((h.s + g.s) % 4294967296 : Nat) : Int), .int .u32 (((h.t + g.t) % 4294967296 : Nat) : Int), .int .u32 (((h.u + g.u) % 4294967296 : Nat) : Int), .int .u32 (((h.v + g.v) % 4294967296 : Nat) : Int), .int .u32 (((h.x + g.x) % 4294967296 : Nat) : Int)] : Array Value) = (u32s (lst (ShaMath.plus h g))).toArray := rfl
      generalize (h.p + g.p) % 4294967296 = y0 at e0 hV
      generalize (h.q + g.q) % 4294967296 = y1 at e1 hV
      generalize (h.r + g.r) % 4294967296 = y2 at e2 hV
      generalize (h.s + g.s) % 4294967296 = y3 at e3 hV
      generalize (h.t + g.t) % 4294967296 = y4 at e4 hV
      generalize (h.u + g.u) % 4294967296 = y5 at e5 hV
      generalize (h.v + g.v) % 4294967296 = y6 at e6 hV
      generalize (h.x + g.x) % 4294967296 = y7 at e7 hV
      have HV := Lib.hid hV
      clear hV
      go_wp2_with (with_reducible refine wpList_store_blk rfl 75 (.tmp 4) (.tmp 134) rfl (w.heap.size + 1) 0 rfl _ _ q2 (u32s (lst (ShaMath.plus h g))) _ (congrArg Array.toList HV.out) rfl (by rw [hpl, hz8]; omega) (by rw [hpl]; kernel_rfl) (u32s_one _) ?_; intro w7 hg7 hs7 hB7)
      refine bodyPost_ret (results_arr rfl _ _ (w.heap.size + 1) (u32s (lst (ShaMath.plus h g))) rfl ?_ rfl rfl (by rw [hpl]; kernel_rfl)) rfl ⟨by rw [hblk.out], ?_⟩
      · rw [Nat.zero_add, List.take_zero, List.nil_append, List.drop_of_length_le (by rw [hpl, hz8]; exact Nat.le_refl _), List.append_nil] at hB7; exact hB7
      · exact qb.grown hg7 qb.size (fun k h => by cases h; omega)
end Go.Proofs.YtmldhnghfdhjmaaDoor
