/-
  CONTRACT of package sum's end: the sum of a stream.
  CONDITIONS: package sum's roundWords hold what their initialiser lays ('KW').
-/
import Derived.Test.YtmldhnghfdhjmaaDoorAdd
namespace Go.Proofs.YtmldhnghfdhjmaaDoor
open Go.RowKit CodeMath
set_option linter.unusedVariables false
set_option maxRecDepth 100000

theorem be_get (n : Int) (t : Nat) (h : t < 8) : (be n 8)[t]? = some (lowB (n / 256 ^ (7 - t))) := by
  rcases (show t = 0 ∨ t = 1 ∨ t = 2 ∨ t = 3 ∨ t = 4 ∨ t = 5 ∨ t = 6 ∨ t = 7 by omega) with rfl | rfl | rfl | rfl | rfl | rfl | rfl | rfl <;> rfl
/-- The last block when so many bytes of the number are in. -/
def lastL (P : List UInt8) (n : Int) (i : Nat) : List UInt8 := P ++ fillZ (be n 8) (i - 56)
theorem lastL_length (P : List UInt8) (n : Int) (i : Nat) (hP : P.length = 56) (hi : i ≤ 64) : (lastL P n i).length = 64 := by
  unfold lastL
  rw [List.length_append, fillZ_length _ _ (by rw [be_length]; omega), hP, be_length]
theorem lastL_set (P : List UInt8) (n : Int) (i : Nat) (hP : P.length = 56) (h56 : 56 ≤ i) (hi : i < 64) : (lastL P n i).set i (lowB (n / 256 ^ (63 - i))) = lastL P n (i + 1) := by
  unfold lastL
  rw [List.set_append_right _ _ (by omega), hP, fillZ_set _ _ _ (by rw [be_get n (i - 56) (by omega), show 7 - (i - 56) = 63 - i by omega]), show i - 56 + 1 = i + 1 - 56 by omega]
theorem lastL_end (P : List UInt8) (n : Int) : lastL P n 64 = P ++ be n 8 := by
  unfold lastL
  rw [show 64 - 56 = (be n 8).length by rw [be_length], fillZ_end]
theorem lastL_start (P : List UInt8) (n : Int) : lastL P n 56 = P ++ List.replicate 8 0 := by
  unfold lastL
  rw [Nat.sub_self, fillZ_zero, be_length]
theorem fin_one (h : ShaMath.St) (m : List UInt8) (N : Nat) (hm : m.length = N % 64) (hs : m.length < 56) :
    ShaMath.run ShaMath.blk h (m ++ ShaMath.pad N) = ShaMath.blk h ((m ++ (128 :: List.replicate (55 - m.length) 0)) ++ be (N * 8 : Nat) 8) := by
  have hn : ShaMath.noughts N = 55 - m.length := by unfold ShaMath.noughts; omega
  have e : m ++ ShaMath.pad N = (m ++ (128 :: List.replicate (55 - m.length) 0)) ++ be (N * 8 : Nat) 8 := by unfold ShaMath.pad; rw [hn]; simp
  have hl : ((m ++ (128 :: List.replicate (55 - m.length) 0)) ++ be (N * 8 : Nat) 8).length = 64 := by simp [be_length]; omega
  rw [e, ← List.append_nil ((m ++ (128 :: List.replicate (55 - m.length) 0)) ++ be (N * 8 : Nat) 8), run_block _ _ _ hl, ShaMath.run_short _ _ _ (by simp), List.append_nil]
theorem fin_two (h : ShaMath.St) (m : List UInt8) (N : Nat) (hm : m.length = N % 64) (hs : 56 ≤ m.length) (h64 : m.length < 64) :
    ShaMath.run ShaMath.blk h (m ++ ShaMath.pad N) = ShaMath.blk (ShaMath.blk h (m ++ (128 :: List.replicate (63 - m.length) 0))) (List.replicate 56 0 ++ be (N * 8 : Nat) 8) := by
  have hn : ShaMath.noughts N = (63 - m.length) + 56 := by unfold ShaMath.noughts; omega
  have e : m ++ ShaMath.pad N = (m ++ (128 :: List.replicate (63 - m.length) 0)) ++ ((List.replicate 56 0 ++ be (N * 8 : Nat) 8) ++ []) := by unfold ShaMath.pad; rw [hn, ← List.replicate_append_replicate]; simp
  have hl1 : (m ++ (128 :: List.replicate (63 - m.length) 0)).length = 64 := by simp; omega
  have hl2 : (List.replicate 56 (0 : UInt8) ++ be (N * 8 : Nat) 8).length = 64 := by simp [be_length]
  rw [e, run_block _ _ _ hl1, run_block _ _ _ hl2, ShaMath.run_short _ _ _ (by simp)]
/-- What is held, 128 behind it. -/
theorem marked (m : List UInt8) (h : m.length < 64) : (m ++ List.replicate (64 - m.length) 0).set m.length 128 = m ++ (128 :: List.replicate (63 - m.length) 0) := by
  rw [List.set_append_right _ _ (Nat.le_refl _), Nat.sub_self, show 64 - m.length = (63 - m.length) + 1 by omega, List.replicate_succ, List.set_cons_zero]
theorem marked_low (m : List UInt8) (h : m.length < 56) : m ++ (128 :: List.replicate (63 - m.length) 0) = (m ++ (128 :: List.replicate (55 - m.length) 0)) ++ List.replicate 8 0 := by
  rw [show 63 - m.length = (55 - m.length) + 8 by omega, ← List.replicate_append_replicate]; simp
set_option maxRecDepth 100000 in
set_option maxHeartbeats 4000000 in
theorem end_any (h : ShaMath.St) (o : Ok8 h) (m : List UInt8) (hm : m.length < 64) (N : Nat) (hN : m.length = N % 64) (hN1 : N ≤ 1152921504606846976) (w : World) (hT : KW w) :
    Calls Tryd.prog 63 #[.agg (can h m N).cells.toArray] w fun e w' => e = .returned (.agg (u8s (ShaMath.fin h m N)).toArray) ∧ Below w.heap.size w w' := by
  obtain ⟨A, hA⟩ : ∃ A, (can h m N).cells.toArray = A := ⟨_, rfl⟩
  rw [hA]
  have hch := can_held h m N (by omega)
  have hc74 := Stm.cells_length _ hch
  have mI : (m.length : Int) < 64 := by omega
  have HN := Lib.hid hN
  clear hN
  go_enter Tryd.func63, Tryd.ntmps63
  go_upto_region 1 with fail
  refine wp_gen (fun W => Blk W w.heap.size 78 (can h m N).cells ∧ Blk W (w.heap.size + 1) 51 (u8s (List.replicate 32 0)) ∧ Below w.heap.size w W) ?_ ?_
  · refine ⟨?_, Blk.atNew _ _ (by simp), ((Below.refl _ _).alloc (Nat.le_refl _) _).alloc (by simp) _⟩
    rw [← hA]
    exact (Blk.new w (can h m N).cells.toArray 78).alloc _
  rintro W ⟨b1, b2, hbw⟩
  obtain ⟨V1, hV1⟩ : ∃ V, (u8s (can h m N).held).toArray = V := ⟨_, rfl⟩
  have e1 : (((can h m N).cells.drop 8).take 64).toArray = V1 := by rw [Stm.get_all _ hch]; exact hV1
  have hl64 : (u8s (can h m N).held).length = 64 := by rw [u8s_length, hch]
  obtain ⟨V0, hV0⟩ : ∃ V, (u8s (List.replicate 64 0)).toArray = V := ⟨_, rfl⟩
  have z24 : ∀ W, (zeroValue 76).run Tryd.prog W = .ok (.agg V0) W := fun W => by rw [← hV0]; kernel_rfl
  have sz64 : (u8s (List.replicate 64 0)).length = 64 := by rw [u8s_length, List.length_replicate]
  have bn : Blk (W.alloc (.cells V0 76)) W.heap.size 76 (u8s (List.replicate 64 0)) := by rw [← hV0]; exact Blk.new W _ _
  go_upto_region 2 with (first
    | (with_reducible refine wpList_load_blk rfl 76 (.tmp 6) rfl w.heap.size 8 64 rfl _ _ b1 (by rw [hc74]; omega) V1 e1 _ rfl rfl (by kernel_rfl) ?_)
    | (with_reducible refine wpList_store_blk rfl 76 (.tmp 3) (.tmp 7) rfl W.heap.size 0 rfl _ _ bn (u8s (can h m N).held) V1 (by rw [← hV1]) rfl (by rw [hl64, sz64]; omega) (by rw [hl64]; kernel_rfl) (u8s_one _) ?_; intro w2 hg2 hs2 hB2))
  simp only [Act.put]
  rw [Nat.zero_add, List.take_zero, List.nil_append, List.drop_of_length_le (by rw [hl64, sz64]; exact Nat.le_refl _), List.append_nil] at hB2
  have hWs : w.heap.size + 1 < W.heap.size := b2.lt
  have b1' := (b1.alloc (.cells V0 76)).same (hg2.block w.heap.size (b1.alloc _).lt (by simp; omega))
  have b2' := (b2.alloc (.cells V0 76)).same (hg2.block (w.heap.size + 1) (b2.alloc _).lt (by simp; omega))
  have hbw2 : Below w.heap.size w w2 := (hbw.alloc hbw.size _).grown hg2 (by have := hbw.size; simp; omega) (fun k h => by cases h; exact hbw.size)
  generalize W.heap.size = A6 at hB2 hWs ⊢
  have hheld : (can h m N).held = m ++ List.replicate (64 - m.length) 0 := rfl
  have qn : w2.cell? ⟨w.heap.size, 72, none⟩ = some (.int .i64 (m.length : Int)) := b1'.cell ((can h m N).get_n hch)
  obtain ⟨c0, hc0⟩ : ∃ c, (can h m N).held[m.length]? = some c := ⟨_, List.getElem?_eq_getElem (by omega)⟩
  have ca := hB2.cell (u8s_get hc0)
  have cf := hB2.free m.length
  have hst := hB2.set m.length (.int .u8 (((128 : UInt8).toNat : Nat) : Int))
  rw [u8s_set, hheld, marked m hm] at hst
  have ho1 := b1'.other ⟨A6, m.length, none⟩ (.int .u8 (((128 : UInt8).toNat : Nat) : Int)) (show w.heap.size ≠ A6 by omega)
  have ho2 := b2'.other ⟨A6, m.length, none⟩ (.int .u8 (((128 : UInt8).toNat : Nat) : Int)) (show w.heap.size + 1 ≠ A6 by omega)
  have hb3 := hbw2.setCell (p := ⟨A6, m.length, none⟩) (show w.heap.size ≤ A6 by omega) (.int .u8 128)
  have S1 := Lib.hid hst
  have S2 := Lib.hid ho1
  have S3 := Lib.hid ho2
  clear hst ho1 ho2 hB2 b1' b2' b1 b2 hc0 hheld hbw2 hbw e1 bn
  go_upto_region 3 with fail
  refine wp_gen (fun W => Hid (Blk W w.heap.size 78 (can h m N).cells) ∧ Hid (Blk W (w.heap.size + 1) 51 (u8s (List.replicate 32 0))) ∧ Hid (Blk W A6 76 (u8s (m ++ (128 :: List.replicate (63 - m.length) 0)))) ∧ Below w.heap.size w W) ⟨S2, S3, S1, hb3⟩ ?_
  clear S1 S2 S3 hb3 qn ca cf
  rintro W6 ⟨d1, d2, d3, db⟩
  have qn : W6.cell? ⟨w.heap.size, 72, none⟩ = some (.int .i64 (m.length : Int)) := d1.out.cell ((can h m N).get_n hch)
  by_cases hs : m.length < 56
  · have hI : ¬ ((56 : Int) ≤ m.length) := by omega
    obtain ⟨h1, hh1⟩ : ∃ h1, h = h1 := ⟨_, rfl⟩
    obtain ⟨P, hPe⟩ : ∃ P, m ++ (128 :: List.replicate (55 - m.length) 0) = P := ⟨_, rfl⟩
    have hP : P.length = 56 := by rw [← hPe]; simp; omega
    have hfin := fin_one h m N HN.out hs
    have d3' := d3.out
    rw [marked_low m hs, hPe, ← lastL_start P (N * 8 : Nat)] at d3'
    rw [hPe] at hfin
    have D3 := Lib.hid d3'
    have D1 := d1
    rw [hh1] at D1
    have HF : Hid (ShaMath.run ShaMath.blk h (m ++ ShaMath.pad N) = ShaMath.blk h1 (P ++ be (N * 8 : Nat) 8)) := Lib.hid (by rw [hfin, hh1])
    have o1 : Ok8 h1 := hh1 ▸ o
    clear d3 d3' d1 hfin hPe hh1 hs
    go_upto_region 6 with fail
    refine wp_gen (fun W => Hid (Blk W w.heap.size 78 (can h1 m N).cells) ∧ Hid (Blk W (w.heap.size + 1) 51 (u8s (List.replicate 32 0))) ∧ Hid (Blk W A6 76 (u8s (lastL P (N * 8 : Nat) 56))) ∧ Below w.heap.size w W) ⟨D1, d2, D3, db⟩ ?_
    rintro W7 ⟨g1, g2, g3, gb⟩
    have q73 : W7.cell? ⟨w.heap.size, 73, none⟩ = some (.int .i64 (N : Int)) := g1.out.cell (Stm.get_len _ (can_held h1 m N (by omega)))
    have nI : (N : Int) ≤ 1152921504606846976 := by omega
    go_upto_region 8 with fail
    go_loopw [5] (fun ix wr => ∃ i : Nat, 56 ≤ i ∧ i ≤ 64 ∧ ix = .int .i64 i ∧ Hid (Blk wr w.heap.size 78 (can h1 m N).cells) ∧ Hid (Blk wr (w.heap.size + 1) 51 (u8s (List.replicate 32 0))) ∧ Hid (Blk wr A6 76 (u8s (lastL P (N * 8 : Nat) i))) ∧ Below w.heap.size w wr) (fun ix _ => 64 - (intOf ix).toNat)
    case atStart => exact ⟨56, by omega, by omega, rfl, g1, g2, g3, gb⟩
    case round =>
      obtain ⟨i, hi0, hi1, rfl, k1, k2, k3, kb⟩ := hrel
      by_cases hi : i < 64
      · have iI : (i : Int) < 64 := by omega
        have iJ : (56 : Int) ≤ i := by omega
        have hll := lastL_length P (N * 8 : Nat) i hP (by omega)
        obtain ⟨c0, hc0⟩ : ∃ c, (lastL P (N * 8 : Nat) i)[i]? = some c := ⟨_, List.getElem?_eq_getElem (by omega)⟩
        have ca := k3.out.cell (u8s_get hc0)
        have cf := k3.out.free i
        have hst := k3.out.set i (.int .u8 (((lowB (((N * 8 : Nat) : Int) / 256 ^ (63 - i))).toNat : Nat) : Int))
        rw [u8s_set, lastL_set P _ i hP hi0 hi] at hst
        have ho1 := k1.out.other ⟨A6, i, none⟩ (.int .u8 (((lowB (((N * 8 : Nat) : Int) / 256 ^ (63 - i))).toNat : Nat) : Int)) (show w.heap.size ≠ A6 by omega)
        have ho2 := k2.out.other ⟨A6, i, none⟩ (.int .u8 (((lowB (((N * 8 : Nat) : Int) / 256 ^ (63 - i))).toNat : Nat) : Int)) (show w.heap.size + 1 ≠ A6 by omega)
        have hval : (8 * (N : Int)) / 2 ^ (8 * (63 - i)) % 256 = ((lowB (((N * 8 : Nat) : Int) / 256 ^ (63 - i))).toNat : Int) := by rw [show (8 * (N : Int)) = ((N * 8 : Nat) : Int) by omega]; exact shifted' _ _
        rw [← hval] at hst ho1 ho2
        have S1 := Lib.hid hst
        have S2 := Lib.hid ho1
        have S3 := Lib.hid ho2
        clear hst ho1 ho2 hc0 hll g1 g2 g3 gb q73 k1 k2 k3 hval
        go_wp2
        go_roundw
        case rel => exact ⟨i + 1, by omega, by omega, by go_num, S2, S3, S1, kb.setCell (p := ⟨A6, i, none⟩) (show w.heap.size ≤ A6 by omega) _⟩
        case measure => simp [intOf]; omega
      · have hi64 : i = 64 := by omega
        have iI : ¬ ((i : Int) < 64) := by omega
        have k3' := k3.out
        rw [hi64, lastL_end] at k3'
        have hlen : (P ++ be (N * 8 : Nat) 8).length = 64 := by rw [List.length_append, hP, be_length]
        generalize P ++ be (N * 8 : Nat) 8 = Q at k3' hlen HF
        have hK := hT.keep kb (Nat.le_refl _)
        have cS := fun W (hk : KW W) => stir_any h1 o1 Q W hlen hk
        have cB := fun W => bytesOf_any (ShaMath.blk h1 Q) W
        obtain ⟨U1, hU1⟩ : ∃ V, (u32s (lst h1)).toArray = V := ⟨_, rfl⟩
        obtain ⟨U2, hU2⟩ : ∃ V, (u8s Q).toArray = V := ⟨_, rfl⟩
        obtain ⟨U3, hU3⟩ : ∃ V, (u32s (lst (ShaMath.blk h1 Q))).toArray = V := ⟨_, rfl⟩
        obtain ⟨U4, hU4⟩ : ∃ V, (u8s (ShaMath.blk h1 Q).bytes).toArray = V := ⟨_, rfl⟩
        rw [hU1, hU2, hU3] at cS
        rw [hU3, hU4] at cB
        have r1 : (((can h1 m N).cells.drop 0).take 8).toArray = U1 := by rw [Stm.get_h]; exact hU1
        have r2 : (((u8s Q).drop 0).take 64).toArray = U2 := by rw [List.drop_zero, List.take_of_length_le (by rw [u8s_length]; omega)]; exact hU2
        have hcl1 := Stm.cells_length _ (can_held h1 m N (by omega))
        have k1' := k1.out
        have k2' := k2.out
        have hbl := (ShaMath.blk h1 Q).bytes_length
        have HE : Hid (ShaMath.fin h m N = (ShaMath.blk h1 Q).bytes) := Lib.hid (by unfold ShaMath.fin; rw [HF.out])
        clear hi64 hi k1 k2 k3 g1 g2 g3 gb q73 hU1 hU2 hU3 HF
        go_wp2_with (first
          | (with_reducible refine wpList_load_blk rfl 75 (.tmp 36) rfl w.heap.size 0 8 rfl _ _ k1' (by rw [hcl1]; omega) U1 r1 _ rfl rfl (by kernel_rfl) ?_)
          | (with_reducible refine wpList_load_blk rfl 76 (.tmp 3) rfl A6 0 64 rfl _ _ k3' (by rw [u8s_length]; omega) U2 r2 _ rfl rfl (by kernel_rfl) ?_)
          | (go_at_call 74; refine (cS _ hK).mono ?_; rintro e x1 ⟨rfl, hx1⟩)
          | (go_at_call 75; refine (cB _).mono ?_; rintro e x2 ⟨rfl, hx2⟩; have k5 := (k2'.call hx1).call hx2)
          | (with_reducible refine wpList_store_blk rfl 51 (.tmp 2) (.tmp 40) rfl (w.heap.size + 1) 0 rfl _ _ k5 (u8s (ShaMath.blk h1 Q).bytes) U4 (by rw [← hU4]) rfl (by rw [u8s_length, u8s_length, List.length_replicate, hbl]; omega) (by rw [u8s_length, hbl]; kernel_rfl) (u8s_one _) ?_; intro x3 hg7 hs7 hB7))
        refine bodyPost_ret (results_arr rfl _ _ (w.heap.size + 1) (u8s (ShaMath.blk h1 Q).bytes) rfl ?_ rfl rfl (by rw [u8s_length, hbl]; kernel_rfl)) rfl ⟨by rw [HE.out, hU4], ?_⟩
        · rw [Nat.zero_add, List.take_zero, List.nil_append, List.drop_of_length_le (by rw [u8s_length, u8s_length, List.length_replicate, hbl]; exact Nat.le_refl _), List.append_nil] at hB7; exact hB7
        · have hs1 := kb.size
          have hs2 := hx1.size
          have hs3 := hx2.size
          exact ((below_step kb hs1 hx1).trans (hx2.mono (by omega))).grown hg7 (by omega) (fun k h => by cases h; omega)
  · have hI : (56 : Int) ≤ m.length := by omega
    obtain ⟨M1, hM1⟩ : ∃ M1, m ++ (128 :: List.replicate (63 - m.length) 0) = M1 := ⟨_, rfl⟩
    have hlen1 : M1.length = 64 := by rw [← hM1]; simp; omega
    obtain ⟨h1, hh1⟩ : ∃ h1, ShaMath.blk h M1 = h1 := ⟨_, rfl⟩
    obtain ⟨P, hPe⟩ : ∃ P, List.replicate 56 (0 : UInt8) = P := ⟨_, rfl⟩
    have hP : P.length = 56 := by rw [← hPe]; simp
    have hfin := fin_two h m N HN.out (by omega) hm
    rw [hM1, hh1, hPe] at hfin
    have HF := Lib.hid hfin
    have o1 : Ok8 h1 := hh1 ▸ blk_ok h M1
    have e3 := d3.out
    rw [hM1] at e3
    have hK6 := hT.keep db (Nat.le_refl _)
    have cS := fun W (hk : KW W) => stir_any h o M1 W hlen1 hk
    rw [hh1] at cS
    obtain ⟨U1, hU1⟩ : ∃ V, (u32s (lst h)).toArray = V := ⟨_, rfl⟩
    obtain ⟨U2, hU2⟩ : ∃ V, (u8s M1).toArray = V := ⟨_, rfl⟩
    obtain ⟨U3, hU3⟩ : ∃ V, (u32s (lst h1)).toArray = V := ⟨_, rfl⟩
    rw [hU1, hU2, hU3] at cS
    have r1 : (((can h m N).cells.drop 0).take 8).toArray = U1 := by rw [Stm.get_h]; exact hU1
    have r2 : (((u8s M1).drop 0).take 64).toArray = U2 := by rw [List.drop_zero, List.take_of_length_le (by rw [u8s_length]; omega)]; exact hU2
    have d1' := d1.out
    have d2' := d2.out
    have hm64 : (u8s M1).length = 64 := by rw [u8s_length, hlen1]
    clear d1 d2 d3 hfin hM1 hh1 hs
    go_upto_region 6 with (first
      | (with_reducible refine wpList_load_blk rfl 75 (.tmp 14) rfl w.heap.size 0 8 rfl _ _ d1' (by rw [hc74]; omega) U1 r1 _ rfl rfl (by kernel_rfl) ?_)
      | (with_reducible refine wpList_load_blk rfl 76 (.tmp 3) rfl A6 0 64 rfl _ _ e3 (by rw [u8s_length]; omega) U2 r2 _ rfl rfl (by kernel_rfl) ?_)
      | (go_at_call 74; refine (cS _ hK6).mono ?_; rintro e x1 ⟨rfl, hx1⟩; have k1a := d1'.call hx1; have k3a := e3.call hx1)
      | (with_reducible refine wpList_store_blk rfl 75 (.tmp 18) (.tmp 17) rfl w.heap.size 0 rfl _ _ k1a (u32s (lst h1)) U3 (by rw [← hU3]) rfl (by rw [lenH, hc74]; omega) (by rw [lenH]; kernel_rfl) (u32s_one _) ?_; intro w5 hg5 hs5 hB5; have k3b := k3a.same (hg5.block A6 k3a.lt (by simp; omega)))
      | (with_reducible refine wpList_store_blk rfl 76 (.tmp 3) (.tmp 19) rfl A6 0 rfl _ _ k3b (u8s (List.replicate 64 0)) V0 (by rw [← hV0]) rfl (by rw [sz64, hm64]; omega) (by rw [sz64]; kernel_rfl) (u8s_one _) ?_; intro w6 hg6 hs6 hB6))
    simp only [Act.put]
    rw [Stm.put_h] at hB5
    rw [Nat.zero_add, List.take_zero, List.nil_append, List.drop_of_length_le (by rw [sz64, hm64]; exact Nat.le_refl _), List.append_nil, show List.replicate 64 (0 : UInt8) = List.replicate 56 0 ++ List.replicate 8 0 from rfl, hPe, ← lastL_start P (N * 8 : Nat)] at hB6
    have k2a := d2'.call hx1
    have k2b := k2a.same (hg5.block (w.heap.size + 1) k2a.lt (by simp))
    have k2c := k2b.same (hg6.block (w.heap.size + 1) k2b.lt (by simp; omega))
    have hB5' := hB5.same (hg6.block w.heap.size hB5.lt (by simp; omega))
    have db1 := below_step db db.size hx1
    have db2 := db1.grown hg5 db1.size (fun k h => by cases h; exact Nat.le_refl _)
    have db3 := db2.grown hg6 db2.size (fun k h => by cases h; omega)
    have D1 : Hid (Blk w6 w.heap.size 78 (can h1 m N).cells) := Lib.hid hB5'
    have D2 := Lib.hid k2c
    have D3 := Lib.hid hB6
    clear hB5 hB5' hB6 k2a k2b k2c k1a k3a k3b cS r1 r2 d1' d2' e3 hU1 hU2 hU3 db db1 db2 hK6 qn
    refine wp_gen (fun W => Hid (Blk W w.heap.size 78 (can h1 m N).cells) ∧ Hid (Blk W (w.heap.size + 1) 51 (u8s (List.replicate 32 0))) ∧ Hid (Blk W A6 76 (u8s (lastL P (N * 8 : Nat) 56))) ∧ Below w.heap.size w W) ⟨D1, D2, D3, db3⟩ ?_
    rintro W7 ⟨g1, g2, g3, gb⟩
    have q73 : W7.cell? ⟨w.heap.size, 73, none⟩ = some (.int .i64 (N : Int)) := g1.out.cell (Stm.get_len _ (can_held h1 m N (by omega)))
    have nI : (N : Int) ≤ 1152921504606846976 := by omega
    go_upto_region 8 with fail
    go_loopw [5] (fun ix wr => ∃ i : Nat, 56 ≤ i ∧ i ≤ 64 ∧ ix = .int .i64 i ∧ Hid (Blk wr w.heap.size 78 (can h1 m N).cells) ∧ Hid (Blk wr (w.heap.size + 1) 51 (u8s (List.replicate 32 0))) ∧ Hid (Blk wr A6 76 (u8s (lastL P (N * 8 : Nat) i))) ∧ Below w.heap.size w wr) (fun ix _ => 64 - (intOf ix).toNat)
    case atStart => exact ⟨56, by omega, by omega, rfl, g1, g2, g3, gb⟩
    case round =>
      obtain ⟨i, hi0, hi1, rfl, k1, k2, k3, kb⟩ := hrel
      by_cases hi : i < 64
      · have iI : (i : Int) < 64 := by omega
        have iJ : (56 : Int) ≤ i := by omega
        have hll := lastL_length P (N * 8 : Nat) i hP (by omega)
        obtain ⟨c0, hc0⟩ : ∃ c, (lastL P (N * 8 : Nat) i)[i]? = some c := ⟨_, List.getElem?_eq_getElem (by omega)⟩
        have ca := k3.out.cell (u8s_get hc0)
        have cf := k3.out.free i
        have hst := k3.out.set i (.int .u8 (((lowB (((N * 8 : Nat) : Int) / 256 ^ (63 - i))).toNat : Nat) : Int))
        rw [u8s_set, lastL_set P _ i hP hi0 hi] at hst
        have ho1 := k1.out.other ⟨A6, i, none⟩ (.int .u8 (((lowB (((N * 8 : Nat) : Int) / 256 ^ (63 - i))).toNat : Nat) : Int)) (show w.heap.size ≠ A6 by omega)
        have ho2 := k2.out.other ⟨A6, i, none⟩ (.int .u8 (((lowB (((N * 8 : Nat) : Int) / 256 ^ (63 - i))).toNat : Nat) : Int)) (show w.heap.size + 1 ≠ A6 by omega)
        have hval : (8 * (N : Int)) / 2 ^ (8 * (63 - i)) % 256 = ((lowB (((N * 8 : Nat) : Int) / 256 ^ (63 - i))).toNat : Int) := by rw [show (8 * (N : Int)) = ((N * 8 : Nat) : Int) by omega]; exact shifted' _ _
        rw [← hval] at hst ho1 ho2
        have S1 := Lib.hid hst
        have S2 := Lib.hid ho1
        have S3 := Lib.hid ho2
        clear hst ho1 ho2 hc0 hll g1 g2 g3 gb q73 k1 k2 k3 hval
        go_wp2
        go_roundw
        case rel => exact ⟨i + 1, by omega, by omega, by go_num, S2, S3, S1, kb.setCell (p := ⟨A6, i, none⟩) (show w.heap.size ≤ A6 by omega) _⟩
        case measure => simp [intOf]; omega
      · have hi64 : i = 64 := by omega
        have iI : ¬ ((i : Int) < 64) := by omega
        have k3' := k3.out
        rw [hi64, lastL_end] at k3'
        have hlen : (P ++ be (N * 8 : Nat) 8).length = 64 := by rw [List.length_append, hP, be_length]
        generalize P ++ be (N * 8 : Nat) 8 = Q at k3' hlen HF
        have hK := hT.keep kb (Nat.le_refl _)
        have cS := fun W (hk : KW W) => stir_any h1 o1 Q W hlen hk
        have cB := fun W => bytesOf_any (ShaMath.blk h1 Q) W
        obtain ⟨U1, hU1⟩ : ∃ V, (u32s (lst h1)).toArray = V := ⟨_, rfl⟩
        obtain ⟨U2, hU2⟩ : ∃ V, (u8s Q).toArray = V := ⟨_, rfl⟩
        obtain ⟨U3, hU3⟩ : ∃ V, (u32s (lst (ShaMath.blk h1 Q))).toArray = V := ⟨_, rfl⟩
        obtain ⟨U4, hU4⟩ : ∃ V, (u8s (ShaMath.blk h1 Q).bytes).toArray = V := ⟨_, rfl⟩
        rw [hU1, hU2, hU3] at cS
        rw [hU3, hU4] at cB
        have r1 : (((can h1 m N).cells.drop 0).take 8).toArray = U1 := by rw [Stm.get_h]; exact hU1
        have r2 : (((u8s Q).drop 0).take 64).toArray = U2 := by rw [List.drop_zero, List.take_of_length_le (by rw [u8s_length]; omega)]; exact hU2
        have hcl1 := Stm.cells_length _ (can_held h1 m N (by omega))
        have k1' := k1.out
        have k2' := k2.out
        have hbl := (ShaMath.blk h1 Q).bytes_length
        have HE : Hid (ShaMath.fin h m N = (ShaMath.blk h1 Q).bytes) := Lib.hid (by unfold ShaMath.fin; rw [HF.out])
        clear hi64 hi k1 k2 k3 g1 g2 g3 gb q73 hU1 hU2 hU3 HF
        go_wp2_with (first
          | (with_reducible refine wpList_load_blk rfl 75 (.tmp 36) rfl w.heap.size 0 8 rfl _ _ k1' (by rw [hcl1]; omega) U1 r1 _ rfl rfl (by kernel_rfl) ?_)
          | (with_reducible refine wpList_load_blk rfl 76 (.tmp 3) rfl A6 0 64 rfl _ _ k3' (by rw [u8s_length]; omega) U2 r2 _ rfl rfl (by kernel_rfl) ?_)
          | (go_at_call 74; refine (cS _ hK).mono ?_; rintro e x1 ⟨rfl, hx1⟩)
          | (go_at_call 75; refine (cB _).mono ?_; rintro e x2 ⟨rfl, hx2⟩; have k5 := (k2'.call hx1).call hx2)
          | (with_reducible refine wpList_store_blk rfl 51 (.tmp 2) (.tmp 40) rfl (w.heap.size + 1) 0 rfl _ _ k5 (u8s (ShaMath.blk h1 Q).bytes) U4 (by rw [← hU4]) rfl (by rw [u8s_length, u8s_length, List.length_replicate, hbl]; omega) (by rw [u8s_length, hbl]; kernel_rfl) (u8s_one _) ?_; intro x3 hg7 hs7 hB7))
        refine bodyPost_ret (results_arr rfl _ _ (w.heap.size + 1) (u8s (ShaMath.blk h1 Q).bytes) rfl ?_ rfl rfl (by rw [u8s_length, hbl]; kernel_rfl)) rfl ⟨by rw [HE.out, hU4], ?_⟩
        · rw [Nat.zero_add, List.take_zero, List.nil_append, List.drop_of_length_le (by rw [u8s_length, u8s_length, List.length_replicate, hbl]; exact Nat.le_refl _), List.append_nil] at hB7; exact hB7
        · have hs1 := kb.size
          have hs2 := hx1.size
          have hs3 := hx2.size
          exact ((below_step kb hs1 hx1).trans (hx2.mono (by omega))).grown hg7 (by omega) (fun k h => by cases h; omega)
end Go.Proofs.YtmldhnghfdhjmaaDoor
