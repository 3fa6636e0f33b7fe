/-
  CONTRACT of the reference's Added where a stream may be and has room.
  CONDITIONS: the theorem's own hypotheses.
-/
import Derived.Test.YtmldhnghfdhjmaaDoorRefAdd
namespace Go.Proofs.YtmldhnghfdhjmaaDoor
open Go.RowKit CodeMath
set_option linter.unusedVariables false
set_option maxRecDepth 100000

set_option maxRecDepth 100000 in
set_option maxHeartbeats 4000000 in
theorem Added_good (s : Stm) (f : s.Fit) (b : List UInt8) (ao : Option Addr) (cap : Nat) (hcap : b.length ≤ cap) (h63 : cap ≤ 9223372036854775807) (hg : s.good = true) (hfit : ¬ (1152921504606846976 - (b.length : Int) < s.len)) (w : World) (hb : Bytes w ao b) :
    Calls Tryd.prog 49 #[.agg s.cells.toArray, .slice ao b.length cap] w fun e w' => e = .returned (.tuple #[.agg (can (ShaMath.run ShaMath.blk s.h (s.held.take s.n.toNat ++ b)) (ShaMath.rest (s.held.take s.n.toNat ++ b)) (s.len + b.length)).cells.toArray, .int .i64 0]) ∧ Below w.heap.size w w' := by
  obtain ⟨A, hA⟩ : ∃ A, s.cells.toArray = A := ⟨_, rfl⟩
  have hc74 := Stm.cells_length _ f.held
  have hn : noStm.cells.length = 74 := rfl
  have hzero := zero_stream
  obtain ⟨ga, gb, gc, -⟩ := good_facts s hg
  have hk0 : s.n = ((s.n.toNat : Nat) : Int) := by omega
  have cI := fun W => badStream_any s f W
  have cH := fun W => heldOf_any s f s.n.toNat hk0 (by omega) W
  have hml : (s.held.take s.n.toNat).length ≤ 64 := by rw [List.length_take]; omega
  rw [hA, hg] at cI
  rw [hA] at cH
  rw [hA]
  generalize s.held.take s.n.toNat = m at cH hml ⊢
  have hall : (m ++ b).length = m.length + b.length := List.length_append
  have hall63 : (m ++ b).length ≤ 9223372036854775807 := by omega
  have cB := fun W => blocks_any s.h f.h (m ++ b) W hall63
  have hrl := ShaMath.rest_lt (m ++ b)
  have hrf := rest_from (m ++ b)
  have happ : str m ++ str b = str (m ++ b) := str_append _ _
  have hsz : ¬ 9223372036854775807 < (str m).size + (str b).size := by rw [str_size, str_size]; omega
  have hcut := fun W => cut_from (m ++ b) ((m ++ b).length - (m ++ b).length % 64) (((m ++ b).length : Int) - ((m ++ b).length : Int) % 64) (by omega) (by omega) W
  rw [← hrf] at hcut
  have hs12 : (str (m ++ b)).size = (m ++ b).length := str_size _
  rw [← hs12] at hcut
  have hs12' : ((str (m ++ b)).size : Int) ≤ 9223372036854775807 := by rw [hs12]; omega
  have hcv : ∀ W, Below w.heap.size w W → (convert 23 9 (.slice ao b.length cap)).run Tryd.prog W = .ok (.string (str b)) W := fun W h => bytes_string (hb.keep h)
  generalize hS12 : str (m ++ b) = S12 at cB happ hcut hs12 hs12'
  generalize hg2 : ShaMath.run ShaMath.blk s.h (m ++ b) = g2 at cB ⊢
  generalize hr : ShaMath.rest (m ++ b) = r at hcut hrl ⊢
  have hsr : (str r).size = r.length := str_size _
  obtain ⟨Rs, hRs⟩ : ∃ Rs, str r = Rs := ⟨_, rfl⟩
  rw [hRs] at hcut hsr
  have hget : ∀ j (h : j < Rs.size) (h' : j < r.length), Rs[j] = r[j] := by subst hRs; exact fun j h h' => rfl
  generalize str m = S1 at cH happ hsz
  generalize str b = S2 at happ hsz hcv
  obtain ⟨L2, hL2⟩ : ∃ L2, s.len + (b.length : Int) = L2 := ⟨_, rfl⟩
  rw [hL2]
  have hw2 : IntKind.i64.wrap (s.len + (b.length : Int)) = L2 := by rw [← hL2]; simp [IntKind.wrap, IntKind.signed, IntKind.bits]; omega
  obtain ⟨G2, hG2⟩ : ∃ G2, (u32s (lst g2)).toArray = G2 := ⟨_, rfl⟩
  rw [hG2] at cB
  obtain ⟨V2, hV2⟩ : ∃ V2, (⟨g2, List.replicate 64 0, 0, L2⟩ : Stm).cells.toArray = V2 := ⟨_, rfl⟩
  obtain ⟨G1, hG1⟩ : ∃ G1, (u32s (lst s.h)).toArray = G1 := ⟨_, rfl⟩
  rw [hG1] at cB
  have hq2 : ∀ W, Blk W w.heap.size 78 s.cells → (Instr.loadAt 78 (.pointer (some ⟨w.heap.size, 0, none⟩))).run Tryd.prog W = .ok (.agg A) W ∧ (Instr.loadAt 75 (.pointer (some ⟨w.heap.size, 0, none⟩))).run Tryd.prog W = .ok (.agg G1) W ∧ W.cell? ⟨w.heap.size, 73, none⟩ = some (.int .i64 s.len) := fun W hB => by
    refine ⟨?_, ?_, hB.cell (Stm.get_len _ f.held)⟩
    · rw [← hA]; exact load_whole hB rfl rfl (by rw [hc74]; kernel_rfl)
    · have := load_arr (T := 75) (d := .array 8 74) hB 0 8 (by rw [hc74]; omega) rfl rfl (by kernel_rfl)
      rw [Stm.get_h, hG1] at this
      exact this
  have HQ2 := Lib.hid hq2
  have HL2 := Lib.hid hL2
  have HCV := Lib.hid hcv
  have HSR := Lib.hid hsr
  clear hq2 hL2 hcv hsr hS12 hg2 hr hRs hrf hall hs12 gc hk0 hml
  go_enter Tryd.func49, Tryd.ntmps49
  go_upto_region 1 with fail
  refine wp_gen (fun W => Blk W w.heap.size 78 s.cells ∧ Blk W (w.heap.size + 1) 78 noStm.cells ∧ Below w.heap.size w W) ?_ ?_
  · refine ⟨?_, Blk.atNew noCells _ (by simp), ((Below.refl _ _).alloc (Nat.le_refl _) _).alloc (by simp) _⟩
    rw [← hA]
    exact (Blk.new w s.cells.toArray 78).alloc _
  rintro W ⟨b1, b2, hbw⟩
  have e1 : ((s.cells.drop 0).take 74).toArray = A := by rw [List.drop_zero, List.take_of_length_le (by omega)]; exact hA
  go_upto_region 5 with (first
    | (with_reducible refine wpList_load_blk rfl 78 (.tmp 2) rfl w.heap.size 0 74 rfl _ _ b1 (by rw [hc74]; omega) A e1 _ rfl rfl (by kernel_rfl) ?_)
    | (go_at_call 66; refine (cI _).mono ?_; rintro e w4 ⟨rfl, k1⟩; have B1 := b1.call k1; have B2 := b2.call k1; have m4 := below_step hbw hbw.size k1; have q1 : w4.cell? ⟨w.heap.size, 73, none⟩ = some (.int .i64 s.len) := B1.cell (Stm.get_len _ f.held); clear cI))
  clear q1 b1 b2 hbw e1
  refine wp_region_det 5 (by kernel_rfl) (by kernel_rfl) (by kernel_rfl) ?_
  simp only [List.take_succ_cons, List.take_zero, List.drop_succ_cons, List.drop_zero]
  repeat (first
    | (apply wpDet_plain _ rfl; (focus (intro W hW; exact detV_load 78 (.tmp 2) rfl (HQ2.out W (B1.call hW)).1)); simp only [Act.put, List.setIfInBounds_toArray, List.set_cons_zero, List.set_cons_succ])
    | (apply wpDet_plain _ rfl; (focus (intro W hW; have q1 := HCV.out W (m4.trans (hW.mono m4.size)); go_simp; exact ⟨rfl, Below.refl _ _⟩)); simp only [Act.put, List.setIfInBounds_toArray, List.set_cons_zero, List.set_cons_succ])
    | (apply wpDet_plain _ rfl; (focus (intro W hW; go_simp; refine (cH W).mono ?_; rintro e w' ⟨rfl, hb⟩; exact ⟨rfl, hb⟩)); simp only [Act.put, List.setIfInBounds_toArray, List.set_cons_zero, List.set_cons_succ]))
  refine wpDet_nil ?_
  intro W5 hW5
  have B15 := B1.call hW5
  have B25 := B2.call hW5
  have m5 := m4.trans (hW5.mono m4.size)
  clear B1 B2 m4 hW5 cH
  have HGET := Lib.hid hget
  have HCUT := Lib.hid hcut
  have HS := Lib.hid hs12'
  clear happ hsz hget hcut hs12' HCV
  go_upto_region 6 with fail
  refine wp_region_new 10 _ rfl rfl (fun v W => ∃ g, v = .pointer (some ⟨g, 0, none⟩) ∧ W5.heap.size ≤ g ∧ Blk W g 78 noStm.cells) (fun v W W' ⟨g, h1, h2, h3⟩ hb => ⟨g, h1, h2, h3.call hb⟩) (by kernel_rfl) (by kernel_rfl) (by kernel_rfl) ?_
  simp only [List.take_succ_cons, List.take_zero, List.drop_succ_cons, List.drop_zero]
  repeat (first
    | (apply wpDet_plain _ rfl; (focus (intro W hW; exact detV_load 75 (.tmp 25) rfl (HQ2.out W (B15.call hW)).2.1)); simp only [Act.put, List.setIfInBounds_toArray, List.set_cons_zero, List.set_cons_succ])
    | (apply wpDet_plain (.agg V2) rfl; (focus (intro W hW; exact detV_build 78 #[(0, .tmp 28), (3, .tmp 33)] rfl (by rw [← hV2, ← hG2]; kernel_rfl))); simp only [Act.put, List.setIfInBounds_toArray, List.set_cons_zero, List.set_cons_succ])
    | (apply wpDet_plain _ rfl; (focus (intro W hW; go_simp; refine (cB W).mono ?_; rintro e w' ⟨rfl, hb⟩; exact ⟨rfl, hb⟩)); simp only [Act.put, List.setIfInBounds_toArray, List.set_cons_zero, List.set_cons_succ])
    | (apply wpDet_plain _ rfl; (focus (intro W hW; have q1 := (HQ2.out W (B15.call hW)).2.2; go_simp; exact ⟨rfl, Below.refl _ _⟩)); simp only [Act.put, List.setIfInBounds_toArray, List.set_cons_zero, List.set_cons_succ]))
  refine wpDet_nil ?_
  refine ⟨?_, ?_⟩
  · intro W hW
    go_simp
    exact ⟨⟨hW.size, Blk.new W _ _⟩, (Below.refl _ _).alloc (Nat.le_refl _) _⟩
  rintro v W6 hW6 ⟨g, rfl, hg5, k3⟩
  have B26 := B25.call hW6
  have m6 := m5.trans (hW6.mono m5.size)
  have hAg : w.heap.size + 1 < g := Nat.lt_of_lt_of_le B25.lt hg5
  have hv74 : (⟨g2, List.replicate 64 0, 0, L2⟩ : Stm).cells.length = 74 := Stm.cells_length _ (List.length_replicate ..)
  clear B15 B25 m5 hW6 cB hw2 hg5 hzero HQ2
  go_upto_region 7 with (with_reducible refine wpList_store_blk rfl 78 (.tmp 7) (.tmp 34) rfl g 0 rfl _ _ k3 (⟨g2, List.replicate 64 0, 0, L2⟩ : Stm).cells V2 (by rw [← hV2]) rfl (by rw [hv74, hn]; omega) (by rw [hv74]; kernel_rfl) (stm_one _) ?_; intro w7 hg7 hs7 hB7)
  rw [Nat.zero_add, List.take_zero, List.nil_append, List.drop_of_length_le (by rw [hv74, hn]; exact Nat.le_refl _), List.append_nil] at hB7
  have B27 := B26.same (hg7.block (w.heap.size + 1) B26.lt (by simp; omega))
  have m7 : Below w.heap.size w w7 := m6.grown hg7 m6.size (fun k h => by cases h; omega)
  have q7 : w7.cell? ⟨g, 72, none⟩ = some (.int .i64 0) := hB7.cell (Stm.get_n _ (List.length_replicate ..))
  have f7 := hB7.free 72
  have hst := hB7.set 72 (.int .i64 (r.length : Int))
  rw [Stm.set_n _ (List.length_replicate ..)] at hst
  have hot := B27.other ⟨g, 72, none⟩ (.int .i64 (r.length : Int)) (show w.heap.size + 1 ≠ g by omega)
  have hbs := m7.setCell (p := ⟨g, 72, none⟩) (show w.heap.size ≤ g by omega) (.int .i64 (r.length : Int))
  have hcut := HCUT.out
  have hs12' := HS.out
  have hrs := HSR.out
  have hrI : (Rs.size : Int) < 64 := by rw [hrs]; omega
  rw [← hrs] at hst hot hbs
  have H1 := Lib.hid hst
  have H2 := Lib.hid hot
  have HRS := Lib.hid hrs
  clear hst hot hB7 B26 B27 m6 m7 hg7 hs7 k3 hrs
  go_upto_region 9 with fail
  refine wp_gen (fun W => Hid (Blk W g 78 (⟨g2, fill64 r 0, Rs.size, L2⟩ : Stm).cells) ∧ Hid (Blk W (w.heap.size + 1) 78 noStm.cells) ∧ Below w.heap.size w W) ⟨H1, H2, hbs⟩ ?_
  rintro W8 ⟨K1, K2, m8⟩
  clear H1 H2 hbs q7 f7 hcut
  go_wp2_with fail
  go_loopw [9] (fun t wr => ∃ i : Nat, i ≤ r.length ∧ t = .int .i64 i ∧ Hid (Blk wr g 78 (⟨g2, fill64 r i, Rs.size, L2⟩ : Stm).cells) ∧ Hid (Blk wr (w.heap.size + 1) 78 noStm.cells) ∧ Below w.heap.size w wr) (fun t _ => r.length - (intOf t).toNat)
  case atStart => exact ⟨0, Nat.zero_le _, rfl, K1, K2, m8⟩
  case round =>
    obtain ⟨i, hi, rfl, k1, k2, hbr⟩ := hrel
    by_cases hlt : i < r.length
    · have hRi : i < Rs.size := by rw [HRS.out]; exact hlt
      have hge := HGET.out i hRi hlt
      have hri : r[i]? = some Rs[i] := by rw [hge]; exact List.getElem?_eq_getElem hlt
      have hfl := fill64_length r i hi (by omega)
      have q1 : ∃ u, wr.cell? ⟨g, 8 + i, none⟩ = some u := by
        obtain ⟨c, hc⟩ : ∃ c, (fill64 r i)[i]? = some c := ⟨_, List.getElem?_eq_getElem (by omega)⟩
        exact ⟨_, k1.out.cell (Stm.get_held _ i c hc)⟩
      obtain ⟨u, hu⟩ := q1
      have fu := k1.out.free (8 + i)
      have hst := k1.out.set (8 + i) (.int .u8 (Rs[i].toNat : Nat))
      rw [Stm.set_held_at _ hfl i (by omega), fill64_set r i Rs[i] hri (by omega)] at hst
      have hot := k2.out.other ⟨g, 8 + i, none⟩ (.int .u8 (Rs[i].toNat : Nat)) (show w.heap.size + 1 ≠ g by omega)
      have hbs := hbr.setCell (p := ⟨g, 8 + i, none⟩) (show w.heap.size ≤ g by omega) (.int .u8 (Rs[i].toNat : Nat))
      have H1 := Lib.hid hst
      have H2 := Lib.hid hot
      have iI : (i : Int) < 64 := by omega
      clear hge hri hst hot k1 k2 K1 K2 m8
      go_wp2_with fail
      go_roundw
      case rel => exact ⟨i + 1, by omega, by go_num, H1, H2, hbs⟩
      case measure => simp [intOf]; omega
    · have hRi : ¬ (i < Rs.size) := by rw [HRS.out]; exact hlt
      have hie : i = r.length := by omega
      have hV : (⟨g2, fill64 r i, Rs.size, L2⟩ : Stm) = can g2 r L2 := by
        rw [hie, HRS.out]
        unfold fill64 can
        rw [List.take_of_length_le (Nat.le_refl _)]
      rw [hV] at k1
      have k1' := k1.out
      have k2' := k2.out
      have hl : (can g2 r L2).cells.length = 74 := Stm.cells_length _ (can_held _ _ _ (by omega))
      obtain ⟨V, hVV⟩ : ∃ V, (can g2 r L2).cells.toArray = V := ⟨_, rfl⟩
      have e1 : (((can g2 r L2).cells.drop 0).take 74).toArray = V := by rw [List.drop_zero, List.take_of_length_le (by rw [hl]; exact Nat.le_refl _)]; exact hVV
      clear hie hV k1 k2 K1 K2 m8
      go_wp2_with (first
        | (with_reducible refine wpList_load_blk rfl 78 (.tmp 7) rfl g 0 74 rfl _ _ k1' (by rw [hl]; omega) V e1 _ rfl rfl (by kernel_rfl) ?_)
        | (with_reducible refine wpList_store_blk rfl 78 (.tmp 4) (.tmp 58) rfl (w.heap.size + 1) 0 rfl _ _ k2' (can g2 r L2).cells V (by rw [← hVV]) rfl (by rw [hl, hn]; omega) (by rw [hl]; kernel_rfl) (stm_one _) ?_; intro w7 hg7 hs7 hB7))
      refine bodyPost_ret (results_arr_tmp rfl _ _ (w.heap.size + 1) (can g2 r L2).cells rfl ?_ rfl rfl (by rw [hl]; kernel_rfl)) rfl ⟨by rw [hVV]; rfl, ?_⟩
      · rw [Nat.zero_add, List.take_zero, List.nil_append, List.drop_of_length_le (by rw [hl, hn]; exact Nat.le_refl _), List.append_nil] at hB7; exact hB7
      · exact hbr.grown hg7 hbr.size (fun k h => by cases h; exact Nat.le_succ _)
end Go.Proofs.YtmldhnghfdhjmaaDoor
