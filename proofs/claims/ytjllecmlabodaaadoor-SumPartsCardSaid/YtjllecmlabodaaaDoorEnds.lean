/-
  CONTRACTS of package sum's End and Add.
-/
import Derived.Test.YtjllecmlabodaaaDoorGood
namespace Go.Proofs.YtjllecmlabodaaaDoor
open Go.RowKit CodeMath
set_option linter.unusedVariables false
theorem results_arr_tmp {fn : Func} {p u : Tmp} {T : TypeId} {d : TypeDesc} (h : fn.results = #[.cell p T, .tmp u]) (tmps : Array Value) (w : World) (g : Nat) (cs : List Value) (hp : tmps.getD p undef = .pointer (some ⟨g, 0, none⟩)) (hg : Blk w g T cs)
    (hu : Tryd.prog.underlying T = some d) (hd : d.isRow = true) (hi : (Tryd.prog.info? T).map (·.size) = some cs.length) :
    (results fn tmps).run Tryd.prog w = .ok (.tuple #[.agg cs.toArray, tmps.getD u undef]) w := by
  have hl := run_loadVar_row w g T T cs.toArray (0, 0) d hg hu (by cases d <;> simp_all) (by simpa using hi)
  rw [results_cell_tmp h, hp]
  simp [asAddr, hl, Result.andThen]
set_option maxRecDepth 100000 in
set_option maxHeartbeats 2000000 in
theorem End_bad (s : Stm) (f : s.Fit) (hg : s.good = false) (w : World) (hT : KW w) :
    Calls Tryd.prog 17 #[.agg s.cells.toArray] w fun e w' => e = .returned (.tuple #[.agg (u8s (List.replicate 32 0)).toArray, .int .i64 11]) ∧ Below w.heap.size w w' := by
  obtain ⟨A, hA⟩ : ∃ A, s.cells.toArray = A := ⟨_, rfl⟩
  obtain ⟨Z, hZ⟩ : ∃ Z, (u8s (List.replicate 32 0)).toArray = Z := ⟨_, rfl⟩
  have cI := fun W => isStream_any s f W
  have hc74 := Stm.cells_length _ f.held
  rw [hA, hg] at cI
  rw [hA]
  go_enter Tryd.func17, Tryd.ntmps17
  go_upto_region 1 with fail
  refine wp_gen (fun W => Blk W w.heap.size 26 s.cells ∧ Blk W (w.heap.size + 1) 33 (u8s (List.replicate 32 0)) ∧ Below w.heap.size w W) ?_ ?_
  · refine ⟨?_, Blk.atNew _ _ (by simp), ((Below.refl _ _).alloc (Nat.le_refl _) _).alloc (by simp) _⟩
    rw [← hA]
    exact (Blk.new w s.cells.toArray 26).alloc _
  rintro W ⟨b1, b2, hbw⟩
  have e1 : ((s.cells.drop 0).take 74).toArray = A := by rw [List.drop_zero, List.take_of_length_le (by omega)]; exact hA
  have sz : (u8s (List.replicate 32 0)).length = 32 := by rw [u8s_length, List.length_replicate]
  go_wp2_with (first
    | (with_reducible refine wpList_load_blk rfl 26 (.tmp 1) rfl w.heap.size 0 74 rfl _ _ b1 (by rw [hc74]; omega) A e1 _ rfl rfl (by kernel_rfl) ?_)
    | (go_at_call 34; refine (cI _).mono ?_; rintro e w4 ⟨rfl, k1⟩; have B2 := b2.call k1; have m4 := below_step hbw hbw.size k1; clear cI)
    | (with_reducible refine wpList_build_as rfl 33 #[] rfl Z (by rw [← hZ]; kernel_rfl) ?_)
    | (with_reducible refine wpList_store_blk rfl 33 (.tmp 2) (.tmp 7) rfl (w.heap.size + 1) 0 rfl _ _ B2 (u8s (List.replicate 32 0)) Z (by rw [← hZ]) rfl (by rw [sz]; omega) (by rw [sz]; kernel_rfl) (u8s_one _) ?_; intro x3 hg7 hs7 hB7))
  refine bodyPost_ret (results_arr_tmp rfl _ _ (w.heap.size + 1) (u8s (List.replicate 32 0)) rfl ?_ rfl rfl (by rw [sz]; kernel_rfl)) rfl ⟨by rw [hZ]; rfl, ?_⟩
  · rw [Nat.zero_add, List.take_zero, List.nil_append, List.drop_of_length_le (by rw [sz]; exact Nat.le_refl _), List.append_nil] at hB7; exact hB7
  · exact m4.grown hg7 m4.size (fun k h => by cases h; exact Nat.le_succ _)
set_option maxRecDepth 100000 in
set_option maxHeartbeats 2000000 in
theorem End_good (s : Stm) (f : s.Fit) (hg : s.good = true) (w : World) (hT : KW w) :
    Calls Tryd.prog 17 #[.agg s.cells.toArray] w fun e w' => e = .returned (.tuple #[.agg (u8s (ShaMath.fin s.h (s.held.take s.n.toNat) s.len.toNat)).toArray, .int .i64 0]) ∧ Below w.heap.size w w' := by
  obtain ⟨A, hA⟩ : ∃ A, s.cells.toArray = A := ⟨_, rfl⟩
  obtain ⟨Z, hZ⟩ : ∃ Z, (u8s (ShaMath.fin s.h (s.held.take s.n.toNat) s.len.toNat)).toArray = Z := ⟨_, rfl⟩
  have cI := fun W => isStream_any s f W
  have hc74 := Stm.cells_length _ f.held
  obtain ⟨gc, gm, gn⟩ := good_can s hg f.held
  obtain ⟨ga, gb, -, -⟩ := good_facts s hg
  have gl : ((s.len.toNat : Nat) : Int) = s.len := by omega
  have cE := fun W (k : KW W) => end_any s.h f.h (s.held.take s.n.toNat) gm s.len.toNat gn (by omega) W k
  rw [gl, ← gc, hA, hZ] at cE
  have szR : (u8s (ShaMath.fin s.h (s.held.take s.n.toNat) s.len.toNat)).length = 32 := by rw [u8s_length]; exact ShaMath.St.bytes_length _
  clear gc gm gn ga gb gl
  rw [hA, hg] at cI
  rw [hA]
  go_enter Tryd.func17, Tryd.ntmps17
  go_upto_region 1 with fail
  refine wp_gen (fun W => Blk W w.heap.size 26 s.cells ∧ Blk W (w.heap.size + 1) 33 (u8s (List.replicate 32 0)) ∧ Below w.heap.size w W) ?_ ?_
  · refine ⟨?_, Blk.atNew _ _ (by simp), ((Below.refl _ _).alloc (Nat.le_refl _) _).alloc (by simp) _⟩
    rw [← hA]
    exact (Blk.new w s.cells.toArray 26).alloc _
  rintro W ⟨b1, b2, hbw⟩
  have e1 : ((s.cells.drop 0).take 74).toArray = A := by rw [List.drop_zero, List.take_of_length_le (by omega)]; exact hA
  have sz : (u8s (List.replicate 32 0)).length = 32 := by rw [u8s_length, List.length_replicate]
  go_wp2_with (first
    | (with_reducible refine wpList_load_blk rfl 26 (.tmp 1) rfl w.heap.size 0 74 rfl _ _ b1 (by rw [hc74]; omega) A e1 _ rfl rfl (by kernel_rfl) ?_)
    | (go_at_call 34; refine (cI _).mono ?_; rintro e w4 ⟨rfl, k1⟩; have B2 := b2.call k1; have m4 := below_step hbw hbw.size k1; clear cI)
    | (with_reducible refine wpList_load_blk rfl 26 (.tmp 1) rfl w.heap.size 0 74 rfl _ _ (b1.call k1) (by rw [hc74]; omega) A e1 _ rfl rfl (by kernel_rfl) ?_)
    | (go_at_call 40; refine (cE _ (hT.keep m4 (Nat.le_refl _))).mono ?_; rintro e w5 ⟨rfl, k5⟩; have B5 := B2.call k5; have m5 := below_step m4 m4.size k5; clear cE)
    | (with_reducible refine wpList_store_blk rfl 33 (.tmp 2) (.tmp 9) rfl (w.heap.size + 1) 0 rfl _ _ B5 (u8s (ShaMath.fin s.h (s.held.take s.n.toNat) s.len.toNat)) Z (by rw [← hZ]) rfl (by rw [sz, szR]; omega) (by rw [szR]; kernel_rfl) (u8s_one _) ?_; intro x3 hg7 hs7 hB7))
  refine bodyPost_ret (results_arr_tmp rfl _ _ (w.heap.size + 1) (u8s (ShaMath.fin s.h (s.held.take s.n.toNat) s.len.toNat)) rfl ?_ rfl rfl (by rw [szR]; kernel_rfl)) rfl ⟨by rw [hZ]; rfl, ?_⟩
  · rw [Nat.zero_add, List.take_zero, List.nil_append, List.drop_of_length_le (by rw [sz, szR]; exact Nat.le_refl _), List.append_nil] at hB7; exact hB7
  · exact m5.grown hg7 m5.size (fun k h => by cases h; exact Nat.le_succ _)
set_option maxRecDepth 100000 in
set_option maxHeartbeats 2000000 in
theorem Add_bad (s : Stm) (f : s.Fit) (b : List UInt8) (ao : Option Addr) (cap : Nat) (hcap : b.length ≤ cap) (h63 : cap ≤ 9223372036854775807) (hg : s.good = false) (w : World) (hb : Bytes w ao b) (hT : KW w) :
    Calls Tryd.prog 13 #[.agg s.cells.toArray, .slice ao b.length cap] w fun e w' => e = .returned (.tuple #[.agg noStm.cells.toArray, .int .i64 11]) ∧ Below w.heap.size w w' := by
  obtain ⟨A, hA⟩ : ∃ A, s.cells.toArray = A := ⟨_, rfl⟩
  obtain ⟨Z, hZ⟩ : ∃ Z, noStm.cells.toArray = Z := ⟨_, rfl⟩
  have hzero := zero_stream
  have cI := fun W => isStream_any s f W
  have hc74 := Stm.cells_length _ f.held
  have hn : noStm.cells.length = 74 := rfl
  have hz74 : noStm.cells.length = 74 := rfl
  rw [hA, hg] at cI
  rw [hA]
  go_enter Tryd.func13, Tryd.ntmps13
  go_upto_region 1 with fail
  refine wp_gen (fun W => Blk W w.heap.size 26 s.cells ∧ Blk W (w.heap.size + 1) 26 noStm.cells ∧ Below w.heap.size w W) ?_ ?_
  · refine ⟨?_, Blk.atNew noCells _ (by simp), ((Below.refl _ _).alloc (Nat.le_refl _) _).alloc (by simp) _⟩
    rw [← hA]
    exact (Blk.new w s.cells.toArray 26).alloc _
  rintro W ⟨b1, b2, hbw⟩
  have e1 : ((s.cells.drop 0).take 74).toArray = A := by rw [List.drop_zero, List.take_of_length_le (by omega)]; exact hA
  clear hzero
  go_wp2_with (first
    | (with_reducible refine wpList_load_blk rfl 26 (.tmp 2) rfl w.heap.size 0 74 rfl _ _ b1 (by rw [hc74]; omega) A e1 _ rfl rfl (by kernel_rfl) ?_)
    | (go_at_call 34; refine (cI _).mono ?_; rintro e w4 ⟨rfl, k1⟩; have B1 := b1.call k1; have B2 := b2.call k1; have m4 := below_step hbw hbw.size k1; have q1 : w4.cell? ⟨w.heap.size, 73, none⟩ = some (.int .i64 s.len) := B1.cell (Stm.get_len _ f.held); clear cI)
    | (with_reducible refine wpList_build_as rfl 26 #[] rfl Z (by rw [← hZ]; kernel_rfl) ?_)
    | (with_reducible refine wpList_store_blk rfl 26 (.tmp 4) (.tmp 9) rfl (w.heap.size + 1) 0 rfl _ _ B2 noStm.cells Z (by rw [← hZ]) rfl (by rw [hn]; omega) (by rw [hz74]; kernel_rfl) (stm_one _) ?_; intro x3 hg7 hs7 hB7))
  refine bodyPost_ret (results_arr_tmp rfl _ _ (w.heap.size + 1) noStm.cells rfl ?_ rfl rfl (by rw [hz74]; kernel_rfl)) rfl ⟨by rw [hZ]; rfl, ?_⟩
  · rw [Nat.zero_add, List.take_zero, List.nil_append, List.drop_of_length_le (by rw [hn]; exact Nat.le_refl _), List.append_nil] at hB7; exact hB7
  · exact m4.grown hg7 m4.size (fun k h => by cases h; exact Nat.le_succ _)
set_option maxRecDepth 100000 in
set_option maxHeartbeats 2000000 in
theorem Add_big (s : Stm) (f : s.Fit) (b : List UInt8) (ao : Option Addr) (cap : Nat) (hcap : b.length ≤ cap) (h63 : cap ≤ 9223372036854775807) (hg : s.good = true) (hbig : 1152921504606846976 - s.len < (b.length : Int)) (w : World) (hb : Bytes w ao b) (hT : KW w) :
    Calls Tryd.prog 13 #[.agg s.cells.toArray, .slice ao b.length cap] w fun e w' => e = .returned (.tuple #[.agg noStm.cells.toArray, .int .i64 1]) ∧ Below w.heap.size w w' := by
  obtain ⟨A, hA⟩ : ∃ A, s.cells.toArray = A := ⟨_, rfl⟩
  obtain ⟨Z, hZ⟩ : ∃ Z, noStm.cells.toArray = Z := ⟨_, rfl⟩
  have hzero := zero_stream
  have cI := fun W => isStream_any s f W
  have hc74 := Stm.cells_length _ f.held
  have hn : noStm.cells.length = 74 := rfl
  have hz74 : noStm.cells.length = 74 := rfl
  obtain ⟨ga, gb, -, -⟩ := good_facts s hg
  rw [hA, hg] at cI
  rw [hA]
  go_enter Tryd.func13, Tryd.ntmps13
  go_upto_region 1 with fail
  refine wp_gen (fun W => Blk W w.heap.size 26 s.cells ∧ Blk W (w.heap.size + 1) 26 noStm.cells ∧ Below w.heap.size w W) ?_ ?_
  · refine ⟨?_, Blk.atNew noCells _ (by simp), ((Below.refl _ _).alloc (Nat.le_refl _) _).alloc (by simp) _⟩
    rw [← hA]
    exact (Blk.new w s.cells.toArray 26).alloc _
  rintro W ⟨b1, b2, hbw⟩
  have e1 : ((s.cells.drop 0).take 74).toArray = A := by rw [List.drop_zero, List.take_of_length_le (by omega)]; exact hA
  clear hzero
  go_wp2_with (first
    | (with_reducible refine wpList_load_blk rfl 26 (.tmp 2) rfl w.heap.size 0 74 rfl _ _ b1 (by rw [hc74]; omega) A e1 _ rfl rfl (by kernel_rfl) ?_)
    | (go_at_call 34; refine (cI _).mono ?_; rintro e w4 ⟨rfl, k1⟩; have B1 := b1.call k1; have B2 := b2.call k1; have m4 := below_step hbw hbw.size k1; have q1 : w4.cell? ⟨w.heap.size, 73, none⟩ = some (.int .i64 s.len) := B1.cell (Stm.get_len _ f.held); clear cI)
    | (with_reducible refine wpList_build_as rfl 26 #[] rfl Z (by rw [← hZ]; kernel_rfl) ?_)
    | (with_reducible refine wpList_store_blk rfl 26 (.tmp 4) (.tmp 16) rfl (w.heap.size + 1) 0 rfl _ _ B2 noStm.cells Z (by rw [← hZ]) rfl (by rw [hn]; omega) (by rw [hz74]; kernel_rfl) (stm_one _) ?_; intro x3 hg7 hs7 hB7))
  refine bodyPost_ret (results_arr_tmp rfl _ _ (w.heap.size + 1) noStm.cells rfl ?_ rfl rfl (by rw [hz74]; kernel_rfl)) rfl ⟨by rw [hZ]; rfl, ?_⟩
  · rw [Nat.zero_add, List.take_zero, List.nil_append, List.drop_of_length_le (by rw [hn]; exact Nat.le_refl _), List.append_nil] at hB7; exact hB7
  · exact m4.grown hg7 m4.size (fun k h => by cases h; exact Nat.le_succ _)
set_option maxRecDepth 100000 in
set_option maxHeartbeats 2000000 in
theorem Add_good (s : Stm) (f : s.Fit) (b : List UInt8) (ao : Option Addr) (cap : Nat) (hcap : b.length ≤ cap) (h63 : cap ≤ 9223372036854775807) (hg : s.good = true) (hfit : ¬ (1152921504606846976 - s.len < (b.length : Int))) (w : World) (hb : Bytes w ao b) (hT : KW w) :
    Calls Tryd.prog 13 #[.agg s.cells.toArray, .slice ao b.length cap] w fun e w' => e = .returned (.tuple #[.agg (can (ShaMath.run ShaMath.blk s.h (s.held.take s.n.toNat ++ b)) (ShaMath.rest (s.held.take s.n.toNat ++ b)) (s.len + b.length)).cells.toArray, .int .i64 0]) ∧ Below w.heap.size w w' := by
  obtain ⟨A, hA⟩ : ∃ A, s.cells.toArray = A := ⟨_, rfl⟩
  obtain ⟨Z, hZ⟩ : ∃ Z, (can (ShaMath.run ShaMath.blk s.h (s.held.take s.n.toNat ++ b)) (ShaMath.rest (s.held.take s.n.toNat ++ b)) (s.len + b.length)).cells.toArray = Z := ⟨_, rfl⟩
  have hzero := zero_stream
  have cI := fun W => isStream_any s f W
  have hc74 := Stm.cells_length _ f.held
  have hn : noStm.cells.length = 74 := rfl
  have hz74 : (can (ShaMath.run ShaMath.blk s.h (s.held.take s.n.toNat ++ b)) (ShaMath.rest (s.held.take s.n.toNat ++ b)) (s.len + b.length)).cells.length = 74 := Stm.cells_length _ (can_held _ _ _ (Nat.le_of_lt (ShaMath.rest_lt _)))
  obtain ⟨gc, gm, gn⟩ := good_can s hg f.held
  obtain ⟨ga, gb, -, -⟩ := good_facts s hg
  have cA := fun W (k1 : Bytes W ao b) (k : KW W) => add_any s.h f.h (s.held.take s.n.toNat) gm s.len b ao cap W ga (by omega) hcap h63 k1 k
  rw [← gc, hA, hZ] at cA
  clear gc gm gn
  rw [hA, hg] at cI
  rw [hA]
  go_enter Tryd.func13, Tryd.ntmps13
  go_upto_region 1 with fail
  refine wp_gen (fun W => Blk W w.heap.size 26 s.cells ∧ Blk W (w.heap.size + 1) 26 noStm.cells ∧ Below w.heap.size w W) ?_ ?_
  · refine ⟨?_, Blk.atNew noCells _ (by simp), ((Below.refl _ _).alloc (Nat.le_refl _) _).alloc (by simp) _⟩
    rw [← hA]
    exact (Blk.new w s.cells.toArray 26).alloc _
  rintro W ⟨b1, b2, hbw⟩
  have e1 : ((s.cells.drop 0).take 74).toArray = A := by rw [List.drop_zero, List.take_of_length_le (by omega)]; exact hA
  clear hzero
  go_wp2_with (first
    | (with_reducible refine wpList_load_blk rfl 26 (.tmp 2) rfl w.heap.size 0 74 rfl _ _ b1 (by rw [hc74]; omega) A e1 _ rfl rfl (by kernel_rfl) ?_)
    | (go_at_call 34; refine (cI _).mono ?_; rintro e w4 ⟨rfl, k1⟩; have B1 := b1.call k1; have B2 := b2.call k1; have m4 := below_step hbw hbw.size k1; have q1 : w4.cell? ⟨w.heap.size, 73, none⟩ = some (.int .i64 s.len) := B1.cell (Stm.get_len _ f.held); clear cI)
    | (with_reducible refine wpList_load_blk rfl 26 (.tmp 2) rfl w.heap.size 0 74 rfl _ _ B1 (by rw [hc74]; omega) A e1 _ rfl rfl (by kernel_rfl) ?_)
    | (go_at_call 35; refine (cA _ (hb.keep m4) (hT.keep m4 (Nat.le_refl _))).mono ?_; rintro e w5 ⟨rfl, k5⟩; have B5 := B2.call k5; have m5 := below_step m4 m4.size k5; clear cA)
    | (with_reducible refine wpList_store_blk rfl 26 (.tmp 4) (.tmp 19) rfl (w.heap.size + 1) 0 rfl _ _ B5 (can (ShaMath.run ShaMath.blk s.h (s.held.take s.n.toNat ++ b)) (ShaMath.rest (s.held.take s.n.toNat ++ b)) (s.len + b.length)).cells Z (by rw [← hZ]) rfl (by rw [hn, hz74]; omega) (by rw [hz74]; kernel_rfl) (stm_one _) ?_; intro x3 hg7 hs7 hB7))
  refine bodyPost_ret (results_arr_tmp rfl _ _ (w.heap.size + 1) (can (ShaMath.run ShaMath.blk s.h (s.held.take s.n.toNat ++ b)) (ShaMath.rest (s.held.take s.n.toNat ++ b)) (s.len + b.length)).cells rfl ?_ rfl rfl (by rw [hz74]; kernel_rfl)) rfl ⟨by rw [hZ]; rfl, ?_⟩
  · rw [Nat.zero_add, List.take_zero, List.nil_append, List.drop_of_length_le (by rw [hn, hz74]; exact Nat.le_refl _), List.append_nil] at hB7; exact hB7
  · exact m5.grown hg7 m5.size (fun k h => by cases h; exact Nat.le_succ _)
end Go.Proofs.YtjllecmlabodaaaDoor
