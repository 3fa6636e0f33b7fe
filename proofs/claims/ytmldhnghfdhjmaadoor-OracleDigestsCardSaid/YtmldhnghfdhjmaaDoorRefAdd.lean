/-
  CONTRACTS of the reference's heldOf and Added.
  CONDITIONS: each theorem's own hypotheses.
-/
import Derived.Test.YtmldhnghfdhjmaaDoorRefStm
import Derived.Test.YtmldhnghfdhjmaaDoorEnds
namespace Go.Proofs.YtmldhnghfdhjmaaDoor
open Go.RowKit CodeMath
set_option linter.unusedVariables false
set_option maxRecDepth 100000

/-- x[:], x an array of 64 bytes in a block. -/
theorem slice_all64 (b o : Nat) (W : World) : (Instr.sliceAt 76 (.pointer (some ⟨b, o, none⟩)) none none none).run Tryd.prog W = .ok (.slice (some ⟨b, o, none⟩) 64 64) W := by
  have hs : (sizeOf (Tryd.prog.elem 76)).run Tryd.prog W = .ok 1 W := by kernel_rfl
  have hl : Tryd.prog.arrayLen 76 = 64 := by kernel_rfl
  have h := run_sliceAt_array_all (P := Tryd.prog) W 76 ⟨b, o, none⟩ (by kernel_rfl)
  rw [h, hs, hl]
  simp [Result.andThen, slicedAt, Addr.add]
theorem bytes_of_blk {w : World} {g : Nat} {T : TypeId} {l : List UInt8} (h : Blk w g T (u8s l)) : Bytes w (some ⟨g, 0, none⟩) l :=
  .inr ⟨g, 0, rfl, h.lt, fun j x hx => by rw [Nat.zero_add]; exact h.cell (u8s_get hx)⟩
set_option maxRecDepth 100000 in
set_option maxHeartbeats 4000000 in
theorem heldOf_any (s : Stm) (f : s.Fit) (k : Nat) (hk : s.n = k) (h64 : k ≤ 64) (w : World) :
    Calls Tryd.prog 67 #[.agg s.cells.toArray] w fun e w' => e = .returned (.string (str (s.held.take k))) ∧ Below w.heap.size w w' := by
  obtain ⟨A, hA⟩ : ∃ A, s.cells.toArray = A := ⟨_, rfl⟩
  rw [hA]
  have hct := fun W => cut_to s.held k k rfl (by rw [f.held]; exact h64) W
  obtain ⟨R, hR⟩ : ∃ R, str (s.held.take k) = R := ⟨_, rfl⟩
  rw [hR] at hct ⊢
  have hc74 := Stm.cells_length _ f.held
  obtain ⟨V, hV⟩ : ∃ V, (u8s s.held).toArray = V := ⟨_, rfl⟩
  have eV : ((s.cells.drop 8).take 64).toArray = V := by rw [Stm.get_all _ f.held]; exact hV
  have hl64 : (u8s s.held).length = 64 := by rw [u8s_length, f.held]
  obtain ⟨V0, hV0⟩ : ∃ V, (u8s (List.replicate 64 0)).toArray = V := ⟨_, rfl⟩
  have z24 : ∀ W, (zeroValue 76).run Tryd.prog W = .ok (.agg V0) W := fun W => by rw [← hV0]; kernel_rfl
  have sz64 : (u8s (List.replicate 64 0)).length = 64 := by rw [u8s_length, List.length_replicate]
  go_enter Tryd.func67, Tryd.ntmps67
  go_upto_region 1 with fail
  refine wp_gen (fun W => Blk W w.heap.size 78 s.cells ∧ Below w.heap.size w W) ⟨by rw [← hA]; exact Blk.new _ _ _, (Below.refl _ _).alloc (Nat.le_refl _) _⟩ ?_
  rintro W ⟨b, hb⟩
  have bn : Blk (W.alloc (.cells V0 76)) W.heap.size 76 (u8s (List.replicate 64 0)) := by rw [← hV0]; exact Blk.new W _ _
  go_upto_region 2 with (first
    | (with_reducible refine wpList_load_blk rfl 76 (.tmp 4) rfl w.heap.size 8 64 rfl _ _ b (by rw [hc74]; omega) V eV _ rfl rfl (by kernel_rfl) ?_)
    | (with_reducible refine wpList_store_blk rfl 76 (.tmp 3) (.tmp 5) rfl W.heap.size 0 rfl _ _ bn (u8s s.held) V (by rw [← hV]) rfl (by rw [hl64, sz64]; omega) (by rw [hl64]; kernel_rfl) (u8s_one _) ?_; intro w2 hg2 hs2 hB2))
  have hWs : w.heap.size < W.heap.size := b.lt
  have b' := (b.alloc (.cells V0 76)).same (hg2.block w.heap.size (b.alloc _).lt (by simp; omega))
  have hb2 : Below w.heap.size w w2 := (hb.alloc hb.size _).grown hg2 (by have := hb.size; simp; omega) (fun k h => by cases h; exact hb.size)
  rw [Nat.zero_add, List.take_zero, List.nil_append, List.drop_of_length_le (by rw [hl64, sz64]; exact Nat.le_refl _), List.append_nil] at hB2
  generalize W.heap.size = A6 at hB2 hWs ⊢
  have hq : ∀ W, Below w2.heap.size w2 W → W.cell? ⟨w.heap.size, 72, none⟩ = some (.int .i64 (k : Int)) ∧ (convert 23 9 (.slice (some ⟨A6, 0, none⟩) 64 64)).run Tryd.prog W = .ok (.string (str s.held)) W := fun W hW => by
    refine ⟨by rw [← hk]; exact (b'.call hW).cell (s.get_n f.held), ?_⟩
    have := bytes_string (cap := 64) (bytes_of_blk (hB2.call hW))
    rw [f.held] at this
    exact this
  have hsl := fun W => slice_all64 A6 0 W
  obtain ⟨S, hS⟩ : ∃ S, str s.held = S := ⟨_, rfl⟩
  rw [hS] at hq hct
  have HQ := Lib.hid hq
  clear hq hS hR hB2 b' b bn hg2 hs2 hb z24 hV0 hV hA eV hl64 sz64 hc74 
  refine wp_region_det 5 (by kernel_rfl) (by kernel_rfl) (by kernel_rfl) ?_
  simp only [List.take_succ_cons, List.take_zero, List.drop_succ_cons, List.drop_zero]
  repeat (first
    | (apply wpDet_plain _ rfl; (focus (intro W hW; go_simp; exact ⟨rfl, Below.refl _ _⟩)); simp only [Act.put, List.setIfInBounds_toArray, List.set_cons_zero, List.set_cons_succ])
    | (apply wpDet_plain _ rfl; (focus (intro W hW; obtain ⟨q1, q2⟩ := HQ.out W hW; go_simp; exact ⟨rfl, Below.refl _ _⟩)); simp only [Act.put, List.setIfInBounds_toArray, List.set_cons_zero, List.set_cons_succ]))
  refine wpDet_nil ?_
  intro W hW
  go_wp2
  go_ret
  exact ⟨rfl, hb2.trans (hW.mono hb2.size)⟩

/-! ### Added -/
theorem detV_build {P : Program} {o : Oper} {a : Act} {w : World} (t : TypeId) (parts : Array (Nat × Operand)) (ho : o.op = .build t parts) {V : Array Value} (hV : P.built t (parts.map fun (i, x) => (i, a.eval x)).toList = some V) : DetV P (.agg V) w ((execOp a.eval o).run P w) := by
  have e : (execOp a.eval o).run P w = .ok (.value (.agg V)) w := by
    unfold execOp
    simp only [ho, Sem.run_bind, run_build w t _ V hV, Result.andThen_ok]
    rfl
  rw [e]
  exact ⟨rfl, Below.refl _ _⟩
theorem Stm.set_held_at (s : Stm) (hf : s.held.length = 64) (i : Nat) (hi : i < 64) (c : UInt8) : s.cells.set (8 + i) (.int .u8 (c.toNat : Nat)) = ({ s with held := s.held.set i c } : Stm).cells := by
  unfold Stm.cells
  rw [List.set_append_right _ _ (by rw [lenH]; omega), lenH, Nat.add_sub_cancel_left, List.set_append_left _ _ (by rw [u8s_length, hf]; exact hi), u8s_set]
/-- So many bytes, noughts behind them. -/
def fill64 (r : List UInt8) (i : Nat) : List UInt8 := r.take i ++ List.replicate (64 - i) 0
theorem fill64_length (r : List UInt8) (i : Nat) (h : i ≤ r.length) (h64 : i ≤ 64) : (fill64 r i).length = 64 := by
  unfold fill64; rw [List.length_append, List.length_take, List.length_replicate]; omega
theorem fill64_set (r : List UInt8) (i : Nat) (c : UInt8) (h : r[i]? = some c) (h64 : i < 64) : (fill64 r i).set i c = fill64 r (i + 1) := by
  have hi := (List.getElem?_eq_some_iff.1 h).1
  have hc := (List.getElem?_eq_some_iff.1 h).2
  unfold fill64
  rw [List.take_succ_eq_append_getElem hi, hc, List.set_append_right _ _ (by rw [List.length_take]; omega), List.length_take, Nat.min_eq_left (by omega), Nat.sub_self, show 64 - i = (64 - (i + 1)) + 1 by omega, List.replicate_succ, List.set_cons_zero]
  simp
theorem rest_from (l : List UInt8) : ShaMath.rest l = l.drop (l.length - l.length % 64) := by
  unfold ShaMath.rest
  congr 1
  omega
set_option maxRecDepth 100000 in
set_option maxHeartbeats 2000000 in
theorem Added_bad (s : Stm) (f : s.Fit) (v : Value) (hg : s.good = false) (w : World) :
    Calls Tryd.prog 49 #[.agg s.cells.toArray, v] w fun e w' => e = .returned (.tuple #[.agg noStm.cells.toArray, .int .i64 11]) ∧ Below w.heap.size w w' := by
  obtain ⟨A, hA⟩ : ∃ A, s.cells.toArray = A := ⟨_, rfl⟩
  obtain ⟨Z, hZ⟩ : ∃ Z, noStm.cells.toArray = Z := ⟨_, rfl⟩
  have hzero := zero_stream
  have cI := fun W => badStream_any s f W
  have hc74 := Stm.cells_length _ f.held
  have hn : noStm.cells.length = 74 := rfl
  rw [hA, hg] at cI
  rw [hA]
  go_enter Tryd.func49, Tryd.ntmps49
  go_upto_region 1 with fail
  refine wp_gen (fun W => Blk W w.heap.size 78 s.cells ∧ Blk W (w.heap.size + 1) 78 noStm.cells ∧ Below w.heap.size w W) ?_ ?_
  · refine ⟨?_, Blk.atNew noCells _ (by simp), ((Below.refl _ _).alloc (Nat.le_refl _) _).alloc (by simp) _⟩
    rw [← hA]
    exact (Blk.new w s.cells.toArray 78).alloc _
  rintro W ⟨b1, b2, hbw⟩
  have e1 : ((s.cells.drop 0).take 74).toArray = A := by rw [List.drop_zero, List.take_of_length_le (by omega)]; exact hA
  clear hzero
  go_wp2_with (first
    | (with_reducible refine wpList_load_blk rfl 78 (.tmp 2) rfl w.heap.size 0 74 rfl _ _ b1 (by rw [hc74]; omega) A e1 _ rfl rfl (by kernel_rfl) ?_)
    | (go_at_call 66; refine (cI _).mono ?_; rintro e w4 ⟨rfl, k1⟩; have B2 := b2.call k1; have m4 := below_step hbw hbw.size k1; clear cI)
    | (with_reducible refine wpList_build_as rfl 78 #[] rfl Z (by rw [← hZ]; kernel_rfl) ?_)
    | (with_reducible refine wpList_store_blk rfl 78 (.tmp 4) (.tmp 12) rfl (w.heap.size + 1) 0 rfl _ _ B2 noStm.cells Z (by rw [← hZ]) rfl (by rw [hn]; omega) (by rw [hn]; kernel_rfl) (stm_one _) ?_; intro x3 hg7 hs7 hB7))
  refine bodyPost_ret (results_arr_tmp rfl _ _ (w.heap.size + 1) noStm.cells rfl ?_ rfl rfl (by rw [hn]; kernel_rfl)) rfl ⟨by rw [hZ]; rfl, ?_⟩
  · rw [Nat.zero_add, List.take_zero, List.nil_append, List.drop_of_length_le (by rw [hn]; exact Nat.le_refl _), List.append_nil] at hB7; exact hB7
  · exact m4.grown hg7 m4.size (fun k h => by cases h; exact Nat.le_succ _)
set_option maxRecDepth 100000 in
set_option maxHeartbeats 2000000 in
theorem Added_big (s : Stm) (f : s.Fit) (b : List UInt8) (ao : Option Addr) (cap : Nat) (hcap : b.length ≤ cap) (h63 : cap ≤ 9223372036854775807) (hg : s.good = true) (hbig : 1152921504606846976 - (b.length : Int) < s.len) (w : World) :
    Calls Tryd.prog 49 #[.agg s.cells.toArray, .slice ao b.length cap] w fun e w' => e = .returned (.tuple #[.agg noStm.cells.toArray, .int .i64 1]) ∧ Below w.heap.size w w' := by
  obtain ⟨A, hA⟩ : ∃ A, s.cells.toArray = A := ⟨_, rfl⟩
  obtain ⟨Z, hZ⟩ : ∃ Z, noStm.cells.toArray = Z := ⟨_, rfl⟩
  have hzero := zero_stream
  have cI := fun W => badStream_any s f W
  have hc74 := Stm.cells_length _ f.held
  have hn : noStm.cells.length = 74 := rfl
  obtain ⟨ga, gb, -, -⟩ := good_facts s hg
  rw [hA, hg] at cI
  rw [hA]
  go_enter Tryd.func49, Tryd.ntmps49
  go_upto_region 1 with fail
  refine wp_gen (fun W => Blk W w.heap.size 78 s.cells ∧ Blk W (w.heap.size + 1) 78 noStm.cells ∧ Below w.heap.size w W) ?_ ?_
  · refine ⟨?_, Blk.atNew noCells _ (by simp), ((Below.refl _ _).alloc (Nat.le_refl _) _).alloc (by simp) _⟩
    rw [← hA]
    exact (Blk.new w s.cells.toArray 78).alloc _
  rintro W ⟨b1, b2, hbw⟩
  have e1 : ((s.cells.drop 0).take 74).toArray = A := by rw [List.drop_zero, List.take_of_length_le (by omega)]; exact hA
  clear hzero
  go_wp2_with (first
    | (with_reducible refine wpList_load_blk rfl 78 (.tmp 2) rfl w.heap.size 0 74 rfl _ _ b1 (by rw [hc74]; omega) A e1 _ rfl rfl (by kernel_rfl) ?_)
    | (go_at_call 66; refine (cI _).mono ?_; rintro e w4 ⟨rfl, k1⟩; have B1 := b1.call k1; have B2 := b2.call k1; have m4 := below_step hbw hbw.size k1; have q1 : w4.cell? ⟨w.heap.size, 73, none⟩ = some (.int .i64 s.len) := B1.cell (Stm.get_len _ f.held); clear cI)
    | (with_reducible refine wpList_build_as rfl 78 #[] rfl Z (by rw [← hZ]; kernel_rfl) ?_)
    | (with_reducible refine wpList_store_blk rfl 78 (.tmp 4) (.tmp 19) rfl (w.heap.size + 1) 0 rfl _ _ B2 noStm.cells Z (by rw [← hZ]) rfl (by rw [hn]; omega) (by rw [hn]; kernel_rfl) (stm_one _) ?_; intro x3 hg7 hs7 hB7))
  refine bodyPost_ret (results_arr_tmp rfl _ _ (w.heap.size + 1) noStm.cells rfl ?_ rfl rfl (by rw [hn]; kernel_rfl)) rfl ⟨by rw [hZ]; rfl, ?_⟩
  · rw [Nat.zero_add, List.take_zero, List.nil_append, List.drop_of_length_le (by rw [hn]; exact Nat.le_refl _), List.append_nil] at hB7; exact hB7
  · exact m4.grown hg7 m4.size (fun k h => by cases h; exact Nat.le_succ _)
end Go.Proofs.YtmldhnghfdhjmaaDoor
