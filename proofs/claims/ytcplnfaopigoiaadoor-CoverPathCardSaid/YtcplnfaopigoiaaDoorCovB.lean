/-
  CONTRACTS of package slots' take, at lines and at slots.
  CONDITIONS: each theorem's own hypotheses.
-/
import Derived.Test.YtcplnfaopigoiaaDoorCovA
import Derived.Test.YtcplnfaopigoiaaDoorRegE
import Derived.Test.YtcplnfaopigoiaaDoorClimbQ
namespace Go.Proofs.YtcplnfaopigoiaaDoor
open Go.RowKit CodeMath Go.Proofs.YtcplnfaopigoiaaDoor.FrameMath
set_option linter.unusedVariables false
set_option maxRecDepth 100000

/-- A cover in memory: its two slices. -/
def CovB (w : World) (g : Nat) (s r : Value) : Prop := Blk w g 26 [s, r]
theorem CovB.keep {w w' : World} {g : Nat} {s r : Value} (h : CovB w g s r) (hb : Below w.heap.size w w') : CovB w' g s r := Blk.call h hb
theorem CovB.lt {w : World} {g : Nat} {s r : Value} (h : CovB w g s r) : g < w.heap.size := Blk.lt h
theorem CovB.setR {w : World} {g : Nat} {s r : Value} (h : CovB w g s r) (r' : Value) : CovB (w.setCell ⟨g, 1, none⟩ r') g s r' := Blk.set h 1 r'
theorem CovB.setS {w : World} {g : Nat} {s r : Value} (h : CovB w g s r) (s' : Value) : CovB (w.setCell ⟨g, 0, none⟩ s') g s' r := Blk.set h 0 s'
theorem mv_cell (w : World) (g j : Nat) (v : Value) : w.grownBy (w.setCell ⟨g, j, none⟩ v) (some g) := ⟨rfl, rfl, rfl, by simp, fun k _ hk => heap_setCell_other w ⟨g, j, none⟩ k v (fun e => hk (by rw [e]))⟩
theorem mv_b {w w1 : World} {P : Nat} (hb : Below w.heap.size w w1) : w.grownBy w1 (some P) := ⟨hb.os, hb.tape, hb.output, hb.size, fun k hk _ => hb.block k hk⟩
theorem mv_refl1 (w : World) (P : Nat) : w.grownBy w.drew (some P) := ⟨rfl, rfl, rfl, Nat.le_refl _, fun _ _ _ => rfl⟩
theorem mv_drew {w w' : World} {r : Option Nat} (h : w.drew.grownBy w' r) : w.grownBy w' r := ⟨h.os, h.tape, h.output, h.size, fun k hk hn => h.block k hk hn⟩
theorem moved_belowN {w w1 w2 : World} {P : Nat} (h : w.grownBy w1 (some P)) (hb : Below w.heap.size w1 w2) : w.grownBy w2 (some P) :=
  ⟨hb.os.trans h.os, hb.tape.trans h.tape, hb.output.trans h.output, Nat.le_trans h.size hb.size, fun k hk hn => (hb.block k hk).trans (h.block k hk hn)⟩
theorem moved_new {w w1 : World} {P : Nat} (hg : w.grownBy w1 (some P)) (j : Nat) (y : Value) : w.grownBy (w1.setCell ⟨w.heap.size, j, none⟩ y) (some P) := moved_belowN hg ((Below.refl w.heap.size w1).setCell (p := ⟨w.heap.size, j, none⟩) (Nat.le_refl _) y)
def pieceL1 (ao : Option Addr) (cap : Nat) : Option Addr := if cap = 1 then ao else ao.map (·.add (1 * 1))
theorem sliceL_one (ao : Option Addr) (n cap : Nat) (h1 : 1 ≤ n) (W : World) : (Instr.slice 24 (.slice ao n cap) (some (.int .i64 1)) none none).run Tryd.prog W = .ok (.slice (pieceL1 ao cap) (n - 1) (cap - 1)) W := by
  have hs : (sizeOf (Tryd.prog.elem 24)).run Tryd.prog W = .ok 1 W := by kernel_rfl
  have h := run_slice_l (P := Tryd.prog) W 24 ao n cap (by kernel_rfl) .i64 1 (by omega) (by omega)
  rw [h, hs, show (1 : Int).toNat = 1 from rfl]
  rfl
theorem sliceS_one (ao : Option Addr) (n cap : Nat) (h1 : 1 ≤ n) (W : World) : (Instr.slice 22 (.slice ao n cap) (some (.int .i64 1)) none none).run Tryd.prog W = .ok (.slice (pieceS ao 1 cap) (n - 1) (cap - 1)) W := by
  have hs : (sizeOf (Tryd.prog.elem 22)).run Tryd.prog W = .ok 3 W := by kernel_rfl
  have h := run_slice_l (P := Tryd.prog) W 22 ao n cap (by kernel_rfl) .i64 1 (by omega) (by omega)
  rw [h, hs, show (1 : Int).toNat = 1 from rfl]
  rfl
theorem Lines.drop1 {w : World} {ap : Option Addr} {x : List UInt8} {rows : List (List UInt8)} (h : Lines w ap (x :: rows)) (cap : Nat) (hc : rows.length + 1 ≤ cap) : Lines w (pieceL1 ap cap) rows := by
  unfold pieceL1
  split
  · left; exact List.eq_nil_of_length_eq_zero (by omega)
  · rcases h with h | ⟨a, o, h1, h2, h3⟩
    · cases h
    · subst h1
      refine .inr ⟨a, o + 1 * 1, ?_, h2, fun i y hy => ?_⟩
      · simp [Addr.add]
      · have := h3 (i + 1) y (by simpa using hy)
        rw [show o + 1 * 1 + i = o + (i + 1) by omega]
        exact this
set_option maxHeartbeats 1000000 in
theorem takeR_none (g : Nat) (s : Value) (ao : Option Addr) (c : Nat) (w : World) (hC : CovB w g s (.slice ao 0 c)) :
    Calls Tryd.prog 39 #[.pointer (some ⟨g, 1, none⟩)] w fun e w' => e = .returned (.tuple #[.slice none 0 0, .int .i64 10]) ∧ w = w' := by
  have hc : w.cell? ⟨g, 1, none⟩ = some (.slice ao 0 c) := Blk.cell hC rfl
  clear hC
  go_enter Tryd.func39, Tryd.ntmps39
  go_wp2_with fail
  go_ret2
  exact ⟨rfl, rfl⟩
set_option maxHeartbeats 2000000 in
theorem takeR_some (g : Nat) (s : Value) (b off N c : Nat) (u : Value) (hu1 : u.oneCell' = true) (w : World) (hN : 1 ≤ N) (hNm : N ≤ 9223372036854775807) (hC : CovB w g s (.slice (some ⟨b, off, none⟩) N c)) (hu : w.cell? ⟨b, off, none⟩ = some u) :
    Calls Tryd.prog 39 #[.pointer (some ⟨g, 1, none⟩)] w fun e w' => e = .returned (.tuple #[u, .int .i64 0]) ∧ CovB w' g s (.slice (pieceL1 (some ⟨b, off, none⟩) c) (N - 1) (c - 1)) ∧ w.grownBy w' (some g) := by
  have hc : w.cell? ⟨g, 1, none⟩ = some (.slice (some ⟨b, off, none⟩) N c) := Blk.cell hC rfl
  have hf : w.frozen? ⟨g, 1, none⟩ = false := Blk.free hC 1
  have hs := fun W => sliceL_one (some ⟨b, off, none⟩) N c hN W
  generalize pieceL1 (some ⟨b, off, none⟩) c = A at *
  generalize N - 1 = n at *
  generalize c - 1 = C at *
  have hN0 : ((N : Int) == 0) = false := by simp; omega
  have hNI : (0 : Int) < (N : Int) := by omega
  have hNN : 0 < N := hN
  have Q0 : ∀ W, Below w.heap.size w W → W.cell? ⟨g, 1, none⟩ = some (.slice (some ⟨b, off, none⟩) N c) := fun W hW => Blk.cell (CovB.keep hC hW) rfl
  have Q1 : ∀ W, Below w.heap.size w W → W.cell? ⟨b, off, none⟩ = some u := fun W hW => (hW.cell (p := ⟨b, off, none⟩) (World.block_lt_of_cell? w _ hu)).trans hu
  go_enter Tryd.func39, Tryd.ntmps39
  go_upto_region 3 with fail
  refine wp_region_det 11 (by kernel_rfl) (by kernel_rfl) (by kernel_rfl) ?_
  simp only [List.take_succ_cons, List.take_zero, List.drop_succ_cons, List.drop_zero]
  apply wpDet_plain _ rfl; (focus (intro W hW; have q0 := Q0 W hW; have q1 := Q1 W hW; go_simp; exact ⟨rfl, Below.refl _ _⟩)); simp only [Act.put, List.setIfInBounds_toArray, List.set_cons_zero, List.set_cons_succ]
  apply wpDet_plain _ rfl; (focus (intro W hW; have q0 := Q0 W hW; have q1 := Q1 W hW; go_simp; exact ⟨rfl, Below.refl _ _⟩)); simp only [Act.put, List.setIfInBounds_toArray, List.set_cons_zero, List.set_cons_succ]
  apply wpDet_plain _ rfl; (focus (intro W hW; have q0 := Q0 W hW; have q1 := Q1 W hW; go_simp; exact ⟨rfl, Below.refl _ _⟩)); simp only [Act.put, List.setIfInBounds_toArray, List.set_cons_zero, List.set_cons_succ]
  apply wpDet_plain _ rfl; (focus (intro W hW; have q0 := Q0 W hW; have q1 := Q1 W hW; go_simp; exact ⟨rfl, Below.refl _ _⟩)); simp only [Act.put, List.setIfInBounds_toArray, List.set_cons_zero, List.set_cons_succ]
  apply wpDet_plain _ rfl; (focus (intro W hW; have q0 := Q0 W hW; have q1 := Q1 W hW; go_simp; exact ⟨rfl, Below.refl _ _⟩)); simp only [Act.put, List.setIfInBounds_toArray, List.set_cons_zero, List.set_cons_succ]
  apply wpDet_plain _ rfl; (focus (intro W hW; have q0 := Q0 W hW; have q1 := Q1 W hW; go_simp; exact ⟨rfl, Below.refl _ _⟩)); simp only [Act.put, List.setIfInBounds_toArray, List.set_cons_zero, List.set_cons_succ]
  apply wpDet_plain _ rfl; (focus (intro W hW; have q0 := Q0 W hW; have q1 := Q1 W hW; go_simp; exact ⟨rfl, Below.refl _ _⟩)); simp only [Act.put, List.setIfInBounds_toArray, List.set_cons_zero, List.set_cons_succ]
  apply wpDet_plain _ rfl; (focus (intro W hW; have q0 := Q0 W hW; have q1 := Q1 W hW; go_simp; exact ⟨rfl, Below.refl _ _⟩)); simp only [Act.put, List.setIfInBounds_toArray, List.set_cons_zero, List.set_cons_succ]
  apply wpDet_plain _ rfl; (focus (intro W hW; have q0 := Q0 W hW; have q1 := Q1 W hW; go_simp; exact ⟨rfl, Below.refl _ _⟩)); simp only [Act.put, List.setIfInBounds_toArray, List.set_cons_zero, List.set_cons_succ]
  apply wpDet_plain _ rfl; (focus (intro W hW; have q0 := Q0 W hW; have q1 := Q1 W hW; go_simp; exact ⟨rfl, Below.refl _ _⟩)); simp only [Act.put, List.setIfInBounds_toArray, List.set_cons_zero, List.set_cons_succ]
  apply wpDet_plain _ rfl; (focus (intro W hW; first | (have q0 := Q0 W hW; have q1 := Q1 W hW); go_simp; exact ⟨rfl, Below.refl _ _⟩)); simp only [Act.put, List.setIfInBounds_toArray, List.set_cons_zero, List.set_cons_succ]
  refine wpDet_nil ?_; intro W hW
  have hend : Hid (CovB (W.setCell ⟨g, 1, none⟩ (.slice A n C)) g s (.slice A n C) ∧ w.grownBy (W.setCell ⟨g, 1, none⟩ (.slice A n C)) (some g)) := ⟨(CovB.keep hC hW).setR _, grown_trans (mv_b hW) (mv_cell _ _ _ _)⟩
  have hf := Blk.free (CovB.keep hC hW) 1
  have hc := Blk.cell (CovB.keep hC hW) (j := 1) rfl
  clear hs hC hu
  go_wp2_with fail
  go_ret2
  exact ⟨rfl, hend.out⟩
set_option maxHeartbeats 1000000 in
theorem takeS_none (g : Nat) (ao : Option Addr) (c : Nat) (r : Value) (w : World) (hC : CovB w g (.slice ao 0 c) r) :
    Calls Tryd.prog 40 #[.pointer (some ⟨g, 0, none⟩)] w fun e w' => e = .returned (.tuple #[.agg #[.bool false, .slice none 0 0, .slice none 0 0], .int .i64 10]) ∧ Below w.heap.size w w' := by
  have hc : ∀ o, (w.alloc o).cell? ⟨g, 0, none⟩ = some (.slice ao 0 c) := fun o => Blk.cell (Blk.alloc hC o) rfl
  have hb : ∀ o, Below w.heap.size w (w.alloc o) := fun o => (Below.refl _ _).alloc (Nat.le_refl _) o
  have hlt := hC.lt
  have hne : ¬ g = w.heap.size := by omega
  clear hC
  go_enter Tryd.func40, Tryd.ntmps40
  go_wp2_with fail
  refine bodyPost_ret (results_arr_tmp rfl _ _ w.heap.size [.bool false, .slice none 0 0, .slice none 0 0] rfl (Blk.new w _ _) rfl rfl (by kernel_rfl)) rfl ⟨rfl, hb _⟩
def TakeSF (g N n c C : Nat) (b off : Nat) (f : Bool) (a1 : Option Addr) (n1 k1 : Nat) (a2 : Option Addr) (n2 k2 : Nat) (A : Option Addr) : Nat → Value → World → Prop
  | 0, v, _ => v = .pointer (some ⟨g, 0, none⟩)
  | 1, v, _ => v = .pointer (some ⟨g, 0, none⟩)
  | 2, v, _ => v = .pointer (some ⟨g, 0, none⟩)
  | 3, v, _ => v = .slice (some ⟨b, off, none⟩) N c
  | 4, v, _ => v = .pointer (some ⟨b, off, none⟩)
  | 5, v, _ => v = .agg #[.bool f, .slice a1 n1 k1, .slice a2 n2 k2]
  | 6, v, _ => v = .pointer (some ⟨g, 0, none⟩)
  | 7, v, _ => v = .pointer (some ⟨g, 0, none⟩)
  | 8, v, _ => v = .slice (some ⟨b, off, none⟩) N c
  | 9, v, _ => v = .slice A n C
  | 10, _, _ => True
  | _, _, _ => True
set_option maxHeartbeats 2000000 in
theorem takeS_some (g : Nat) (r : Value) (b off N c : Nat) (f : Bool) (a1 : Option Addr) (n1 k1 : Nat) (a2 : Option Addr) (n2 k2 : Nat) (w : World) (hN : 1 ≤ N) (hNm : N ≤ 9223372036854775807) (hC : CovB w g (.slice (some ⟨b, off, none⟩) N c) r) (h0 : w.cell? ⟨b, off, none⟩ = some (.bool f)) (h1 : w.cell? ⟨b, off + 1, none⟩ = some (.slice a1 n1 k1)) (h2 : w.cell? ⟨b, off + 2, none⟩ = some (.slice a2 n2 k2)) :
    Calls Tryd.prog 40 #[.pointer (some ⟨g, 0, none⟩)] w fun e w' => e = .returned (.tuple #[.agg #[.bool f, (.slice a1 n1 k1), (.slice a2 n2 k2)], .int .i64 0]) ∧ CovB w' g (.slice (pieceS (some ⟨b, off, none⟩) 1 c) (N - 1) (c - 1)) r ∧ w.grownBy w' (some g) := by
  have hs := fun W => sliceS_one (some ⟨b, off, none⟩) N c hN W
  generalize pieceS (some ⟨b, off, none⟩) 1 c = A at *
  generalize N - 1 = n at *
  generalize c - 1 = C at *
  have hN0 : ((N : Int) == 0) = false := by simp; omega
  have hNI : (0 : Int) < (N : Int) := by omega
  have hNN : 0 < N := hN
  obtain ⟨w1, hw1⟩ : ∃ w1, w.alloc (.cells #[.bool false, .slice none 0 0, .slice none 0 0] 44) = w1 := ⟨_, rfl⟩
  have hB1 : Below w.heap.size w w1 := by rw [← hw1]; exact (Below.refl _ _).alloc (Nat.le_refl _) _
  have hz : Blk w1.drew w.heap.size 44 [.bool false, .slice none 0 0, .slice none 0 0] := by rw [← hw1]; exact Blk.new w _ _
  have hlt := hC.lt
  have hC1 := hC.keep hB1
  have hbl : b < w.heap.size := World.block_lt_of_cell? w _ h0
  have hgne : g ≠ w.heap.size := by omega
  have hbne : b ≠ w.heap.size := by omega
  have Q0 : ∀ W, w1.grownBy W (some w.heap.size) → W.cell? ⟨g, 0, none⟩ = some (.slice (some ⟨b, off, none⟩) N c) := fun W hW => hW.cell (hC1.cell rfl) (by simpa using hgne)
  have Q1 : ∀ W, w1.grownBy W (some w.heap.size) → W.cell? ⟨b, off, none⟩ = some (.bool f) ∧ W.cell? ⟨b, off + 1, none⟩ = some (.slice a1 n1 k1) ∧ W.cell? ⟨b, off + 2, none⟩ = some (.slice a2 n2 k2) := fun W hW => by
    have g1 := (hB1.cell (p := ⟨b, off, none⟩) hbl).trans h0
    have g2 := (hB1.cell (p := ⟨b, off + 1, none⟩) hbl).trans h1
    have g3 := (hB1.cell (p := ⟨b, off + 2, none⟩) hbl).trans h2
    exact ⟨hW.cell g1 (by simpa using hbne), hW.cell g2 (by simpa using hbne), hW.cell g3 (by simpa using hbne)⟩
  go_enter Tryd.func40, Tryd.ntmps40
  have q9 := Q0 w1 ⟨rfl, rfl, rfl, Nat.le_refl _, fun _ _ _ => rfl⟩
  go_upto_region 1 with fail
  go_upto_region 3 with fail
  refine wp_region_chain 11 [10] (by kernel_rfl) (by kernel_rfl) (by kernel_rfl) (TakeSF g N n c C b off f a1 n1 k1 a2 n2 k2 A) (fun s W => w1.grownBy W (some w.heap.size) ∧ Blk W w.heap.size 44 (if s = 0 then [.bool false, .slice none 0 0, .slice none 0 0] else [.bool f, .slice a1 n1 k1, .slice a2 n2 k2])) (fun _ _ _ => True) ?hF ?h0 ?hstep ?hcall ?hdone
  case hF =>
    intro s i hs j v W W' hjn hne hpb h he
    rcases (show j = 0 ∨ j = 1 ∨ j = 2 ∨ j = 3 ∨ j = 4 ∨ j = 5 ∨ j = 6 ∨ j = 7 ∨ j = 8 ∨ j = 9 ∨ j = 10 by omega) with rfl | rfl | rfl | rfl | rfl | rfl | rfl | rfl | rfl | rfl | rfl
    · exact h
    · exact h
    · exact h
    · exact h
    · exact h
    · exact h
    · exact h
    · exact h
    · exact h
    · exact h
    · exact h
  case h0 => exact ⟨mv_refl1 _ _, hz⟩
  case hstep =>
    intro j hj hni s vs act W K ha' hst hd hu hK
    simp only [fillF, Act.put, List.take_succ_cons, List.take_zero, List.setIfInBounds_toArray, List.set_cons_zero, List.set_cons_succ] at ha'
    subst ha'
    clear hu
    have q0 := Q0 W hst.1
    obtain ⟨q1, q2, q3⟩ := Q1 W hst.1
    clear hst
    rcases (show j = 0 ∨ j = 1 ∨ j = 2 ∨ j = 3 ∨ j = 4 ∨ j = 5 ∨ j = 6 ∨ j = 7 ∨ j = 8 ∨ j = 9 ∨ j = 10 by omega) with rfl | rfl | rfl | rfl | rfl | rfl | rfl | rfl | rfl | rfl | rfl
    · refine wpOp_step rfl (fun K' hK' => ?_)
      go_simp
      exact hK' _ _ (hK _ rfl)
    · refine wpOp_step rfl (fun K' hK' => ?_)
      go_simp
      exact hK' _ _ (hK _ rfl)
    · have e1 : vs 1 = .pointer (some ⟨g, 0, none⟩) := hd 1 (by kernel_rfl)
      simp only [e1] at hK ⊢
      refine wpOp_step rfl (fun K' hK' => ?_)
      go_simp
      exact hK' _ _ (hK _ rfl)
    · have e2 : vs 2 = .pointer (some ⟨g, 0, none⟩) := hd 2 (by kernel_rfl)
      simp only [e2] at hK ⊢
      refine wpOp_step rfl (fun K' hK' => ?_)
      go_simp
      exact hK' _ _ (hK _ rfl)
    · have e3 : vs 3 = .slice (some ⟨b, off, none⟩) N c := hd 3 (by kernel_rfl)
      simp only [e3] at hK ⊢
      refine wpOp_step rfl (fun K' hK' => ?_)
      go_simp
      exact hK' _ _ (hK _ rfl)
    · have e4 : vs 4 = .pointer (some ⟨b, off, none⟩) := hd 4 (by kernel_rfl)
      simp only [e4] at hK ⊢
      refine wpOp_step rfl (fun K' hK' => ?_)
      go_simp
      exact hK' _ _ (hK _ rfl)
    · refine wpOp_step rfl (fun K' hK' => ?_)
      go_simp
      exact hK' _ _ (hK _ rfl)
    · have e6 : vs 6 = .pointer (some ⟨g, 0, none⟩) := hd 6 (by kernel_rfl)
      simp only [e6] at hK ⊢
      refine wpOp_step rfl (fun K' hK' => ?_)
      go_simp
      exact hK' _ _ (hK _ rfl)
    · have e7 : vs 7 = .pointer (some ⟨g, 0, none⟩) := hd 7 (by kernel_rfl)
      simp only [e7] at hK ⊢
      refine wpOp_step rfl (fun K' hK' => ?_)
      go_simp
      exact hK' _ _ (hK _ rfl)
    · have e8 : vs 8 = .slice (some ⟨b, off, none⟩) N c := hd 8 (by kernel_rfl)
      simp only [e8] at hK ⊢
      refine wpOp_step rfl (fun K' hK' => ?_)
      go_simp
      exact hK' _ _ (hK _ rfl)
    · exact (hni (by decide)).elim
  case hcall =>
    intro s j hs vs act W K ha' hst hd hK
    simp only [fillF, Act.put, List.take_succ_cons, List.take_zero, List.setIfInBounds_toArray, List.set_cons_zero, List.set_cons_succ] at ha'
    subst ha'
    rcases s with _ | s
    · obtain rfl : 10 = j := by simpa using hs
      have e5 : vs 5 = .agg #[.bool f, .slice a1 n1 k1, .slice a2 n2 k2] := hd 5 (by kernel_rfl)
      simp only [e5] at hK ⊢
      obtain ⟨hg, hz0⟩ := hst
      have z0 := hz0.cell (j := 0) rfl
      have z1 := hz0.cell (j := 1) rfl
      have z2 := hz0.cell (j := 2) rfl
      have y0 := hz0.free 0
      have y1 := hz0.free 1
      have y2 := hz0.free 2
      refine wpOp_step rfl (fun K' hK' => ?_)
      go_simp
      exact hK' _ _ (hK undef _ trivial trivial ⟨grown_trans (grown_trans (grown_trans hg (mv_cell _ _ _ _)) (mv_cell _ _ _ _)) (mv_cell _ _ _ _), ((hz0.set 0 _).set 1 _).set 2 _⟩)
    · simp at hs
  case hdone =>
    intro vs act W ha' hst hf
    simp only [fillF, Act.put, List.take_succ_cons, List.take_zero, List.drop_succ_cons, List.drop_zero, List.setIfInBounds_toArray, List.set_cons_zero, List.set_cons_succ] at ha' ⊢
    subst ha'
    obtain ⟨hg, hz1⟩ := hst
    have hz1 : Blk W w.heap.size 44 [.bool f, (.slice a1 n1 k1), (.slice a2 n2 k2)] := hz1
    have f9 : vs 9 = .slice A n C := hf 9 (by decide)
    have f0 : vs 0 = .pointer (some ⟨g, 0, none⟩) := hf 0 (by decide)
    simp only [Nat.zero_add, Nat.reduceAdd, f9, f0]
    have hC2 : CovB W g (.slice (some ⟨b, off, none⟩) N c) r := (hg.block g hC1.lt (by simpa using hgne)).trans hC1
    have c0 := hC2.cell (j := 0) rfl
    have y0 := hC2.free 0
    have hC3 := hC2.setS (.slice A n C)
    have hz2 := hz1.other ⟨g, 0, none⟩ (.slice A n C) (fun h => hgne h.symm)
    clear hs Q0 Q1 hf f9 f0 q9
    go_upto_region 4 with fail
    have e0 := hz2.cell (j := 0) rfl
    have e1 := hz2.cell (j := 1) rfl
    have e2 := hz2.cell (j := 2) rfl
    have x0 := hz2.free 0
    have x1 := hz2.free 1
    have x2 := hz2.free 2
    have hBW := hB1.grown hg hB1.size (fun k h => by cases h; exact Nat.le_refl _)
    have hgb := grown_trans (mv_b (P := g) hBW) (mv_cell W g 0 (.slice A n C))
    generalize W.setCell ⟨g, 0, none⟩ (.slice A n C) = W2 at *
    have hfin : Hid (CovB (((W2.setCell ⟨w.heap.size, 0, none⟩ (.bool f)).setCell ⟨w.heap.size, 1, none⟩ (.slice a1 n1 k1)).setCell ⟨w.heap.size, 2, none⟩ (.slice a2 n2 k2)) g (.slice A n C) r ∧ w.grownBy (((W2.setCell ⟨w.heap.size, 0, none⟩ (.bool f)).setCell ⟨w.heap.size, 1, none⟩ (.slice a1 n1 k1)).setCell ⟨w.heap.size, 2, none⟩ (.slice a2 n2 k2)) (some g)) :=
      ⟨((Blk.other hC3 _ _ hgne).other _ _ hgne).other _ _ hgne, moved_new (moved_new (moved_new hgb _ _) _ _) _ _⟩
    have hzf : Blk (((W2.setCell ⟨w.heap.size, 0, none⟩ (.bool f)).setCell ⟨w.heap.size, 1, none⟩ (.slice a1 n1 k1)).setCell ⟨w.heap.size, 2, none⟩ (.slice a2 n2 k2)) w.heap.size 44 [.bool f, (.slice a1 n1 k1), (.slice a2 n2 k2)] := ((hz2.set 0 (.bool f)).set 1 (.slice a1 n1 k1)).set 2 (.slice a2 n2 k2)
    clear hC hC1 hC2 hC3 hz hz1 hz2 hg hBW hgb h0 h1 h2 hB1 c0 y0
    go_wp2_with fail
    refine bodyPost_ret (results_arr_tmp rfl _ _ w.heap.size [.bool f, (.slice a1 n1 k1), (.slice a2 n2 k2)] rfl hzf rfl rfl (by kernel_rfl)) rfl ⟨rfl, hfin.out⟩
end Go.Proofs.YtcplnfaopigoiaaDoor
