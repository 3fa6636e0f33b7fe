/-
  CONTRACTS of package sum's Begin, sumBehind, Sum.
  CONDITIONS: package sum's roundWords hold what their initialiser lays ('KW').
-/
import Derived.Test.YtmldhnghfdhjmaaDoorEnd
import Derived.Laws.Tables
namespace Go.Proofs.YtmldhnghfdhjmaaDoor
open Go.RowKit CodeMath
set_option linter.unusedVariables false
set_option maxRecDepth 100000

theorem wpList_build_as {P : Program} {ops : Array Oper} {rest : List Oper} {o : Oper} {a : Act} {w : World} {Q : Exit → Act → World → Prop} (hg : o.guard = none) (t : TypeId) (parts : Array (Nat × Operand)) (ho : o.op = .build t parts) (V : Array Value)
    (hV : P.built t (parts.map fun (i, x) => (i, a.eval x)).toList = some V)
    (h : wpList P ops Q rest (a.put o.dst (.agg V)) w) : wpList P ops Q (o :: rest) a w :=
  wpList_build hg t parts ho (by rw [hV]; rfl) (by rw [hV]; exact h)
theorem h0_ok : Ok8 ShaMath.h0 := ⟨by decide, by decide, by decide, by decide, by decide, by decide, by decide, by decide⟩
theorem begin_any (w : World) : Calls Tryd.prog 65 #[] w fun e w' => e = .returned (.agg (can ShaMath.h0 [] 0).cells.toArray) ∧ Below w.heap.size w w' := by
  have hzero := zero_stream
  obtain ⟨V, hV⟩ : ∃ V, (can ShaMath.h0 [] 0).cells.toArray = V := ⟨_, rfl⟩
  rw [hV]
  have bn : Blk (w.alloc (.cells noCells 78)) w.heap.size 78 noStm.cells := Blk.new w noCells _
  have hl : (can ShaMath.h0 [] 0).cells.length = 74 := rfl
  have hn : noStm.cells.length = 74 := rfl
  go_enter Tryd.func65, Tryd.ntmps65
  go_wp2_with (first
    | (with_reducible refine wpList_build_as rfl 78 #[(0, .tmp 1)] rfl V (by rw [← hV]; kernel_rfl) ?_)
    | (with_reducible refine wpList_store_blk rfl 78 (.tmp 0) (.tmp 2) rfl w.heap.size 0 rfl _ _ bn (can ShaMath.h0 [] 0).cells V (by rw [← hV]) rfl (by rw [hl, hn]; omega) (by rw [hl]; kernel_rfl) (stm_one _) ?_; intro w7 hg7 hs7 hB7))
  refine bodyPost_ret (results_arr rfl _ _ w.heap.size (can ShaMath.h0 [] 0).cells rfl ?_ rfl rfl (by rw [hl]; kernel_rfl)) rfl ⟨by rw [hV], ?_⟩
  · rw [Nat.zero_add, List.take_zero, List.nil_append, List.drop_of_length_le (by rw [hl, hn]; exact Nat.le_refl _), List.append_nil] at hB7; exact hB7
  · exact ((Below.refl _ _).alloc (Nat.le_refl _) _).grown hg7 (by simp) (fun k h => by cases h; exact Nat.le_refl _)
theorem run_ok : ∀ (n : Nat) (h : ShaMath.St) (l : List UInt8), Ok8 h → Ok8 (ShaMath.runN ShaMath.blk n h l)
  | 0, _, _, o => o
  | n + 1, h, l, o => run_ok n _ _ (blk_ok _ _)
set_option maxRecDepth 100000 in
set_option maxHeartbeats 2000000 in
theorem sumBehind_any (l b : List UInt8) (al ab : Option Addr) (cl cb : Nat) (w : World) (hcl : l.length ≤ cl) (hcl1 : cl ≤ 9223372036854775807) (hcb : b.length ≤ cb) (hcb1 : cb ≤ 9223372036854775807) (hl : Bytes w al l) (hb : Bytes w ab b) (hmax : l.length + b.length ≤ 1152921504606846976) (hT : KW w) :
    Calls Tryd.prog 48 #[.slice al l.length cl, .slice ab b.length cb] w fun e w' => e = .returned (.agg (u8s (ShaMath.sha (l ++ b))).toArray) ∧ Below w.heap.size w w' := by
  obtain ⟨V0, hV0⟩ : ∃ V, (can ShaMath.h0 [] 0).cells.toArray = V := ⟨_, rfl⟩
  obtain ⟨V1, hV1⟩ : ∃ V, (can (ShaMath.run ShaMath.blk ShaMath.h0 l) (ShaMath.rest l) l.length).cells.toArray = V := ⟨_, rfl⟩
  obtain ⟨V2, hV2⟩ : ∃ V, (can (ShaMath.run ShaMath.blk ShaMath.h0 (l ++ b)) (ShaMath.rest (l ++ b)) (l ++ b).length).cells.toArray = V := ⟨_, rfl⟩
  obtain ⟨R, hR⟩ : ∃ R, (u8s (ShaMath.sha (l ++ b))).toArray = R := ⟨_, rfl⟩
  have ok1 : Ok8 (ShaMath.run ShaMath.blk ShaMath.h0 l) := run_ok _ _ _ h0_ok
  have ok2 : Ok8 (ShaMath.run ShaMath.blk ShaMath.h0 (l ++ b)) := run_ok _ _ _ h0_ok
  have hlb : (l ++ b).length = l.length + b.length := List.length_append
  have c0 := fun W => begin_any W
  have c1 := fun W (h1 : Bytes W al l) (h2 : KW W) => add_any ShaMath.h0 h0_ok [] (by decide) 0 l al cl W (by decide) (by omega) hcl hcl1 h1 h2
  have c2 := fun W (h1 : Bytes W ab b) (h2 : KW W) => add_any _ ok1 (ShaMath.rest l) (ShaMath.rest_lt l) l.length b ab cb W (by omega) (by omega) hcb hcb1 h1 h2
  have c3 := fun W (h2 : KW W) => end_any _ ok2 (ShaMath.rest (l ++ b)) (ShaMath.rest_lt _) (l ++ b).length (ShaMath.rest_length _) (by omega) W h2
  have e1 : (0 : Int) + (l.length : Int) = (l.length : Int) := by omega
  have e2 : (l.length : Int) + (b.length : Int) = ((l ++ b).length : Int) := by omega
  rw [hV0] at c0
  rw [hV0] at c1
  rw [List.nil_append, e1, hV1] at c1
  rw [hV1, ShaMath.run_cut, ShaMath.rest_cut, e2, hV2] at c2
  rw [hV2] at c3
  have eF : ShaMath.fin (ShaMath.run ShaMath.blk ShaMath.h0 (l ++ b)) (ShaMath.rest (l ++ b)) (l ++ b).length = ShaMath.sha (l ++ b) := rfl
  rw [eF, hR] at c3
  have hsl : (ShaMath.sha (l ++ b)).length = 32 := ShaMath.sha_length _
  rw [hR]
  clear e1 e2 eF hlb hV0 hV1 hV2
  go_enter Tryd.func48, Tryd.ntmps48
  go_wp2_with (first
    | (go_at_call 65; refine (c0 _).mono ?_; rintro e w1 ⟨rfl, k1⟩; have B1 : Blk w1 w.heap.size 51 (u8s (List.replicate 32 0)) := (Blk.new w (u8s (List.replicate 32 0)).toArray _).call k1; have m1 : Below w.heap.size w w1 := below_step ((Below.refl _ _).alloc (Nat.le_refl _) _) (by simp) k1; have l1 := hl.keep m1; have t1 := hT.keep m1 (Nat.le_refl _); have b1 := hb.keep m1; clear c0)
    | (go_at_call 64; refine (c1 _ l1 t1).mono ?_; rintro e w2 ⟨rfl, k2⟩; have B2 := B1.call k2; have m2 := below_step m1 m1.size k2; have b2 := b1.keep k2; have t2 := t1.keep k2 (Nat.le_refl _); clear c1)
    | (go_at_call 64; refine (c2 _ b2 t2).mono ?_; rintro e w3 ⟨rfl, k3⟩; have B3 := B2.call k3; have m3 := below_step m2 m2.size k3; have t3 := t2.keep k3 (Nat.le_refl _); clear c2)
    | (go_at_call 63; refine (c3 _ t3).mono ?_; rintro e w4 ⟨rfl, k4⟩; have B4 := B3.call k4; have m4 := below_step m3 m3.size k4; clear c3)
    | (with_reducible refine wpList_store_blk rfl 51 (.tmp 4) (.tmp 10) rfl w.heap.size 0 rfl _ _ B4 (u8s (ShaMath.sha (l ++ b))) R (by rw [← hR]) rfl (by rw [u8s_length, u8s_length, List.length_replicate, hsl]; omega) (by rw [u8s_length, hsl]; kernel_rfl) (u8s_one _) ?_; intro x3 hg7 hs7 hB7))
  refine bodyPost_ret (results_arr rfl _ _ w.heap.size (u8s (ShaMath.sha (l ++ b))) rfl ?_ rfl rfl (by rw [u8s_length, hsl]; kernel_rfl)) rfl ⟨by rw [hR], ?_⟩
  · rw [Nat.zero_add, List.take_zero, List.nil_append, List.drop_of_length_le (by rw [u8s_length, u8s_length, List.length_replicate, hsl]; exact Nat.le_refl _), List.append_nil] at hB7; exact hB7
  · exact m4.grown hg7 m4.size (fun k h => by cases h; exact Nat.le_refl _)
theorem sum_any (b : List UInt8) (ab : Option Addr) (cb : Nat) (w : World) (hcb : b.length ≤ cb) (hcb1 : cb ≤ 9223372036854775807) (hb : Bytes w ab b) (hmax : b.length ≤ 1152921504606846976) (hT : KW w) :
    Calls Tryd.prog 28 #[.slice ab b.length cb] w fun e w' => e = .returned (.agg (u8s (ShaMath.sha b)).toArray) ∧ Below w.heap.size w w' := by
  obtain ⟨R, hR⟩ : ∃ R, (u8s (ShaMath.sha b)).toArray = R := ⟨_, rfl⟩
  have hsl : (ShaMath.sha b).length = 32 := ShaMath.sha_length _
  have c0 := fun W (h1 : Bytes W ab b) (h2 : KW W) => sumBehind_any [] b none ab 0 cb W (by decide) (by decide) hcb hcb1 (Or.inl rfl) h1 (by rw [List.length_nil]; omega) h2
  rw [List.nil_append, hR, List.length_nil] at c0
  rw [hR]
  go_enter Tryd.func28, Tryd.ntmps28
  have m0 : ∀ o, Below w.heap.size w (w.alloc o) := fun o => (Below.refl _ _).alloc (Nat.le_refl _) o
  go_wp2_with (first
    | (go_at_call 48; refine (c0 _ (hb.keep (m0 _)) (hT.keep (m0 _) (Nat.le_refl _))).mono ?_; rintro e w1 ⟨rfl, k1⟩; have B1 : Blk w1 w.heap.size 51 (u8s (List.replicate 32 0)) := (Blk.new w (u8s (List.replicate 32 0)).toArray _).call k1; have m1 : Below w.heap.size w w1 := below_step (m0 _) (by simp) k1; clear c0)
    | (with_reducible refine wpList_store_blk rfl 51 (.tmp 2) (.tmp 4) rfl w.heap.size 0 rfl _ _ B1 (u8s (ShaMath.sha b)) R (by rw [← hR]) rfl (by rw [u8s_length, u8s_length, List.length_replicate, hsl]; omega) (by rw [u8s_length, hsl]; kernel_rfl) (u8s_one _) ?_; intro x3 hg7 hs7 hB7))
  refine bodyPost_ret (results_arr rfl _ _ w.heap.size (u8s (ShaMath.sha b)) rfl ?_ rfl rfl (by rw [u8s_length, hsl]; kernel_rfl)) rfl ⟨by rw [hR], ?_⟩
  · rw [Nat.zero_add, List.take_zero, List.nil_append, List.drop_of_length_le (by rw [u8s_length, u8s_length, List.length_replicate, hsl]; exact Nat.le_refl _), List.append_nil] at hB7; exact hB7
  · exact m1.grown hg7 m1.size (fun k h => by cases h; exact Nat.le_refl _)
end Go.Proofs.YtmldhnghfdhjmaaDoor
