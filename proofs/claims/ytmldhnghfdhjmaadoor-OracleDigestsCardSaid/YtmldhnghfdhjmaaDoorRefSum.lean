/-
  CONTRACTS of the reference's Ended and Summed.
  CONDITIONS: each theorem's own hypotheses.
-/
import Derived.Test.YtmldhnghfdhjmaaDoorRefEnd
namespace Go.Proofs.YtmldhnghfdhjmaaDoor
open Go.RowKit CodeMath
set_option linter.unusedVariables false
set_option maxRecDepth 100000

/-- A canonical stream may be. -/
theorem can_good (h : ShaMath.St) (m : List UInt8) (L : Int) (hm : m.length < 64) (h0 : 0 ≤ L) (h1 : L ≤ 1152921504606846976) (hL : (m.length : Int) = L % 64) : (can h m L).good = true := by
  rw [Stm.good_len _ ⟨h0, h1, hL⟩]
  unfold can
  simp only [Int.toNat_natCast]
  rw [List.drop_append_of_le_length (Nat.le_refl _), List.drop_of_length_le (Nat.le_refl _), List.nil_append, List.all_eq_true]
  intro x hx
  rw [(List.mem_replicate.1 hx).2]
  rfl
theorem can_fit (h : ShaMath.St) (o : Ok8 h) (m : List UInt8) (L : Int) (hm : m.length < 64) (h0 : 0 ≤ L) (h1 : L ≤ 1152921504606846976) : (can h m L).Fit :=
  ⟨o, can_held _ _ _ (by omega), by show _ ≤ (m.length : Int); omega, by show (m.length : Int) ≤ _; omega, by show _ ≤ L; omega, by show L ≤ _; omega⟩
set_option maxRecDepth 100000 in
set_option maxHeartbeats 2000000 in
theorem summed_any (b : List UInt8) (ab : Option Addr) (cb : Nat) (w : World) (hcb : b.length ≤ cb) (hcb1 : cb ≤ 9223372036854775807) (hb : Bytes w ab b) (hmax : b.length ≤ 1152921504606846976) :
    Calls Tryd.prog 31 #[.slice ab b.length cb] w fun e w' => e = .returned (.agg (u8s (ShaMath.sha b)).toArray) ∧ Below w.heap.size w w' := by
  have hsl : (ShaMath.sha b).length = 32 := ShaMath.sha_length _
  have f0 : (can ShaMath.h0 [] 0).Fit := can_fit _ h0_ok _ _ (by decide) (by decide) (by decide)
  have g0 : (can ShaMath.h0 [] 0).good = true := can_good _ _ _ (by decide) (by decide) (by decide) (by decide)
  have c0 := fun W => begun_any W
  have c1 := fun W (h1 : Bytes W ab b) => Added_good (can ShaMath.h0 [] 0) f0 b ab cb hcb hcb1 g0 (by show ¬ (_ < (0 : Int)); omega) W h1
  have em : (can ShaMath.h0 [] 0).held.take (can ShaMath.h0 [] 0).n.toNat = [] := rfl
  have el : (can ShaMath.h0 [] 0).len + (b.length : Int) = (b.length : Int) := by show (0 : Int) + _ = _; omega
  have eh : (can ShaMath.h0 [] 0).h = ShaMath.h0 := rfl
  rw [em, el, eh, List.nil_append] at c1
  have okr : Ok8 (ShaMath.run ShaMath.blk ShaMath.h0 b) := run_ok _ _ _ h0_ok
  have hrl := ShaMath.rest_lt b
  have hrr := ShaMath.rest_length b
  have hrx : (ShaMath.rest b).length ≤ 64 := by omega
  have f2 : (can (ShaMath.run ShaMath.blk ShaMath.h0 b) (ShaMath.rest b) b.length).Fit := can_fit _ okr _ _ hrl (by omega) (by omega)
  have g2 : (can (ShaMath.run ShaMath.blk ShaMath.h0 b) (ShaMath.rest b) b.length).good = true := can_good _ _ _ hrl (by omega) (by omega) (by omega)
  have c2 := fun W => ended_any _ f2 g2 W
  have e2 : ShaMath.fin (can (ShaMath.run ShaMath.blk ShaMath.h0 b) (ShaMath.rest b) b.length).h ((can (ShaMath.run ShaMath.blk ShaMath.h0 b) (ShaMath.rest b) b.length).held.take (can (ShaMath.run ShaMath.blk ShaMath.h0 b) (ShaMath.rest b) b.length).n.toNat) (can (ShaMath.run ShaMath.blk ShaMath.h0 b) (ShaMath.rest b) b.length).len.toNat = ShaMath.sha b := by
    unfold can
    simp only [Int.toNat_natCast]
    rw [List.take_append_of_le_length (Nat.le_refl _), List.take_of_length_le (Nat.le_refl _)]
    rfl
  rw [e2] at c2
  have hc74 : (can (ShaMath.run ShaMath.blk ShaMath.h0 b) (ShaMath.rest b) b.length).cells.length = 74 := Stm.cells_length _ f2.held
  generalize can (ShaMath.run ShaMath.blk ShaMath.h0 b) (ShaMath.rest b) b.length = S2 at c1 c2 hc74
  generalize ShaMath.sha b = D at hsl c2 ⊢
  obtain ⟨V0, hV0⟩ : ∃ V, (can ShaMath.h0 [] 0).cells.toArray = V := ⟨_, rfl⟩
  obtain ⟨V2, hV2⟩ : ∃ V, S2.cells.toArray = V := ⟨_, rfl⟩
  obtain ⟨R, hR⟩ : ∃ R, (u8s D).toArray = R := ⟨_, rfl⟩
  rw [hV0] at c0 c1
  rw [hV2] at c1 c2
  rw [hR] at c2
  rw [hR]
  have hzero := zero_stream
  have hn : noStm.cells.length = 74 := rfl
  have szD : (u8s D).length = 32 := by rw [u8s_length, hsl]
  have sz : (u8s (List.replicate 32 0)).length = 32 := by rw [u8s_length, List.length_replicate]
  clear em el eh e2 f0 g0 f2 g2 okr hV0 hrl hrr hrx
  have e74 : ((S2.cells.drop 0).take 74).toArray = V2 := by rw [List.drop_zero, List.take_of_length_le (by omega)]; exact hV2
  go_enter Tryd.func31, Tryd.ntmps31
  have m0 : ∀ o, Below w.heap.size w (w.alloc o) := fun o => (Below.refl _ _).alloc (Nat.le_refl _) o
  go_wp2_with (first
    | (go_at_call 50; refine (c0 _).mono ?_; rintro e w1 ⟨rfl, k1⟩; have B1 : Blk w1 w.heap.size 51 (u8s (List.replicate 32 0)) := (Blk.new w (u8s (List.replicate 32 0)).toArray _).call k1; have m1 : Below w.heap.size w w1 := below_step ((Below.refl _ _).alloc (Nat.le_refl _) _) (by simp) k1; have l1 := hb.keep m1; clear c0)
    | (go_at_call 49; refine (c1 _ l1).mono ?_; rintro e w2 ⟨rfl, k2⟩; have B2 := B1.call k2; have m2 := below_step m1 m1.size k2; have bn : Blk (w2.alloc (.cells noCells 78)) w2.heap.size 78 noStm.cells := Blk.new w2 noCells _; have hlt2 := B2.lt; clear c1)
    | (with_reducible refine wpList_store_blk rfl 78 (.tmp 3) (.tmp 9) rfl w2.heap.size 0 rfl _ _ bn S2.cells V2 (by rw [← hV2]) rfl (by rw [hc74, hn]; omega) (by rw [hc74]; kernel_rfl) (stm_one _) ?_; intro w3 hg3 hs3 hB3; rw [Nat.zero_add, List.take_zero, List.nil_append, List.drop_of_length_le (by rw [hc74, hn]; exact Nat.le_refl _), List.append_nil] at hB3; have B3 := (B2.alloc (.cells noCells 78)).same (hg3.block w.heap.size (B2.alloc _).lt (by simp; omega)); have m3 : Below w.heap.size w w3 := (m2.alloc m2.size _).grown hg3 (by have := m2.size; simp; omega) (fun k h => by cases h; exact m2.size))
    | (with_reducible refine wpList_load_blk rfl 78 (.tmp 3) rfl w2.heap.size 0 74 rfl _ _ hB3 (by rw [hc74]; omega) V2 e74 _ rfl rfl (by kernel_rfl) ?_)
    | (go_at_call 51; refine (c2 _).mono ?_; rintro e w4 ⟨rfl, k4⟩; have B4 := B3.call k4; have m4 := below_step m3 m3.size k4; clear c2)
    | (with_reducible refine wpList_store_blk rfl 51 (.tmp 2) (.tmp 12) rfl w.heap.size 0 rfl _ _ B4 (u8s D) R (by rw [← hR]) rfl (by rw [szD, sz]; omega) (by rw [szD]; kernel_rfl) (u8s_one _) ?_; intro x3 hg7 hs7 hB7))
  refine bodyPost_ret (results_arr rfl _ _ w.heap.size (u8s D) rfl ?_ rfl rfl (by rw [szD]; kernel_rfl)) rfl ⟨by rw [hR], ?_⟩
  · rw [Nat.zero_add, List.take_zero, List.nil_append, List.drop_of_length_le (by rw [szD, sz]; exact Nat.le_refl _), List.append_nil] at hB7; exact hB7
  · exact m4.grown hg7 m4.size (fun k h => by cases h; exact Nat.le_refl _)
end Go.Proofs.YtmldhnghfdhjmaaDoor
