/-
  CONTRACTS of the laws' slotOf and slotsOf: raw things as slots.
  CONDITIONS: each theorem's own hypotheses.
-/
import Derived.Test.YtcplnfaopigoiaaDoorSlotK
import Derived.Test.YtcplnfaopigoiaaDoorPartsK
import Derived.Test.YtcplnfaopigoiaaDoorPicked
import Derived.Test.YtcplnfaopigoiaaDoorGReg
import Derived.Test.YtcplnfaopigoiaaDoorGSha
import Derived.Test.YtcplnfaopigoiaaDoorGLev
namespace Go.Proofs.YtcplnfaopigoiaaDoor
open Go.RowKit CodeMath
set_option linter.unusedVariables false
set_option maxRecDepth 100000

def by8 (n : Int) : UInt8 := UInt8.ofNat (n % 256).toNat
theorem by8_toNat (n : Int) : ((by8 n).toNat : Int) = n % 256 := by
  unfold by8
  have h1 := Int.emod_nonneg n (show (256 : Int) ≠ 0 by decide)
  have h2 := Int.emod_lt_of_pos n (show (0 : Int) < 256 by decide)
  rw [UInt8.toNat_ofNat']
  omega
theorem wrap_by8 (n : Int) : IntKind.u8.wrap n = ((by8 n).toNat : Int) := by
  rw [by8_toNat]
  simp [IntKind.wrap, IntKind.bits, IntKind.signed]
def zSl : List Value := [.bool false, .slice none 0 0, .slice none 0 0]
/-- A raw thing as a slot. -/
def R.slot (r : R) : Sl := ⟨decide (0 < r.k % 3), [by8 r.a, by8 (r.a / 256), by8 r.b], if 0 < r.k % 3 then r.cut 20 else []⟩
theorem rowU_lit3 (w : World) (x y z : Int) (S : List UInt8) (hS : ∃ a b c : UInt8, S = [a, b, c] ∧ x = a.toNat ∧ y = b.toNat ∧ z = c.toNat) : RowU (w.alloc (.cells #[.int .u8 x, .int .u8 y, .int .u8 z] 5)) (.slice (some ⟨w.heap.size, 0, none⟩) 3 3) S := by
  obtain ⟨a, b, c, rfl, rfl, rfl, rfl⟩ := hS
  refine ⟨_, 3, rfl, Nat.le_refl _, by decide, (fun h => by cases h), .inr ⟨w.heap.size, #[.int .u8 (a.toNat : Int), .int .u8 (b.toNat : Int), .int .u8 (c.toNat : Int)], (0, 0), rfl, ?_, fun j y hy => ?_⟩⟩
  · show (w.heap.push _)[w.heap.size]? = _
    simp
  · match j, hy with
    | 0, hy => simp at hy; subst hy; rfl
    | 1, hy => simp at hy; subst hy; rfl
    | 2, hy => simp at hy; subst hy; rfl
def SlotOfF (g0 B : Nat) (k km a b x y z : Int) (S : List UInt8) : Nat → Value → World → Prop
  | 0, v, _ => v = .pointer (some ⟨g0, 0, none⟩)
  | 1, v, _ => v = .int .i64 k
  | 2, v, _ => v = .int .i64 km
  | 3, v, _ => v = .bool (decide (0 < km))
  | 4, v, _ => v = .pointer (some ⟨g0, 1, none⟩)
  | 5, v, _ => v = .int .i64 a
  | 6, v, _ => v = .int .u8 x
  | 7, v, _ => v = .pointer (some ⟨g0, 1, none⟩)
  | 8, v, _ => v = .int .i64 a
  | 9, v, _ => v = .int .i64 (a / 256)
  | 10, v, _ => v = .int .u8 y
  | 11, v, _ => v = .pointer (some ⟨g0, 2, none⟩)
  | 12, v, _ => v = .int .i64 b
  | 13, v, _ => v = .int .u8 z
  | 14, v, w => ∃ h, v = .slice (some ⟨h, 0, none⟩) 3 3 ∧ RowU w (.slice (some ⟨h, 0, none⟩) 3 3) S
  | 15, v, w => ∃ h, v = .agg #[.bool (decide (0 < km)), .slice (some ⟨h, 0, none⟩) 3 3, .slice none 0 0] ∧ RowU w (.slice (some ⟨h, 0, none⟩) 3 3) S
  | 16, v, w => ∃ g, v = .pointer (some ⟨g, 0, none⟩) ∧ B ≤ g ∧ Blk w g 44 zSl
  | _, _, _ => True
theorem slotOfF_keep {g0 B : Nat} {k km a b x y z : Int} {S : List UInt8} (i : Nat) (v : Value) (w w' : World) (h : SlotOfF g0 B k km a b x y z S i v w) (he : Below w.heap.size w w') : SlotOfF g0 B k km a b x y z S i v w' := by
  unfold SlotOfF at *
  split at h <;> (try exact h) <;> (try exact trivial)
  · obtain ⟨q, h1, h2⟩ := h; exact ⟨q, h1, h2.keep he⟩
  · obtain ⟨q, h1, h2⟩ := h; exact ⟨q, h1, h2.keep he⟩
  · obtain ⟨q, h1, h2, h3⟩ := h; exact ⟨q, h1, h2, h3.call he⟩
set_option maxHeartbeats 4000000 in
theorem slotOf_any (r : R) (hf : r.Fits) (w : World) :
    Calls Tryd.prog 22 #[.agg #[.int .i64 r.k, .int .i64 r.a, .int .i64 r.b, .string r.s]] w fun e w' => ∃ us ud, e = .returned (.agg #[.bool r.slot.f, us, ud]) ∧ RowU w' us r.slot.s ∧ RowU w' ud r.slot.d ∧ Below w.heap.size w w' := by
  obtain ⟨k, a, b, s⟩ := r
  obtain ⟨h1, h2, h3, h4⟩ := hf
  simp only at h1 h2 h3 h4
  have cP := fun W => picked_any k 3 W (by decide) (by decide) h1 h2
  obtain ⟨km, hkm⟩ : ∃ km, k % 3 = km := ⟨_, rfl⟩
  have hk0 : 0 ≤ km := by omega
  have hk2 : km ≤ 2 := by omega
  rw [hkm] at cP
  have hsl : R.slot ⟨k, a, b, s⟩ = ⟨decide (0 < km), [by8 a, by8 (a / 256), by8 b], if 0 < km then R.cut ⟨k, a, b, s⟩ 20 else []⟩ := by unfold R.slot; simp only; rw [hkm]
  rw [hsl]
  simp only
  have ex := wrap_by8 a
  have ey := wrap_by8 (a / 256)
  have ez := wrap_by8 b
  have HS : Hid (∃ a' b' c' : UInt8, [by8 a, by8 (a / 256), by8 b] = [a', b', c'] ∧ ((by8 a).toNat : Int) = a'.toNat ∧ ((by8 (a / 256)).toNat : Int) = b'.toNat ∧ ((by8 b).toNat : Int) = c'.toNat) := Lib.hid ⟨_, _, _, rfl, rfl, rfl, rfl⟩
  generalize [by8 a, by8 (a / 256), by8 b] = S at *
  generalize ((by8 a).toNat : Int) = x at *
  generalize ((by8 (a / 256)).toNat : Int) = y at *
  generalize ((by8 b).toNat : Int) = z at *
  clear hkm hsl
  obtain ⟨q, hq'⟩ : ∃ q, min s.size 20 = q := ⟨_, rfl⟩
  have hqs : q ≤ s.size := by omega
  have hcut : ∀ W, (Instr.slice 9 (.string s) none (some (.int .i64 (q : Int))) none).run Tryd.prog W = .ok (.string (str (R.cut ⟨k, a, b, s⟩ 20))) W := fun W => by
    rw [cut_head s q (q : Int) rfl hqs W]
    have : s.data.toList.take q = R.cut ⟨k, a, b, s⟩ 20 := by
      unfold R.cut
      rw [List.take_eq_take_iff]
      have : s.data.toList.length = s.size := Array.length_toList
      show min q s.data.toList.length = min 20 s.data.toList.length
      omega
    rw [this]
  have hmin : ∀ (ts : Array TypeId) (t : TypeId) (W : World), (Builtin.min_ ts t #[.int .i64 (s.size : Int), .int .i64 20]).run Tryd.prog W = .ok (.int .i64 (q : Int)) W := fun ts t W => by
    rw [run_min_int2, ← hq']
    congr 2
    split <;> omega
  have hpl : (R.cut ⟨k, a, b, s⟩ 20).length ≤ 9223372036854775807 := by unfold R.cut; rw [List.length_take]; omega
  have cv := fun W => bytesOf_U (R.cut ⟨k, a, b, s⟩ 20) W hpl
  generalize R.cut ⟨k, a, b, s⟩ 20 = p at *
  generalize str p = SP at *
  clear hq' hqs hpl
  have hba := ((Below.refl w.heap.size w).alloc (Nat.le_refl _) (.cells #[.int .i64 k, .int .i64 a, .int .i64 b, .string s] 48)).alloc (by simp) (.cells #[.bool false, .slice none 0 0, .slice none 0 0] 44)
  have b0 : Blk (w.alloc (.cells #[.int .i64 k, .int .i64 a, .int .i64 b, .string s] 48)) w.heap.size 48 [.int .i64 k, .int .i64 a, .int .i64 b, .string s] := Blk.new w _ _
  have b1 := b0.alloc (.cells #[.bool false, .slice none 0 0, .slice none 0 0] 44)
  have b2 : Blk ((w.alloc (.cells #[.int .i64 k, .int .i64 a, .int .i64 b, .string s] 48)).alloc (.cells #[.bool false, .slice none 0 0, .slice none 0 0] 44)) (w.heap.size + 1) 44 zSl := Blk.atNew _ _ (by simp)
  go_enter Tryd.func22, Tryd.ntmps22
  go_upto_region 1 with fail
  generalize (w.alloc (.cells #[.int .i64 k, .int .i64 a, .int .i64 b, .string s] 48)).alloc (.cells #[.bool false, .slice none 0 0, .slice none 0 0] 44) = W1 at *
  have hC : ∀ W, Below W1.heap.size W1 W → W.cell? ⟨w.heap.size, 0, none⟩ = some (.int .i64 k) ∧ W.cell? ⟨w.heap.size, 1, none⟩ = some (.int .i64 a) ∧ W.cell? ⟨w.heap.size, 2, none⟩ = some (.int .i64 b) := fun W hW => ⟨(b1.call hW).cell rfl, (b1.call hW).cell rfl, (b1.call hW).cell rfl⟩
  have HC := Lib.hid hC
  clear hC b0
  refine wp_region_facts' 17 (by kernel_rfl) (by kernel_rfl) (SlotOfF w.heap.size W1.heap.size k km a b x y z S) (fun W => Below W1.heap.size W1 W) (fun W W' => Below W.heap.size W W') ?hC ?hF ?h0 ?hstep ?hdone
  case hC => exact fun W W' hc he => below_step hc hc.size he
  case hF => exact slotOfF_keep
  case h0 => exact (Below.refl _ _).drew
  case hstep =>
    intro i hi vs act W K ha' hc hd hu hK
    simp only [fillF, Act.put, List.take_succ_cons, List.take_zero, List.setIfInBounds_toArray, List.set_cons_zero, List.set_cons_succ] at ha'
    subst ha'
    clear hu cv hcut hmin
    rcases (show i = 0 ∨ i = 1 ∨ i = 2 ∨ i = 3 ∨ i = 4 ∨ i = 5 ∨ i = 6 ∨ i = 7 ∨ i = 8 ∨ i = 9 ∨ i = 10 ∨ i = 11 ∨ i = 12 ∨ i = 13 ∨ i = 14 ∨ i = 15 ∨ i = 16 by omega) with rfl | rfl | rfl | rfl | rfl | rfl | rfl | rfl | rfl | rfl | rfl | rfl | rfl | rfl | rfl | rfl | rfl
    · refine wpOp_step rfl (fun K' hK' => ?_)
      go_simp
      exact hK' _ _ (hK _ _ rfl (Below.refl _ _))
    · have e0 : vs 0 = .pointer (some ⟨w.heap.size, 0, none⟩) := hd 0 (by kernel_rfl)
      simp only [e0] at hK ⊢
      have q1 := (HC.out W hc).1
      refine wpOp_step rfl (fun K' hK' => ?_)
      go_simp
      exact hK' _ _ (hK _ _ rfl (Below.refl _ _))
    · have e1 : vs 1 = .int .i64 k := hd 1 (by kernel_rfl)
      simp only [e1] at hK ⊢
      refine wpOp_step rfl (fun K' hK' => ?_)
      go_simp
      with_reducible refine (cP W).mono ?_
      rintro e w' ⟨rfl, rfl⟩
      exact hK' _ _ (hK _ _ rfl (Below.refl _ _))
    · have e2 : vs 2 = .int .i64 km := hd 2 (by kernel_rfl)
      simp only [e2] at hK ⊢
      refine wpOp_step rfl (fun K' hK' => ?_)
      go_simp
      exact hK' _ _ (hK _ _ rfl (Below.refl _ _))
    · refine wpOp_step rfl (fun K' hK' => ?_)
      go_simp
      exact hK' _ _ (hK _ _ rfl (Below.refl _ _))
    · have e4 : vs 4 = .pointer (some ⟨w.heap.size, 1, none⟩) := hd 4 (by kernel_rfl)
      simp only [e4] at hK ⊢
      have q1 := (HC.out W hc).2.1
      refine wpOp_step rfl (fun K' hK' => ?_)
      go_simp
      exact hK' _ _ (hK _ _ rfl (Below.refl _ _))
    · have e5 : vs 5 = .int .i64 a := hd 5 (by kernel_rfl)
      simp only [e5] at hK ⊢
      refine wpOp_step rfl (fun K' hK' => ?_)
      go_simp
      exact hK' _ _ (hK _ _ rfl (Below.refl _ _))
    · refine wpOp_step rfl (fun K' hK' => ?_)
      go_simp
      exact hK' _ _ (hK _ _ rfl (Below.refl _ _))
    · have e7 : vs 7 = .pointer (some ⟨w.heap.size, 1, none⟩) := hd 7 (by kernel_rfl)
      simp only [e7] at hK ⊢
      have q1 := (HC.out W hc).2.1
      refine wpOp_step rfl (fun K' hK' => ?_)
      go_simp
      exact hK' _ _ (hK _ _ rfl (Below.refl _ _))
    · have e8 : vs 8 = .int .i64 a := hd 8 (by kernel_rfl)
      simp only [e8] at hK ⊢
      refine wpOp_step rfl (fun K' hK' => ?_)
      go_simp
      exact hK' _ _ (hK _ _ rfl (Below.refl _ _))
    · have e9 : vs 9 = .int .i64 (a / 256) := hd 9 (by kernel_rfl)
      simp only [e9] at hK ⊢
      refine wpOp_step rfl (fun K' hK' => ?_)
      go_simp
      exact hK' _ _ (hK _ _ rfl (Below.refl _ _))
    · refine wpOp_step rfl (fun K' hK' => ?_)
      go_simp
      exact hK' _ _ (hK _ _ rfl (Below.refl _ _))
    · have e11 : vs 11 = .pointer (some ⟨w.heap.size, 2, none⟩) := hd 11 (by kernel_rfl)
      simp only [e11] at hK ⊢
      have q1 := (HC.out W hc).2.2
      refine wpOp_step rfl (fun K' hK' => ?_)
      go_simp
      exact hK' _ _ (hK _ _ rfl (Below.refl _ _))
    · have e12 : vs 12 = .int .i64 b := hd 12 (by kernel_rfl)
      simp only [e12] at hK ⊢
      refine wpOp_step rfl (fun K' hK' => ?_)
      go_simp
      exact hK' _ _ (hK _ _ rfl (Below.refl _ _))
    · have e6 : vs 6 = .int .u8 x := hd 6 (by kernel_rfl)
      have e10 : vs 10 = .int .u8 y := hd 10 (by kernel_rfl)
      have e13 : vs 13 = .int .u8 z := hd 13 (by kernel_rfl)
      simp only [e6, e10, e13] at hK ⊢
      refine wpOp_step rfl (fun K' hK' => ?_)
      go_simp
      exact hK' _ _ (hK _ _ ⟨_, rfl, rowU_lit3 W _ _ _ S HS.out⟩ ((Below.refl _ _).alloc (Nat.le_refl _) _))
    · have e3 : vs 3 = .bool (decide (0 < km)) := hd 3 (by kernel_rfl)
      obtain ⟨h14, e14, y14⟩ := hd 14 (by kernel_rfl)
      simp only [e3, e14] at hK ⊢
      refine wpOp_step rfl (fun K' hK' => ?_)
      go_simp
      exact hK' _ _ (hK _ _ ⟨_, rfl, y14⟩ (Below.refl _ _))
    · refine wpOp_step rfl (fun K' hK' => ?_)
      go_simp
      exact hK' _ _ (hK _ _ ⟨_, rfl, hc.size, Blk.new W _ _⟩ ((Below.refl _ _).alloc (Nat.le_refl _) _))
  case hdone =>
    intro vs act W ha' hc hf
    simp only [fillF, Act.put, List.take_succ_cons, List.take_zero, List.setIfInBounds_toArray, List.set_cons_zero, List.set_cons_succ] at ha'
    subst ha'
    obtain ⟨h15, e15, y15⟩ := hf 15 (by decide)
    obtain ⟨g16, e16, b16, y16⟩ := hf 16 (by decide)
    simp only [Nat.zero_add, Nat.reduceAdd, e15, e16]
    have c1 := b1.call hc
    have c2 := b2.call hc
    have hlt2 : w.heap.size + 1 < W1.heap.size := b2.lt
    have hbW : Below w.heap.size w W := hba.trans (hc.mono hba.size)
    have hgw : w.heap.size ≤ g16 := by omega
    have n1 : w.heap.size ≠ g16 := by omega
    have n2 : w.heap.size + 1 ≠ g16 := by omega
    clear hf HC cP b1 b2 hc hba ex ey ez HS b16 hlt2
    generalize hbk : decide (0 < km) = bk at *
    simp only [List.drop_succ_cons, List.drop_zero]
    refine wpList_store_blk rfl 44 (.tmp 3) (.tmp 19) rfl g16 0 rfl _ _ y16 [.bool bk, .slice (some ⟨h15, 0, none⟩) 3 3, .slice none 0 0] #[.bool bk, .slice (some ⟨h15, 0, none⟩) 3 3, .slice none 0 0] rfl rfl (by show 0 + 3 ≤ 3; omega) (by kernel_rfl) (fun v hv => by simp at hv; rcases hv with rfl | rfl | rfl <;> rfl) ?_
    intro w7 hg7 hs7 hB7
    have hB8 : Blk w7 g16 44 [.bool bk, .slice (some ⟨h15, 0, none⟩) 3 3, .slice none 0 0] := hB7
    have d1 := c1.same (hg7.block w.heap.size c1.lt (fun e => n1 (by injection e)))
    have d2 := c2.same (hg7.block (w.heap.size + 1) c2.lt (fun e => n2 (by injection e)))
    have y7 : RowU w7 (.slice (some ⟨h15, 0, none⟩) 3 3) S := y15.grown hg7 (fun b hb => by cases hb; exact ⟨_, _, _, y16, by decide⟩)
    have hb7 : Below w.heap.size w w7 := hbW.grown hg7 hbW.size (fun k h => by cases h; exact hgw)
    have q0 : w7.cell? ⟨g16, 0, none⟩ = some (.bool bk) := hB8.cell rfl
    clear hB7 c1 c2 y15 y16 hg7 hbW hs7
    have fin : ∀ (bv : Bool) (ud : Value) (W9 : World), Blk W9 (w.heap.size + 1) 44 zSl → Below w.heap.size w W9 → RowU W9 (.slice (some ⟨h15, 0, none⟩) 3 3) S → (bv = decide (0 < km)) → RowU W9 ud (if 0 < km then p else []) →
        Blk (((W9.setCell ⟨w.heap.size + 1, 0, none⟩ (.bool bv)).setCell ⟨w.heap.size + 1, 1, none⟩ (.slice (some ⟨h15, 0, none⟩) 3 3)).setCell ⟨w.heap.size + 1, 2, none⟩ ud) (w.heap.size + 1) 44 [.bool bv, .slice (some ⟨h15, 0, none⟩) 3 3, ud] ∧
        RowU (((W9.setCell ⟨w.heap.size + 1, 0, none⟩ (.bool bv)).setCell ⟨w.heap.size + 1, 1, none⟩ (.slice (some ⟨h15, 0, none⟩) 3 3)).setCell ⟨w.heap.size + 1, 2, none⟩ ud) (.slice (some ⟨h15, 0, none⟩) 3 3) S ∧
        RowU (((W9.setCell ⟨w.heap.size + 1, 0, none⟩ (.bool bv)).setCell ⟨w.heap.size + 1, 1, none⟩ (.slice (some ⟨h15, 0, none⟩) 3 3)).setCell ⟨w.heap.size + 1, 2, none⟩ ud) ud (if 0 < km then p else []) ∧
        Below w.heap.size w (((W9.setCell ⟨w.heap.size + 1, 0, none⟩ (.bool bv)).setCell ⟨w.heap.size + 1, 1, none⟩ (.slice (some ⟨h15, 0, none⟩) 3 3)).setCell ⟨w.heap.size + 1, 2, none⟩ ud) := fun bv ud W9 hb9 hbel hr1 hbv hr2 => by
      have step : ∀ (W : World) (cs : List Value) (j : Nat) (v : Value), Blk W (w.heap.size + 1) 44 cs → ∀ (u : Value) (l : List UInt8), RowU W u l → RowU (W.setCell ⟨w.heap.size + 1, j, none⟩ v) u l := fun W cs j v hb u l hu =>
        hu.grown (grown_set W ⟨w.heap.size + 1, j, none⟩ v) (fun b hb' => by cases hb'; exact ⟨_, _, _, hb, by decide⟩)
      have k1 := hb9.set 0 (.bool bv)
      have k2 := k1.set 1 (.slice (some ⟨h15, 0, none⟩) 3 3)
      have k3 := k2.set 2 ud
      exact ⟨k3, step _ _ _ _ k2 _ _ (step _ _ _ _ k1 _ _ (step _ _ _ _ hb9 _ _ hr1)), step _ _ _ _ k2 _ _ (step _ _ _ _ k1 _ _ (step _ _ _ _ hb9 _ _ hr2)), ((hbel.setCell (p := ⟨w.heap.size + 1, 0, none⟩) (Nat.le_succ _) _).setCell (p := ⟨w.heap.size + 1, 1, none⟩) (Nat.le_succ _) _).setCell (p := ⟨w.heap.size + 1, 2, none⟩) (Nat.le_succ _) _⟩
    cases bk with
    | false =>
      have hkm : ¬ 0 < km := of_decide_eq_false hbk
      have q1 : w7.cell? ⟨g16, 1, none⟩ = some (.slice (some ⟨h15, 0, none⟩) 3 3) := hB8.cell rfl
      have q2 : w7.cell? ⟨g16, 2, none⟩ = some (.slice none 0 0) := hB8.cell rfl
      have e0 : w7.cell? ⟨w.heap.size + 1, 0, none⟩ = some (.bool false) := d2.cell rfl
      have e1 : w7.cell? ⟨w.heap.size + 1, 1, none⟩ = some (.slice none 0 0) := d2.cell rfl
      have e2 : w7.cell? ⟨w.heap.size + 1, 2, none⟩ = some (.slice none 0 0) := d2.cell rfl
      have f0 := d2.free 0
      have f1 := d2.free 1
      have f2 := d2.free 2
      obtain ⟨r1, r2, r3, r4⟩ := fin false (.slice none 0 0) w7 d2 hb7 y7 hbk.symm (by rw [if_neg hkm]; exact RowU.nil _)
      clear fin hB8 d1 d2 y7 hb7 cv hcut hmin
      rw [if_neg hkm] at r3
      go_wp2_with fail
      exact bodyPost_ret (results_arr rfl _ _ (w.heap.size + 1) _ rfl r1 rfl rfl (by kernel_rfl)) rfl ⟨_, _, rfl, r2, r3, r4⟩
    | true =>
      have hkm : 0 < km := of_decide_eq_true hbk
      have q3 : w7.cell? ⟨w.heap.size, 3, none⟩ = some (.string s) := d1.cell rfl
      obtain ⟨g8, k8, W8, hcv, hr8, hb8⟩ := cv w7
      have p2 : W8.cell? ⟨g16, 2, none⟩ = some (.slice none 0 0) := (hB8.call hb8).cell rfl
      have p3 := (hB8.call hb8).free 2
      have hB9 := (hB8.call hb8).set 2 (.slice (some g8) p.length k8)
      have d9 := (d2.call hb8).other ⟨g16, 2, none⟩ (.slice (some g8) p.length k8) n2
      have b9 : Below w.heap.size w (W8.setCell ⟨g16, 2, none⟩ (.slice (some g8) p.length k8)) := (below_step hb7 hb7.size hb8).setCell (p := ⟨g16, 2, none⟩) hgw _
      have hty : ∀ b, some g16 = some b → ∃ cur T fz, W8.heap[b]? = some (.cells cur T fz) ∧ T ≠ 5 := fun b hb => by cases hb; exact ⟨_, _, _, hB8.call hb8, by decide⟩
      have y9 := (y7.keep hb8).grown (grown_set W8 ⟨g16, 2, none⟩ (.slice (some g8) p.length k8)) hty
      have z9 := hr8.grown (grown_set W8 ⟨g16, 2, none⟩ (.slice (some g8) p.length k8)) hty
      obtain ⟨r1, r2, r3, r4⟩ := fin true (.slice (some g8) p.length k8) _ d9 b9 y9 hbk.symm (by rw [if_pos hkm]; exact z9)
      clear fin d1 d2 y7 hb7 cv hb8 y9 z9 b9 hty hr8
      generalize p.length = lp at *
      go_upto_region 4 with fail
      have q0' : (W8.setCell ⟨g16, 2, none⟩ (.slice (some g8) lp k8)).cell? ⟨g16, 0, none⟩ = some (.bool true) := hB9.cell rfl
      have q1' : (W8.setCell ⟨g16, 2, none⟩ (.slice (some g8) lp k8)).cell? ⟨g16, 1, none⟩ = some (.slice (some ⟨h15, 0, none⟩) 3 3) := hB9.cell rfl
      have q2' : (W8.setCell ⟨g16, 2, none⟩ (.slice (some g8) lp k8)).cell? ⟨g16, 2, none⟩ = some (.slice (some g8) lp k8) := hB9.cell rfl
      have e0 : (W8.setCell ⟨g16, 2, none⟩ (.slice (some g8) lp k8)).cell? ⟨w.heap.size + 1, 0, none⟩ = some (.bool false) := d9.cell rfl
      have e1 : (W8.setCell ⟨g16, 2, none⟩ (.slice (some g8) lp k8)).cell? ⟨w.heap.size + 1, 1, none⟩ = some (.slice none 0 0) := d9.cell rfl
      have e2 : (W8.setCell ⟨g16, 2, none⟩ (.slice (some g8) lp k8)).cell? ⟨w.heap.size + 1, 2, none⟩ = some (.slice none 0 0) := d9.cell rfl
      have f0 := d9.free 0
      have f1 := d9.free 1
      have f2 := d9.free 2
      clear hB8 hB9 d9 p2 p3 hcv q0 q3
      generalize W8.setCell ⟨g16, 2, none⟩ (.slice (some g8) lp k8) = W9 at *
      rw [if_pos hkm] at r3
      go_wp2_with fail
      exact bodyPost_ret (results_arr rfl _ _ (w.heap.size + 1) _ rfl r1 rfl rfl (by kernel_rfl)) rfl ⟨_, _, rfl, r2, r3, r4⟩
end Go.Proofs.YtcplnfaopigoiaaDoor
