/-
  THE WALK of the law 'chirographkeep.CrcBurst': for every slice of bytes, every place and every four bytes the law returns true.
  CONDITIONS: none but where the bytes lie.
-/
import Derived.Test.YtpnomfdcbmamoaaCrcLawX
import Derived.Test.YtpnomfdcbmamoaaBurstMath
import Derived.Test.YtpnomfdcbmamoaaPicked
import Derived.Deep.Cut
import Derived.Deep.CutRange
import Derived.Deep.DeepCutAuto
import Derived.Outline
namespace Go.Proofs.Ytpnomfdcbmamoaa
open Go.RowKit CodeMath
set_option linter.unusedVariables false

theorem burst_set (l d : List UInt8) (k i : Nat) (x : UInt8) (hk : k + i < l.length) (hx : d.getD i 0 = x) :
    (cellsB (bst l d k i)).set (k + i) (.int .u8 (((bst l d k i).getD (k + i) 0 ^^^ x).toNat : Nat)) = cellsB (bst l d k (i + 1)) := by
  unfold cellsB
  rw [← List.map_set (f := fun x : UInt8 => Value.int .u8 x.toNat)]
  simp only [bst]
  rw [hx]
theorem OwnB.form {w : World} {base : Nat} {v : Value} {l : List UInt8} (h : OwnB w base v l) : ∃ ao cap, v = .slice ao l.length cap ∧ (l.length = 0 ∨ ∃ g, ao = some ⟨g, 0, none⟩ ∧ base ≤ g ∧ g < w.heap.size) := by
  rcases h.2 with ⟨rfl, h0⟩ | ⟨g, cap, cur, rfl, h1, h2, _⟩
  · exact ⟨none, 0, by rw [h0], .inl h0⟩
  · exact ⟨_, cap, rfl, .inr ⟨g, rfl, h1, (h.lt g rfl).2⟩⟩
theorem bytes_at' {w : World} {g n cap base : Nat} (l : List UInt8) (hl : l.length = n) (h : w.ownsRow base 5 1 (.slice (some ⟨g, 0, none⟩) n cap) n (cellsB l)) : Bytes w (some ⟨g, 0, none⟩) l := by
  subst hl
  exact OwnB.bytes h
theorem burst_same (l d : List UInt8) (k i : Nat) (hk : ¬ k + i < l.length) : bst l d k (i + 1) = bst l d k i := by
  simp only [bst]
  rw [List.set_eq_of_length_le (by rw [bst_length]; omega)]
def BurstF (ad : Option Addr) (m capb capc : Nat) (aoc : Option Addr) (XB XC C1 C2 : Nat) (SB SC : ByteArray) (t : Bool) : Nat → Value → World → Prop
  | 0, v, _ => v = .slice ad m capb
  | 1, v, _ => v = .int .u32 XB
  | 2, v, _ => v = .slice aoc m capc
  | 3, v, _ => v = .int .u32 XC
  | 4, v, _ => v = .bool t
  | 5, v, _ => v = .slice ad m capb
  | 6, v, _ => v = .string SB
  | 7, v, _ => v = .slice aoc m capc
  | 8, v, _ => v = .string SC
  | 9, v, _ => v = .bool t
  | 10, v, _ => v = .bool true
  | 11, v, _ => v = .bool true
  | 12, v, w => ∃ g, v = .slice (some ⟨g, 0, none⟩) 1 1 ∧ Bytes w (some ⟨g, 0, none⟩) [1]
  | 13, v, _ => v = .int .u32 C1
  | 14, v, w => ∃ g, v = .slice (some ⟨g, 0, none⟩) 1 1 ∧ Bytes w (some ⟨g, 0, none⟩) [2]
  | 15, v, _ => v = .int .u32 C2
  | 16, v, _ => v = .bool true
  | 17, v, _ => v = .bool true
  | 18, v, _ => v = .bool true
  | _, _, _ => True
theorem burstF_keep {ad : Option Addr} {m capb capc : Nat} {aoc : Option Addr} {XB XC C1 C2 : Nat} {SB SC : ByteArray} {t : Bool} (i : Nat) (v : Value) (w w' : World) (h : BurstF ad m capb capc aoc XB XC C1 C2 SB SC t i v w) (he : Below w.heap.size w w') : BurstF ad m capb capc aoc XB XC C1 C2 SB SC t i v w' := by
  unfold BurstF at *
  split at h <;> (try exact h) <;> (try exact trivial)
  · obtain ⟨g, h1, h2⟩ := h; exact ⟨g, h1, h2.keep he⟩
  · obtain ⟨g, h1, h2⟩ := h; exact ⟨g, h1, h2.keep he⟩
/-- x[:m]. -/
theorem slice_to (ao : Option Addr) (n cap m : Nat) (hm : m ≤ cap) (hn : ao = none → n = 0) (hc : ao = none → cap = 0) (w : World) : (Instr.slice 22 (.slice ao n cap) none (some (.int .i64 (m : Int))) none).run Try.prog w = .ok (.slice ao m cap) w := by
  cases ao with
  | none =>
    obtain rfl := hn rfl
    obtain rfl := hc rfl
    obtain rfl : m = 0 := by omega
    go_simp
  | some ad =>
    have h : (m : Int) ≤ cap := by omega
    go_simp
set_option maxRecDepth 100000 in
set_option maxHeartbeats 4000000 in
theorem crcBurst_any (b : List UInt8) (ad : Option Addr) (capb : Nat) (n : Int) (x0 x1 x2 x3 : UInt8) (w : World)
    (hcb : b.length ≤ capb) (hrb : b.length ≤ 140737488351232) (hnb : ad = none → capb = 0) (hxb : Bytes w ad b) (hn0 : -9223372036854775808 ≤ n) (hn1 : n ≤ 9223372036854775807) :
    Calls Try.prog 5 #[.slice ad b.length capb, .int .i64 n, .agg #[.int .u8 x0.toNat, .int .u8 x1.toNat, .int .u8 x2.toNat, .int .u8 x3.toNat]] w fun e w' => e = .returned (.bool true) ∧ Below w.heap.size w w' := by
  obtain ⟨m, hm⟩ : ∃ m : Nat, min b.length 200 = m := ⟨_, rfl⟩
  have hmin : ∀ (ts : Array TypeId) (t : TypeId) (W : World), (Builtin.min_ ts t #[.int .i64 (b.length : Int), .int .i64 200]).run Try.prog W = .ok (.int .i64 (m : Int)) W := fun ts t W => by
    rw [run_min_int2, ← hm]
    congr 2
    split <;> omega
  have hmc : (m : Int) ≤ capb := by omega
  have hsl := fun W => slice_to ad b.length capb m (by omega) (fun e => by have := hnb e; omega) hnb W
  have hm63 : m ≤ 9223372036854775807 := by omega
  have hlen : (b.take m).length = m := by rw [List.length_take]; omega
  have cP := fun W => picked_any n ((m : Int) + 1) W (by omega) (by omega) hn0 hn1
  have k0 := Int.emod_nonneg n (show (m : Int) + 1 ≠ 0 by omega)
  have k1 := Int.emod_lt_of_pos n (show (0 : Int) < (m : Int) + 1 by omega)
  obtain ⟨k, hk⟩ : ∃ k : Nat, (k : Int) = n % ((m : Int) + 1) := ⟨(n % ((m : Int) + 1)).toNat, by omega⟩
  rw [← hk] at cP k0 k1
  have hkm : k ≤ m := by omega
  have hbt := hxb.take m
  have HK := Lib.hid hk
  clear hk
  have i0 : ∀ w, (Instr.index 27 (.agg #[.int .u8 x0.toNat, .int .u8 x1.toNat, .int .u8 x2.toNat, .int .u8 x3.toNat]) (.int .i64 0)).run Try.prog w = .ok (.int .u8 x0.toNat) w := fun _ => by kernel_rfl
  have i1 : ∀ w, (Instr.index 27 (.agg #[.int .u8 x0.toNat, .int .u8 x1.toNat, .int .u8 x2.toNat, .int .u8 x3.toNat]) (.int .i64 1)).run Try.prog w = .ok (.int .u8 x1.toNat) w := fun _ => by kernel_rfl
  have i2 : ∀ w, (Instr.index 27 (.agg #[.int .u8 x0.toNat, .int .u8 x1.toNat, .int .u8 x2.toNat, .int .u8 x3.toNat]) (.int .i64 2)).run Try.prog w = .ok (.int .u8 x2.toNat) w := fun _ => by kernel_rfl
  have i3 : ∀ w, (Instr.index 27 (.agg #[.int .u8 x0.toNat, .int .u8 x1.toNat, .int .u8 x2.toNat, .int .u8 x3.toNat]) (.int .i64 3)).run Try.prog w = .ok (.int .u8 x3.toNat) w := fun _ => by kernel_rfl
  go_enter Try.func5, Try.ntmps5
  have hfr := fun (W : World) => ownB_fresh W W.heap.size (Nat.le_refl _)
  go_upto_region 2 with fail
  go_wp2_with (first
    | (at_builtin; go_loud (refine wpList_append_came rfl (.tmp 16) (.tmp 17) rfl (w.heap.size + 1) (.slice (some ⟨w.heap.size + 1, 0, none⟩) 0 0) [] rfl (by have := hfr (w.alloc (.cells #[.int .u8 x0.toNat, .int .u8 x1.toNat, .int .u8 x2.toNat, .int .u8 x3.toNat] 27)); simpa using this) (b.take m) ad capb (by rw [hlen]; rfl) (hbt.keep (((Below.refl _ _).alloc (Nat.le_refl _) _).alloc (by simp) _)) hnb (by rw [hlen]; simp; omega) (by simp) ?_); intro v7 w2 ho2 hb2))
  rw [List.nil_append] at ho2
  have hblk : w2.heap[w.heap.size]? = some (.cells #[.int .u8 x0.toNat, .int .u8 x1.toNat, .int .u8 x2.toNat, .int .u8 x3.toNat] 27 (0, 0)) := by
    rw [hb2.block w.heap.size (by omega), heap_alloc2_old]
  have q0 := (cell_of_row w2 w.heap.size 0 _ _ _ hblk)
  have q1 := (cell_of_row w2 w.heap.size 1 _ _ _ hblk)
  have q2 := (cell_of_row w2 w.heap.size 2 _ _ _ hblk)
  have q3 := (cell_of_row w2 w.heap.size 3 _ _ _ hblk)
  have hb20 : Below w.heap.size w w2 := (((Below.refl _ _).alloc (Nat.le_refl _) _).alloc (by simp) _).trans (hb2.mono (by omega))
  obtain ⟨aoc, capc, rfl, hform⟩ := ho2.form
  rw [hlen] at hform
  have ho3 : w2.ownsRow (w.heap.size + 1) 5 1 (.slice aoc m capc) m (cellsB (bst (b.take m) [x0, x1, x2, x3] k 0)) := by
    unfold OwnB at ho2
    rw [hlen] at ho2
    exact ho2
  rw [hlen]
  clear ho2 hfr hmin hsl
  refine (cP w2).mono ?_
  rintro e w3 ⟨rfl, rfl⟩
  clear hblk cP
  go_wp2_with fail
  clear q0 q1 q2 q3 hb2
  go_loopw [25] (fun ix wr => ∃ i : Nat, i ≤ 4 ∧ ix = .int .i64 i ∧ Hid (wr.ownsRow (w.heap.size + 1) 5 1 (.slice aoc m capc) m (cellsB (bst (b.take m) [x0, x1, x2, x3] k i))) ∧ Below w.heap.size w wr) (fun ix _ => 4 - (intOf ix).toNat)
  case atStart => exact ⟨0, by omega, rfl, Lib.hid ho3, hb20⟩
  case round =>
    obtain ⟨i, hi, rfl, ho, hbw⟩ := hrel
    by_cases h4 : i < 4
    · obtain ⟨X, hX⟩ : ∃ X, [x0, x1, x2, x3].getD i 0 = X := ⟨_, rfl⟩
      have hidx : ∀ w, (Instr.index 27 (.agg #[.int .u8 x0.toNat, .int .u8 x1.toNat, .int .u8 x2.toNat, .int .u8 x3.toNat]) (.int .i64 (i : Int))).run Try.prog w = .ok (.int .u8 X.toNat) w := by
        intro w
        rw [← hX]
        rcases (show i = 0 ∨ i = 1 ∨ i = 2 ∨ i = 3 by omega) with rfl | rfl | rfl | rfl
        · exact i0 w
        · exact i1 w
        · exact i2 w
        · exact i3 w
      clear i0 i1 i2 i3
      have kI : (k : Int) ≤ 200 := by omega
      have iI : (i : Int) ≤ 3 := by omega
      by_cases hki : k + i < m
      · obtain ⟨g, rfl, hg1, hg2⟩ := hform.resolve_left (by omega)
        have hw := ho.out
        have hcl := World.ownsRow.cellAt hw (k + i) (by omega)
        obtain ⟨c, hc⟩ : ∃ c, (bst (b.take m) [x0, x1, x2, x3] k i).getD (k + i) 0 = c := ⟨_, rfl⟩
        have hcc : wr.cell? ⟨g, k + i, none⟩ = some (.int .u8 c.toNat) := by
          rw [hcl, ← hc]
          unfold cellsB
          rw [List.getElem?_map, List.getD_eq_getElem?_getD, List.getElem?_eq_getElem (by rw [bst_length]; omega)]
          rfl
        have hfz := World.ownsRow.frozenAt hw (k + i)
        have hst := World.ownsRow.stored hw (k + i) (.int .u8 ((c ^^^ X).toNat : Nat))
        have hset := burst_set (b.take m) [x0, x1, x2, x3] k i X (by omega) hX
        rw [hc] at hset
        rw [hset] at hst
        have hx : bits .xor .u8 (c.toNat : Int) (X.toNat : Int) = (((c ^^^ X).toNat : Nat) : Int) := by
          rw [u8_xor_nat _ _ c.toNat_lt X.toNat_lt, UInt8.toNat_xor]
        have HST := Lib.hid hst
        have HX := Lib.hid hx
        have hlt : (k : Int) + i < m := by omega
        clear hst hset hw hcl ho hx hX hc ho3 hbt
        go_wp2
        go_roundw
        case rel =>
          refine ⟨i + 1, by omega, by go_num, Lib.hid ?_, ?_⟩
          · rw [HX.out]; exact HST.out.1
          · exact hbw.setCell (by simp; omega) _
        case measure => simp [intOf]; omega
      · have hsm := burst_same (b.take m) [x0, x1, x2, x3] k i (by omega)
        have HSM := Lib.hid hsm
        have hlt : ¬ ((k : Int) + i < m) := by omega
        clear hsm ho3 hbt hX
        go_wp2
        go_roundw
        case rel => exact ⟨i + 1, by omega, by go_num, Lib.hid (by rw [HSM.out]; exact ho.out), hbw⟩
        case measure => simp [intOf]; omega
    · obtain rfl : i = 4 := by omega
      have hw := ho.out
      have hDl : (bst (b.take m) [x0, x1, x2, x3] k 4).length = m := by rw [bst_length, hlen]
      have hyC : Bytes wr aoc (bst (b.take m) [x0, x1, x2, x3] k 4) := by
        rcases hform with h0 | ⟨g, rfl, _, _⟩
        · left; exact List.eq_nil_of_length_eq_zero (by omega)
        · exact bytes_at' _ hDl hw
      have htold := burst_told (b.take m) [x0, x1, x2, x3] k rfl (by omega)
      generalize bst (b.take m) [x0, x1, x2, x3] k 4 = C at hDl hyC htold
      have hyB : Bytes wr.drew ad (b.take m) := (hbt.keep hbw.drew)
      generalize b.take m = B at hlen hbt hyB htold
      have hyC' : Bytes wr.drew aoc C := hyC.keep (Below.refl _ _).drew
      have sB := fun (W : World) (hb : Below w.heap.size w W) => bytes_string (cap := capb) (hbt.keep hb)
      have sC := fun (W : World) (hb : Below wr.heap.size wr W) => bytes_string (cap := capc) (hyC.keep hb)
      have cB := fun (W : World) (hb : Below w.heap.size w W) => crc_any B ad capb W (by rw [hlen]; exact hm63) (hbt.keep hb)
      have cC := fun (W : World) (hb : Below wr.heap.size wr W) => crc_any C aoc capc W (by rw [hDl]; exact hm63) (hyC.keep hb)
      have c1 := fun (W : World) (k : Nat) (hb : Bytes W (some ⟨k, 0, none⟩) [1]) => crc_any [1] (some ⟨k, 0, none⟩) 1 W (by decide) hb
      have c2 := fun (W : World) (k : Nat) (hb : Bytes W (some ⟨k, 0, none⟩) [2]) => crc_any [2] (some ⟨k, 0, none⟩) 1 W (by decide) hb
      rw [hlen] at sB cB
      rw [hDl] at sC cC
      have hnn : ∃ (XB XC : Nat) (SB SC : ByteArray) (t : Bool), CrcMath.crc B = XB ∧ CrcMath.crc C = XC ∧ (⟨B.toArray⟩ : ByteArray) = SB ∧ (⟨C.toArray⟩ : ByteArray) = SC ∧ ((XB : Int) == (XC : Int)) = t ∧ (SB.toList == SC.toList) = t := by
        refine ⟨_, _, _, _, decide (B = C), rfl, rfl, rfl, rfl, ?_, ?_⟩
        · by_cases h : B = C
          · simp [h]
          · have h1 : CrcMath.crc B ≠ CrcMath.crc C := fun e => h (htold.1 e)
            have h2 : ((CrcMath.crc B : Nat) : Int) ≠ ((CrcMath.crc C : Nat) : Int) := fun e => h1 (Int.ofNat.inj e)
            simp [h, h2]
        · rw [show (⟨B.toArray⟩ : ByteArray).toList = B from str_toList B, show (⟨C.toArray⟩ : ByteArray).toList = C from str_toList C]
          by_cases h : B = C
          · simp [h]
          · simp [h]
      obtain ⟨XB, XC, SB, SC, t, e1, e2, e3, e4, ht1, ht2⟩ := hnn
      rw [e1] at cB
      rw [e2] at cC
      rw [e3] at sB
      rw [e4] at sC
      rw [show CrcMath.crc [1] = crc1 from rfl] at c1
      rw [show CrcMath.crc [2] = crc2 from rfl] at c2
      have hne : ((crc1 : Nat) : Int) ≠ ((crc2 : Nat) : Int) := by decide +kernel
      generalize crc1 = C1 at c1 hne
      generalize crc2 = C2 at c2 hne
      have hnb : (((C1 : Nat) : Int) == ((C2 : Nat) : Int)) = false := by simpa using hne
      have sb := hbw.size
      have htt : (t == t) = true := by simp
      clear hw ho hxb hbt hyB hyC hyC' htold hDl hlen e1 e2 e3 e4 ho3 hform i0 i1 i2 i3 HK hm hb20
      go_wp2_with fail
      refine wp_region_facts' 19 (by kernel_rfl) (by kernel_rfl) (BurstF ad m capb capc aoc XB XC C1 C2 SB SC t) (fun W => Below w.heap.size w W ∧ Below wr.heap.size wr W) (fun W W' => Below W.heap.size W W') ?hC ?hF ?h0 ?hstep ?hdone
      case hC => exact fun W W' hc he => ⟨below_step hc.1 (by have := hc.1.size; omega) he, below_step hc.2 hc.2.size he⟩
      case hF => exact burstF_keep
      case h0 => exact ⟨hbw.drew, (Below.refl _ _).drew⟩
      case hdone =>
        intro vs a W ha hc hF
        have e18 : vs 18 = .bool true := hF 18 (by decide)
        simp only [fillF, Act.put, List.take_succ_cons, List.take_zero, List.setIfInBounds_toArray, List.set_cons_zero, List.set_cons_succ] at ha
        subst ha
        simp only [e18, List.drop_succ_cons, List.drop_zero]
        go_wp2
        go_ret
        exact ⟨rfl, hc.1⟩
      case hstep =>
        intro i hi vs a W K ha hc hd hu hK
        simp only [fillF, Act.put, List.take_succ_cons, List.take_zero, List.setIfInBounds_toArray, List.set_cons_zero, List.set_cons_succ] at ha
        subst ha
        clear hu
        rcases (show i = 0 ∨ i = 1 ∨ i = 2 ∨ i = 3 ∨ i = 4 ∨ i = 5 ∨ i = 6 ∨ i = 7 ∨ i = 8 ∨ i = 9 ∨ i = 10 ∨ i = 11 ∨ i = 12 ∨ i = 13 ∨ i = 14 ∨ i = 15 ∨ i = 16 ∨ i = 17 ∨ i = 18 by omega) with rfl | rfl | rfl | rfl | rfl | rfl | rfl | rfl | rfl | rfl | rfl | rfl | rfl | rfl | rfl | rfl | rfl | rfl | rfl
        · refine wpOp_step rfl (fun K' hK' => ?_)
          go_simp
          exact hK' _ _ (hK _ _ rfl (Below.refl _ _))
        · have e0 : vs 0 = .slice ad m capb := hd 0 (by kernel_rfl)
          simp only [e0] at hK ⊢
          refine wpOp_step rfl (fun K' hK' => ?_)
          go_simp
          refine (cB _ hc.1).mono ?_
          rintro e w' ⟨rfl, rfl⟩
          exact hK' _ _ (hK _ _ rfl (Below.refl _ _))
        · refine wpOp_step rfl (fun K' hK' => ?_)
          go_simp
          exact hK' _ _ (hK _ _ rfl (Below.refl _ _))
        · have e2 : vs 2 = .slice aoc m capc := hd 2 (by kernel_rfl)
          simp only [e2] at hK ⊢
          refine wpOp_step rfl (fun K' hK' => ?_)
          go_simp
          refine (cC _ hc.2).mono ?_
          rintro e w' ⟨rfl, rfl⟩
          exact hK' _ _ (hK _ _ rfl (Below.refl _ _))
        · have e1 : vs 1 = .int .u32 XB := hd 1 (by kernel_rfl)
          have e3 : vs 3 = .int .u32 XC := hd 3 (by kernel_rfl)
          simp only [e1, e3] at hK ⊢
          refine wpOp_step rfl (fun K' hK' => ?_)
          go_simp
          exact hK' _ _ (hK _ _ rfl (Below.refl _ _))
        · refine wpOp_step rfl (fun K' hK' => ?_)
          go_simp
          exact hK' _ _ (hK _ _ rfl (Below.refl _ _))
        · have e5 : vs 5 = .slice ad m capb := hd 5 (by kernel_rfl)
          simp only [e5] at hK ⊢
          have s6 := sB W hc.1
          refine wpOp_step rfl (fun K' hK' => ?_)
          go_simp
          exact hK' _ _ (hK _ _ rfl (Below.refl _ _))
        · refine wpOp_step rfl (fun K' hK' => ?_)
          go_simp
          exact hK' _ _ (hK _ _ rfl (Below.refl _ _))
        · have e7 : vs 7 = .slice aoc m capc := hd 7 (by kernel_rfl)
          simp only [e7] at hK ⊢
          have s8 := sC W hc.2
          refine wpOp_step rfl (fun K' hK' => ?_)
          go_simp
          exact hK' _ _ (hK _ _ rfl (Below.refl _ _))
        · have e6 : vs 6 = .string SB := hd 6 (by kernel_rfl)
          have e8 : vs 8 = .string SC := hd 8 (by kernel_rfl)
          simp only [e6, e8] at hK ⊢
          refine wpOp_step rfl (fun K' hK' => ?_)
          go_simp
          exact hK' _ _ (hK _ _ rfl (Below.refl _ _))
        · have e4 : vs 4 = .bool t := hd 4 (by kernel_rfl)
          have e9 : vs 9 = .bool t := hd 9 (by kernel_rfl)
          simp only [e4, e9] at hK ⊢
          refine wpOp_step rfl (fun K' hK' => ?_)
          go_simp
          exact hK' _ _ (hK _ _ rfl (Below.refl _ _))
        · have e10 : vs 10 = .bool true := hd 10 (by kernel_rfl)
          simp only [e10] at hK ⊢
          refine wpOp_step rfl (fun K' hK' => ?_)
          go_simp
          exact hK' _ _ (hK _ _ rfl (Below.refl _ _))
        · have e11 : vs 11 = .bool true := hd 11 (by kernel_rfl)
          simp only [e11] at hK ⊢
          refine wpOp_step rfl (fun K' hK' => ?_)
          go_simp
          exact hK' _ _ (hK _ _ ⟨_, rfl, bytes_lit _ 1 1 rfl _⟩ ((Below.refl _ _).alloc (Nat.le_refl _) _))
        · have e11 : vs 11 = .bool true := hd 11 (by kernel_rfl)
          obtain ⟨g12, e12, y12⟩ := hd 12 (by kernel_rfl)
          simp only [e11, e12] at hK ⊢
          refine wpOp_step rfl (fun K' hK' => ?_)
          go_simp
          refine (c1 _ _ y12).mono ?_
          rintro e w' ⟨rfl, rfl⟩
          exact hK' _ _ (hK _ _ rfl (Below.refl _ _))
        · have e11 : vs 11 = .bool true := hd 11 (by kernel_rfl)
          simp only [e11] at hK ⊢
          refine wpOp_step rfl (fun K' hK' => ?_)
          go_simp
          exact hK' _ _ (hK _ _ ⟨_, rfl, bytes_lit _ 2 2 rfl _⟩ ((Below.refl _ _).alloc (Nat.le_refl _) _))
        · have e11 : vs 11 = .bool true := hd 11 (by kernel_rfl)
          obtain ⟨g14, e14, y14⟩ := hd 14 (by kernel_rfl)
          simp only [e11, e14] at hK ⊢
          refine wpOp_step rfl (fun K' hK' => ?_)
          go_simp
          refine (c2 _ _ y14).mono ?_
          rintro e w' ⟨rfl, rfl⟩
          exact hK' _ _ (hK _ _ rfl (Below.refl _ _))
        · have e11 : vs 11 = .bool true := hd 11 (by kernel_rfl)
          have e13 : vs 13 = .int .u32 C1 := hd 13 (by kernel_rfl)
          have e15 : vs 15 = .int .u32 C2 := hd 15 (by kernel_rfl)
          simp only [e11, e13, e15] at hK ⊢
          refine wpOp_step rfl (fun K' hK' => ?_)
          go_simp
          exact hK' _ _ (hK _ _ (by show Value.bool _ = Value.bool true; simp [bne, hnb]) (Below.refl _ _))
        · have e11 : vs 11 = .bool true := hd 11 (by kernel_rfl)
          have e16 : vs 16 = .bool true := hd 16 (by kernel_rfl)
          simp only [e11, e16] at hK ⊢
          refine wpOp_step rfl (fun K' hK' => ?_)
          go_simp
          exact hK' _ _ (hK _ _ rfl (Below.refl _ _))
        · have e17 : vs 17 = .bool true := hd 17 (by kernel_rfl)
          simp only [e17] at hK ⊢
          refine wpOp_step rfl (fun K' hK' => ?_)
          go_simp
          exact hK' _ _ (hK _ _ rfl (Below.refl _ _))
theorem list4 (l : List UInt8) (h : l.length = 4) : ∃ a b c d, l = [a, b, c, d] := by
  match l, h with
  | [a, b, c, d], _ => exact ⟨a, b, c, d, rfl⟩
theorem crcBurst_walk (b : List UInt8) (aob : Option Addr) (capb : Nat) (n : Int) (x0 x1 x2 x3 : UInt8) (w : World)
    (hcb : b.length ≤ capb) (hrb : b.length ≤ 140737488351232) (hnb : aob = none → capb = 0) (hxb : Bytes w aob b) (hn0 : -9223372036854775808 ≤ n) (hn1 : n ≤ 9223372036854775807) :
    Calls Try.prog 5 #[.slice aob b.length capb, .int .i64 n, .agg #[.int .u8 x0.toNat, .int .u8 x1.toNat, .int .u8 x2.toNat, .int .u8 x3.toNat]] w fun e w' => e = .returned (.bool true) ∧ Below w.heap.size w w' :=
  crcBurst_any b aob capb n x0 x1 x2 x3 w hcb hrb hnb hxb hn0 hn1
end Go.Proofs.Ytpnomfdcbmamoaa
