/-
  CONTRACTS of package sum's padded, keyBlock, Mac.
  CONDITIONS: package sum's roundWords hold what their initialiser lays ('KW').
-/
import Derived.Test.YtmldhnghfdhjmaaDoorRefAdd
import Derived.Test.YtmldhnghfdhjmaaDoorRegDet
namespace Go.Proofs.YtmldhnghfdhjmaaDoor
open Go.RowKit CodeMath
set_option linter.unusedVariables false
set_option maxRecDepth 100000

/-- The first bytes by a pad. -/
def padded (l : List UInt8) (p : UInt8) (i : Nat) : List UInt8 := (l.take i).map (· ^^^ p) ++ l.drop i
theorem padded_length (l : List UInt8) (p : UInt8) (i : Nat) : (padded l p i).length = l.length := by
  unfold padded; rw [List.length_append, List.length_map, List.length_take, List.length_drop]; omega
theorem padded_get (l : List UInt8) (p : UInt8) (i : Nat) (c : UInt8) (h : l[i]? = some c) : (padded l p i)[i]? = some c := by
  have hi := (List.getElem?_eq_some_iff.1 h).1
  unfold padded
  rw [List.getElem?_append_right (by rw [List.length_map, List.length_take]; omega), List.length_map, List.length_take, Nat.min_eq_left (by omega), Nat.sub_self, List.getElem?_drop]
  exact h
theorem padded_set (l : List UInt8) (p : UInt8) (i : Nat) (c : UInt8) (h : l[i]? = some c) : (padded l p i).set i (c ^^^ p) = padded l p (i + 1) := by
  have hi := (List.getElem?_eq_some_iff.1 h).1
  have hc := (List.getElem?_eq_some_iff.1 h).2
  unfold padded
  rw [List.take_succ_eq_append_getElem hi, hc, List.map_append, List.set_append_right _ _ (by rw [List.length_map, List.length_take]; omega), List.length_map, List.length_take, Nat.min_eq_left (by omega), Nat.sub_self, List.drop_eq_getElem_cons hi, List.set_cons_zero]
  simp
theorem padded_end (l : List UInt8) (p : UInt8) : padded l p l.length = l.map (· ^^^ p) := by simp [padded]
theorem padded_zero (l : List UInt8) (p : UInt8) : padded l p 0 = l := by simp [padded]
set_option maxRecDepth 100000 in
set_option maxHeartbeats 2000000 in
theorem padded_any (l : List UInt8) (hl : l.length = 64) (p : UInt8) (pI : Int) (hp : pI = p.toNat) (w : World) :
    Calls Tryd.prog 54 #[.agg (u8s l).toArray, .int .u8 pI] w fun e w' => e = .returned (.agg (u8s (l.map (· ^^^ p))).toArray) ∧ Below w.heap.size w w' := by
  subst hp
  obtain ⟨A, hA⟩ : ∃ A, (u8s l).toArray = A := ⟨_, rfl⟩
  rw [hA]
  go_enter Tryd.func54, Tryd.ntmps54
  go_upto_region 1 with fail
  refine wp_gen (fun W => Hid (Blk W w.heap.size 76 (u8s (padded l p 0))) ∧ Hid (Blk W (w.heap.size + 1) 76 (u8s (List.replicate 64 0))) ∧ Below w.heap.size w W) ?_ ?_
  · refine ⟨?_, Blk.atNew _ _ (by simp), ((Below.refl _ _).alloc (Nat.le_refl _) _).alloc (by simp) _⟩
    rw [← hA, padded_zero]
    exact (Blk.new w (u8s l).toArray 76).alloc _
  rintro W ⟨b1, b2, hb⟩
  go_wp2_with fail
  go_loopw [6] (fun ix wr => ∃ i : Nat, i ≤ 64 ∧ ix = .int .i64 i ∧ Hid (Blk wr w.heap.size 76 (u8s (padded l p i))) ∧ Hid (Blk wr (w.heap.size + 1) 76 (u8s (List.replicate 64 0))) ∧ Below w.heap.size w wr) (fun ix _ => 64 - (intOf ix).toNat)
  case atStart => exact ⟨0, by omega, rfl, b1, b2, hb⟩
  case round =>
    obtain ⟨i, hi, rfl, k1, k2, hbr⟩ := hrel
    by_cases h64 : i < 64
    · have iI : (i : Int) < 64 := by omega
      obtain ⟨c, hc⟩ : ∃ c, l[i]? = some c := ⟨_, List.getElem?_eq_getElem (by omega)⟩
      have hu := k1.out.cell (u8s_get (padded_get l p i c hc))
      have fu := k1.out.free i
      have hx : bits .xor .u8 (c.toNat : Int) (p.toNat : Int) = (((c ^^^ p).toNat : Nat) : Int) := by
        rw [u8_xor_nat _ _ c.toNat_lt p.toNat_lt, UInt8.toNat_xor]
      have hst := k1.out.set i (.int .u8 ((c ^^^ p).toNat : Nat))
      rw [u8s_set, padded_set _ _ _ _ hc] at hst
      have hot := k2.out.other ⟨w.heap.size, i, none⟩ (.int .u8 ((c ^^^ p).toNat : Nat)) (show w.heap.size + 1 ≠ w.heap.size by omega)
      have hbs := hbr.setCell (p := ⟨w.heap.size, i, none⟩) (Nat.le_refl _) (.int .u8 ((c ^^^ p).toNat : Nat))
      have J1 := Lib.hid hst
      have J2 := Lib.hid hot
      clear hst hot k1 k2 b1 b2 hb hc
      go_wp2_with fail
      go_roundw
      case rel => exact ⟨i + 1, by omega, by go_num, J1, J2, hbs⟩
      case measure => simp [intOf]; omega
    · have iI : ¬ ((i : Int) < 64) := by omega
      have hie : i = l.length := by omega
      rw [hie, padded_end] at k1
      have k1' := k1.out
      have k2' := k2.out
      have sz : (u8s (l.map (· ^^^ p))).length = 64 := by rw [u8s_length, List.length_map, hl]
      have sz' : (u8s (List.replicate 64 0)).length = 64 := by rw [u8s_length, List.length_replicate]
      obtain ⟨D, hD⟩ : ∃ D, l.map (· ^^^ p) = D := ⟨_, rfl⟩
      rw [hD] at k1' sz
      obtain ⟨V, hV⟩ : ∃ V, (u8s D).toArray = V := ⟨_, rfl⟩
      have eV : (((u8s D).drop 0).take 64).toArray = V := by rw [List.drop_zero, List.take_of_length_le (by rw [sz]; exact Nat.le_refl _)]; exact hV
      have HD := Lib.hid hD
      clear hie h64 k1 k2 b1 b2 hb hD
      go_wp2_with (first
        | (with_reducible refine wpList_load_blk rfl 76 (.tmp 2) rfl w.heap.size 0 64 rfl _ _ k1' (by rw [sz]; omega) V eV _ rfl rfl (by kernel_rfl) ?_)
        | (with_reducible refine wpList_store_blk rfl 76 (.tmp 4) (.tmp 16) rfl (w.heap.size + 1) 0 rfl _ _ k2' (u8s D) V (by rw [← hV]) rfl (by rw [sz, sz']; omega) (by rw [sz]; kernel_rfl) (u8s_one _) ?_; intro x3 hg7 hs7 hB7))
      refine bodyPost_ret (results_arr rfl _ _ (w.heap.size + 1) (u8s D) rfl ?_ rfl rfl (by rw [sz]; kernel_rfl)) rfl ⟨by rw [HD.out], ?_⟩
      · rw [Nat.zero_add, List.take_zero, List.nil_append, List.drop_of_length_le (by rw [sz, sz']; exact Nat.le_refl _), List.append_nil] at hB7; exact hB7
      · exact hbr.grown hg7 hbr.size (fun k h => by cases h; exact Nat.le_succ _)

/-! ### keyBlock -/
/-- A key as a block. -/
def blockOf (k : List UInt8) : List UInt8 := k ++ List.replicate (64 - k.length) 0
theorem blockOf_length (k : List UInt8) (h : k.length ≤ 64) : (blockOf k).length = 64 := by simp [blockOf]; omega
theorem splice_key (k : List UInt8) (h : k.length ≤ 64) : splice (u8s (List.replicate 64 0)) 0 (u8s k) = u8s (blockOf k) := by
  unfold splice blockOf
  rw [List.take_zero, List.nil_append, Nat.zero_add, u8s_length, u8s_drop, List.drop_replicate, u8s_append]
theorem wpList_copy_key {ops : Array Oper} {rest : List Oper} {o : Oper} {a : Act} {Q : Exit → Act → World → Prop} {w : World} (hgd : o.guard = none) (d s : Operand)
    (ho : o.op = .call { callee := .builtin .copy, args := #[d, s], argTypes := #[23, 23] }) (g : Nat) (hd : a.eval d = .slice (some ⟨g, 0, none⟩) 64 64) (k : List UInt8) (n : Nat) (hn : k.length = n) (ao : Option Addr) (cap : Nat) (hs : a.eval s = .slice ao n cap)
    (T0 : TypeId) (hB : Blk w g T0 (u8s (List.replicate 64 0))) (hk : k.length ≤ 64) (hb : Bytes w ao k)
    (h : ∀ w', w.grownBy w' (some g) → w'.heap.size = w.heap.size → Blk w' g T0 (u8s (blockOf k)) → wpList Tryd.prog ops Q rest (a.put o.dst (.int .i64 (n : Int))) w') : wpList Tryd.prog ops Q (o :: rest) a w := by
  subst hn
  rcases hb with rfl | ⟨p, q, rfl, hp, hc⟩
  · have hz : Blk w g T0 (u8s (blockOf [])) := hB
    refine wpList_copy_nothing hgd d s 23 23 ho 5 Tryd.underlying23 (by kernel_rfl) _ _ _ _ _ _ hd hs (by rfl) (h w ⟨rfl, rfl, rfl, Nat.le_refl _, fun _ _ _ => rfl⟩ rfl hz)
  · refine wpList_copy_blk hgd d s ho g 0 64 64 p q k.length cap hd hs T0 _ hB k k.length rfl (by show k.length = min k.length 64; omega) hc (by rw [u8s_length, List.length_replicate]; omega) ?_
    intro w' h1 h2 h3
    rw [splice_key k hk] at h3
    exact h w' h1 h2 h3
theorem key64_eq (k : List UInt8) : ShaMath.key64 k = blockOf (if 64 < k.length then ShaMath.sha k else k) := rfl
theorem slice_all32 (b o : Nat) (W : World) : (Instr.sliceAt 51 (.pointer (some ⟨b, o, none⟩)) none none none).run Tryd.prog W = .ok (.slice (some ⟨b, o, none⟩) 32 32) W := by
  have hs : (sizeOf (Tryd.prog.elem 51)).run Tryd.prog W = .ok 1 W := by kernel_rfl
  have hl : Tryd.prog.arrayLen 51 = 32 := by kernel_rfl
  have h := run_sliceAt_array_all (P := Tryd.prog) W 51 ⟨b, o, none⟩ (by kernel_rfl)
  rw [h, hs, hl]
  simp [Result.andThen, slicedAt, Addr.add]
set_option maxRecDepth 100000 in
set_option maxHeartbeats 2000000 in
theorem keyBlock_any (k : List UInt8) (ak : Option Addr) (ck : Nat) (w : World) (hck : k.length ≤ ck) (hck1 : ck ≤ 9223372036854775807) (hk : Bytes w ak k) (hmax : k.length ≤ 1152921504606846976) (hT : KW w) :
    Calls Tryd.prog 53 #[.slice ak k.length ck] w fun e w' => e = .returned (.agg (u8s (ShaMath.key64 k)).toArray) ∧ Below w.heap.size w w' := by
  have hl64 := ShaMath.key64_length k
  have sz : (u8s (ShaMath.key64 k)).length = 64 := by rw [u8s_length, hl64]
  have sz' : (u8s (List.replicate 64 0)).length = 64 := by rw [u8s_length, List.length_replicate]
  have heq := key64_eq k
  obtain ⟨D, hD⟩ : ∃ D, ShaMath.key64 k = D := ⟨_, rfl⟩
  rw [hD] at hl64 sz heq ⊢
  obtain ⟨V, hV⟩ : ∃ V, (u8s D).toArray = V := ⟨_, rfl⟩
  rw [hV]
  have eV : (((u8s D).drop 0).take 64).toArray = V := by rw [List.drop_zero, List.take_of_length_le (by rw [sz]; exact Nat.le_refl _)]; exact hV
  have sl64 := fun b W => slice_all64 b 0 W
  have sl32 := fun b W => slice_all32 b 0 W
  have m0 : ∀ (o p : Obj), Below w.heap.size w ((w.alloc o).alloc p) := fun o p => ((Below.refl _ _).alloc (Nat.le_refl _) o).alloc (by simp) p
  by_cases hlt : 64 < k.length
  · have hI : (64 : Int) < k.length := by omega
    rw [if_pos hlt] at heq
    have hsl : (ShaMath.sha k).length = 32 := ShaMath.sha_length _
    have cS := fun W (h1 : Bytes W ak k) (h2 : KW W) => sum_any k ak ck W hck hck1 h1 hmax h2
    obtain ⟨H, hH⟩ : ∃ H, ShaMath.sha k = H := ⟨_, rfl⟩
    rw [hH] at heq hsl cS
    obtain ⟨R, hR⟩ : ∃ R, (u8s H).toArray = R := ⟨_, rfl⟩
    rw [hR] at cS
    have szH : (u8s H).length = 32 := by rw [u8s_length, hsl]
    have sz32 : (u8s (List.replicate 32 0)).length = 32 := by rw [u8s_length, List.length_replicate]
    have hEQ := Lib.hid heq
    obtain ⟨Z, hZ⟩ : ∃ Z, (u8s (List.replicate 32 0)).toArray = Z := ⟨_, rfl⟩
    have z33 : ∀ W, (zeroValue 51).run Tryd.prog W = .ok (.agg Z) W := fun W => by rw [← hZ]; kernel_rfl
    have bz : ∀ W : World, Blk (W.alloc (.cells Z 51)) W.heap.size 51 (u8s (List.replicate 32 0)) := fun W => by rw [← hZ]; exact Blk.new W _ _
    clear heq hH hD hZ
    go_enter Tryd.func53, Tryd.ntmps53
    go_upto_region 2 with fail
    refine wp_gen (fun W => Blk W w.heap.size 76 (u8s (List.replicate 64 0)) ∧ Blk W (w.heap.size + 1) 76 (u8s (List.replicate 64 0)) ∧ Below w.heap.size w W) ⟨(Blk.new w _ _).alloc _, Blk.atNew _ _ (by simp), m0 _ _⟩ ?_
    rintro W ⟨b1, b2, hb⟩
    go_upto_region 4 with (first
      | (go_at_call 28; refine (cS _ (hk.keep hb) (hT.keep hb (Nat.le_refl _))).mono ?_; rintro e w1 ⟨rfl, k1⟩; have B1 := b1.call k1; have B2 := b2.call k1; have m1 := below_step hb hb.size k1; have bn := bz w1; clear cS bz)
      | (with_reducible refine wpList_store_blk rfl 51 (.tmp 4) (.tmp 9) rfl w1.heap.size 0 rfl _ _ bn (u8s H) R (by rw [← hR]) rfl (by rw [szH, sz32]; omega) (by rw [szH]; kernel_rfl) (u8s_one _) ?_; intro w2 hg2 hs2 hB2))
    rw [Nat.zero_add, List.take_zero, List.nil_append, List.drop_of_length_le (by rw [szH, sz32]; exact Nat.le_refl _), List.append_nil] at hB2
    have hlt1 : w.heap.size + 1 < w1.heap.size := B2.lt
    have B12 := (B1.alloc (.cells Z 51)).same (hg2.block w.heap.size (B1.alloc _).lt (by simp; omega))
    have B22 := (B2.alloc (.cells Z 51)).same (hg2.block (w.heap.size + 1) (B2.alloc _).lt (by simp; omega))
    have m2 : Below w.heap.size w w2 := (m1.alloc m1.size _).grown hg2 (by have := m1.size; simp; omega) (fun k h => by cases h; exact m1.size)
    generalize w1.heap.size = A6 at hB2 hlt1 ⊢
    have by2 := bytes_of_blk hB2
    have h32 : H.length ≤ 64 := by omega
    clear b1 b2 hb B1 B2 m1 bn hg2 hs2 hB2 k1 z33 m0
    go_wp2_with (first
      | (with_reducible refine wpList_copy_key rfl (.tmp 11) (.tmp 12) rfl (w.heap.size + 1) rfl H 32 hsl (some ⟨A6, 0, none⟩) 32 rfl _ B22 h32 by2 ?_; intro w3 hg3 hs3 hB3; have B13 := B12.same (hg3.block w.heap.size B12.lt (by simp)); have m3 := m2.grown hg3 m2.size (fun k h => by cases h; exact Nat.le_succ _); rw [← hEQ.out] at hB3)
      | (with_reducible refine wpList_load_blk rfl 76 (.tmp 3) rfl (w.heap.size + 1) 0 64 rfl _ _ hB3 (by rw [sz]; omega) V eV _ rfl rfl (by kernel_rfl) ?_)
      | (with_reducible refine wpList_store_blk rfl 76 (.tmp 2) (.tmp 14) rfl w.heap.size 0 rfl _ _ B13 (u8s D) V (by rw [← hV]) rfl (by rw [sz, sz']; omega) (by rw [sz]; kernel_rfl) (u8s_one _) ?_; intro x3 hg7 hs7 hB7))
    refine bodyPost_ret (results_arr rfl _ _ w.heap.size (u8s D) rfl ?_ rfl rfl (by rw [sz]; kernel_rfl)) rfl ⟨by rw [hV], ?_⟩
    · rw [Nat.zero_add, List.take_zero, List.nil_append, List.drop_of_length_le (by rw [sz, sz']; exact Nat.le_refl _), List.append_nil] at hB7; exact hB7
    · exact m3.grown hg7 m3.size (fun k h => by cases h; exact Nat.le_refl _)
  · have hI : ¬ ((64 : Int) < k.length) := by omega
    rw [if_neg hlt] at heq
    have hEQ := Lib.hid heq
    clear heq hD
    go_enter Tryd.func53, Tryd.ntmps53
    go_upto_region 2 with fail
    refine wp_gen (fun W => Blk W w.heap.size 76 (u8s (List.replicate 64 0)) ∧ Blk W (w.heap.size + 1) 76 (u8s (List.replicate 64 0)) ∧ Below w.heap.size w W) ⟨(Blk.new w _ _).alloc _, Blk.atNew _ _ (by simp), m0 _ _⟩ ?_
    rintro W ⟨b1, b2, hb⟩
    have by2 := hk.keep hb
    go_wp2_with (first
      | (with_reducible refine wpList_copy_key rfl (.tmp 11) (.tmp 12) rfl (w.heap.size + 1) rfl k k.length rfl ak ck rfl _ b2 (Nat.le_of_not_lt hlt) by2 ?_; intro w3 hg3 hs3 hB3; have B13 := b1.same (hg3.block w.heap.size b1.lt (by simp)); have m3 := hb.grown hg3 hb.size (fun k h => by cases h; exact Nat.le_succ _); rw [← hEQ.out] at hB3)
      | (with_reducible refine wpList_load_blk rfl 76 (.tmp 3) rfl (w.heap.size + 1) 0 64 rfl _ _ hB3 (by rw [sz]; omega) V eV _ rfl rfl (by kernel_rfl) ?_)
      | (with_reducible refine wpList_store_blk rfl 76 (.tmp 2) (.tmp 14) rfl w.heap.size 0 rfl _ _ B13 (u8s D) V (by rw [← hV]) rfl (by rw [sz, sz']; omega) (by rw [sz]; kernel_rfl) (u8s_one _) ?_; intro x3 hg7 hs7 hB7))
    refine bodyPost_ret (results_arr rfl _ _ w.heap.size (u8s D) rfl ?_ rfl rfl (by rw [sz]; kernel_rfl)) rfl ⟨by rw [hV], ?_⟩
    · rw [Nat.zero_add, List.take_zero, List.nil_append, List.drop_of_length_le (by rw [sz, sz']; exact Nat.le_refl _), List.append_nil] at hB7; exact hB7
    · exact m3.grown hg7 m3.size (fun k h => by cases h; exact Nat.le_refl _)
end Go.Proofs.YtmldhnghfdhjmaaDoor
