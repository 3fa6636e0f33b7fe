/-
  MERGED: Mac, Mac2, Maced1, Maced2.
  CONDITIONS: each theorem's own hypotheses.
-/
import Derived.Test.YtmldhnghfdhjmaaDoorGRef
import Derived.Test.YtmldhnghfdhjmaaDoorGReg
import Derived.Test.YtmldhnghfdhjmaaDoorGBase

/-! CONTRACTS of package sum's padded, keyBlock, Mac. CONDITIONS: package sum's roundWords hold what their initialiser lays ('KW'). -/
namespace Go.Proofs.YtmldhnghfdhjmaaDoor
open Go.RowKit CodeMath
set_option linter.unusedVariables false
set_option maxRecDepth 100000

/-- The first bytes by a pad. -/
def padded (l : List UInt8) (p : UInt8) (i : Nat) : List UInt8 := (l.take i).map (· ^^^ p) ++ l.drop i
theorem padded_length (l : List UInt8) (p : UInt8) (i : Nat) : (padded l p i).length = l.length := by
  unfold padded; rw [List.length_append, List.length_map, List.length_take, List.length_drop]; omega
theorem padded_get (l : List UInt8) (p : UInt8) (i : Nat) (c : UInt8) (h : l[i]? = some c) : (padded l p i)[i]? = some c := by
  have hi := (List.getElem?_eq_some_iff.1 h).1
  unfold padded
  rw [List.getElem?_append_right (by rw [List.length_map, List.length_take]; omega), List.length_map, List.length_take, Nat.min_eq_left (by omega), Nat.sub_self, List.getElem?_drop]
  exact h
theorem padded_set (l : List UInt8) (p : UInt8) (i : Nat) (c : UInt8) (h : l[i]? = some c) : (padded l p i).set i (c ^^^ p) = padded l p (i + 1) := by
  have hi := (List.getElem?_eq_some_iff.1 h).1
  have hc := (List.getElem?_eq_some_iff.1 h).2
  unfold padded
  rw [List.take_succ_eq_append_getElem hi, hc, List.map_append, List.set_append_right _ _ (by rw [List.length_map, List.length_take]; omega), List.length_map, List.length_take, Nat.min_eq_left (by omega), Nat.sub_self, List.drop_eq_getElem_cons hi, List.set_cons_zero]
  simp
theorem padded_end (l : List UInt8) (p : UInt8) : padded l p l.length = l.map (· ^^^ p) := by simp [padded]
theorem padded_zero (l : List UInt8) (p : UInt8) : padded l p 0 = l := by simp [padded]
set_option maxRecDepth 100000 in
set_option maxHeartbeats 2000000 in
theorem padded_any (l : List UInt8) (hl : l.length = 64) (p : UInt8) (pI : Int) (hp : pI = p.toNat) (w : World) :
    Calls Tryd.prog 54 #[.agg (u8s l).toArray, .int .u8 pI] w fun e w' => e = .returned (.agg (u8s (l.map (· ^^^ p))).toArray) ∧ Below w.heap.size w w' := by
  subst hp
  obtain ⟨A, hA⟩ : ∃ A, (u8s l).toArray = A := ⟨_, rfl⟩
  rw [hA]
  go_enter Tryd.func54, Tryd.ntmps54
  go_upto_region 1 with fail
  refine wp_gen (fun W => Hid (Blk W w.heap.size 76 (u8s (padded l p 0))) ∧ Hid (Blk W (w.heap.size + 1) 76 (u8s (List.replicate 64 0))) ∧ Below w.heap.size w W) ?_ ?_
  · refine ⟨?_, Blk.atNew _ _ (by simp), ((Below.refl _ _).alloc (Nat.le_refl _) _).alloc (by simp) _⟩
    rw [← hA, padded_zero]
    exact (Blk.new w (u8s l).toArray 76).alloc _
  rintro W ⟨b1, b2, hb⟩
  go_wp2_with fail
  go_loopw [6] (fun ix wr => ∃ i : Nat, i ≤ 64 ∧ ix = .int .i64 i ∧ Hid (Blk wr w.heap.size 76 (u8s (padded l p i))) ∧ Hid (Blk wr (w.heap.size + 1) 76 (u8s (List.replicate 64 0))) ∧ Below w.heap.size w wr) (fun ix _ => 64 - (intOf ix).toNat)
  case atStart => exact ⟨0, by omega, rfl, b1, b2, hb⟩
  case round =>
    obtain ⟨i, hi, rfl, k1, k2, hbr⟩ := hrel
    by_cases h64 : i < 64
    · have iI : (i : Int) < 64 := by omega
      obtain ⟨c, hc⟩ : ∃ c, l[i]? = some c := ⟨_, List.getElem?_eq_getElem (by omega)⟩
      have hu := k1.out.cell (u8s_get (padded_get l p i c hc))
      have fu := k1.out.free i
      have hx : bits .xor .u8 (c.toNat : Int) (p.toNat : Int) = (((c ^^^ p).toNat : Nat) : Int) := by
        rw [u8_xor_nat _ _ c.toNat_lt p.toNat_lt, UInt8.toNat_xor]
      have hst := k1.out.set i (.int .u8 ((c ^^^ p).toNat : Nat))
      rw [u8s_set, padded_set _ _ _ _ hc] at hst
      have hot := k2.out.other ⟨w.heap.size, i, none⟩ (.int .u8 ((c ^^^ p).toNat : Nat)) (show w.heap.size + 1 ≠ w.heap.size by omega)
      have hbs := hbr.setCell (p := ⟨w.heap.size, i, none⟩) (Nat.le_refl _) (.int .u8 ((c ^^^ p).toNat : Nat))
      have J1 := Lib.hid hst
      have J2 := Lib.hid hot
      clear hst hot k1 k2 b1 b2 hb hc
      go_wp2_with fail
      go_roundw
      case rel => exact ⟨i + 1, by omega, by go_num, J1, J2, hbs⟩
      case measure => simp [intOf]; omega
    · have iI : ¬ ((i : Int) < 64) := by omega
      have hie : i = l.length := by omega
      rw [hie, padded_end] at k1
      have k1' := k1.out
      have k2' := k2.out
      have sz : (u8s (l.map (· ^^^ p))).length = 64 := by rw [u8s_length, List.length_map, hl]
      have sz' : (u8s (List.replicate 64 0)).length = 64 := by rw [u8s_length, List.length_replicate]
      obtain ⟨D, hD⟩ : ∃ D, l.map (· ^^^ p) = D := ⟨_, rfl⟩
      rw [hD] at k1' sz
      obtain ⟨V, hV⟩ : ∃ V, (u8s D).toArray = V := ⟨_, rfl⟩
      have eV : (((u8s D).drop 0).take 64).toArray = V := by rw [List.drop_zero, List.take_of_length_le (by rw [sz]; exact Nat.le_refl _)]; exact hV
      have HD := Lib.hid hD
      clear hie h64 k1 k2 b1 b2 hb hD
      go_wp2_with (first
        | (with_reducible refine wpList_load_blk rfl 76 (.tmp 2) rfl w.heap.size 0 64 rfl _ _ k1' (by rw [sz]; omega) V eV _ rfl rfl (by kernel_rfl) ?_)
        | (with_reducible refine wpList_store_blk rfl 76 (.tmp 4) (.tmp 16) rfl (w.heap.size + 1) 0 rfl _ _ k2' (u8s D) V (by rw [← hV]) rfl (by rw [sz, sz']; omega) (by rw [sz]; kernel_rfl) (u8s_one _) ?_; intro x3 hg7 hs7 hB7))
      refine bodyPost_ret (results_arr rfl _ _ (w.heap.size + 1) (u8s D) rfl ?_ rfl rfl (by rw [sz]; kernel_rfl)) rfl ⟨by rw [HD.out], ?_⟩
      · rw [Nat.zero_add, List.take_zero, List.nil_append, List.drop_of_length_le (by rw [sz, sz']; exact Nat.le_refl _), List.append_nil] at hB7; exact hB7
      · exact hbr.grown hg7 hbr.size (fun k h => by cases h; exact Nat.le_succ _)

/-! ### keyBlock -/
/-- A key as a block. -/
def blockOf (k : List UInt8) : List UInt8 := k ++ List.replicate (64 - k.length) 0
theorem blockOf_length (k : List UInt8) (h : k.length ≤ 64) : (blockOf k).length = 64 := by simp [blockOf]; omega
theorem splice_key (k : List UInt8) (h : k.length ≤ 64) : splice (u8s (List.replicate 64 0)) 0 (u8s k) = u8s (blockOf k) := by
  unfold splice blockOf
  rw [List.take_zero, List.nil_append, Nat.zero_add, u8s_length, u8s_drop, List.drop_replicate, u8s_append]
theorem wpList_copy_key {ops : Array Oper} {rest : List Oper} {o : Oper} {a : Act} {Q : Exit → Act → World → Prop} {w : World} (hgd : o.guard = none) (d s : Operand)
    (ho : o.op = .call { callee := .builtin .copy, args := #[d, s], argTypes := #[23, 23] }) (g : Nat) (hd : a.eval d = .slice (some ⟨g, 0, none⟩) 64 64) (k : List UInt8) (n : Nat) (hn : k.length = n) (ao : Option Addr) (cap : Nat) (hs : a.eval s = .slice ao n cap)
    (T0 : TypeId) (hB : Blk w g T0 (u8s (List.replicate 64 0))) (hk : k.length ≤ 64) (hb : Bytes w ao k)
    (h : ∀ w', w.grownBy w' (some g) → w'.heap.size = w.heap.size → Blk w' g T0 (u8s (blockOf k)) → wpList Tryd.prog ops Q rest (a.put o.dst (.int .i64 (n : Int))) w') : wpList Tryd.prog ops Q (o :: rest) a w := by
  subst hn
  rcases hb with rfl | ⟨p, q, rfl, hp, hc⟩
  · have hz : Blk w g T0 (u8s (blockOf [])) := hB
    refine wpList_copy_nothing hgd d s 23 23 ho 5 Tryd.underlying23 (by kernel_rfl) _ _ _ _ _ _ hd hs (by rfl) (h w ⟨rfl, rfl, rfl, Nat.le_refl _, fun _ _ _ => rfl⟩ rfl hz)
  · refine wpList_copy_blk hgd d s ho g 0 64 64 p q k.length cap hd hs T0 _ hB k k.length rfl (by show k.length = min k.length 64; omega) hc (by rw [u8s_length, List.length_replicate]; omega) ?_
    intro w' h1 h2 h3
    rw [splice_key k hk] at h3
    exact h w' h1 h2 h3
theorem key64_eq (k : List UInt8) : ShaMath.key64 k = blockOf (if 64 < k.length then ShaMath.sha k else k) := rfl
theorem slice_all32 (b o : Nat) (W : World) : (Instr.sliceAt 51 (.pointer (some ⟨b, o, none⟩)) none none none).run Tryd.prog W = .ok (.slice (some ⟨b, o, none⟩) 32 32) W := by
  have hs : (sizeOf (Tryd.prog.elem 51)).run Tryd.prog W = .ok 1 W := by kernel_rfl
  have hl : Tryd.prog.arrayLen 51 = 32 := by kernel_rfl
  have h := run_sliceAt_array_all (P := Tryd.prog) W 51 ⟨b, o, none⟩ (by kernel_rfl)
  rw [h, hs, hl]
  simp [Result.andThen, slicedAt, Addr.add]
set_option maxRecDepth 100000 in
set_option maxHeartbeats 2000000 in
theorem keyBlock_any (k : List UInt8) (ak : Option Addr) (ck : Nat) (w : World) (hck : k.length ≤ ck) (hck1 : ck ≤ 9223372036854775807) (hk : Bytes w ak k) (hmax : k.length ≤ 1152921504606846976) (hT : KW w) :
    Calls Tryd.prog 53 #[.slice ak k.length ck] w fun e w' => e = .returned (.agg (u8s (ShaMath.key64 k)).toArray) ∧ Below w.heap.size w w' := by
  have hl64 := ShaMath.key64_length k
  have sz : (u8s (ShaMath.key64 k)).length = 64 := by rw [u8s_length, hl64]
  have sz' : (u8s (List.replicate 64 0)).length = 64 := by rw [u8s_length, List.length_replicate]
  have heq := key64_eq k
  obtain ⟨D, hD⟩ : ∃ D, ShaMath.key64 k = D := ⟨_, rfl⟩
  rw [hD] at hl64 sz heq ⊢
  obtain ⟨V, hV⟩ : ∃ V, (u8s D).toArray = V := ⟨_, rfl⟩
  rw [hV]
  have eV : (((u8s D).drop 0).take 64).toArray = V := by rw [List.drop_zero, List.take_of_length_le (by rw [sz]; exact Nat.le_refl _)]; exact hV
  have sl64 := fun b W => slice_all64 b 0 W
  have sl32 := fun b W => slice_all32 b 0 W
  have m0 : ∀ (o p : Obj), Below w.heap.size w ((w.alloc o).alloc p) := fun o p => ((Below.refl _ _).alloc (Nat.le_refl _) o).alloc (by simp) p
  by_cases hlt : 64 < k.length
  · have hI : (64 : Int) < k.length := by omega
    rw [if_pos hlt] at heq
    have hsl : (ShaMath.sha k).length = 32 := ShaMath.sha_length _
    have cS := fun W (h1 : Bytes W ak k) (h2 : KW W) => sum_any k ak ck W hck hck1 h1 hmax h2
    obtain ⟨H, hH⟩ : ∃ H, ShaMath.sha k = H := ⟨_, rfl⟩
    rw [hH] at heq hsl cS
    obtain ⟨R, hR⟩ : ∃ R, (u8s H).toArray = R := ⟨_, rfl⟩
    rw [hR] at cS
    have szH : (u8s H).length = 32 := by rw [u8s_length, hsl]
    have sz32 : (u8s (List.replicate 32 0)).length = 32 := by rw [u8s_length, List.length_replicate]
    have hEQ := Lib.hid heq
    obtain ⟨Z, hZ⟩ : ∃ Z, (u8s (List.replicate 32 0)).toArray = Z := ⟨_, rfl⟩
    have z33 : ∀ W, (zeroValue 51).run Tryd.prog W = .ok (.agg Z) W := fun W => by rw [← hZ]; kernel_rfl
    have bz : ∀ W : World, Blk (W.alloc (.cells Z 51)) W.heap.size 51 (u8s (List.replicate 32 0)) := fun W => by rw [← hZ]; exact Blk.new W _ _
    clear heq hH hD hZ
    go_enter Tryd.func53, Tryd.ntmps53
    go_upto_region 2 with fail
    refine wp_gen (fun W => Blk W w.heap.size 76 (u8s (List.replicate 64 0)) ∧ Blk W (w.heap.size + 1) 76 (u8s (List.replicate 64 0)) ∧ Below w.heap.size w W) ⟨(Blk.new w _ _).alloc _, Blk.atNew _ _ (by simp), m0 _ _⟩ ?_
    rintro W ⟨b1, b2, hb⟩
    go_upto_region 4 with (first
      | (go_at_call 28; refine (cS _ (hk.keep hb) (hT.keep hb (Nat.le_refl _))).mono ?_; rintro e w1 ⟨rfl, k1⟩; have B1 := b1.call k1; have B2 := b2.call k1; have m1 := below_step hb hb.size k1; have bn := bz w1; clear cS bz)
      | (with_reducible refine wpList_store_blk rfl 51 (.tmp 4) (.tmp 9) rfl w1.heap.size 0 rfl _ _ bn (u8s H) R (by rw [← hR]) rfl (by rw [szH, sz32]; omega) (by rw [szH]; kernel_rfl) (u8s_one _) ?_; intro w2 hg2 hs2 hB2))
    rw [Nat.zero_add, List.take_zero, List.nil_append, List.drop_of_length_le (by rw [szH, sz32]; exact Nat.le_refl _), List.append_nil] at hB2
    have hlt1 : w.heap.size + 1 < w1.heap.size := B2.lt
    have B12 := (B1.alloc (.cells Z 51)).same (hg2.block w.heap.size (B1.alloc _).lt (by simp; omega))
    have B22 := (B2.alloc (.cells Z 51)).same (hg2.block (w.heap.size + 1) (B2.alloc _).lt (by simp; omega))
    have m2 : Below w.heap.size w w2 := (m1.alloc m1.size _).grown hg2 (by have := m1.size; simp; omega) (fun k h => by cases h; exact m1.size)
    generalize w1.heap.size = A6 at hB2 hlt1 ⊢
    have by2 := bytes_of_blk hB2
    have h32 : H.length ≤ 64 := by omega
    clear b1 b2 hb B1 B2 m1 bn hg2 hs2 hB2 k1 z33 m0
    go_wp2_with (first
      | (with_reducible refine wpList_copy_key rfl (.tmp 11) (.tmp 12) rfl (w.heap.size + 1) rfl H 32 hsl (some ⟨A6, 0, none⟩) 32 rfl _ B22 h32 by2 ?_; intro w3 hg3 hs3 hB3; have B13 := B12.same (hg3.block w.heap.size B12.lt (by simp)); have m3 := m2.grown hg3 m2.size (fun k h => by cases h; exact Nat.le_succ _); rw [← hEQ.out] at hB3)
      | (with_reducible refine wpList_load_blk rfl 76 (.tmp 3) rfl (w.heap.size + 1) 0 64 rfl _ _ hB3 (by rw [sz]; omega) V eV _ rfl rfl (by kernel_rfl) ?_)
      | (with_reducible refine wpList_store_blk rfl 76 (.tmp 2) (.tmp 14) rfl w.heap.size 0 rfl _ _ B13 (u8s D) V (by rw [← hV]) rfl (by rw [sz, sz']; omega) (by rw [sz]; kernel_rfl) (u8s_one _) ?_; intro x3 hg7 hs7 hB7))
    refine bodyPost_ret (results_arr rfl _ _ w.heap.size (u8s D) rfl ?_ rfl rfl (by rw [sz]; kernel_rfl)) rfl ⟨by rw [hV], ?_⟩
    · rw [Nat.zero_add, List.take_zero, List.nil_append, List.drop_of_length_le (by rw [sz, sz']; exact Nat.le_refl _), List.append_nil] at hB7; exact hB7
    · exact m3.grown hg7 m3.size (fun k h => by cases h; exact Nat.le_refl _)
  · have hI : ¬ ((64 : Int) < k.length) := by omega
    rw [if_neg hlt] at heq
    have hEQ := Lib.hid heq
    clear heq hD
    go_enter Tryd.func53, Tryd.ntmps53
    go_upto_region 2 with fail
    refine wp_gen (fun W => Blk W w.heap.size 76 (u8s (List.replicate 64 0)) ∧ Blk W (w.heap.size + 1) 76 (u8s (List.replicate 64 0)) ∧ Below w.heap.size w W) ⟨(Blk.new w _ _).alloc _, Blk.atNew _ _ (by simp), m0 _ _⟩ ?_
    rintro W ⟨b1, b2, hb⟩
    have by2 := hk.keep hb
    go_wp2_with (first
      | (with_reducible refine wpList_copy_key rfl (.tmp 11) (.tmp 12) rfl (w.heap.size + 1) rfl k k.length rfl ak ck rfl _ b2 (Nat.le_of_not_lt hlt) by2 ?_; intro w3 hg3 hs3 hB3; have B13 := b1.same (hg3.block w.heap.size b1.lt (by simp)); have m3 := hb.grown hg3 hb.size (fun k h => by cases h; exact Nat.le_succ _); rw [← hEQ.out] at hB3)
      | (with_reducible refine wpList_load_blk rfl 76 (.tmp 3) rfl (w.heap.size + 1) 0 64 rfl _ _ hB3 (by rw [sz]; omega) V eV _ rfl rfl (by kernel_rfl) ?_)
      | (with_reducible refine wpList_store_blk rfl 76 (.tmp 2) (.tmp 14) rfl w.heap.size 0 rfl _ _ B13 (u8s D) V (by rw [← hV]) rfl (by rw [sz, sz']; omega) (by rw [sz]; kernel_rfl) (u8s_one _) ?_; intro x3 hg7 hs7 hB7))
    refine bodyPost_ret (results_arr rfl _ _ w.heap.size (u8s D) rfl ?_ rfl rfl (by rw [sz]; kernel_rfl)) rfl ⟨by rw [hV], ?_⟩
    · rw [Nat.zero_add, List.take_zero, List.nil_append, List.drop_of_length_le (by rw [sz, sz']; exact Nat.le_refl _), List.append_nil] at hB7; exact hB7
    · exact m3.grown hg7 m3.size (fun k h => by cases h; exact Nat.le_refl _)
end Go.Proofs.YtmldhnghfdhjmaaDoor

/-! CONTRACT of package sum's Mac. CONDITIONS: package sum's roundWords hold what their initialiser lays ('KW'). -/
namespace Go.Proofs.YtmldhnghfdhjmaaDoor
open Go.RowKit CodeMath
set_option linter.unusedVariables false
set_option maxRecDepth 100000

/-- The rule for several new blocks, these being the last ones ahead of the tail. -/
theorem wp_region_news' {P : Program} {l : List Oper} {Q : Exit → Act → World → Prop} {a0 : Act} {id : Nat} {w0 : World} (n N : Nat) (hnN : n ≤ N) (hgT : (((l.take N).drop n).all fun o => o.guard == none && o.op.operands.isEmpty) = true) (G : Nat → Nat → World → Prop) (hG : ∀ i g w w', G i g w → g < w.heap.size → Below w.heap.size w w' → G i g w')
    (hm : P.follows .mixedOrders = true) (hB : factB l N = true) (hL : lookB l N = true)
    (hnew : ∀ k o, ((l.take N).drop n)[k]? = some o → ∀ a, FreshAt P w0 (G k) o a)
    (h : wpDet P l.toArray w0 (fun a => ∀ (gs : Nat → Nat) w, Below w0.heap.size w0 w → (∀ k, k < ((l.take N).drop n).length → w0.heap.size ≤ gs k ∧ gs k < w.heap.size ∧ G k (gs k) w) → (∀ j k, j < ((l.take N).drop n).length → k < ((l.take N).drop n).length → j ≠ k → gs j ≠ gs k) → wpList P l.toArray Q (l.drop N) (fillF ((l.take N).drop n) (ptrs gs) 0 a) w) (l.take n) a0) : (Code.region id l.toArray true).wp P Q a0 w0 :=
  wp_region_news n N hnN ((l.take N).drop n) (by
    have e : l.take n = (l.take N).take n := by rw [List.take_take, Nat.min_eq_left hnN]
    rw [e, List.take_append_drop]) hgT G hG hm hB hL hnew h
theorem fresh64 (w0 : World) (o : Oper) (a : Act) (ho : o.op = .alloc 76) : FreshAt Tryd.prog w0 (fun g W => Blk W g 76 (u8s (List.replicate 64 0))) o a := by
  intro w hw
  obtain ⟨Z, hZ⟩ : ∃ Z, (u8s (List.replicate 64 0)).toArray = Z := ⟨_, rfl⟩
  have z : ∀ W, (zeroValue 76).run Tryd.prog W = .ok (.agg Z) W := fun W => by rw [← hZ]; kernel_rfl
  refine ⟨w.alloc (.cells Z 76), ?_, (Below.refl _ _).alloc (Nat.le_refl _) _, by simp, by rw [← hZ]; exact Blk.new w _ _⟩
  unfold execOp
  rw [ho]
  go_simp
set_option maxRecDepth 100000 in
set_option maxHeartbeats 4000000 in
theorem mac_any (k b : List UInt8) (ak ab : Option Addr) (ck cb : Nat) (w : World) (hck : k.length ≤ ck) (hck1 : ck ≤ 9223372036854775807) (hk : Bytes w ak k) (hkmax : k.length ≤ 1152921504606846976)
    (hcb : b.length ≤ cb) (hcb1 : cb ≤ 9223372036854775807) (hb : Bytes w ab b) (hmax : 64 + b.length ≤ 1152921504606846976) (hT : KW w) :
    Calls Tryd.prog 34 #[.slice ak k.length ck, .slice ab b.length cb] w fun e w' => e = .returned (.agg (u8s (ShaMath.hmac k b)).toArray) ∧ Below w.heap.size w w' := by
  have cK := fun W (h1 : Bytes W ak k) (h2 : KW W) => keyBlock_any k ak ck W hck hck1 h1 hkmax h2
  have hkl := ShaMath.key64_length k
  have hdef : ShaMath.hmac k b = ShaMath.sha ((ShaMath.key64 k).map (· ^^^ 92) ++ ShaMath.sha ((ShaMath.key64 k).map (· ^^^ 54) ++ b)) := rfl
  rw [hdef]
  generalize ShaMath.key64 k = K at cK hkl ⊢
  have c1 := fun W => padded_any K hkl 54 54 rfl W
  have c2 := fun W => padded_any K hkl 92 92 rfl W
  have l1 : (K.map (· ^^^ 54)).length = 64 := by rw [List.length_map, hkl]
  have l2 : (K.map (· ^^^ 92)).length = 64 := by rw [List.length_map, hkl]
  generalize K.map (· ^^^ 54) = P1 at c1 l1 ⊢
  generalize K.map (· ^^^ 92) = P2 at c2 l2 ⊢
  have hsI : (ShaMath.sha (P1 ++ b)).length = 32 := ShaMath.sha_length _
  have cI := fun W (g : Nat) (h1 : Bytes W (some ⟨g, 0, none⟩) P1) (h2 : Bytes W ab b) (h3 : KW W) => sumBehind_any P1 b (some ⟨g, 0, none⟩) ab 64 cb W (by omega) (by decide) hcb hcb1 h1 h2 (by omega) h3
  rw [l1] at cI
  generalize ShaMath.sha (P1 ++ b) = I at hsI cI ⊢
  have hsO : (ShaMath.sha (P2 ++ I)).length = 32 := ShaMath.sha_length _
  have cO := fun W (g g' : Nat) (h1 : Bytes W (some ⟨g, 0, none⟩) P2) (h2 : Bytes W (some ⟨g', 0, none⟩) I) (h3 : KW W) => sumBehind_any P2 I (some ⟨g, 0, none⟩) (some ⟨g', 0, none⟩) 64 32 W (by omega) (by decide) (by omega) (by decide) h1 h2 (by omega) h3
  rw [l2, hsI] at cO
  generalize ShaMath.sha (P2 ++ I) = O at hsO cO ⊢
  obtain ⟨VK, hVK⟩ : ∃ V, (u8s K).toArray = V := ⟨_, rfl⟩
  obtain ⟨V1, hV1⟩ : ∃ V, (u8s P1).toArray = V := ⟨_, rfl⟩
  obtain ⟨V2, hV2⟩ : ∃ V, (u8s P2).toArray = V := ⟨_, rfl⟩
  obtain ⟨VI, hVI⟩ : ∃ V, (u8s I).toArray = V := ⟨_, rfl⟩
  obtain ⟨VO, hVO⟩ : ∃ V, (u8s O).toArray = V := ⟨_, rfl⟩
  rw [hVK] at cK c1 c2
  rw [hV1] at c1
  rw [hV2] at c2
  rw [hVI] at cI
  rw [hVO] at cO ⊢
  have sK : (u8s K).length = 64 := by rw [u8s_length, hkl]
  have s1 : (u8s P1).length = 64 := by rw [u8s_length, l1]
  have s2 : (u8s P2).length = 64 := by rw [u8s_length, l2]
  have sI : (u8s I).length = 32 := by rw [u8s_length, hsI]
  have sO : (u8s O).length = 32 := by rw [u8s_length, hsO]
  have z64 : (u8s (List.replicate 64 0)).length = 64 := by rw [u8s_length, List.length_replicate]
  have z32 : (u8s (List.replicate 32 0)).length = 32 := by rw [u8s_length, List.length_replicate]
  obtain ⟨Z, hZ⟩ : ∃ Z, (u8s (List.replicate 64 0)).toArray = Z := ⟨_, rfl⟩
  have zv64 : ∀ W, (zeroValue 76).run Tryd.prog W = .ok (.agg Z) W := fun W => by rw [← hZ]; kernel_rfl
  have bz : ∀ W : World, Blk (W.alloc (.cells Z 76)) W.heap.size 76 (u8s (List.replicate 64 0)) := fun W => by rw [← hZ]; exact Blk.new W _ _
  obtain ⟨Y, hY⟩ : ∃ Y, (u8s (List.replicate 32 0)).toArray = Y := ⟨_, rfl⟩
  have zv32 : ∀ W, (zeroValue 51).run Tryd.prog W = .ok (.agg Y) W := fun W => by rw [← hY]; kernel_rfl
  have by32 : ∀ W : World, Blk (W.alloc (.cells Y 51)) W.heap.size 51 (u8s (List.replicate 32 0)) := fun W => by rw [← hY]; exact Blk.new W _ _
  have m0 : ∀ (o : Obj), Below w.heap.size w (w.alloc o) := fun o => (Below.refl _ _).alloc (Nat.le_refl _) o
  have b0 := by32 w
  have sl64 := fun b W => slice_all64 b 0 W
  have sl32 := fun b W => slice_all32 b 0 W
  clear hZ hY hdef
  go_enter Tryd.func34, Tryd.ntmps34
  go_upto_region 2 with (first
    | (go_at_call 53; refine (cK _ (hk.keep (m0 _)) (hT.keep (m0 _) (Nat.le_refl _))).mono ?_; rintro e w1 ⟨rfl, k1⟩; have B1 := b0.call k1; have m1 := below_step (m0 (.cells Y 51)) (by simp) k1; have bn := bz w1; clear cK)
    | (with_reducible refine wpList_store_blk rfl 76 (.tmp 5) (.tmp 10) rfl w1.heap.size 0 rfl _ _ bn (u8s K) VK (by rw [← hVK]) rfl (by rw [sK, z64]; omega) (by rw [sK]; kernel_rfl) (u8s_one _) ?_; intro w2 hg2 hs2 hB2))
  rw [Nat.zero_add, List.take_zero, List.nil_append, List.drop_of_length_le (by rw [sK, z64]; exact Nat.le_refl _), List.append_nil] at hB2
  have hlt1 : w.heap.size < w1.heap.size := B1.lt
  have B12 := (B1.alloc (.cells Z 76)).same (hg2.block w.heap.size (B1.alloc _).lt (by simp; omega))
  have m2 : Below w.heap.size w w2 := (m1.alloc m1.size _).grown hg2 (by have := m1.size; simp; omega) (fun k h => by cases h; exact m1.size)
  generalize w1.heap.size = A6 at hB2 hlt1 ⊢
  have hld : ∀ W, Below w2.heap.size w2 W → (Instr.loadAt 76 (.pointer (some ⟨A6, 0, none⟩))).run Tryd.prog W = .ok (.agg VK) W := fun W hW => by
    rw [← hVK]; exact load_whole (hB2.call hW) (d := .array 64 5) rfl rfl (by rw [sK]; kernel_rfl)
  have HLD := Lib.hid hld
  clear hld b0 B1 bn m1 hg2 hs2 k1 m0
  refine wp_region_news' 4 6 (by decide) (by kernel_rfl) (fun _ g W => Blk W g 76 (u8s (List.replicate 64 0))) (fun _ g w w' h _ hb => h.call hb) (by kernel_rfl) (by kernel_rfl) (by kernel_rfl) (fun k o ho a => ?_) ?_
  · simp only [List.take_succ_cons, List.take_zero, List.drop_succ_cons, List.drop_zero] at ho
    match k, ho with
    | 0, ho => exact fresh64 _ _ _ (by rw [← Option.some.inj ho])
    | 1, ho => exact fresh64 _ _ _ (by rw [← Option.some.inj ho])
  simp only [List.take_succ_cons, List.take_zero, List.drop_succ_cons, List.drop_zero]
  repeat (first
    | (apply wpDet_plain _ rfl; (focus (intro W hW; exact detV_load 76 (.tmp 5) rfl (HLD.out W hW))); simp only [Act.put, List.setIfInBounds_toArray, List.set_cons_zero, List.set_cons_succ])
    | (apply wpDet_plain _ rfl; (focus (intro W hW; go_simp; (first | (with_reducible refine (c1 W).mono ?_) | (with_reducible refine (c2 W).mono ?_)); rintro e w' ⟨rfl, hb⟩; exact ⟨rfl, hb⟩)); simp only [Act.put, List.setIfInBounds_toArray, List.set_cons_zero, List.set_cons_succ]))
  refine wpDet_nil ?_
  intro gs W3 hW3 hgs hne
  obtain ⟨p1, p2, p3⟩ := hgs 0 (by decide)
  obtain ⟨q1, q2, q3⟩ := hgs 1 (by decide)
  have hne' := hne 0 1 (by decide) (by decide) (by decide)
  simp only [fillF, ptrs, Nat.zero_add, Act.put, List.setIfInBounds_toArray, List.set_cons_zero, List.set_cons_succ]
  generalize gs 0 = g1 at p1 p2 p3 hne' ⊢
  generalize gs 1 = g2 at q1 q2 q3 hne' ⊢
  have B3 := B12.call hW3
  have m3 := m2.trans (hW3.mono m2.size)
  have hlt2 : A6 < w2.heap.size := hB2.lt
  clear hgs hne HLD B12 m2 hB2 hW3 c1 c2
  go_upto_region 3 with (first
    | (with_reducible refine wpList_store_blk rfl 76 (.tmp 6) (.tmp 12) rfl g1 0 rfl _ _ p3 (u8s P1) V1 (by rw [← hV1]) rfl (by rw [s1, z64]; omega) (by rw [s1]; kernel_rfl) (u8s_one _) ?_; intro w4 hg4 hs4 hB4; have Q4 := q3.same (hg4.block g2 q2 (by simp; omega)); have B4 := B3.same (hg4.block w.heap.size B3.lt (by simp; omega)); have m4 : Below w.heap.size w w4 := m3.grown hg4 m3.size (fun k h => by cases h; omega))
    | (with_reducible refine wpList_store_blk rfl 76 (.tmp 7) (.tmp 14) rfl g2 0 rfl _ _ Q4 (u8s P2) V2 (by rw [← hV2]) rfl (by rw [s2, z64]; omega) (by rw [s2]; kernel_rfl) (u8s_one _) ?_; intro w5 hg5 hs5 hB5))
  rw [Nat.zero_add, List.take_zero, List.nil_append, List.drop_of_length_le (by rw [s1, z64]; exact Nat.le_refl _), List.append_nil] at hB4
  rw [Nat.zero_add, List.take_zero, List.nil_append, List.drop_of_length_le (by rw [s2, z64]; exact Nat.le_refl _), List.append_nil] at hB5
  have P5 := hB4.same (hg5.block g1 hB4.lt (by simp; omega))
  have B5 := B4.same (hg5.block w.heap.size B4.lt (by simp; omega))
  have m5 : Below w.heap.size w w5 := m4.grown hg5 m4.size (fun k h => by cases h; omega)
  have h1b : Bytes w5 (some ⟨g1, 0, none⟩) P1 := bytes_of_blk P5
  clear p1 p2 p3 q1 q2 q3 hg4 hs4 hB4 Q4 B4 m4 hg5 hs5 B3 m3
  go_upto_region 4 with (first
    | (go_at_call 48; refine (cI _ g1 h1b (hb.keep m5) (hT.keep m5 (Nat.le_refl _))).mono ?_; rintro e w6 ⟨rfl, k6⟩; have B6 := B5.call k6; have Q6 := hB5.call k6; have m6 := below_step m5 m5.size k6; have bn6 := by32 w6; clear cI)
    | (with_reducible refine wpList_store_blk rfl 51 (.tmp 8) (.tmp 17) rfl w6.heap.size 0 rfl _ _ bn6 (u8s I) VI (by rw [← hVI]) rfl (by rw [sI, z32]; omega) (by rw [sI]; kernel_rfl) (u8s_one _) ?_; intro w7 hg7 hs7 hB7))
  rw [Nat.zero_add, List.take_zero, List.nil_append, List.drop_of_length_le (by rw [sI, z32]; exact Nat.le_refl _), List.append_nil] at hB7
  have hlt6 : w.heap.size < w6.heap.size := B6.lt
  have hlt7 : g2 < w6.heap.size := Q6.lt
  have B7 := (B6.alloc (.cells Y 51)).same (hg7.block w.heap.size (B6.alloc _).lt (by simp; omega))
  have Q7 := (Q6.alloc (.cells Y 51)).same (hg7.block g2 (Q6.alloc _).lt (by simp; omega))
  have m7 : Below w.heap.size w w7 := (m6.alloc m6.size _).grown hg7 (by have := m6.size; simp; omega) (fun k h => by cases h; exact m6.size)
  generalize w6.heap.size = A7 at hB7 hlt6 hlt7 ⊢
  clear B6 Q6 m6 bn6 hg7 hs7 k6 hB5 P5 B5 m5 h1b
  refine wp_region_det 2 (by kernel_rfl) (by kernel_rfl) (by kernel_rfl) ?_
  simp only [List.take_succ_cons, List.take_zero, List.drop_succ_cons, List.drop_zero]
  repeat (first
    | (apply wpDet_plain _ rfl; (focus (intro W hW; go_simp; exact ⟨rfl, Below.refl _ _⟩)); simp only [Act.put, List.setIfInBounds_toArray, List.set_cons_zero, List.set_cons_succ]))
  refine wpDet_nil ?_
  intro W8 hW8
  have B8 := B7.call hW8
  have Q8 := bytes_of_blk (Q7.call hW8)
  have I8 := bytes_of_blk (hB7.call hW8)
  have m8 := m7.trans (hW8.mono m7.size)
  clear B7 Q7 m7 hB7 hW8
  go_wp2_with (first
    | (go_at_call 48; refine (cO _ g2 A7 Q8 I8 (hT.keep m8 (Nat.le_refl _))).mono ?_; rintro e w9 ⟨rfl, k9⟩; have B9 := B8.call k9; have m9 := below_step m8 m8.size k9; clear cO)
    | (with_reducible refine wpList_store_blk rfl 51 (.tmp 4) (.tmp 20) rfl w.heap.size 0 rfl _ _ B9 (u8s O) VO (by rw [← hVO]) rfl (by rw [sO, z32]; omega) (by rw [sO]; kernel_rfl) (u8s_one _) ?_; intro x3 hg7 hs7 hB7))
  refine bodyPost_ret (results_arr rfl _ _ w.heap.size (u8s O) rfl ?_ rfl rfl (by rw [sO]; kernel_rfl)) rfl ⟨by rw [hVO], ?_⟩
  · rw [Nat.zero_add, List.take_zero, List.nil_append, List.drop_of_length_le (by rw [sO, z32]; exact Nat.le_refl _), List.append_nil] at hB7; exact hB7
  · exact m9.grown hg7 m9.size (fun k h => by cases h; exact Nat.le_refl _)
end Go.Proofs.YtmldhnghfdhjmaaDoor

/-! CONTRACT of the reference's padding closure within Maced. CONDITIONS: where the string lies. -/
namespace Go.Proofs.YtmldhnghfdhjmaaDoor
open Go.RowKit CodeMath
set_option linter.unusedVariables false
set_option maxRecDepth 100000

set_option maxRecDepth 100000 in
set_option maxHeartbeats 2000000 in
theorem padRef_any (l : List UInt8) (hl : l.length = 64) (p : UInt8) (pI : Int) (hp : pI = p.toNat) (P : Nat) (w : World) (hP : w.cell? ⟨P, 0, none⟩ = some (.string (str l))) (hPs : P < w.heap.size) :
    Calls Tryd.prog 55 #[.int .u8 pI, .pointer (some ⟨P, 0, none⟩)] w fun e w' => e = .returned (.string (str (l.map (· ^^^ p)))) ∧ Below w.heap.size w w' := by
  subst hp
  obtain ⟨cap, W1, hcv, hpd, hb1, hge⟩ := bytesOf_own l w
  rw [hl] at hcv hge
  have hgc : (64 : Int) ≤ cap := by omega
  obtain ⟨S, hS⟩ : ∃ S, str l = S := ⟨_, rfl⟩
  rw [hS] at hcv hP
  clear hS
  rw [← padded_zero l p] at hpd
  obtain ⟨R, hR⟩ : ∃ R, str (l.map (· ^^^ p)) = R := ⟨_, rfl⟩
  rw [hR]
  have HR := Lib.hid hR
  clear hR
  go_enter Tryd.func55, Tryd.ntmps55
  go_wp2_with fail
  go_loopw [10] (fun ix wr => ∃ i : Nat, i ≤ 64 ∧ ix = .int .i64 i ∧ Hid (Pads wr w.heap.size (padded l p i)) ∧ Below w.heap.size w wr) (fun ix _ => 64 - (intOf ix).toNat)
  case atStart => exact ⟨0, by omega, rfl, Lib.hid hpd, hb1⟩
  case round =>
    obtain ⟨i, hi, rfl, k1, hbr⟩ := hrel
    by_cases h64 : i < 64
    · have iI : (i : Int) < 64 := by omega
      obtain ⟨c, hc⟩ : ∃ c, l[i]? = some c := ⟨_, List.getElem?_eq_getElem (by omega)⟩
      obtain ⟨hu, fu⟩ := k1.out.2 i c (padded_get l p i c hc)
      have hx : bits .xor .u8 (c.toNat : Int) (p.toNat : Int) = (((c ^^^ p).toNat : Nat) : Int) := by
        rw [u8_xor_nat _ _ c.toNat_lt p.toNat_lt, UInt8.toNat_xor]
      have hst := k1.out.set i (c ^^^ p)
      rw [padded_set _ _ _ _ hc] at hst
      have hbs := hbr.setCell (p := ⟨w.heap.size, i, none⟩) (Nat.le_refl _) (.int .u8 ((c ^^^ p).toNat : Nat))
      have J1 := Lib.hid hst
      clear hst k1 hpd hb1 hc hcv
      go_wp2_with fail
      go_roundw
      case rel => exact ⟨i + 1, by omega, by go_num, J1, hbs⟩
      case measure => simp [intOf]; omega
    · have iI : ¬ ((i : Int) < 64) := by omega
      have hie : i = l.length := by omega
      rw [hie, padded_end] at k1
      have hst := bytes_string (cap := cap) k1.out.bytes
      rw [List.length_map, hl] at hst
      have hst' : (convert 23 9 (.slice (some ⟨w.heap.size, 0, none⟩) 64 cap)).run Tryd.prog wr = .ok (.string R) wr := by rw [← HR.out]; exact hst
      clear hie h64 k1 hpd hb1 hcv hst
      go_wp2_with fail
      go_ret
      exact ⟨rfl, hbr⟩
end Go.Proofs.YtmldhnghfdhjmaaDoor

/-! CONTRACT of the reference's Maced. CONDITIONS: where the bytes lie. -/
namespace Go.Proofs.YtmldhnghfdhjmaaDoor
open Go.RowKit CodeMath
set_option linter.unusedVariables false
set_option maxRecDepth 100000

def sizeC : Option Value → Nat
  | some (.string s) => s.size
  | _ => 0
/-- A key with noughts behind it. -/
def padK (D : List UInt8) (j : Nat) : List UInt8 := D ++ List.replicate j 0
theorem padK_length (D : List UInt8) (j : Nat) : (padK D j).length = D.length + j := by simp [padK]
theorem padK_succ (D : List UInt8) (j : Nat) : padK D j ++ [0] = padK D (j + 1) := by
  unfold padK; rw [List.append_assoc, ← List.replicate_succ']
def MacedF (FV : Value) (S1 SB SX : ByteArray) (ab : Option Addr) (m cb : Nat) (X : List UInt8) (n : Nat) (VI : Array Value) (H : Nat) : Nat → Value → World → Prop
  | 0, v, _ => v = FV
  | 1, v, _ => v = .string S1
  | 2, v, _ => v = .slice ab m cb
  | 3, v, _ => v = .string SB
  | 4, v, _ => v = .string SX
  | 5, v, w => ∃ g cap, v = .slice (some ⟨g, 0, none⟩) n cap ∧ Bytes w (some ⟨g, 0, none⟩) X ∧ n ≤ cap ∧ cap ≤ 9223372036854775807
  | 6, v, _ => v = .agg VI
  | 7, v, w => ∃ g, v = .pointer (some ⟨g, 0, none⟩) ∧ H ≤ g ∧ Blk w g 51 (u8s (List.replicate 32 0))
  | _, _, _ => True
theorem macedF_keep {FV : Value} {S1 SB SX : ByteArray} {ab : Option Addr} {m cb : Nat} {X : List UInt8} {n : Nat} {VI : Array Value} {H : Nat} (i : Nat) (v : Value) (w w' : World) (h : MacedF FV S1 SB SX ab m cb X n VI H i v w) (he : Below w.heap.size w w') : MacedF FV S1 SB SX ab m cb X n VI H i v w' := by
  unfold MacedF at *
  split at h <;> (try exact h) <;> (try exact trivial)
  · obtain ⟨g, cap, h1, h2, h3⟩ := h; exact ⟨g, cap, h1, h2.keep he, h3⟩
  · obtain ⟨g, h1, h2, h3⟩ := h; exact ⟨g, h1, h2, h3.call he⟩
set_option maxRecDepth 100000 in
set_option maxHeartbeats 4000000 in
theorem maced_any (k b : List UInt8) (ak ab : Option Addr) (ck cb : Nat) (w : World) (hck : k.length ≤ ck) (hck1 : ck ≤ 9223372036854775807) (hk : Bytes w ak k) (hkmax : k.length ≤ 1152921504606846976)
    (hcb : b.length ≤ cb) (hcb1 : cb ≤ 9223372036854775807) (hb : Bytes w ab b) (hmax : 64 + b.length ≤ 1152921504606846976) :
    Calls Tryd.prog 37 #[.slice ak k.length ck, .slice ab b.length cb] w fun e w' => e = .returned (.agg (u8s (ShaMath.hmac k b)).toArray) ∧ Below w.heap.size w w' := by
  have hdef : ShaMath.hmac k b = ShaMath.sha ((ShaMath.key64 k).map (· ^^^ 92) ++ ShaMath.sha ((ShaMath.key64 k).map (· ^^^ 54) ++ b)) := rfl
  rw [hdef]
  clear hdef
  have hkl := ShaMath.key64_length k
  have hK : ∃ D, (if 64 < k.length then ShaMath.sha k else k) = D ∧ D.length ≤ 64 ∧ ShaMath.key64 k = padK D (64 - D.length) := by
    refine ⟨_, rfl, ?_, key64_eq k⟩
    split
    · rw [ShaMath.sha_length]; omega
    · omega
  obtain ⟨D, hD, hD64, hKD⟩ := hK
  generalize ShaMath.key64 k = K at hkl hKD ⊢
  have c1 := fun P W h1 h2 => padRef_any K hkl 54 54 rfl P W h1 h2
  have c2 := fun P W h1 h2 => padRef_any K hkl 92 92 rfl P W h1 h2
  have l1 : (K.map (· ^^^ 54)).length = 64 := by rw [List.length_map, hkl]
  have l2 : (K.map (· ^^^ 92)).length = 64 := by rw [List.length_map, hkl]
  generalize K.map (· ^^^ 54) = P1 at c1 l1 ⊢
  generalize K.map (· ^^^ 92) = P2 at c2 l2 ⊢
  have hsI : (ShaMath.sha (P1 ++ b)).length = 32 := ShaMath.sha_length _
  have lX : (P1 ++ b).length ≤ 1152921504606846976 := by rw [List.length_append]; omega
  have cI := fun W (g cap : Nat) (h0 : (P1 ++ b).length ≤ cap) (h1 : cap ≤ 9223372036854775807) (h2 : Bytes W (some ⟨g, 0, none⟩) (P1 ++ b)) => summed_any (P1 ++ b) (some ⟨g, 0, none⟩) cap W h0 h1 h2 lX
  have vX := fun W => bytesOf_max (P1 ++ b) W (by omega)
  have aX : str P1 ++ str b = str (P1 ++ b) := str_append _ _
  have zX : ¬ 9223372036854775807 < (str P1).size + (str b).size := by rw [str_size, str_size]; omega
  generalize ShaMath.sha (P1 ++ b) = I at hsI cI ⊢
  generalize P1 ++ b = X at cI vX aX lX
  have hsO : (ShaMath.sha (P2 ++ I)).length = 32 := ShaMath.sha_length _
  have lY : (P2 ++ I).length ≤ 1152921504606846976 := by rw [List.length_append]; omega
  have cO := fun W (g cap : Nat) (h0 : (P2 ++ I).length ≤ cap) (h1 : cap ≤ 9223372036854775807) (h2 : Bytes W (some ⟨g, 0, none⟩) (P2 ++ I)) => summed_any (P2 ++ I) (some ⟨g, 0, none⟩) cap W h0 h1 h2 lY
  have vY := fun W => bytesOf_max (P2 ++ I) W (by omega)
  have aY : str P2 ++ str I = str (P2 ++ I) := str_append _ _
  have zY : ¬ 9223372036854775807 < (str P2).size + (str I).size := by rw [str_size, str_size]; omega
  generalize ShaMath.sha (P2 ++ I) = O at hsO cO ⊢
  generalize P2 ++ I = Y at cO vY aY lY
  obtain ⟨VI, hVI⟩ : ∃ V, (u8s I).toArray = V := ⟨_, rfl⟩
  obtain ⟨VO, hVO⟩ : ∃ V, (u8s O).toArray = V := ⟨_, rfl⟩
  rw [hVI] at cI
  rw [hVO] at cO ⊢
  have sI : (u8s I).length = 32 := by rw [u8s_length, hsI]
  have sO : (u8s O).length = 32 := by rw [u8s_length, hsO]
  have z32 : (u8s (List.replicate 32 0)).length = 32 := by rw [u8s_length, List.length_replicate]
  obtain ⟨Z, hZ⟩ : ∃ Z, (u8s (List.replicate 32 0)).toArray = Z := ⟨_, rfl⟩
  have zv32 : ∀ W, (zeroValue 51).run Tryd.prog W = .ok (.agg Z) W := fun W => by rw [← hZ]; kernel_rfl
  have bz : ∀ W : World, Blk (W.alloc (.cells Z 51)) W.heap.size 51 (u8s (List.replicate 32 0)) := fun W => by rw [← hZ]; exact Blk.new W _ _
  have b0 := bz w
  have sl32 := fun b W => slice_all32 b 0 W
  have m0 : ∀ (o : Obj), Below w.heap.size w (w.alloc o) := fun o => (Below.refl _ _).alloc (Nat.le_refl _) o
  have hk1 := hk.keep (m0 (.cells Z 51))
  have cvk := bytes_string (cap := ck) hk1
  have hkk : str k = ⟨k.toArray⟩ := rfl
  have hks := str_size k
  rw [← hkk] at cvk
  obtain ⟨SK, hSK⟩ : ∃ S, str k = S := ⟨_, rfl⟩
  rw [hSK] at cvk hks
  have HZ := Lib.hid hZ
  clear hZ hkk hk1
  have cS := fun W (h : Bytes W ak k) => summed_any k ak ck W hck hck1 h hkmax
  have hsS : (ShaMath.sha k).length = 32 := ShaMath.sha_length _
  by_cases hlt : 64 < k.length
  case' pos =>
    rw [if_pos hlt] at hD
    have hI : ((64 : Int) < SK.size) := by rw [hks]; omega
    rw [hD] at cS hsS
    obtain ⟨VS, hVS⟩ : ∃ V, (u8s D).toArray = V := ⟨_, rfl⟩
    rw [hVS] at cS
    have sS : (u8s D).length = 32 := by rw [u8s_length, hsS]
    go_enter Tryd.func37, Tryd.ntmps37
    go_upto_region 3 with fail
    refine wp_gen (fun W => Blk W w.heap.size 51 (u8s (List.replicate 32 0)) ∧ Blk W (w.heap.size + 1) 9 [.string SK] ∧ Below w.heap.size w W) ⟨b0.alloc _, Blk.atNew _ _ (by simp), (m0 _).alloc (by simp) _⟩ ?_
    rintro W ⟨b1, b2, hbw⟩
    have hkw := hk.keep hbw
    go_upto_region 4 with (first
      | (go_at_call 31; refine (cS _ hkw).mono ?_; rintro e w1 ⟨rfl, k1⟩; have B1 := b1.call k1; have B2 := b2.call k1; have m1 := below_step hbw hbw.size k1; have bn := bz w1; clear cS)
      | (with_reducible refine wpList_store_blk rfl 51 (.tmp 6) (.tmp 15) rfl w1.heap.size 0 rfl _ _ bn (u8s D) VS (by rw [← hVS]) rfl (by rw [sS, z32]; omega) (by rw [sS]; kernel_rfl) (u8s_one _) ?_; intro w2 hg2 hs2 hB2))
    rw [Nat.zero_add, List.take_zero, List.nil_append, List.drop_of_length_le (by rw [sS, z32]; exact Nat.le_refl _), List.append_nil] at hB2
    have hl1 := B1.lt
    have hl2 := B2.lt
    have B12 := (B1.alloc (.cells Z 51)).same (hg2.block w.heap.size (B1.alloc _).lt (by simp; omega))
    have B22 := (B2.alloc (.cells Z 51)).same (hg2.block (w.heap.size + 1) (B2.alloc _).lt (by simp; omega))
    have m2 : Below w.heap.size w w2 := (m1.alloc m1.size _).grown hg2 (by have := m1.size; simp; omega) (fun k h => by cases h; exact m1.size)
    have cvs := bytes_string (cap := 32) (bytes_of_blk hB2)
    rw [hsS] at cvs
    generalize w1.heap.size = A6 at hB2 cvs ⊢
    have hce := B22.cell (j := 0) rfl
    have hfr := B22.free 0
    have BD := B22.set 0 (.string (str D))
    have BR := B12.other ⟨w.heap.size + 1, 0, none⟩ (.string (str D)) (by simp)
    have mD := m2.setCell (p := ⟨w.heap.size + 1, 0, none⟩) (by simp) (.string (str D))
    have cvs' : (convert 23 9 (.slice (some ⟨A6, 0, none⟩) 32 32)).run Tryd.prog w2 = .ok (.string (str D)) w2 := cvs
    obtain ⟨SD, hSD⟩ : ∃ S, str D = S := ⟨_, rfl⟩
    rw [hSD] at cvs' BD BR mD
    clear cvs
    go_upto_region 5 with fail
    refine wp_gen (fun W => Blk W w.heap.size 51 (u8s (List.replicate 32 0)) ∧ Blk W (w.heap.size + 1) 9 [.string SD] ∧ Below w.heap.size w W) ⟨BR, BD, mD⟩ ?_
    clear BR BD mD hce hfr cvs' hB2 B12 B22 m2 hg2 hs2 hl1 hl2 B1 B2 m1 bn k1 b1 b2 hbw hkw hSK hks hsS sS hD hI hlt b0 cvk
    rintro W ⟨BR, BD, mD⟩
  case' neg =>
    rw [if_neg hlt] at hD
    have hI : ¬ ((64 : Int) < SK.size) := by rw [hks]; omega
    obtain ⟨SD, hSD⟩ : ∃ S, str D = S := ⟨_, rfl⟩
    obtain rfl : SD = SK := by rw [← hSD, ← hSK, hD]
    clear hD
    go_enter Tryd.func37, Tryd.ntmps37
    go_upto_region 5 with fail
    refine wp_gen (fun W => Blk W w.heap.size 51 (u8s (List.replicate 32 0)) ∧ Blk W (w.heap.size + 1) 9 [.string SD] ∧ Below w.heap.size w W) ⟨b0.alloc _, Blk.atNew _ _ (by simp), (m0 _).alloc (by simp) _⟩ ?_
    clear hks hI hlt b0 cvk hSK hsS cS
    rintro W ⟨BR, BD, mD⟩
  all_goals
    have hSD0 : str (padK D 0) = SD := by rw [← hSD]; unfold padK; rw [List.replicate_zero, List.append_nil]
    have H1 := Lib.hid BD
    have H2 := Lib.hid BR
    clear BD BR hSD m0
    go_loopw [22] (fun t wr => ∃ j : Nat, j ≤ 64 - D.length ∧ Hid (Blk wr (w.heap.size + 1) 9 [.string (str (padK D j))]) ∧ Hid (Blk wr w.heap.size 51 (u8s (List.replicate 32 0))) ∧ Below w.heap.size w wr) (fun _ wr => 64 - sizeC (wr.cell? ⟨w.heap.size + 1, 0, none⟩))
    case atStart => exact ⟨0, Nat.zero_le _, by rw [hSD0]; exact H1, H2, mD⟩
    case round =>
      obtain ⟨j, hj, k1, k2, hbr⟩ := hrel
      clear H1 H2 mD hSD0
      have hsz := str_size (padK D j)
      rw [padK_length] at hsz
      by_cases h64 : D.length + j < 64
      · have hsp := padK_succ D j
        have happ0 : str (padK D j) ++ (⟨#[0]⟩ : ByteArray) = str (padK D (j + 1)) := by rw [show (⟨#[0]⟩ : ByteArray) = str [0] from rfl, str_append, hsp]
        have hszz : ¬ 9223372036854775807 < (str (padK D j)).size + 1 := by rw [hsz]; omega
        have hI : ((str (padK D j)).size : Int) < 64 := by rw [hsz]; omega
        have hm1 : (str (padK D (j + 1))).size = D.length + (j + 1) := by rw [str_size, padK_length]
        obtain ⟨S, hS⟩ : ∃ S, str (padK D j) = S := ⟨_, rfl⟩
        obtain ⟨S', hS'⟩ : ∃ S', str (padK D (j + 1)) = S' := ⟨_, rfl⟩
        rw [hS] at happ0 hszz hI hsz k1
        rw [hS'] at happ0 hm1
        have ce := k1.out.cell (j := 0) rfl
        have fr := k1.out.free 0
        have n1 := k1.out.set 0 (.string S')
        have n2 := k2.out.other ⟨w.heap.size + 1, 0, none⟩ (.string S') (by simp)
        have nb := hbr.setCell (p := ⟨w.heap.size + 1, 0, none⟩) (by simp) (.string S')
        have ce' := n1.cell (j := 0) rfl
        have HSS := Lib.hid hS'
        have HSZ := Lib.hid hsz
        have HM1 := Lib.hid hm1
        have N1 := Lib.hid n1
        have N2 := Lib.hid n2
        have HC := Lib.hid ce
        have HC' := Lib.hid ce'
        clear hS hS' hsp hsz hm1 n1 n2 ce' k1 k2
        go_wp2
        go_roundw
        case rel => exact ⟨j + 1, by omega, by rw [HSS.out]; exact N1, N2, nb⟩
        case measure =>
          rw [HC.out, HC'.out]
          show 64 - S'.size < 64 - S.size
          rw [HSZ.out, HM1.out]; omega
      · have hje : j = 64 - D.length := by omega
        rw [hje, ← hKD] at k1 hsz
        have hI : ¬ ((str K).size : Int) < 64 := by rw [str_size, hkl]; omega
        obtain ⟨SK2, hSK2⟩ : ∃ S, str K = S := ⟨_, rfl⟩
        rw [hSK2] at k1 hI c1 c2
        have ce := k1.out.cell (j := 0) rfl
        have fr := k1.out.free 0
        clear hje h64 hSK2 hsz
        obtain ⟨S1, hS1⟩ : ∃ S, str P1 = S := ⟨_, rfl⟩
        obtain ⟨S2, hS2⟩ : ∃ S, str P2 = S := ⟨_, rfl⟩
        obtain ⟨SB, hSB⟩ : ∃ S, str b = S := ⟨_, rfl⟩
        obtain ⟨SI, hSI⟩ : ∃ S, str I = S := ⟨_, rfl⟩
        obtain ⟨SX, hSX⟩ : ∃ S, str X = S := ⟨_, rfl⟩
        obtain ⟨SY, hSY⟩ : ∃ S, str Y = S := ⟨_, rfl⟩
        rw [hS1] at c1 aX zX
        rw [hSB] at aX zX
        rw [hSX] at aX vX
        rw [hS2] at c2 aY zY
        rw [hSI] at aY zY
        rw [hSY] at aY vY
        clear hS1 hS2 hSX hSY
        go_upto_region 8 with fail
        have hPl : w.heap.size + 1 < wr.heap.size := k1.out.lt
        have hld : ∀ W, Below wr.heap.size wr W → W.cell? ⟨w.heap.size + 1, 0, none⟩ = some (.string SK2) ∧ (convert 23 9 (.slice ab b.length cb)).run Tryd.prog W = .ok (.string SB) W := fun W hW => ⟨(k1.out.call hW).cell (j := 0) rfl, by rw [← hSB]; exact bytes_string ((hb.keep hbr).keep hW)⟩
        have HLD := Lib.hid hld
        clear hld ce fr
        refine wp_region_facts' 8 (by kernel_rfl) (by kernel_rfl) (MacedF (Value.func (Fn.func 55) #[] #[Value.pointer (some ⟨w.heap.size + 1, 0, none⟩)]) S1 SB SX ab b.length cb X X.length VI wr.heap.size) (fun W => Below wr.heap.size wr W) (fun W W' => Below W.heap.size W W') ?hC ?hF ?h0 ?hstep ?hdone
        case hC => exact fun W W' hc he => below_step hc hc.size he
        case hF => exact macedF_keep
        case h0 => exact (Below.refl _ _).drew
        case hstep =>
          intro i hi vs a W K ha hc hd hu hK
          simp only [fillF, Act.put, List.take_succ_cons, List.take_zero, List.setIfInBounds_toArray, List.set_cons_zero, List.set_cons_succ] at ha
          subst ha
          clear hu
          obtain ⟨q1, q2⟩ := HLD.out W hc
          have hPW := Nat.lt_of_lt_of_le hPl hc.size
          rcases (show i = 0 ∨ i = 1 ∨ i = 2 ∨ i = 3 ∨ i = 4 ∨ i = 5 ∨ i = 6 ∨ i = 7 by omega) with rfl | rfl | rfl | rfl | rfl | rfl | rfl | rfl
          · refine wpOp_step rfl (fun K' hK' => ?_)
            go_simp
            exact hK' _ _ (hK _ _ rfl (Below.refl _ _))
          · have e0 := hd 0 (by kernel_rfl)
            simp only [MacedF] at e0
            simp only [e0] at hK ⊢
            refine wpOp_step rfl (fun K' hK' => ?_)
            go_simp
            refine (c1 _ W q1 hPW).mono ?_
            rintro e w' ⟨rfl, hbW⟩
            exact hK' _ _ (hK _ _ rfl hbW)
          · refine wpOp_step rfl (fun K' hK' => ?_)
            go_simp
            exact hK' _ _ (hK _ _ rfl (Below.refl _ _))
          · have e2 := hd 2 (by kernel_rfl)
            simp only [MacedF] at e2
            simp only [e2] at hK ⊢
            refine wpOp_step rfl (fun K' hK' => ?_)
            go_simp
            exact hK' _ _ (hK _ _ rfl (Below.refl _ _))
          · have e1 := hd 1 (by kernel_rfl)
            have e3 := hd 3 (by kernel_rfl)
            simp only [MacedF] at e1 e3
            simp only [e1, e3] at hK ⊢
            refine wpOp_step rfl (fun K' hK' => ?_)
            go_simp
            exact hK' _ _ (hK _ _ rfl (Below.refl _ _))
          · have e4 := hd 4 (by kernel_rfl)
            simp only [MacedF] at e4
            simp only [e4] at hK ⊢
            obtain ⟨cap, W1, hcv, hBy, hbW, hc1, hc2⟩ := vX W
            refine wpOp_step rfl (fun K' hK' => ?_)
            go_simp
            exact hK' _ _ (hK _ _ ⟨_, cap, rfl, hBy, hc1, hc2⟩ hbW)
          · obtain ⟨g, cap, e5, hBy, hc1, hc2⟩ := hd 5 (by kernel_rfl)
            simp only [e5] at hK ⊢
            refine wpOp_step rfl (fun K' hK' => ?_)
            go_simp
            refine (cI W g cap hc1 hc2 hBy).mono ?_
            rintro e w' ⟨rfl, hbW⟩
            exact hK' _ _ (hK _ _ rfl hbW)
          · refine wpOp_step rfl (fun K' hK' => ?_)
            go_simp
            exact hK' _ _ (hK _ _ ⟨_, rfl, hc.size, bz W⟩ ((Below.refl _ _).alloc (Nat.le_refl _) _))
        case hdone =>
          intro vs a W3 ha hW3 hF
          have e0 := hF 0 (by decide)
          have e6 := hF 6 (by decide)
          obtain ⟨g, e7, hg, p3⟩ := hF 7 (by decide)
          simp only [MacedF] at e0 e6
          simp only [fillF, Act.put, List.take_succ_cons, List.take_zero, List.setIfInBounds_toArray, List.set_cons_zero, List.set_cons_succ] at ha
          subst ha
          simp only [e6, e7, List.drop_succ_cons, List.drop_zero]
          have B3 := k2.out.call hW3
          have K3 := k1.out.call hW3
          have m3 := hbr.trans (hW3.mono hbr.size)
          clear hF e0 e6 e7 HLD c1 cI vX
          go_upto_region 9 with (with_reducible refine wpList_store_blk rfl 51 (.tmp 8) (.tmp 30) rfl g 0 rfl _ _ p3 (u8s I) VI (by rw [← hVI]) rfl (by rw [sI, z32]; omega) (by rw [sI]; kernel_rfl) (u8s_one _) ?_; intro w4 hg4 hs4 hB4)
          rw [Nat.zero_add, List.take_zero, List.nil_append, List.drop_of_length_le (by rw [sI, z32]; exact Nat.le_refl _), List.append_nil] at hB4
          have hlt2 : w.heap.size < wr.heap.size := by omega
          have B4 := B3.same (hg4.block w.heap.size B3.lt (by simp; omega))
          have K4 := K3.same (hg4.block (w.heap.size + 1) K3.lt (by simp; omega))
          have m4 : Below w.heap.size w w4 := m3.grown hg4 m3.size (fun k h => by cases h; omega)
          have hld : ∀ W, Below w4.heap.size w4 W → W.cell? ⟨w.heap.size + 1, 0, none⟩ = some (.string SK2) ∧ (convert 23 9 (.slice (some ⟨g, 0, none⟩) 32 32)).run Tryd.prog W = .ok (.string SI) W ∧ w.heap.size + 1 < W.heap.size := fun W hW => ⟨(K4.call hW).cell (j := 0) rfl, by have := bytes_string (cap := 32) (bytes_of_blk (hB4.call hW)); rw [hsI] at this; rw [← hSI]; exact this, Nat.lt_of_lt_of_le K4.lt hW.size⟩
          have HLD := Lib.hid hld
          clear hld B3 K3 p3 hg4 hs4 m3 hW3
          refine wp_region_det 5 (by kernel_rfl) (by kernel_rfl) (by kernel_rfl) ?_
          simp only [List.take_succ_cons, List.take_zero, List.drop_succ_cons, List.drop_zero]
          repeat (first
            | (apply wpDet_plain _ rfl; (focus (intro W hW; obtain ⟨q1, q2, q3⟩ := HLD.out W hW; go_simp; exact ⟨rfl, Below.refl _ _⟩)); simp only [Act.put, List.setIfInBounds_toArray, List.set_cons_zero, List.set_cons_succ])
            | (apply wpDet_plain _ rfl; (focus (intro W hW; obtain ⟨q1, q2, q3⟩ := HLD.out W hW; go_simp; refine (c2 _ W q1 q3).mono ?_; rintro e w' ⟨rfl, hb⟩; exact ⟨rfl, hb⟩)); simp only [Act.put, List.setIfInBounds_toArray, List.set_cons_zero, List.set_cons_succ]))
          refine wpDet_nil ?_
          intro W8 hW8
          have B8 := B4.call hW8
          have m8 := m4.trans (hW8.mono m4.size)
          obtain ⟨cap, W9, hcv, hBy, hb9, hc1, hc2⟩ := vY W8
          have B9 := B8.call hb9
          have m9 := below_step m8 m8.size hb9
          clear B4 m4 hW8 HLD c2
          go_wp2_with (first
            | (go_at_call 31; refine (cO _ _ _ hc1 hc2 hBy).mono ?_; rintro e wA ⟨rfl, kA⟩; have BA := B9.call kA; have mA := below_step m9 m9.size kA; clear cO)
            | (with_reducible refine wpList_store_blk rfl 51 (.tmp 4) (.tmp 37) rfl w.heap.size 0 rfl _ _ BA (u8s O) VO (by rw [← hVO]) rfl (by rw [sO, z32]; omega) (by rw [sO]; kernel_rfl) (u8s_one _) ?_; intro x3 hg7 hs7 hB7))
          refine bodyPost_ret (results_arr rfl _ _ w.heap.size (u8s O) rfl ?_ rfl rfl (by rw [sO]; kernel_rfl)) rfl ⟨by rw [hVO], ?_⟩
          · rw [Nat.zero_add, List.take_zero, List.nil_append, List.drop_of_length_le (by rw [sO, z32]; exact Nat.le_refl _), List.append_nil] at hB7; exact hB7
          · exact mA.grown hg7 mA.size (fun k h => by cases h; exact Nat.le_refl _)
end Go.Proofs.YtmldhnghfdhjmaaDoor
