/-
  CONTRACTS of the reference's Begun, badStream, heldOf, and big of any size.
  CONDITIONS: each theorem's own hypotheses.
-/
import Derived.Test.YtmldhnghfdhjmaaDoorBlocks
import Derived.Test.YtmldhnghfdhjmaaDoorSum
import Derived.Test.YtmldhnghfdhjmaaDoorGood
namespace Go.Proofs.YtmldhnghfdhjmaaDoor
open Go.RowKit CodeMath
set_option linter.unusedVariables false
set_option maxRecDepth 100000

/-- Of words as hex digits the i-th one. -/
theorem hexG (K : List Nat) (n : Nat) (hn : n ≤ 64) (s : ByteArray) (hs : (decide (s.data.toList.length = 8 * n) && s.data.toList.all fun c => decide (48 ≤ c.toNat ∧ c.toNat ≤ 57 ∨ 97 ≤ c.toNat ∧ c.toNat ≤ 102)) = true)
    (hk : ((List.range n).all fun i => decide (hexL ((s.data.toList.drop (8 * i)).take 8) = K.getD i 0)) = true) (i : Nat) (hi : i < n) (w : World) :
    Calls Tryd.prog 69 #[.string s, .int .i64 i] w fun e w' => e = .returned (.int .u32 (K.getD i 0 : Nat)) ∧ Below w.heap.size w w' := by
  simp only [Bool.and_eq_true, decide_eq_true_eq, List.all_eq_true] at hs
  simp only [List.all_eq_true, List.mem_range, decide_eq_true_eq] at hk
  have h := hexWord_any s.data.toList i w (by omega) (by omega) (fun c hc => hs.2 c hc)
  rw [hk i hi, ← str_eq] at h
  exact h
def begC (i : Nat) : List Value := u32s ((lst ShaMath.h0).take i ++ List.replicate (8 - i) 0) ++ (u8s (List.replicate 64 0) ++ [.int .i64 0, .int .i64 0])
theorem begC_set (i : Nat) (hi : i < 8) : (begC i).set i (.int .u32 ((lst ShaMath.h0).getD i 0 : Nat)) = begC (i + 1) := by
  rcases (show i = 0 ∨ i = 1 ∨ i = 2 ∨ i = 3 ∨ i = 4 ∨ i = 5 ∨ i = 6 ∨ i = 7 by omega) with rfl | rfl | rfl | rfl | rfl | rfl | rfl | rfl <;> rfl
theorem begC_len (i : Nat) (hi : i ≤ 8) : (begC i).length = 74 := by
  unfold begC
  rw [List.length_append, u32s_length, List.length_append, List.length_take, lst_length, List.length_replicate, List.length_append, u8s_length, List.length_replicate]
  simp only [List.length_cons, List.length_nil]
  omega
theorem begC_end : begC 8 = (can ShaMath.h0 [] 0).cells := rfl
set_option maxRecDepth 100000 in
set_option maxHeartbeats 4000000 in
theorem begun_any (w : World) : Calls Tryd.prog 50 #[] w fun e w' => e = .returned (.agg (can ShaMath.h0 [] 0).cells.toArray) ∧ Below w.heap.size w w' := by
  have hzero := zero_stream
  go_enter Tryd.func50, Tryd.ntmps50
  go_upto_region 2 with fail
  refine wp_gen (fun W => Hid (Blk W w.heap.size 78 noStm.cells) ∧ Hid (Blk W (w.heap.size + 1) 78 (begC 0)) ∧ Below w.heap.size w W) ?_ ?_
  · refine ⟨?_, ?_, ((Below.refl _ _).alloc (Nat.le_refl _) _).alloc (by simp) _⟩
    · exact (Blk.new w noCells 78).alloc _
    · exact Blk.atNew noCells _ (by simp)
  rintro W ⟨b1, b2, hb⟩
  clear hzero
  go_wp2_with fail
  go_loopw [3] (fun t wr => ∃ i : Nat, i ≤ 8 ∧ t = .int .i64 i ∧ Hid (Blk wr w.heap.size 78 noStm.cells) ∧ Hid (Blk wr (w.heap.size + 1) 78 (begC i)) ∧ Below w.heap.size w wr) (fun t _ => 8 - (intOf t).toNat)
  case atStart => exact ⟨0, by omega, rfl, b1, b2, hb⟩
  case round =>
    obtain ⟨i, hi, rfl, k1, k2, hbr⟩ := hrel
    by_cases h8 : i < 8
    · have iI : (i : Int) < 8 := by omega
      have hset := Lib.hid (begC_set i h8)
      have hlen := begC_len i (by omega)
      have cH := fun s h1 h2 W => hexG (lst ShaMath.h0) 8 (by decide) s h1 h2 i h8 W
      obtain ⟨x, hx⟩ : ∃ x, (lst ShaMath.h0).getD i 0 = x := ⟨_, rfl⟩
      have hget : ∃ u, (begC i)[i]? = some u := ⟨_, List.getElem?_eq_getElem (by omega)⟩
      obtain ⟨u, hu⟩ := hget
      rw [hx] at cH hset
      have CH := Lib.hid cH
      clear hx cH hlen b1 b2 hb
      go_wp2_with (go_at_call 69; refine (CH.out _ (by decide +kernel) (by decide +kernel) _).mono ?_; rintro e w4 ⟨rfl, hb4⟩; have m1 := Lib.hid (k1.out.call hb4); have m2 := Lib.hid (k2.out.call hb4); have m3 := below_step hbr hbr.size hb4; have q1 := m2.out.cell hu; have f1 := m2.out.free i)
      have n1 := m1.out.other ⟨w.heap.size + 1, i, none⟩ (.int .u32 (x : Nat)) (show w.heap.size ≠ w.heap.size + 1 by omega)
      have n2 := m2.out.set i (.int .u32 (x : Nat))
      rw [hset.out] at n2
      have n3 := m3.setCell (p := ⟨w.heap.size + 1, i, none⟩) (Nat.le_succ _) (.int .u32 (x : Nat))
      go_roundw
      case rel => exact ⟨i + 1, by omega, by go_num, Lib.hid n1, Lib.hid n2, n3⟩
      case measure => simp [intOf]; omega
    · have iI : ¬ ((i : Int) < 8) := by omega
      have hie : i = 8 := by omega
      rw [hie, begC_end] at k2
      have k2' := k2.out
      have k1' := k1.out
      have hl : (can ShaMath.h0 [] 0).cells.length = 74 := rfl
      have hn : noStm.cells.length = 74 := rfl
      obtain ⟨V, hV⟩ : ∃ V, (can ShaMath.h0 [] 0).cells.toArray = V := ⟨_, rfl⟩
      have e1 : (((can ShaMath.h0 [] 0).cells.drop 0).take 74).toArray = V := by rw [List.drop_zero, List.take_of_length_le (by rw [hl]; exact Nat.le_refl _)]; exact hV
      clear hie k1 k2 h8 b1 b2 hb
      go_wp2_with (first
        | (with_reducible refine wpList_load_blk rfl 78 (.tmp 1) rfl (w.heap.size + 1) 0 74 rfl _ _ k2' (by rw [hl]; omega) V e1 _ rfl rfl (by kernel_rfl) ?_)
        | (with_reducible refine wpList_store_blk rfl 78 (.tmp 0) (.tmp 12) rfl w.heap.size 0 rfl _ _ k1' (can ShaMath.h0 [] 0).cells V (by rw [← hV]) rfl (by rw [hl, hn]; omega) (by rw [hl]; kernel_rfl) (stm_one _) ?_; intro w7 hg7 hs7 hB7))
      refine bodyPost_ret (results_arr rfl _ _ w.heap.size (can ShaMath.h0 [] 0).cells rfl ?_ rfl rfl (by rw [hl]; kernel_rfl)) rfl ⟨by rw [hV], ?_⟩
      · rw [Nat.zero_add, List.take_zero, List.nil_append, List.drop_of_length_le (by rw [hl, hn]; exact Nat.le_refl _), List.append_nil] at hB7; exact hB7
      · exact hbr.grown hg7 hbr.size (fun k h => by cases h; exact Nat.le_refl _)

/-! ### badStream -/
theorem all_take_drop (l : List UInt8) (n i : Nat) (c : UInt8) (h : l[i]? = some c) (hz : n ≤ i → c = 0) (ha : ((l.take i).drop n).all (· == 0) = true) : ((l.take (i + 1)).drop n).all (· == 0) = true := by
  have hi := (List.getElem?_eq_some_iff.1 h).1
  have hc := (List.getElem?_eq_some_iff.1 h).2
  rw [List.take_succ_eq_append_getElem hi, hc, List.drop_append, List.all_append, ha, Bool.true_and]
  rw [List.length_take, Nat.min_eq_left (by omega)]
  by_cases hn : n ≤ i
  · rw [hz hn, show n - i = 0 by omega]; rfl
  · rw [List.drop_of_length_le (by simp; omega)]; rfl
set_option maxRecDepth 100000 in
set_option maxHeartbeats 4000000 in
theorem badStream_any (s : Stm) (f : s.Fit) (w : World) :
    Calls Tryd.prog 66 #[.agg s.cells.toArray] w fun e w' => e = .returned (.bool (!s.good)) ∧ Below w.heap.size w w' := by
  obtain ⟨A, hA⟩ : ∃ A, s.cells.toArray = A := ⟨_, rfl⟩
  rw [hA]
  have n0 := f.n0
  have n1 := f.n1
  have l0 := f.l0
  have l1 := f.l1
  have key : ∀ W, Blk W w.heap.size 78 s.cells → W.cell? ⟨w.heap.size, 72, none⟩ = some (.int .i64 s.n) ∧ W.cell? ⟨w.heap.size, 73, none⟩ = some (.int .i64 s.len) := fun W b => ⟨b.cell (s.get_n f.held), b.cell (s.get_len f.held)⟩
  by_cases hlen : 0 ≤ s.len ∧ s.len ≤ 1152921504606846976 ∧ s.n = s.len % 64
  · rw [s.good_len hlen]
    obtain ⟨g1, g2, g3⟩ := hlen
    obtain ⟨k, hk⟩ : ∃ k : Nat, s.n = (k : Int) := ⟨s.n.toNat, by omega⟩
    have hk64 : k < 64 := by omega
    have hkt : s.n.toNat = k := by omega
    rw [hkt]
    rw [hk] at key
    have hb64 := f.held
    obtain ⟨ANS, hANS⟩ : ∃ ANS, (s.held.drop k).all (· == 0) = ANS := ⟨_, rfl⟩
    rw [hANS]
    have hc74 := Stm.cells_length _ f.held
    obtain ⟨V, hV⟩ : ∃ V, (u8s s.held).toArray = V := ⟨_, rfl⟩
    have eV : ((s.cells.drop 8).take 64).toArray = V := by rw [Stm.get_all _ f.held]; exact hV
    have g7 : s.len % 64 = (k : Int) := by omega
    generalize hL : s.len = L at g1 g2 g7 key
    have g5 : ¬ (L < 0) := by omega
    have g6 : ¬ (1152921504606846976 < L) := by omega
    have g8 : ((k : Int) == (k : Int)) = true := by simp
    clear n0 n1 l0 l1 hkt hk g3 hL
    go_enter Tryd.func66, Tryd.ntmps66
    go_upto_region 1 with fail
    refine wp_gen (fun W => Blk W w.heap.size 78 s.cells ∧ Below w.heap.size w W) ⟨by rw [← hA]; exact Blk.new _ _ _, (Below.refl _ _).alloc (Nat.le_refl _) _⟩ ?_
    rintro W ⟨b, hb⟩
    obtain ⟨q1, q2⟩ := key W b
    go_wp2_with (with_reducible refine wpList_load_blk rfl 76 (.tmp 21) rfl w.heap.size 8 64 rfl _ _ b (by rw [hc74]; omega) V eV _ rfl rfl (by kernel_rfl) ?_)
    go_loopw [23] (fun ix wr => ∃ i : Nat, i ≤ 64 ∧ ix = .int .i64 i ∧ Hid (((s.held.take i).drop k).all (· == 0) = true) ∧ wr = W) (fun ix _ => 64 - (intOf ix).toNat)
    case atStart => exact ⟨0, Nat.zero_le _, rfl, Lib.hid (by simp), rfl⟩
    case round =>
      obtain ⟨i, hi, rfl, hal, rfl⟩ := hrel
      by_cases h1 : i < 64
      · have iI : (i : Int) < 64 := by omega
        obtain ⟨c, hc⟩ : ∃ c, s.held[i]? = some c := ⟨_, List.getElem?_eq_getElem (by omega)⟩
        have hidx := fun W => run_index_u8s (t := 76) rfl s.held hb64 i c hc W
        rw [hV] at hidx
        by_cases hn : k ≤ i
        · have kI : (k : Int) ≤ i := by omega
          by_cases hz : c = 0
          · have ht : ((c.toNat : Int) != 0) = false := by rw [hz]; rfl
            have hal2 : Hid (((s.held.take (i + 1)).drop k).all (· == 0) = true) := Lib.hid (all_take_drop _ _ _ _ hc (fun _ => hz) hal.out)
            clear hc hal hz
            go_wp2
            go_roundw
            case rel => exact ⟨i + 1, by omega, by go_num, hal2, trivial⟩
            case measure => simp [intOf]; omega
          · have hne : ¬ ((c.toNat : Int) = 0) := by
              intro e
              exact hz (UInt8.toNat_inj.1 (show c.toNat = (0 : UInt8).toNat from by simpa using e))
            have ht : ((c.toNat : Int) != 0) = true := by simpa using hne
            have hfalse : ANS = false := by rw [← hANS]; exact all_here _ (i - k) c (by rw [List.getElem?_drop, show k + (i - k) = i by omega]; exact hc) (by simpa using hz)
            have HF := Lib.hid hfalse
            clear hc hal hz hfalse hne
            go_wp2
            go_ret
            exact ⟨by rw [HF.out]; rfl, hb⟩
        · have kI : ¬ ((k : Int) ≤ i) := by omega
          have hal2 : Hid (((s.held.take (i + 1)).drop k).all (· == 0) = true) := Lib.hid (all_take_drop _ _ _ _ hc (fun h => absurd h hn) hal.out)
          clear hc hal
          go_wp2
          go_roundw
          case rel => exact ⟨i + 1, by omega, by go_num, hal2, trivial⟩
          case measure => simp [intOf]; omega
      · have iI : ¬ ((i : Int) < 64) := by omega
        have htrue : ANS = true := by
          have := hal.out
          rw [List.take_of_length_le (by omega)] at this
          rw [← hANS]; exact this
        have HT := Lib.hid htrue
        clear htrue h1 hal
        go_wp2
        go_ret
        exact ⟨by rw [HT.out]; rfl, hb⟩
  · rw [s.bad_len hlen]
    by_cases h1 : s.len < 0
    · go_enter Tryd.func66, Tryd.ntmps66
      go_upto_region 1 with fail
      refine wp_gen (fun W => Blk W w.heap.size 78 s.cells ∧ Below w.heap.size w W) ⟨by rw [← hA]; exact Blk.new _ _ _, (Below.refl _ _).alloc (Nat.le_refl _) _⟩ ?_
      rintro W ⟨b, hb⟩
      obtain ⟨q1, q2⟩ := key W b
      go_wp2
      go_ret
      exact ⟨rfl, hb⟩
    · by_cases h2 : 1152921504606846976 < s.len
      · go_enter Tryd.func66, Tryd.ntmps66
        go_upto_region 1 with fail
        refine wp_gen (fun W => Blk W w.heap.size 78 s.cells ∧ Below w.heap.size w W) ⟨by rw [← hA]; exact Blk.new _ _ _, (Below.refl _ _).alloc (Nat.le_refl _) _⟩ ?_
        rintro W ⟨b, hb⟩
        obtain ⟨q1, q2⟩ := key W b
        go_wp2
        go_ret
        exact ⟨rfl, hb⟩
      · have h3 : ¬ s.n = s.len % 64 := by omega
        obtain ⟨L, hL⟩ : ∃ L, s.len % 64 = L := ⟨_, rfl⟩
        have h4 : (s.n == L) = false := by rw [← hL]; simpa using h3
        have h4' : (s.n != L) = true := by rw [bne, h4]; rfl
        have h5 : ¬ (s.n = L) := by rw [← hL]; exact h3
        have h6 : s.len.tmod 64 = L := by rw [Int.tmod_eq_emod_of_nonneg (by omega)]; exact hL
        clear h3 hlen
        go_enter Tryd.func66, Tryd.ntmps66
        go_upto_region 1 with fail
        refine wp_gen (fun W => Blk W w.heap.size 78 s.cells ∧ Below w.heap.size w W) ⟨by rw [← hA]; exact Blk.new _ _ _, (Below.refl _ _).alloc (Nat.le_refl _) _⟩ ?_
        rintro W ⟨b, hb⟩
        obtain ⟨q1, q2⟩ := key W b
        go_wp2
        go_ret
        exact ⟨rfl, hb⟩
end Go.Proofs.YtmldhnghfdhjmaaDoor
