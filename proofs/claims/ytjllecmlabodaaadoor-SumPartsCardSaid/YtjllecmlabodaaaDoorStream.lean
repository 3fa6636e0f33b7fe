/-
  STREAMS as cells, and the contract of package sum's isStream.
  CONDITIONS: each theorem's own hypotheses.
-/
import Derived.Test.YtjllecmlabodaaaDoorBytesOf
namespace Go.Proofs.YtjllecmlabodaaaDoor
open Go.RowKit CodeMath
set_option linter.unusedVariables false

/-- A stream. -/
structure Stm where
  h : ShaMath.St
  held : List UInt8
  n : Int
  len : Int
structure Stm.Fit (s : Stm) : Prop where
  h : Ok8 s.h
  held : s.held.length = 64
  n0 : -9223372036854775808 ≤ s.n
  n1 : s.n ≤ 9223372036854775807
  l0 : -9223372036854775808 ≤ s.len
  l1 : s.len ≤ 9223372036854775807
def Stm.cells (s : Stm) : List Value := u32s (lst s.h) ++ (u8s s.held ++ [.int .i64 s.n, .int .i64 s.len])
theorem Stm.cells_length (s : Stm) (hf : s.held.length = 64) : s.cells.length = 74 := by
  unfold Stm.cells
  rw [List.length_append, List.length_append, u32s_length, lst_length, u8s_length, hf]
  rfl
theorem Stm.get_held (s : Stm) (j : Nat) (c : UInt8) (h : s.held[j]? = some c) : s.cells[8 + j]? = some (.int .u8 c.toNat) := by
  unfold Stm.cells
  have hj := (List.getElem?_eq_some_iff.1 h).1
  rw [List.getElem?_append_right (by rw [u32s_length, lst_length]; omega), u32s_length, lst_length, Nat.add_sub_cancel_left, List.getElem?_append_left (by rw [u8s_length]; exact hj)]
  exact u8s_get h
theorem Stm.get_n (s : Stm) (hf : s.held.length = 64) : s.cells[72]? = some (.int .i64 s.n) := by
  unfold Stm.cells
  rw [List.getElem?_append_right (by rw [u32s_length, lst_length]; omega), u32s_length, lst_length, List.getElem?_append_right (by rw [u8s_length]; omega), u8s_length, hf]
  rfl
theorem Stm.get_len (s : Stm) (hf : s.held.length = 64) : s.cells[73]? = some (.int .i64 s.len) := by
  unfold Stm.cells
  rw [List.getElem?_append_right (by rw [u32s_length, lst_length]; omega), u32s_length, lst_length, List.getElem?_append_right (by rw [u8s_length]; omega), u8s_length, hf]
  rfl
/-- Whether a stream may be, but for its words. -/
def Stm.good (s : Stm) : Bool := decide (0 ≤ s.len) && decide (s.len ≤ 1152921504606846976) && decide (s.n = s.len % 64) && (s.held.drop s.n.toNat).all (· == 0)
theorem Stm.bad_len (s : Stm) (h : ¬ (0 ≤ s.len ∧ s.len ≤ 1152921504606846976 ∧ s.n = s.len % 64)) : s.good = false := by
  unfold Stm.good
  have e : (decide (0 ≤ s.len) && decide (s.len ≤ 1152921504606846976) && decide (s.n = s.len % 64)) = false := by
    rw [Bool.eq_false_iff]
    intro e
    simp only [Bool.and_eq_true, decide_eq_true_eq] at e
    exact h ⟨e.1.1, e.1.2, e.2⟩
  rw [e]; rfl
theorem Stm.good_len (s : Stm) (h : 0 ≤ s.len ∧ s.len ≤ 1152921504606846976 ∧ s.n = s.len % 64) : s.good = (s.held.drop s.n.toNat).all (· == 0) := by
  unfold Stm.good
  have e : (decide (0 ≤ s.len) && decide (s.len ≤ 1152921504606846976) && decide (s.n = s.len % 64)) = true := by
    simp only [Bool.and_eq_true, decide_eq_true_eq]
    exact ⟨⟨h.1, h.2.1⟩, h.2.2⟩
  rw [e, Bool.true_and]
theorem all_take (l : List UInt8) (i : Nat) (c : UInt8) (h : l[i]? = some c) : (l.take (i + 1)).all (· == 0) = ((l.take i).all (· == 0) && (c == 0)) := by
  have hi := (List.getElem?_eq_some_iff.1 h).1
  have hc := (List.getElem?_eq_some_iff.1 h).2
  rw [List.take_succ_eq_append_getElem hi, hc, List.all_append]
  simp
theorem all_here (l : List UInt8) (i : Nat) (c : UInt8) (h : l[i]? = some c) (hc : (c == 0) = false) : l.all (· == 0) = false := by
  rw [List.all_eq_false]
  exact ⟨c, List.mem_of_getElem? h, by simp [hc]⟩

/-- x[k:], x an array of 64 bytes in a block. -/
theorem slice_from (b o k : Nat) (hk : k < 64) (W : World) : (Instr.sliceAt 24 (.pointer (some ⟨b, o, none⟩)) (some (.int .i64 (k : Int))) none none).run Tryd.prog W = .ok (.slice (some ⟨b, o + k, none⟩) (64 - k) (64 - k)) W := by
  have h := run_sliceAt_array_l (P := Tryd.prog) W 24 ⟨b, o, none⟩ (by kernel_rfl) .i64 (k : Int) (by omega) (by show (k : Int) ≤ ((64 : Nat) : Int); omega)
  rw [h]
  have hs : (sizeOf (Tryd.prog.elem 24)).run Tryd.prog W = .ok 1 W := by kernel_rfl
  have hl : Tryd.prog.arrayLen 24 = 64 := by kernel_rfl
  rw [hs, hl]
  have hne : ¬ (64 = k) := by omega
  simp [Result.andThen, slicedAt, hne, Addr.add]
set_option maxRecDepth 100000 in
set_option maxHeartbeats 2000000 in
theorem isStream_any (s : Stm) (f : s.Fit) (w : World) :
    Calls Tryd.prog 34 #[.agg s.cells.toArray] w fun e w' => e = .returned (.bool s.good) ∧ Below w.heap.size w w' := by
  obtain ⟨A, hA⟩ : ∃ A, s.cells.toArray = A := ⟨_, rfl⟩
  rw [hA]
  have n0 := f.n0
  have n1 := f.n1
  have l0 := f.l0
  have l1 := f.l1
  have key : ∀ W, Blk W w.heap.size 26 s.cells → W.cell? ⟨w.heap.size, 72, none⟩ = some (.int .i64 s.n) ∧ W.cell? ⟨w.heap.size, 73, none⟩ = some (.int .i64 s.len) := fun W b => ⟨b.cell (s.get_n f.held), b.cell (s.get_len f.held)⟩
  by_cases hlen : 0 ≤ s.len ∧ s.len ≤ 1152921504606846976 ∧ s.n = s.len % 64
  · rw [s.good_len hlen]
    obtain ⟨g1, g2, g3⟩ := hlen
    obtain ⟨k, hk⟩ : ∃ k : Nat, s.n = (k : Int) := ⟨s.n.toNat, by omega⟩
    have hk64 : k < 64 := by omega
    have kI : (k : Int) < 64 := by omega
    have hkt : s.n.toNat = k := by omega
    rw [hkt]
    rw [hk] at key
    have g4 : (k : Int) = s.len % 64 := by omega
    have hb64 := f.held
    obtain ⟨ANS, hANS⟩ : ∃ ANS, (s.held.drop k).all (· == 0) = ANS := ⟨_, rfl⟩
    rw [hANS]
    generalize s.len = L at g1 g2 g4 key
    have G4 := Lib.hid g4
    have g5 : ¬ (L < 0) := by omega
    have g6 : ¬ (1152921504606846976 < L) := by omega
    have g7 : L % 64 = (k : Int) := g4.symm
    clear n0 n1 l0 l1 hkt hk g3 g4
    go_enter Tryd.func34, Tryd.ntmps34
    go_upto_region 1 with fail
    refine wp_gen (fun W => Blk W w.heap.size 26 s.cells ∧ Below w.heap.size w W) ⟨by rw [← hA]; exact Blk.new _ _ _, (Below.refl _ _).alloc (Nat.le_refl _) _⟩ ?_
    rintro W ⟨b, hb⟩
    obtain ⟨q1, q2⟩ := key W b
    have hsl := slice_from w.heap.size 8 k hk64
    have lI : (((64 - k : Nat) : Nat) : Int) = 64 - (k : Int) := by omega
    obtain ⟨n, hn⟩ : ∃ n, 64 - k = n := ⟨_, rfl⟩
    rw [hn] at hsl
    have hn64 : n ≤ 64 := by omega
    have hl2 : (s.held.drop k).length = n := by rw [List.length_drop]; omega
    have HN := Lib.hid hn
    clear lI hn
    go_wp2
    go_loopw [26] (fun ix wr => ∃ i : Nat, i ≤ n ∧ ix = .int .i64 i ∧ Hid (((s.held.drop k).take i).all (· == 0) = true) ∧ wr = W) (fun ix _ => n - (intOf ix).toNat)
    case atStart => exact ⟨0, Nat.zero_le _, rfl, Lib.hid (by simp), rfl⟩
    case round =>
      obtain ⟨i, hi, rfl, hal, rfl⟩ := hrel
      by_cases h1 : i < n
      · have iI : (i : Int) < n := by omega
        obtain ⟨c, hc⟩ : ∃ c, (s.held.drop k)[i]? = some c := ⟨_, List.getElem?_eq_getElem (by omega)⟩
        have hc2 : s.held[k + i]? = some c := by rw [List.getElem?_drop] at hc; exact hc
        have hcell := b.cell (s.get_held (k + i) c hc2)
        rw [show 8 + (k + i) = 8 + k + i by omega] at hcell
        by_cases hz : c = 0
        · have ht : ((c.toNat : Int) == 0) = true := by rw [hz]; rfl
          have hal2 : Hid (((s.held.drop k).take (i + 1)).all (· == 0) = true) := Lib.hid (by rw [all_take _ _ _ hc, hal.out, hz]; rfl)
          clear hc hc2 hal hz
          go_wp2
          go_roundw
          case rel => exact ⟨i + 1, by omega, by go_num, hal2, trivial⟩
          case measure => simp [intOf]; omega
        · have ht : ((c.toNat : Int) == 0) = false := by
            simp only [beq_eq_false_iff_ne]
            intro e
            exact hz (UInt8.toNat_inj.1 (show c.toNat = (0 : UInt8).toNat from by simpa using e))
          have hfalse : ANS = false := by rw [← hANS]; exact all_here _ _ _ hc (by simpa using hz)
          have HF := Lib.hid hfalse
          clear hc hc2 hal hz hfalse
          go_wp2
          go_ret
          exact ⟨by rw [HF.out]; rfl, hb⟩
      · have hin : i = n := by omega
        have iI : ¬ ((i : Int) < n) := by omega
        have htrue : ANS = true := by
          have := hal.out
          rw [List.take_of_length_le (by omega)] at this
          rw [← hANS]; exact this
        have HT := Lib.hid htrue
        clear htrue hin h1 hal
        go_wp2
        go_ret
        exact ⟨by rw [HT.out]; rfl, hb⟩
  · rw [s.bad_len hlen]
    by_cases h1 : s.len < 0
    · go_enter Tryd.func34, Tryd.ntmps34
      go_upto_region 1 with fail
      refine wp_gen (fun W => Blk W w.heap.size 26 s.cells ∧ Below w.heap.size w W) ⟨by rw [← hA]; exact Blk.new _ _ _, (Below.refl _ _).alloc (Nat.le_refl _) _⟩ ?_
      rintro W ⟨b, hb⟩
      obtain ⟨q1, q2⟩ := key W b
      go_wp2
      go_ret
      exact ⟨rfl, hb⟩
    · by_cases h2 : 1152921504606846976 < s.len
      · go_enter Tryd.func34, Tryd.ntmps34
        go_upto_region 1 with fail
        refine wp_gen (fun W => Blk W w.heap.size 26 s.cells ∧ Below w.heap.size w W) ⟨by rw [← hA]; exact Blk.new _ _ _, (Below.refl _ _).alloc (Nat.le_refl _) _⟩ ?_
        rintro W ⟨b, hb⟩
        obtain ⟨q1, q2⟩ := key W b
        go_wp2
        go_ret
        exact ⟨rfl, hb⟩
      · have h3 : ¬ s.n = s.len % 64 := by omega
        obtain ⟨L, hL⟩ : ∃ L, s.len % 64 = L := ⟨_, rfl⟩
        have h4 : (s.n == L) = false := by rw [← hL]; simpa using h3
        have h5 : ¬ (s.n = L) := by rw [← hL]; exact h3
        have h6 : s.len.tmod 64 = L := by rw [Int.tmod_eq_emod_of_nonneg (by omega)]; exact hL
        clear h3 hlen
        go_enter Tryd.func34, Tryd.ntmps34
        go_upto_region 1 with fail
        refine wp_gen (fun W => Blk W w.heap.size 26 s.cells ∧ Below w.heap.size w W) ⟨by rw [← hA]; exact Blk.new _ _ _, (Below.refl _ _).alloc (Nat.le_refl _) _⟩ ?_
        rintro W ⟨b, hb⟩
        obtain ⟨q1, q2⟩ := key W b
        go_wp2
        go_ret
        exact ⟨rfl, hb⟩
end Go.Proofs.YtjllecmlabodaaaDoor
