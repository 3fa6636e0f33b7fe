/-
  CONTRACTS of the reference's FrameOf.
  CONDITIONS: each theorem's own hypotheses.
-/
import Derived.Test.YtcnemacakjemjaaDoorFrameR
import Derived.Test.YtcnemacakjemjaaDoorGBase
namespace Go.Proofs.YtcnemacakjemjaaDoor
open Go.RowKit CodeMath Go.Proofs.YtcnemacakjemjaaDoor.FrameMath
set_option linter.unusedVariables false

set_option maxRecDepth 100000 in
set_option maxHeartbeats 2000000 in
theorem FrameOf_badTag (t : Int) (ht : ¬ (1 ≤ t ∧ t ≤ 9)) (vp : Value) (w : World) (t0 : -9223372036854775808 ≤ t) (t1 : t ≤ 9223372036854775807) :
    Calls Tryd.prog 37 #[.int .i64 t, vp] w fun e w' => e = .returned (.tuple #[.slice none 0 0, .int .i64 6]) ∧ w = w' := by
  by_cases h1 : t < 1
  · go_enter Tryd.func37, Tryd.ntmps37
    go_wp2_with fail
    go_ret2
    exact ⟨rfl, by first | rfl | trivial⟩
  · have h9 : 9 < t := by omega
    go_enter Tryd.func37, Tryd.ntmps37
    go_wp2_with fail
    go_ret2
    exact ⟨rfl, by first | rfl | trivial⟩
set_option maxRecDepth 100000 in
set_option maxHeartbeats 2000000 in
theorem FrameOf_many (t : Int) (ht : 1 ≤ t ∧ t ≤ 9) (ap : Option Addr) (n capp : Nat) (hn : 8 < n) (hn1 : n ≤ 9223372036854775807) (w : World) :
    Calls Tryd.prog 37 #[.int .i64 t, .slice ap n capp] w fun e w' => e = .returned (.tuple #[.slice none 0 0, .int .i64 1]) ∧ w = w' := by
  have nI : (8 : Int) < n := by omega
  have h1 : ¬ t < 1 := by omega
  have h9 : ¬ 9 < t := by omega
  clear ht
  go_enter Tryd.func37, Tryd.ntmps37
  go_wp2_with fail
  go_ret2
  exact ⟨rfl, by first | rfl | trivial⟩
/-- The room that is left behind the first rows. -/
def roomAt (rows : List (List UInt8)) (n : Nat) (i : Nat) : Int := 16777214 - 4 * n - ((total (rows.take i) : Int) - 4 * i)
theorem roomAt_next (rows : List (List UInt8)) (n i : Nat) (l : List UInt8) (h : rows[i]? = some l) : roomAt rows n (i + 1) = roomAt rows n i - l.length := by
  unfold roomAt
  rw [take_next rows i l h, total_append]
  simp only [total]
  omega
theorem roomAt_zero (rows : List (List UInt8)) (n : Nat) : roomAt rows n 0 = 16777214 - 4 * n := by simp [roomAt, total]
theorem total_four : ∀ rows : List (List UInt8), 4 * rows.length ≤ total rows
  | [] => Nat.le_refl _
  | p :: ps => by have := total_four ps; simp only [total, List.length_cons]; omega
theorem roomAt_end (rows : List (List UInt8)) : roomAt rows rows.length rows.length = 16777214 - total rows := by
  unfold roomAt; rw [List.take_length]; omega
theorem roomAt_ok (rows : List (List UInt8)) (i : Nat) (hi : i ≤ rows.length) (hW : 2 + total rows ≤ 16777216) : 0 ≤ roomAt rows rows.length i := by
  unfold roomAt
  have h1 : total rows = total (rows.take i) + total (rows.drop i) := by rw [← total_append, List.take_append_drop]
  have h2 := total_four (rows.drop i)
  rw [List.length_drop] at h2
  omega
theorem roomAt_le (rows : List (List UInt8)) (n i : Nat) (hi : i ≤ rows.length) : roomAt rows n i ≤ 16777214 := by
  unfold roomAt
  have h2 := total_four (rows.take i)
  rw [List.length_take, Nat.min_eq_left hi] at h2
  omega
set_option maxRecDepth 100000 in
set_option maxHeartbeats 2000000 in
theorem FrameOf_big (t : Int) (ht : 1 ≤ t ∧ t ≤ 9) (rows : List (List UInt8)) (ap : Option Addr) (capp : Nat) (hn : rows.length ≤ 8) (hW : 16777216 < 2 + total rows) (w : World) (hl : Lines w ap rows) (hB : ∀ l ∈ rows, l.length ≤ 140737488351232) :
    Calls Tryd.prog 37 #[.int .i64 t, .slice ap rows.length capp] w fun e w' => e = .returned (.tuple #[.slice none 0 0, .int .i64 1]) ∧ w = w' := by
  obtain ⟨n, hnn⟩ : ∃ n, rows.length = n := ⟨_, rfl⟩
  have hend : roomAt rows n n < 0 := by rw [← hnn, roomAt_end]; omega
  have h00 := roomAt_zero rows n
  rw [hnn] at hn ⊢
  have nI : ¬ ((8 : Int) < n) := by omega
  have nI2 : (n : Int) ≤ 8 := by omega
  have h1 : ¬ t < 1 := by omega
  have h9 : ¬ 9 < t := by omega
  have HN := Lib.hid hnn
  have HE := Lib.hid hend
  have HZ := Lib.hid h00
  clear ht hnn hend h00 hW
  go_enter Tryd.func37, Tryd.ntmps37
  go_wp2_with fail
  go_loopw [6, 24] (fun s ix wr => ∃ (i : Nat) (R : Int), i ≤ n ∧ ix = .int .i64 i ∧ s = .int .i64 R ∧ Hid (R = roomAt rows n i) ∧ 0 ≤ R ∧ R ≤ 16777214 ∧ wr = w) (fun _ ix _ => n - (intOf ix).toNat)
  case atStart => exact ⟨0, _, Nat.zero_le _, rfl, rfl, Lib.hid (by rw [HZ.out]), by omega, by omega, rfl⟩
  case round =>
    obtain ⟨i, R, hi, rfl, rfl, hR, r0, r1, rfl⟩ := hrel
    by_cases hlt : i < n
    · have iI : (i : Int) < n := by omega
      obtain ⟨l, hl'⟩ : ∃ l, rows[i]? = some l := ⟨_, List.getElem?_eq_getElem (by rw [HN.out]; exact hlt)⟩
      rcases hl with h0 | ⟨a, o, rfl, h2, h3⟩
      · rw [h0] at hl'; simp at hl'
      · obtain ⟨al, cl, k1, k2, k3, k4, k5⟩ := h3 i l hl'
        have hx := roomAt_next rows n i l hl'
        rw [← hR.out] at hx
        have HX := Lib.hid hx
        have lB := hB l (List.mem_of_getElem? hl')
        have lI : (l.length : Int) ≤ 140737488351232 := by omega
        have HI := Lib.hid hlt
        by_cases hbig : R < (l.length : Int)
        · clear hx hl' h3 hlt
          go_wp2_with fail
          go_ret2
          exact ⟨rfl, by first | rfl | trivial⟩
        · clear hx hl' h3 hlt
          go_wp2_with fail
          go_roundw
          case rel => exact ⟨i + 1, _, HI.out, by go_num, rfl, Lib.hid (by rw [HX.out]), by omega, by omega, by first | rfl | trivial⟩
          case measure => have := HI.out; simp [intOf]; omega
    · exfalso
      have hie : i = n := by omega
      have h5 := hR.out
      rw [hie] at h5
      have h6 := HE.out
      omega
set_option maxRecDepth 100000 in
set_option maxHeartbeats 2000000 in
theorem FrameOf_good (t : Nat) (ht0 : 1 ≤ t) (ht : t ≤ 9) (rows : List (List UInt8)) (ap : Option Addr) (capp : Nat) (hn : rows.length ≤ 8) (hW : 2 + total rows ≤ 16777216) (w : World) (hl : Lines w ap rows) :
    Calls Tryd.prog 37 #[.int .i64 t, .slice ap rows.length capp] w fun e w' => ∃ g cap, e = .returned (.tuple #[.slice (some ⟨g, 0, none⟩) (frame t rows).length cap, .int .i64 0]) ∧ Bytes w' (some ⟨g, 0, none⟩) (frame t rows) ∧ (frame t rows).length ≤ cap ∧ cap ≤ 9223372036854775807 ∧ Below w.heap.size w w' := by
  have cP := fun W h => framed_any t t rfl (by omega) rows ap capp W h (by omega) hW
  have hB : ∀ l ∈ rows, l.length ≤ 16777216 := fun l h => by have := total_mem rows l h; omega
  have hfl : (frame t rows).length ≤ 16777216 := by rw [frame_length]; exact hW
  have hok := fun i hi => roomAt_ok rows i hi hW
  have hle := fun i hi => roomAt_le rows rows.length i hi
  have h00 := roomAt_zero rows rows.length
  generalize frame t rows = F at cP hfl ⊢
  have cv := fun W => bytesOf_max F W (by omega)
  obtain ⟨n, hnn⟩ : ∃ n, rows.length = n := ⟨_, rfl⟩
  rw [hnn] at hn hok hle h00 cP ⊢
  obtain ⟨SF, hSF⟩ : ∃ S, str F = S := ⟨_, rfl⟩
  rw [hSF] at cP cv
  have nI : ¬ ((8 : Int) < n) := by omega
  have nI2 : (n : Int) ≤ 8 := by omega
  have h1 : ¬ (t : Int) < 1 := by omega
  have h9 : ¬ 9 < (t : Int) := by omega
  have HN := Lib.hid hnn
  have HZ := Lib.hid h00
  have HOK := Lib.hid hok
  have HLE := Lib.hid hle
  clear ht ht0 hnn hok hle h00 hW hSF
  go_enter Tryd.func37, Tryd.ntmps37
  go_wp2_with fail
  go_loopw [6, 24] (fun s ix wr => ∃ (i : Nat) (R : Int), i ≤ n ∧ ix = .int .i64 i ∧ s = .int .i64 R ∧ Hid (R = roomAt rows n i) ∧ 0 ≤ R ∧ R ≤ 16777214 ∧ wr = w) (fun _ ix _ => n - (intOf ix).toNat)
  case atStart => exact ⟨0, _, Nat.zero_le _, rfl, rfl, Lib.hid (by rw [HZ.out]), by omega, by omega, rfl⟩
  case round =>
    obtain ⟨i, R, hi, rfl, rfl, hR, r0, r1, rfl⟩ := hrel
    by_cases hlt : i < n
    · have iI : (i : Int) < n := by omega
      obtain ⟨l, hl'⟩ : ∃ l, rows[i]? = some l := ⟨_, List.getElem?_eq_getElem (by rw [HN.out]; exact hlt)⟩
      rcases hl with h0 | ⟨a, o, rfl, h2, h3⟩
      · rw [h0] at hl'; simp at hl'
      · obtain ⟨al, cl, k1, k2, k3, k4, k5⟩ := h3 i l hl'
        have hx := roomAt_next rows n i l hl'
        have hx0 := HOK.out (i + 1) hlt
        rw [hx, ← hR.out] at hx0
        rw [← hR.out] at hx
        have HX := Lib.hid hx
        have lB := hB l (List.mem_of_getElem? hl')
        have lI : (l.length : Int) ≤ 16777216 := by omega
        have HI := Lib.hid hlt
        have hbig : ¬ R < (l.length : Int) := by omega
        clear hx hx0 hl' h3 hlt
        go_wp2_with fail
        go_roundw
        case rel => exact ⟨i + 1, _, HI.out, by go_num, rfl, Lib.hid (by rw [HX.out]), by omega, by omega, by first | rfl | trivial⟩
        case measure => have := HI.out; simp [intOf]; omega
    · have iI : ¬ ((i : Int) < n) := by omega
      clear hlt
      go_upto_region 13 with fail
      go_wp2_with (first
        | (go_at_call 41; refine (cP _ hl).mono ?_; rintro e w3 ⟨rfl, hb3⟩; clear cP; obtain ⟨cap, w4, hcv, hBy, hb4, hc1, hc2⟩ := cv w3)
        | fail)
      go_ret2
      exact ⟨_, _, rfl, hBy, hc1, hc2, hb3.trans (hb4.mono hb3.size)⟩
end Go.Proofs.YtcnemacakjemjaaDoor
