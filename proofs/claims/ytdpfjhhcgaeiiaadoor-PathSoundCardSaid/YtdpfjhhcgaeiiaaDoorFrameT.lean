/-
  CONTRACT of the reference's FrameOf, with the block of what is new.
  CONDITIONS: each theorem's own hypotheses.
-/
import Derived.Test.YtdpfjhhcgaeiiaaDoorFrameS
import Derived.Test.YtdpfjhhcgaeiiaaDoorByMaxT
namespace Go.Proofs.YtdpfjhhcgaeiiaaDoor
open Go.RowKit CodeMath Go.Proofs.YtdpfjhhcgaeiiaaDoor.FrameMath
set_option linter.unusedVariables false
set_option maxRecDepth 100000

set_option maxRecDepth 100000 in
set_option maxHeartbeats 2000000 in
theorem FrameOf_goodT (t : Nat) (ht0 : 1 ≤ t) (ht : t ≤ 9) (rows : List (List UInt8)) (ap : Option Addr) (capp : Nat) (hn : rows.length ≤ 8) (hW : 2 + total rows ≤ 16777216) (w : World) (hl : Lines w ap rows) :
    Calls Tryd.prog 100 #[.int .i64 t, .slice ap rows.length capp] w fun e w' => ∃ v, e = .returned (.tuple #[v, .int .i64 0]) ∧ RowT w' v (frame t rows) ∧ Below w.heap.size w w' := by
  have cP := fun W h => framed_any t t rfl (by omega) rows ap capp W h (by omega) hW
  have hB : ∀ l ∈ rows, l.length ≤ 16777216 := fun l h => by have := total_mem rows l h; omega
  have hfl : (frame t rows).length ≤ 16777216 := by rw [frame_length]; exact hW
  have hok := fun i hi => roomAt_ok rows i hi hW
  have hle := fun i hi => roomAt_le rows rows.length i hi
  have h00 := roomAt_zero rows rows.length
  generalize frame t rows = F at cP hfl ⊢
  have cv := fun W => bytesOf_T F W (by omega)
  obtain ⟨n, hnn⟩ : ∃ n, rows.length = n := ⟨_, rfl⟩
  rw [hnn] at hn hok hle h00 cP ⊢
  obtain ⟨SF, hSF⟩ : ∃ S, str F = S := ⟨_, rfl⟩
  rw [hSF] at cP cv
  have nI : ¬ ((8 : Int) < n) := by omega
  have nI2 : (n : Int) ≤ 8 := by omega
  have h1 : ¬ (t : Int) < 1 := by omega
  have h9 : ¬ 9 < (t : Int) := by omega
  have HN := Lib.hid hnn
  have HZ := Lib.hid h00
  have HOK := Lib.hid hok
  have HLE := Lib.hid hle
  clear ht ht0 hnn hok hle h00 hW hSF
  go_enter Tryd.func100, Tryd.ntmps100
  go_wp2_with fail
  go_loopw [6, 24] (fun s ix wr => ∃ (i : Nat) (R : Int), i ≤ n ∧ ix = .int .i64 i ∧ s = .int .i64 R ∧ Hid (R = roomAt rows n i) ∧ 0 ≤ R ∧ R ≤ 16777214 ∧ wr = w) (fun _ ix _ => n - (intOf ix).toNat)
  case atStart => exact ⟨0, _, Nat.zero_le _, rfl, rfl, Lib.hid (by rw [HZ.out]), by omega, by omega, rfl⟩
  case round =>
    obtain ⟨i, R, hi, rfl, rfl, hR, r0, r1, rfl⟩ := hrel
    by_cases hlt : i < n
    · have iI : (i : Int) < n := by omega
      obtain ⟨l, hl'⟩ : ∃ l, rows[i]? = some l := ⟨_, List.getElem?_eq_getElem (by rw [HN.out]; exact hlt)⟩
      rcases hl with h0 | ⟨a, o, rfl, h2, h3⟩
      · rw [h0] at hl'; simp at hl'
      · obtain ⟨al, cl, k1, k2, k3, k4, k5⟩ := h3 i l hl'
        have hx := roomAt_next rows n i l hl'
        have hx0 := HOK.out (i + 1) hlt
        rw [hx, ← hR.out] at hx0
        rw [← hR.out] at hx
        have HX := Lib.hid hx
        have lB := hB l (List.mem_of_getElem? hl')
        have lI : (l.length : Int) ≤ 16777216 := by omega
        have HI := Lib.hid hlt
        have hbig : ¬ R < (l.length : Int) := by omega
        clear hx hx0 hl' h3 hlt
        go_wp2_with fail
        go_roundw
        case rel => exact ⟨i + 1, _, HI.out, by go_num, rfl, Lib.hid (by rw [HX.out]), by omega, by omega, by first | rfl | trivial⟩
        case measure => have := HI.out; simp [intOf]; omega
    · have iI : ¬ ((i : Int) < n) := by omega
      clear hlt
      go_upto_region 13 with fail
      go_wp2_with (first
        | (go_at_call 109; refine (cP _ hl).mono ?_; rintro e w3 ⟨rfl, hb3⟩; clear cP; obtain ⟨g, cap, w4, hcv, hBy, hb4⟩ := cv w3)
        | fail)
      go_ret2
      exact ⟨_, rfl, hBy, hb3.trans (hb4.mono hb3.size)⟩
end Go.Proofs.YtdpfjhhcgaeiiaaDoor
