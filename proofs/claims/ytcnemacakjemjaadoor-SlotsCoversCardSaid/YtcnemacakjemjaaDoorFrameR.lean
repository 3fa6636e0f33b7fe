/-
  CONTRACTS of the reference's framed and FrameOf.
  CONDITIONS: each theorem's own hypotheses.
-/
import Derived.Test.YtcnemacakjemjaaDoorGBase
import Derived.Test.YtcnemacakjemjaaDoorGReg
import Derived.Deep.Cut
namespace Go.Proofs.YtcnemacakjemjaaDoor
open Go.RowKit CodeMath Go.Proofs.YtcnemacakjemjaaDoor.FrameMath
set_option linter.unusedVariables false

theorem two_string (W : World) (g : Nat) (hg : g = W.heap.size) (x y : Int) (a b : UInt8) (hx : x = a.toNat) (hy : y = b.toNat) : (convert 37 9 (.slice (some ⟨g, 0, none⟩) 2 2)).run Tryd.prog (W.alloc (.cells #[.int .u8 x, .int .u8 y] 5)) = .ok (.string (str [a, b])) (W.alloc (.cells #[.int .u8 x, .int .u8 y] 5)) := by
  subst hg hx hy
  refine bytes_string (cap := 2) (l := [a, b]) (.inr ⟨W.heap.size, 0, rfl, by simp, fun j x hx => ?_⟩)
  rw [Nat.zero_add, World.cell?_alloc_new]
  match j, hx with
  | 0, hx => simp at hx; subst hx; rfl
  | 1, hx => simp at hx; subst hx; rfl
set_option maxRecDepth 100000 in
set_option maxHeartbeats 2000000 in
theorem framed_any (t : Nat) (tI : Int) (htI : tI = t) (ht : t ≤ 255) (rows : List (List UInt8)) (ap : Option Addr) (capp : Nat) (w : World) (hl : Lines w ap rows) (hn : rows.length ≤ 255) (hW : 2 + total rows ≤ 16777216) :
    Calls Tryd.prog 41 #[.int .i64 tI, .slice ap rows.length capp] w fun e w' => e = .returned (.string (str (frame t rows))) ∧ Below w.heap.size w w' := by
  subst htI
  have hB : ∀ l ∈ rows, l.length ≤ 16777216 := fun l h => by have := total_mem rows l h; omega
  obtain ⟨n, hnn⟩ : ∃ n, rows.length = n := ⟨_, rfl⟩
  have hfr : frame t rows = [lowB t, lowB n] ++ pieces rows := by unfold frame; rw [hnn]; rfl
  obtain ⟨ANS, hA⟩ : ∃ S, str (frame t rows) = S := ⟨_, rfl⟩
  rw [hA, hnn]
  rw [hfr] at hA
  rw [hnn] at hn
  have c2 := fun W g hg => two_string W g hg (t : Int) (n : Int) (lowB t) (lowB n) (by rw [lowB_nat t (by omega)]) (by rw [lowB_nat n (by omega)])
  obtain ⟨S0, hS0⟩ : ∃ S, str [lowB t, lowB n] = S := ⟨_, rfl⟩
  rw [hS0] at c2
  have HS0 := Lib.hid hS0
  have HA := Lib.hid hA
  have HN := Lib.hid hnn
  have tI0 : (t : Int) ≤ 255 := by omega
  have nI0 : (n : Int) ≤ 255 := by omega
  clear hnn hfr hA hS0
  go_enter Tryd.func41, Tryd.ntmps41
  go_upto_region 3 with fail
  have m0 : Below w.heap.size w (w.alloc (.cells #[.int .u8 (t : Int), .int .u8 (n : Int)] 5)) := (Below.refl _ _).alloc (Nat.le_refl _) _
  go_loopw [5, 17] (fun s ix wr => ∃ i : Nat, i ≤ n ∧ ix = .int .i64 i ∧ s = .string (str ([lowB t, lowB n] ++ pieces (rows.take i))) ∧ Below w.heap.size w wr) (fun _ ix _ => n - (intOf ix).toNat)
  case atStart => exact ⟨0, Nat.zero_le _, rfl, by rw [List.take_zero, show [lowB (t : Int), lowB (n : Int)] ++ pieces [] = [lowB (t : Int), lowB (n : Int)] from List.append_nil _, HS0.out], m0⟩
  case round =>
    obtain ⟨i, hi, rfl, rfl, hbr⟩ := hrel
    clear m0
    by_cases hlt : i < n
    · have iI : (i : Int) < n := by omega
      obtain ⟨l, hl'⟩ : ∃ l, rows[i]? = some l := ⟨_, List.getElem?_eq_getElem (by rw [HN.out]; exact hlt)⟩
      rcases hl with h0 | ⟨a, o, rfl, h2, h3⟩
      · rw [h0] at hl'; simp at hl'
      · obtain ⟨al, cl, k1', k2, k3, k4, k5⟩ := h3 i l hl'
        have k1 : wr.cell? ⟨a, o + i, none⟩ = some (.slice al l.length cl) := (hbr.cell (p := ⟨a, o + i, none⟩) h2).trans k1'
        clear k1'
        have hnx := pieces_next rows i l hl' [lowB t, lowB n]
        have hlb := hB l (List.mem_of_getElem? hl')
        have hpl : ([lowB t, lowB n] ++ pieces (rows.take i)).length ≤ 16777218 := by
          rw [List.length_append, pieces_length]; have := total_take rows i; simp; omega
        obtain ⟨X, hX⟩ : ∃ X, [lowB (t : Int), lowB (n : Int)] ++ pieces (rows.take i) = X := ⟨_, rfl⟩
        rw [hX] at hnx hpl ⊢
        have cB := fun W => big_k (l.length : Int) 4 4 rfl W (by omega) (by omega) (by decide)
        have cvs : ∀ W, Below wr.heap.size wr W → (convert 37 9 (.slice al l.length cl)).run Tryd.prog W = .ok (.string (str l)) W := fun W hW => bytes_string ((k5.keep hbr).keep hW)
        have a1 : str (be (l.length : Int) 4) ++ str l = str (be (l.length : Int) 4 ++ l) := str_append _ _
        have a2 : str X ++ str (be (l.length : Int) 4 ++ l) = str ([lowB (t : Int), lowB (n : Int)] ++ pieces (rows.take (i + 1))) := by rw [str_append, hnx, List.append_assoc]
        have z1 : ¬ 9223372036854775807 < (str (be (l.length : Int) 4)).size + (str l).size := by rw [str_size, str_size, be_length]; omega
        have z2 : ¬ 9223372036854775807 < (str X).size + (str (be (l.length : Int) 4 ++ l)).size := by rw [str_size, str_size, List.length_append, be_length]; omega
        obtain ⟨SB, hSB⟩ : ∃ S, str (be (l.length : Int) 4) = S := ⟨_, rfl⟩
        obtain ⟨SL, hSL⟩ : ∃ S, str l = S := ⟨_, rfl⟩
        obtain ⟨SX, hSX⟩ : ∃ S, str X = S := ⟨_, rfl⟩
        obtain ⟨SM, hSM⟩ : ∃ S, str (be (l.length : Int) 4 ++ l) = S := ⟨_, rfl⟩
        obtain ⟨SN, hSN⟩ : ∃ S, str ([lowB (t : Int), lowB (n : Int)] ++ pieces (rows.take (i + 1))) = S := ⟨_, rfl⟩
        rw [hSB] at cB a1 z1
        rw [hSL] at cvs a1 z1
        rw [hSX] at a2 z2 ⊢
        rw [hSM] at a1 a2 z2
        rw [hSN] at a2
        have lI : (l.length : Int) ≤ 16777216 := by omega
        have wl : IntKind.u64.wrap (l.length : Int) = (l.length : Int) := by
          have h0 : (0 : Int) ≤ l.length := by omega
          simp [IntKind.wrap, IntKind.bits, IntKind.signed]
          omega
        have HSN := Lib.hid hSN
        have HI := Lib.hid hlt
        have HCV := Lib.hid cvs
        clear hX hnx h3 hl' hlt hSB hSL hSX hSM hSN cvs hpl hlb
        go_upto_region 5 with fail
        refine wp_region_det 9 (by kernel_rfl) (by kernel_rfl) (by kernel_rfl) ?_
        simp only [List.take_succ_cons, List.take_zero, List.drop_succ_cons, List.drop_zero]
        repeat (first
          | (apply wpDet_plain _ rfl; (focus (intro W hW; have q1 := HCV.out W hW; go_simp; exact ⟨rfl, Below.refl _ _⟩)); simp only [Act.put, List.setIfInBounds_toArray, List.set_cons_zero, List.set_cons_succ])
          | (apply wpDet_plain _ rfl; (focus (intro W hW; go_simp; with_reducible refine (cB W).mono ?_; rintro e w' ⟨rfl, hb⟩; exact ⟨rfl, hb⟩)); simp only [Act.put, List.setIfInBounds_toArray, List.set_cons_zero, List.set_cons_succ]))
        refine wpDet_nil ?_
        intro W9 hW9
        have m9 := hbr.trans (hW9.mono hbr.size)
        clear hW9 HCV
        go_wp2_with fail
        go_roundw
        case rel => exact ⟨i + 1, HI.out, by go_num, by rw [HSN.out], m9⟩
        case measure => have := HI.out; simp [intOf]; omega
    · have iI : ¬ ((i : Int) < n) := by omega
      have hie : i = n := by omega
      rw [hie, ← HN.out, List.take_length, HN.out, HA.out]
      clear hie hlt
      go_wp2_with fail
      go_ret
      exact ⟨rfl, hbr⟩
end Go.Proofs.YtcnemacakjemjaaDoor
