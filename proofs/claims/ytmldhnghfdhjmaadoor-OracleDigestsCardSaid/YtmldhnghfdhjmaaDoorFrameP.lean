/-
  CONTRACT of package oracle's frame.
  CONDITIONS: each theorem's own hypotheses.
-/
import Derived.Test.YtmldhnghfdhjmaaDoorLines
import Derived.Laws.MakeOwn
namespace Go.Proofs.YtmldhnghfdhjmaaDoor
open Go.RowKit CodeMath Go.Proofs.YtmldhnghfdhjmaaDoor.FrameMath
set_option linter.unusedVariables false

theorem take_next (rows : List (List UInt8)) (i : Nat) (l : List UInt8) (h : rows[i]? = some l) : rows.take (i + 1) = rows.take i ++ [l] := by
  have hi := (List.getElem?_eq_some_iff.1 h).1
  rw [List.take_succ_eq_append_getElem hi, (List.getElem?_eq_some_iff.1 h).2]
theorem weigh_total (rows : List (List UInt8)) : ∀ i, i ≤ rows.length → weigh rows i = 2 + total (rows.take i)
  | 0, _ => by simp [weigh, total]
  | i + 1, h => by
    obtain ⟨l, hl⟩ : ∃ l, rows[i]? = some l := ⟨_, List.getElem?_eq_getElem (by omega)⟩
    rw [take_next rows i l hl, total_append]
    simp only [weigh, total]
    rw [weigh_total rows i (by omega), List.getD_eq_getElem?_getD, hl]
    simp only [Option.getD_some]
    omega
theorem pieces_next (rows : List (List UInt8)) (i : Nat) (l : List UInt8) (h : rows[i]? = some l) (x : List UInt8) : x ++ pieces (rows.take (i + 1)) = (x ++ pieces (rows.take i) ++ be l.length 4) ++ l := by
  rw [take_next rows i l h, pieces_append]
  simp [pieces, piece]
theorem be_one (n : Nat) : be (n : Int) 1 = [lowB n] := by simp [be]
set_option maxRecDepth 100000 in
set_option maxHeartbeats 2000000 in
theorem frameP_any (t : Nat) (tI : Int) (htI : tI = t) (ht : t ≤ 255) (rows : List (List UInt8)) (ap : Option Addr) (capp : Nat) (w : World) (hl : Lines w ap rows) (hn : rows.length ≤ 255) (hW : 2 + total rows ≤ 16777216) :
    Calls Tryd.prog 32 #[.int .i64 tI, .slice ap rows.length capp] w fun e w' => ∃ v', e = .returned v' ∧ OwnB w' w.heap.size v' (frame t rows) ∧ Below w.heap.size w w' := by
  subst htI
  have hB : ∀ l ∈ rows, l.length ≤ 16777216 := fun l h => by have := total_mem rows l h; omega
  have cF := fun W h1 => frameBytes_any rows ap capp W h1 (by omega) (fun l h => by have := hB l h; omega)
  obtain ⟨n, hnn⟩ : ∃ n, rows.length = n := ⟨_, rfl⟩
  obtain ⟨R, hR⟩ : ∃ R : Nat, weigh rows rows.length = R := ⟨_, rfl⟩
  have hRb : R ≤ 16777216 := by rw [← hR, weigh_total rows _ (Nat.le_refl _), List.take_length]; exact hW
  rw [hR, hnn] at cF
  have hfr : frame t rows = (lowB t :: lowB n :: []) ++ pieces rows := by unfold frame; rw [hnn]; rfl
  rw [hfr, hnn]
  rw [hnn] at hn
  have HN := Lib.hid hnn
  clear hR hnn hfr
  obtain ⟨i0, hi, hz0, hz1, hz2⟩ := info_parts infoB
  obtain ⟨w1, hmk, hown, hg1⟩ := run_make_own (P := Tryd.prog) w w.heap.size 23 5 i0 (.int .u8 0) 1 Tryd.underlying23 hi hz0 hz1 .i64 .i64 R (by rw [hz2]; omega) (by unfold maxLen; omega) (Nat.le_refl _)
  have ho1 : OwnB w1 w.heap.size (.slice (some ⟨w.heap.size, 0, none⟩) 0 R) [] := hown
  have hb1 : Below w.heap.size w w1 := (Below.refl _ _).grown hg1 (Nat.le_refl _) (fun k h => by cases h)
  have hs1 : w.heap.size ≤ w1.heap.size := hb1.size
  have c2 := numAppend_any (t : Int) (by omega) (by omega) 1 1 rfl (by decide) w.heap.size _ [] w1 ho1 hs1 (by decide)
  have c3 := fun v W h1 h2 => numAppend_any (n : Int) (by omega) (by omega) 1 1 rfl (by decide) w.heap.size v [lowB t] W h1 h2 (by simp)
  rw [be_one, List.nil_append] at c2
  rw [be_one] at c3
  have tI0 : (t : Int) ≤ 255 := by omega
  have nI0 : (n : Int) ≤ 255 := by omega
  clear hi hz0 hz1 hz2 hown ho1
  go_enter Tryd.func32, Tryd.ntmps32
  go_wp2_with (first
    | (go_at_call 47; refine (cF _ hl).mono ?_; rintro e w0 ⟨rfl, rfl⟩; clear cF)
    | (go_at_call 52; (first | (with_reducible refine c2.mono ?_; clear c2; rintro e w2 ⟨v2, rfl, ho2, hb2⟩; have hb2' := hb2; have hs2 : w.heap.size ≤ w2.heap.size := Nat.le_trans hs1 hb2.size) | (with_reducible refine (c3 _ _ ho2 hs2).mono ?_; clear c3; rintro e w3 ⟨v3, rfl, ho3, hb3⟩)))
    | fail)
  clear hs1 hs2 ho2 hb2 hmk hg1
  have hb13 : Below w.heap.size w w3 := hb1.trans (hb2'.trans hb3)
  have HO := Lib.hid ho3
  clear ho3 hb1 hb2' hb3
  go_loopw [5, 22] (fun s ix wr => ∃ i : Nat, i ≤ n ∧ ix = .int .i64 i ∧ Hid (OwnB wr w.heap.size s ((lowB t :: lowB n :: []) ++ pieces (rows.take i))) ∧ Below w.heap.size w wr) (fun _ ix _ => n - (intOf ix).toNat)
  case atStart => exact ⟨0, Nat.zero_le _, rfl, by rw [List.take_zero]; exact HO, hb13⟩
  case round =>
    obtain ⟨i, hi, rfl, ho, hbr⟩ := hrel
    clear HO hb13
    by_cases hlt : i < n
    · have iI : (i : Int) < n := by omega
      obtain ⟨l, hl'⟩ : ∃ l, rows[i]? = some l := ⟨_, List.getElem?_eq_getElem (by rw [HN.out]; exact hlt)⟩
      rcases hl with h0 | ⟨a, o, rfl, h2, h3⟩
      · rw [h0] at hl'; simp at hl'
      · obtain ⟨al, cl, k1', k2, k3, k4, k5⟩ := h3 i l hl'
        have k1 : wr.cell? ⟨a, o + i, none⟩ = some (.slice al l.length cl) := (hbr.cell (p := ⟨a, o + i, none⟩) h2).trans k1'
        clear k1'
        have hnx := pieces_next rows i l hl' [lowB t, lowB n]
        have hlb := hB l (List.mem_of_getElem? hl')
        have hpl : ([lowB t, lowB n] ++ pieces (rows.take i)).length ≤ 16777218 := by
          rw [List.length_append, pieces_length]; have := total_take rows i; simp; omega
        obtain ⟨X, hX⟩ : ∃ X, [lowB t, lowB n] ++ pieces (rows.take i) = X := ⟨_, rfl⟩
        rw [hX] at hnx hpl ho
        have hge : w.heap.size ≤ wr.heap.size := hbr.size
        have c4 := numAppend_any (l.length : Int) (by omega) (by omega) 4 4 rfl (by decide) w.heap.size _ X wr ho.out hge (by omega)
        have lI : (l.length : Int) ≤ 16777216 := by omega
        have HX := Lib.hid hnx
        have HI := Lib.hid hlt
        have hl4 : (X ++ be (l.length : Int) 4).length + l.length ≤ 140737488351232 := by rw [List.length_append, be_length]; omega
        clear hX hnx h3 hl' hlt ho
        go_wp2_with (first
          | (go_at_call 52; refine c4.mono ?_; clear c4; rintro e w4 ⟨v4, rfl, ho4, hb4⟩; have k6 := k5.keep (hbr.trans hb4))
          | (at_builtin; refine wpList_append_came rfl _ _ rfl w.heap.size _ _ rfl ho4 l al cl rfl k6 k4 hl4 (Nat.le_trans hge hb4.size) ?_; intro v5 w5 ho5 hb5))
        go_roundw
        case rel => exact ⟨i + 1, HI.out, by go_num, by rw [HX.out]; exact Lib.hid ho5, hbr.trans (hb4.trans hb5)⟩
        case measure => have := HI.out; simp [intOf]; omega
    · have iI : ¬ ((i : Int) < n) := by omega
      have hie : i = n := by omega
      rw [hie, ← HN.out, List.take_length, HN.out] at ho
      have ho' := ho.out
      clear hie hlt ho
      go_wp2_with fail
      go_ret
      exact ⟨_, rfl, ho', hbr⟩
end Go.Proofs.YtmldhnghfdhjmaaDoor
