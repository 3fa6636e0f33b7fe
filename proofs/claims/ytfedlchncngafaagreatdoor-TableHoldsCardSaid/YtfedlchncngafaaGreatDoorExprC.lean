/-
  CONTRACTS of package expr's Check.
  CONDITIONS: each theorem's own hypotheses; the tables 'Tabs', 'SW' and the forms 'FW' hold what their initialisers lay.
-/
import Derived.Test.YtfedlchncngafaaGreatDoorExprO
import Derived.Test.YtfedlchncngafaaGreatDoorGLexC
import Derived.Test.YtfedlchncngafaaGreatDoorBlk
namespace Go.Proofs.YtfedlchncngafaaGreatDoor
open Go.RowKit
set_option linter.unusedVariables false
set_option maxRecDepth 100000

theorem exprV_cells (t : T) (ao : Option Addr) (cap : Nat) : exprV t ao cap = .agg #[.int .i64 t.nd.op, .int .i64 t.nd.k, .int .i64 t.nd.i, .int .u64 t.nd.b, .string (str t.nd.t), .string (str t.nd.n), .slice ao t.kids.length cap] := rfl
/-- The cells of a part. -/
theorem NodeAt.cells {W : World} {a o j : Nat} {t : T} (h : NodeAt W a o j t) : ∃ ao' cap', t.kids.length ≤ cap' ∧ cap' ≤ 9223372036854775807 ∧ AtT W t ao' ∧ W.cell? ⟨a, o + j * 7, none⟩ = some (.int .i64 t.nd.op) ∧ W.cell? ⟨a, o + j * 7 + 1, none⟩ = some (.int .i64 t.nd.k) ∧ W.cell? ⟨a, o + j * 7 + 2, none⟩ = some (.int .i64 t.nd.i) ∧ W.cell? ⟨a, o + j * 7 + 3, none⟩ = some (.int .u64 t.nd.b) ∧ W.cell? ⟨a, o + j * 7 + 4, none⟩ = some (.string (str t.nd.t)) ∧ W.cell? ⟨a, o + j * 7 + 5, none⟩ = some (.string (str t.nd.n)) ∧ W.cell? ⟨a, o + j * 7 + 6, none⟩ = some (.slice ao' t.kids.length cap') := by
  obtain ⟨ao', cap', h1, h2, h3, h4, h5⟩ := h
  exact ⟨ao', cap', h3, h4.1, h5, h1 0 _ rfl, h1 1 _ rfl, h1 2 _ rfl, h1 3 _ rfl, h1 4 _ rfl, h1 5 _ rfl, h2⟩
theorem roomR_step (f : T → Int → Int) (l : List T) (j : Nat) (t : T) (r : Int) (h : l[j]? = some t) : roomR f (l.drop j) r = if r < 0 then r else roomR f (l.drop (j + 1)) (f t r) := by
  obtain ⟨hj, he⟩ := List.getElem?_eq_some_iff.1 h
  rw [List.drop_eq_getElem_cons hj, he]; rfl
theorem roomR_rng (f : T → Int → Int) (hf : ∀ t r, 0 ≤ r → -1 ≤ f t r ∧ f t r ≤ r) : ∀ (l : List T) (r : Int), -1 ≤ r → -1 ≤ roomR f l r ∧ roomR f l r ≤ r
  | [], r, h => ⟨h, Int.le_refl _⟩
  | t :: l, r, h => by
    simp only [roomR]
    by_cases h0 : r < 0
    · rw [if_pos h0]; exact ⟨h, Int.le_refl _⟩
    · rw [if_neg h0]
      have h1 := hf t r (by omega)
      have h2 := roomR_rng f hf l (f t r) h1.1
      exact ⟨h2.1, by omega⟩
theorem roomT_rng : ∀ (n : Nat) (t : T) (r : Int), 0 ≤ r → -1 ≤ roomT n t r ∧ roomT n t r ≤ r
  | 0, t, r, h => by simp only [roomT]; omega
  | n + 1, .mk d l, r, h => by
    simp only [roomT]
    have := roomR_rng (roomT n) (roomT_rng n) l (r - 1) (by omega)
    omega
def RoomOk (n : Nat) : Prop := ∀ (t : T) (ao : Option Addr) (cap : Nat) (r D : Int) (w : World), D = n → AtT w t ao → t.kids.length ≤ 9223372036854775807 → 0 ≤ r → r ≤ 40 →
    Calls Tryz.prog 99 #[exprV t ao cap, .int .i64 r, .int .i64 D] w fun e w' => e = .returned (.int .i64 (roomT n t r)) ∧ Below w.heap.size w w'
set_option maxHeartbeats 4000000 in
theorem room_any : ∀ n : Nat, n ≤ 100 → RoomOk n
  | 0, _ => by
    rintro ⟨⟨op, k, i, b, s, nm⟩, l⟩ ao cap r D w rfl hA hl h0 h40
    have e : roomT 0 (T.mk ⟨op, k, i, b, s, nm⟩ l) r = -1 := rfl
    rw [e, exprV_cells]
    simp only [T.nd, T.kids]
    generalize l.length = L at *
    generalize str s = S
    generalize str nm = N
    clear e hA
    go_enter Tryz.func99, Tryz.ntmps99
    go_wp2_with fail
    go_ret
    exact ⟨rfl, (Below.refl _ _).alloc (Nat.le_refl _) _⟩
  | n + 1, hn => by
    rintro ⟨⟨op, k, i, b, s, nm⟩, l⟩ ao cap r D w hD hA hl h0 h40
    have IH := room_any n (by omega)
    have e : roomT (n + 1) (T.mk ⟨op, k, i, b, s, nm⟩ l) r = roomR (roomT n) l (r - 1) := rfl
    have hrng := roomT_rng n
    rw [e, exprV_cells]
    simp only [AtT] at hA
    simp only [T.nd, T.kids] at hl ⊢
    obtain ⟨R, hR⟩ : ∃ R, roomR (roomT n) l (r - 1) = R := ⟨_, rfl⟩
    rw [hR]
    have HR := Lib.hid hR
    have HA := Lib.hid hA.2
    have HRNG := Lib.hid hrng
    have HIH := Lib.hid IH
    have hD0 : (D == 0) = false := by have : D ≠ 0 := by omega
                                      simpa using this
    have hD1 : D ≤ 101 := by omega
    have hD2 : 1 ≤ D := by omega
    have HD := Lib.hid hD
    obtain ⟨L, hL⟩ : ∃ L, l.length = L := ⟨_, rfl⟩
    rw [hL] at hl ⊢
    have HL := Lib.hid hL
    generalize str s = S
    generalize str nm = N
    clear e hA hrng IH hR hD hL hn
    go_enter Tryz.func99, Tryz.ntmps99
    go_wp2_with fail
    go_loopw [1, 16] (fun x i wr => ∃ (j : Nat) (y : Int), j ≤ L ∧ i = .int .i64 j ∧ x = .int .i64 y ∧ -1 ≤ y ∧ y ≤ 40 ∧ Hid (roomR (roomT n) (l.drop j) y = R) ∧ Hid (Below w.heap.size w wr)) (fun _ i _ => L - (intOf i).toNat)
    case atStart => exact ⟨0, r - 1, Nat.zero_le _, rfl, by first | rfl | (congr 1), by omega, by omega, by rw [List.drop_zero]; exact HR, Lib.hid ((Below.refl _ _).alloc (Nat.le_refl _) _)⟩
    case round =>
      obtain ⟨j, y, hj, rfl, rfl, hy1, hy2, hRR, hbw⟩ := hrel
      by_cases hlt : j < L
      · have iI : (j : Int) < (L : Int) := by omega
        have hjl : j < l.length := by rw [HL.out]; exact hlt
        obtain ⟨t, htj⟩ : ∃ t, l[j]? = some t := ⟨l[j], List.getElem?_eq_getElem hjl⟩
        obtain ⟨a, o, rfl, ha, hnode⟩ := AtL.at HA.out j t htj
        rw [Nat.zero_add] at hnode
        obtain ⟨ao', cap', n1, n2, nA, x0, x1, x2, x3, x4, x5, x6⟩ := hnode.cells
        have d0 := (hbw.out.cell (p := ⟨a, o + j * 7, none⟩) ha).trans x0
        have d1 := (hbw.out.cell (p := ⟨a, o + j * 7 + 1, none⟩) ha).trans x1
        have d2 := (hbw.out.cell (p := ⟨a, o + j * 7 + 2, none⟩) ha).trans x2
        have d3 := (hbw.out.cell (p := ⟨a, o + j * 7 + 3, none⟩) ha).trans x3
        have d4 := (hbw.out.cell (p := ⟨a, o + j * 7 + 4, none⟩) ha).trans x4
        have d5 := (hbw.out.cell (p := ⟨a, o + j * 7 + 5, none⟩) ha).trans x5
        have d6 := (hbw.out.cell (p := ⟨a, o + j * 7 + 6, none⟩) ha).trans x6
        rw [roomR_step _ _ _ _ _ htj] at hRR
        have cC := fun W (hW : Below w.heap.size w W) (hy : 0 ≤ y) => HIH.out t ao' cap' y (D - 1) W (by have := HD.out; omega) (nA.keep hW) (by omega) hy hy2
        simp only [exprV_cells] at cC
        have hrn := HRNG.out t y
        generalize roomT n t y = Z at *
        generalize t.kids.length = KL at *
        generalize t.nd = nd at *
        obtain ⟨op', k', i', b', s', nm'⟩ := nd
        simp only at d0 d1 d2 d3 d4 d5 d6 cC
        generalize str s' = S' at *
        generalize str nm' = N' at *
        obtain ⟨wa, hwa⟩ : ∃ wa, wr.alloc (.cells #[.int .i64 op', .int .i64 k', .int .i64 i', .int .u64 b', .string S', .string N', .slice ao' KL cap'] 27) = wa := ⟨_, rfl⟩
        have hbA : Below wr.heap.size wr wa := by rw [← hwa]; exact (Below.refl _ _).alloc (Nat.le_refl _) _
        have zT : Blk wa wr.heap.size 27 [.int .i64 op', .int .i64 k', .int .i64 i', .int .u64 b', .string S', .string N', .slice ao' KL cap'] := by rw [← hwa]; exact Blk.new wr #[.int .i64 op', .int .i64 k', .int .i64 i', .int .u64 b', .string S', .string N', .slice ao' KL cap'] _
        have hb0a := below_stepL hbw.out hbw.out.size hbA
        have cc := cC wa hb0a
        clear x0 x1 x2 x3 x4 x5 x6 hnode htj nA cC hjl n1
        go_upto_region 7 with fail
        try rw [hwa]
        clear hwa d0 d1 d2 d3 d4 d5 d6 hbA hbw
        generalize wr.heap.size = g at *
        have p0 := zT.cell (j := 0) rfl
        have p1 := zT.cell (j := 1) rfl
        have p2 := zT.cell (j := 2) rfl
        have p3 := zT.cell (j := 3) rfl
        have p4 := zT.cell (j := 4) rfl
        have p5 := zT.cell (j := 5) rfl
        have p6 := zT.cell (j := 6) rfl
        by_cases hy : y < 0
        · have hh : Hid (y = R) := by have := hRR.out; rw [if_pos hy] at this; exact Lib.hid this
          clear cc hRR hrn
          go_wp2_with fail
          go_ret
          exact ⟨by rw [hh.out]; rfl, hb0a⟩
        · have hh : Hid (roomR (roomT n) (l.drop (j + 1)) Z = R) := by have := hRR.out; rw [if_neg hy] at this; exact Lib.hid this
          obtain ⟨z1, z2⟩ := hrn (by omega)
          have c2 := cc (by omega)
          clear cc hRR hrn
          go_wp2_with fail
          refine c2.mono ?_
          rintro e w3 ⟨rfl, hb3⟩
          have hb03 := Lib.hid (below_stepL hb0a hb0a.size hb3)
          clear c2 p0 p1 p2 p3 p4 p5 p6 zT hb3 hb0a
          go_wp2_with fail
          go_roundw
          case rel => exact ⟨j + 1, Z, by omega, by go_num, rfl, z1, by omega, hh, hb03⟩
          case measure => simp [intOf]; omega
      · have iI : ¬ (j : Int) < (L : Int) := by omega
        have hh : Hid (y = R) := by have := hRR.out; rw [List.drop_of_length_le (by rw [HL.out]; omega)] at this; exact Lib.hid this
        go_wp2_with fail
        go_ret
        exact ⟨by rw [hh.out]; rfl, hbw.out⟩
end Go.Proofs.YtfedlchncngafaaGreatDoor
