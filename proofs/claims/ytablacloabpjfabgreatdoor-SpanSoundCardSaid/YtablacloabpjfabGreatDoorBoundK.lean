/-
  CONTRACT of package chirographkeep's bound: a comparison of the column a with a number.
  CONDITIONS: each theorem's own hypotheses.
-/
import Derived.Test.YtablacloabpjfabGreatDoorSpanB
import Derived.Test.YtablacloabpjfabGreatDoorGHeap
import Derived.Test.YtablacloabpjfabGreatDoorGRow
namespace Go.Proofs.YtablacloabpjfabGreatDoor
open Go.RowKit
set_option linter.unusedVariables false
set_option maxRecDepth 100000

def BoundOk (w : World) (e : Ending) (w' : World) : Prop := ∃ t ao cap, e = .returned (exprV t ao cap) ∧ Hid (Bd t) ∧ Hid (XTb w.heap.size w' t ao cap) ∧ Below w.heap.size w w'
theorem xtb_leaf (b : Nat) (w : World) (d : Nd) (h : FitN d) : XTb b w (.mk d []) none 0 := xt_leaf _ d h
theorem bd_of {op m : Int} {u : T} (ho : op = 9 ∨ op = 11 ∨ op = 12 ∨ op = 13 ∨ op = 14) (hu : numU m u) (r : Bool) : Bd (if r = true then opN op [colT nA, u] else opN op [u, colT nA]) := by
  cases r
  · exact ⟨op, m, u, ho, hu, .inr rfl⟩
  · exact ⟨op, m, u, ho, hu, .inl rfl⟩
theorem pick5 (k : Int) : ∃ (q : Nat) (c : Int), k % 5 = (q : Int) ∧ q < 5 ∧ ([.int .i64 0, .int .i64 2, .int .i64 3, .int .i64 4, .int .i64 5] : List Value)[q]? = some (.int .i64 c) ∧ (9 + c = 9 ∨ 9 + c = 11 ∨ 9 + c = 12 ∨ 9 + c = 13 ∨ 9 + c = 14) := by
  have h0 := Int.emod_nonneg k (show (5 : Int) ≠ 0 by decide)
  have h5 := Int.emod_lt_of_pos k (show (0 : Int) < 5 by decide)
  obtain ⟨q, hq⟩ : ∃ q : Nat, k % 5 = (q : Int) := ⟨(k % 5).toNat, by omega⟩
  rcases (show q = 0 ∨ q = 1 ∨ q = 2 ∨ q = 3 ∨ q = 4 by omega) with rfl | rfl | rfl | rfl | rfl
  · exact ⟨0, 0, hq, by decide, rfl, by decide⟩
  · exact ⟨1, 2, hq, by decide, rfl, by decide⟩
  · exact ⟨2, 3, hq, by decide, rfl, by decide⟩
  · exact ⟨3, 4, hq, by decide, rfl, by decide⟩
  · exact ⟨4, 5, hq, by decide, rfl, by decide⟩

def Bd7F (op uo uk ui : Int) (au : Option Addr) (cu : Nat) (NA : ByteArray) (B : Nat) (UT : T) : Nat → Value → World → Prop
  | 0, v, _ => v = .int .i64 op
  | 1, v, _ => v = .agg #[.int .i64 2, .int .i64 0, .int .i64 0, .int .u64 0, .string ⟨#[]⟩, .string NA, .slice none 0 0]
  | 2, v, _ => v = .agg #[.int .i64 uo, .int .i64 uk, .int .i64 ui, .int .u64 0, .string ⟨#[]⟩, .string ⟨#[]⟩, .slice au cu cu]
  | 3, v, W => ∃ g, v = .agg #[.int .i64 op, .int .i64 0, .int .i64 0, .int .u64 0, .string ⟨#[]⟩, .string ⟨#[]⟩, .slice (some ⟨g, 0, none⟩) 2 2] ∧ Hid (XTb B W (opN op [colT nA, UT]) (some ⟨g, 0, none⟩) 2)
  | _, _, _ => True

def Bd8F (op uo uk ui : Int) (au : Option Addr) (cu : Nat) (NA : ByteArray) (B : Nat) (UT : T) : Nat → Value → World → Prop
  | 0, v, _ => v = .int .i64 op
  | 2, v, _ => v = .agg #[.int .i64 2, .int .i64 0, .int .i64 0, .int .u64 0, .string ⟨#[]⟩, .string NA, .slice none 0 0]
  | 1, v, _ => v = .agg #[.int .i64 uo, .int .i64 uk, .int .i64 ui, .int .u64 0, .string ⟨#[]⟩, .string ⟨#[]⟩, .slice au cu cu]
  | 3, v, W => ∃ g, v = .agg #[.int .i64 op, .int .i64 0, .int .i64 0, .int .u64 0, .string ⟨#[]⟩, .string ⟨#[]⟩, .slice (some ⟨g, 0, none⟩) 2 2] ∧ Hid (XTb B W (opN op [UT, colT nA]) (some ⟨g, 0, none⟩) 2)
  | _, _, _ => True

set_option maxHeartbeats 16000000 in
theorem bound_any (r : R) (hr : r.Fits) (w : World) : Calls Tryz.prog 37 #[rawV r] w (BoundOk w) := by
  obtain ⟨rk, ra, rb, rs⟩ := r
  have cN := fun W => picked_any ra 30 W (by decide) (by decide) hr.a0 hr.a1
  have cT := fun W => picked_any rb 3 W (by decide) (by decide) hr.b0 hr.b1
  have cW := fun W => picked_any rb 2 W (by decide) (by decide) hr.b0 hr.b1
  have cK := fun W => picked_any rk 5 W (by decide) (by decide) hr.k0 hr.k1
  have cA := fun W => colA_any W
  have n0 := Int.emod_nonneg ra (show (30 : Int) ≠ 0 by decide)
  have n1 := Int.emod_lt_of_pos ra (show (0 : Int) < 30 by decide)
  obtain ⟨q5, c5, hq5, h5, hsc, hop5⟩ := pick5 rk
  obtain ⟨op, hope⟩ : ∃ op, 9 + c5 = op := ⟨_, rfl⟩
  rw [hope] at hop5
  have wop : IntKind.i64.wrap (9 + c5) = op := by rw [IntKind.wrap_i64]; omega
  simp only [hq5] at cK
  have HOP := Lib.hid (show 0 ≤ op ∧ op ≤ 100 by omega)
  obtain ⟨q, hq⟩ : ∃ q, ra % 30 = q := ⟨_, rfl⟩
  rw [hq] at n0 n1
  simp only [hq] at cN
  have HSC := Lib.hid hsc
  have HOPS := Lib.hid hop5
  have HN := Lib.hid (And.intro n0 n1)
  have cM := fun W => knum_any q W
  unfold numV at cM
  unfold colV at cA
  obtain ⟨NA, hNA⟩ : ∃ NA, str nA = NA := ⟨_, rfl⟩
  rw [hNA] at cA
  have HNA := Lib.hid hNA
  unfold rawV
  simp only
  clear hr hq5 hsc hop5 hq n0 n1 hNA hope
  have z0 := (Blk.new w #[.int .i64 rk, .int .i64 ra, .int .i64 rb, .string rs] 54).alloc (.cells #[.int .i64 0, .int .i64 0, .int .i64 0, .int .u64 0, .string ⟨#[]⟩, .string ⟨#[]⟩, .slice none 0 0] 27)
  have zr0 := Blk.new (w.alloc (.cells #[.int .i64 rk, .int .i64 ra, .int .i64 rb, .string rs] 54)) #[.int .i64 0, .int .i64 0, .int .i64 0, .int .u64 0, .string ⟨#[]⟩, .string ⟨#[]⟩, .slice none 0 0] 27
  have hb1 := ((Below.refl w.heap.size w).alloc (Nat.le_refl _) (.cells #[.int .i64 rk, .int .i64 ra, .int .i64 rb, .string rs] 54)).alloc (by simp) (.cells #[.int .i64 0, .int .i64 0, .int .i64 0, .int .u64 0, .string ⟨#[]⟩, .string ⟨#[]⟩, .slice none 0 0] 27)
  have hs1 : (w.alloc (.cells #[.int .i64 rk, .int .i64 ra, .int .i64 rb, .string rs] 54)).heap.size = w.heap.size + 1 := by simp
  rw [hs1] at zr0
  obtain ⟨w1, hw1⟩ : ∃ w1, (w.alloc (.cells #[.int .i64 rk, .int .i64 ra, .int .i64 rb, .string rs] 54)).alloc (.cells #[.int .i64 0, .int .i64 0, .int .i64 0, .int .u64 0, .string ⟨#[]⟩, .string ⟨#[]⟩, .slice none 0 0] 27) = w1 := ⟨_, rfl⟩
  have hs2 : w1.heap.size = w.heap.size + 2 := by rw [← hw1]; simp
  rw [hw1] at z0 zr0 hb1
  obtain ⟨B, hB⟩ : ∃ B, w1.heap.size = B := ⟨_, rfl⟩
  obtain ⟨g1, hg1⟩ : ∃ g1, w.heap.size + 1 = g1 := ⟨_, rfl⟩
  have HG1 := Lib.hid (show g1 < B ∧ w.heap.size ≤ B ∧ w.heap.size ≤ g1 ∧ B ≤ w1.heap.size by omega)
  have hg0 : w.heap.size < B := by omega
  rw [hg1] at zr0
  have HW1 := Lib.hid hw1
  have HG := Lib.hid hg1
  clear hs1 hs2 hw1 hg1
  obtain ⟨c0, c1, c2, c3⟩ := z0.cell4
  go_enter Tryz.func37, Tryz.ntmps37
  go_upto_region 1 with fail
  rw [HW1.out]
  clear HW1
  rw [HG.out]
  clear HG
  go_wp2_with fail
  refine (cN _).mono ?_
  rintro e W' ⟨rfl, hww⟩
  subst hww
  go_wp2_with fail
  refine (cM _).mono ?_
  rintro e W2 ⟨rfl, hb2⟩
  have z4n := Blk.new W2 #[.int .i64 1, .int .i64 2, .int .i64 q, .int .u64 0, .string ⟨#[]⟩, .string ⟨#[]⟩, .slice none 0 0] 27
  have hba := (Below.refl W2.heap.size W2).alloc (Nat.le_refl _) (.cells #[.int .i64 1, .int .i64 2, .int .i64 q, .int .u64 0, .string ⟨#[]⟩, .string ⟨#[]⟩, .slice none 0 0] 27)
  have hb02 := below_stepH hb1 hb1.size hb2
  have hb03 := below_stepH hb02 hb02.size hba
  have zr3 := (zr0.call hb2).call hba
  have zw3 := (z0.call hb2).call hba
  have hB4 : B ≤ W2.heap.size := by have := hb2.size; omega
  obtain ⟨W3, hW3⟩ : ∃ W3, W2.alloc (.cells #[.int .i64 1, .int .i64 2, .int .i64 q, .int .u64 0, .string ⟨#[]⟩, .string ⟨#[]⟩, .slice none 0 0] 27) = W3 := ⟨_, rfl⟩
  have hs3 : W3.heap.size = W2.heap.size + 1 := by rw [← hW3]; simp
  rw [hW3] at z4n hb03 zr3 zw3
  have HW3 := Lib.hid hW3
  clear hW3 hba hb02 hb2 z0 zr0 hb1 cM cN c0 c1 c2 c3
  go_upto_region 3 with fail
  rw [HW3.out]
  clear HW3
  have hlt4 : W2.heap.size + 1 ≤ W3.heap.size := by omega
  clear hs3
  obtain ⟨g4, hg4⟩ : ∃ g4, W2.heap.size = g4 := ⟨_, rfl⟩
  rw [hg4] at z4n hB4 hlt4
  try rw [hg4]
  clear hg4
  obtain ⟨c0, c1, c2, c3⟩ := zw3.cell4
  have HQ0 := HN.out
  by_cases hb3 : rb % 3 = 0
  · have bb3 : (rb % 3 == 0) = true := by simpa using hb3
    clear hb3
    go_wp2_with fail
    refine (cT _).mono ?_
    rintro e W' ⟨rfl, hww⟩
    subst hww
    clear cT
    have cO := hop1 0 3 (g4 + 1) (by decide) (litT 2 q 0 []) none 0 W3 (xtb_leaf _ W3 _ (fit_lit 2 q 0 [] (by decide) (by omega) (by decide) (by decide))) hlt4
    rw [← numV_expr] at cO
    unfold numV at cO
    obtain ⟨y0, y1, y2, y3, y4, y5, y6⟩ := z4n.cells7
    clear c0 c1 c2 c3
    go_wp2_with fail
    refine cO.mono ?_
    rintro e W4 ⟨g0, rfl, hT4, hb4⟩
    have z44 := z4n.call hb4
    have zr4 := zr3.call hb4
    have zw4 := zw3.call hb4
    have hb04 := below_stepH hb03 hb03.size hb4
    clear cO y0 y1 y2 y3 y4 y5 y6 z4n zr3 zw3 hb03 hb4
    obtain ⟨y0, y1, y2, y3, y4, y5, y6⟩ := z44.cells7
    have f0 := z44.free 0
    have f1 := z44.free 1
    have f2 := z44.free 2
    have f3 := z44.free 3
    have f4 := z44.free 4
    have f5 := z44.free 5
    have f6 := z44.free 6
    have HS := Lib.hid (And.intro (z44.set7 (a0 := .int .i64 3) (a1 := .int .i64 0) (a2 := .int .i64 0) (a3 := .int .u64 0) (a4 := .string ⟨#[]⟩) (a5 := .string ⟨#[]⟩) (a6 := .slice (some ⟨g0, 0, none⟩) 1 1)) (And.intro (zr4.others7 (g := g4) (a0 := .int .i64 3) (a1 := .int .i64 0) (a2 := .int .i64 0) (a3 := .int .u64 0) (a4 := .string ⟨#[]⟩) (a5 := .string ⟨#[]⟩) (a6 := .slice (some ⟨g0, 0, none⟩) 1 1) (by have := HG1.out.1; omega)) (And.intro (zw4.others7 (g := g4) (a0 := .int .i64 3) (a1 := .int .i64 0) (a2 := .int .i64 0) (a3 := .int .u64 0) (a4 := .string ⟨#[]⟩) (a5 := .string ⟨#[]⟩) (a6 := .slice (some ⟨g0, 0, none⟩) 1 1) (by omega)) (And.intro (below_set7 (g := g4) (a0 := .int .i64 3) (a1 := .int .i64 0) (a2 := .int .i64 0) (a3 := .int .u64 0) (a4 := .string ⟨#[]⟩) (a5 := .string ⟨#[]⟩) (a6 := .slice (some ⟨g0, 0, none⟩) 1 1) hb04 (by omega)) ((hT4.out.set7 (g := g4) (Nat.lt_succ_self g4) (a0 := .int .i64 3) (a1 := .int .i64 0) (a2 := .int .i64 0) (a3 := .int .u64 0) (a4 := .string ⟨#[]⟩) (a5 := .string ⟨#[]⟩) (a6 := .slice (some ⟨g0, 0, none⟩) 1 1)).mono (Nat.le_trans hB4 (Nat.le_succ g4)))))))
    have HU : numU (0 - q) (opN 3 [litT 2 q 0 []]) := ⟨q, by omega, .inr ⟨rfl, rfl⟩⟩
    have HBD := Lib.hid (fun r => bd_of HOPS.out HU r)
    have HEX : Hid (exprV (opN 3 [litT 2 q 0 []]) (some ⟨g0, 0, none⟩) 1 = .agg #[.int .i64 3, .int .i64 0, .int .i64 0, .int .u64 0, .string ⟨#[]⟩, .string ⟨#[]⟩, .slice (some ⟨g0, 0, none⟩) 1 1]) := Lib.hid rfl
    clear z44 zr4 zw4 hb04 hT4 HU hlt4 hg0
    go_upto_region 5 with fail
    obtain ⟨z4, zr, zw, hb5, hX5⟩ := HS.out
    have HXU := Lib.hid hX5
    clear HS y0 y1 y2 y3 y4 y5 y6 f0 f1 f2 f3 f4 f5 f6 hX5
    generalize (((((((W4.setCell ⟨g4, 0, none⟩ (.int .i64 3)).setCell ⟨g4, 1, none⟩ (.int .i64 0)).setCell ⟨g4, 2, none⟩ (.int .i64 0)).setCell ⟨g4, 3, none⟩ (.int .u64 0)).setCell ⟨g4, 4, none⟩ (.string ⟨#[]⟩)).setCell ⟨g4, 5, none⟩ (.string ⟨#[]⟩)).setCell ⟨g4, 6, none⟩ (.slice (some ⟨g0, 0, none⟩) 1 1)) = w5 at *
    generalize opN 3 [litT 2 q 0 []] = UT at *
    generalize (some ⟨g0, 0, none⟩ : Option Addr) = au at *
    have zS := Blk.new w5 #[.int .i64 0, .int .i64 2, .int .i64 3, .int .i64 4, .int .i64 5] 3
    have hbS := (Below.refl w5.heap.size w5).alloc (Nat.le_refl _) (.cells #[.int .i64 0, .int .i64 2, .int .i64 3, .int .i64 4, .int .i64 5] 3)
    have z4S := z4.call hbS
    have zrS := zr.call hbS
    have zwS := zw.call hbS
    have hb5S := below_stepH hb5 hb5.size hbS
    have hXS := HXU.out.below hbS
    obtain ⟨e0, e1, e2, e3⟩ := zwS.cell4
    have sc := zS.cell (j := q5) HSC.out
    obtain ⟨w6, hw6⟩ : ∃ w6, w5.alloc (.cells #[.int .i64 0, .int .i64 2, .int .i64 3, .int .i64 4, .int .i64 5] 3) = w6 := ⟨_, rfl⟩
    rw [hw6] at zS z4S zrS zwS hb5S hXS
    obtain ⟨c0, c1, c2, c3⟩ := zwS.cell4
    have hBS : B ≤ w6.heap.size := by have := z4S.lt; omega
    clear z4 zr zw hb5 hbS HXU zS
    have z4 := z4S
    have zr := zrS
    have hb5 := hb5S
    have HXU := Lib.hid hXS
    clear z4S zrS hb5S hXS
    have HW6 := Lib.hid hw6
    clear hw6
    go_upto_region 6 with (first
      | (go_at_call 27; refine (cK _).mono ?_; rintro e W' ⟨rfl, hww⟩; subst hww))
    rw [HW6.out]
    clear sc HW6 e0 e1 e2 e3
    have HC : Hid (∀ W, Below w6.heap.size w6 W → Calls Tryz.prog 24 #[.int .i64 op, .agg #[.int .i64 2, .int .i64 0, .int .i64 0, .int .u64 0, .string ⟨#[]⟩, .string NA, .slice none 0 0], .agg #[.int .i64 3, .int .i64 0, .int .i64 0, .int .u64 0, .string ⟨#[]⟩, .string ⟨#[]⟩, .slice au 1 1]] W fun e w' => ∃ g, e = .returned (.agg #[.int .i64 op, .int .i64 0, .int .i64 0, .int .u64 0, .string ⟨#[]⟩, .string ⟨#[]⟩, .slice (some ⟨g, 0, none⟩) 2 2]) ∧ Hid (XTb B w' (opN op [colT nA, UT]) (some ⟨g, 0, none⟩) 2) ∧ Below W.heap.size W w') := Lib.hid (fun W hW => by
      have := hop2 0 op B HOP.out (colT nA) UT none au 0 1 W (xtb_leaf B W _ (fit_col nA (by decide))) (HXU.out.below hW) (Nat.le_trans hBS hW.size)
      rw [← colV_expr, HEX.out] at this
      unfold colV at this
      rw [HNA.out] at this
      exact this)
    have HD : Hid (∀ W, Below w6.heap.size w6 W → Calls Tryz.prog 24 #[.int .i64 op, .agg #[.int .i64 3, .int .i64 0, .int .i64 0, .int .u64 0, .string ⟨#[]⟩, .string ⟨#[]⟩, .slice au 1 1], .agg #[.int .i64 2, .int .i64 0, .int .i64 0, .int .u64 0, .string ⟨#[]⟩, .string NA, .slice none 0 0]] W fun e w' => ∃ g, e = .returned (.agg #[.int .i64 op, .int .i64 0, .int .i64 0, .int .u64 0, .string ⟨#[]⟩, .string ⟨#[]⟩, .slice (some ⟨g, 0, none⟩) 2 2]) ∧ Hid (XTb B w' (opN op [UT, colT nA]) (some ⟨g, 0, none⟩) 2) ∧ Below W.heap.size W w') := Lib.hid (fun W hW => by
      have := hop2 0 op B HOP.out UT (colT nA) au none 1 0 W (HXU.out.below hW) (xtb_leaf B W _ (fit_col nA (by decide))) (Nat.le_trans hBS hW.size)
      rw [← colV_expr, HEX.out] at this
      unfold colV at this
      rw [HNA.out] at this
      exact this)
    clear HSC HXU
    by_cases hb2 : rb % 2 = 0
    · have bb : (rb % 2 == 0) = true := by simpa using hb2
      clear hb2
      go_wp2_with fail
      refine (cW _).mono ?_
      rintro e W' ⟨rfl, hww⟩
      subst hww
      go_upto_region 7 with fail
      refine wp_region_chain 4 [1, 3] (by kernel_rfl) (by kernel_rfl) (by kernel_rfl) (Bd7F op 3 0 0 au 1 NA B UT) (fun _ W => Below w6.heap.size w6 W) (fun _ W W' => Below W.heap.size W W') ?hF7 ?h07 ?hstep7 ?hcall7 ?hdone7
      case hF7 =>
        intro s i hs j x W W' hjn hne' hpb h he
        match j, h with
        | 0, h => exact h
        | 1, h => exact h
        | 2, h => exact h
        | 3, ⟨g, h1, h2⟩ => exact ⟨g, h1, Lib.hid (h2.out.below he)⟩
        | j + 4, h => exact h
      case h07 => exact Below.drew (Below.refl _ _)
      case hstep7 =>
        intro i hi hni s vs act W K ha' hst hd hu' hK
        simp only [fillF, Act.put, List.take_succ_cons, List.take_zero, List.setIfInBounds_toArray, List.set_cons_zero, List.set_cons_succ] at ha'
        subst ha'
        obtain ⟨y0, y1, y2, y3, y4, y5, y6⟩ := (z4.call hst).cells7
        rcases (show i = 0 ∨ i = 1 ∨ i = 2 ∨ i = 3 by omega) with rfl | rfl | rfl | rfl
        · refine wpOp_step rfl (fun K' hK' => ?_)
          go_simp
          exact hK' _ _ (hK _ rfl)
        · exact (hni (by decide)).elim
        · refine wpOp_step rfl (fun K' hK' => ?_)
          go_simp
          exact hK' _ _ (hK _ rfl)
        · exact (hni (by decide)).elim
      case hcall7 =>
        intro s i hs vs act W K ha' hst hd hK
        simp only [fillF, Act.put, List.take_succ_cons, List.take_zero, List.setIfInBounds_toArray, List.set_cons_zero, List.set_cons_succ] at ha'
        subst ha'
        rcases s with _ | _ | s
        · obtain rfl : 1 = i := by simpa using hs
          refine wpOp_step rfl (fun K' hK' => ?_)
          go_simp
          refine (cA W).mono ?_
          rintro e W' ⟨rfl, hbc⟩
          go_simp
          exact hK' _ _ (hK _ _ rfl hbc (below_stepH hst hst.size hbc))
        · obtain rfl : 3 = i := by simpa using hs
          have e0 : vs 0 = .int .i64 op := hd 0 (by kernel_rfl)
          have e1 : vs 1 = .agg #[.int .i64 2, .int .i64 0, .int .i64 0, .int .u64 0, .string ⟨#[]⟩, .string NA, .slice none 0 0] := hd 1 (by kernel_rfl)
          have e2 : vs 2 = .agg #[.int .i64 3, .int .i64 0, .int .i64 0, .int .u64 0, .string ⟨#[]⟩, .string ⟨#[]⟩, .slice au 1 1] := hd 2 (by kernel_rfl)
          simp only [e0, e1, e2] at hK ⊢
          refine wpOp_step rfl (fun K' hK' => ?_)
          go_simp
          refine (HC.out W hst).mono ?_
          rintro e W' ⟨g, rfl, hT, hbc⟩
          go_simp
          exact hK' _ _ (hK _ _ ⟨g, rfl, hT⟩ hbc (below_stepH hst hst.size hbc))
        · simp at hs
      intro vs act W ha' hst hf
      simp only [fillF, Act.put, List.take_succ_cons, List.take_zero, List.drop_succ_cons, List.drop_zero, List.setIfInBounds_toArray, List.set_cons_zero, List.set_cons_succ] at ha' ⊢
      subst ha'
      obtain ⟨g, e3, hT⟩ := hf 3 (by decide)
      have zr6 := zr.call hst
      have hb6 := below_stepH hb5 hb5.size hst
      simp only [e3]
      clear hf hst zr z4 cA HC HD hb5
      generalize vs 0 = x0
      generalize vs 1 = x1
      generalize vs 2 = x2
      obtain ⟨y0, y1, y2, y3, y4, y5, y6⟩ := zr6.cells7
      have f0 := zr6.free 0
      have f1 := zr6.free 1
      have f2 := zr6.free 2
      have f3 := zr6.free 3
      have f4 := zr6.free 4
      have f5 := zr6.free 5
      have f6 := zr6.free 6
      have HZ := Lib.hid (And.intro zr6 (And.intro hb6 hT.out))
      clear zr6 hb6 hT
      go_wp2_with fail
      obtain ⟨zr6, hb6, hT⟩ := HZ.out
      exact bodyPost_ret (results_expr rfl _ _ g1 _ _ _ _ _ _ _ rfl zr6.set7) rfl ⟨opN op [colT nA, UT], some ⟨g, 0, none⟩, 2, rfl, Lib.hid (HBD.out true), Lib.hid ((hT.set7 HG1.out.1).mono HG1.out.2.1), below_set7 hb6 HG1.out.2.2.1⟩
    · have bb : (rb % 2 == 0) = false := by simpa using hb2
      clear hb2
      go_wp2_with fail
      refine (cW _).mono ?_
      rintro e W' ⟨rfl, hww⟩
      subst hww
      go_upto_region 8 with fail
      refine wp_region_chain 4 [2, 3] (by kernel_rfl) (by kernel_rfl) (by kernel_rfl) (Bd8F op 3 0 0 au 1 NA B UT) (fun _ W => Below w6.heap.size w6 W) (fun _ W W' => Below W.heap.size W W') ?hF8 ?h08 ?hstep8 ?hcall8 ?hdone8
      case hF8 =>
        intro s i hs j x W W' hjn hne' hpb h he
        match j, h with
        | 0, h => exact h
        | 1, h => exact h
        | 2, h => exact h
        | 3, ⟨g, h1, h2⟩ => exact ⟨g, h1, Lib.hid (h2.out.below he)⟩
        | j + 4, h => exact h
      case h08 => exact Below.drew (Below.refl _ _)
      case hstep8 =>
        intro i hi hni s vs act W K ha' hst hd hu' hK
        simp only [fillF, Act.put, List.take_succ_cons, List.take_zero, List.setIfInBounds_toArray, List.set_cons_zero, List.set_cons_succ] at ha'
        subst ha'
        obtain ⟨y0, y1, y2, y3, y4, y5, y6⟩ := (z4.call hst).cells7
        rcases (show i = 0 ∨ i = 1 ∨ i = 2 ∨ i = 3 by omega) with rfl | rfl | rfl | rfl
        · refine wpOp_step rfl (fun K' hK' => ?_)
          go_simp
          exact hK' _ _ (hK _ rfl)
        · refine wpOp_step rfl (fun K' hK' => ?_)
          go_simp
          exact hK' _ _ (hK _ rfl)
        · exact (hni (by decide)).elim
        · exact (hni (by decide)).elim
      case hcall8 =>
        intro s i hs vs act W K ha' hst hd hK
        simp only [fillF, Act.put, List.take_succ_cons, List.take_zero, List.setIfInBounds_toArray, List.set_cons_zero, List.set_cons_succ] at ha'
        subst ha'
        rcases s with _ | _ | s
        · obtain rfl : 2 = i := by simpa using hs
          refine wpOp_step rfl (fun K' hK' => ?_)
          go_simp
          refine (cA W).mono ?_
          rintro e W' ⟨rfl, hbc⟩
          go_simp
          exact hK' _ _ (hK _ _ rfl hbc (below_stepH hst hst.size hbc))
        · obtain rfl : 3 = i := by simpa using hs
          have e0 : vs 0 = .int .i64 op := hd 0 (by kernel_rfl)
          have e2 : vs 2 = .agg #[.int .i64 2, .int .i64 0, .int .i64 0, .int .u64 0, .string ⟨#[]⟩, .string NA, .slice none 0 0] := hd 2 (by kernel_rfl)
          have e1 : vs 1 = .agg #[.int .i64 3, .int .i64 0, .int .i64 0, .int .u64 0, .string ⟨#[]⟩, .string ⟨#[]⟩, .slice au 1 1] := hd 1 (by kernel_rfl)
          simp only [e0, e1, e2] at hK ⊢
          refine wpOp_step rfl (fun K' hK' => ?_)
          go_simp
          refine (HD.out W hst).mono ?_
          rintro e W' ⟨g, rfl, hT, hbc⟩
          go_simp
          exact hK' _ _ (hK _ _ ⟨g, rfl, hT⟩ hbc (below_stepH hst hst.size hbc))
        · simp at hs
      intro vs act W ha' hst hf
      simp only [fillF, Act.put, List.take_succ_cons, List.take_zero, List.drop_succ_cons, List.drop_zero, List.setIfInBounds_toArray, List.set_cons_zero, List.set_cons_succ] at ha' ⊢
      subst ha'
      obtain ⟨g, e3, hT⟩ := hf 3 (by decide)
      have zr6 := zr.call hst
      have hb6 := below_stepH hb5 hb5.size hst
      simp only [e3]
      clear hf hst zr z4 cA HC HD hb5
      generalize vs 0 = x0
      generalize vs 1 = x1
      generalize vs 2 = x2
      obtain ⟨y0, y1, y2, y3, y4, y5, y6⟩ := zr6.cells7
      have f0 := zr6.free 0
      have f1 := zr6.free 1
      have f2 := zr6.free 2
      have f3 := zr6.free 3
      have f4 := zr6.free 4
      have f5 := zr6.free 5
      have f6 := zr6.free 6
      have HZ := Lib.hid (And.intro zr6 (And.intro hb6 hT.out))
      clear zr6 hb6 hT
      go_wp2_with fail
      obtain ⟨zr6, hb6, hT⟩ := HZ.out
      exact bodyPost_ret (results_expr rfl _ _ g1 _ _ _ _ _ _ _ rfl zr6.set7) rfl ⟨opN op [UT, colT nA], some ⟨g, 0, none⟩, 2, rfl, Lib.hid (HBD.out false), Lib.hid ((hT.set7 HG1.out.1).mono HG1.out.2.1), below_set7 hb6 HG1.out.2.2.1⟩
  · have bb3 : (rb % 3 == 0) = false := by simpa using hb3
    clear hb3
    go_wp2_with fail
    refine (cT _).mono ?_
    rintro e W' ⟨rfl, hww⟩
    subst hww
    have HU : numU q (litT 2 q 0 []) := ⟨q, by omega, .inl ⟨rfl, rfl⟩⟩
    have HBD := Lib.hid (fun r => bd_of HOPS.out HU r)
    have HXU := Lib.hid (xtb_leaf B W3 _ (fit_lit 2 q 0 [] (by decide) (by omega) (by decide) (by decide)))
    have HEX : Hid (exprV (litT 2 q 0 []) none 0 = .agg #[.int .i64 1, .int .i64 2, .int .i64 q, .int .u64 0, .string ⟨#[]⟩, .string ⟨#[]⟩, .slice none 0 0]) := Lib.hid rfl
    have z4 := z4n
    have zr := zr3
    have zw := zw3
    have hb5 := hb03
    clear cT z4n zr3 zw3 hb03 HU hlt4 hg0 c0 c1 c2 c3
    go_upto_region 5 with fail
    generalize W3 = w5 at *
    have zS := Blk.new w5 #[.int .i64 0, .int .i64 2, .int .i64 3, .int .i64 4, .int .i64 5] 3
    have hbS := (Below.refl w5.heap.size w5).alloc (Nat.le_refl _) (.cells #[.int .i64 0, .int .i64 2, .int .i64 3, .int .i64 4, .int .i64 5] 3)
    have z4S := z4.call hbS
    have zrS := zr.call hbS
    have zwS := zw.call hbS
    have hb5S := below_stepH hb5 hb5.size hbS
    have hXS := HXU.out.below hbS
    obtain ⟨e0, e1, e2, e3⟩ := zwS.cell4
    have sc := zS.cell (j := q5) HSC.out
    obtain ⟨w6, hw6⟩ : ∃ w6, w5.alloc (.cells #[.int .i64 0, .int .i64 2, .int .i64 3, .int .i64 4, .int .i64 5] 3) = w6 := ⟨_, rfl⟩
    rw [hw6] at zS z4S zrS zwS hb5S hXS
    obtain ⟨c0, c1, c2, c3⟩ := zwS.cell4
    have hBS : B ≤ w6.heap.size := by have := z4S.lt; omega
    clear z4 zr zw hb5 hbS HXU zS
    have z4 := z4S
    have zr := zrS
    have hb5 := hb5S
    have HXU := Lib.hid hXS
    clear z4S zrS hb5S hXS
    have HW6 := Lib.hid hw6
    clear hw6
    go_upto_region 6 with (first
      | (go_at_call 27; refine (cK _).mono ?_; rintro e W' ⟨rfl, hww⟩; subst hww))
    rw [HW6.out]
    clear sc HW6 e0 e1 e2 e3
    have HC : Hid (∀ W, Below w6.heap.size w6 W → Calls Tryz.prog 24 #[.int .i64 op, .agg #[.int .i64 2, .int .i64 0, .int .i64 0, .int .u64 0, .string ⟨#[]⟩, .string NA, .slice none 0 0], .agg #[.int .i64 1, .int .i64 2, .int .i64 q, .int .u64 0, .string ⟨#[]⟩, .string ⟨#[]⟩, .slice none 0 0]] W fun e w' => ∃ g, e = .returned (.agg #[.int .i64 op, .int .i64 0, .int .i64 0, .int .u64 0, .string ⟨#[]⟩, .string ⟨#[]⟩, .slice (some ⟨g, 0, none⟩) 2 2]) ∧ Hid (XTb B w' (opN op [colT nA, (litT 2 q 0 [])]) (some ⟨g, 0, none⟩) 2) ∧ Below W.heap.size W w') := Lib.hid (fun W hW => by
      have := hop2 0 op B HOP.out (colT nA) (litT 2 q 0 []) none none 0 0 W (xtb_leaf B W _ (fit_col nA (by decide))) (HXU.out.below hW) (Nat.le_trans hBS hW.size)
      rw [← colV_expr, HEX.out] at this
      unfold colV at this
      rw [HNA.out] at this
      exact this)
    have HD : Hid (∀ W, Below w6.heap.size w6 W → Calls Tryz.prog 24 #[.int .i64 op, .agg #[.int .i64 1, .int .i64 2, .int .i64 q, .int .u64 0, .string ⟨#[]⟩, .string ⟨#[]⟩, .slice none 0 0], .agg #[.int .i64 2, .int .i64 0, .int .i64 0, .int .u64 0, .string ⟨#[]⟩, .string NA, .slice none 0 0]] W fun e w' => ∃ g, e = .returned (.agg #[.int .i64 op, .int .i64 0, .int .i64 0, .int .u64 0, .string ⟨#[]⟩, .string ⟨#[]⟩, .slice (some ⟨g, 0, none⟩) 2 2]) ∧ Hid (XTb B w' (opN op [(litT 2 q 0 []), colT nA]) (some ⟨g, 0, none⟩) 2) ∧ Below W.heap.size W w') := Lib.hid (fun W hW => by
      have := hop2 0 op B HOP.out (litT 2 q 0 []) (colT nA) none none 0 0 W (HXU.out.below hW) (xtb_leaf B W _ (fit_col nA (by decide))) (Nat.le_trans hBS hW.size)
      rw [← colV_expr, HEX.out] at this
      unfold colV at this
      rw [HNA.out] at this
      exact this)
    clear HSC HXU
    by_cases hb2 : rb % 2 = 0
    · have bb : (rb % 2 == 0) = true := by simpa using hb2
      clear hb2
      go_wp2_with fail
      refine (cW _).mono ?_
      rintro e W' ⟨rfl, hww⟩
      subst hww
      go_upto_region 7 with fail
      refine wp_region_chain 4 [1, 3] (by kernel_rfl) (by kernel_rfl) (by kernel_rfl) (Bd7F op 1 2 q none 0 NA B (litT 2 q 0 [])) (fun _ W => Below w6.heap.size w6 W) (fun _ W W' => Below W.heap.size W W') ?hF97 ?h097 ?hstep97 ?hcall97 ?hdone97
      case hF97 =>
        intro s i hs j x W W' hjn hne' hpb h he
        match j, h with
        | 0, h => exact h
        | 1, h => exact h
        | 2, h => exact h
        | 3, ⟨g, h1, h2⟩ => exact ⟨g, h1, Lib.hid (h2.out.below he)⟩
        | j + 4, h => exact h
      case h097 => exact Below.drew (Below.refl _ _)
      case hstep97 =>
        intro i hi hni s vs act W K ha' hst hd hu' hK
        simp only [fillF, Act.put, List.take_succ_cons, List.take_zero, List.setIfInBounds_toArray, List.set_cons_zero, List.set_cons_succ] at ha'
        subst ha'
        obtain ⟨y0, y1, y2, y3, y4, y5, y6⟩ := (z4.call hst).cells7
        rcases (show i = 0 ∨ i = 1 ∨ i = 2 ∨ i = 3 by omega) with rfl | rfl | rfl | rfl
        · refine wpOp_step rfl (fun K' hK' => ?_)
          go_simp
          exact hK' _ _ (hK _ rfl)
        · exact (hni (by decide)).elim
        · refine wpOp_step rfl (fun K' hK' => ?_)
          go_simp
          exact hK' _ _ (hK _ rfl)
        · exact (hni (by decide)).elim
      case hcall97 =>
        intro s i hs vs act W K ha' hst hd hK
        simp only [fillF, Act.put, List.take_succ_cons, List.take_zero, List.setIfInBounds_toArray, List.set_cons_zero, List.set_cons_succ] at ha'
        subst ha'
        rcases s with _ | _ | s
        · obtain rfl : 1 = i := by simpa using hs
          refine wpOp_step rfl (fun K' hK' => ?_)
          go_simp
          refine (cA W).mono ?_
          rintro e W' ⟨rfl, hbc⟩
          go_simp
          exact hK' _ _ (hK _ _ rfl hbc (below_stepH hst hst.size hbc))
        · obtain rfl : 3 = i := by simpa using hs
          have e0 : vs 0 = .int .i64 op := hd 0 (by kernel_rfl)
          have e1 : vs 1 = .agg #[.int .i64 2, .int .i64 0, .int .i64 0, .int .u64 0, .string ⟨#[]⟩, .string NA, .slice none 0 0] := hd 1 (by kernel_rfl)
          have e2 : vs 2 = .agg #[.int .i64 1, .int .i64 2, .int .i64 q, .int .u64 0, .string ⟨#[]⟩, .string ⟨#[]⟩, .slice none 0 0] := hd 2 (by kernel_rfl)
          simp only [e0, e1, e2] at hK ⊢
          refine wpOp_step rfl (fun K' hK' => ?_)
          go_simp
          refine (HC.out W hst).mono ?_
          rintro e W' ⟨g, rfl, hT, hbc⟩
          go_simp
          exact hK' _ _ (hK _ _ ⟨g, rfl, hT⟩ hbc (below_stepH hst hst.size hbc))
        · simp at hs
      intro vs act W ha' hst hf
      simp only [fillF, Act.put, List.take_succ_cons, List.take_zero, List.drop_succ_cons, List.drop_zero, List.setIfInBounds_toArray, List.set_cons_zero, List.set_cons_succ] at ha' ⊢
      subst ha'
      obtain ⟨g, e3, hT⟩ := hf 3 (by decide)
      have zr6 := zr.call hst
      have hb6 := below_stepH hb5 hb5.size hst
      simp only [e3]
      clear hf hst zr z4 cA HC HD hb5
      generalize vs 0 = x0
      generalize vs 1 = x1
      generalize vs 2 = x2
      obtain ⟨y0, y1, y2, y3, y4, y5, y6⟩ := zr6.cells7
      have f0 := zr6.free 0
      have f1 := zr6.free 1
      have f2 := zr6.free 2
      have f3 := zr6.free 3
      have f4 := zr6.free 4
      have f5 := zr6.free 5
      have f6 := zr6.free 6
      have HZ := Lib.hid (And.intro zr6 (And.intro hb6 hT.out))
      clear zr6 hb6 hT
      go_wp2_with fail
      obtain ⟨zr6, hb6, hT⟩ := HZ.out
      exact bodyPost_ret (results_expr rfl _ _ g1 _ _ _ _ _ _ _ rfl zr6.set7) rfl ⟨opN op [colT nA, (litT 2 q 0 [])], some ⟨g, 0, none⟩, 2, rfl, Lib.hid (HBD.out true), Lib.hid ((hT.set7 HG1.out.1).mono HG1.out.2.1), below_set7 hb6 HG1.out.2.2.1⟩
    · have bb : (rb % 2 == 0) = false := by simpa using hb2
      clear hb2
      go_wp2_with fail
      refine (cW _).mono ?_
      rintro e W' ⟨rfl, hww⟩
      subst hww
      go_upto_region 8 with fail
      refine wp_region_chain 4 [2, 3] (by kernel_rfl) (by kernel_rfl) (by kernel_rfl) (Bd8F op 1 2 q none 0 NA B (litT 2 q 0 [])) (fun _ W => Below w6.heap.size w6 W) (fun _ W W' => Below W.heap.size W W') ?hF98 ?h098 ?hstep98 ?hcall98 ?hdone98
      case hF98 =>
        intro s i hs j x W W' hjn hne' hpb h he
        match j, h with
        | 0, h => exact h
        | 1, h => exact h
        | 2, h => exact h
        | 3, ⟨g, h1, h2⟩ => exact ⟨g, h1, Lib.hid (h2.out.below he)⟩
        | j + 4, h => exact h
      case h098 => exact Below.drew (Below.refl _ _)
      case hstep98 =>
        intro i hi hni s vs act W K ha' hst hd hu' hK
        simp only [fillF, Act.put, List.take_succ_cons, List.take_zero, List.setIfInBounds_toArray, List.set_cons_zero, List.set_cons_succ] at ha'
        subst ha'
        obtain ⟨y0, y1, y2, y3, y4, y5, y6⟩ := (z4.call hst).cells7
        rcases (show i = 0 ∨ i = 1 ∨ i = 2 ∨ i = 3 by omega) with rfl | rfl | rfl | rfl
        · refine wpOp_step rfl (fun K' hK' => ?_)
          go_simp
          exact hK' _ _ (hK _ rfl)
        · refine wpOp_step rfl (fun K' hK' => ?_)
          go_simp
          exact hK' _ _ (hK _ rfl)
        · exact (hni (by decide)).elim
        · exact (hni (by decide)).elim
      case hcall98 =>
        intro s i hs vs act W K ha' hst hd hK
        simp only [fillF, Act.put, List.take_succ_cons, List.take_zero, List.setIfInBounds_toArray, List.set_cons_zero, List.set_cons_succ] at ha'
        subst ha'
        rcases s with _ | _ | s
        · obtain rfl : 2 = i := by simpa using hs
          refine wpOp_step rfl (fun K' hK' => ?_)
          go_simp
          refine (cA W).mono ?_
          rintro e W' ⟨rfl, hbc⟩
          go_simp
          exact hK' _ _ (hK _ _ rfl hbc (below_stepH hst hst.size hbc))
        · obtain rfl : 3 = i := by simpa using hs
          have e0 : vs 0 = .int .i64 op := hd 0 (by kernel_rfl)
          have e2 : vs 2 = .agg #[.int .i64 2, .int .i64 0, .int .i64 0, .int .u64 0, .string ⟨#[]⟩, .string NA, .slice none 0 0] := hd 2 (by kernel_rfl)
          have e1 : vs 1 = .agg #[.int .i64 1, .int .i64 2, .int .i64 q, .int .u64 0, .string ⟨#[]⟩, .string ⟨#[]⟩, .slice none 0 0] := hd 1 (by kernel_rfl)
          simp only [e0, e1, e2] at hK ⊢
          refine wpOp_step rfl (fun K' hK' => ?_)
          go_simp
          refine (HD.out W hst).mono ?_
          rintro e W' ⟨g, rfl, hT, hbc⟩
          go_simp
          exact hK' _ _ (hK _ _ ⟨g, rfl, hT⟩ hbc (below_stepH hst hst.size hbc))
        · simp at hs
      intro vs act W ha' hst hf
      simp only [fillF, Act.put, List.take_succ_cons, List.take_zero, List.drop_succ_cons, List.drop_zero, List.setIfInBounds_toArray, List.set_cons_zero, List.set_cons_succ] at ha' ⊢
      subst ha'
      obtain ⟨g, e3, hT⟩ := hf 3 (by decide)
      have zr6 := zr.call hst
      have hb6 := below_stepH hb5 hb5.size hst
      simp only [e3]
      clear hf hst zr z4 cA HC HD hb5
      generalize vs 0 = x0
      generalize vs 1 = x1
      generalize vs 2 = x2
      obtain ⟨y0, y1, y2, y3, y4, y5, y6⟩ := zr6.cells7
      have f0 := zr6.free 0
      have f1 := zr6.free 1
      have f2 := zr6.free 2
      have f3 := zr6.free 3
      have f4 := zr6.free 4
      have f5 := zr6.free 5
      have f6 := zr6.free 6
      have HZ := Lib.hid (And.intro zr6 (And.intro hb6 hT.out))
      clear zr6 hb6 hT
      go_wp2_with fail
      obtain ⟨zr6, hb6, hT⟩ := HZ.out
      exact bodyPost_ret (results_expr rfl _ _ g1 _ _ _ _ _ _ _ rfl zr6.set7) rfl ⟨opN op [(litT 2 q 0 []), colT nA], some ⟨g, 0, none⟩, 2, rfl, Lib.hid (HBD.out false), Lib.hid ((hT.set7 HG1.out.1).mono HG1.out.2.1), below_set7 hb6 HG1.out.2.2.1⟩
end Go.Proofs.YtablacloabpjfabGreatDoor
