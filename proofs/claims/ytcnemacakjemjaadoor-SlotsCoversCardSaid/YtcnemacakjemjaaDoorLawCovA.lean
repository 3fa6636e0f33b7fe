/-
  CONTRACTS of the law's sameSlot and sameCover, at things that are the same.
  CONDITIONS: each theorem's own hypotheses.
-/
import Derived.Test.YtcnemacakjemjaaDoorSame
import Derived.Test.YtcnemacakjemjaaDoorListsL
import Derived.Test.YtcnemacakjemjaaDoorGSlot
import Derived.Test.YtcnemacakjemjaaDoorGRefS
import Derived.Test.YtcnemacakjemjaaDoorCovH
import Derived.Test.YtcnemacakjemjaaDoorGReg
namespace Go.Proofs.YtcnemacakjemjaaDoor
open Go.RowKit CodeMath Go.Proofs.YtcnemacakjemjaaDoor.FrameMath
set_option linter.unusedVariables false
set_option maxRecDepth 100000

set_option maxHeartbeats 1000000 in
theorem lawSlot_same (f : Bool) (s d : List UInt8) (u1 u2 v1 v2 : Value) (w : World) (h1 : RowV w u1 s) (h2 : RowV w u2 d) (h3 : RowV w v1 s) (h4 : RowV w v2 d) :
    Calls Tryd.prog 13 #[.agg #[.bool f, u1, u2], .agg #[.bool f, v1, v2]] w fun e w' => e = .returned (.bool true) ∧ Below w.heap.size w w' := by
  obtain ⟨a1, k1, rfl, -, q1, -, b1⟩ := h1
  obtain ⟨a2, k2, rfl, -, q2, -, b2⟩ := h2
  obtain ⟨a3, k3, rfl, -, q3, -, b3⟩ := h3
  obtain ⟨a4, k4, rfl, -, q4, -, b4⟩ := h4
  have hba := fun o o' => ((Below.refl w.heap.size w).alloc (Nat.le_refl _) o).alloc (by simp) o'
  have c1 := fun o o' => lawSameBytes_any s a1 a3 k1 k3 _ (b1.keep (hba o o')) (b3.keep (hba o o'))
  have c2 := fun o o' => lawSameBytes_any d a2 a4 k2 k4 _ (b2.keep (hba o o')) (b4.keep (hba o o'))
  clear b1 b2 b3 b4 q1 q2 q3 q4
  generalize s.length = l1 at *
  generalize d.length = l2 at *
  go_enter Tryd.func13, Tryd.ntmps13
  go_wp2_with fail
  refine (c1 _ _).mono ?_
  rintro e w1 ⟨rfl, rfl⟩
  go_wp2_with fail
  refine (c2 _ _).mono ?_
  rintro e w1 ⟨rfl, rfl⟩
  go_wp2_with fail
  go_ret
  exact ⟨rfl, hba _ _⟩
set_option maxHeartbeats 4000000 in
theorem lawCover_same (SS : List Sl) (RR : List (List UInt8)) (a1 : Option Addr) (k1 : Nat) (a2 : Option Addr) (k2 : Nat) (a3 : Option Addr) (k3 : Nat) (a4 : Option Addr) (k4 : Nat) (w : World) (h1 : Slots w a1 SS) (h2 : Lines w a2 RR) (h3 : Slots w a3 SS) (h4 : Lines w a4 RR) (hs : SS.length ≤ 1000000) (hr : RR.length ≤ 9223372036854775807) :
    Calls Tryd.prog 6 #[.agg #[.slice a1 SS.length k1, .slice a2 RR.length k2], .agg #[.slice a3 SS.length k3, .slice a4 RR.length k4]] w fun e w' => e = .returned (.bool true) ∧ Below w.heap.size w w' := by
  obtain ⟨so, hso⟩ : ∃ k, SS.length = k := ⟨_, rfl⟩
  obtain ⟨ro, hro⟩ : ∃ k, RR.length = k := ⟨_, rfl⟩
  have HSO := Lib.hid hso
  have cL := fun W (hW : Below w.heap.size w W) => lawLists_any RR RR a2 a4 k2 k4 W (h2.keep hW) (h4.keep hW) (by omega) (by omega)
  simp only at cL
  rw [hro] at cL
  rw [hso, hro]
  obtain ⟨w2, hw2⟩ : ∃ w2, (w.alloc (.cells #[.slice a1 so k1, .slice a2 ro k2] 26)).alloc (.cells #[.slice a3 so k3, .slice a4 ro k4] 26) = w2 := ⟨_, rfl⟩
  have hb1 : Below w.heap.size w (w.alloc (.cells #[.slice a1 so k1, .slice a2 ro k2] 26)) := (Below.refl _ _).alloc (Nat.le_refl _) _
  have hb2 : Below w.heap.size w w2 := by rw [← hw2]; exact hb1.alloc hb1.size _
  have z1 : Blk w2 w.heap.size 26 [.slice a1 so k1, .slice a2 ro k2] := by rw [← hw2]; exact (Blk.new w #[.slice a1 so k1, .slice a2 ro k2] 26).alloc _
  have z2 : Blk w2 (w.heap.size + 1) 26 [.slice a3 so k3, .slice a4 ro k4] := by rw [← hw2]; exact Blk.atNew _ _ (by simp)
  have HX := Lib.hid (And.intro (h1.keep hb2) (h3.keep hb2))
  have soI : (so : Int) ≤ 1000000 := by omega
  have HZ := Lib.hid (And.intro z1 z2)
  have y0 := z1.cell (j := 0) rfl
  have y1 := z2.cell (j := 0) rfl
  have HB := Lib.hid hb2
  clear h1 h2 h3 h4 hs hr hso hro z1 z2 hb1 hb2
  go_enter Tryd.func6, Tryd.ntmps6
  go_upto_region 1 with fail
  try rw [hw2]
  clear hw2
  obtain ⟨g1, hg1⟩ : ∃ g, w.heap.size = g := ⟨_, rfl⟩
  have HG := Lib.hid hg1
  have hbs := HB.out.size
  rw [hg1] at HZ HB y0 y1 hbs ⊢
  clear hg1
  go_wp2_with fail
  have hB9 := Below.refl w2.heap.size w2
  go_loopw [5, 16] (fun _ ix wr => ∃ p : Nat, p ≤ so ∧ ix = .int .i64 p ∧ Below w2.heap.size w2 wr) (fun _ ix _ => so - (intOf ix).toNat)
  case atStart => exact ⟨0, Nat.zero_le _, rfl, hB9⟩
  case round =>
    obtain ⟨p, hp, rfl, hbr⟩ := hrel
    clear hB9 y0 y1
    by_cases hlt : p < so
    · have pI : (p : Int) < so := by omega
      have H2 := Lib.hid hlt
      obtain ⟨y, hy⟩ : ∃ y, SS[p]? = some y := ⟨_, List.getElem?_eq_getElem (by rw [HSO.out]; exact hlt)⟩
      rcases HX.out.1 with h0 | ⟨gU, oU, eU, hgU, hatU⟩
      · rw [h0] at hy; simp at hy
      rcases HX.out.2 with h0 | ⟨gV, oV, eV, hgV, hatV⟩
      · rw [h0] at hy; simp at hy
      subst eU eV
      obtain ⟨ua, ub, s0, s1, s2, s3, s4⟩ := hatU p y hy
      obtain ⟨ta, tb, t0, t1, t2, t3, t4⟩ := hatV p y hy
      have Q : Hid (∀ W, Below wr.heap.size wr W → W.cell? ⟨g1, 0, none⟩ = some (.slice (some ⟨gU, oU, none⟩) so k1) ∧ W.cell? ⟨gU, oU + p * 3, none⟩ = some (.bool y.f) ∧ W.cell? ⟨gU, oU + p * 3 + 1, none⟩ = some ua ∧ W.cell? ⟨gU, oU + p * 3 + 2, none⟩ = some ub ∧ W.cell? ⟨g1 + 1, 0, none⟩ = some (.slice (some ⟨gV, oV, none⟩) so k3) ∧ W.cell? ⟨gV, oV + p * 3, none⟩ = some (.bool y.f) ∧ W.cell? ⟨gV, oV + p * 3 + 1, none⟩ = some ta ∧ W.cell? ⟨gV, oV + p * 3 + 2, none⟩ = some tb) := Lib.hid fun W hW => by
        have hq7 := below_step hbr hbr.size hW
        exact ⟨(HZ.out.1.call hq7).cell (j := 0) rfl, (hq7.cell (p := ⟨gU, oU + p * 3, none⟩) hgU).trans s0, (hq7.cell (p := ⟨gU, oU + p * 3 + 1, none⟩) hgU).trans s1, (hq7.cell (p := ⟨gU, oU + p * 3 + 2, none⟩) hgU).trans s2, (HZ.out.2.call hq7).cell (j := 0) rfl, (hq7.cell (p := ⟨gV, oV + p * 3, none⟩) hgV).trans t0, (hq7.cell (p := ⟨gV, oV + p * 3 + 1, none⟩) hgV).trans t1, (hq7.cell (p := ⟨gV, oV + p * 3 + 2, none⟩) hgV).trans t2⟩
      have CS : Hid (∀ W, Below wr.heap.size wr W → Calls Tryd.prog 13 #[.agg #[.bool y.f, ua, ub], .agg #[.bool y.f, ta, tb]] W fun e w' => e = .returned (.bool true) ∧ Below W.heap.size W w') := Lib.hid fun W hW => by
        have hq7 := below_step hbr hbr.size hW
        exact lawSlot_same y.f y.s y.d ua ub ta tb W (s3.keep hq7) (s4.keep hq7) (t3.keep hq7) (t4.keep hq7)
      obtain ⟨xa, xk, rfl, -⟩ := id s3
      obtain ⟨xb, xl, rfl, -⟩ := id s4
      obtain ⟨ya, yk, rfl, -⟩ := id t3
      obtain ⟨yb, yl, rfl, -⟩ := id t4
      generalize y.s.length = l1 at *
      generalize y.d.length = l2 at *
      generalize y.f = yf at *
      clear hlt hy s0 s1 s2 s3 s4 t0 t1 t2 t3 t4 hgU hgV hatU hatV
      go_upto_region 6 with fail
      refine wp_region_det 12 (by kernel_rfl) (by kernel_rfl) (by kernel_rfl) ?_
      simp only [List.take_succ_cons, List.take_zero, List.drop_succ_cons, List.drop_zero]
      iterate 10 (apply wpDet_plain _ rfl; (focus (intro W hW; have qq := Q.out W hW; obtain ⟨z0, z1, z2, z3, z4, z5, z6, z7⟩ := qq; go_simp; exact ⟨rfl, Below.refl _ _⟩)); simp only [Act.put, List.setIfInBounds_toArray, List.set_cons_zero, List.set_cons_succ])
      apply wpDet_plain _ rfl; (focus (intro W hW; go_simp; exact CS.out W hW)); simp only [Act.put, List.setIfInBounds_toArray, List.set_cons_zero, List.set_cons_succ]
      iterate 1 (apply wpDet_plain _ rfl; (focus (intro W hW; go_simp; exact ⟨rfl, Below.refl _ _⟩)); simp only [Act.put, List.setIfInBounds_toArray, List.set_cons_zero, List.set_cons_succ])
      refine wpDet_nil ?_; intro W hW
      have hbr2 := below_step hbr hbr.size hW
      clear Q CS hW hbr
      go_wp2_with fail
      go_roundw
      case rel => exact ⟨p + 1, H2.out, by go_num, hbr2⟩
      case measure => have := H2.out; simp [intOf]; omega
    · have pI : ¬ (p : Int) < so := by omega
      have q1 := (HZ.out.1.call hbr).cell (j := 1) rfl
      have q2 := (HZ.out.2.call hbr).cell (j := 1) rfl
      have hbw := below_step HB.out hbs hbr
      have hbz := Nat.le_trans hbs hbr.size
      have c := cL wr (by rw [HG.out]; exact hbw)
      clear hlt hp
      go_wp2_with fail
      refine c.mono ?_
      rintro e w9 ⟨rfl, hb9⟩
      have hbe := below_step hbw hbz hb9
      go_wp2_with fail
      go_ret
      exact ⟨rfl, by rw [HG.out]; exact hbe⟩
end Go.Proofs.YtcnemacakjemjaaDoor
