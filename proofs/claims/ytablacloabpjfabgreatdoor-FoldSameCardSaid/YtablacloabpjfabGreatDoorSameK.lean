/-
  CONTRACT of chirograph/chirographkeep.sameExpr: two expressions that are the same tree say the same.
  CONDITIONS: each theorem's own hypotheses.
-/
import Derived.Test.YtablacloabpjfabGreatDoorFoldC
namespace Go.Proofs.YtablacloabpjfabGreatDoor
open Go.RowKit
set_option linter.unusedVariables false
set_option maxRecDepth 100000

def sameKOk (n : Nat) : Prop := ∀ (t : T) (ao : Option Addr) (cap : Nat) (ap : Option Addr) (caq : Nat) (w : World), t.deep ≤ n → AtT w t ao → t.kids.length ≤ 1000000 → AtT w t ap → (∀ d l, t = .mk d l → FewK l) →
    Calls Tryz.prog 33 #[exprV t ao cap, exprV t ap caq] w fun e w' => e = .returned (.bool true) ∧ Below w.heap.size w w'
set_option maxHeartbeats 16000000 in
theorem sameK_step (m : Nat) (IH : sameKOk m) : sameKOk (m + 1) := by
  rintro ⟨d, l⟩ ao cap ap caq w hdp hA hk hP hfew
  have hdl : deepL l ≤ m := by simp only [T.deep] at hdp; omega
  simp only [AtT] at hA hP
  simp only [T.kids] at hk
  obtain ⟨n, hln⟩ : ∃ n, l.length = n := ⟨_, rfl⟩
  have hfw := hfew d l rfl
  have hget : ∀ j, j < n → ∃ t, l[j]? = some t := fun j hj => ⟨l[j]'(by omega), List.getElem?_eq_getElem (by omega)⟩
  have hpart : ∀ (j : Nat) (t : T), l[j]? = some t → ∃ a o ao' cap' b p ap' caq', (ao = some ⟨a, o, none⟩ ∧ a < w.heap.size) ∧ (ap = some ⟨b, p, none⟩ ∧ b < w.heap.size) ∧ (w.cell? ⟨a, o + j * 7, none⟩ = some (.int .i64 t.nd.op) ∧ w.cell? ⟨a, o + j * 7 + 1, none⟩ = some (.int .i64 t.nd.k) ∧ w.cell? ⟨a, o + j * 7 + 2, none⟩ = some (.int .i64 t.nd.i) ∧ w.cell? ⟨a, o + j * 7 + 3, none⟩ = some (.int .u64 t.nd.b) ∧ w.cell? ⟨a, o + j * 7 + 4, none⟩ = some (.string (str t.nd.t)) ∧ w.cell? ⟨a, o + j * 7 + 5, none⟩ = some (.string (str t.nd.n)) ∧ w.cell? ⟨a, o + j * 7 + 6, none⟩ = some (.slice ao' t.kids.length cap')) ∧
      (w.cell? ⟨b, p + j * 7, none⟩ = some (.int .i64 t.nd.op) ∧ w.cell? ⟨b, p + j * 7 + 1, none⟩ = some (.int .i64 t.nd.k) ∧ w.cell? ⟨b, p + j * 7 + 2, none⟩ = some (.int .i64 t.nd.i) ∧ w.cell? ⟨b, p + j * 7 + 3, none⟩ = some (.int .u64 t.nd.b) ∧ w.cell? ⟨b, p + j * 7 + 4, none⟩ = some (.string (str t.nd.t)) ∧ w.cell? ⟨b, p + j * 7 + 5, none⟩ = some (.string (str t.nd.n)) ∧ w.cell? ⟨b, p + j * 7 + 6, none⟩ = some (.slice ap' t.kids.length caq')) ∧
      ∀ W, Below w.heap.size w W → Calls Tryz.prog 33 #[exprV t ao' cap', exprV t ap' caq'] W fun e w' => e = .returned (.bool true) ∧ Below W.heap.size W w' := fun j t htj => by
    obtain ⟨a, o, e, ha, hnode⟩ := AtL.at hA.2 j t htj
    obtain ⟨b, p, e2, hb, hnode2⟩ := AtL.at hP.2 j t htj
    rw [Nat.zero_add] at hnode hnode2
    obtain ⟨ao', cap', n1, n2, nA, x0, x1, x2, x3, x4, x5, x6⟩ := hnode.cells
    obtain ⟨ap', caq', m1, m2, mA, y0, y1, y2, y3, y4, y5, y6⟩ := hnode2.cells
    have hm := List.mem_of_getElem? htj
    exact ⟨a, o, ao', cap', b, p, ap', caq', ⟨e, ha⟩, ⟨e2, hb⟩, ⟨x0, x1, x2, x3, x4, x5, x6⟩, ⟨y0, y1, y2, y3, y4, y5, y6⟩, fun W hW => IH t ao' cap' ap' caq' W (Nat.le_trans (deepK_mem htj) hdl) (nA.keep hW) (hfw.len t hm) (mA.keep hW) (hfw.sub t hm)⟩
  have HGET := Lib.hid hget
  have HPART := Lib.hid hpart
  have HLN := Lib.hid hln
  rw [exprV_cells, exprV_cells]
  simp only [T.nd, T.kids]
  rw [hln]
  rw [hln] at hk
  generalize str d.t = S
  generalize str d.n = N
  obtain ⟨z0, z1, hb2⟩ := two_new w #[.int .i64 d.op, .int .i64 d.k, .int .i64 d.i, .int .u64 d.b, .string S, .string N, .slice ao n cap] #[.int .i64 d.op, .int .i64 d.k, .int .i64 d.i, .int .u64 d.b, .string S, .string N, .slice ap n caq] 27 27
  generalize hw2 : (w.alloc (.cells #[.int .i64 d.op, .int .i64 d.k, .int .i64 d.i, .int .u64 d.b, .string S, .string N, .slice ao n cap] 27)).alloc (.cells #[.int .i64 d.op, .int .i64 d.k, .int .i64 d.i, .int .u64 d.b, .string S, .string N, .slice ap n caq] 27) = w2 at z0 z1 hb2
  obtain ⟨p0, p1, p2, p3, p4, p5, p6⟩ := z0.cells7
  obtain ⟨q0, q1, q2, q3, q4, q5, q6⟩ := z1.cells7
  generalize d.op = op at *
  generalize d.k = dk at *
  generalize d.i = di at *
  generalize d.b = db at *
  clear hget hpart hln hA hP hfw hfew hdl hdp IH
  go_enter Tryz.func33, Tryz.ntmps33
  go_upto_region 1 with fail
  try rw [hw2]
  clear hw2
  go_wp2_with fail
  go_loopw [37] (fun ix wr => ∃ (j : Nat), j ≤ n ∧ ix = .int .i64 j ∧ Hid (Blk wr w.heap.size 27 [.int .i64 op, .int .i64 dk, .int .i64 di, .int .u64 db, .string S, .string N, .slice ao n cap]) ∧ Hid (Blk wr (w.heap.size + 1) 27 [.int .i64 op, .int .i64 dk, .int .i64 di, .int .u64 db, .string S, .string N, .slice ap n caq]) ∧ Hid (Below w.heap.size w wr)) (fun ix _ => n - (intOf ix).toNat)
  case atStart => exact ⟨0, Nat.zero_le _, rfl, Lib.hid z0, Lib.hid z1, Lib.hid hb2⟩
  case round =>
    obtain ⟨j, hj, rfl, y0, y1, hbw⟩ := hrel
    clear z0 z1 hb2 p0 p1 p2 p3 p4 p5 p6 q0 q1 q2 q3 q4 q5 q6
    by_cases hlt : j < n
    · have iI : (j : Int) < (n : Int) := by omega
      obtain ⟨t, htj⟩ := HGET.out j hlt
      obtain ⟨a, o, ao', cap', b, p, ap', caq', ⟨rfl, ha⟩, ⟨rfl, hb⟩, ⟨x0, x1, x2, x3, x4, x5, x6⟩, ⟨g0, g1, g2, g3, g4, g5, g6⟩, cS⟩ := HPART.out j t htj
      simp only [exprV_cells] at cS
      generalize t.kids.length = KL at *
      generalize t.nd = nd at *
      obtain ⟨op', k', i', b', s', nm'⟩ := nd
      simp only at x0 x1 x2 x3 x4 x5 x6 g0 g1 g2 g3 g4 g5 g6 cS
      generalize str s' = S' at *
      generalize str nm' = N' at *
      have ha1 : a < wr.heap.size := Nat.lt_of_lt_of_le ha hbw.out.size
      have hb1 : b < wr.heap.size := Nat.lt_of_lt_of_le hb hbw.out.size
      have d0 := (hbw.out.cell (p := ⟨a, o + j * 7, none⟩) ha).trans x0
      have d1 := (hbw.out.cell (p := ⟨a, o + j * 7 + 1, none⟩) ha).trans x1
      have d2 := (hbw.out.cell (p := ⟨a, o + j * 7 + 2, none⟩) ha).trans x2
      have d3 := (hbw.out.cell (p := ⟨a, o + j * 7 + 3, none⟩) ha).trans x3
      have d4 := (hbw.out.cell (p := ⟨a, o + j * 7 + 4, none⟩) ha).trans x4
      have d5 := (hbw.out.cell (p := ⟨a, o + j * 7 + 5, none⟩) ha).trans x5
      have d6 := (hbw.out.cell (p := ⟨a, o + j * 7 + 6, none⟩) ha).trans x6
      have c0 := (hbw.out.cell (p := ⟨b, p + j * 7, none⟩) hb).trans g0
      have c1 := (hbw.out.cell (p := ⟨b, p + j * 7 + 1, none⟩) hb).trans g1
      have c2 := (hbw.out.cell (p := ⟨b, p + j * 7 + 2, none⟩) hb).trans g2
      have c3 := (hbw.out.cell (p := ⟨b, p + j * 7 + 3, none⟩) hb).trans g3
      have c4 := (hbw.out.cell (p := ⟨b, p + j * 7 + 4, none⟩) hb).trans g4
      have c5 := (hbw.out.cell (p := ⟨b, p + j * 7 + 5, none⟩) hb).trans g5
      have c6 := (hbw.out.cell (p := ⟨b, p + j * 7 + 6, none⟩) hb).trans g6
      have hz0 := y0.out
      have hz1 := y1.out
      have hbb := hbw.out
      clear htj x0 x1 x2 x3 x4 x5 x6 g0 g1 g2 g3 g4 g5 g6 ha hb y0 y1 hbw
      go_upto_region 6 with fail
      refine wp_region_det 12 (by kernel_rfl) (by kernel_rfl) (by kernel_rfl) ?_
      simp only [List.take_succ_cons, List.take_zero, List.drop_succ_cons, List.drop_zero]
      apply wpDet_plain _ rfl; (focus (intro W hW; go_simp; exact ⟨rfl, Below.refl _ _⟩)); simp only [Act.put, List.setIfInBounds_toArray, List.set_cons_zero, List.set_cons_succ]
      apply wpDet_plain _ rfl; (focus (intro W hW; have q0 := (hz0.call hW).cell (j := 6) rfl; go_simp; exact ⟨rfl, Below.refl _ _⟩)); simp only [Act.put, List.setIfInBounds_toArray, List.set_cons_zero, List.set_cons_succ]
      apply wpDet_plain _ rfl; (focus (intro W hW; go_simp; exact ⟨rfl, Below.refl _ _⟩)); simp only [Act.put, List.setIfInBounds_toArray, List.set_cons_zero, List.set_cons_succ]
      apply wpDet_plain _ rfl; (focus (intro W hW; go_simp; exact ⟨rfl, Below.refl _ _⟩)); simp only [Act.put, List.setIfInBounds_toArray, List.set_cons_zero, List.set_cons_succ]
      apply wpDet_plain _ rfl; (focus (intro W hW; have q0 := (hW.cell (p := ⟨a, o + j * 7, none⟩) ha1).trans d0; have q1 := (hW.cell (p := ⟨a, o + j * 7 + 1, none⟩) ha1).trans d1; have q2 := (hW.cell (p := ⟨a, o + j * 7 + 2, none⟩) ha1).trans d2; have q3 := (hW.cell (p := ⟨a, o + j * 7 + 3, none⟩) ha1).trans d3; have q4 := (hW.cell (p := ⟨a, o + j * 7 + 4, none⟩) ha1).trans d4; have q5 := (hW.cell (p := ⟨a, o + j * 7 + 5, none⟩) ha1).trans d5; have q6 := (hW.cell (p := ⟨a, o + j * 7 + 6, none⟩) ha1).trans d6; go_simp; exact ⟨rfl, Below.refl _ _⟩)); simp only [Act.put, List.setIfInBounds_toArray, List.set_cons_zero, List.set_cons_succ]
      apply wpDet_plain _ rfl; (focus (intro W hW; go_simp; exact ⟨rfl, Below.refl _ _⟩)); simp only [Act.put, List.setIfInBounds_toArray, List.set_cons_zero, List.set_cons_succ]
      apply wpDet_plain _ rfl; (focus (intro W hW; have q0 := (hz1.call hW).cell (j := 6) rfl; go_simp; exact ⟨rfl, Below.refl _ _⟩)); simp only [Act.put, List.setIfInBounds_toArray, List.set_cons_zero, List.set_cons_succ]
      apply wpDet_plain _ rfl; (focus (intro W hW; go_simp; exact ⟨rfl, Below.refl _ _⟩)); simp only [Act.put, List.setIfInBounds_toArray, List.set_cons_zero, List.set_cons_succ]
      apply wpDet_plain _ rfl; (focus (intro W hW; go_simp; exact ⟨rfl, Below.refl _ _⟩)); simp only [Act.put, List.setIfInBounds_toArray, List.set_cons_zero, List.set_cons_succ]
      apply wpDet_plain _ rfl; (focus (intro W hW; have q0 := (hW.cell (p := ⟨b, p + j * 7, none⟩) hb1).trans c0; have q1 := (hW.cell (p := ⟨b, p + j * 7 + 1, none⟩) hb1).trans c1; have q2 := (hW.cell (p := ⟨b, p + j * 7 + 2, none⟩) hb1).trans c2; have q3 := (hW.cell (p := ⟨b, p + j * 7 + 3, none⟩) hb1).trans c3; have q4 := (hW.cell (p := ⟨b, p + j * 7 + 4, none⟩) hb1).trans c4; have q5 := (hW.cell (p := ⟨b, p + j * 7 + 5, none⟩) hb1).trans c5; have q6 := (hW.cell (p := ⟨b, p + j * 7 + 6, none⟩) hb1).trans c6; go_simp; exact ⟨rfl, Below.refl _ _⟩)); simp only [Act.put, List.setIfInBounds_toArray, List.set_cons_zero, List.set_cons_succ]
      apply wpDet_plain _ rfl; (focus (intro W hW; go_simp; exact cS W (below_stepE hbb hbb.size hW))); simp only [Act.put, List.setIfInBounds_toArray, List.set_cons_zero, List.set_cons_succ]
      apply wpDet_plain _ rfl; (focus (intro W hW; go_simp; exact ⟨rfl, Below.refl _ _⟩)); simp only [Act.put, List.setIfInBounds_toArray, List.set_cons_zero, List.set_cons_succ]
      refine wpDet_nil ?_; intro W hW
      have Y0 := Lib.hid (hz0.call hW)
      have Y1 := Lib.hid (hz1.call hW)
      have HB := Lib.hid (below_stepE hbb hbb.size hW)
      clear cS c0 c1 c2 c3 c4 c5 c6 d0 d1 d2 d3 d4 d5 d6 hz0 hz1 hbb hW ha1 hb1
      go_wp2_with fail
      go_roundw
      case rel => exact ⟨j + 1, by omega, by go_num, Y0, Y1, HB⟩
      case measure => simp [intOf]; omega
    · have iI : ¬ (j : Int) < (n : Int) := by omega
      go_wp2_with fail
      go_ret
      exact ⟨rfl, hbw.out⟩
theorem sameK_any : ∀ n, sameKOk n := by
  intro n
  induction n with
  | zero => intro t ao cap ap caq w h; have := T.deep_eq t; omega
  | succ n ih => exact sameK_step n ih
end Go.Proofs.YtablacloabpjfabGreatDoor
