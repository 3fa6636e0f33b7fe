/-
  CONTRACTS of package eval's folded and Fold: the walks.
  CONDITIONS: each theorem's own hypotheses; the tables, package lex's signs and package expr's forms hold what their initialisers lay ('XEnv').
-/
import Derived.Test.YtablacloabpjfabGreatDoorFoldB
import Derived.Laws.MakeOwn
namespace Go.Proofs.YtablacloabpjfabGreatDoor
open Go.RowKit
set_option linter.unusedVariables false
set_option maxRecDepth 100000

theorem infoFE : (Tryz.prog.info? 27).map (fun i => (i.zero, i.size, i.bytes)) = some (some (.agg #[.int .i64 0, .int .i64 0, .int .i64 0, .int .u64 0, .string ⟨#[]⟩, .string ⟨#[]⟩, .slice none 0 0]), 7, 88) := by kernel_rfl
def zeroV : Value := .agg #[.int .i64 0, .int .i64 0, .int .i64 0, .int .u64 0, .string ⟨#[]⟩, .string ⟨#[]⟩, .slice none 0 0]
theorem made0 : madeCells zeroV.cells (0 * 7) = (zeroFE 0).toArray := by kernel_rfl
theorem made1 : madeCells zeroV.cells (1 * 7) = (zeroFE 1).toArray := by kernel_rfl
theorem made2 : madeCells zeroV.cells (2 * 7) = (zeroFE 2).toArray := by kernel_rfl
theorem make_exprs (n : Nat) (hn : n ≤ 2) (W : World) : (Instr.makeSlice 25 (.int .i64 (n : Int)) (.int .i64 (n : Int))).run Tryz.prog W = .ok (.slice (some ⟨W.heap.size, 0, none⟩) n n) (W.alloc (.cells (zeroFE n).toArray 27)) := by
  obtain ⟨i0, hi, hz0, hz1, hz2⟩ := info_parts infoFE
  have := run_make (P := Tryz.prog) W _ _ i0 _ Tryz.underlying25 hi hz0 .i64 .i64 n n (by omega) (Int.le_refl _) (by rw [hz2]; omega) (by omega)
  simp only [Int.toNat_natCast, hz1] at this
  rw [this]
  have e : madeCells zeroV.cells (n * 7) = (zeroFE n).toArray := by
    rcases (show n = 0 ∨ n = 1 ∨ n = 2 by omega) with rfl | rfl | rfl
    · exact made0
    · exact made1
    · exact made2
  rw [← e]; rfl
theorem fexprV (t : T) (ao : Option Addr) (cap : Nat) : ∃ (xo xk xi xb : Int) (xs xm : ByteArray) (xl : Nat), exprV t ao cap = .agg #[.int .i64 xo, .int .i64 xk, .int .i64 xi, .int .u64 xb, .string xs, .string xm, .slice ao xl cap] ∧ xcells t ao cap = [.int .i64 xo, .int .i64 xk, .int .i64 xi, .int .u64 xb, .string xs, .string xm, .slice ao xl cap] := ⟨_, _, _, _, _, _, _, exprV_cells t ao cap, rfl⟩
theorem fold_mk {d : Nd} {l : List T} (hF : FitT (.mk d l)) (hf : formT (.mk d l) = 0) : formT (.mk d (foldL l)) = 0 ∧ FitT (.mk d (foldL l)) := by
  obtain ⟨hn, hl⟩ := formT_open d l hf
  simp only [FitT] at hF
  have hm : ∀ t ∈ foldL l, formT t = 0 ∧ FitT t := fun t ht => by
    rw [foldL_map] at ht
    obtain ⟨u, hu, rfl⟩ := List.mem_map.1 ht
    have := fold_form u.deep u (Nat.le_refl _) (hF.2.mem u hu) (formL_mem l hl u hu)
    exact ⟨this.1, this.2.1⟩
  constructor
  · simp only [formT]
    have e : (foldL l).length = l.length := by rw [foldL_map, List.length_map]
    rw [e, hn, if_neg (by decide)]
    exact formL_of _ (fun t ht => (hm t ht).1)
  · simp only [FitT]
    exact ⟨hF.1, fitL_of _ (fun t ht => (hm t ht).2)⟩
theorem foldT_leaf (d : Nd) : foldT (.mk d []) = .mk d [] := by simp [foldT]
theorem foldT_node (d : Nd) (l : List T) (h : l ≠ []) : foldT (.mk d l) = nodeX d (foldL l) := by
  simp only [foldT]
  rw [if_neg (by simpa using h)]
theorem nodeX_say (d : Nd) (l : List T) (R : RE) (hR : evT [] [] (.mk d l) = R) : nodeX d l = if (litsL l && ((R.f == 0) && decide (0 ≤ R.v.i))) = true then litV R.v else .mk d l := by
  unfold nodeX
  rw [hR]
  cases litsL l
  · rfl
  · by_cases h : R.f = 0 ∧ 0 ≤ R.v.i
    · rw [if_pos rfl, if_pos h, if_pos (by simp [h.1, h.2])]
    · rw [if_pos rfl, if_neg h, if_neg (by simpa using h)]
/-- The last step of a walk: a result's cell is written. -/
theorem fold_done {u : T} {w w6 : World} {ao : Option Addr} {cap : Nat} {g : Nat} {a0 a1 a2 a3 a4 a5 a6 : Value} (hb : Below w.heap.size w w6) (hX : XTb (g + 1) w6 u ao cap) (hg : w.heap.size ≤ g) (he : exprV u ao cap = .agg #[a0, a1, a2, a3, a4, a5, a6]) :
    FoldPost u w (.returned (.agg #[a0, a1, a2, a3, a4, a5, a6])) (((((((w6.setCell ⟨g, 0, none⟩ a0).setCell ⟨g, 1, none⟩ a1).setCell ⟨g, 2, none⟩ a2).setCell ⟨g, 3, none⟩ a3).setCell ⟨g, 4, none⟩ a4).setCell ⟨g, 5, none⟩ a5).setCell ⟨g, 6, none⟩ a6) :=
  ⟨ao, cap, by rw [he], (hX.set7 (Nat.lt_succ_self g)).mono (by omega), below_set7 hb hg⟩
theorem xtb_leaf (b : Nat) (w : World) (d : Nd) (h : FitN d) : XTb b w (.mk d []) none 0 := xt_leaf _ d h
theorem fas_ll (W : World) (v : Value) : (Instr.typeAssert (.iface 97 v) 83 97 true).run Tryz.prog W = .ok (.tuple #[v, .bool true]) W := by kernel_rfl
theorem fas_cl (W : World) (v : Value) : (Instr.typeAssert (.iface 100 v) 83 97 true).run Tryz.prog W = .ok (.tuple #[.agg #[.int .i64 0, .int .i64 0, .int .u64 0, .string ⟨#[]⟩], .bool false]) W := by kernel_rfl
theorem fas_cc (W : World) (v : Value) : (Instr.typeAssert (.iface 100 v) 83 100 true).run Tryz.prog W = .ok (.tuple #[v, .bool true]) W := by kernel_rfl
theorem name_len (d : Nd) (h2 : d.op = 2) (hn : nodeF d 0 = 0) : d.n.length ≤ 1000 := by
  obtain ⟨_, _, h, _⟩ := nodeF_open d _ hn
  unfold nOk at h
  rw [if_pos h2] at h
  simp only [beq_iff_eq] at h
  unfold tokC at h
  rw [if_neg (by decide)] at h
  split at h
  · exact absurd h (by decide)
  · rename_i h3
    unfold tooL at h3
    simp at h3
    omega
set_option maxHeartbeats 16000000 in
theorem folded_step (m : Nat) (IH : FoldOk m) : FoldOk (m + 1) := by
  rintro ⟨d, l⟩ ao cap w hdp hf hA hcap hcap2 hT
  obtain ⟨hn, hl⟩ := formT_open d l hf
  have hno := nodeF_open d _ hn
  have hdl : deepL l ≤ m := by simp only [T.deep] at hdp; omega
  have hF := atT_fit (T.mk d l).deep _ ao (Nat.le_refl _) hA
  obtain ⟨hmf, hmF⟩ := fold_mk hF hf
  simp only [AtT] at hA
  simp only [T.kids] at hcap
  have hL2 : l.length ≤ 2 := by rw [hno.2.1]; unfold partsN; split <;> (try split) <;> omega
  obtain ⟨n, hln⟩ : ∃ n, l.length = n := ⟨_, rfl⟩
  have hget : ∀ j, j < n → ∃ t, l[j]? = some t := fun j hj => ⟨l[j]'(by omega), List.getElem?_eq_getElem (by omega)⟩
  have hpart : ∀ (j : Nat) (t : T), l[j]? = some t → ∃ a o ao' cap', ao = some ⟨a, o, none⟩ ∧ a < w.heap.size ∧ w.cell? ⟨a, o + j * 7, none⟩ = some (.int .i64 t.nd.op) ∧ w.cell? ⟨a, o + j * 7 + 1, none⟩ = some (.int .i64 t.nd.k) ∧ w.cell? ⟨a, o + j * 7 + 2, none⟩ = some (.int .i64 t.nd.i) ∧ w.cell? ⟨a, o + j * 7 + 3, none⟩ = some (.int .u64 t.nd.b) ∧ w.cell? ⟨a, o + j * 7 + 4, none⟩ = some (.string (str t.nd.t)) ∧ w.cell? ⟨a, o + j * 7 + 5, none⟩ = some (.string (str t.nd.n)) ∧ w.cell? ⟨a, o + j * 7 + 6, none⟩ = some (.slice ao' t.kids.length cap') ∧
      ∀ W, Below w.heap.size w W → Calls Tryz.prog 41 #[exprV t ao' cap'] W (FoldPost (foldT t) W) := fun j t htj => by
    obtain ⟨a, o, e, ha, hnode⟩ := AtL.at hA.2 j t htj
    rw [Nat.zero_add] at hnode
    obtain ⟨ao', cap', n1, n2, nA, x0, x1, x2, x3, x4, x5, x6⟩ := hnode.cells
    exact ⟨a, o, ao', cap', e, ha, x0, x1, x2, x3, x4, x5, x6, fun W hW => IH t ao' cap' W (Nat.le_trans (deepK_mem htj) hdl) (formL_mem l hl t (List.mem_of_getElem? htj)) (nA.keep hW) n1 n2 (tabs_below hT hW)⟩
  have hsnoc : ∀ (j : Nat) (t : T), l[j]? = some t → (foldL l).take (j + 1) = (foldL l).take j ++ [foldT t] := fun j t h => foldL_get l j t h
  have hfull : ∀ j, ¬ j < n → (foldL l).take j = foldL l := fun j hj => List.take_of_length_le (by rw [foldL_map, List.length_map]; omega)
  have hfn : (foldL l).length = n := by rw [foldL_map, List.length_map]; exact hln
  -- what is known once the parts are there
  have hend : ∀ (W : World) (g : Nat) (es : List FE), Below w.heap.size w W → es.map FE.t = foldL l → (∀ x ∈ es, XTb (g + 1) W x.t x.ao x.cap) → Blk W (g + 1) 27 (cellsFE es) → w.heap.size ≤ g →
      XTb (g + 1) W (.mk d (foldL l)) (some ⟨g + 1, 0, none⟩) n ∧ (∀ W', Below W.heap.size W W' → Calls Tryz.prog 47 #[exprV (.mk d (foldL l)) (some ⟨g + 1, 0, none⟩) n] W' fun e w' => e = .returned (readyV (.mk d (foldL l))) ∧ Below W'.heap.size W' w') := fun W g es hW he hx hB hg => by
    have hel : es.length = n := by rw [← hfn, ← he, List.length_map]
    have h1 := xt_row d hA.1 es hx (by omega) (hB.lo (b := g + 1) (Nat.le_refl _))
    rw [he, hel] at h1
    have h2 : XT W (.mk d (foldL l)) (some ⟨g + 1, 0, none⟩) n := XTb.show h1
    exact ⟨h1, fun W' hW' => rdy_any _ (.mk d (foldL l)) _ n W' (Nat.le_refl _) hmf (h2.A.keep hW') h2.n1 h2.n2⟩
  have hmk := fun W => make_exprs n (by omega) W
  have hz2 : zeroFE n = cellsFE [] ++ zeroFE (n - 0) := by simp [cellsFE]
  have hn0 : ∀ es : List FE, es.map FE.t = foldL l → es.length = n := fun es he => by rw [← hfn, ← he, List.length_map]
  have hleaf : n = 0 → l = [] := fun h => List.eq_nil_of_length_eq_zero (by omega)
  have hpn : n = partsN d.op := by rw [← hln]; exact hno.2.1
  have hEE : 3 ≤ d.op → ∀ (W : World), Below w.heap.size w W → Operat (readyV (.mk d (foldL l))) (readyL (foldL l)) ∧ OkR (evT [] [] (.mk d (foldL l))) ∧ Says W (.slice none 0 0) (.slice none 0 0) (readyV (.mk d (foldL l))) (evT [] [] (.mk d (foldL l))) ∧ foldT (.mk d l) = nodeX d (foldL l) := fun h3 W hW => by
    have hlf : (foldL l).length = l.length := by rw [foldL_map, List.length_map]
    have hne : l ≠ [] := fun e => by
      subst e
      have := hno.2.1
      unfold partsN at this
      rw [if_neg (by omega)] at this
      split at this <;> simp at this
    refine ⟨operat_of d (foldL l) h3 (by rw [hlf]; exact hn), ok_ev [] [] (fun v hv => by cases hv) _ _ (Nat.le_refl _) hmF hmf, ?_, foldT_node d l hne⟩
    have hE : EvEnv W [] [] none none := ⟨tabs_below hT hW, ⟨fun c hc => (by cases hc), .inl rfl⟩, ⟨fun c hc => (by cases hc), .inl rfl⟩, by decide, rfl, fun v hv => by cases hv⟩
    have := says_ev W [] [] none 0 none 0 hE _ (.mk d (foldL l)) (Nat.le_refl _) hmF hmf
    simpa using this
  have hFN := hA.1
  have HGET := Lib.hid hget
  have HPART := Lib.hid hpart
  have HSNOC := Lib.hid hsnoc
  have HFULL := Lib.hid hfull
  have HEND := Lib.hid hend
  have HN0 := Lib.hid hn0
  have HLEAF := Lib.hid hleaf
  have HEE := Lib.hid hEE
  have HNO := Lib.hid hno
  have HFN := Lib.hid hFN
  have HPN := Lib.hid hpn
  have HLN := Lib.hid hln
  have HNF := Lib.hid hn
  have HLL := Lib.hid hl
  have HMF := Lib.hid hmf
  rw [exprV_cells]
  simp only [T.nd, T.kids]
  rw [hln]
  obtain ⟨S, hS⟩ : ∃ S, str d.t = S := ⟨_, rfl⟩
  obtain ⟨N, hN⟩ : ∃ N, str d.n = N := ⟨_, rfl⟩
  rw [hS, hN]
  have HSS := Lib.hid hS
  have HNN := Lib.hid hN
  obtain ⟨z0, z1, z2, hb3⟩ := three_new w #[.int .i64 d.op, .int .i64 d.k, .int .i64 d.i, .int .u64 d.b, .string S, .string N, .slice ao n cap] #[.int .i64 0, .int .i64 0, .int .i64 0, .int .u64 0, .string ⟨#[]⟩, .string ⟨#[]⟩, .slice none 0 0] (zeroFE n).toArray 27 27 27
  generalize hw3 : ((w.alloc (.cells #[.int .i64 d.op, .int .i64 d.k, .int .i64 d.i, .int .u64 d.b, .string S, .string N, .slice ao n cap] 27)).alloc (.cells #[.int .i64 0, .int .i64 0, .int .i64 0, .int .u64 0, .string ⟨#[]⟩, .string ⟨#[]⟩, .slice none 0 0] 27)).alloc (.cells (zeroFE n).toArray 27) = w3 at z0 z1 z2 hb3
  have z2' : Blk w3 (w.heap.size + 1 + 1) 27 (cellsFE [] ++ zeroFE (n - 0)) := by rw [← hz2]; exact z2
  have hnI : (n : Int) ≤ 2 := by omega
  obtain ⟨p0, p1, p2, p3, p4, p5, p6⟩ := z0.cells7
  clear hget hpart hsnoc hfull hend hn0 hleaf hEE hno hFN hpn hln hn hl hmf hmF hF hA hf hfn hT hS hN hz2 z2 hdp hdl IH hL2
  go_enter Tryz.func41, Tryz.ntmps41
  go_upto_region 2 with fail
  try rw [hw3]
  clear hw3 hmk
  go_wp2_with fail
  go_loopw [18] (fun ix wr => ∃ (j : Nat) (es : List FE), j ≤ n ∧ ix = .int .i64 j ∧ Hid (es.length = j) ∧ Hid (es.map FE.t = (foldL l).take j) ∧ Hid (∀ x ∈ es, XTb (w.heap.size + 1 + 1 + 1) wr x.t x.ao x.cap) ∧ Hid (Blk wr w.heap.size 27 [.int .i64 d.op, .int .i64 d.k, .int .i64 d.i, .int .u64 d.b, .string S, .string N, .slice ao n cap]) ∧ Hid (Blk wr (w.heap.size + 1) 27 [.int .i64 0, .int .i64 0, .int .i64 0, .int .u64 0, .string ⟨#[]⟩, .string ⟨#[]⟩, .slice none 0 0]) ∧ Hid (Blk wr (w.heap.size + 1 + 1) 27 (cellsFE es ++ zeroFE (n - j))) ∧ Hid (Below w.heap.size w wr)) (fun ix _ => n - (intOf ix).toNat)
  case atStart => exact ⟨0, [], Nat.zero_le _, rfl, Lib.hid rfl, Lib.hid (by simp), Lib.hid (fun x hx => by cases hx), Lib.hid z0, Lib.hid z1, Lib.hid z2', Lib.hid hb3⟩
  case round =>
    obtain ⟨j, es, hj, rfl, hel, hes, hxs, y0, y1, y2, hbw⟩ := hrel
    clear z0 z1 z2' hb3 p0 p1 p2 p3 p4 p5 p6
    by_cases hlt : j < n
    · have iI : (j : Int) < (n : Int) := by omega
      obtain ⟨t, htj⟩ := HGET.out j hlt
      obtain ⟨a, o, ao', cap', rfl, ha, x0, x1, x2, x3, x4, x5, x6, cF⟩ := HPART.out j t htj
      have d0 := (hbw.out.cell (p := ⟨a, o + j * 7, none⟩) ha).trans x0
      have d1 := (hbw.out.cell (p := ⟨a, o + j * 7 + 1, none⟩) ha).trans x1
      have d2 := (hbw.out.cell (p := ⟨a, o + j * 7 + 2, none⟩) ha).trans x2
      have d3 := (hbw.out.cell (p := ⟨a, o + j * 7 + 3, none⟩) ha).trans x3
      have d4 := (hbw.out.cell (p := ⟨a, o + j * 7 + 4, none⟩) ha).trans x4
      have d5 := (hbw.out.cell (p := ⟨a, o + j * 7 + 5, none⟩) ha).trans x5
      have d6 := (hbw.out.cell (p := ⟨a, o + j * 7 + 6, none⟩) ha).trans x6
      have HTJ := Lib.hid htj
      simp only [exprV_cells] at cF
      generalize hft : foldT t = ft at cF
      have HFT := Lib.hid hft
      generalize t.kids.length = KL at *
      generalize t.nd = nd at *
      obtain ⟨op', k', i', b', s', nm'⟩ := nd
      simp only at d0 d1 d2 d3 d4 d5 d6 cF
      generalize str s' = S' at *
      generalize str nm' = N' at *
      obtain ⟨wa, hwa⟩ : ∃ wa, wr.alloc (.cells #[.int .i64 op', .int .i64 k', .int .i64 i', .int .u64 b', .string S', .string N', .slice ao' KL cap'] 27) = wa := ⟨_, rfl⟩
      have hbA : Below wr.heap.size wr wa := by rw [← hwa]; exact (Below.refl _ _).alloc (Nat.le_refl _) _
      have zT : Blk wa wr.heap.size 27 [.int .i64 op', .int .i64 k', .int .i64 i', .int .u64 b', .string S', .string N', .slice ao' KL cap'] := by rw [← hwa]; exact Blk.new wr #[.int .i64 op', .int .i64 k', .int .i64 i', .int .u64 b', .string S', .string N', .slice ao' KL cap'] _
      have hb0a := below_stepE hbw.out hbw.out.size hbA
      have cc := cF wa hb0a
      have ya0 := y0.out.call hbA
      have ya1 := y1.out.call hbA
      have ya2 := y2.out.call hbA
      have hxa : ∀ x ∈ es, XTb (w.heap.size + 1 + 1 + 1) wa x.t x.ao x.cap := fun x hx => (hxs.out x hx).below hbA
      have hgs := y2.out.lt
      have HXA := Lib.hid hxa
      clear x0 x1 x2 x3 x4 x5 x6 htj cF hft hxa hxs y0 y1 y2
      go_upto_region 5 with fail
      try rw [hwa]
      clear hwa d0 d1 d2 d3 d4 d5 d6 hbA hbw
      generalize wr.heap.size = g at *
      obtain ⟨q0, q1, q2, q3, q4, q5, q6⟩ := zT.cells7
      unfold FoldPost at cc
      go_wp2_with fail
      refine cc.mono ?_
      rintro e w5 ⟨ao5, cap5, rfl, hX5, hb5⟩
      obtain ⟨xo, xk, xi, xb, xs, xm, xl, hxv, hxc⟩ := fexprV ft ao5 cap5
      rw [hxv]
      have hga : w.heap.size + 1 + 1 + 1 ≤ wa.heap.size := by have := ya2.lt; omega
      have u0 := ya0.call hb5
      have u1 := ya1.call hb5
      have u2 := ya2.call hb5
      rw [zeroFE_split n j hlt] at u2
      have hxs5 : ∀ x ∈ es ++ [(⟨ft, ao5, cap5⟩ : FE)], XTb (w.heap.size + 1 + 1 + 1) w5 x.t x.ao x.cap := fun x hx => by
        rcases List.mem_append.1 hx with hx | hx
        · exact (HXA.out x hx).below hb5
        · rw [List.mem_singleton] at hx
          subst hx
          exact hX5.out.mono hga
      have hb05 := below_stepE hb0a hb0a.size hb5
      have hpl : (cellsFE es).length = j * 7 := by rw [cellsFE_length, hel.out]
      have hcell : ∀ q v, zeroFE1[q]? = some v → w5.cell? ⟨w.heap.size + 1 + 1, j * 7 + q, none⟩ = some v := fun q v hq => u2.cell (by
        rw [List.getElem?_append_right (by omega), hpl, show j * 7 + q - j * 7 = q by omega, List.getElem?_append_left (List.getElem?_eq_some_iff.1 hq).1]; exact hq)
      have e0 : w5.cell? ⟨w.heap.size + 1 + 1, j * 7, none⟩ = some (.int .i64 0) := hcell 0 _ rfl
      have e1 := hcell 1 _ rfl
      have e2 := hcell 2 _ rfl
      have e3 := hcell 3 _ rfl
      have e4 := hcell 4 _ rfl
      have e5 := hcell 5 _ rfl
      have e6 := hcell 6 _ rfl
      have f0 := u2.free (j * 7)
      have f1 := u2.free (j * 7 + 1)
      have f2 := u2.free (j * 7 + 2)
      have f3 := u2.free (j * 7 + 3)
      have f4 := u2.free (j * 7 + 4)
      have f5 := u2.free (j * 7 + 5)
      have f6 := u2.free (j * 7 + 6)
      have v2 := u2.put7 (b0 := .int .i64 0) (b1 := .int .i64 0) (b2 := .int .i64 0) (b3 := .int .u64 0) (b4 := .string ⟨#[]⟩) (b5 := .string ⟨#[]⟩) (b6 := .slice none 0 0) hpl (.int .i64 xo) (.int .i64 xk) (.int .i64 xi) (.int .u64 xb) (.string xs) (.string xm) (.slice ao5 xl cap5)
      have v0 := u0.others7p (g := w.heap.size + 1 + 1) (p := j * 7) (a0 := .int .i64 xo) (a1 := .int .i64 xk) (a2 := .int .i64 xi) (a3 := .int .u64 xb) (a4 := .string xs) (a5 := .string xm) (a6 := .slice ao5 xl cap5) (by omega)
      have v1 := u1.others7p (g := w.heap.size + 1 + 1) (p := j * 7) (a0 := .int .i64 xo) (a1 := .int .i64 xk) (a2 := .int .i64 xi) (a3 := .int .u64 xb) (a4 := .string xs) (a5 := .string xm) (a6 := .slice ao5 xl cap5) (by omega)
      have hb06 := below_set7p (g := w.heap.size + 1 + 1) (p := j * 7) (a0 := .int .i64 xo) (a1 := .int .i64 xk) (a2 := .int .i64 xi) (a3 := .int .u64 xb) (a4 := .string xs) (a5 := .string xm) (a6 := .slice ao5 xl cap5) hb05 (by omega)
      have hxs6 := fun x hx => (hxs5 x hx).set7p (g := w.heap.size + 1 + 1) (p := j * 7) (a0 := .int .i64 xo) (a1 := .int .i64 xk) (a2 := .int .i64 xi) (a3 := .int .u64 xb) (a4 := .string xs) (a5 := .string xm) (a6 := .slice ao5 xl cap5) (by omega)
      rw [← hxc, show cellsFE es ++ xcells ft ao5 cap5 = cellsFE (es ++ [⟨ft, ao5, cap5⟩]) from (cellsFE_snoc es ⟨ft, ao5, cap5⟩).symm] at v2
      have hes2 : (es ++ [(⟨ft, ao5, cap5⟩ : FE)]).map FE.t = (foldL l).take (j + 1) := by
        rw [List.map_append, hes.out, HSNOC.out j t HTJ.out, HFT.out]; rfl
      have HES2 := Lib.hid hes2
      have V0 := Lib.hid v0
      have V1 := Lib.hid v1
      have V2 := Lib.hid v2
      have HB6 := Lib.hid hb06
      have HX6 := Lib.hid hxs6
      have HEL := hel
      clear hxv hxc u0 u1 u2 v0 v1 v2 hxs5 hxs6 hb05 hb06 hb5 hX5 hes hes2 hpl hcell ya0 ya1 ya2 hb0a zT q0 q1 q2 q3 q4 q5 q6 cc hga hgs hel ha
      go_wp2_with fail
      go_roundw
      case rel => exact ⟨j + 1, es ++ [⟨ft, ao5, cap5⟩], by omega, by go_num, Lib.hid (by rw [List.length_append, HEL.out]; rfl), HES2, HX6, V0, V1, V2, HB6⟩
      case measure => simp [intOf]; omega
    · have iI : ¬ (j : Int) < (n : Int) := by omega
      have hes2 : es.map FE.t = foldL l := hes.out.trans (HFULL.out j hlt)
      have hen := HN0.out es hes2
      have y2' : Blk wr (w.heap.size + 1 + 1) 27 (cellsFE es) := by
        have := y2.out
        rw [show n - j = 0 by omega, show zeroFE 0 = [] from rfl, List.append_nil] at this
        exact this
      have v0 := y0.out.set 6 (.slice (some ⟨w.heap.size + 1 + 1, 0, none⟩) n n)
      simp only [List.set_cons_succ, List.set_cons_zero] at v0
      have v1 := y1.out.other ⟨w.heap.size, 6, none⟩ (.slice (some ⟨w.heap.size + 1 + 1, 0, none⟩) n n) (by simp)
      have v2 := y2'.other ⟨w.heap.size, 6, none⟩ (.slice (some ⟨w.heap.size + 1 + 1, 0, none⟩) n n) (by show w.heap.size + 1 + 1 ≠ w.heap.size; omega)
      have hb6 := hbw.out.setCell (p := ⟨w.heap.size, 6, none⟩) (Nat.le_refl _) (.slice (some ⟨w.heap.size + 1 + 1, 0, none⟩) n n)
      have hx6 := fun x hx => ((hxs.out x hx).set ⟨w.heap.size, 6, none⟩ (.slice (some ⟨w.heap.size + 1 + 1, 0, none⟩) n n) (by show w.heap.size < _; omega)).mono (show w.heap.size + 1 + 1 ≤ w.heap.size + 1 + 1 + 1 by omega)
      have q6 := y0.out.cell (j := 6) rfl
      have f6 := y0.out.free 6
      obtain ⟨hXT, cR⟩ := HEND.out _ (w.heap.size + 1) es hb6 hes2 hx6 v2 (by omega)
      have HXT := Lib.hid hXT
      have HCR := Lib.hid cR
      clear hes hes2 hen y2' y0 y1 y2 hx6 hxs hbw v2 hXT cR HEND HN0 hel HFULL HSNOC HPART HGET
      go_upto_region 8 with fail
      generalize hw6 : wr.setCell ⟨w.heap.size, 6, none⟩ (.slice (some ⟨w.heap.size + 1 + 1, 0, none⟩) n n) = w6 at *
      clear hw6 q6 f6
      have cR := HCR.out w6 (Below.refl _ _)
      rw [exprV_cells] at cR
      simp only [T.nd, T.kids] at cR
      rw [show (foldL l).length = n by rw [foldL_map, List.length_map]; exact HLN.out] at cR
      rw [HSS.out, HNN.out] at cR
      obtain ⟨q0, q1, q2, q3, q4, q5, q6⟩ := v0.cells7
      clear HCR
      by_cases h1 : d.op = 1
      · have hn0 : n = 0 := by have := HPN.out; unfold partsN at this; rw [if_pos (.inl h1)] at this; exact this
        have hl0 := HLEAF.out hn0
        subst hl0
        have hnf := HNF.out
        have hrd := ready_lit d (foldL []) h1
        rw [hrd, HSS.out] at cR
        have hv := (nodeF_open d _ hnf).2.2.2
        unfold vOk at hv
        rw [if_pos h1] at hv
        simp only [Bool.and_eq_true, beq_iff_eq] at hv
        have hlen : d.t.length ≤ 40 := (chkV_open ⟨d.k, d.i, d.b, d.t⟩ hv.1).2.2.1
        have cL := fun W => literalOf_any ⟨d.k, d.i, d.b, d.t⟩ (by show d.t.length ≤ _; omega) W
        rw [litV_cells] at cL
        unfold valV at cL
        simp only at cL
        rw [HSS.out] at cL
        have asr := fas_ll
        have hfin : ∀ W, Below w.heap.size w W → FoldPost (foldT (.mk d [])) w (.returned (.agg #[.int .i64 1, .int .i64 d.k, .int .i64 d.i, .int .u64 d.b, .string S, .string ⟨#[]⟩, .slice none 0 0])) (((((((W.setCell ⟨w.heap.size + 1, 0, none⟩ (.int .i64 1)).setCell ⟨w.heap.size + 1, 1, none⟩ (.int .i64 d.k)).setCell ⟨w.heap.size + 1, 2, none⟩ (.int .i64 d.i)).setCell ⟨w.heap.size + 1, 3, none⟩ (.int .u64 d.b)).setCell ⟨w.heap.size + 1, 4, none⟩ (.string S)).setCell ⟨w.heap.size + 1, 5, none⟩ (.string ⟨#[]⟩)).setCell ⟨w.heap.size + 1, 6, none⟩ (.slice none 0 0)) := fun W hW => by
          refine fold_done hW (xtb_leaf _ _ d HFN.out) (by omega) ?_
          rw [foldT_leaf, fleaf_lit d h1 hnf, litV_cells, HSS.out]
        have HFIN := Lib.hid hfin
        clear hfin hv hlen hrd hnf HMF HLL HEE HLEAF hn0 h1
        go_wp2_with fail
        refine cR.mono ?_
        rintro e w7 ⟨rfl, hb7⟩
        have u1 := v1.call hb7
        have hb07 := below_stepE hb6 hb6.size hb7
        have hzL := Blk.new w7 #[.int .i64 d.k, .int .i64 d.i, .int .u64 d.b, .string S] 97
        have hbL := (Below.refl w7.heap.size w7).alloc (Nat.le_refl _) (.cells #[.int .i64 d.k, .int .i64 d.i, .int .u64 d.b, .string S] 97)
        have u1' := u1.call hbL
        have hb08 := below_stepE hb07 hb07.size hbL
        clear cR v0 v1 hb6 hb7 q0 q1 q2 q3 q4 q5 q6
        go_upto_region 11 with fail
        generalize hw8 : w7.alloc (.cells #[.int .i64 d.k, .int .i64 d.i, .int .u64 d.b, .string S] 97) = w8 at *
        clear hw8 u1 hb07 hbL asr
        generalize w7.heap.size = g7 at *
        obtain ⟨⟨r0, r1, r2, r3⟩, _⟩ := hzL.four
        go_wp2_with fail
        refine (cL _).mono ?_
        rintro e w9 ⟨rfl, hb9⟩
        have t1 := u1'.call hb9
        have hb09 := below_stepE hb08 hb08.size hb9
        clear cL hb9 hb08 u1' r0 r1 r2 r3 hzL
        obtain ⟨r0, r1, r2, r3, r4, r5, r6⟩ := t1.cells7
        have f0 := t1.free 0
        have f1 := t1.free 1
        have f2 := t1.free 2
        have f3 := t1.free 3
        have f4 := t1.free 4
        have f5 := t1.free 5
        have f6 := t1.free 6
        go_wp2_with fail
        exact bodyPost_ret (results_expr rfl _ _ (w.heap.size + 1) _ _ _ _ _ _ _ rfl t1.set7) rfl (HFIN.out _ hb09)
      · by_cases h2 : d.op = 2
        · have hn0 : n = 0 := by have := HPN.out; unfold partsN at this; rw [if_pos (.inr h2)] at this; exact this
          have hl0 := HLEAF.out hn0
          subst hl0
          have hnf := HNF.out
          have hrd := ready_col d (foldL []) h2
          rw [hrd, HNN.out] at cR
          have hlen := name_len d h2 hnf
          have cL := fun W => eclone_any d.n W (by omega)
          rw [HNN.out] at cL
          have asr := fas_cl
          have asr2 := fas_cc
          have hfin : ∀ W, Below w.heap.size w W → FoldPost (foldT (.mk d [])) w (.returned (.agg #[.int .i64 2, .int .i64 0, .int .i64 0, .int .u64 0, .string ⟨#[]⟩, .string N, .slice none 0 0])) (((((((W.setCell ⟨w.heap.size + 1, 0, none⟩ (.int .i64 2)).setCell ⟨w.heap.size + 1, 1, none⟩ (.int .i64 0)).setCell ⟨w.heap.size + 1, 2, none⟩ (.int .i64 0)).setCell ⟨w.heap.size + 1, 3, none⟩ (.int .u64 0)).setCell ⟨w.heap.size + 1, 4, none⟩ (.string ⟨#[]⟩)).setCell ⟨w.heap.size + 1, 5, none⟩ (.string N)).setCell ⟨w.heap.size + 1, 6, none⟩ (.slice none 0 0)) := fun W hW => by
            refine fold_done hW (xtb_leaf _ _ d HFN.out) (by omega) ?_
            rw [foldT_leaf, ← HNN.out]
            conv => lhs; rw [fleaf_col d h2 hnf]
            rfl
          have HFIN := Lib.hid hfin
          clear hfin hlen hrd hnf HMF HLL HEE HLEAF hn0 h1 h2
          go_wp2_with fail
          refine cR.mono ?_
          rintro e w7 ⟨rfl, hb7⟩
          have u1 := v1.call hb7
          have hb07 := below_stepE hb6 hb6.size hb7
          have hzL := Blk.new w7 #[.string N] 100
          have hbL := (Below.refl w7.heap.size w7).alloc (Nat.le_refl _) (.cells #[.string N] 100)
          have u1' := u1.call hbL
          have hb08 := below_stepE hb07 hb07.size hbL
          clear cR v0 v1 hb6 hb7 q0 q1 q2 q3 q4 q5 q6
          go_upto_region 14 with fail
          generalize hw8 : w7.alloc (.cells #[.string N] 100) = w8 at *
          clear hw8 u1 hb07 hbL asr asr2
          generalize w7.heap.size = g7 at *
          have r0 := hzL.cell (j := 0) rfl
          go_wp2_with fail
          refine (cL _).mono ?_
          rintro e w9 ⟨rfl, hb9⟩
          have t1 := u1'.call hb9
          have hb09 := below_stepE hb08 hb08.size hb9
          clear cL hb9 hb08 u1' r0 hzL
          obtain ⟨r0, r1, r2, r3, r4, r5, r6⟩ := t1.cells7
          have f0 := t1.free 0
          have f1 := t1.free 1
          have f2 := t1.free 2
          have f3 := t1.free 3
          have f4 := t1.free 4
          have f5 := t1.free 5
          have f6 := t1.free 6
          go_wp2_with fail
          exact bodyPost_ret (results_expr rfl _ _ (w.heap.size + 1) _ _ _ _ _ _ _ rfl t1.set7) rfl (HFIN.out _ hb09)
        · have h3 : 3 ≤ d.op := by have := HNO.out.1; omega
          obtain ⟨hO, hok, _, hft⟩ := HEE.out h3 w (Below.refl _ _)
          have hfl : ∀ t ∈ foldL l, formT t = 0 := fun t ht => formL_mem _ (formT_open d _ HMF.out).2 t ht
          have hll : (foldL l).length ≤ 1000 := by rw [foldL_map, List.length_map, HLN.out]; omega
          have cF := fun W (hW : Below w.heap.size w W) => foreseen_any (readyV (.mk d (foldL l))) (foldL l) (evT [] [] (.mk d (foldL l))) W hO hfl hll (HEE.out h3 W hW).2.2.1 hok
          have hns := nodeX_say d (foldL l) _ rfl
          have htl := (chkV_open _ hok.v.chk).2.2.1
          generalize hR : evT [] [] (.mk d (foldL l)) = R at *
          obtain ⟨ty, rv, K, e1, _, _, _, _, a1, a2, a3⟩ := hO
          rw [e1] at cF cR
          have hlen : (foldL l).length = n := by rw [foldL_map, List.length_map]; exact HLN.out
          unfold foreR at cF
          obtain ⟨V, hV⟩ : ∃ V, (if litsL (foldL l) = true then R.v else nulV) = V := ⟨_, rfl⟩
          obtain ⟨B, hB⟩ : ∃ B, (litsL (foldL l) && ((R.f == 0) && decide (0 ≤ R.v.i))) = B := ⟨_, rfl⟩
          simp only [hV, hB] at cF
          rw [hB] at hns
          have hVok : OkV V := by
            rw [← hV]; split
            · exact hok.v
            · exact ok_nul
          have hlit : B = true → foldT (.mk d l) = litV V := fun hb => by
            rw [hft, hns, if_pos hb]
            rw [hb] at hB
            simp only [Bool.and_eq_true] at hB
            rw [if_pos hB.1] at hV
            rw [hV]
          have hmkk : B = false → foldT (.mk d l) = .mk d (foldL l) := fun hb => by
            rw [hft, hns, if_neg (by rw [hb]; decide)]
          obtain ⟨k0, k4, hs40, _, _⟩ := chkV_open V hVok.chk
          have hfitV := hVok.fit
          have cL := fun W => literalOf_any V (by omega) W
          obtain ⟨vk, vi, vb, vs⟩ := V
          simp only at k0 k4 hs40
          have hFV : FitN ⟨1, vk, vi, vb, vs, []⟩ := fit_lit vk vi vb vs ⟨k0, k4⟩ ⟨hfitV.i0, hfitV.i1⟩ ⟨hfitV.b0, hfitV.b1⟩ (by omega)
          rw [litV_cells] at cL
          unfold valV at cF cL
          simp only at cF cL
          obtain ⟨VS, hVS⟩ : ∃ VS, str vs = VS := ⟨_, rfl⟩
          simp only [hVS] at cF cL
          have hfinT : B = true → ∀ W, Below w.heap.size w W → FoldPost (foldT (.mk d l)) w (.returned (.agg #[.int .i64 1, .int .i64 vk, .int .i64 vi, .int .u64 vb, .string VS, .string ⟨#[]⟩, .slice none 0 0])) (((((((W.setCell ⟨w.heap.size + 1, 0, none⟩ (.int .i64 1)).setCell ⟨w.heap.size + 1, 1, none⟩ (.int .i64 vk)).setCell ⟨w.heap.size + 1, 2, none⟩ (.int .i64 vi)).setCell ⟨w.heap.size + 1, 3, none⟩ (.int .u64 vb)).setCell ⟨w.heap.size + 1, 4, none⟩ (.string VS)).setCell ⟨w.heap.size + 1, 5, none⟩ (.string ⟨#[]⟩)).setCell ⟨w.heap.size + 1, 6, none⟩ (.slice none 0 0)) := fun hb W hW => by
            rw [hlit hb]
            refine fold_done hW (xtb_leaf _ _ _ hFV) (by omega) ?_
            rw [← hVS]
            exact litV_cells vk vi vb vs
          have hfinF : B = false → ∀ W, Below w6.heap.size w6 W → FoldPost (foldT (.mk d l)) w (.returned (.agg #[.int .i64 d.op, .int .i64 d.k, .int .i64 d.i, .int .u64 d.b, .string S, .string N, .slice (some ⟨w.heap.size + 1 + 1, 0, none⟩) n n])) (((((((W.setCell ⟨w.heap.size + 1, 0, none⟩ (.int .i64 d.op)).setCell ⟨w.heap.size + 1, 1, none⟩ (.int .i64 d.k)).setCell ⟨w.heap.size + 1, 2, none⟩ (.int .i64 d.i)).setCell ⟨w.heap.size + 1, 3, none⟩ (.int .u64 d.b)).setCell ⟨w.heap.size + 1, 4, none⟩ (.string S)).setCell ⟨w.heap.size + 1, 5, none⟩ (.string N)).setCell ⟨w.heap.size + 1, 6, none⟩ (.slice (some ⟨w.heap.size + 1 + 1, 0, none⟩) n n)) := fun hb W hW => by
            rw [hmkk hb]
            refine fold_done (below_stepE hb6 hb6.size hW) (HXT.out.below hW) (by omega) ?_
            rw [exprV_cells]
            simp only [T.nd, T.kids]
            rw [hlen, HSS.out, HNN.out]
          have HFT := Lib.hid hfinT
          have HFF := Lib.hid hfinF
          have HCF := Lib.hid cF
          clear hfinT hfinF cF hFV hfitV k0 k4 hs40 hVS hlit hmkk hVok hV hB hns htl hok hft hfl hll hlen e1 HMF HLL HEE HLEAF h1 h2 h3 hR HXT HNF HPN HLN HNO HFN HSS HNN
          go_wp2_with fail
          refine cR.mono ?_
          rintro e w7 ⟨rfl, hb7⟩
          have u0 := v0.call hb7
          have u1 := v1.call hb7
          have hb07 := below_stepE hb6 hb6.size hb7
          have cF := HCF.out w7 hb07
          clear cR v0 v1 q0 q1 q2 q3 q4 q5 q6 HCF
          go_wp2_with fail
          refine cF.mono ?_
          rintro e w8 ⟨rfl, hb8⟩
          have s0 := u0.call hb8
          have s1 := u1.call hb8
          have hb68 := below_stepE hb7 hb7.size hb8
          have hb08 := below_stepE hb6 hb6.size hb68
          have hzL := Blk.new w8 #[.int .i64 vk, .int .i64 vi, .int .u64 vb, .string VS] 24
          have hbL := (Below.refl w8.heap.size w8).alloc (Nat.le_refl _) (.cells #[.int .i64 vk, .int .i64 vi, .int .u64 vb, .string VS] 24)
          have s0' := s0.call hbL
          have s1' := s1.call hbL
          have hb69 := below_stepE hb68 hb68.size hbL
          have hb09 := below_stepE hb6 hb6.size hb69
          clear cF u0 u1 hb7 hb07 hb8 s0 s1 hb68 hb08 a1 a2 a3
          go_upto_region 18 with fail
          generalize hw9 : w8.alloc (.cells #[.int .i64 vk, .int .i64 vi, .int .u64 vb, .string VS] 24) = w9 at *
          clear hw9 hbL
          generalize w8.heap.size = g8 at *
          cases B
          · have hfin := HFF.out (by trivial) w9 hb69
            have HFIN := Lib.hid hfin
            clear hfin HFF HFT hb69 hb09 hb6 cL hzL
            obtain ⟨q0, q1, q2, q3, q4, q5, q6⟩ := s0'.cells7
            obtain ⟨r0, r1, r2, r3, r4, r5, r6⟩ := s1'.cells7
            have f0 := s1'.free 0
            have f1 := s1'.free 1
            have f2 := s1'.free 2
            have f3 := s1'.free 3
            have f4 := s1'.free 4
            have f5 := s1'.free 5
            have f6 := s1'.free 6
            go_wp2_with fail
            exact bodyPost_ret (results_expr rfl _ _ (w.heap.size + 1) _ _ _ _ _ _ _ rfl s1'.set7) rfl HFIN.out
          · have hfin := HFT.out (by trivial)
            have HFIN := Lib.hid hfin
            clear hfin HFF HFT hb69 hb6 s0'
            obtain ⟨⟨q0, q1, q2, q3⟩, _⟩ := hzL.four
            go_wp2_with fail
            refine (cL _).mono ?_
            rintro e w10 ⟨rfl, hb10⟩
            have t1 := s1'.call hb10
            have hb010 := below_stepE hb09 hb09.size hb10
            clear cL hb10 hb09 s1' q0 q1 q2 q3 hzL
            obtain ⟨r0, r1, r2, r3, r4, r5, r6⟩ := t1.cells7
            have f0 := t1.free 0
            have f1 := t1.free 1
            have f2 := t1.free 2
            have f3 := t1.free 3
            have f4 := t1.free 4
            have f5 := t1.free 5
            have f6 := t1.free 6
            go_wp2_with fail
            exact bodyPost_ret (results_expr rfl _ _ (w.heap.size + 1) _ _ _ _ _ _ _ rfl t1.set7) rfl (HFIN.out _ hb010)
theorem folded_any : ∀ n, FoldOk n := by
  intro n
  induction n with
  | zero => intro t ao cap w h; have := T.deep_eq t; omega
  | succ n ih => exact folded_step n ih
/-- What Fold leaves: an error, and the tree beside it. -/
def FoldRPost (t : T) (w : World) (e : Ending) (w' : World) : Prop := ∃ ao' cap', e = .returned (.tuple #[exprV (foldR t) ao' cap', .int .i64 (exprR t)]) ∧ Hid (XTb w.heap.size w' (foldR t) ao' cap') ∧ Below w.heap.size w w'
theorem results_exprE {fn : Func} {t a : Tmp} (h : fn.results = #[.cell t 27, .tmp a]) (tmps : Array Value) (w : World) (g : Nat) (x0 x1 x2 x3 x4 x5 x6 : Value) (hp : tmps.getD t undef = .pointer (some ⟨g, 0, none⟩)) (hB : Blk w g 27 [x0, x1, x2, x3, x4, x5, x6]) :
    (results fn tmps).run Tryz.prog w = .ok (.tuple #[.agg #[x0, x1, x2, x3, x4, x5, x6], tmps.getD a undef]) w := by
  have c0 := hB.cell (j := 0) rfl
  have c1 := hB.cell (j := 1) rfl
  have c2 := hB.cell (j := 2) rfl
  have c3 := hB.cell (j := 3) rfl
  have c4 := hB.cell (j := 4) rfl
  have c5 := hB.cell (j := 5) rfl
  have c6 := hB.cell (j := 6) rfl
  have hp' : tmps[t]?.getD undef = .pointer (some ⟨g, 0, none⟩) := by simpa using hp
  simp [results, h, hp', go_sem, c0, c1, c2, c3, c4, c5, c6]
set_option maxHeartbeats 16000000 in
theorem Fold_any (t : T) (ao : Option Addr) (cap : Nat) (w : World) (hA : AtT w t ao) (hc : t.kids.length ≤ cap) (hc2 : cap ≤ 9223372036854775807) (hX : XEnv w) :
    Calls Tryz.prog 14 #[exprV t ao cap] w (FoldRPost t w) := by
  have cK := fun W (hW : Below w.heap.size w W) => exprCheck_any t ao cap W (hA.keep hW) (Nat.le_trans hc hc2) (hX.keep hW)
  have cF := fun W (h0 : exprR t = 0) (hW : Below w.heap.size w W) => folded_any t.deep t ao cap W (Nat.le_refl _) (exprR_form t h0) (hA.keep hW) hc hc2 (hX.keep hW).tabs
  have hbad : exprR t ≠ 0 → ∀ W, Below w.heap.size w W → FoldRPost t w (.returned (.tuple #[.agg #[.int .i64 0, .int .i64 0, .int .i64 0, .int .u64 0, .string ⟨#[]⟩, .string ⟨#[]⟩, .slice none 0 0], .int .i64 (exprR t)])) W := fun h0 W hW => by
    refine ⟨none, 0, ?_, ?_, hW⟩
    · unfold foldR; rw [if_pos h0]; rfl
    · unfold foldR; rw [if_pos h0]; exact Lib.hid (xtb_leaf _ _ _ (fitN_op 0 (by decide)))
  have hgood : exprR t = 0 → foldR t = foldT t := fun h0 => by unfold foldR; rw [if_neg (by rw [h0]; decide)]
  unfold FoldPost at cF
  unfold FoldRPost at hbad ⊢
  generalize exprR t = ef at *
  generalize foldR t = fr at *
  generalize foldT t = ft at *
  have HB := Lib.hid hbad
  have HG := Lib.hid hgood
  clear hbad hgood hA hX
  simp only [exprV_cells t] at cK cF ⊢
  generalize t.kids.length = L at *
  obtain ⟨⟨op, k, i, b, s, nm⟩, l⟩ := t
  simp only [T.nd] at *
  generalize str s = S at *
  generalize str nm = N at *
  obtain ⟨z0, z1, hb2⟩ := two_new w #[.int .i64 op, .int .i64 k, .int .i64 i, .int .u64 b, .string S, .string N, .slice ao L cap] #[.int .i64 0, .int .i64 0, .int .i64 0, .int .u64 0, .string ⟨#[]⟩, .string ⟨#[]⟩, .slice none 0 0] 27 27
  generalize hw2 : (w.alloc (.cells #[.int .i64 op, .int .i64 k, .int .i64 i, .int .u64 b, .string S, .string N, .slice ao L cap] 27)).alloc (.cells #[.int .i64 0, .int .i64 0, .int .i64 0, .int .u64 0, .string ⟨#[]⟩, .string ⟨#[]⟩, .slice none 0 0] 27) = w2 at z0 z1 hb2
  have c1 := cK w2 hb2
  obtain ⟨p0, p1, p2, p3, p4, p5, p6⟩ := z0.cells7
  go_enter Tryz.func14, Tryz.ntmps14
  go_upto_region 1 with fail
  try rw [hw2]
  clear hw2
  go_wp2_with fail
  refine c1.mono ?_
  rintro e w3 ⟨rfl, hb3⟩
  have hb03 := below_stepE hb2 hb2.size hb3
  have y0 := z0.call hb3
  have y1 := z1.call hb3
  clear c1 cK hb3 hb2 z0 z1 p0 p1 p2 p3 p4 p5 p6
  by_cases he : ef = 0
  · subst he
    have c2 := cF w3 (by trivial) hb03
    have hfr := HG.out (by trivial)
    subst hfr
    clear HB HG cF
    obtain ⟨p0, p1, p2, p3, p4, p5, p6⟩ := y0.cells7
    have hsz := y1.lt
    go_wp2_with fail
    refine c2.mono ?_
    rintro e w4 ⟨ao5, cap5, rfl, hX5, hb4⟩
    obtain ⟨xo, xk, xi, xb, xs, xm, xl, hxv, hxc⟩ := fexprV fr ao5 cap5
    rw [hxv]
    have x1 := y1.call hb4
    have hb04 := below_stepE hb03 hb03.size hb4
    have hfin : ∃ ao' cap', Ending.returned (.tuple #[.agg #[.int .i64 xo, .int .i64 xk, .int .i64 xi, .int .u64 xb, .string xs, .string xm, .slice ao5 xl cap5], .int .i64 0]) = Ending.returned (.tuple #[exprV fr ao' cap', .int .i64 0]) ∧ Hid (XTb w.heap.size (((((((w4.setCell ⟨w.heap.size + 1, 0, none⟩ (.int .i64 xo)).setCell ⟨w.heap.size + 1, 1, none⟩ (.int .i64 xk)).setCell ⟨w.heap.size + 1, 2, none⟩ (.int .i64 xi)).setCell ⟨w.heap.size + 1, 3, none⟩ (.int .u64 xb)).setCell ⟨w.heap.size + 1, 4, none⟩ (.string xs)).setCell ⟨w.heap.size + 1, 5, none⟩ (.string xm)).setCell ⟨w.heap.size + 1, 6, none⟩ (.slice ao5 xl cap5)) fr ao' cap') ∧ Below w.heap.size w (((((((w4.setCell ⟨w.heap.size + 1, 0, none⟩ (.int .i64 xo)).setCell ⟨w.heap.size + 1, 1, none⟩ (.int .i64 xk)).setCell ⟨w.heap.size + 1, 2, none⟩ (.int .i64 xi)).setCell ⟨w.heap.size + 1, 3, none⟩ (.int .u64 xb)).setCell ⟨w.heap.size + 1, 4, none⟩ (.string xs)).setCell ⟨w.heap.size + 1, 5, none⟩ (.string xm)).setCell ⟨w.heap.size + 1, 6, none⟩ (.slice ao5 xl cap5)) :=
      ⟨ao5, cap5, by rw [hxv], Lib.hid ((hX5.out.set7 (g := w.heap.size + 1) hsz).mono (by omega)), below_set7 hb04 (by omega)⟩
    have HFIN := Lib.hid hfin
    clear c2 hb4 hb04 hfin hX5 hxv hxc y0 y1 hb03 p0 p1 p2 p3 p4 p5 p6
    obtain ⟨r0, r1, r2, r3, r4, r5, r6⟩ := x1.cells7
    have f0 := x1.free 0
    have f1 := x1.free 1
    have f2 := x1.free 2
    have f3 := x1.free 3
    have f4 := x1.free 4
    have f5 := x1.free 5
    have f6 := x1.free 6
    go_wp2_with fail
    exact bodyPost_ret (results_exprE rfl _ _ (w.heap.size + 1) _ _ _ _ _ _ _ rfl x1.set7) rfl (by exact HFIN.out)
  · have he1 : (ef != 0) = true := by simpa using he
    have hfin := HB.out he
    have HFIN := Lib.hid hfin
    clear HB HG cF he hfin y0
    obtain ⟨r0, r1, r2, r3, r4, r5, r6⟩ := y1.cells7
    have f0 := y1.free 0
    have f1 := y1.free 1
    have f2 := y1.free 2
    have f3 := y1.free 3
    have f4 := y1.free 4
    have f5 := y1.free 5
    have f6 := y1.free 6
    have hbf := fun a0 a1 a2 a3 a4 a5 a6 => below_set7 (a0 := a0) (a1 := a1) (a2 := a2) (a3 := a3) (a4 := a4) (a5 := a5) (a6 := a6) hb03 (show w.heap.size ≤ w.heap.size + 1 by omega)
    go_wp2_with fail
    exact bodyPost_ret (results_exprE rfl _ _ (w.heap.size + 1) _ _ _ _ _ _ _ rfl y1.set7) rfl (by exact HFIN.out _ (hbf _ _ _ _ _ _ _))
end Go.Proofs.YtablacloabpjfabGreatDoor
