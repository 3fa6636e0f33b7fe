/-
  CONTRACT of the reference's within.
  CONDITIONS: each theorem's own hypotheses.
-/
import Derived.Test.YtfedlchncngafaaGreatDoorExprG
namespace Go.Proofs.YtfedlchncngafaaGreatDoor
open Go.RowKit
set_option linter.unusedVariables false
set_option maxRecDepth 100000

theorem kidsL_take (l : List T) (j : Nat) (t : T) (h : l[j]? = some t) : kidsL (l.take (j + 1)) = kidsL (l.take j) ++ t.kids := by
  obtain ⟨hj, he⟩ := List.getElem?_eq_some_iff.1 h
  rw [List.take_succ_eq_append_getElem hj, he]
  simp [kidsL]
theorem kidsL_le (l : List T) (j : Nat) : (kidsL (l.take j)).length ≤ (kidsL l).length := by
  have e : kidsL l = kidsL (l.take j) ++ kidsL (l.drop j) := by
    unfold kidsL
    rw [← List.flatMap_append, List.take_append_drop]
  rw [e, List.length_append]; omega
theorem layF_nil : ∀ (f a : Nat), layF f [] a = true
  | 0, _ => rfl
  | f + 1, _ => rfl
theorem layF_zero (l : List T) (a : Nat) (h : 0 < l.length) : layF 0 l a = false := by
  cases l with
  | nil => simp at h
  | cons t l => rfl
theorem layF_more (f : Nat) (l : List T) (a : Nat) (h : 0 < l.length) : layF (f + 1) l a = (decide (a + l.length ≤ 40) && (decide ((kidsL l).length ≤ 40) && layF f (kidsL l) (a + l.length))) := by
  cases l with
  | nil => simp at h
  | cons t l => simp [layF]
set_option maxHeartbeats 8000000 in
theorem within_any (t : T) (ao : Option Addr) (cap : Nat) (w : World) (hA : AtT w t ao) (hl : t.kids.length ≤ cap) (hcap : cap ≤ 9223372036854775807) (hn : ao = none → cap = 0) :
    Calls Tryz.prog 142 #[exprV t ao cap] w fun e w' => e = .returned (.bool (layF 7 [t] 0)) ∧ Below w.heap.size w w' := by
  obtain ⟨B, hB⟩ : ∃ B, layF 7 [t] 0 = B := ⟨_, rfl⟩
  rw [hB]
  have hrow : ∀ (g : Nat) (W : World), g < W.heap.size → (∀ q v, (cellsX1 ⟨t, ao, cap⟩)[q]? = some v → W.cell? ⟨g, q, none⟩ = some v) → XRow W (some ⟨g, 0, none⟩) [⟨t, ao, cap⟩] := fun g W hg h => .inr ⟨g, 0, rfl, hg, fun j x hx q v hv => by
    cases j with
    | zero =>
      simp only [List.getElem?_cons_zero, Option.some.injEq] at hx
      subst hx
      have := h q v hv
      simpa using this
    | succ j => simp at hx⟩
  have hgood : XGood w [⟨t, ao, cap⟩] := fun x hx => by
    rw [List.mem_singleton] at hx; subst hx; exact ⟨hA, hl, hcap, hn⟩
  have hB0 : Hid (layF (8 - 1) ([⟨t, ao, cap⟩].map XE.t) 0 = B) := hB
  rw [exprV_cells]
  have hc1 : cellsX1 ⟨t, ao, cap⟩ = [.int .i64 t.nd.op, .int .i64 t.nd.k, .int .i64 t.nd.i, .int .u64 t.nd.b, .string (str t.nd.t), .string (str t.nd.n), .slice ao t.kids.length cap] := rfl
  rw [hc1] at hrow
  obtain ⟨x0, hx0⟩ : ∃ x0 : XE, (⟨t, ao, cap⟩ : XE) = x0 := ⟨_, rfl⟩
  rw [hx0] at hrow hgood hB0
  generalize t.nd = nd at *
  obtain ⟨op, k, i, b, s, nm⟩ := nd
  simp only at hrow ⊢
  generalize str s = S at *
  generalize str nm = N at *
  generalize t.kids.length = L at *
  have HROW := Lib.hid hrow
  have HG := Lib.hid hgood
  clear hB hA hl hcap hn hc1 hx0 hrow hgood
  obtain ⟨w2, hw2⟩ : ∃ w2, (w.alloc (.cells #[.int .i64 op, .int .i64 k, .int .i64 i, .int .u64 b, .string S, .string N, .slice ao L cap] 27)).alloc (.cells #[.int .i64 op, .int .i64 k, .int .i64 i, .int .u64 b, .string S, .string N, .slice ao L cap] 27) = w2 := ⟨_, rfl⟩
  have hb2 : Below w.heap.size w w2 := by rw [← hw2]; exact ((Below.refl _ _).alloc (Nat.le_refl _) _).alloc (by simp) _
  have zz : Blk w2 (w.heap.size + 1) 27 [.int .i64 op, .int .i64 k, .int .i64 i, .int .u64 b, .string S, .string N, .slice ao L cap] := by
    rw [← hw2]
    have := Blk.new (w.alloc (.cells #[.int .i64 op, .int .i64 k, .int .i64 i, .int .u64 b, .string S, .string N, .slice ao L cap] 27)) #[.int .i64 op, .int .i64 k, .int .i64 i, .int .u64 b, .string S, .string N, .slice ao L cap] 27
    simpa using this
  have HR1 := Lib.hid (HROW.out (w.heap.size + 1) w2 zz.lt (fun q v hv => zz.cell hv))
  have HG1 := HG
  clear HROW HG zz
  go_enter Tryz.func142, Tryz.ntmps142
  go_upto_region 2 with fail
  try rw [hw2]
  clear hw2
  go_wp2_with fail
  go_loopw [3, 4, 5] (fun r al dp wr => ∃ (row : List XE) (ar : Option Addr) (cr n A D : Nat), r = .slice ar n cr ∧ row.length = n ∧ al = .int .i64 A ∧ dp = .int .i64 D ∧ 1 ≤ D ∧ D ≤ 8 ∧ A ≤ 40 ∧ n ≤ 40 ∧ Hid (layF (8 - D) (row.map XE.t) A = B) ∧ Hid (XRow wr ar row) ∧ Hid (XGood w row) ∧ Below w.heap.size w wr) (fun _ _ dp _ => 8 - (intOf dp).toNat)
  case atStart => exact ⟨[x0], some ⟨w.heap.size + 1, 0, none⟩, 1, 1, 0, 1, rfl, rfl, rfl, rfl, Nat.le_refl _, by decide, by decide, by decide, hB0, HR1, HG1, hb2⟩
  case round =>
    obtain ⟨row, ar, cr, n, A, D, rfl, hrl, rfl, rfl, hD1, hD8, hA40, hn40, hlay, hrow, hgood, hbw⟩ := hrel
    clear HR1 HG1 hB0 hb2
    by_cases hz : n = 0
    · have hB1 : Hid (B = true) := by
        show _ = _
        rw [← hlay.out, List.eq_nil_of_length_eq_zero (hrl.trans hz)]; exact layF_nil _ _
      have i0 : ¬ 0 < (n : Int) := by omega
      clear hlay hz
      go_wp2_with fail
      go_ret
      exact ⟨by rw [hB1.out]; rfl, hbw⟩
    · have i0 : 0 < (n : Int) := by omega
      have hml : (row.map XE.t).length = n := by rw [List.length_map]; exact hrl
      by_cases h8 : D = 8
      · have hB1 : Hid (B = false) := by
          show _ = _
          rw [← hlay.out, h8]; exact layF_zero _ _ (by omega)
        have e1 : decide (7 < (D : Int)) = true := decide_eq_true (by omega)
        clear hlay h8
        go_wp2_with fail
        go_ret
        exact ⟨by rw [hB1.out]; rfl, hbw⟩
      · have e1 : decide (7 < (D : Int)) = false := decide_eq_false (by omega)
        obtain ⟨f, hf⟩ : ∃ f, 8 - D = f + 1 := ⟨7 - D, by omega⟩
        have hlm := layF_more f (row.map XE.t) A (by omega)
        have hl2 := hlay.out
        rw [hf, hlm, hml] at hl2
        by_cases h40 : 40 < A + n
        · have hB1 : Hid (B = false) := by
            show _ = _
            rw [← hl2, decide_eq_false (by omega)]; rfl
          have e2 : decide (40 < (A : Int) + (n : Int)) = true := decide_eq_true (by omega)
          clear hlay h8 hlm hl2
          go_wp2_with fail
          go_ret
          exact ⟨by rw [hB1.out]; rfl, hbw⟩
        · have e2 : decide (40 < (A : Int) + (n : Int)) = false := decide_eq_false (by omega)
          rw [decide_eq_true (by omega), Bool.true_and] at hl2
          have hmany : 40 < (kidsL (row.map XE.t)).length → B = false := fun h => by rw [← hl2, decide_eq_false (by omega)]; rfl
          have hfew : (kidsL (row.map XE.t)).length ≤ 40 → layF (8 - (D + 1)) (kidsL (row.map XE.t)) (A + n) = B := fun h => by
            rw [decide_eq_true h, Bool.true_and] at hl2
            rw [show 8 - (D + 1) = f by omega]; exact hl2
          have HMANY := Lib.hid hmany
          have HFEW := Lib.hid hfew
          have HRL := Lib.hid hrl
          clear hlay hlm hl2 hmany hfew hml hrl hf
          obtain ⟨w0, hw0⟩ : ∃ w0, wr = w0 := ⟨_, rfl⟩
          rw [hw0] at hrow hbw ⊢
          clear hw0 wr
          go_wp2_with fail
          go_loopw [6, 28] (fun u i wr => ∃ (j : Nat) (nx : List XE), j ≤ n ∧ i = .int .i64 j ∧ Hid (nx.map XE.t = kidsL ((row.map XE.t).take j)) ∧ nx.length ≤ 40 ∧ OwnX wr w0.heap.size u nx ∧ Hid (XGood w nx) ∧ Below w0.heap.size w0 wr) (fun _ i _ => n - (intOf i).toNat)
          case atStart => exact ⟨0, [], Nat.zero_le _, rfl, Lib.hid (by simp [kidsL]), by simp, OwnX.nil _ _, Lib.hid (fun x hx => by simp at hx), Below.refl _ _⟩
          case round =>
            obtain ⟨j, nx, hj, rfl, hnx, hn4, ho, hng, hbi⟩ := hrel
            by_cases hlt : j < n
            · have iI : (j : Int) < (n : Int) := by omega
              have hjl : j < row.length := by rw [HRL.out]; exact hlt
              obtain ⟨x, hxj⟩ : ∃ x, row[j]? = some x := ⟨row[j], List.getElem?_eq_getElem hjl⟩
              obtain ⟨gA, gl, gc, gn⟩ := hgood.out x (List.mem_of_getElem? hxj)
              rcases hrow.out with h0 | ⟨a, o, rfl, ha, hcl⟩
              · rw [h0] at hjl; simp at hjl
              have hcx := hcl j x hxj
              have d0 := (hbi.cell (p := ⟨a, o + j * 7, none⟩) ha).trans (hcx 0 _ rfl)
              have d1 := (hbi.cell (p := ⟨a, o + j * 7 + 1, none⟩) ha).trans (hcx 1 _ rfl)
              have d2 := (hbi.cell (p := ⟨a, o + j * 7 + 2, none⟩) ha).trans (hcx 2 _ rfl)
              have d3 := (hbi.cell (p := ⟨a, o + j * 7 + 3, none⟩) ha).trans (hcx 3 _ rfl)
              have d4 := (hbi.cell (p := ⟨a, o + j * 7 + 4, none⟩) ha).trans (hcx 4 _ rfl)
              have d5 := (hbi.cell (p := ⟨a, o + j * 7 + 5, none⟩) ha).trans (hcx 5 _ rfl)
              have d6 := (hbi.cell (p := ⟨a, o + j * 7 + 6, none⟩) ha).trans (hcx 6 _ rfl)
              have hmj : (row.map XE.t)[j]? = some x.t := by rw [List.getElem?_map, hxj]; rfl
              have hkt := kidsL_take (row.map XE.t) j x.t hmj
              have hkl := kidsL_le (row.map XE.t) (j + 1)
              have hAL : AtL w x.ao 0 x.t.kids := by
                have h := gA
                cases hxt : x.t with
                | mk d l => rw [hxt] at h; simp only [AtT] at h; exact h.2
              obtain ⟨ks, hk1, hk2, hk3⟩ := kids_row hAL
              have hkl1 : ks.length = x.t.kids.length := by rw [← hk1, List.length_map]
              have hnl : nx.length = (kidsL ((row.map XE.t).take j)).length := by rw [← hnx.out, List.length_map]
              rw [hkt, List.length_append] at hkl
              rw [← hnl] at hkl
              have hbig1 : 40 < x.t.kids.length → B = false := fun h => HMANY.out (by omega)
              have hbig2 : 40 < nx.length + x.t.kids.length → B = false := fun h => HMANY.out (by omega)
              have hnx2 : (nx ++ ks).map XE.t = kidsL ((row.map XE.t).take (j + 1)) := by rw [List.map_append, hk1, hnx.out, hkt]
              have HB1 := Lib.hid hbig1
              have HB2 := Lib.hid hbig2
              have HNX2 := Lib.hid hnx2
              have HK2 := Lib.hid hk2
              have HK3 := Lib.hid hk3
              obtain ⟨xt, xa, xc⟩ := x
              simp only at d0 d1 d2 d3 d4 d5 d6 gl gc gn hkl1 hbig1 hbig2
              simp only at HK2 HB1 HB2
              generalize xt.kids.length = KL at *
              generalize xt.nd = nd at *
              obtain ⟨op', k', i', b', s', nm'⟩ := nd
              simp only at d0 d1 d2 d3 d4 d5
              generalize str s' = S' at *
              generalize str nm' = N' at *
              obtain ⟨wa, hwa⟩ : ∃ wa, wr.alloc (.cells #[.int .i64 op', .int .i64 k', .int .i64 i', .int .u64 b', .string S', .string N', .slice xa KL xc] 27) = wa := ⟨_, rfl⟩
              have hbA : Below wr.heap.size wr wa := by rw [← hwa]; exact (Below.refl _ _).alloc (Nat.le_refl _) _
              have zT : Blk wa wr.heap.size 27 [.int .i64 op', .int .i64 k', .int .i64 i', .int .u64 b', .string S', .string N', .slice xa KL xc] := by rw [← hwa]; exact Blk.new wr #[.int .i64 op', .int .i64 k', .int .i64 i', .int .u64 b', .string S', .string N', .slice xa KL xc] _
              have hoa := ho.keep hbA
              have hb0a := below_stepL hbi hbi.size hbA
              have HKA2 := Lib.hid (HK2.out.keep (below_stepL hbw hbw.size hb0a))
              clear hcx hcl hxj hjl gA hmj hkt hkl hAL hk1 hk2 hk3 hnl hbig1 hbig2 hnx2 HK2 hnx ho
              go_upto_region 13 with fail
              try rw [hwa]
              clear hwa d0 d1 d2 d3 d4 d5 d6 hbA hbi
              generalize wr.heap.size = g at *
              have p6 := zT.cell (j := 6) rfl
              clear zT
              by_cases hK : 40 < KL
              · have hB1 := Lib.hid (HB1.out hK)
                have iK : (40 : Int) < (KL : Int) := by omega
                have hbb := below_stepL hbw hbw.size hb0a
                clear HB1 HB2
                go_wp2_with fail
                go_ret
                exact ⟨by rw [hB1.out]; rfl, hbb⟩
              · have iK : ¬ (40 : Int) < (KL : Int) := by omega
                have hlim : nx.length + ks.length ≤ 1000000 := by omega
                have hsz0 := hb0a.size
                obtain ⟨M, hM⟩ : ∃ M, (nx ++ ks).length = M := ⟨_, rfl⟩
                have hM2 : M = nx.length + KL := by rw [← hM, List.length_append, hkl1]
                have HM := Lib.hid hM
                have hG5 : XGood w (nx ++ ks) := fun x hx => by
                  rcases List.mem_append.1 hx with hx | hx
                  · exact hng.out x hx
                  · exact HK3.out x hx
                have HG5 := Lib.hid hG5
                have HW0 := Lib.hid hbw
                clear hG5 hM
                by_cases h4 : 40 < M
                · have hB1 := Lib.hid (HB2.out (by omega))
                  have iM : (40 : Int) < (M : Int) := by omega
                  clear HB1 HB2 hM2
                  go_wp2_with (first | (at_builtin; refine wpList_append_xs rfl (.tmp 36) (.tmp 38) rfl w0.heap.size _ nx rfl hoa ks xa xc KL hkl1.symm rfl HKA2.out gn hlim hsz0 ?_; intro v1 w5 ho5 hb5; obtain ⟨av, cv, rfl, hrw⟩ := ho5.row; rw [HM.out]) | fail)
                  go_ret
                  exact ⟨by rw [hB1.out]; rfl, below_stepL HW0.out HW0.out.size (hb0a.trans hb5)⟩
                · have iM : ¬ (40 : Int) < (M : Int) := by omega
                  have iM4 : M ≤ 40 := by omega
                  clear HB1 HB2 hM2
                  go_wp2_with (first | (at_builtin; refine wpList_append_xs rfl (.tmp 36) (.tmp 38) rfl w0.heap.size _ nx rfl hoa ks xa xc KL hkl1.symm rfl HKA2.out gn hlim hsz0 ?_; intro v1 w5 ho5 hb5; obtain ⟨av, cv, rfl, hrw⟩ := ho5.row; rw [HM.out]) | fail)
                  go_roundw
                  case rel => exact ⟨_, _, _, _, ⟨j + 1, by omega, (by show Value.int .i64 ((j : Int) + 1) = _; go_num), nx ++ ks, HNX2, by have := HM.out; omega, by rw [← HM.out]; exact ho5, HG5, hb0a.trans hb5⟩, rfl, rfl, rfl, rfl⟩
                  case measure => simp [intOf]; omega
            · have hjn : j = n := by omega
              have htk : (row.map XE.t).take j = row.map XE.t := List.take_of_length_le (by rw [List.length_map, HRL.out]; omega)
              have hnx3 : nx.map XE.t = kidsL (row.map XE.t) := by rw [hnx.out, htk]
              have hlay2 := HFEW.out (by rw [← hnx3, List.length_map]; exact hn4)
              rw [← hnx3] at hlay2
              have HL2 := Lib.hid hlay2
              have iI : ¬ (j : Int) < (n : Int) := by omega
              obtain ⟨av, cv, rfl, hrw⟩ := ho.row
              have HRW := Lib.hid hrw
              have hbb := below_stepL hbw hbw.size hbi
              obtain ⟨M, hM⟩ : ∃ M, nx.length = M := ⟨_, rfl⟩
              have HMM := Lib.hid hM
              rw [hM] at hn4 ⊢
              clear hnx htk hnx3 hlay2 hrw ho hM HMANY HFEW hrow hgood hbw hbi
              go_wp2_with fail
              go_roundw
              case rel => exact ⟨nx, av, cv, M, A + n, D + 1, rfl, HMM.out, by congr 1, by congr 1, by omega, by omega, by omega, hn4, HL2, HRW, hng, hbb⟩
              case measure => simp [intOf]; omega
end Go.Proofs.YtfedlchncngafaaGreatDoor
