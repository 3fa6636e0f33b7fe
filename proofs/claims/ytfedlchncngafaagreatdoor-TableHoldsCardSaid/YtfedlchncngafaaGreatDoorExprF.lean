/-
  CONTRACTS of package expr's Check, and of the reference's nodeFault.
  CONDITIONS: each theorem's own hypotheses; the tables 'Tabs', 'SW' and the forms 'FW' hold what their initialisers lay.
-/
import Derived.Test.YtfedlchncngafaaGreatDoorExprE
namespace Go.Proofs.YtfedlchncngafaaGreatDoor
open Go.RowKit
set_option linter.unusedVariables false
set_option maxRecDepth 100000

set_option maxHeartbeats 4000000 in
theorem exprCheck_any (t : T) (ao : Option Addr) (cap : Nat) (w : World) (hA : AtT w t ao) (hl : t.kids.length ≤ 9223372036854775807) (hX : XEnv w) :
    Calls Tryz.prog 67 #[exprV t ao cap] w fun e w' => e = .returned (.int .i64 (exprR t)) ∧ Below w.heap.size w w' := by
  have c1 := fun W (hW : Below w.heap.size w W) => room_any 7 (by decide) t ao cap 40 7 W rfl (hA.keep hW) hl (by decide) (by decide)
  have c2 := fun W (hW : Below w.heap.size w W) => form_any t.deep t ao cap W (Nat.le_refl _) (hA.keep hW) hl (hX.keep hW)
  simp only [exprV_cells] at c1 c2 ⊢
  unfold exprR
  have hr := roomT_rng 7 t 40 (by decide)
  generalize roomT 7 t 40 = Z at *
  generalize formT t = F at *
  generalize t.kids.length = L at *
  generalize t.nd = nd at *
  obtain ⟨op, k, i, b, s, nm⟩ := nd
  simp only at c1 c2 ⊢
  generalize str s = S at *
  generalize str nm = N at *
  obtain ⟨r0, r1⟩ := hr
  clear hA hX
  by_cases hz : Z < 0
  · rw [if_pos hz]
    go_enter Tryz.func67, Tryz.ntmps67
    go_wp2_with fail
    refine (c1 _ ((Below.refl _ _).alloc (Nat.le_refl _) _)).mono ?_
    rintro e w1 ⟨rfl, hb⟩
    have hbb : Below w.heap.size w w1 := ((Below.refl _ _).alloc (Nat.le_refl _) _).trans (hb.mono (by simp))
    clear c1 c2 hb
    go_wp2_with fail
    go_ret
    exact ⟨rfl, hbb⟩
  · rw [if_neg hz]
    go_enter Tryz.func67, Tryz.ntmps67
    go_wp2_with fail
    refine (c1 _ ((Below.refl _ _).alloc (Nat.le_refl _) _)).mono ?_
    rintro e w1 ⟨rfl, hb⟩
    have hbb : Below w.heap.size w w1 := ((Below.refl _ _).alloc (Nat.le_refl _) _).trans (hb.mono (by simp))
    obtain ⟨hc, hf⟩ := bcellX hb
    have p0 := (hc w.heap.size 0 (by simp)).trans (show _ = some (.int .i64 op) by simp)
    have p1 := (hc w.heap.size 1 (by simp)).trans (show _ = some (.int .i64 k) by simp)
    have p2 := (hc w.heap.size 2 (by simp)).trans (show _ = some (.int .i64 i) by simp)
    have p3 := (hc w.heap.size 3 (by simp)).trans (show _ = some (.int .u64 b) by simp)
    have p4 := (hc w.heap.size 4 (by simp)).trans (show _ = some (.string S) by simp)
    have p5 := (hc w.heap.size 5 (by simp)).trans (show _ = some (.string N) by simp)
    have p6 := (hc w.heap.size 6 (by simp)).trans (show _ = some (.slice ao L cap) by simp)
    clear c1 hb hc hf
    go_wp2_with fail
    refine (c2 _ hbb).mono ?_
    rintro e w2 ⟨rfl, hb2⟩
    have hb3 := below_two hbb hb2
    clear c2 hb2 p0 p1 p2 p3 p4 p5 p6
    go_wp2_with fail
    go_ret
    exact ⟨rfl, hb3⟩
theorem below_dqX {B : Nat} {a w : World} (h : Below B a w) : ∀ q, Below B a (w.drewN q)
  | 0 => h
  | q + 1 => (below_dqX h q).drew
/-- The numbers of parts as the reference lists them. -/
def wantsL : List Int := [0, 0, 0, 1, 1, 2, 2, 2, 2, 2, 2, 2, 2, 2, 2, 2, 2, 1, 1, 2, 2]
theorem wants_at (o : Nat) (h1 : 1 ≤ o) (h2 : o ≤ 20) : wantsL[o]? = some ((partsN (o : Int) : Nat) : Int) := by
  rcases (show o = 1 ∨ o = 2 ∨ o = 3 ∨ o = 4 ∨ o = 5 ∨ o = 6 ∨ o = 7 ∨ o = 8 ∨ o = 9 ∨ o = 10 ∨ o = 11 ∨ o = 12 ∨ o = 13 ∨ o = 14 ∨ o = 15 ∨ o = 16 ∨ o = 17 ∨ o = 18 ∨ o = 19 ∨ o = 20 by omega) with rfl | rfl | rfl | rfl | rfl | rfl | rfl | rfl | rfl | rfl | rfl | rfl | rfl | rfl | rfl | rfl | rfl | rfl | rfl | rfl <;> decide
theorem tokC_nm (l : List UInt8) : (tokC 1 l 0 0 == 0) = (nameB l && decide (l.length ≤ 8)) := by
  have h1 : tooL 1 l = decide (8 < l.length) := by unfold tooL; rw [if_pos (by decide)]
  have h2 : (ownT 1 l 0 0 && goodT 1 l 0 0) = nameB l := by simp [ownT, goodT]
  unfold tokC
  rw [if_neg (by decide), h1, h2]
  by_cases h : 8 < l.length
  · rw [decide_eq_true h, if_pos rfl]
    have : decide (l.length ≤ 8) = false := decide_eq_false (by omega)
    rw [this]; simp
  · have h3 : decide (l.length ≤ 8) = true := decide_eq_true (by omega)
    rw [decide_eq_false h, if_neg (by decide), h3]
    cases nameB l <;> rfl
def NodeOk (n : Nat) : Prop := ∀ (t : T) (ao : Option Addr) (cap : Nat) (w : World), t.deep ≤ n → AtT w t ao → t.kids.length ≤ 9223372036854775807 → Tabs w →
    Calls Tryz.prog 143 #[exprV t ao cap] w fun e w' => e = .returned (.int .i64 (formT t)) ∧ Below w.heap.size w w'
set_option maxHeartbeats 8000000 in
theorem node_step (n : Nat) (IH : NodeOk n) : NodeOk (n + 1) := by
    rintro ⟨⟨op, k, i, b, s, nm⟩, l⟩ ao cap w hdp hA hl hT
    have hdl : deepL l ≤ n := by simp only [T.deep] at hdp; omega
    simp only [AtT] at hA
    rw [exprV_cells]
    simp only [T.nd, T.kids] at hl ⊢
    have hfit := hA.1
    have cF := fun (W : World) (hW : Below w.heap.size w W) => fault_any k i b (str s) W hfit.i0 hfit.i1 hfit.b0 hfit.b1 (tabs_below hT hW)
    have cI := fun (W : World) => isNameRef_any nm W hfit.n1
    have hf : formT (T.mk ⟨op, k, i, b, s, nm⟩ l) = if nodeF ⟨op, k, i, b, s, nm⟩ l.length ≠ 0 then nodeF ⟨op, k, i, b, s, nm⟩ l.length else formL l := rfl
    rw [hf]
    have hc := nodeF_cases ⟨op, k, i, b, s, nm⟩ l.length
    simp only at hc
    have HT := Lib.hid hT
    have HA := Lib.hid hA.2
    have HIH := Lib.hid IH
    have HDL := Lib.hid hdl
    have ho0 := hfit.o0
    have ho1 := hfit.o1
    have hn1 := hfit.n1
    simp only at ho0 ho1 hn1
    clear hA IH hdl hdp hT hf hfit
    obtain ⟨L, hL⟩ : ∃ L, l.length = L := ⟨_, rfl⟩
    rw [hL] at hl hc ⊢
    have HL := Lib.hid hL
    clear hL
    rcases hc with ⟨hno, hf⟩ | ⟨⟨hop1, hop2⟩, hf⟩
    · rw [hf, if_pos (by decide)]
      clear hf cF cI
      generalize str s = S
      generalize str nm = N
      by_cases h1 : op < 1
      · clear hno
        go_enter Tryz.func143, Tryz.ntmps143
        go_wp2_with fail
        go_ret
        exact ⟨rfl, ((Below.refl _ _).alloc (Nat.le_refl _) _).alloc (by simp) _⟩
      · have h2 : 21 ≤ op := by omega
        clear hno
        go_enter Tryz.func143, Tryz.ntmps143
        go_wp2_with fail
        go_ret
        exact ⟨rfl, ((Below.refl _ _).alloc (Nat.le_refl _) _).alloc (by simp) _⟩
    · obtain ⟨o, rfl⟩ : ∃ o : Nat, op = (o : Int) := ⟨op.toNat, by omega⟩
      have hw := wants_at o (by omega) (by omega)
      have hse : (str s).toList.isEmpty = s.isEmpty := by rw [str_toList]
      have hne : (str nm).toList.isEmpty = nm.isEmpty := by rw [str_toList]
      have hns := str_size nm
      have hB : ∃ B, ((decide (L = partsN (o : Int)) && nOk ⟨(o : Int), k, i, b, s, nm⟩) && vOk ⟨(o : Int), k, i, b, s, nm⟩) = B := ⟨_, rfl⟩
      obtain ⟨B, hB⟩ := hB
      rw [hB] at hf
      rw [hf]
      unfold nOk vOk at hB
      simp only at hB
      rw [← hse, ← hne] at hB
      have htok := tokC_nm nm
      generalize partsN (o : Int) = pn at *
      have hdec : ((L : Int) == (pn : Int)) = decide (L = pn) := by
        by_cases h : L = pn
        · subst h; simp
        · rw [decide_eq_false h]; simpa using (fun e => h (by omega))
      generalize decide (L = pn) = B1 at *
      have hcI := cI
      generalize nameB nm = BN at *
      generalize chk k i b (str s) = CV at *
      obtain ⟨S, hS⟩ : ∃ S, str s = S := ⟨_, rfl⟩
      obtain ⟨N, hN⟩ : ∃ N, str nm = N := ⟨_, rfl⟩
      rw [hS] at cF hB ⊢
      rw [hN] at cI hB hns ⊢
      obtain ⟨nl, hnl⟩ : ∃ nl, nm.length = nl := ⟨_, rfl⟩
      rw [hnl] at hns htok hn1
      have hnsI : (N.size : Int) = (nl : Int) := by omega
      have hlo : decide ((o : Int) < 1) = false := decide_eq_false (by omega)
      have hhi : decide (21 ≤ (o : Int)) = false := decide_eq_false (by omega)
      have i21 : (o : Int) < 21 := by omega
      obtain ⟨w2, hw2⟩ : ∃ w2, (w.alloc (.cells #[.int .i64 o, .int .i64 k, .int .i64 i, .int .u64 b, .string S, .string N, .slice ao L cap] 27)).alloc (.cells #[.int .i64 0, .int .i64 0, .int .i64 0, .int .i64 1, .int .i64 1, .int .i64 2, .int .i64 2, .int .i64 2, .int .i64 2, .int .i64 2, .int .i64 2, .int .i64 2, .int .i64 2, .int .i64 2, .int .i64 2, .int .i64 2, .int .i64 2, .int .i64 1, .int .i64 1, .int .i64 2, .int .i64 2] 3) = w2 := ⟨_, rfl⟩
      have hb2 : Below w.heap.size w w2 := by rw [← hw2]; exact ((Below.refl _ _).alloc (Nat.le_refl _) _).alloc (by simp) _
      have hz2 : w.heap.size + 1 < w2.heap.size := by rw [← hw2]; simp
      have hcell : w2.cell? ⟨w.heap.size + 1, o, none⟩ = some (.int .i64 pn) := by
        rw [← hw2]
        have e : (#[.int .i64 0, .int .i64 0, .int .i64 0, .int .i64 1, .int .i64 1, .int .i64 2, .int .i64 2, .int .i64 2, .int .i64 2, .int .i64 2, .int .i64 2, .int .i64 2, .int .i64 2, .int .i64 2, .int .i64 2, .int .i64 2, .int .i64 2, .int .i64 1, .int .i64 1, .int .i64 2, .int .i64 2] : Array Value) = (wantsL.map fun x => Value.int .i64 x).toArray := rfl
        rw [e]
        have hx : w.heap.size + 1 = (w.alloc (.cells #[.int .i64 o, .int .i64 k, .int .i64 i, .int .u64 b, .string S, .string N, .slice ao L cap] 27)).heap.size := by simp
        rw [hx, World.cell?_alloc_new]
        simp [hw]
      have p0 : w2.cell? ⟨w.heap.size, 0, none⟩ = some (.int .i64 o) := by rw [← hw2]; simp
      have p1 : w2.cell? ⟨w.heap.size, 1, none⟩ = some (.int .i64 k) := by rw [← hw2]; simp
      have p2 : w2.cell? ⟨w.heap.size, 2, none⟩ = some (.int .i64 i) := by rw [← hw2]; simp
      have p3 : w2.cell? ⟨w.heap.size, 3, none⟩ = some (.int .u64 b) := by rw [← hw2]; simp
      have p4 : w2.cell? ⟨w.heap.size, 4, none⟩ = some (.string S) := by rw [← hw2]; simp
      have p5 : w2.cell? ⟨w.heap.size, 5, none⟩ = some (.string N) := by rw [← hw2]; simp
      have p6 : w2.cell? ⟨w.heap.size, 6, none⟩ = some (.slice ao L cap) := by rw [← hw2]; simp
      have HB := Lib.hid hB
      have HS := Lib.hid hS
      have HN := Lib.hid hN
      have HTK := Lib.hid htok
      clear hB hse hne hns hS hN hw hf htok hnl hcI
      obtain ⟨FV, hFV⟩ : ∃ FV, (if (if B = true then (0 : Int) else 3) ≠ 0 then (if B = true then (0 : Int) else 3) else formL l) = FV := ⟨_, rfl⟩
      rw [hFV]
      have HFV := Lib.hid hFV
      clear hFV
      go_enter Tryz.func143, Tryz.ntmps143
      go_upto_region 2 with fail
      try rw [hw2]
      clear hw2
      go_upto_region 4 with fail
      go_quiet (fail)
      have hbd : Below w.heap.size w (w2.drewN nq) := below_dqX hb2 nq
      have hbe : Below w2.heap.size w2 (w2.drewN nq) := below_dqX (Below.refl _ _) nq
      obtain ⟨wd, hwd⟩ : ∃ wd, w2.drewN nq = wd := ⟨_, rfl⟩
      rw [hwd] at hbd hbe ⊢
      have q0 := (hbe.cell (p := ⟨w.heap.size, 0, none⟩) (by show w.heap.size < w2.heap.size; omega)).trans p0
      have q1 := (hbe.cell (p := ⟨w.heap.size, 1, none⟩) (by show w.heap.size < w2.heap.size; omega)).trans p1
      have q2 := (hbe.cell (p := ⟨w.heap.size, 2, none⟩) (by show w.heap.size < w2.heap.size; omega)).trans p2
      have q3 := (hbe.cell (p := ⟨w.heap.size, 3, none⟩) (by show w.heap.size < w2.heap.size; omega)).trans p3
      have q4 := (hbe.cell (p := ⟨w.heap.size, 4, none⟩) (by show w.heap.size < w2.heap.size; omega)).trans p4
      have q5 := (hbe.cell (p := ⟨w.heap.size, 5, none⟩) (by show w.heap.size < w2.heap.size; omega)).trans p5
      have q6 := (hbe.cell (p := ⟨w.heap.size, 6, none⟩) (by show w.heap.size < w2.heap.size; omega)).trans p6
      have hzd : w.heap.size < wd.heap.size := by have := hbe.size; omega
      clear hwd hbe hb2 hz2 hcell p0 p1 p2 p3 p4 p5 p6
      go_step
      go_step
      go_step
      go_cut [4] (fun x wx => x = .bool B ∧ Hid (Below w.heap.size w wx) ∧ wx.cell? ⟨w.heap.size, 6, none⟩ = some (.slice ao L cap))
      case first =>
        have hB := HB.out
        cases B1
        · -- the number of parts is wrong
          obtain rfl : B = false := by rw [← hB]; simp
          clear cF cI HB hB
          by_cases e1 : o = 1
          · have o1 : ((o : Int) == 1) = true := by simp [e1]
            clear e1
            go_wp2_with fail
            go_meet
            exact ⟨rfl, Lib.hid hbd, q6⟩
          · have o1 : ((o : Int) == 1) = false := by simpa using (fun e => e1 (by omega))
            by_cases e2 : o = 2
            · have o2 : ((o : Int) == 2) = true := by simp [e2]
              clear e1 e2
              go_wp2_with fail
              go_meet
              exact ⟨rfl, Lib.hid hbd, q6⟩
            · have o2 : ((o : Int) == 2) = false := by simpa using (fun e => e2 (by omega))
              clear e1 e2
              go_wp2_with fail
              go_meet
              exact ⟨rfl, Lib.hid hbd, q6⟩
        · by_cases e1 : o = 1
          · have o1 : ((o : Int) == 1) = true := by simp [e1]
            have hB2 : (N.toList.isEmpty && ((CV == 0) && decide (0 ≤ i))) = B := by rw [← hB]; simp [e1]
            clear e1 hB cI HB
            cases hn : N.toList.isEmpty
            · obtain rfl : B = false := by rw [← hB2, hn]; rfl
              clear cF hB2
              go_wp2_with fail
              go_meet
              exact ⟨rfl, Lib.hid hbd, q6⟩
            · have cf := cF wd hbd
              rw [hn, Bool.true_and] at hB2
              have hn2 : N.toList = [] := by simpa using hn
              cases hv : (CV == 0)
              · obtain rfl : B = false := by rw [← hB2, hv]; rfl
                clear cF hB2
                go_wp2_with fail
                refine cf.mono ?_
                rintro e w4 ⟨rfl, hb4⟩
                have hb5 := Lib.hid (below_two hbd hb4)
                have r6 := (hb4.cell (p := ⟨w.heap.size, 6, none⟩) hzd).trans q6
                clear cf hb4 hbd q0 q1 q2 q3 q4 q5 q6
                go_wp2_with fail
                go_meet
                exact ⟨rfl, hb5, r6⟩
              · rw [hv, Bool.true_and] at hB2
                clear cF
                go_wp2_with fail
                refine cf.mono ?_
                rintro e w4 ⟨rfl, hb4⟩
                have hb5 := Lib.hid (below_two hbd hb4)
                have r6 := (hb4.cell (p := ⟨w.heap.size, 6, none⟩) hzd).trans q6
                have r2 := (hb4.cell (p := ⟨w.heap.size, 2, none⟩) hzd).trans q2
                clear cf hb4 hbd q0 q1 q2 q3 q4 q5 q6
                go_wp2_with fail
                go_meet
                exact ⟨by first | (rw [← hB2]; done) | (rw [hB2]; done) | simp [hB2] | (rw [← hB2]; rfl), hb5, r6⟩
          · have o1 : ((o : Int) == 1) = false := by simpa using (fun e => e1 (by omega))
            have e1' : ¬ (o : Int) = 1 := by omega
            by_cases e2 : o = 2
            · have o2 : ((o : Int) == 2) = true := by simp [e2]
              have hB2 : ((((k == 0) && (i == 0)) && (b == 0)) && S.toList.isEmpty && (BN && decide (nl ≤ 8))) = B := by rw [← hB, ← HTK.out]; simp [e2, Bool.and_comm]
              clear e1 e2 e1' hB cF HB
              have hz5 : (k == 0) = false ∨ ((k == 0) = true ∧ (i == 0) = false) ∨ ((k == 0) = true ∧ (i == 0) = true ∧ (b == 0) = false) ∨ ((k == 0) = true ∧ (i == 0) = true ∧ (b == 0) = true ∧ S.toList.isEmpty = false) ∨ ((k == 0) = true ∧ (i == 0) = true ∧ (b == 0) = true ∧ S.toList.isEmpty = true) := by
                cases (k == 0) <;> cases (i == 0) <;> cases (b == 0) <;> cases S.toList.isEmpty <;> simp
              rcases hz5 with z1 | ⟨z1, z2⟩ | ⟨z1, z2, z3⟩ | ⟨z1, z2, z3, z4⟩ | ⟨z1, z2, z3, z4⟩
              · rw [z1] at hB2
                have hbb : B = false := by rw [← hB2]; rfl
                subst hbb
                go_wp2_with fail
                go_meet
                exact ⟨rfl, Lib.hid hbd, q6⟩
              · rw [z1, z2] at hB2
                have hbb : B = false := by rw [← hB2]; rfl
                subst hbb
                go_wp2_with fail
                go_meet
                exact ⟨rfl, Lib.hid hbd, q6⟩
              · rw [z1, z2, z3] at hB2
                have hbb : B = false := by rw [← hB2]; rfl
                subst hbb
                go_wp2_with fail
                go_meet
                exact ⟨rfl, Lib.hid hbd, q6⟩
              · rw [z1, z2, z3, z4] at hB2
                have hbb : B = false := by rw [← hB2]; rfl
                subst hbb
                go_wp2_with fail
                go_meet
                exact ⟨rfl, Lib.hid hbd, q6⟩
              · rw [z1, z2, z3, z4] at hB2
                have z5 : S.toList = [] := by simpa using z4
                go_wp2_with fail
                refine (cI wd).mono ?_
                rintro e w4 ⟨rfl, hw4⟩
                subst hw4
                clear cI
                cases BN
                · go_wp2_with fail
                  go_meet
                  exact ⟨by rw [← hB2]; simp, Lib.hid hbd, q6⟩
                · by_cases h8 : nl ≤ 8
                  · have i8 : decide ((nl : Int) ≤ 8) = true := decide_eq_true (by omega)
                    have i9 : decide (nl ≤ 8) = true := decide_eq_true h8
                    rw [i9] at hB2
                    clear h8 i9
                    go_wp2_with fail
                    go_meet
                    exact ⟨by rw [← hB2]; simp [*], Lib.hid hbd, q6⟩
                  · have i8 : decide ((nl : Int) ≤ 8) = false := decide_eq_false (by omega)
                    have i9 : decide (nl ≤ 8) = false := decide_eq_false h8
                    rw [i9] at hB2
                    clear h8 i9
                    go_wp2_with fail
                    go_meet
                    exact ⟨by rw [← hB2]; simp, Lib.hid hbd, q6⟩
            · have o2 : ((o : Int) == 2) = false := by simpa using (fun e => e2 (by omega))
              have e2' : ¬ (o : Int) = 2 := by omega
              have hB2 : (N.toList.isEmpty && ((((k == 0) && (i == 0)) && (b == 0)) && S.toList.isEmpty)) = B := by rw [← hB, if_neg e2', if_neg e1']; rfl
              clear e1 e2 e1' e2' hB cF cI HB
              cases hn : N.toList.isEmpty
              · obtain rfl : B = false := by rw [← hB2, hn]; rfl
                clear hB2
                go_wp2_with fail
                go_meet
                exact ⟨rfl, Lib.hid hbd, q6⟩
              · have hn2 : N.toList = [] := by simpa using hn
                rw [hn, Bool.true_and] at hB2
                have hz5 : (k == 0) = false ∨ ((k == 0) = true ∧ (i == 0) = false) ∨ ((k == 0) = true ∧ (i == 0) = true ∧ (b == 0) = false) ∨ ((k == 0) = true ∧ (i == 0) = true ∧ (b == 0) = true ∧ S.toList.isEmpty = false) ∨ ((k == 0) = true ∧ (i == 0) = true ∧ (b == 0) = true ∧ S.toList.isEmpty = true) := by
                  cases (k == 0) <;> cases (i == 0) <;> cases (b == 0) <;> cases S.toList.isEmpty <;> simp
                rcases hz5 with z1 | ⟨z1, z2⟩ | ⟨z1, z2, z3⟩ | ⟨z1, z2, z3, z4⟩ | ⟨z1, z2, z3, z4⟩
                · rw [z1] at hB2
                  have hbb : B = false := by rw [← hB2]; rfl
                  subst hbb
                  go_wp2_with fail
                  go_meet
                  exact ⟨rfl, Lib.hid hbd, q6⟩
                · rw [z1, z2] at hB2
                  have hbb : B = false := by rw [← hB2]; rfl
                  subst hbb
                  go_wp2_with fail
                  go_meet
                  exact ⟨rfl, Lib.hid hbd, q6⟩
                · rw [z1, z2, z3] at hB2
                  have hbb : B = false := by rw [← hB2]; rfl
                  subst hbb
                  go_wp2_with fail
                  go_meet
                  exact ⟨rfl, Lib.hid hbd, q6⟩
                · rw [z1, z2, z3, z4] at hB2
                  have hbb : B = false := by rw [← hB2]; rfl
                  subst hbb
                  go_wp2_with fail
                  go_meet
                  exact ⟨rfl, Lib.hid hbd, q6⟩
                · rw [z1, z2, z3, z4] at hB2
                  have z5 : S.toList = [] := by simpa using z4
                  have hbb : B = true := by rw [← hB2]; rfl
                  subst hbb
                  go_wp2_with fail
                  go_meet
                  exact ⟨rfl, Lib.hid hbd, q6⟩
      case rest =>
        obtain ⟨rfl, hbx, c6⟩ := hcut
        have hfv := HFV.out
        cases B
        · obtain rfl : FV = 3 := by rw [← hfv]; rfl
          go_wp2_with fail
          go_ret
          exact ⟨rfl, hbx.out⟩
        · have hfv2 : formL l = FV := hfv
          have HFV := Lib.hid hfv2
          clear hfv hfv2
          go_wp2_with fail
          go_loopw [87] (fun i wr => ∃ j : Nat, j ≤ L ∧ i = .int .i64 j ∧ Hid (∀ (i : Nat) (u : T), l[i]? = some u → i < j → formT u = 0) ∧ Hid (Below w.heap.size w wr)) (fun i _ => L - (intOf i).toNat)
          case atStart => exact ⟨0, Nat.zero_le _, rfl, Lib.hid (fun i u _ h => absurd h (Nat.not_lt_zero _)), hbx⟩
          case round =>
            obtain ⟨j, hj, rfl, hall, hbw⟩ := hrel
            by_cases hlt : j < L
            · have iI : (j : Int) < (L : Int) := by omega
              have hjl : j < l.length := by rw [HL.out]; exact hlt
              obtain ⟨t, htj⟩ : ∃ t, l[j]? = some t := ⟨l[j], List.getElem?_eq_getElem hjl⟩
              obtain ⟨a, o', rfl, ha, hnode⟩ := AtL.at HA.out j t htj
              rw [Nat.zero_add] at hnode
              obtain ⟨ao', cap', n1, n2, nA, x0, x1, x2, x3, x4, x5, x6⟩ := hnode.cells
              have d0 := (hbw.out.cell (p := ⟨a, o' + j * 7, none⟩) ha).trans x0
              have d1 := (hbw.out.cell (p := ⟨a, o' + j * 7 + 1, none⟩) ha).trans x1
              have d2 := (hbw.out.cell (p := ⟨a, o' + j * 7 + 2, none⟩) ha).trans x2
              have d3 := (hbw.out.cell (p := ⟨a, o' + j * 7 + 3, none⟩) ha).trans x3
              have d4 := (hbw.out.cell (p := ⟨a, o' + j * 7 + 4, none⟩) ha).trans x4
              have d5 := (hbw.out.cell (p := ⟨a, o' + j * 7 + 5, none⟩) ha).trans x5
              have d6 := (hbw.out.cell (p := ⟨a, o' + j * 7 + 6, none⟩) ha).trans x6
              have hdt : t.deep ≤ n := Nat.le_trans (deep_mem htj) HDL.out
              have cC := fun W (hW : Below w.heap.size w W) => HIH.out t ao' cap' W hdt (nA.keep hW) (by omega) (tabs_below HT.out hW)
              simp only [exprV_cells] at cC
              have hbad : formT t ≠ 0 → formL l = formT t := fun h => formL_bad l j t htj hall.out h
              have hnext : formT t = 0 → ∀ (i : Nat) (u : T), l[i]? = some u → i < j + 1 → formT u = 0 := by
                intro h i u hu hi
                rcases Nat.lt_or_ge i j with h1 | h1
                · exact hall.out i u hu h1
                · obtain rfl : i = j := by omega
                  rw [htj] at hu; cases hu; exact h
              have HBAD := Lib.hid hbad
              have HNEXT := Lib.hid hnext
              generalize formT t = Z at *
              generalize t.kids.length = KL at *
              generalize t.nd = nd at *
              obtain ⟨op', k', i', b', s', nm'⟩ := nd
              simp only at d0 d1 d2 d3 d4 d5 d6 cC
              generalize str s' = S' at *
              generalize str nm' = N' at *
              obtain ⟨wa, hwa⟩ : ∃ wa, wr.alloc (.cells #[.int .i64 op', .int .i64 k', .int .i64 i', .int .u64 b', .string S', .string N', .slice ao' KL cap'] 27) = wa := ⟨_, rfl⟩
              have hbA : Below wr.heap.size wr wa := by rw [← hwa]; exact (Below.refl _ _).alloc (Nat.le_refl _) _
              have zT : Blk wa wr.heap.size 27 [.int .i64 op', .int .i64 k', .int .i64 i', .int .u64 b', .string S', .string N', .slice ao' KL cap'] := by rw [← hwa]; exact Blk.new wr #[.int .i64 op', .int .i64 k', .int .i64 i', .int .u64 b', .string S', .string N', .slice ao' KL cap'] _
              have hb0a := below_stepL hbw.out hbw.out.size hbA
              have cc := cC wa hb0a
              clear x0 x1 x2 x3 x4 x5 x6 hnode htj nA cC hjl n1 hdt hbad hnext hall
              go_upto_region 16 with fail
              try rw [hwa]
              clear hwa d0 d1 d2 d3 d4 d5 d6 hbA hbw
              generalize wr.heap.size = g at *
              have p0 := zT.cell (j := 0) rfl
              have p1 := zT.cell (j := 1) rfl
              have p2 := zT.cell (j := 2) rfl
              have p3 := zT.cell (j := 3) rfl
              have p4 := zT.cell (j := 4) rfl
              have p5 := zT.cell (j := 5) rfl
              have p6 := zT.cell (j := 6) rfl
              go_wp2_with fail
              refine cc.mono ?_
              rintro e w3 ⟨rfl, hb3⟩
              have hb03 := Lib.hid (below_stepL hb0a hb0a.size hb3)
              clear cc p0 p1 p2 p3 p4 p5 p6 zT hb3 hb0a
              by_cases hz : Z = 0
              · have hN := Lib.hid (HNEXT.out hz)
                have z1 : (Z != 0) = false := by rw [hz]; rfl
                clear HBAD HNEXT hz
                go_wp2_with fail
                go_roundw
                case rel => exact ⟨j + 1, by omega, by go_num, hN, hb03⟩
                case measure => simp [intOf]; omega
              · have hN := Lib.hid (HBAD.out hz)
                have z1 : (Z != 0) = true := by simpa using hz
                clear HBAD HNEXT hz
                go_wp2_with fail
                go_ret
                exact ⟨by rw [← HFV.out, hN.out]; rfl, hb03.out⟩
            · have iI : ¬ (j : Int) < (L : Int) := by omega
              have hN := Lib.hid (formL_good l (fun i u hu => hall.out i u hu (by have := (List.getElem?_eq_some_iff.1 hu).1; rw [HL.out] at this; omega)))
              go_wp2_with fail
              go_ret
              exact ⟨by rw [← HFV.out, hN.out]; rfl, hbw.out⟩
theorem node_any : ∀ n : Nat, NodeOk n := by
  intro n
  induction n with
  | zero =>
    intro t ao cap w h _ _ _
    have := T.deep_eq t; omega
  | succ n ih => exact node_step n ih
end Go.Proofs.YtfedlchncngafaaGreatDoor
