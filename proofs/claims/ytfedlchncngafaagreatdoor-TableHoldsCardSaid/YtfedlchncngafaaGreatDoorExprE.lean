/-
  CONTRACTS of package expr's Check: the form of a whole tree, and Check.
  CONDITIONS: each theorem's own hypotheses; the tables 'Tabs', 'SW' and the forms 'FW' hold what their initialisers lay.
-/
import Derived.Test.YtfedlchncngafaaGreatDoorExprD
namespace Go.Proofs.YtfedlchncngafaaGreatDoor
open Go.RowKit
set_option linter.unusedVariables false
set_option maxRecDepth 100000

/-- The forms' numbers of parts, as they lie. -/
def FW (w : World) : Prop := 0 < w.heap.size ∧ ∀ (op : Int), 1 ≤ op → op ≤ 20 → w.cell? ⟨0, op.toNat * 5, none⟩ = some (.int .i64 (partsN op))
theorem FW.keep {w w' : World} {B : Nat} (h : FW w) (hb : Below B w w') (hB : w.heap.size ≤ B) : FW w' :=
  ⟨Nat.lt_of_lt_of_le h.1 hb.size, fun op h1 h2 => (hb.cell (p := ⟨0, _, none⟩) (Nat.lt_of_lt_of_le h.1 hB)).trans (h.2 op h1 h2)⟩
/-- What Check asks of the world. -/
structure XEnv (w : World) : Prop where
  tabs : Tabs w
  sw : SW w
  fw : FW w
theorem XEnv.keep {w w' : World} (h : XEnv w) (hb : Below w.heap.size w w') : XEnv w' := ⟨tabs_below h.tabs hb, h.sw.keep hb (Nat.le_refl _), h.fw.keep hb (Nat.le_refl _)⟩
def FormOk (n : Nat) : Prop := ∀ (t : T) (ao : Option Addr) (cap : Nat) (w : World), t.deep ≤ n → AtT w t ao → t.kids.length ≤ 9223372036854775807 → XEnv w →
    Calls Tryz.prog 100 #[exprV t ao cap] w fun e w' => e = .returned (.int .i64 (formT t)) ∧ Below w.heap.size w w'
/-- A node alone: what is asked ahead of its parts. -/
theorem deep_mem : ∀ {l : List T} {j : Nat} {t : T}, l[j]? = some t → t.deep ≤ deepL l
  | [], j, t, h => by simp at h
  | u :: l, 0, t, h => by
    simp only [List.getElem?_cons_zero, Option.some.injEq] at h
    subst h; simp only [deepL]; omega
  | u :: l, j + 1, t, h => by
    have := deep_mem (l := l) (j := j) (t := t) (by simpa using h)
    simp only [deepL]; omega
theorem below_two {w b c : World} (h : Below w.heap.size w b) (k : Below b.heap.size b c) : Below w.heap.size w c := h.trans (k.mono h.size)
theorem bcellX {W w1 : World} (hb : Below W.heap.size W w1) : (∀ b o, b < W.heap.size → w1.cell? ⟨b, o, none⟩ = W.cell? ⟨b, o, none⟩) ∧ (∀ b o, b < W.heap.size → w1.frozen? ⟨b, o, none⟩ = W.frozen? ⟨b, o, none⟩) :=
  ⟨fun b o h => hb.cell (p := ⟨b, o, none⟩) h, fun b o h => hb.frozen (p := ⟨b, o, none⟩) h⟩
theorem nodeF_cases (d : Nd) (n : Nat) : (¬ (1 ≤ d.op ∧ d.op ≤ 20) ∧ nodeF d n = 2) ∨ ((1 ≤ d.op ∧ d.op ≤ 20) ∧ nodeF d n = if (decide (n = partsN d.op) && nOk d) && vOk d then 0 else 3) := by
  unfold nodeF
  by_cases h : d.op < 1 ∨ 20 < d.op
  · left; rw [if_pos h]; exact ⟨by omega, rfl⟩
  · right; rw [if_neg h]; exact ⟨by omega, rfl⟩
set_option maxHeartbeats 8000000 in
theorem form_any : ∀ n : Nat, FormOk n
  | 0 => by
    intro t ao cap w h _ _ _
    have := T.deep_eq t; omega
  | n + 1 => by
    rintro ⟨⟨op, k, i, b, s, nm⟩, l⟩ ao cap w hdp hA hl hX
    have IH := form_any n
    have hdl : deepL l ≤ n := by simp only [T.deep] at hdp; omega
    simp only [AtT] at hA
    rw [exprV_cells]
    simp only [T.nd, T.kids] at hl ⊢
    have hfit := hA.1
    have cN := fun (W : World) (hW : Below w.heap.size w W) (ao : Option Addr) (L cap : Nat) => goodName_any op k i b s nm ao L cap W hfit.n1 (hX.keep hW).tabs (hX.keep hW).sw
    have cV := fun (W : World) (hW : Below w.heap.size w W) (ao : Option Addr) (L cap : Nat) => goodValue_any op k i b s nm ao L cap W hfit.b0 hfit.b1 hfit.t1 (hX.keep hW).tabs
    have hf : formT (T.mk ⟨op, k, i, b, s, nm⟩ l) = if nodeF ⟨op, k, i, b, s, nm⟩ l.length ≠ 0 then nodeF ⟨op, k, i, b, s, nm⟩ l.length else formL l := rfl
    rw [hf]
    have hc := nodeF_cases ⟨op, k, i, b, s, nm⟩ l.length
    simp only at hc
    have HX := Lib.hid hX
    have HA := Lib.hid hA.2
    have HIH := Lib.hid IH
    have HDL := Lib.hid hdl
    have ho0 := hfit.o0
    have ho1 := hfit.o1
    simp only at ho0 ho1
    clear hA IH hdl hdp hX hf hfit
    obtain ⟨L, hL⟩ : ∃ L, l.length = L := ⟨_, rfl⟩
    rw [hL] at hl hc ⊢
    have HL := Lib.hid hL
    clear hL
    rcases hc with ⟨hno, hf⟩ | ⟨⟨hop1, hop2⟩, hf⟩
    · rw [hf, if_pos (by decide)]
      clear hf cN cV
      generalize str s = S
      generalize str nm = N
      by_cases h1 : op < 1
      · clear hno
        go_enter Tryz.func100, Tryz.ntmps100
        go_wp2_with fail
        go_ret
        exact ⟨rfl, (Below.refl _ _).alloc (Nat.le_refl _) _⟩
      · have h2 : 20 < op := by omega
        clear hno
        go_enter Tryz.func100, Tryz.ntmps100
        go_wp2_with fail
        go_ret
        exact ⟨rfl, (Below.refl _ _).alloc (Nat.le_refl _) _⟩
    · have hFW := HX.out.fw.2 op hop1 hop2
      have hgl := HX.out.fw.1
      obtain ⟨o, rfl⟩ : ∃ o : Nat, op = (o : Int) := ⟨op.toNat, by omega⟩
      rw [Int.toNat_natCast] at hFW
      generalize partsN (o : Int) = pn at *
      have hdec : ((L : Int) == (pn : Int)) = decide (L = pn) := by
        by_cases h : L = pn
        · subst h; simp
        · rw [decide_eq_false h]; simpa using (fun e => h (by omega))
      have hlo : decide ((o : Int) < 1) = false := decide_eq_false (by omega)
      have hhi : decide (20 < (o : Int)) = false := decide_eq_false (by omega)
      have hdec2 : ((L : Int) != (pn : Int)) = !decide (L = pn) := by rw [bne, hdec]
      have fc : ∀ x, (w.alloc x).cell? ⟨0, o * 5, none⟩ = some (.int .i64 pn) := fun x => ((Below.refl w.heap.size w).alloc (Nat.le_refl _) x).cell (p := ⟨0, o * 5, none⟩) hgl |>.trans hFW
      generalize hB1 : decide (L = pn) = B1 at *
      generalize nOk ⟨(o : Int), k, i, b, s, nm⟩ = B2 at *
      generalize vOk ⟨(o : Int), k, i, b, s, nm⟩ = B3 at *
      generalize str s = S at *
      generalize str nm = N at *
      clear hB1 hFW
      cases B1
      · simp only [Bool.not_false] at hdec2
        have hf3 : nodeF ⟨(o : Int), k, i, b, s, nm⟩ L = 3 := by rw [hf]; rfl
        rw [hf3, if_pos (by decide)]
        clear cN cV hf hf3
        go_enter Tryz.func100, Tryz.ntmps100
        go_upto_region 3 with fail
        go_region_with (fail)
        all_goals (try go_wp2_with fail)
        all_goals go_ret
        all_goals exact ⟨rfl, ((Below.refl _ _).alloc (Nat.le_refl _) _).drew⟩
      · simp only [Bool.not_true] at hdec2
        cases B2
        · have hf3 : nodeF ⟨(o : Int), k, i, b, s, nm⟩ L = 3 := by rw [hf]; rfl
          rw [hf3, if_pos (by decide)]
          clear cV hf hf3
          go_enter Tryz.func100, Tryz.ntmps100
          go_upto_region 3 with fail
          go_region_with (go_at_call 137; refine (cN _ ((Below.refl _ _).alloc (Nat.le_refl _) _).drew _ _ _).mono ?_; rintro e w1 ⟨rfl, hb⟩; have hbb := below_stepL ((Below.refl _ _).alloc (Nat.le_refl _) _).drew (by simp) hb)
          all_goals (try go_wp2_with fail)
          all_goals go_ret
          all_goals exact ⟨rfl, by assumption⟩
        · cases B3
          · have hf3 : nodeF ⟨(o : Int), k, i, b, s, nm⟩ L = 3 := by rw [hf]; rfl
            rw [hf3, if_pos (by decide)]
            clear hf hf3
            go_enter Tryz.func100, Tryz.ntmps100
            go_upto_region 3 with fail
            go_region_with (first | (go_at_call 137; refine (cN _ ((Below.refl _ _).alloc (Nat.le_refl _) _).drew _ _ _).mono ?_; rintro e w1 ⟨rfl, hb⟩; have hbb : Below w.heap.size w w1 := below_stepL ((Below.refl _ _).alloc (Nat.le_refl _) _).drew (by simp) hb; have q6 : w1.cell? ⟨w.heap.size, 6, none⟩ = some (.slice ao L cap) := (hb.cell (p := ⟨w.heap.size, 6, none⟩) (by simp)).trans (by simp); have hz : w.heap.size < w1.heap.size := (by have := hb.size; simp at this; omega); obtain ⟨hc, hf⟩ := bcellX hb) | (go_at_call 138; refine (cV _ (by assumption) _ _ _).mono ?_; rintro e w2 ⟨rfl, hb2⟩; have hbb2 : Below w.heap.size w w2 := below_two (by assumption) hb2; have q62 : w2.cell? ⟨w.heap.size, 6, none⟩ = some (.slice ao L cap) := (hb2.cell (p := ⟨w.heap.size, 6, none⟩) (by assumption)).trans (by assumption)))
            all_goals (try go_wp2_with fail)
            all_goals go_ret
            all_goals exact ⟨rfl, by assumption⟩
          · have hf3 : nodeF ⟨(o : Int), k, i, b, s, nm⟩ L = 0 := by rw [hf]; rfl
            rw [hf3, if_neg (by decide)]
            clear hf hf3
            go_enter Tryz.func100, Tryz.ntmps100
            go_upto_region 3 with fail
            go_cut [32] (fun x wx => x = .bool false ∧ Hid (Below w.heap.size w wx) ∧ wx.cell? ⟨w.heap.size, 6, none⟩ = some (.slice ao L cap))
            case first =>
              go_region_with (first | (go_at_call 137; refine (cN _ ((Below.refl _ _).alloc (Nat.le_refl _) _).drew _ _ _).mono ?_; rintro e w1 ⟨rfl, hb⟩; have hbb : Below w.heap.size w w1 := below_stepL ((Below.refl _ _).alloc (Nat.le_refl _) _).drew (by simp) hb; have q6 : w1.cell? ⟨w.heap.size, 6, none⟩ = some (.slice ao L cap) := (hb.cell (p := ⟨w.heap.size, 6, none⟩) (by simp)).trans (by simp); have hz : w.heap.size < w1.heap.size := (by have := hb.size; simp at this; omega); obtain ⟨hc, hf⟩ := bcellX hb) | (go_at_call 138; refine (cV _ (by assumption) _ _ _).mono ?_; rintro e w2 ⟨rfl, hb2⟩; have hbb2 : Below w.heap.size w w2 := below_two (by assumption) hb2; have q62 : w2.cell? ⟨w.heap.size, 6, none⟩ = some (.slice ao L cap) := (hb2.cell (p := ⟨w.heap.size, 6, none⟩) (by assumption)).trans (by assumption)))
              all_goals (try go_wp2_with fail)
              all_goals go_meet
              all_goals exact ⟨rfl, Lib.hid (by assumption), by assumption⟩
            case rest =>
              obtain ⟨rfl, hbx, c6⟩ := hcut
              go_wp2_with fail
              go_loopw [36] (fun i wr => ∃ j : Nat, j ≤ L ∧ i = .int .i64 j ∧ Hid (∀ (i : Nat) (u : T), l[i]? = some u → i < j → formT u = 0) ∧ Hid (Below w.heap.size w wr)) (fun i _ => L - (intOf i).toNat)
              case atStart => exact ⟨0, Nat.zero_le _, rfl, Lib.hid (fun i u _ h => absurd h (Nat.not_lt_zero _)), hbx⟩
              case round =>
                obtain ⟨j, hj, rfl, hall, hbw⟩ := hrel
                by_cases hlt : j < L
                · have iI : (j : Int) < (L : Int) := by omega
                  have hjl : j < l.length := by rw [HL.out]; exact hlt
                  obtain ⟨t, htj⟩ : ∃ t, l[j]? = some t := ⟨l[j], List.getElem?_eq_getElem hjl⟩
                  obtain ⟨a, o', rfl, ha, hnode⟩ := AtL.at HA.out j t htj
                  rw [Nat.zero_add] at hnode
                  obtain ⟨ao', cap', n1, n2, nA, x0, x1, x2, x3, x4, x5, x6⟩ := hnode.cells
                  have d0 := (hbw.out.cell (p := ⟨a, o' + j * 7, none⟩) ha).trans x0
                  have d1 := (hbw.out.cell (p := ⟨a, o' + j * 7 + 1, none⟩) ha).trans x1
                  have d2 := (hbw.out.cell (p := ⟨a, o' + j * 7 + 2, none⟩) ha).trans x2
                  have d3 := (hbw.out.cell (p := ⟨a, o' + j * 7 + 3, none⟩) ha).trans x3
                  have d4 := (hbw.out.cell (p := ⟨a, o' + j * 7 + 4, none⟩) ha).trans x4
                  have d5 := (hbw.out.cell (p := ⟨a, o' + j * 7 + 5, none⟩) ha).trans x5
                  have d6 := (hbw.out.cell (p := ⟨a, o' + j * 7 + 6, none⟩) ha).trans x6
                  have hdt : t.deep ≤ n := Nat.le_trans (deep_mem htj) HDL.out
                  have cC := fun W (hW : Below w.heap.size w W) => HIH.out t ao' cap' W hdt (nA.keep hW) (by omega) (HX.out.keep hW)
                  simp only [exprV_cells] at cC
                  have hbad : formT t ≠ 0 → formL l = formT t := fun h => formL_bad l j t htj hall.out h
                  have hnext : formT t = 0 → ∀ (i : Nat) (u : T), l[i]? = some u → i < j + 1 → formT u = 0 := by
                    intro h i u hu hi
                    rcases Nat.lt_or_ge i j with h1 | h1
                    · exact hall.out i u hu h1
                    · obtain rfl : i = j := by omega
                      rw [htj] at hu; cases hu; exact h
                  have HBAD := Lib.hid hbad
                  have HNEXT := Lib.hid hnext
                  generalize formT t = Z at *
                  generalize t.kids.length = KL at *
                  generalize t.nd = nd at *
                  obtain ⟨op', k', i', b', s', nm'⟩ := nd
                  simp only at d0 d1 d2 d3 d4 d5 d6 cC
                  generalize str s' = S' at *
                  generalize str nm' = N' at *
                  obtain ⟨wa, hwa⟩ : ∃ wa, wr.alloc (.cells #[.int .i64 op', .int .i64 k', .int .i64 i', .int .u64 b', .string S', .string N', .slice ao' KL cap'] 27) = wa := ⟨_, rfl⟩
                  have hbA : Below wr.heap.size wr wa := by rw [← hwa]; exact (Below.refl _ _).alloc (Nat.le_refl _) _
                  have zT : Blk wa wr.heap.size 27 [.int .i64 op', .int .i64 k', .int .i64 i', .int .u64 b', .string S', .string N', .slice ao' KL cap'] := by rw [← hwa]; exact Blk.new wr #[.int .i64 op', .int .i64 k', .int .i64 i', .int .u64 b', .string S', .string N', .slice ao' KL cap'] _
                  have hb0a := below_stepL hbw.out hbw.out.size hbA
                  have cc := cC wa hb0a
                  clear x0 x1 x2 x3 x4 x5 x6 hnode htj nA cC hjl n1 hdt hbad hnext hall
                  go_upto_region 8 with fail
                  try rw [hwa]
                  clear hwa d0 d1 d2 d3 d4 d5 d6 hbA hbw
                  generalize wr.heap.size = g at *
                  have p0 := zT.cell (j := 0) rfl
                  have p1 := zT.cell (j := 1) rfl
                  have p2 := zT.cell (j := 2) rfl
                  have p3 := zT.cell (j := 3) rfl
                  have p4 := zT.cell (j := 4) rfl
                  have p5 := zT.cell (j := 5) rfl
                  have p6 := zT.cell (j := 6) rfl
                  go_wp2_with fail
                  refine cc.mono ?_
                  rintro e w3 ⟨rfl, hb3⟩
                  have hb03 := Lib.hid (below_stepL hb0a hb0a.size hb3)
                  clear cc p0 p1 p2 p3 p4 p5 p6 zT hb3 hb0a
                  by_cases hz : Z = 0
                  · have hN := Lib.hid (HNEXT.out hz)
                    have z1 : (Z != 0) = false := by rw [hz]; rfl
                    clear HBAD HNEXT hz
                    go_wp2_with fail
                    go_roundw
                    case rel => exact ⟨j + 1, by omega, by go_num, hN, hb03⟩
                    case measure => simp [intOf]; omega
                  · have hN := Lib.hid (HBAD.out hz)
                    have z1 : (Z != 0) = true := by simpa using hz
                    clear HBAD HNEXT hz
                    go_wp2_with fail
                    go_ret
                    exact ⟨by rw [hN.out]; rfl, hb03.out⟩
                · have iI : ¬ (j : Int) < (L : Int) := by omega
                  have hN := Lib.hid (formL_good l (fun i u hu => hall.out i u hu (by have := (List.getElem?_eq_some_iff.1 hu).1; rw [HL.out] at this; omega)))
                  go_wp2_with fail
                  go_ret
                  exact ⟨by rw [hN.out]; rfl, hbw.out⟩
end Go.Proofs.YtfedlchncngafaaGreatDoor
