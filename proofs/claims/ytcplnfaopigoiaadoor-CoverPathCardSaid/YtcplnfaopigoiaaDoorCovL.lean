/-
  CONTRACT of package slots' CoverOf.
  CONDITIONS: package sum's roundWords hold what their initialiser lays ('KW').
-/
import Derived.Test.YtcplnfaopigoiaaDoorCovK
namespace Go.Proofs.YtcplnfaopigoiaaDoor
open Go.RowKit CodeMath Go.Proofs.YtcplnfaopigoiaaDoor.FrameMath
set_option linter.unusedVariables false
set_option maxRecDepth 100000

theorem leavesR_small (m : Int) : ∀ (l : List Sl) (rows : List (List UInt8)), leavesR m l = .ok rows → ∀ x ∈ l, x.s.length ≤ 80 ∧ x.d.length ≤ 400
  | [], rows, h, x, hx => by cases hx
  | y :: l, rows, h, x, hx => by
    cases hy : leafR m y.f y.s y.d with
    | err e => simp [leavesR, hy] at h
    | ok b0 =>
      simp only [leavesR, hy] at h
      cases hr : leavesR m l with
      | err e => rw [hr] at h; cases h
      | ok r0 =>
        rcases List.mem_cons.1 hx with rfl | hx
        · unfold leafR at hy
          split at hy
          · cases hy
          · split at hy
            · cases hy
            · split at hy
              · cases hy
              · omega
        · exact leavesR_small m l r0 hr x hx
theorem take_all {α : Type} (l : List α) (h : Nat) (hl : l.length = 2 ^ h) : (l.drop (0 * 2 ^ h)).take (2 ^ h) = l := by
  rw [Nat.zero_mul, List.drop_zero, List.take_of_length_le (by omega)]
theorem part_all (l : List Sl) (h : Nat) (hl : l.length = 2 ^ h) : partS l h 0 = l := take_all l h hl
theorem part_all' (l : List Bool) (h : Nat) (hl : l.length = 2 ^ h) : partO l h 0 = l := take_all l h hl
theorem part_allR (l : List (List UInt8)) (h : Nat) (hl : l.length = 2 ^ h) : partR l h 0 = l := take_all l h hl
def CovPost (m : Int) (h : Nat) (l : List Sl) (o : List Bool) (w : World) (e : Ending) (w' : World) : Prop := (match levelsR m l with
  | .err c => e = .returned (.tuple #[.agg #[.slice none 0 0, .slice none 0 0], .int .i64 c])
  | .ok rows => if o.length = l.length then ∃ sv rv, e = .returned (.tuple #[.agg #[sv, rv], .int .i64 0]) ∧ OwnSl w' w.heap.size sv (selO l o) ∧ OwnL w' w.heap.size rv (covR m h rows o) else e = .returned (.tuple #[.agg #[.slice none 0 0, .slice none 0 0], .int .i64 1])) ∧ Below w.heap.size w w'
theorem cvS_start {w w2 w3 : World} {go gl gt : Nat} {m : Int} {h : Nat} {l : List Sl} {rows : List (List UInt8)} {o : List Bool} {v2 : Value} (hb : Below w2.heap.size w2 w3) (hlv : leavesR m l = .ok rows) (hlh : l.length = 2 ^ h) (h6 : h ≤ 6) (ho : o.length = l.length)
    {al : Option Addr} {cl : Nat} (c1 : w3.cell? ⟨gl, 0, none⟩ = some (.slice al l.length cl)) (hc : l.length ≤ cl) (hq : cl ≤ 9223372036854775807) (hS : Slots w3 al l)
    {ao : Option Addr} {co : Nat} (c2 : w3.cell? ⟨go, 0, none⟩ = some (.slice ao o.length co)) (hco : o.length ≤ co) (hqo : co ≤ 9223372036854775807) (hO : Bools w3 ao o)
    {base : Nat} (c3 : w3.cell? ⟨gt, 0, none⟩ = some v2) (hot : OwnT w2 base v2 (tower m h rows)) : ∃ gT cT, v2 = .slice (some ⟨gT, 0, none⟩) (h + 1) cT ∧ CvS w3 go gt gl m l.length h l rows o := by
  have hrl := leavesR_length m l rows hlv
  have htl := tower_length m h rows
  obtain ⟨us, hown, hlev⟩ := hot
  rw [htl] at hown
  rcases hown.2 with ⟨_, h0⟩ | ⟨gT, cT, cur, rfl, k1, k2, k3, k4, k5, k6⟩
  · omega
  · refine ⟨gT, cT, rfl, ⟨ao, co, by rw [← ho]; exact c2, by omega, hqo, hO⟩, ⟨al, cl, c1, hc, hq, hS⟩, ⟨gT, cT, c3, fun t ht => ?_⟩, ho, rfl, hrl, hlh, h6, leavesR_small m l rows hlv⟩
    have ht1 := tower_at m h t rows ht
    obtain ⟨gL, e1, hl1⟩ := hlev t _ ht1
    have hln : (topL m t rows).length = 2 ^ (h - t) := topL_length m t (2 ^ (h - t)) rows (by rw [hrl, hlh, ← Nat.pow_add]; congr 1; omega)
    rw [hln] at e1
    have hgT : gT < w2.heap.size := (Array.getElem?_eq_some_iff.1 k2).1
    have hcell : w2.cell? ⟨gT, t, none⟩ = some (.slice (some ⟨gL, 0, none⟩) (2 ^ (h - t)) (2 ^ (h - t))) := by
      rw [cell_of_block k2]
      rw [← k6, List.getElem?_take_of_lt (by omega)] at e1
      simpa using e1
    refine ⟨gL, (hb.cell (p := ⟨gT, t, none⟩) hgT).trans hcell, fun p hp => ?_⟩
    have hat := topL_at m t p rows (by rw [hrl]; exact hp)
    obtain ⟨us2, b1, b2, b3⟩ := hl1
    obtain ⟨u, hu, hr⟩ := b3 p _ hat
    exact ⟨u, (hb.cell (p := ⟨gL, p, none⟩) b1.lt).trans (b1.cell hu), hr.keep hb⟩
set_option maxHeartbeats 4000000 in
theorem CoverOf_any (m : Int) (l : List Sl) (al : Option Addr) (cl : Nat) (o : List Bool) (ao : Option Addr) (co : Nat) (w : World) (m0 : -9223372036854775808 ≤ m) (m1 : m ≤ 9223372036854775807) (hc : l.length ≤ cl) (hq : cl ≤ 9223372036854775807) (hS : Slots w al l) (hco : o.length ≤ co) (hqo : co ≤ 9223372036854775807) (hO : Bools w ao o) (hT : KW w) (h : Nat) (h6 : h ≤ 6) (hh : isPow l.length = true → l.length = 2 ^ h) :
    Calls Tryd.prog 10 #[.int .i64 m, .slice al l.length cl, .slice ao o.length co] w (CovPost m h l o w) := by
  obtain ⟨w1, hw1⟩ : ∃ w1, ((w.alloc (.cells #[.slice al l.length cl] 22)).alloc (.cells #[.slice ao o.length co] 23)).alloc (.cells #[.slice none 0 0, .slice none 0 0] 26) = w1 := ⟨_, rfl⟩
  have b1 := (Below.refl w.heap.size w).alloc (Nat.le_refl _) (.cells #[.slice al l.length cl] 22)
  have b2 := b1.alloc b1.size (.cells #[.slice ao o.length co] 23)
  have hb1 : Below w.heap.size w w1 := by rw [← hw1]; exact b2.alloc b2.size _
  have zl : Blk w1 w.heap.size 22 [.slice al l.length cl] := by rw [← hw1]; exact ((Blk.new w #[.slice al l.length cl] 22).alloc _).alloc _
  have zo : Blk w1 (w.heap.size + 1) 23 [.slice ao o.length co] := by rw [← hw1]; exact (Blk.atNew #[.slice ao o.length co] 23 (by simp)).alloc _
  have zr : Blk w1 (w.heap.size + 2) 26 [.slice none 0 0, .slice none 0 0] := by rw [← hw1]; exact Blk.atNew #[.slice none 0 0, .slice none 0 0] 26 (by simp)
  have cL := levels_any m l al cl w1 m0 m1 hc hq (hS.keep hb1) (hT.keep hb1 (Nat.le_refl _)) h hh
  have q0 := zl.cell (j := 0) rfl
  clear b1 b2
  unfold CovPost
  cases hR : levelsR m l with
  | err q =>
    rw [hR] at cL
    have q1 := levelsR_ne hR
    have hqn : (q != 0) = true := by simpa using q1
    clear hh hc hR hS hco hO hT q1
    generalize l.length = n at *
    generalize o.length = n2 at *
    go_enter Tryd.func10, Tryd.ntmps10
    go_upto_region 1 with fail
    clear hw1
    go_wp2_with fail
    refine cL.mono ?_
    rintro e w2 ⟨rfl, hb2⟩
    have z2 := zr.call hb2
    have hba : Below w2.heap.size w2 (w2.alloc (.cells #[.slice none 0 0] 59)) := (Below.refl _ _).alloc (Nat.le_refl _) _
    have z3 := z2.call hba
    have c0 := z3.cell (j := 0) rfl
    have c1 := z3.cell (j := 1) rfl
    have y0 := z3.free 0
    have y1 := z3.free 1
    have hbb := below_step hb1 hb1.size (below_step hb2 hb2.size hba)
    have z4 : Blk (((w2.alloc (.cells #[.slice none 0 0] 59)).setCell ⟨w.heap.size + 2, 0, none⟩ (.slice none 0 0)).setCell ⟨w.heap.size + 2, 1, none⟩ (.slice none 0 0)) (w.heap.size + 2) 26 [.slice none 0 0, .slice none 0 0] := (z3.set 0 _).set 1 _
    have hE : Hid (Below w.heap.size w (((w2.alloc (.cells #[.slice none 0 0] 59)).setCell ⟨w.heap.size + 2, 0, none⟩ (.slice none 0 0)).setCell ⟨w.heap.size + 2, 1, none⟩ (.slice none 0 0))) := (hbb.setCell (p := ⟨w.heap.size + 2, 0, none⟩) (show w.heap.size ≤ w.heap.size + 2 by omega) _).setCell (p := ⟨w.heap.size + 2, 1, none⟩) (show w.heap.size ≤ w.heap.size + 2 by omega) _
    clear cL zl zo zr z2 z3 hb1 hb2 hba hbb q0
    go_wp2_with fail
    refine bodyPost_ret (results_arr_tmp rfl _ _ (w.heap.size + 2) [.slice none 0 0, .slice none 0 0] rfl z4 rfl rfl (by kernel_rfl)) rfl ⟨rfl, hE.out⟩
  | ok rows =>
    rw [hR] at cL
    obtain ⟨hm, hp, hlv⟩ := levelsR_ok hR
    have hlh := hh hp
    have e6 : 2 ^ 6 = 64 := by decide
    have h64 : 2 ^ h ≤ 2 ^ 6 := Nat.pow_le_pow_right (by decide) h6
    have hnI : (l.length : Int) ≤ 64 := by omega
    have hO1 := hO.keep hb1
    have hS1 := hS.keep hb1
    have ql := zl.cell (j := 0) rfl
    have qo := zo.cell (j := 0) rfl
    by_cases hlo : o.length = l.length
    · simp only [if_pos hlo]
      have hoI : ((o.length : Int) != (l.length : Int)) = false := by simp; omega
      have HH := Lib.hid (And.intro hlv (And.intro hlh (And.intro hc hco)))
      have HL := Lib.hid hlo
      have hhI : (h : Int) ≤ 6 := by omega
      have HZ := Lib.hid (And.intro zl (And.intro zo zr))
      have HB := Lib.hid hb1
      have HSO := Lib.hid (And.intro hS1 hO1)
      obtain ⟨n, hn⟩ : ∃ n, l.length = n := ⟨_, rfl⟩
      obtain ⟨n2, hn2⟩ : ∃ n, o.length = n := ⟨_, rfl⟩
      have HN := Lib.hid (And.intro hn hn2)
      rw [hn] at hw1 q0 cL hnI hoI ql ⊢
      rw [hn2] at hw1 hoI qo ⊢
      clear hh hc hS hO hT hm hp hlh e6 h64 hS1 hO1 hlo zl zo zr hb1 hn hn2 hco hR hlv
      go_enter Tryd.func10, Tryd.ntmps10
      go_upto_region 1 with fail
      clear hw1
      go_wp2_with fail
      refine cL.mono ?_
      rintro e w2 ⟨v2, rfl, hot, hb2⟩
      have hba : Below w2.heap.size w2 (w2.alloc (.cells #[v2] 59)) := (Below.refl _ _).alloc (Nat.le_refl _) _
      have zt : Blk (w2.alloc (.cells #[v2] 59)) w2.heap.size 59 [v2] := Blk.new w2 #[v2] _
      have hb3 := below_step hb2 hb2.size hba
      obtain ⟨zl, zo, zr⟩ := HZ.out
      have zl3 := (zl.call hb3)
      have zo3 := (zo.call hb3)
      have zr3 := (zr.call hb3)
      obtain ⟨gT, cT, hv2, hS0⟩ := cvS_start (w := w) (go := w.heap.size + 1) (gl := w.heap.size) (gt := w2.heap.size) hba HH.out.1 HH.out.2.1 h6 HL.out (zl3.cell rfl) HH.out.2.2.1 hq (HSO.out.1.keep hb3) (zo3.cell rfl) HH.out.2.2.2 hqo (HSO.out.2.keep hb3) (zt.cell rfl) hot
      subst hv2
      rw [HN.out.1] at zl3
      rw [HN.out.2] at zo3
      have ql3 := zl3.cell (j := 0) rfl
      have qo3 := zo3.cell (j := 0) rfl
      have hbw3 := below_step HB.out HB.out.size hb3
      obtain ⟨w3, hw3⟩ : ∃ w3, w2.alloc (.cells #[.slice (some ⟨gT, 0, none⟩) (h + 1) cT] 59) = w3 := ⟨_, rfl⟩
      rw [hw3] at hba zt hb3 zl3 zo3 zr3 hS0 ql3 qo3 hbw3
      have hle : w.heap.size + 2 < w1.heap.size := zr.lt
      have hw13 := hb3.size
      clear cL ql qo q0 hot hb2 zl zo zr HZ
      go_upto_region 4 with fail
      clear hw3 hba
      have g1 := (Below.refl w3.heap.size w3).alloc (Nat.le_refl _) (.cells #[.slice none 0 0, .slice none 0 0] 26)
      have g2 := g1.alloc g1.size (.cells #[cvF (w.heap.size + 1) w3.heap.size w2.heap.size w.heap.size] 62)
      have zc : Blk _ w3.heap.size 26 [.slice none 0 0, .slice none 0 0] := (Blk.new w3 #[.slice none 0 0, .slice none 0 0] 26).alloc (.cells #[cvF (w.heap.size + 1) w3.heap.size w2.heap.size w.heap.size] 62)
      have zf : Blk _ (w3.heap.size + 1) 62 [cvF (w.heap.size + 1) w3.heap.size w2.heap.size w.heap.size] := Blk.atNew (w := w3.alloc (.cells #[.slice none 0 0, .slice none 0 0] 26)) #[cvF (w.heap.size + 1) w3.heap.size w2.heap.size w.heap.size] 62 (by simp)
      have hW5 : CvW w3 _ (w.heap.size + 1) w2.heap.size w.heap.size [] [] := ⟨g2, by simp, zf.cell rfl, _, _, zc, OwnSl.nil _ _, OwnL.nil _ _⟩
      have hk0 : 2 ^ h ≤ 64 := by
        have e6 : 2 ^ 6 = 64 := by decide
        have h64 : 2 ^ h ≤ 2 ^ 6 := Nat.pow_le_pow_right (by decide) h6
        omega
      have c9 := cover1_any w3 (w.heap.size + 1) w2.heap.size w.heap.size m l.length h l rows o hS0 h 0 (Nat.le_refl _) (by have := HH.out.2.1; omega) [] [] _ hW5 (by simp; omega) (by simp; omega)
      rw [part_all l h HH.out.2.1, part_all' o h (by rw [HL.out]; exact HH.out.2.1), part_allR rows h (by rw [leavesR_length m l rows HH.out.1]; exact HH.out.2.1), List.nil_append, List.nil_append] at c9
      have qt5 := (g2.cell (p := ⟨w2.heap.size, 0, none⟩) zt.lt).trans (zt.cell (j := 0) rfl)
      have qf5 := zf.cell (j := 0) rfl
      have hI1 : ((h + 1 : Nat) : Int) - 1 = (h : Int) := by omega
      have hlt3 : w.heap.size + 2 < w3.heap.size := by omega
      have HZR := Lib.hid zr3
      have HBW := Lib.hid hbw3
      clear g1 g2 zc zf hW5 hk0 hS0 zt zl3 zo3 zr3 hbw3 hb3 hle hw13
      go_upto_region 9 with fail
      generalize (w3.alloc (.cells #[.slice none 0 0, .slice none 0 0] 26)).alloc (.cells #[cvF (w.heap.size + 1) w3.heap.size w2.heap.size w.heap.size] 62) = w5 at *
      go_wp2_with fail
      refine c9.mono ?_
      rintro e w6 ⟨rfl, hW6⟩
      obtain ⟨sv, rv, hC6, hSl, hRl⟩ := hW6.cov
      have q0 := Blk.cell hC6 (j := 0) rfl
      have q1 := Blk.cell hC6 (j := 1) rfl
      have hb6 := hW6.below
      have z6 : Blk w6 (w.heap.size + 2) 26 [.slice none 0 0, .slice none 0 0] := HZR.out.keep hb6 hlt3
      have c0 := z6.cell (j := 0) rfl
      have c1 := z6.cell (j := 1) rfl
      have y0 := z6.free 0
      have y1 := z6.free 1
      obtain ⟨av, cv, hsv, -⟩ := hSl.slots
      obtain ⟨ar, cr, hrv, -⟩ := hRl.lines
      subst hsv hrv
      have hbb := HBW.out.trans (hb6.mono HBW.out.size)
      have hm : w6.grownBy ((w6.setCell ⟨w.heap.size + 2, 0, none⟩ (.slice av (selO l o).length cv)).setCell ⟨w.heap.size + 2, 1, none⟩ (.slice ar (covR m h rows o).length cr)) (some (w.heap.size + 2)) := grown_trans (mv_cell _ _ _ _) (mv_cell _ _ _ _)
      have htg : ∀ b, some (w.heap.size + 2) = some b → ∃ cur T fz, w6.heap[b]? = some (.cells cur T fz) ∧ T ≠ 5 ∧ T ≠ 44 := fun b hb => by cases hb; exact ⟨_, _, _, z6, by decide, by decide⟩
      have htg2 : ∀ b, some (w.heap.size + 2) = some b → ∃ cur T fz, w6.heap[b]? = some (.cells cur T fz) ∧ ¬ ByteT T ∧ T ≠ 32 := fun b hb => by cases hb; exact ⟨_, _, _, z6, by unfold ByteT; decide, by decide⟩
      have hE : Hid (OwnSl _ w.heap.size (.slice av (selO l o).length cv) (selO l o) ∧ OwnL _ w.heap.size (.slice ar (covR m h rows o).length cr) (covR m h rows o) ∧ Below w.heap.size w _) := ⟨(hSl.beside hm htg).base (by omega), (hRl.beside hm htg2).base (by omega), hbb.grown hm hbb.size (fun b hb => by cases hb; omega)⟩
      have z7 : Blk ((w6.setCell ⟨w.heap.size + 2, 0, none⟩ (.slice av (selO l o).length cv)).setCell ⟨w.heap.size + 2, 1, none⟩ (.slice ar (covR m h rows o).length cr)) (w.heap.size + 2) 26 [.slice av (selO l o).length cv, .slice ar (covR m h rows o).length cr] := (z6.set 0 _).set 1 _
      clear c9 hW6 hC6 hSl hRl hb6 z6 hbb hm htg htg2 qt5 qf5 HBW HZR
      generalize (selO l o).length = ls at *
      generalize (covR m h rows o).length = lr at *
      go_wp2_with fail
      refine bodyPost_ret (results_arr_tmp rfl _ _ (w.heap.size + 2) [.slice av ls cv, .slice ar lr cr] rfl z7 rfl rfl (by kernel_rfl)) rfl ⟨⟨_, _, rfl, hE.out.1, hE.out.2.1⟩, hE.out.2.2⟩
    · simp only [if_neg hlo]
      have hoI : ((o.length : Int) != (l.length : Int)) = true := by simp; omega
      clear hh hc hR hS hco hO hT hm hp hlv hlh e6 h64 hS1 hO1 hlo zl zo
      generalize l.length = n at *
      generalize o.length = n2 at *
      go_enter Tryd.func10, Tryd.ntmps10
      go_upto_region 1 with fail
      clear hw1
      go_wp2_with fail
      refine cL.mono ?_
      rintro e w2 ⟨v2, rfl, hot, hb2⟩
      obtain ⟨us, hown, -⟩ := hot
      obtain ⟨a2, n9, c9, rfl⟩ : ∃ a n c, v2 = .slice a n c := by
        rcases hown.2 with ⟨h0, _⟩ | ⟨g9, cc, cur, h0, _⟩
        · exact ⟨_, _, _, h0⟩
        · exact ⟨_, _, _, h0⟩
      clear hown
      have z2 := zr.call hb2
      have hba : Below w2.heap.size w2 (w2.alloc (.cells #[.slice a2 n9 c9] 59)) := (Below.refl _ _).alloc (Nat.le_refl _) _
      have ql3 := ((below_step hb2 hb2.size hba).cell (p := ⟨w.heap.size, 0, none⟩) (World.block_lt_of_cell? w1 _ ql)).trans ql
      have qo3 := ((below_step hb2 hb2.size hba).cell (p := ⟨w.heap.size + 1, 0, none⟩) (World.block_lt_of_cell? w1 _ qo)).trans qo
      have z3 := z2.call hba
      have c0 := z3.cell (j := 0) rfl
      have c1 := z3.cell (j := 1) rfl
      have y0 := z3.free 0
      have y1 := z3.free 1
      have hbb := below_step hb1 hb1.size (below_step hb2 hb2.size hba)
      have z4 : Blk (((w2.alloc (.cells #[.slice a2 n9 c9] 59)).setCell ⟨w.heap.size + 2, 0, none⟩ (.slice none 0 0)).setCell ⟨w.heap.size + 2, 1, none⟩ (.slice none 0 0)) (w.heap.size + 2) 26 [.slice none 0 0, .slice none 0 0] := (z3.set 0 _).set 1 _
      have hE : Hid (Below w.heap.size w (((w2.alloc (.cells #[.slice a2 n9 c9] 59)).setCell ⟨w.heap.size + 2, 0, none⟩ (.slice none 0 0)).setCell ⟨w.heap.size + 2, 1, none⟩ (.slice none 0 0))) := (hbb.setCell (p := ⟨w.heap.size + 2, 0, none⟩) (show w.heap.size ≤ w.heap.size + 2 by omega) _).setCell (p := ⟨w.heap.size + 2, 1, none⟩) (show w.heap.size ≤ w.heap.size + 2 by omega) _
      clear cL zr z2 z3 hb1 hb2 hba hbb q0 ql qo
      go_wp2_with fail
      refine bodyPost_ret (results_arr_tmp rfl _ _ (w.heap.size + 2) [.slice none 0 0, .slice none 0 0] rfl z4 rfl rfl (by kernel_rfl)) rfl ⟨rfl, hE.out⟩
end Go.Proofs.YtcplnfaopigoiaaDoor
