/-
  THE WALK of the law 'chirographkeep.SpanTight': for every raw things and number the law returns true.
  CONDITIONS: the raw things lie; the tables lie.
-/
import Derived.Test.YtablacloabpjfabGreatDoorBoundK
import Derived.Test.YtablacloabpjfabGreatDoorGSpan
import Derived.Test.YtablacloabpjfabGreatDoorRawB
import Derived.Test.YtablacloabpjfabGreatDoorGRegE
namespace Go.Proofs.YtablacloabpjfabGreatDoor
open Go.RowKit
set_option linter.unusedVariables false
set_option maxRecDepth 100000

theorem exprV_sevenT (t : T) (ao : Option Addr) (cap : Nat) : ∃ (xo xk xi xb : Int) (xs xm : ByteArray) (xl : Nat), exprV t ao cap = .agg #[.int .i64 xo, .int .i64 xk, .int .i64 xi, .int .u64 xb, .string xs, .string xm, .slice ao xl cap] := ⟨_, _, _, _, _, _, _, exprV_cells t ao cap⟩
/-- A comparison, or several, as a block holds it. -/
def BdIn (g j b : Nat) (w : World) : Prop := ∃ t ao cap xo xk xi xb xs xm xl, Blk w g 27 [.int .i64 xo, .int .i64 xk, .int .i64 xi, .int .u64 xb, .string xs, .string xm, .slice ao xl cap] ∧ exprV t ao cap = .agg #[.int .i64 xo, .int .i64 xk, .int .i64 xi, .int .u64 xb, .string xs, .string xm, .slice ao xl cap] ∧ XTb b w t ao cap ∧ BdOk (3 + j) (4 + 5 * j) t
theorem BdIn.call {g j b : Nat} {w w' : World} (h : BdIn g j b w) (hb : Below w.heap.size w w') : BdIn g j b w' := by
  obtain ⟨t, ao, cap, xo, xk, xi, xb, xs, xm, xl, h1, h2, h3, h4⟩ := h
  exact ⟨t, ao, cap, xo, xk, xi, xb, xs, xm, xl, h1.call hb, h2, h3.below hb, h4⟩
theorem bdok_facts {n sz : Nat} {t : T} (h : BdOk n sz t) (hn : n ≤ 7) (hs : sz ≤ 40) (k : Int) (hk : in64 k) : ∃ (b : Bool) (lo hi : Int), evalR t csAB (rowAB k 0) = okE (booV b) ∧ spanR nA t = ⟨⟨lo, hi⟩, 0⟩ ∧ (b = true ↔ lo ≤ k ∧ k ≤ hi) ∧ (lo ≤ hi ∨ (lo = 1 ∧ hi = 0)) := by
  have hty := h.ty csAB ⟨0, ⟨nA, 2, false⟩, rfl, rfl, rfl⟩
  have hf := ty_form colsAB n 1 t (by decide) hty
  have he : exprR t = 0 := by
    rw [exprR_small t (Nat.le_trans h.deep hn) (Nat.le_trans h.size hs)]; exact hf
  obtain ⟨b, e1, e2⟩ := h.ev k hk
  have hl := leaves_fine nA t.deep t hf h.fit
  have hsp : spanR nA t = ⟨leavesG nA t.deep t, 0⟩ := by unfold spanR; rw [if_neg (by rw [he]; decide)]
  generalize leavesG nA t.deep t = G at *
  obtain ⟨lo, hi⟩ := G
  refine ⟨b, lo, hi, (evalR_ok t _ _ he (rowAB_ok k 0)).trans e1, hsp, e2, ?_⟩
  rcases hl with hl | hl
  · unfold noneG at hl
    simp only [Rg.mk.injEq] at hl
    exact .inr hl
  · exact .inl hl
theorem someT_any (ao : Option Addr) (n cap m : Nat) (M : Int) (hM : M = m) (w : World) (hn : n ≤ cap) (hc : n ≤ 9223372036854775807) (hm : m ≤ 1000000) :
    Calls Tryz.prog 36 #[.slice ao n cap, .int .i64 M] w fun e w' => e = .returned (.slice ao (min n m) cap) ∧ w = w' := someH_any ao n cap m M hM w hn hc hm

/-- What the loop's drawn statement leaves in its slots. -/
def TightF (b : Nat) (xo xk xi xb : Int) (xs xm : ByteArray) (ao : Option Addr) (xl cap : Nat) (rk ra rb : Int) (rs : ByteArray) (t : T) : Nat → Value → World → Prop
  | 0, v, _ => v = .agg #[.int .i64 xo, .int .i64 xk, .int .i64 xi, .int .u64 xb, .string xs, .string xm, .slice ao xl cap]
  | 1, v, _ => v = .agg #[.int .i64 rk, .int .i64 ra, .int .i64 rb, .string rs]
  | 2, v, W => ∃ u au cu, v = exprV u au cu ∧ Hid (Bd u) ∧ Hid (XTb b W u au cu)
  | 3, v, W => ∃ g u, v = .agg #[.int .i64 15, .int .i64 0, .int .i64 0, .int .u64 0, .string ⟨#[]⟩, .string ⟨#[]⟩, .slice (some ⟨g, 0, none⟩) 2 2] ∧ Hid (Bd u) ∧ Hid (XTb b W (opN 15 [t, u]) (some ⟨g, 0, none⟩) 2)
  | _, _, _ => True
set_option maxHeartbeats 16000000 in
theorem spanTight_walk (l : List R) (aol : Option Addr) (capl : Nat) (n : Int) (w : World) (hX : XEnv w) (hc : l.length ≤ capl) (hm : capl ≤ 9223372036854775807) (hx : Raws w aol l) (n0 : -9223372036854775808 ≤ n) (n1 : n ≤ 9223372036854775807) :
    Calls Tryz.prog 13 #[.slice aol l.length capl, .int .i64 n] w fun e w' => e = .returned (.bool true) ∧ Below w.heap.size w w' := by
  have cB := fun W (r : R) (hr : r.Fits) => bound_any r hr W
  have cS := fun W => someT_any aol l.length capl 5 5 rfl W hc (by omega) (by decide)
  have cP := fun W => picked_any n 80 W (by decide) (by decide) n0 n1
  have k0 := Int.emod_nonneg n (show (80 : Int) ≠ 0 by decide)
  have k1 := Int.emod_lt_of_pos n (show (0 : Int) < 80 by decide)
  obtain ⟨q, hq⟩ : ∃ q, n % 80 = q := ⟨_, rfl⟩
  rw [hq] at k0 k1
  simp only [hq] at cP
  have wk : IntKind.i64.wrap (q - 40) = q - 40 := by rw [IntKind.wrap_i64]; omega
  obtain ⟨k, hk⟩ : ∃ k, q - 40 = k := ⟨_, rfl⟩
  rw [hk] at wk
  have hk64 : in64 k := by unfold in64; omega
  have HK := Lib.hid hk64
  have cI := fun W => ints_any k 0 hk64 (by decide) W
  unfold IntsOk at cI
  obtain ⟨ln, hln⟩ : ∃ ln, l.length = ln := ⟨_, rfl⟩
  rw [hln] at cS ⊢
  obtain ⟨p, hp⟩ : ∃ p, min ln 5 = p := ⟨_, rfl⟩
  rw [hp] at cS
  have hp5 : p ≤ 5 := by omega
  have HL := Lib.hid (show p ≤ l.length by omega)
  have HR := Lib.hid hx
  have HX := Lib.hid hX
  unfold BoundOk at cB
  have wq : IntKind.i64.wrap (q - 40) = k := by rw [hk]; exact wk
  clear hc hm hx hX n0 n1 hq k0 k1 hk64 hln hp hk wk
  go_enter Tryz.func13, Tryz.ntmps13
  go_wp2_with fail
  refine (cB _ ⟨0, 0, 0, ⟨#[]⟩⟩ ⟨by decide, by decide, by decide, by decide, by decide, by decide⟩).mono ?_
  rintro e w1 ⟨t0, a0, cp0, rfl, hB0, hT0, hb1⟩
  obtain ⟨yo, yk, yi, yb, ys, ym, yl, hyv⟩ := exprV_sevenT t0 a0 cp0
  have hba := (Below.refl w1.heap.size w1).alloc (Nat.le_refl _) (.cells #[.int .i64 yo, .int .i64 yk, .int .i64 yi, .int .u64 yb, .string ys, .string ym, .slice a0 yl cp0] 27)
  have hin0 : BdIn w1.heap.size 0 0 (w1.alloc (.cells #[.int .i64 yo, .int .i64 yk, .int .i64 yi, .int .u64 yb, .string ys, .string ym, .slice a0 yl cp0] 27)) :=
    ⟨t0, a0, cp0, yo, yk, yi, yb, ys, ym, yl, Blk.new w1 _ _, hyv, (hT0.out.below hba).mono (Nat.zero_le _), bd_ok hB0.out⟩
  have hb2 := below_stepH hb1 hb1.size hba
  have hg5 := hb1.size
  have hlt5 : w1.heap.size + 1 ≤ (w1.alloc (.cells #[.int .i64 yo, .int .i64 yk, .int .i64 yi, .int .u64 yb, .string ys, .string ym, .slice a0 yl cp0] 27)).heap.size := by simp
  rw [hyv]
  have HIN := Lib.hid hin0
  clear hyv hba hin0 hb1 hT0 hB0
  go_upto_region 2 with fail
  generalize hw2 : w1.alloc (.cells #[.int .i64 yo, .int .i64 yk, .int .i64 yi, .int .u64 yb, .string ys, .string ym, .slice a0 yl cp0] 27) = w2 at *
  clear hw2
  generalize w1.heap.size = g5 at *
  go_wp2_with fail
  refine (cS _).mono ?_
  rintro e w3 ⟨rfl, rfl⟩
  clear cS
  go_wp2_with fail
  go_loopw [20] (fun i wr => ∃ (j b : Nat), j ≤ p ∧ i = .int .i64 j ∧ Hid (BdIn g5 (j - 1) b wr) ∧ (j = 0 ∨ b = g5 + 1) ∧ g5 + 1 ≤ wr.heap.size ∧ Below w.heap.size w wr) (fun i _ => p - (intOf i).toNat)
  case atStart => exact ⟨0, 0, Nat.zero_le _, rfl, HIN, .inl rfl, hlt5, hb2⟩
  case round =>
    obtain ⟨j, b, hj, rfl, hin, hjb, hlt, hbw⟩ := hrel
    clear hb2 hlt5 HIN
    by_cases h1 : j < p
    rotate_left
    · have hj5 : j - 1 ≤ 4 := by omega
      have hX9 := HX.out.keep hbw
      obtain ⟨t, ao, cap, xo, xk, xi, xb, xs, xm, xl, zx, hxv, hT, hOK⟩ := hin.out
      obtain ⟨bb, lo, hi, e1, e2, hiff, hfine⟩ := bdok_facts hOK (by omega) (by omega) k HK.out
      have hxt := hT.show
      have HIF := Lib.hid (And.intro hiff hfine)
      clear hin hjb hlt hOK hT hfine hiff hj hj5
      go_wp2_with fail
      refine (cP _).mono ?_
      rintro e W' ⟨rfl, hww⟩
      subst hww
      go_wp2_with fail
      refine (cI _).mono ?_
      rintro e w4 ⟨gc, gv, rfl, hC, hV, hb4⟩
      have hb04 := below_stepH hbw hbw.size hb4
      have X4 := hX9.keep hb4
      have hxt4 := hxt.keep hb4
      have zx4 := zx.call hb4
      have hEI : EvIn w4 t ao cap csAB (some ⟨gc, 0, none⟩) 2 (rowAB k 0) (some ⟨gv, 0, none⟩) 2 := ⟨hxt4.A, hxt4.n1, hxt4.n2, hC.out, Nat.le_refl _, by decide, hV.out, Nat.le_refl _, by decide, X4⟩
      have cV := fun W (hW : Below w4.heap.size w4 W) => eval_any t ao cap csAB (some ⟨gc, 0, none⟩) 2 (rowAB k 0) (some ⟨gv, 0, none⟩) 2 W (hEI.keep hW)
      have cO := fun W (hW : Below w4.heap.size w4 W) => span_of_any t ao cap nA W (hxt4.A.keep hW) (Nat.le_trans hxt4.n1 hxt4.n2) (X4.keep hW)
      rw [e1] at cV
      rw [e2] at cO
      have hcl : csAB.length = 2 := rfl
      have hrl : (rowAB k 0).length = 2 := rfl
      have hsa : str nA = ⟨#[97]⟩ := rfl
      rw [hcl, hrl] at cV
      rw [hsa] at cO
      unfold rgV at cO
      unfold okE booV valV at cV
      simp only [hxv] at cV cO
      have e0 : str ([] : List UInt8) = ⟨#[]⟩ := rfl
      simp only [e0] at cV
      have HV := Lib.hid cV
      have HO := Lib.hid cO
      clear cI cP cB hX9 hxt zx hC hV hbw X4 hxt4 hEI cV cO hcl hrl hsa hxv e1 e2 hb4 e0
      obtain ⟨r0, r1, r2, r3, r4, r5, r6⟩ := zx4.cells7
      go_wp2_with fail
      refine (HO.out _ (Below.refl _ _)).mono ?_
      rintro e w5 ⟨rfl, hb5⟩
      have zx5 := zx4.call hb5
      have hb05 := below_stepH hb04 hb04.size hb5
      have zs := Blk.new w5 #[.int .i64 lo, .int .i64 hi] 74
      have hba := (Below.refl w5.heap.size w5).alloc (Nat.le_refl _) (.cells #[.int .i64 lo, .int .i64 hi] 74)
      have zx6 := zx5.call hba
      have hb46 := below_stepH hb5 hb5.size hba
      have hb06 := below_stepH hb05 hb05.size hba
      clear r0 r1 r2 r3 r4 r5 r6 zx4 zx5 hb04 hb05 hb5
      go_upto_region 12 with fail
      generalize hw6 : w5.alloc (.cells #[.int .i64 lo, .int .i64 hi] 74) = w6 at *
      clear hw6 hba
      generalize w5.heap.size = gs at *
      obtain ⟨r0, r1, r2, r3, r4, r5, r6⟩ := zx6.cells7
      go_wp2_with fail
      refine (HV.out _ hb46).mono ?_
      rintro e w7 ⟨rfl, hb7⟩
      have zs7 := zs.call hb7
      have hb07 := below_stepH hb06 hb06.size hb7
      have hba := (Below.refl w7.heap.size w7).alloc (Nat.le_refl _) (.cells #[.int .i64 1, .int .i64 (if bb = true then 1 else 0), .int .u64 0, .string ⟨#[]⟩] 24)
      have zv := Blk.new w7 #[.int .i64 1, .int .i64 (if bb = true then 1 else 0), .int .u64 0, .string ⟨#[]⟩] 24
      have zs8 := zs7.call hba
      have hb08 := below_stepH hb07 hb07.size hba
      clear r0 r1 r2 r3 r4 r5 r6 zx6 hb46 hb06 hb07 hb7 zs zs7 HV HO
      go_upto_region 13 with fail
      generalize hw8 : w7.alloc (.cells #[.int .i64 1, .int .i64 (if bb = true then 1 else 0), .int .u64 0, .string ⟨#[]⟩] 24) = w8 at *
      clear hw8 hba
      generalize w7.heap.size = gw at *
      obtain ⟨⟨s0, s1⟩, _⟩ := zs8.two
      obtain ⟨v0, v1, v2, v3⟩ := zv.cell4
      have HFIN := Lib.hid hb08
      clear zs8 zv hb08
      obtain ⟨hiff, hfine⟩ := HIF.out
      clear HIF
      by_cases c1 : lo ≤ k
      · by_cases c2 : k ≤ hi
        · obtain rfl : bb = true := hiff.2 ⟨c1, c2⟩
          have c3 : lo ≤ hi := by omega
          clear hiff hfine
          go_wp2_with fail
          go_ret
          exact ⟨by simp, HFIN.out⟩
        · have hbf : bb = false := by
            cases bb
            · rfl
            · exact absurd (hiff.1 rfl).2 c2
          subst hbf
          clear hiff
          by_cases c3 : lo ≤ hi
          · clear hfine
            go_wp2_with fail
            go_ret
            exact ⟨by simp, HFIN.out⟩
          · obtain ⟨rfl, rfl⟩ := hfine.resolve_left c3
            clear hfine c3
            go_wp2_with fail
            go_ret
            exact ⟨by simp, HFIN.out⟩
      · have hbf : bb = false := by
          cases bb
          · rfl
          · exact absurd (hiff.1 rfl).1 c1
        subst hbf
        clear hiff
        by_cases c3 : lo ≤ hi
        · clear hfine
          go_wp2_with fail
          go_ret
          exact ⟨by simp, HFIN.out⟩
        · obtain ⟨rfl, rfl⟩ := hfine.resolve_left c3
          clear hfine c3
          go_wp2_with fail
          go_ret
          exact ⟨by simp, HFIN.out⟩
    · have hlt1 : j < l.length := by have := HL.out; omega
      obtain ⟨r, hr⟩ : ∃ r, l[j]? = some r := ⟨l[j], List.getElem?_eq_getElem hlt1⟩
      have hfit := HR.out.1 r (List.mem_of_getElem? hr)
      obtain ⟨a, o, rfl, ha, hL⟩ := (HR.out.keep hbw).2.resolve_left (fun e => by rw [e] at hlt1; simp at hlt1)
      obtain ⟨d0, d1, d2, d3⟩ := hL j r hr
      have cBr := fun W => cB W r hfit
      obtain ⟨rk, ra, rb, rs⟩ := r
      unfold rawV at cBr
      simp only at d0 d1 d2 d3 cBr
      have zr := Blk.new wr #[.int .i64 rk, .int .i64 ra, .int .i64 rb, .string rs] 54
      have hba := (Below.refl wr.heap.size wr).alloc (Nat.le_refl _) (.cells #[.int .i64 rk, .int .i64 ra, .int .i64 rb, .string rs] 54)
      have hin5 := hin.out.call hba
      have hb5 := below_stepH hbw hbw.size hba
      have hlt5 := Nat.le_trans hlt hba.size
      clear hr hlt1 hL hin hfit cB
      go_upto_region 5 with fail
      generalize hw5 : wr.alloc (.cells #[.int .i64 rk, .int .i64 ra, .int .i64 rb, .string rs] 54) = w5 at *
      clear hw5 d0 d1 d2 d3 hba hbw hlt ha
      have hg5w : w.heap.size ≤ g5 := hg5
      generalize wr.heap.size = gr at *
      obtain ⟨r0, r1, r2, r3⟩ := zr.cell4
      obtain ⟨t, ao, cap, xo, xk, xi, xb, xs, xm, xl, zx, hxv, hT, hOK⟩ := hin5
      by_cases hj0 : j = 0
      · subst hj0
        go_wp2_with fail
        refine (cBr _).mono ?_
        rintro e w6 ⟨u, au, cu, rfl, hBu, hTu, hb6⟩
        obtain ⟨yo', yk', yi', yb', ys', ym', yl', hyv⟩ := exprV_sevenT u au cu
        rw [hyv]
        have zx6 := zx.call hb6
        have hb06 := below_stepH hb5 hb5.size hb6
        have hlt6 := Nat.le_trans hlt5 hb6.size
        obtain ⟨q0, q1, q2, q3, q4, q5, q6⟩ := zx6.cells7
        have f0 := zx6.free 0
        have f1 := zx6.free 1
        have f2 := zx6.free 2
        have f3 := zx6.free 3
        have f4 := zx6.free 4
        have f5 := zx6.free 5
        have f6 := zx6.free 6
        have HS := Lib.hid (And.intro (zx6.set7 (a0 := .int .i64 yo') (a1 := .int .i64 yk') (a2 := .int .i64 yi') (a3 := .int .u64 yb') (a4 := .string ys') (a5 := .string ym') (a6 := .slice au yl' cu)) (And.intro (((hTu.out.mono hlt5).set7 (g := g5) (Nat.lt_succ_self g5) (a0 := .int .i64 yo') (a1 := .int .i64 yk') (a2 := .int .i64 yi') (a3 := .int .u64 yb') (a4 := .string ys') (a5 := .string ym') (a6 := .slice au yl' cu))) (below_set7 (g := g5) (a0 := .int .i64 yo') (a1 := .int .i64 yk') (a2 := .int .i64 yi') (a3 := .int .u64 yb') (a4 := .string ys') (a5 := .string ym') (a6 := .slice au yl' cu) hb06 hg5w)))
        have HY := Lib.hid hyv
        clear zx zx6 hb06 hb6 hTu hb5 hT hOK hxv hyv cBr r0 r1 r2 r3 zr cP cI
        go_upto_region 8 with fail
        obtain ⟨z7, hT7, hb7⟩ := HS.out
        clear HS q0 q1 q2 q3 q4 q5 q6 f0 f1 f2 f3 f4 f5 f6
        have hl7 : g5 + 1 ≤ (((((((w6.setCell ⟨g5, 0, none⟩ (.int .i64 yo')).setCell ⟨g5, 1, none⟩ (.int .i64 yk')).setCell ⟨g5, 2, none⟩ (.int .i64 yi')).setCell ⟨g5, 3, none⟩ (.int .u64 yb')).setCell ⟨g5, 4, none⟩ (.string ys')).setCell ⟨g5, 5, none⟩ (.string ym')).setCell ⟨g5, 6, none⟩ (.slice au yl' cu)).heap.size := z7.lt
        generalize (((((((w6.setCell ⟨g5, 0, none⟩ (.int .i64 yo')).setCell ⟨g5, 1, none⟩ (.int .i64 yk')).setCell ⟨g5, 2, none⟩ (.int .i64 yi')).setCell ⟨g5, 3, none⟩ (.int .u64 yb')).setCell ⟨g5, 4, none⟩ (.string ys')).setCell ⟨g5, 5, none⟩ (.string ym')).setCell ⟨g5, 6, none⟩ (.slice au yl' cu)) = w7 at *
        have HB7 := Lib.hid (show BdIn g5 0 (g5 + 1) w7 from ⟨u, au, cu, yo', yk', yi', yb', ys', ym', yl', z7, HY.out, hT7, bd_ok hBu.out⟩)
        clear z7 hT7 HY hBu
        go_wp2_with fail
        go_roundw
        case rel => exact ⟨1, g5 + 1, by omega, by go_num, HB7, .inr rfl, hl7, hb7⟩
        case measure => simp [intOf]; omega
      · obtain ⟨m, rfl⟩ : ∃ m, j = m + 1 := ⟨j - 1, by omega⟩
        obtain rfl : b = g5 + 1 := hjb.resolve_left hj0
        have bj : (((m + 1 : Nat) : Int) == 0) = false := by simp; omega
        have hOK : BdOk (3 + m) (4 + 5 * m) t := hOK
        have HOK := Lib.hid hOK
        have HO2 : Hid (∀ W u au cu, XTb (g5 + 1) W u au cu → Below w5.heap.size w5 W → Calls Tryz.prog 24 #[.int .i64 15, .agg #[.int .i64 xo, .int .i64 xk, .int .i64 xi, .int .u64 xb, .string xs, .string xm, .slice ao xl cap], exprV u au cu] W fun e w' => ∃ g, e = .returned (.agg #[.int .i64 15, .int .i64 0, .int .i64 0, .int .u64 0, .string ⟨#[]⟩, .string ⟨#[]⟩, .slice (some ⟨g, 0, none⟩) 2 2]) ∧ Hid (XTb (g5 + 1) w' (opN 15 [t, u]) (some ⟨g, 0, none⟩) 2) ∧ Below W.heap.size W w') := Lib.hid (fun W u au cu hu hW => by
          have := hop2 0 15 (g5 + 1) (by decide) t u ao au cap cu W (hT.below hW) hu (Nat.le_trans hlt5 hW.size)
          rw [hxv] at this
          exact this)
        clear hj0 hjb hT hxv hOK cP cI
        go_upto_region 7 with fail
        refine wp_region_chain 4 [2, 3] (by kernel_rfl) (by kernel_rfl) (by kernel_rfl) (TightF (g5 + 1) xo xk xi xb xs xm ao xl cap rk ra rb rs t) (fun _ W => Below w5.heap.size w5 W) (fun _ W W' => Below W.heap.size W W') ?hF ?h0 ?hstep ?hcall ?hdone
        case hF =>
          intro s i hs j x W W' hjn hne' hpb h he
          match j, h with
          | 0, h => exact h
          | 1, h => exact h
          | 2, ⟨u, au, cu, h1, h2, h3⟩ => exact ⟨u, au, cu, h1, h2, Lib.hid (h3.out.below he)⟩
          | 3, ⟨g, u, h1, h2, h3⟩ => exact ⟨g, u, h1, h2, Lib.hid (h3.out.below he)⟩
          | j + 4, h => exact h
        case h0 => exact Below.drew (Below.refl _ _)
        case hstep =>
          intro i hi hni s vs act W K ha' hst hd hu' hK
          simp only [fillF, Act.put, List.take_succ_cons, List.take_zero, List.setIfInBounds_toArray, List.set_cons_zero, List.set_cons_succ] at ha'
          subst ha'
          obtain ⟨y0, y1, y2, y3, y4, y5, y6⟩ := (zx.call hst).cells7
          obtain ⟨s0, s1, s2, s3⟩ := (zr.call hst).cell4
          rcases (show i = 0 ∨ i = 1 ∨ i = 2 ∨ i = 3 by omega) with rfl | rfl | rfl | rfl
          · refine wpOp_step rfl (fun K' hK' => ?_)
            go_simp
            exact hK' _ _ (hK _ rfl)
          · refine wpOp_step rfl (fun K' hK' => ?_)
            go_simp
            exact hK' _ _ (hK _ rfl)
          · exact (hni (by decide)).elim
          · exact (hni (by decide)).elim
        case hcall =>
          intro s i hs vs act W K ha' hst hd hK
          simp only [fillF, Act.put, List.take_succ_cons, List.take_zero, List.setIfInBounds_toArray, List.set_cons_zero, List.set_cons_succ] at ha'
          subst ha'
          rcases s with _ | _ | s
          · obtain rfl : 2 = i := by simpa using hs
            have e1 : vs 1 = .agg #[.int .i64 rk, .int .i64 ra, .int .i64 rb, .string rs] := hd 1 (by kernel_rfl)
            simp only [e1] at hK ⊢
            refine wpOp_step rfl (fun K' hK' => ?_)
            go_simp
            refine (cBr W).mono ?_
            rintro e W' ⟨u, au, cu, rfl, hBu, hTu, hbc⟩
            go_simp
            exact hK' _ _ (hK _ _ ⟨u, au, cu, rfl, hBu, Lib.hid (hTu.out.mono (Nat.le_trans hlt5 hst.size))⟩ hbc (below_stepH hst hst.size hbc))
          · obtain rfl : 3 = i := by simpa using hs
            have e0 : vs 0 = .agg #[.int .i64 xo, .int .i64 xk, .int .i64 xi, .int .u64 xb, .string xs, .string xm, .slice ao xl cap] := hd 0 (by kernel_rfl)
            obtain ⟨u, au, cu, e2, hBu, hTu⟩ := hd 2 (by kernel_rfl)
            simp only [e0, e2] at hK ⊢
            refine wpOp_step rfl (fun K' hK' => ?_)
            go_simp
            refine (HO2.out W u au cu hTu.out hst).mono ?_
            rintro e W' ⟨g, rfl, hT, hbc⟩
            go_simp
            exact hK' _ _ (hK _ _ ⟨g, u, rfl, hBu, hT⟩ hbc (below_stepH hst hst.size hbc))
          · simp at hs
        intro vs act W ha' hst hf
        simp only [fillF, Act.put, List.take_succ_cons, List.take_zero, List.drop_succ_cons, List.drop_zero, List.setIfInBounds_toArray, List.set_cons_zero, List.set_cons_succ] at ha' ⊢
        subst ha'
        obtain ⟨g, u, e3, hBu, hT⟩ := hf 3 (by decide)
        have zx6 := zx.call hst
        have hb6 := below_stepH hb5 hb5.size hst
        simp only [e3]
        obtain ⟨q0, q1, q2, q3, q4, q5, q6⟩ := zx6.cells7
        have f0 := zx6.free 0
        have f1 := zx6.free 1
        have f2 := zx6.free 2
        have f3 := zx6.free 3
        have f4 := zx6.free 4
        have f5 := zx6.free 5
        have f6 := zx6.free 6
        have HS := Lib.hid (And.intro (zx6.set7 (a0 := .int .i64 15) (a1 := .int .i64 0) (a2 := .int .i64 0) (a3 := .int .u64 0) (a4 := .string ⟨#[]⟩) (a5 := .string ⟨#[]⟩) (a6 := .slice (some ⟨g, 0, none⟩) 2 2)) (And.intro (hT.out.set7 (g := g5) (Nat.lt_succ_self g5) (a0 := .int .i64 15) (a1 := .int .i64 0) (a2 := .int .i64 0) (a3 := .int .u64 0) (a4 := .string ⟨#[]⟩) (a5 := .string ⟨#[]⟩) (a6 := .slice (some ⟨g, 0, none⟩) 2 2)) (below_set7 (g := g5) (a0 := .int .i64 15) (a1 := .int .i64 0) (a2 := .int .i64 0) (a3 := .int .u64 0) (a4 := .string ⟨#[]⟩) (a5 := .string ⟨#[]⟩) (a6 := .slice (some ⟨g, 0, none⟩) 2 2) hb6 hg5w)))
        clear hf zx zx6 hst hb5 hb6 HO2 cBr r0 r1 r2 r3 zr hT e3
        generalize vs 0 = x0
        generalize vs 1 = x1
        generalize vs 2 = x2
        go_upto_region 8 with fail
        obtain ⟨z7, hT7, hb7⟩ := HS.out
        clear HS q0 q1 q2 q3 q4 q5 q6 f0 f1 f2 f3 f4 f5 f6
        have hl7 : g5 + 1 ≤ (((((((W.setCell ⟨g5, 0, none⟩ (.int .i64 15)).setCell ⟨g5, 1, none⟩ (.int .i64 0)).setCell ⟨g5, 2, none⟩ (.int .i64 0)).setCell ⟨g5, 3, none⟩ (.int .u64 0)).setCell ⟨g5, 4, none⟩ (.string ⟨#[]⟩)).setCell ⟨g5, 5, none⟩ (.string ⟨#[]⟩)).setCell ⟨g5, 6, none⟩ (.slice (some ⟨g, 0, none⟩) 2 2)).heap.size := z7.lt
        generalize (((((((W.setCell ⟨g5, 0, none⟩ (.int .i64 15)).setCell ⟨g5, 1, none⟩ (.int .i64 0)).setCell ⟨g5, 2, none⟩ (.int .i64 0)).setCell ⟨g5, 3, none⟩ (.int .u64 0)).setCell ⟨g5, 4, none⟩ (.string ⟨#[]⟩)).setCell ⟨g5, 5, none⟩ (.string ⟨#[]⟩)).setCell ⟨g5, 6, none⟩ (.slice (some ⟨g, 0, none⟩) 2 2)) = w7 at *
        have HB7 := Lib.hid (show BdIn g5 (m + 1) (g5 + 1) w7 from ⟨opN 15 [t, u], _, _, _, _, _, _, _, _, _, z7, rfl, hT7, bd_and HOK.out hBu.out (Nat.le_add_right 3 m)⟩)
        clear z7 hT7 HOK hBu
        go_wp2_with fail
        go_roundw
        case rel => exact ⟨m + 1 + 1, g5 + 1, by omega, by go_num, HB7, .inr rfl, hl7, hb7⟩
        case measure => simp [intOf]; omega
end Go.Proofs.YtablacloabpjfabGreatDoor
