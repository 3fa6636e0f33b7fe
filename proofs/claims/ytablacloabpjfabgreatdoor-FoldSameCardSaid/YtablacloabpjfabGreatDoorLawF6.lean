/-
  THE WALK of the law 'chirographkeep.FoldSame': for every raw things, kind and key the law returns true.
  CONDITIONS: the raw things lie; the tables lie.
-/
import Derived.Test.YtablacloabpjfabGreatDoorSameK
import Derived.Test.YtablacloabpjfabGreatDoorGRow
import Derived.Test.YtablacloabpjfabGreatDoorTyZ
namespace Go.Proofs.YtablacloabpjfabGreatDoor
open Go.RowKit
set_option linter.unusedVariables false
set_option maxRecDepth 100000

/-- What is folded is small enough, if its tree was. -/
theorem fold_expr (t : T) (hF : FitT t) (h : exprR t = 0) : exprR (foldT t) = 0 := by
  have hf := exprR_form t h
  obtain ⟨f1, f2, f3, f4⟩ := fold_form t.deep t (Nat.le_refl _) hF hf
  have hr : ¬ roomT 7 t 40 < 0 := fun hr => by
    unfold exprR at h
    rw [if_pos hr] at h; cases h
  have hs : t.deep ≤ 7 ∧ (t.size : Int) ≤ 40 := by
    apply Classical.byContradiction
    intro hn
    exact hr (((room_iff 7).1 t 40 (by decide)).2 hn)
  have hs2 : (foldT t).deep ≤ 7 ∧ ((foldT t).size : Int) ≤ 40 := by omega
  have := ((room_iff 7).1 (foldT t) 40 (by decide)).1 hs2
  unfold exprR
  rw [if_neg (by rw [this]; omega)]
  exact f1
theorem row_openF {S : HpS} {w w' : World} {v : Value} {vs : List Vl} (ho : OwnW w' w.heap.size v vs) (hr : RowOkL vs S.cs ∧ vs.length = S.cs.length) (hc : colsR S.cs = 0) :
    ∃ aor capr, v = .slice aor vs.length capr ∧ vs.length ≤ capr ∧ capr ≤ 9223372036854775807 ∧ Vals w' aor vs ∧ rowR vs S.cs = 0 := by
  obtain ⟨ao, cap, e, h1, h2, h3, _⟩ := OwnW.vals ho hr.1.fit
  exact ⟨ao, cap, e, h1, h2, h3, hr.1.row hr.2 hc⟩
set_option maxHeartbeats 16000000 in
theorem foldSame_walk (l : List R) (aol : Option Addr) (capl : Nat) (kd key : Int) (w : World) (hX : XEnv w) (hc : l.length ≤ capl) (hm : capl ≤ 9223372036854775807) (hx : Raws w aol l) (k0 : -9223372036854775808 ≤ kd) (k1 : kd ≤ 9223372036854775807) (q0 : -9223372036854775808 ≤ key) (q1 : key ≤ 9223372036854775807) :
    Calls Tryz.prog 10 #[.slice aol l.length capl, .int .i64 kd, .int .i64 key] w fun e w' => e = .returned (.bool true) ∧ Below w.heap.size w w' := by
  have cE := exprOf_any l aol capl kd w hx hc (by omega) k0 k1
  have hkr : 1 ≤ 1 + kd % 4 ∧ 1 + kd % 4 ≤ 4 := by have := Int.emod_nonneg kd (show (4 : Int) ≠ 0 by decide); have := Int.emod_lt_of_pos kd (show (0 : Int) < 4 by decide); omega
  obtain ⟨n, hn⟩ : ∃ n, l.length = n := ⟨_, rfl⟩
  rw [hn] at cE ⊢
  unfold ExprOfOk at cE
  have HX := Lib.hid hX
  have HKR := Lib.hid hkr
  have HKEY := Lib.hid (And.intro q0 q1)
  clear hx hn hc hm hX hkr k0 k1 q0 q1
  go_enter Tryz.func10, Tryz.ntmps10
  go_wp2_with fail
  refine cE.mono ?_
  rintro e w1 ⟨S, H, m, t, ao, cap, rfl, HT, HXT, HA, HS, HNM, HCP, hwH, hb1⟩
  clear cE
  obtain ⟨xo, xk, xi, xb, xs, xm, xl, hxv, hxc⟩ := fexprV t ao cap
  have hba := (Below.refl w1.heap.size w1).alloc (Nat.le_refl _) (.cells #[.int .i64 xo, .int .i64 xk, .int .i64 xi, .int .u64 xb, .string xs, .string xm, .slice ao xl cap] 27)
  have hA2 := HA.out.1.call hba
  have hm1 := HA.out.2
  have hb2 := below_stepH hb1 hb1.size hba
  have zX : Blk _ _ _ [_, _, _, _, _, _, _] := Blk.new w1 #[.int .i64 xo, .int .i64 xk, .int .i64 xi, .int .u64 xb, .string xs, .string xm, .slice ao xl cap] 27
  have hxt2 := HXT.out.below hba
  have hgx := hb1.size
  have hHlt := HA.out.1.lt
  rw [hxv]
  go_upto_region 2 with fail
  generalize hw2 : w1.alloc (.cells #[.int .i64 xo, .int .i64 xk, .int .i64 xi, .int .u64 xb, .string xs, .string xm, .slice ao xl cap] 27) = w2 at *
  clear hw2 hba HXT HA
  generalize w1.heap.size = gx at *
  have cR := row_h S H m key w2 hA2 HS.out (by omega) HKEY.out ⟨HCP.out.2.1, HCP.out.2.2⟩
  unfold RowPost at cR
  go_wp2_with fail
  refine cR.mono ?_
  rintro e w3 ⟨vr, vs, rfl, hO, hR, hA3, hb3⟩
  clear cR
  have hb03 : Below w.heap.size w w3 := below_hb hb2 hwH hb3
  have hne : gx ≠ H := by omega
  have zX3 := zX.hb hb3 hne
  have hxt3 := (hxt2.hb (Nat.lt_succ_self H) hb3).show
  have X3 := HX.out.keep hb03
  have hcs : Cols w3 S.aoc S.cs := hA3.out.2.2.show
  have hc0 := HS.out.cols
  obtain ⟨hn1, hcc, hcm⟩ := HCP.out
  obtain ⟨aor, capr, rfl, hv1, hv2, hV, hrow⟩ := row_openF hO.out hR.out hc0
  have hex := ty_expr hc0 4 (by decide) (1 + kd % 4) t HKR.out HT.out
  have hft := exprR_form t hex
  have hfit := atT_fit t.deep t ao (Nat.le_refl _) hxt3.A
  have hex2 := fold_expr t hfit hex
  have hr1 : foldR t = foldT t := by unfold foldR; rw [if_neg (by rw [hex]; decide)]
  have hr2 : foldR (foldT t) = foldT t := by unfold foldR; rw [if_neg (by rw [hex2]; decide), fold_once t.deep t (Nat.le_refl _)]
  have hev1 := evalR_ok t S.cs vs hex hrow
  have hev2 : evalR (foldT t) S.cs vs = evT S.cs vs t := by rw [evalR_ok (foldT t) S.cs vs hex2 hrow, fold_ev S.cs vs t.deep t (Nat.le_refl _) hft]
  have hop := fold_op t hft hfit
  have hfew := (few_form (foldT t).deep (foldT t) (Nat.le_refl _) (exprR_form _ hex2)).kids
  have hEI : ∀ (u : T) (au : Option Addr) (cu : Nat) (W : World), Below w3.heap.size w3 W → AtT W u au → u.kids.length ≤ cu → cu ≤ 9223372036854775807 → EvIn W u au cu S.cs S.aoc S.capc vs aor capr := fun u au cu W hW h1 h2 h3 => ⟨h1, h2, h3, hcs.keep hW, hcc, hcm, hV.keep hW, hv1, hv2, X3.keep hW⟩
  have cF1 := Fold_any t ao cap w3 hxt3.A hxt3.n1 hxt3.n2 X3
  have cF2 := fun (ay : Option Addr) (cy : Nat) W (hW : Below w3.heap.size w3 W) (h : XT W (foldT t) ay cy) => Fold_any (foldT t) ay cy W h.A h.n1 h.n2 (X3.keep hW)
  have cV1 := fun W (hW : Below w3.heap.size w3 W) => eval_any t ao cap S.cs S.aoc S.capc vs aor capr W (hEI t ao cap W hW (hxt3.A.keep hW) hxt3.n1 hxt3.n2)
  have cV2 := fun (ay : Option Addr) (cy : Nat) W (hW : Below w3.heap.size w3 W) (h : XT W (foldT t) ay cy) => eval_any (foldT t) ay cy S.cs S.aoc S.capc vs aor capr W (hEI (foldT t) ay cy W hW h.A h.n1 h.n2)
  have cT := fun W (hW : Below w3.heap.size w3 W) => evalTells_any W (X3.keep hW)
  have cS := fun (ay az : Option Addr) (cy cz : Nat) W (hy : XT W (foldT t) ay cy) (hz : XT W (foldT t) az cz) => sameK_any (foldT t).deep (foldT t) ay cy az cz W (Nat.le_refl _) hy.A hfew.1 hz.A hfew.2
  unfold FoldRPost at cF1 cF2
  rw [hr1, hex] at cF1
  rw [hr2, hex2] at cF2
  rw [hev1] at cV1
  rw [hev2] at cV2
  generalize evT S.cs vs t = R at *
  generalize hfo : (foldT t).nd.op = fo at hop
  have hft2 : ∀ au cu, ∃ (xk xi xb : Int) (xs xm : ByteArray) (xl : Nat), exprV (foldT t) au cu = .agg #[.int .i64 fo, .int .i64 xk, .int .i64 xi, .int .u64 xb, .string xs, .string xm, .slice au xl cu] := fun au cu => by
    rw [exprV_cells, hfo]; exact ⟨_, _, _, _, _, _, rfl⟩
  generalize foldT t = ft at *
  obtain ⟨⟨rk, ri, rb, rs⟩, rf⟩ := R
  unfold valV at cV1 cV2
  simp only at cV1 cV2
  generalize str rs = RS at *
  simp only [hxv] at cF1 cV1
  have bo : (fo != 0) = true := by simpa using hop
  have HF2 := Lib.hid cF2
  have HV1 := Lib.hid cV1
  have HV2 := Lib.hid cV2
  have HCT := Lib.hid cT
  have HCS := Lib.hid cS
  have HFT2 := Lib.hid hft2
  clear hxv hxc hev1 hev2 hEI hV hcs hc0 hxt3 hxt2 zX hO hR hA2 HT X3 hrow cF2 cV1 cV2 cT cS hv1 hv2 hex hex2 hr1 hr2 hft hfit hop hfew hfo hft2 HX hA3
  obtain ⟨aol2, capl2, l2, aoc, capc, cs⟩ := S
  simp only at *
  generalize cs.length = lc at *
  generalize vs.length = lr at *
  obtain ⟨p0, p1, p2, p3, p4, p5, p6⟩ := zX3.cells7
  go_wp2_with fail
  refine cF1.mono ?_
  rintro e w4 ⟨ay, cy, rfl, hXY, hb4⟩
  obtain ⟨yk, yi, yb, ys, ym, yl, hyv⟩ := HFT2.out ay cy
  rw [hyv]
  have x4 := zX3.call hb4
  have hb04 := below_stepH hb03 hb03.size hb4
  have zY : Blk _ _ _ [_, _, _, _, _, _, _] := Blk.new w4 #[.int .i64 fo, .int .i64 yk, .int .i64 yi, .int .u64 yb, .string ys, .string ym, .slice ay yl cy] 27
  have hba := (Below.refl w4.heap.size w4).alloc (Nat.le_refl _) (.cells #[.int .i64 fo, .int .i64 yk, .int .i64 yi, .int .u64 yb, .string ys, .string ym, .slice ay yl cy] 27)
  have x5 := x4.call hba
  have hb35 := below_stepH hb4 hb4.size hba
  have hb05 := below_stepH hb04 hb04.size hba
  have hy5 := hXY.out.show.keep hba
  clear p0 p1 p2 p3 p4 p5 p6 zX3 cF1 hXY x4 hb03 hb04 hb4
  go_upto_region 4 with fail
  generalize hw5 : w4.alloc (.cells #[.int .i64 fo, .int .i64 yk, .int .i64 yi, .int .u64 yb, .string ys, .string ym, .slice ay yl cy] 27) = w5 at *
  clear hw5 hba
  generalize w4.heap.size = gy at *
  have c2 := HF2.out ay cy w5 hb35 hy5
  rw [hyv] at c2
  have HY5 := Lib.hid hy5
  obtain ⟨p0, p1, p2, p3, p4, p5, p6⟩ := zY.cells7
  clear hy5 HF2
  go_wp2_with fail
  refine c2.mono ?_
  rintro e w6 ⟨az, cz, rfl, hXZ, hb6⟩
  obtain ⟨zk, zi, zb, zs, zm, zl, hzv⟩ := HFT2.out az cz
  rw [hzv]
  have x6 := x5.call hb6
  have y6 := zY.call hb6
  have hb36 := below_stepH hb35 hb35.size hb6
  have hb06 := below_stepH hb05 hb05.size hb6
  have zZ : Blk _ _ _ [_, _, _, _, _, _, _] := Blk.new w6 #[.int .i64 fo, .int .i64 zk, .int .i64 zi, .int .u64 zb, .string zs, .string zm, .slice az zl cz] 27
  have hba := (Below.refl w6.heap.size w6).alloc (Nat.le_refl _) (.cells #[.int .i64 fo, .int .i64 zk, .int .i64 zi, .int .u64 zb, .string zs, .string zm, .slice az zl cz] 27)
  have x7 := x6.call hba
  have y7 := y6.call hba
  have hb37 := below_stepH hb36 hb36.size hba
  have hb07 := below_stepH hb06 hb06.size hba
  have hy7 := (HY5.out.keep hb6).keep hba
  have hz7 := hXZ.out.show.keep hba
  clear p0 p1 p2 p3 p4 p5 p6 zY c2 hXZ x5 x6 y6 hb05 hb06 hb6 hb35 hb36 HY5
  go_upto_region 5 with fail
  generalize hw7 : w6.alloc (.cells #[.int .i64 fo, .int .i64 zk, .int .i64 zi, .int .u64 zb, .string zs, .string zm, .slice az zl cz] 27) = w7 at *
  clear hw7 hba
  generalize w6.heap.size = gz at *
  have c1 := HV1.out w7 hb37
  obtain ⟨p0, p1, p2, p3, p4, p5, p6⟩ := x7.cells7
  have HY7 := Lib.hid hy7
  have HZ7 := Lib.hid hz7
  clear hy7 hz7 HV1
  go_wp2_with fail
  refine c1.mono ?_
  rintro e w8 ⟨rfl, hb8⟩
  have y8 := y7.call hb8
  have z8 := zZ.call hb8
  have hb38 := below_stepH hb37 hb37.size hb8
  have hb08 := below_stepH hb07 hb07.size hb8
  have zV : Blk _ _ _ [_, _, _, _] := Blk.new w8 #[.int .i64 rk, .int .i64 ri, .int .u64 rb, .string RS] 24
  have hba := (Below.refl w8.heap.size w8).alloc (Nat.le_refl _) (.cells #[.int .i64 rk, .int .i64 ri, .int .u64 rb, .string RS] 24)
  have y9 := y8.call hba
  have z9 := z8.call hba
  have hb39 := below_stepH hb38 hb38.size hba
  have hb09 := below_stepH hb08 hb08.size hba
  have hy9 := (HY7.out.keep hb8).keep hba
  have hz9 := (HZ7.out.keep hb8).keep hba
  clear p0 p1 p2 p3 p4 p5 p6 c1 x7 y7 y8 zZ z8 hb07 hb08 hb8 hb37 hb38 HY7 HZ7
  go_upto_region 6 with fail
  generalize hw9 : w8.alloc (.cells #[.int .i64 rk, .int .i64 ri, .int .u64 rb, .string RS] 24) = w9 at *
  clear hw9 hba
  generalize w8.heap.size = gv at *
  have c1 := HV2.out ay cy w9 hb39 hy9
  rw [hyv] at c1
  obtain ⟨p0, p1, p2, p3, p4, p5, p6⟩ := y9.cells7
  have HY9 := Lib.hid hy9
  have HZ9 := Lib.hid hz9
  clear hy9 hz9 HV2
  go_wp2_with fail
  refine c1.mono ?_
  rintro e w10 ⟨rfl, hb10⟩
  have y10 := y9.call hb10
  have z10 := z9.call hb10
  have v10 := zV.call hb10
  have hb310 := below_stepH hb39 hb39.size hb10
  have hb010 := below_stepH hb09 hb09.size hb10
  have zW : Blk _ _ _ [_, _, _, _] := Blk.new w10 #[.int .i64 rk, .int .i64 ri, .int .u64 rb, .string RS] 24
  have hba := (Below.refl w10.heap.size w10).alloc (Nat.le_refl _) (.cells #[.int .i64 rk, .int .i64 ri, .int .u64 rb, .string RS] 24)
  have y11 := y10.call hba
  have z11 := z10.call hba
  have v11 := v10.call hba
  have hb311 := below_stepH hb310 hb310.size hba
  have hb011 := below_stepH hb010 hb010.size hba
  have hy11 := (HY9.out.keep hb10).keep hba
  have hz11 := (HZ9.out.keep hb10).keep hba
  clear p0 p1 p2 p3 p4 p5 p6 c1 y9 y10 z9 z10 zV v10 hb09 hb010 hb10 hb39 hb310 HY9 HZ9
  go_upto_region 7 with fail
  generalize hw11 : w10.alloc (.cells #[.int .i64 rk, .int .i64 ri, .int .u64 rb, .string RS] 24) = w11 at *
  clear hw11 hba
  generalize w10.heap.size = gw at *
  have HY11 := Lib.hid hy11
  have HZ11 := Lib.hid hz11
  have cT := HCT.out w11 hb311
  clear hy11 hz11 HCT
  go_wp2_with fail
  refine cT.mono ?_
  rintro e w12 ⟨rfl, hb12⟩
  have y12 := y11.call hb12
  have z12 := z11.call hb12
  have v12 := v11.call hb12
  have u12 := zW.call hb12
  have hb012 := below_stepH hb011 hb011.size hb12
  have cS := HCS.out ay az cy cz w12 (HY11.out.keep hb12) (HZ11.out.keep hb12)
  rw [hyv, hzv] at cS
  obtain ⟨p0, p1, p2, p3, p4, p5, p6⟩ := y12.cells7
  obtain ⟨q0, q1, q2, q3, q4, q5, q6⟩ := z12.cells7
  clear cT y11 z11 v11 zW hb011 hb12 HCS
  go_wp2_with fail
  refine cS.mono ?_
  rintro e w13 ⟨rfl, hb13⟩
  have y13 := y12.call hb13
  have v13 := v12.call hb13
  have u13 := u12.call hb13
  have hb013 := below_stepH hb012 hb012.size hb13
  clear cS p0 p1 p2 p3 p4 p5 p6 q0 q1 q2 q3 q4 q5 q6 y12 z12 v12 u12 hb012 hb13 HY11 HZ11
  have p0 := y13.cell (j := 0) rfl
  obtain ⟨v0, v1, v2, v3⟩ := v13.cell4
  obtain ⟨u0, u1, u2, u3⟩ := u13.cell4
  go_wp2_with fail
  go_ret
  exact ⟨by simp, hb013⟩
end Go.Proofs.YtablacloabpjfabGreatDoor
