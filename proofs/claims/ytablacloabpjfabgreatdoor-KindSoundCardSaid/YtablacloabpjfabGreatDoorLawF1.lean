/-
  THE WALK of the law 'chirographkeep.KindSound': for every raw things, kind and key the law returns true.
  CONDITIONS: the raw things lie; the tables lie.
-/
import Derived.Test.YtablacloabpjfabGreatDoorGKindE
import Derived.Test.YtablacloabpjfabGreatDoorGRow
import Derived.Test.YtablacloabpjfabGreatDoorGEve
import Derived.Test.YtablacloabpjfabGreatDoorTyZ
namespace Go.Proofs.YtablacloabpjfabGreatDoor
open Go.RowKit
set_option linter.unusedVariables false
set_option maxRecDepth 100000

/-- What is known of an expression that raw things made, of its kind, and of what it says. -/
theorem sound_facts {cs : List Cl} {k0 : Int} {t : T} {row : List Vl} (hc : colsR cs = 0) (hk : 1 ≤ k0 ∧ k0 ≤ 4) (hT : Ty cs 4 k0 t) (hr : rowR row cs = 0) : ∃ (k : Int) (n : Bool), kindsR cs t = ⟨k, n, 0⟩ ∧ exprR t = 0 ∧ evalR t cs row = evT cs row t ∧ ((evT cs row t).f ≠ 0 → (evT cs row t).f = 6 ∨ (evT cs row t).f = 7 ∨ (evT cs row t).f = 1) ∧ ((evT cs row t).f = 0 → (evT cs row t).v.k = k ∨ ((evT cs row t).v.k = 0 ∧ n = true)) := by
  have he := ty_expr hc 4 (by decide) k0 t hk hT
  have hf := (ty_kind hc 4 k0 t hk hT).1
  have hs := sound_ev cs row hr t.deep t (Nat.le_refl _) (ty_form hc 4 k0 t hk hT) hf
  refine ⟨(kT cs t).k, (kT cs t).n, ?_, he, evalR_ok t cs row he hr, fun h => ?_, fun h => ?_⟩
  · unfold kindsR
    rw [if_neg (by rw [he]; decide), if_neg (by rw [hc]; decide), ← hf]
  · rcases hs with ⟨h0, _⟩ | h1
    · exact absurd h0 h
    · exact h1
  · rcases hs with ⟨_, h1, h2⟩ | h1
    · by_cases h0 : (evT cs row t).v.k = 0
      · exact .inr ⟨h0, h2 h0⟩
      · exact .inl (h1 h0)
    · unfold FewF at h1; omega
theorem exprV_sevenF (t : T) (ao : Option Addr) (cap : Nat) : ∃ (xo xk xi xb : Int) (xs xm : ByteArray) (xl : Nat), exprV t ao cap = .agg #[.int .i64 xo, .int .i64 xk, .int .i64 xi, .int .u64 xb, .string xs, .string xm, .slice ao xl cap] := ⟨_, _, _, _, _, _, _, exprV_cells t ao cap⟩
/-- A heap's row, as Eval takes it. -/
theorem row_open {S : HpS} {w w' : World} {v : Value} {vs : List Vl} (ho : OwnW w' w.heap.size v vs) (hr : RowOkL vs S.cs ∧ vs.length = S.cs.length) (hc : colsR S.cs = 0) :
    ∃ aor capr, v = .slice aor vs.length capr ∧ vs.length ≤ capr ∧ capr ≤ 9223372036854775807 ∧ Vals w' aor vs ∧ rowR vs S.cs = 0 := by
  obtain ⟨ao, cap, e, h1, h2, h3, _⟩ := OwnW.vals ho hr.1.fit
  exact ⟨ao, cap, e, h1, h2, h3, hr.1.row hr.2 hc⟩
set_option maxHeartbeats 16000000 in
theorem kindSound_walk (l : List R) (aol : Option Addr) (capl : Nat) (kd key : Int) (w : World) (hX : XEnv w) (hc : l.length ≤ capl) (hm : capl ≤ 9223372036854775807) (hx : Raws w aol l) (k0 : -9223372036854775808 ≤ kd) (k1 : kd ≤ 9223372036854775807) (q0 : -9223372036854775808 ≤ key) (q1 : key ≤ 9223372036854775807) :
    Calls Tryz.prog 4 #[.slice aol l.length capl, .int .i64 kd, .int .i64 key] w fun e w' => e = .returned (.bool true) ∧ Below w.heap.size w w' := by
  have cE := exprOf_any l aol capl kd w hx hc (by omega) k0 k1
  have hkr : 1 ≤ 1 + kd % 4 ∧ 1 + kd % 4 ≤ 4 := by have := Int.emod_nonneg kd (show (4 : Int) ≠ 0 by decide); have := Int.emod_lt_of_pos kd (show (0 : Int) < 4 by decide); omega
  obtain ⟨n, hn⟩ : ∃ n, l.length = n := ⟨_, rfl⟩
  rw [hn] at cE ⊢
  unfold ExprOfOk at cE
  have HX := Lib.hid hX
  have HKR := Lib.hid hkr
  have HKEY := Lib.hid (And.intro q0 q1)
  clear hx hn hc hm hX hkr k0 k1 q0 q1
  go_enter Tryz.func4, Tryz.ntmps4
  go_wp2_with fail
  refine cE.mono ?_
  rintro e w1 ⟨S, H, m, t, ao, cap, rfl, HT, HXT, HA, HS, HNM, HCP, hwH, hb1⟩
  clear cE
  obtain ⟨xo, xk, xi, xb, xs, xm, xl, hxv⟩ := exprV_sevenF t ao cap
  have hba := (Below.refl w1.heap.size w1).alloc (Nat.le_refl _) (.cells #[.int .i64 xo, .int .i64 xk, .int .i64 xi, .int .u64 xb, .string xs, .string xm, .slice ao xl cap] 27)
  have hA2 := HA.out.1.call hba
  have hm1 := HA.out.2
  have hb2 := below_stepH hb1 hb1.size hba
  have zX : Blk _ _ _ [_, _, _, _, _, _, _] := Blk.new w1 #[.int .i64 xo, .int .i64 xk, .int .i64 xi, .int .u64 xb, .string xs, .string xm, .slice ao xl cap] 27
  have hxt2 := HXT.out.below hba
  have hgx := hb1.size
  have hHlt := HA.out.1.lt
  rw [hxv]
  go_upto_region 2 with fail
  generalize hw2 : w1.alloc (.cells #[.int .i64 xo, .int .i64 xk, .int .i64 xi, .int .u64 xb, .string xs, .string xm, .slice ao xl cap] 27) = w2 at *
  clear hw2 hba HXT HA
  generalize w1.heap.size = gx at *
  have cR := row_h S H m key w2 hA2 HS.out (by omega) HKEY.out ⟨HCP.out.2.1, HCP.out.2.2⟩
  unfold RowPost at cR
  go_wp2_with fail
  refine cR.mono ?_
  rintro e w3 ⟨vr, vs, rfl, hO, hR, hA3, hb3⟩
  clear cR
  have hb03 : Below w.heap.size w w3 := below_hb hb2 hwH hb3
  have hne : gx ≠ H := by omega
  have zX3 := zX.hb hb3 hne
  have hxt3 := (hxt2.hb (Nat.lt_succ_self H) hb3).show
  have X3 := HX.out.keep hb03
  have hcs : Cols w3 S.aoc S.cs := hA3.out.2.2.show
  have hc0 := HS.out.cols
  obtain ⟨hn1, hcc, hcm⟩ := HCP.out
  obtain ⟨aor, capr, rfl, hv1, hv2, hV, hrow⟩ := row_open hO.out hR.out hc0
  obtain ⟨k, nl, e1, e2, e3, hbad, hgood⟩ := sound_facts hc0 HKR.out HT.out hrow
  have hEI : EvIn w3 t ao cap S.cs S.aoc S.capc vs aor capr := ⟨hxt3.A, hxt3.n1, hxt3.n2, hcs, hcc, hcm, hV, hv1, hv2, X3⟩
  have cO : ∀ W, Below w3.heap.size w3 W → Calls Tryz.prog 19 #[exprV t ao cap, .slice S.aoc S.cs.length S.capc] W fun e w' => e = .returned (.tuple #[.int .i64 k, .bool nl, .int .i64 0]) ∧ Below W.heap.size W w' := fun W hW => by
    have := of_any t ao cap S.cs S.aoc S.capc W (X3.keep hW) hxt3.n1 ⟨hxt3.n2, hxt3.n3⟩ (hxt3.A.keep hW) hcc hcm (hcs.keep hW)
    rw [e1] at this; exact this
  have cV := fun W (hW : Below w3.heap.size w3 W) => eval_any t ao cap S.cs S.aoc S.capc vs aor capr W (hEI.keep hW)
  have cW := fun W (hW : Below w3.heap.size w3 W) => row_any vs aor capr S.cs S.aoc S.capc W hv1 hv2 (hV.keep hW) hcc hcm (hcs.keep hW) (X3.keep hW).tabs (X3.keep hW).sw
  have cT := fun W (hW : Below w3.heap.size w3 W) => evalTells_any W (X3.keep hW)
  rw [e3] at cV
  rw [hrow] at cW
  generalize evT S.cs vs t = R at *
  obtain ⟨⟨rk, ri, rb, rs⟩, rf⟩ := R
  unfold valV at cV
  simp only at cV hbad hgood
  generalize str rs = RS at *
  simp only [hxv] at cO cV
  have HBAD := Lib.hid hbad
  have HGOOD := Lib.hid hgood
  have HCO := Lib.hid cO
  have HCV := Lib.hid cV
  have HCW := Lib.hid cW
  have HCT := Lib.hid cT
  clear hxv e1 e2 e3 hbad hgood hEI hV hcs hc0 hxt3 hxt2 zX hO hR hA2 HT X3 hrow cO cV cW cT hv1 hv2
  obtain ⟨aol2, capl2, l2, aoc, capc, cs⟩ := S
  simp only at *
  generalize cs.length = lc at *
  generalize vs.length = lr at *
  obtain ⟨p0, p1, p2, p3, p4, p5, p6⟩ := zX3.cells7
  go_wp2_with fail
  refine (HCO.out _ (Below.refl _ _)).mono ?_
  rintro e w4 ⟨rfl, hb4⟩
  have zX4 := zX3.call hb4
  have hb04 := below_stepH hb03 hb03.size hb4
  clear p0 p1 p2 p3 p4 p5 p6 zX3
  obtain ⟨p0, p1, p2, p3, p4, p5, p6⟩ := zX4.cells7
  go_wp2_with fail
  refine (HCV.out _ hb4).mono ?_
  rintro e w5 ⟨rfl, hb5⟩
  have hb35 := below_stepH hb4 hb4.size hb5
  have hb05 := below_stepH hb04 hb04.size hb5
  have zV : Blk _ _ _ [_, _, _, _] := Blk.new w5 #[.int .i64 rk, .int .i64 ri, .int .u64 rb, .string RS] 24
  have hba6 := (Below.refl w5.heap.size w5).alloc (Nat.le_refl _) (.cells #[.int .i64 rk, .int .i64 ri, .int .u64 rb, .string RS] 24)
  have hb36 := below_stepH hb35 hb35.size hba6
  have hb06 := below_stepH hb05 hb05.size hba6
  clear p0 p1 p2 p3 p4 p5 p6 zX4 hb4 hb5 hb04 hb35 hb05
  go_upto_region 5 with fail
  generalize hw6 : w5.alloc (.cells #[.int .i64 rk, .int .i64 ri, .int .u64 rb, .string RS] 24) = w6 at *
  clear hw6 hba6
  generalize w5.heap.size = gv at *
  go_wp2_with fail
  refine (HCW.out _ hb36).mono ?_
  rintro e w7 ⟨rfl, hb7⟩
  have zV7 := zV.call hb7
  have hb37 := below_stepH hb36 hb36.size hb7
  have hb07 := below_stepH hb06 hb06.size hb7
  clear zV hb36 hb06 hb7
  go_wp2_with fail
  refine (HCT.out _ hb37).mono ?_
  rintro e w8 ⟨rfl, hb8⟩
  have zV8 := zV7.call hb8
  have hb08 := below_stepH hb07 hb07.size hb8
  clear zV7 hb37 hb8 hb07 HCO HCV HCW HCT
  obtain ⟨v0, v1, v2, v3⟩ := zV8.cell4
  by_cases hf : rf = 0
  · have bf : (rf != 0) = false := by simpa using hf
    have hg := HGOOD.out hf
    clear HBAD HGOOD
    rcases hg with hg | ⟨hg, hnl⟩
    · have bk : (rk == k) = true := by simpa using hg
      go_wp2_with fail
      go_ret
      exact ⟨by simp, hb08⟩
    · subst hg hnl
      by_cases h0 : (0 : Int) = k
      · have bk : ((0 : Int) == k) = true := by simpa using h0
        clear h0
        go_wp2_with fail
        go_ret
        exact ⟨by simp, hb08⟩
      · have bk : ((0 : Int) == k) = false := by simpa using h0
        clear h0
        go_wp2_with fail
        go_ret
        exact ⟨by simp, hb08⟩
  · have bf : (rf != 0) = true := by simpa using hf
    have hg := HBAD.out hf
    clear HBAD HGOOD
    rcases hg with rfl | rfl | rfl
    · go_wp2_with fail
      go_ret
      exact ⟨by simp, hb08⟩
    · go_wp2_with fail
      go_ret
      exact ⟨by simp, hb08⟩
    · go_wp2_with fail
      go_ret
      exact ⟨by simp, hb08⟩
end Go.Proofs.YtablacloabpjfabGreatDoor
