/-
  THE WALK of the law 'chirographkeep.EvalMorgan': for every raw things and key the law returns true.
  CONDITIONS: the raw things lie; the tables lie.
-/
import Derived.Test.YtablacloabpjfabGreatDoorGRow
import Derived.Test.YtablacloabpjfabGreatDoorGEve
import Derived.Test.YtablacloabpjfabGreatDoorTyZ
import Derived.Test.YtablacloabpjfabGreatDoorRegC
namespace Go.Proofs.YtablacloabpjfabGreatDoor
open Go.RowKit
set_option linter.unusedVariables false
set_option maxRecDepth 100000

theorem exprV_sevenM (t : T) (ao : Option Addr) (cap : Nat) : ∃ (xo xk xi xb : Int) (xs xm : ByteArray) (xl : Nat), exprV t ao cap = .agg #[.int .i64 xo, .int .i64 xk, .int .i64 xi, .int .u64 xb, .string xs, .string xm, .slice ao xl cap] := ⟨_, _, _, _, _, _, _, exprV_cells t ao cap⟩
theorem row_openM {S : HpS} {w w' : World} {v : Value} {vs : List Vl} (ho : OwnW w' w.heap.size v vs) (hr : RowOkL vs S.cs ∧ vs.length = S.cs.length) (hc : colsR S.cs = 0) :
    ∃ aor capr, v = .slice aor vs.length capr ∧ vs.length ≤ capr ∧ capr ≤ 9223372036854775807 ∧ Vals w' aor vs ∧ rowR vs S.cs = 0 := by
  obtain ⟨ao, cap, e, h1, h2, h3, _⟩ := OwnW.vals ho hr.1.fit
  exact ⟨ao, cap, e, h1, h2, h3, hr.1.row hr.2 hc⟩
/-- A condition that raw things made is true, false, or not known, in a row that fits, or a fault. -/
theorem bool_says {cs : List Cl} {n : Nat} {t : T} {row : List Vl} (hc : colsR cs = 0) (hn : n ≤ 5) (hT : Ty cs n 1 t) (hr : rowR row cs = 0) (hV : ∀ v ∈ row, FitV v) (hF : FitT t) : (evT cs row t).f ≠ 0 ∨ (evT cs row t).v.k = 0 ∨ ∃ b, (evT cs row t).v = booV b := by
  have hk := ty_kind hc n 1 t (by decide) hT
  have hf := ty_form hc n 1 t (by decide) hT
  have hs := sound_ev cs row hr t.deep t (Nat.le_refl _) hf hk.1
  have ho := ok_ev cs row (rowR_ok row cs hV hr).1 t.deep t (Nat.le_refl _) hF hf
  rcases hs with ⟨h0, h1, h2⟩ | h
  · by_cases hz : (evT cs row t).v.k = 0
    · exact .inr (.inl hz)
    · have h3 := h1 hz
      rcases hk.2 with h4 | h4
      · rw [h4] at h3
        rcases ho.v.cases with e | ⟨b, e⟩ | ⟨m, e, _⟩ | ⟨e, _⟩ | ⟨s, e, _⟩
        · rw [e] at hz; exact absurd rfl hz
        · exact .inr (.inr ⟨b, e⟩)
        · rw [e] at h3; cases h3
        · rw [e] at h3; cases h3
        · rw [e] at h3; cases h3
      · rw [h4] at h3; exact absurd h3 hz
  · left; unfold FewF at h; omega
def MorgF (xo xk xi xb : Int) (xs xm : ByteArray) (ax : Option Addr) (xl cx : Nat) (yo yk yi yb : Int) (ys ym : ByteArray) (ay : Option Addr) (yl cy : Nat) (H : Nat) (aoc : Option Addr) (lc capc : Nat) (aor : Option Addr) (lr capr : Nat) (rk ri rb : Int) (rs : ByteArray) (rf : Int) (tx ty : T) : Array Bool → Nat → Value → World → Prop
  | _, 0, v, _ => v = .agg #[.int .i64 xo, .int .i64 xk, .int .i64 xi, .int .u64 xb, .string xs, .string xm, .slice ax xl cx]
  | _, 1, v, _ => v = .agg #[.int .i64 yo, .int .i64 yk, .int .i64 yi, .int .u64 yb, .string ys, .string ym, .slice ay yl cy]
  | ls, 2, v, w => ls.getD 9 false = true ∨ ∃ k, v = .agg #[.int .i64 15, .int .i64 0, .int .i64 0, .int .u64 0, .string ⟨#[]⟩, .string ⟨#[]⟩, .slice (some ⟨k, 0, none⟩) 2 2] ∧ Hid (XT w (opN 15 [tx, ty]) (some ⟨k, 0, none⟩) 2)
  | ls, 3, v, w => ls.getD 9 false = true ∨ ∃ k, v = .agg #[.int .i64 4, .int .i64 0, .int .i64 0, .int .u64 0, .string ⟨#[]⟩, .string ⟨#[]⟩, .slice (some ⟨k, 0, none⟩) 1 1] ∧ Hid (XT w (opN 4 [opN 15 [tx, ty]]) (some ⟨k, 0, none⟩) 1)
  | _, 4, v, _ => v = .pointer (some ⟨H, 0, none⟩)
  | _, 5, v, _ => v = .pointer (some ⟨H, 0, none⟩)
  | _, 6, v, _ => v = .pointer (some ⟨H, 2, none⟩)
  | _, 7, v, _ => v = .slice aoc lc capc
  | _, 8, v, _ => v = .slice aor lr capr
  | _, 9, v, _ => v = .tuple #[.agg #[.int .i64 rk, .int .i64 ri, .int .u64 rb, .string rs], .int .i64 rf]
  | _, 10, v, _ => v = .tuple #[.agg #[.int .i64 rk, .int .i64 ri, .int .u64 rb, .string rs], .int .i64 rf]
  | _, 11, v, _ => v = .agg #[.int .i64 rk, .int .i64 ri, .int .u64 rb, .string rs]
  | _, 12, v, _ => v = .int .i64 rf
  | _, 13, _, _ => True
  | _, 14, _, _ => True
  | _, _, _, _ => True
def MorhF (xo xk xi xb : Int) (xs xm : ByteArray) (ax : Option Addr) (xl cx : Nat) (yo yk yi yb : Int) (ys ym : ByteArray) (ay : Option Addr) (yl cy : Nat) (H : Nat) (aoc : Option Addr) (lc capc : Nat) (aor : Option Addr) (lr capr : Nat) (rk ri rb : Int) (rs : ByteArray) (rf : Int) (tx ty : T) : Array Bool → Nat → Value → World → Prop
  | _, 0, v, _ => v = .agg #[.int .i64 xo, .int .i64 xk, .int .i64 xi, .int .u64 xb, .string xs, .string xm, .slice ax xl cx]
  | ls, 1, v, w => ls.getD 10 false = true ∨ ∃ k, v = .agg #[.int .i64 4, .int .i64 0, .int .i64 0, .int .u64 0, .string ⟨#[]⟩, .string ⟨#[]⟩, .slice (some ⟨k, 0, none⟩) 1 1] ∧ Hid (XT w (opN 4 [tx]) (some ⟨k, 0, none⟩) 1)
  | _, 2, v, _ => v = .agg #[.int .i64 yo, .int .i64 yk, .int .i64 yi, .int .u64 yb, .string ys, .string ym, .slice ay yl cy]
  | ls, 3, v, w => ls.getD 10 false = true ∨ ∃ k, v = .agg #[.int .i64 4, .int .i64 0, .int .i64 0, .int .u64 0, .string ⟨#[]⟩, .string ⟨#[]⟩, .slice (some ⟨k, 0, none⟩) 1 1] ∧ Hid (XT w (opN 4 [ty]) (some ⟨k, 0, none⟩) 1)
  | ls, 4, v, w => ls.getD 10 false = true ∨ ∃ k, v = .agg #[.int .i64 16, .int .i64 0, .int .i64 0, .int .u64 0, .string ⟨#[]⟩, .string ⟨#[]⟩, .slice (some ⟨k, 0, none⟩) 2 2] ∧ Hid (XT w (opN 16 [opN 4 [tx], opN 4 [ty]]) (some ⟨k, 0, none⟩) 2)
  | _, 5, v, _ => v = .pointer (some ⟨H, 0, none⟩)
  | _, 6, v, _ => v = .pointer (some ⟨H, 0, none⟩)
  | _, 7, v, _ => v = .pointer (some ⟨H, 2, none⟩)
  | _, 8, v, _ => v = .slice aoc lc capc
  | _, 9, v, _ => v = .slice aor lr capr
  | _, 10, v, _ => v = .tuple #[.agg #[.int .i64 rk, .int .i64 ri, .int .u64 rb, .string rs], .int .i64 rf]
  | _, 11, v, _ => v = .tuple #[.agg #[.int .i64 rk, .int .i64 ri, .int .u64 rb, .string rs], .int .i64 rf]
  | _, 12, v, _ => v = .agg #[.int .i64 rk, .int .i64 ri, .int .u64 rb, .string rs]
  | _, 13, v, _ => v = .int .i64 rf
  | _, 14, _, _ => True
  | _, 15, _, _ => True
  | _, _, _, _ => True
set_option maxHeartbeats 16000000 in
theorem evalMorgan_walk (l : List R) (aol : Option Addr) (capl : Nat) (key : Int) (w : World) (hX : XEnv w) (hc : l.length ≤ capl) (hm : capl ≤ 9223372036854775807) (hx : Raws w aol l) (q0 : -9223372036854775808 ≤ key) (q1 : key ≤ 9223372036854775807) :
    Calls Tryz.prog 9 #[.slice aol l.length capl, .int .i64 key] w fun e w' => e = .returned (.bool true) ∧ Below w.heap.size w w' := by
  have cH := heapOf_any l aol capl w hx hc (by omega)
  obtain ⟨n, hn⟩ : ∃ n, l.length = n := ⟨_, rfl⟩
  rw [hn] at cH ⊢
  unfold HeapOk at cH
  have HX := Lib.hid hX
  have HKEY := Lib.hid (And.intro q0 q1)
  clear hx hn hc hm hX q0 q1
  go_enter Tryz.func9, Tryz.ntmps9
  go_wp2_with fail
  refine cH.mono ?_
  rintro e w1 ⟨S, H, rfl, HA, HS, HNM, HCP, HBL, hwH, hb1⟩
  have cX := fun n w hA hn => ex_any S H HS.out (fun c hc => by rw [HNM.out c hc]; decide) 3 (by decide) 1 n w (by decide) hA hn
  clear cH HBL
  unfold ExprPost at cX
  go_wp2_with fail
  refine (cX 0 w1 HA.out (by decide)).mono ?_
  rintro e w2 ⟨tx, ax, cx, m, rfl, HTX, hXX, HA2, hm2, hb2⟩
  obtain ⟨xo, xk, xi, xb, xs, xm, xl, hxv⟩ := exprV_sevenM tx ax cx
  rw [hxv]
  go_wp2_with fail
  refine (cX m w2 HA2.out (by omega)).mono ?_
  rintro e w3 ⟨ty, ay, cy, m', rfl, HTY, hYY, HA3, hm3, hb3⟩
  obtain ⟨yo, yk, yi, yb, ys, ym, yl, hyv⟩ := exprV_sevenM ty ay cy
  rw [hyv]
  have hH1 := HA.out.lt
  have hb03 : Below w.heap.size w w3 := below_hb hb1 hwH (hb2.trans hb3)
  have hX3 := (hXX.out.hb hH1 hb3)
  have hY3 := hYY.out
  clear cX HA2 hXX hYY HA
  have zX := (Blk.new w3 #[.int .i64 xo, .int .i64 xk, .int .i64 xi, .int .u64 xb, .string xs, .string xm, .slice ax xl cx] 27).alloc (.cells #[.int .i64 yo, .int .i64 yk, .int .i64 yi, .int .u64 yb, .string ys, .string ym, .slice ay yl cy] 27)
  have zY := Blk.new (w3.alloc (.cells #[.int .i64 xo, .int .i64 xk, .int .i64 xi, .int .u64 xb, .string xs, .string xm, .slice ax xl cx] 27)) #[.int .i64 yo, .int .i64 yk, .int .i64 yi, .int .u64 yb, .string ys, .string ym, .slice ay yl cy] 27
  have hys : (w3.alloc (.cells #[.int .i64 xo, .int .i64 xk, .int .i64 xi, .int .u64 xb, .string xs, .string xm, .slice ax xl cx] 27)).heap.size = w3.heap.size + 1 := by simp
  rw [hys] at zY
  have hba := ((Below.refl w3.heap.size w3).alloc (Nat.le_refl _) (.cells #[.int .i64 xo, .int .i64 xk, .int .i64 xi, .int .u64 xb, .string xs, .string xm, .slice ax xl cx] 27)).alloc (by simp) (.cells #[.int .i64 yo, .int .i64 yk, .int .i64 yi, .int .u64 yb, .string ys, .string ym, .slice ay yl cy] 27)
  have hA4 := HA3.out.call hba
  have hb04 := below_stepH hb03 hb03.size hba
  have hX4 := hX3.below hba
  have hY4 := hY3.below hba
  have hH3 := HA3.out.lt
  have hm15 : m' ≤ 100000 := by omega
  have hb2s := hb2.size
  go_upto_region 3 with fail
  generalize hw4 : (w3.alloc (.cells #[.int .i64 xo, .int .i64 xk, .int .i64 xi, .int .u64 xb, .string xs, .string xm, .slice ax xl cx] 27)).alloc (.cells #[.int .i64 yo, .int .i64 yk, .int .i64 yi, .int .u64 yb, .string ys, .string ym, .slice ay yl cy] 27) = w4 at *
  clear hw4 hba hys HA3 hX3 hY3 hb03
  generalize w3.heap.size = gx at *
  have cR := row_h S H m' key w4 hA4 HS.out hm15 HKEY.out ⟨HCP.out.2.1, HCP.out.2.2⟩
  unfold RowPost at cR
  go_wp2_with fail
  refine cR.mono ?_
  rintro e w5 ⟨vr, vs, rfl, hO, hR, hA5, hb5⟩
  clear cR
  have hb05 : Below w.heap.size w w5 := below_hb hb04 hwH hb5
  have zX5 := zX.hb hb5 (by omega)
  have zY5 := zY.hb hb5 (by omega)
  have hx5 := (hX4.hb hH1 hb5).show
  have hy5 := (hY4.hb (Nat.lt_of_lt_of_le hH1 hb2s) hb5).show
  have X5 := HX.out.keep hb05
  have hcs : Cols w5 S.aoc S.cs := hA5.out.2.2.show
  have hc0 := HS.out.cols
  obtain ⟨hn1, hcc, hcm⟩ := HCP.out
  obtain ⟨aor, capr, rfl, hv1, hv2, hV, hrow⟩ := row_openM hO.out hR.out hc0
  have zH := hA5.out.1
  have hfx := atT_fit tx.deep tx ax (Nat.le_refl _) hx5.A
  have hfy := atT_fit ty.deep ty ay (Nat.le_refl _) hy5.A
  have bx := bool_says hc0 (by decide) HTX.out hrow hR.out.1.fit hfx
  have by' := bool_says hc0 (by decide) HTY.out hrow hR.out.1.fit hfy
  have hmor := ev_morgan _ _ bx by'
  have hT15 := ty_op2 (op := 15) (.inr (.inr (.inl ⟨rfl, .inl rfl, rfl⟩))) HTX.out HTY.out
  have hT415 := ty_op1 (op := 4) (.inr (.inr (.inl ⟨rfl, rfl, rfl⟩))) hT15
  have hT4x := ty_op1 (op := 4) (.inr (.inr (.inl ⟨rfl, rfl, rfl⟩))) HTX.out
  have hT4y := ty_op1 (op := 4) (.inr (.inr (.inl ⟨rfl, rfl, rfl⟩))) HTY.out
  have hT16 := ty_op2 (op := 16) (.inr (.inr (.inl ⟨rfl, .inr rfl, rfl⟩))) hT4x hT4y
  have e1 : evalR (opN 4 [opN 15 [tx, ty]]) S.cs vs = combE 4 [combE 15 [evT S.cs vs tx, evT S.cs vs ty]] := by
    rw [evalR_ok _ _ _ (ty_expr hc0 5 (by decide) 1 _ (by decide) hT415) hrow, ev_op1 _ _ 4 (by decide), ev_op2 _ _ 15 (by decide)]
  have e2 : evalR (opN 16 [opN 4 [tx], opN 4 [ty]]) S.cs vs = combE 4 [combE 15 [evT S.cs vs tx, evT S.cs vs ty]] := by
    rw [evalR_ok _ _ _ (ty_expr hc0 5 (by decide) 1 _ (by decide) hT16) hrow, ev_op2 _ _ 16 (by decide), ev_op1 _ _ 4 (by decide), ev_op1 _ _ 4 (by decide), hmor]
  generalize combE 4 [combE 15 [evT S.cs vs tx, evT S.cs vs ty]] = R at *
  obtain ⟨⟨rk, ri, rb, rsl⟩, rf⟩ := R
  have HE1 : Hid (∀ W k, Below w5.heap.size w5 W → XT W (opN 4 [opN 15 [tx, ty]]) (some ⟨k, 0, none⟩) 1 → Calls Tryz.prog 20 #[.agg #[.int .i64 4, .int .i64 0, .int .i64 0, .int .u64 0, .string ⟨#[]⟩, .string ⟨#[]⟩, .slice (some ⟨k, 0, none⟩) 1 1], .slice S.aoc S.cs.length S.capc, .slice aor vs.length capr] W fun e w' => e = .returned (.tuple #[.agg #[.int .i64 rk, .int .i64 ri, .int .u64 rb, .string (str rsl)], .int .i64 rf]) ∧ Below W.heap.size W w') := Lib.hid (fun W k hW hT => by
    have := eval_any (opN 4 [opN 15 [tx, ty]]) (some ⟨k, 0, none⟩) 1 S.cs S.aoc S.capc vs aor capr W ⟨hT.A, hT.n1, hT.n2, hcs.keep hW, hcc, hcm, hV.keep hW, hv1, hv2, X5.keep hW⟩
    rw [e1] at this
    exact this)
  have HE2 : Hid (∀ W k, Below w5.heap.size w5 W → XT W (opN 16 [opN 4 [tx], opN 4 [ty]]) (some ⟨k, 0, none⟩) 2 → Calls Tryz.prog 20 #[.agg #[.int .i64 16, .int .i64 0, .int .i64 0, .int .u64 0, .string ⟨#[]⟩, .string ⟨#[]⟩, .slice (some ⟨k, 0, none⟩) 2 2], .slice S.aoc S.cs.length S.capc, .slice aor vs.length capr] W fun e w' => e = .returned (.tuple #[.agg #[.int .i64 rk, .int .i64 ri, .int .u64 rb, .string (str rsl)], .int .i64 rf]) ∧ Below W.heap.size W w') := Lib.hid (fun W k hW hT => by
    have := eval_any (opN 16 [opN 4 [tx], opN 4 [ty]]) (some ⟨k, 0, none⟩) 2 S.cs S.aoc S.capc vs aor capr W ⟨hT.A, hT.n1, hT.n2, hcs.keep hW, hcc, hcm, hV.keep hW, hv1, hv2, X5.keep hW⟩
    rw [e2] at this
    exact this)
  have HOA : Hid (∀ W, Below w5.heap.size w5 W → Calls Tryz.prog 24 #[.int .i64 15, .agg #[.int .i64 xo, .int .i64 xk, .int .i64 xi, .int .u64 xb, .string xs, .string xm, .slice ax xl cx], .agg #[.int .i64 yo, .int .i64 yk, .int .i64 yi, .int .u64 yb, .string ys, .string ym, .slice ay yl cy]] W (Op2Ok 15 tx ty W)) := Lib.hid (fun W hW => by
    have := op2_lit 15 (by decide) tx ty ax ay cx cy W (hx5.keep hW) (hy5.keep hW)
    rw [hxv, hyv] at this; exact this)
  have HON : Hid (∀ W k, XT W (opN 15 [tx, ty]) (some ⟨k, 0, none⟩) 2 → Calls Tryz.prog 29 #[.int .i64 4, .agg #[.int .i64 15, .int .i64 0, .int .i64 0, .int .u64 0, .string ⟨#[]⟩, .string ⟨#[]⟩, .slice (some ⟨k, 0, none⟩) 2 2]] W (Op1Ok 4 (opN 15 [tx, ty]) W)) := Lib.hid (fun W k h => op1_lit 4 (by decide) _ _ _ W h)
  have HNX : Hid (∀ W, Below w5.heap.size w5 W → Calls Tryz.prog 29 #[.int .i64 4, .agg #[.int .i64 xo, .int .i64 xk, .int .i64 xi, .int .u64 xb, .string xs, .string xm, .slice ax xl cx]] W (Op1Ok 4 tx W)) := Lib.hid (fun W hW => by
    have := op1_lit 4 (by decide) tx ax cx W (hx5.keep hW)
    rw [hxv] at this; exact this)
  have HNY : Hid (∀ W, Below w5.heap.size w5 W → Calls Tryz.prog 29 #[.int .i64 4, .agg #[.int .i64 yo, .int .i64 yk, .int .i64 yi, .int .u64 yb, .string ys, .string ym, .slice ay yl cy]] W (Op1Ok 4 ty W)) := Lib.hid (fun W hW => by
    have := op1_lit 4 (by decide) ty ay cy W (hy5.keep hW)
    rw [hyv] at this; exact this)
  have HOO : Hid (∀ W k m, XT W (opN 4 [tx]) (some ⟨k, 0, none⟩) 1 → XT W (opN 4 [ty]) (some ⟨m, 0, none⟩) 1 → Calls Tryz.prog 24 #[.int .i64 16, .agg #[.int .i64 4, .int .i64 0, .int .i64 0, .int .u64 0, .string ⟨#[]⟩, .string ⟨#[]⟩, .slice (some ⟨k, 0, none⟩) 1 1], .agg #[.int .i64 4, .int .i64 0, .int .i64 0, .int .u64 0, .string ⟨#[]⟩, .string ⟨#[]⟩, .slice (some ⟨m, 0, none⟩) 1 1]] W (Op2Ok 16 (opN 4 [tx]) (opN 4 [ty]) W)) := Lib.hid (fun W k m h1 h2 => op2_lit 16 (by decide) _ _ _ _ _ _ W h1 h2)
  have HT := Lib.hid (fun W (hW : Below w5.heap.size w5 W) => evalTells_any W (X5.keep hW))
  generalize hrs : str rsl = rs at *
  clear hrs hxv hyv hT15 hT415 hT4x hT4y hT16 e1 e2 hmor bx by' hfx hfy hcs hc0 hV hrow hO hR hA5 hA4 hX4 hY4 hx5 hy5 X5 HTX HTY hv1 hv2 hcc hcm hn1 zX zY hb04 hb5
  have zX := zX5
  have zY := zY5
  clear zX5 zY5
  unfold Op2Ok at HOA HOO
  unfold Op1Ok at HON HNX HNY
  obtain ⟨aol2, capl2, l2, aoc, capc, cs⟩ := S
  simp only at *
  generalize cs.length = lc at *
  generalize vs.length = lr at *
  go_upto_region 4 with fail
  refine wp_region_cell 15 13 14 (by kernel_rfl) (by kernel_rfl) (by kernel_rfl) 24 [.int .i64 0, .int .i64 0, .int .u64 0, .string ⟨#[]⟩] [.int .i64 rk, .int .i64 ri, .int .u64 rb, .string rs] (MorgF xo xk xi xb xs xm ax xl cx yo yk yi yb ys ym ay yl cy H aoc lc capc aor lr capr rk ri rb rs rf tx ty) ?hF4 ?hQ4 ?hstep4 ?hp4 ?hq4 ?hdone4
  case hF4 =>
    intro ls i j v W W' hi hiq hji hun hb h
    match j, h with
    | 0, h => exact h
    | 1, h => exact h
    | 2, h =>
      rcases h with h | ⟨k, h1, h2⟩
      · exact .inl (getD_put_true h)
      · exact .inr ⟨k, h1, Lib.hid (h2.out.keep hb)⟩
    | 3, h =>
      rcases h with h | ⟨k, h1, h2⟩
      · exact .inl (getD_put_true h)
      · exact .inr ⟨k, h1, Lib.hid (h2.out.keep hb)⟩
    | 4, h => exact h
    | 5, h => exact h
    | 6, h => exact h
    | 7, h => exact h
    | 8, h => exact h
    | 9, h => exact h
    | 10, h => exact h
    | 11, h => exact h
    | 12, h => exact h
    | 13, h => exact h
    | 14, h => exact h
    | j + 15, h => exact h
  case hQ4 =>
    intro ls j v W W' hcl hd h
    match j, h with
    | 0, h => exact h
    | 1, h => exact h
    | 2, h => exact .inl (getD_put_true (hcl 10 9 (hcl 11 10 (hd 11 (by kernel_rfl)) (by kernel_rfl)) (by kernel_rfl)))
    | 3, h => exact .inl (getD_put_true (hcl 10 9 (hcl 11 10 (hd 11 (by kernel_rfl)) (by kernel_rfl)) (by kernel_rfl)))
    | 4, h => exact h
    | 5, h => exact h
    | 6, h => exact h
    | 7, h => exact h
    | 8, h => exact h
    | 9, h => exact h
    | 10, h => exact h
    | 11, h => exact h
    | 12, h => exact h
    | 13, h => exact h
    | 14, h => exact h
    | j + 15, h => exact h
  case hstep4 =>
    intro j hj hnp hnq ls vs W K hst hf hK hcl hd hun
    simp only [fillF, Act.put, List.take_succ_cons, List.take_zero, List.setIfInBounds_toArray, List.set_cons_zero, List.set_cons_succ] at hK ⊢
    obtain ⟨q0, q1, q2, q3, q4, q5, q6⟩ := (zX.call hst).cells7
    obtain ⟨u0, u1, u2, u3, u4, u5, u6⟩ := (zY.call hst).cells7
    obtain ⟨⟨c0, c1, c2⟩, _⟩ := (zH.call hst).three
    rcases (show j = 0 ∨ j = 1 ∨ j = 2 ∨ j = 3 ∨ j = 4 ∨ j = 5 ∨ j = 6 ∨ j = 7 ∨ j = 8 ∨ j = 9 ∨ j = 10 ∨ j = 11 ∨ j = 12 ∨ j = 13 ∨ j = 14 by omega) with rfl | rfl | rfl | rfl | rfl | rfl | rfl | rfl | rfl | rfl | rfl | rfl | rfl | rfl | rfl
    · refine wpOp_step rfl (fun K' hK' => ?_)
      go_simp
      exact hK' _ _ (hK _ _ rfl (Below.refl _ _))
    · refine wpOp_step rfl (fun K' hK' => ?_)
      go_simp
      exact hK' _ _ (hK _ _ rfl (Below.refl _ _))
    · have e0 : vs 0 = .agg #[.int .i64 xo, .int .i64 xk, .int .i64 xi, .int .u64 xb, .string xs, .string xm, .slice ax xl cx] := hf 0 (by decide) (by decide) (by decide) (by kernel_rfl)
      have e1 : vs 1 = .agg #[.int .i64 yo, .int .i64 yk, .int .i64 yi, .int .u64 yb, .string ys, .string ym, .slice ay yl cy] := hf 1 (by decide) (by decide) (by decide) (by kernel_rfl)
      simp only [e0, e1] at hK ⊢
      refine wpOp_step rfl (fun K' hK' => ?_)
      go_simp
      refine (HOA.out W hst).mono ?_
      rintro e W' ⟨k, rfl, hT, hbc⟩
      go_simp
      exact hK' _ _ (hK _ _ (.inr ⟨k, rfl, hT⟩) hbc)
    · obtain ⟨k2, e2, y2⟩ := (hf 2 (by decide) (by decide) (by decide) (by kernel_rfl)).resolve_left (fun hh => by have h2 := hcl 9 3 hh (by kernel_rfl); rw [hun] at h2; cases h2)
      simp only [e2] at hK ⊢
      refine wpOp_step rfl (fun K' hK' => ?_)
      go_simp
      refine (HON.out W k2 y2.out).mono ?_
      rintro e W' ⟨k, rfl, hT, hbc⟩
      go_simp
      exact hK' _ _ (hK _ _ (.inr ⟨k, rfl, hT⟩) hbc)
    · refine wpOp_step rfl (fun K' hK' => ?_)
      go_simp
      exact hK' _ _ (hK _ _ rfl (Below.refl _ _))
    · have e4 : vs 4 = .pointer (some ⟨H, 0, none⟩) := hf 4 (by decide) (by decide) (by decide) (by kernel_rfl)
      simp only [e4] at hK ⊢
      refine wpOp_step rfl (fun K' hK' => ?_)
      go_simp
      exact hK' _ _ (hK _ _ rfl (Below.refl _ _))
    · have e5 : vs 5 = .pointer (some ⟨H, 0, none⟩) := hf 5 (by decide) (by decide) (by decide) (by kernel_rfl)
      simp only [e5] at hK ⊢
      refine wpOp_step rfl (fun K' hK' => ?_)
      go_simp
      exact hK' _ _ (hK _ _ rfl (Below.refl _ _))
    · have e6 : vs 6 = .pointer (some ⟨H, 2, none⟩) := hf 6 (by decide) (by decide) (by decide) (by kernel_rfl)
      simp only [e6] at hK ⊢
      refine wpOp_step rfl (fun K' hK' => ?_)
      go_simp
      exact hK' _ _ (hK _ _ rfl (Below.refl _ _))
    · refine wpOp_step rfl (fun K' hK' => ?_)
      go_simp
      exact hK' _ _ (hK _ _ rfl (Below.refl _ _))
    · obtain ⟨k3, e3, y3⟩ := (hf 3 (by decide) (by decide) (by decide) (by kernel_rfl)).resolve_left (fun hh => by rw [hun] at hh; cases hh)
      have e7 : vs 7 = .slice aoc lc capc := hf 7 (by decide) (by decide) (by decide) (by kernel_rfl)
      have e8 : vs 8 = .slice aor lr capr := hf 8 (by decide) (by decide) (by decide) (by kernel_rfl)
      simp only [e3, e7, e8] at hK ⊢
      refine wpOp_step rfl (fun K' hK' => ?_)
      go_simp
      refine (HE1.out W k3 hst y3.out).mono ?_
      rintro e W' ⟨rfl, hbc⟩
      go_simp
      exact hK' _ _ (hK _ _ rfl hbc)
    · have e9 : vs 9 = .tuple #[.agg #[.int .i64 rk, .int .i64 ri, .int .u64 rb, .string rs], .int .i64 rf] := hf 9 (by decide) (by decide) (by decide) (by kernel_rfl)
      simp only [e9] at hK ⊢
      refine wpOp_step rfl (fun K' hK' => ?_)
      go_simp
      exact hK' _ _ (hK _ _ rfl (Below.refl _ _))
    · have e10 : vs 10 = .tuple #[.agg #[.int .i64 rk, .int .i64 ri, .int .u64 rb, .string rs], .int .i64 rf] := hf 10 (by decide) (by decide) (by decide) (by kernel_rfl)
      simp only [e10] at hK ⊢
      refine wpOp_step rfl (fun K' hK' => ?_)
      go_simp
      exact hK' _ _ (hK _ _ rfl (Below.refl _ _))
    · have e10 : vs 10 = .tuple #[.agg #[.int .i64 rk, .int .i64 ri, .int .u64 rb, .string rs], .int .i64 rf] := hf 10 (by decide) (by decide) (by decide) (by kernel_rfl)
      simp only [e10] at hK ⊢
      refine wpOp_step rfl (fun K' hK' => ?_)
      go_simp
      exact hK' _ _ (hK _ _ rfl (Below.refl _ _))
    · exact (hnp rfl).elim
    · exact (hnq rfl).elim
  case hp4 =>
    intro vs W K hK
    simp only [fillF, Act.put, List.take_succ_cons, List.take_zero, List.setIfInBounds_toArray, List.set_cons_zero, List.set_cons_succ] at hK ⊢
    refine wpOp_step rfl (fun K' hK' => ?_)
    go_simp
    exact hK' _ _ hK
  case hq4 =>
    intro ls vs W K k hst ek hk hz hf hK
    simp only [fillF, Act.put, List.take_succ_cons, List.take_zero, List.setIfInBounds_toArray, List.set_cons_zero, List.set_cons_succ] at hK ⊢
    have e11 : vs 11 = .agg #[.int .i64 rk, .int .i64 ri, .int .u64 rb, .string rs] := hf 11 (by decide) (by decide) (by decide) (by kernel_rfl)
    simp only [e11] at hK ⊢
    simp only [ek] at hK ⊢
    obtain ⟨⟨p0, p1, p2, p3⟩, f0, f1, f2, f3⟩ := hz.four
    refine wpOp_step rfl (fun K' hK' => ?_)
    go_simp
    exact hK' _ _ (hK undef _ hz.set4 (below_set4 hst hk))
  intro ls vs W gV hst ek hk zV hf
  simp only [fillF, Act.put, List.take_succ_cons, List.take_zero, List.drop_succ_cons, List.drop_zero, List.setIfInBounds_toArray, List.set_cons_zero, List.set_cons_succ]
  have e12 : vs 12 = .int .i64 rf := hf 12 (by decide) (by decide) (by decide)
  clear hf HOA HON HE1
  simp only [ek, e12]
  clear ek e12
  have hb06 := below_stepH hb05 hb05.size hst
  have zX6 := zX.call hst
  have zY6 := zY.call hst
  have zH6 := zH.call hst
  have HW6 := Lib.hid hst
  clear zX zY zH hst hk hb05
  have zX := zX6
  have zY := zY6
  have zH := zH6
  clear zX6 zY6 zH6
  generalize vs 0 = z0
  generalize vs 1 = z1
  generalize vs 2 = z2
  generalize vs 3 = z3
  generalize vs 4 = z4
  generalize vs 5 = z5
  generalize vs 6 = z6
  generalize vs 7 = z7
  generalize vs 8 = z8
  generalize vs 9 = z9
  generalize vs 10 = z10
  generalize vs 11 = z11
  generalize vs 14 = z14
  go_upto_region 5 with fail
  refine wp_region_cell 16 14 15 (by kernel_rfl) (by kernel_rfl) (by kernel_rfl) 24 [.int .i64 0, .int .i64 0, .int .u64 0, .string ⟨#[]⟩] [.int .i64 rk, .int .i64 ri, .int .u64 rb, .string rs] (MorhF xo xk xi xb xs xm ax xl cx yo yk yi yb ys ym ay yl cy H aoc lc capc aor lr capr rk ri rb rs rf tx ty) ?hF5 ?hQ5 ?hstep5 ?hp5 ?hq5 ?hdone5
  case hF5 =>
    intro ls i j v W W' hi hiq hji hun hb h
    match j, h with
    | 0, h => exact h
    | 1, h =>
      rcases h with h | ⟨k, h1, h2⟩
      · exact .inl (getD_put_true h)
      · exact .inr ⟨k, h1, Lib.hid (h2.out.keep hb)⟩
    | 2, h => exact h
    | 3, h =>
      rcases h with h | ⟨k, h1, h2⟩
      · exact .inl (getD_put_true h)
      · exact .inr ⟨k, h1, Lib.hid (h2.out.keep hb)⟩
    | 4, h =>
      rcases h with h | ⟨k, h1, h2⟩
      · exact .inl (getD_put_true h)
      · exact .inr ⟨k, h1, Lib.hid (h2.out.keep hb)⟩
    | 5, h => exact h
    | 6, h => exact h
    | 7, h => exact h
    | 8, h => exact h
    | 9, h => exact h
    | 10, h => exact h
    | 11, h => exact h
    | 12, h => exact h
    | 13, h => exact h
    | 14, h => exact h
    | 15, h => exact h
    | j + 16, h => exact h
  case hQ5 =>
    intro ls j v W W' hcl hd h
    match j, h with
    | 0, h => exact h
    | 1, h => exact .inl (getD_put_true (hcl 11 10 (hcl 12 11 (hd 12 (by kernel_rfl)) (by kernel_rfl)) (by kernel_rfl)))
    | 2, h => exact h
    | 3, h => exact .inl (getD_put_true (hcl 11 10 (hcl 12 11 (hd 12 (by kernel_rfl)) (by kernel_rfl)) (by kernel_rfl)))
    | 4, h => exact .inl (getD_put_true (hcl 11 10 (hcl 12 11 (hd 12 (by kernel_rfl)) (by kernel_rfl)) (by kernel_rfl)))
    | 5, h => exact h
    | 6, h => exact h
    | 7, h => exact h
    | 8, h => exact h
    | 9, h => exact h
    | 10, h => exact h
    | 11, h => exact h
    | 12, h => exact h
    | 13, h => exact h
    | 14, h => exact h
    | 15, h => exact h
    | j + 16, h => exact h
  case hstep5 =>
    intro j hj hnp hnq ls vs W K hst hf hK hcl hd hun
    simp only [fillF, Act.put, List.take_succ_cons, List.take_zero, List.setIfInBounds_toArray, List.set_cons_zero, List.set_cons_succ] at hK ⊢
    obtain ⟨q0, q1, q2, q3, q4, q5, q6⟩ := (zX.call hst).cells7
    obtain ⟨u0, u1, u2, u3, u4, u5, u6⟩ := (zY.call hst).cells7
    obtain ⟨⟨c0, c1, c2⟩, _⟩ := (zH.call hst).three
    rcases (show j = 0 ∨ j = 1 ∨ j = 2 ∨ j = 3 ∨ j = 4 ∨ j = 5 ∨ j = 6 ∨ j = 7 ∨ j = 8 ∨ j = 9 ∨ j = 10 ∨ j = 11 ∨ j = 12 ∨ j = 13 ∨ j = 14 ∨ j = 15 by omega) with rfl | rfl | rfl | rfl | rfl | rfl | rfl | rfl | rfl | rfl | rfl | rfl | rfl | rfl | rfl | rfl
    · refine wpOp_step rfl (fun K' hK' => ?_)
      go_simp
      exact hK' _ _ (hK _ _ rfl (Below.refl _ _))
    · have e0 : vs 0 = .agg #[.int .i64 xo, .int .i64 xk, .int .i64 xi, .int .u64 xb, .string xs, .string xm, .slice ax xl cx] := hf 0 (by decide) (by decide) (by decide) (by kernel_rfl)
      simp only [e0] at hK ⊢
      refine wpOp_step rfl (fun K' hK' => ?_)
      go_simp
      refine (HNX.out W (below_stepH HW6.out HW6.out.size hst)).mono ?_
      rintro e W' ⟨k, rfl, hT, hbc⟩
      go_simp
      exact hK' _ _ (hK _ _ (.inr ⟨k, rfl, hT⟩) hbc)
    · refine wpOp_step rfl (fun K' hK' => ?_)
      go_simp
      exact hK' _ _ (hK _ _ rfl (Below.refl _ _))
    · have e2 : vs 2 = .agg #[.int .i64 yo, .int .i64 yk, .int .i64 yi, .int .u64 yb, .string ys, .string ym, .slice ay yl cy] := hf 2 (by decide) (by decide) (by decide) (by kernel_rfl)
      simp only [e2] at hK ⊢
      refine wpOp_step rfl (fun K' hK' => ?_)
      go_simp
      refine (HNY.out W (below_stepH HW6.out HW6.out.size hst)).mono ?_
      rintro e W' ⟨k, rfl, hT, hbc⟩
      go_simp
      exact hK' _ _ (hK _ _ (.inr ⟨k, rfl, hT⟩) hbc)
    · obtain ⟨k1, e1, y1⟩ := (hf 1 (by decide) (by decide) (by decide) (by kernel_rfl)).resolve_left (fun hh => by have h2 := hcl 10 4 hh (by kernel_rfl); rw [hun] at h2; cases h2)
      obtain ⟨k3, e3, y3⟩ := (hf 3 (by decide) (by decide) (by decide) (by kernel_rfl)).resolve_left (fun hh => by have h2 := hcl 10 4 hh (by kernel_rfl); rw [hun] at h2; cases h2)
      simp only [e1, e3] at hK ⊢
      refine wpOp_step rfl (fun K' hK' => ?_)
      go_simp
      refine (HOO.out W k1 k3 y1.out y3.out).mono ?_
      rintro e W' ⟨k, rfl, hT, hbc⟩
      go_simp
      exact hK' _ _ (hK _ _ (.inr ⟨k, rfl, hT⟩) hbc)
    · refine wpOp_step rfl (fun K' hK' => ?_)
      go_simp
      exact hK' _ _ (hK _ _ rfl (Below.refl _ _))
    · have e5 : vs 5 = .pointer (some ⟨H, 0, none⟩) := hf 5 (by decide) (by decide) (by decide) (by kernel_rfl)
      simp only [e5] at hK ⊢
      refine wpOp_step rfl (fun K' hK' => ?_)
      go_simp
      exact hK' _ _ (hK _ _ rfl (Below.refl _ _))
    · have e6 : vs 6 = .pointer (some ⟨H, 0, none⟩) := hf 6 (by decide) (by decide) (by decide) (by kernel_rfl)
      simp only [e6] at hK ⊢
      refine wpOp_step rfl (fun K' hK' => ?_)
      go_simp
      exact hK' _ _ (hK _ _ rfl (Below.refl _ _))
    · have e7 : vs 7 = .pointer (some ⟨H, 2, none⟩) := hf 7 (by decide) (by decide) (by decide) (by kernel_rfl)
      simp only [e7] at hK ⊢
      refine wpOp_step rfl (fun K' hK' => ?_)
      go_simp
      exact hK' _ _ (hK _ _ rfl (Below.refl _ _))
    · refine wpOp_step rfl (fun K' hK' => ?_)
      go_simp
      exact hK' _ _ (hK _ _ rfl (Below.refl _ _))
    · obtain ⟨k4, e4, y4⟩ := (hf 4 (by decide) (by decide) (by decide) (by kernel_rfl)).resolve_left (fun hh => by rw [hun] at hh; cases hh)
      have e8 : vs 8 = .slice aoc lc capc := hf 8 (by decide) (by decide) (by decide) (by kernel_rfl)
      have e9 : vs 9 = .slice aor lr capr := hf 9 (by decide) (by decide) (by decide) (by kernel_rfl)
      simp only [e4, e8, e9] at hK ⊢
      refine wpOp_step rfl (fun K' hK' => ?_)
      go_simp
      refine (HE2.out W k4 (below_stepH HW6.out HW6.out.size hst) y4.out).mono ?_
      rintro e W' ⟨rfl, hbc⟩
      go_simp
      exact hK' _ _ (hK _ _ rfl hbc)
    · have e10 : vs 10 = .tuple #[.agg #[.int .i64 rk, .int .i64 ri, .int .u64 rb, .string rs], .int .i64 rf] := hf 10 (by decide) (by decide) (by decide) (by kernel_rfl)
      simp only [e10] at hK ⊢
      refine wpOp_step rfl (fun K' hK' => ?_)
      go_simp
      exact hK' _ _ (hK _ _ rfl (Below.refl _ _))
    · have e11 : vs 11 = .tuple #[.agg #[.int .i64 rk, .int .i64 ri, .int .u64 rb, .string rs], .int .i64 rf] := hf 11 (by decide) (by decide) (by decide) (by kernel_rfl)
      simp only [e11] at hK ⊢
      refine wpOp_step rfl (fun K' hK' => ?_)
      go_simp
      exact hK' _ _ (hK _ _ rfl (Below.refl _ _))
    · have e11 : vs 11 = .tuple #[.agg #[.int .i64 rk, .int .i64 ri, .int .u64 rb, .string rs], .int .i64 rf] := hf 11 (by decide) (by decide) (by decide) (by kernel_rfl)
      simp only [e11] at hK ⊢
      refine wpOp_step rfl (fun K' hK' => ?_)
      go_simp
      exact hK' _ _ (hK _ _ rfl (Below.refl _ _))
    · exact (hnp rfl).elim
    · exact (hnq rfl).elim
  case hp5 =>
    intro vs W K hK
    simp only [fillF, Act.put, List.take_succ_cons, List.take_zero, List.setIfInBounds_toArray, List.set_cons_zero, List.set_cons_succ] at hK ⊢
    refine wpOp_step rfl (fun K' hK' => ?_)
    go_simp
    exact hK' _ _ hK
  case hq5 =>
    intro ls vs W K k hst ek hk hz hf hK
    simp only [fillF, Act.put, List.take_succ_cons, List.take_zero, List.setIfInBounds_toArray, List.set_cons_zero, List.set_cons_succ] at hK ⊢
    have e12 : vs 12 = .agg #[.int .i64 rk, .int .i64 ri, .int .u64 rb, .string rs] := hf 12 (by decide) (by decide) (by decide) (by kernel_rfl)
    simp only [e12] at hK ⊢
    simp only [ek] at hK ⊢
    obtain ⟨⟨p0, p1, p2, p3⟩, f0, f1, f2, f3⟩ := hz.four
    refine wpOp_step rfl (fun K' hK' => ?_)
    go_simp
    exact hK' _ _ (hK undef _ hz.set4 (below_set4 hst hk))
  intro ls2 vs2 W2 gV2 hst ek hk zV2 hf
  simp only [fillF, Act.put, List.take_succ_cons, List.take_zero, List.drop_succ_cons, List.drop_zero, List.setIfInBounds_toArray, List.set_cons_zero, List.set_cons_succ]
  have e13 : vs2 13 = .int .i64 rf := hf 13 (by decide) (by decide) (by decide)
  clear hf HOO HNX HNY HE2
  simp only [ek, e13]
  clear ek e13
  have hb07 := below_stepH hb06 hb06.size hst
  have zV3 := zV.call hst
  have hbT := below_stepH HW6.out HW6.out.size hst
  clear zX zY zH hst hk hb06 zV HW6
  generalize vs2 0 = k0
  generalize vs2 1 = k1
  generalize vs2 2 = k2
  generalize vs2 3 = k3
  generalize vs2 4 = k4
  generalize vs2 5 = k5
  generalize vs2 6 = k6
  generalize vs2 7 = k7
  generalize vs2 8 = k8
  generalize vs2 9 = k9
  generalize vs2 10 = k10
  generalize vs2 11 = k11
  generalize vs2 12 = k12
  generalize vs2 15 = k15
  go_upto_region 6 with fail
  go_wp2_with fail
  refine (HT.out _ hbT).mono ?_
  rintro e W3 ⟨rfl, hb8⟩
  have zA := zV3.call hb8
  have zB := zV2.call hb8
  have hb9 := below_stepH hb07 hb07.size hb8
  clear HT hbT hb8 zV3 zV2 hb07
  obtain ⟨p0, p1, p2, p3⟩ := zA.cell4
  obtain ⟨t0, t1, t2, t3⟩ := zB.cell4
  go_wp2_with fail
  go_ret
  exact ⟨by simp, hb9⟩
end Go.Proofs.YtablacloabpjfabGreatDoor
