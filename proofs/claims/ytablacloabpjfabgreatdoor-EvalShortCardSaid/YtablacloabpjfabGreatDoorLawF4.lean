/-
  THE WALK of the law 'chirographkeep.EvalShort': for every raw things, key and bad the law returns true.
  CONDITIONS: the raw things lie; the tables lie.
-/
import Derived.Test.YtablacloabpjfabGreatDoorGRow
import Derived.Test.YtablacloabpjfabGreatDoorGEve
import Derived.Test.YtablacloabpjfabGreatDoorTyZ
import Derived.Test.YtablacloabpjfabGreatDoorRegC
namespace Go.Proofs.YtablacloabpjfabGreatDoor
open Go.RowKit
set_option linter.unusedVariables false
set_option maxRecDepth 100000

theorem exprV_sevenS (t : T) (ao : Option Addr) (cap : Nat) : ∃ (xo xk xi xb : Int) (xs xm : ByteArray) (xl : Nat), exprV t ao cap = .agg #[.int .i64 xo, .int .i64 xk, .int .i64 xi, .int .u64 xb, .string xs, .string xm, .slice ao xl cap] := ⟨_, _, _, _, _, _, _, exprV_cells t ao cap⟩
theorem row_openS {S : HpS} {w w' : World} {v : Value} {vs : List Vl} (ho : OwnW w' w.heap.size v vs) (hr : RowOkL vs S.cs ∧ vs.length = S.cs.length) (hc : colsR S.cs = 0) :
    ∃ aor capr, v = .slice aor vs.length capr ∧ vs.length ≤ capr ∧ capr ≤ 9223372036854775807 ∧ Vals w' aor vs ∧ rowR vs S.cs = 0 := by
  obtain ⟨ao, cap, e, h1, h2, h3, _⟩ := OwnW.vals ho hr.1.fit
  exact ⟨ao, cap, e, h1, h2, h3, hr.1.row hr.2 hc⟩
theorem Blk.sevenFS {w : World} {b : Nat} {T : TypeId} {v0 v1 v2 v3 v4 v5 v6 : Value} (h : Blk w b T [v0, v1, v2, v3, v4, v5, v6]) : w.frozen? ⟨b, 0, none⟩ = false ∧ w.frozen? ⟨b, 1, none⟩ = false ∧ w.frozen? ⟨b, 2, none⟩ = false ∧ w.frozen? ⟨b, 3, none⟩ = false ∧ w.frozen? ⟨b, 4, none⟩ = false ∧ w.frozen? ⟨b, 5, none⟩ = false ∧ w.frozen? ⟨b, 6, none⟩ = false :=
  ⟨h.free 0, h.free 1, h.free 2, h.free 3, h.free 4, h.free 5, h.free 6⟩
theorem tyBoo (cs : List Cl) (n : Nat) (b : Int) (h0 : b = 0 ∨ b = 1) : Ty cs (n + 1) 1 (litT 1 b 0 []) := by
  rcases h0 with rfl | rfl
  · exact .inl (.inr ⟨1, 0, 0, [], .inl rfl, chkV_of 1 0 0 [] (by decide) (by decide) (by decide) (by simp [own, str_toList]) (by simp [good]), by decide, by decide, by decide, by decide, rfl⟩)
  · exact .inl (.inr ⟨1, 1, 0, [], .inl rfl, chkV_of 1 1 0 [] (by decide) (by decide) (by decide) (by simp [own, str_toList]) (by simp [good]), by decide, by decide, by decide, by decide, rfl⟩)
def badT : T := opN 9 [opN 8 [litT 2 1 0 [], litT 2 0 0 []], litT 2 1 0 []]
theorem ty_bad (cs : List Cl) : Ty cs 3 1 badT :=
  ty_op2 (op := 9) (.inr (.inr (.inr (.inl ⟨rfl, by decide, by decide, by decide⟩)))) (ty_op2 (op := 8) (.inr (.inl ⟨rfl, by decide, rfl⟩)) (tyNum cs 1 (by decide) (by decide)) (tyNum cs 0 (by decide) (by decide))) (Ty.more cs 1 2 _ (tyNum cs 1 (by decide) (by decide)))
theorem ev_bad (cs : List Cl) (row : List Vl) : evT cs row badT = badE 7 := by
  unfold badT
  rw [ev_op2 _ _ 9 (by decide), ev_op2 _ _ 8 (by decide)]
  rfl
def ShaF (yo yk yi yb : Int) (ys ym : ByteArray) (ay : Option Addr) (yl cy : Nat) (H : Nat) (aoc : Option Addr) (lc capc : Nat) (aor : Option Addr) (lr capr : Nat) (ty : T) : Array Bool → Nat → Value → World → Prop
  | _, 0, v, _ => v = .agg #[.int .i64 1, .int .i64 1, .int .i64 0, .int .u64 0, .string ⟨#[]⟩, .string ⟨#[]⟩, .slice none 0 0]
  | _, 1, v, _ => v = .agg #[.int .i64 yo, .int .i64 yk, .int .i64 yi, .int .u64 yb, .string ys, .string ym, .slice ay yl cy]
  | ls, 2, v, w => ls.getD 8 false = true ∨ ∃ k, v = .agg #[.int .i64 15, .int .i64 0, .int .i64 0, .int .u64 0, .string ⟨#[]⟩, .string ⟨#[]⟩, .slice (some ⟨k, 0, none⟩) 2 2] ∧ Hid (XT w (opN 15 [litT 1 0 0 [], ty]) (some ⟨k, 0, none⟩) 2)
  | _, 3, v, _ => v = .pointer (some ⟨H, 0, none⟩)
  | _, 4, v, _ => v = .pointer (some ⟨H, 0, none⟩)
  | _, 5, v, _ => v = .pointer (some ⟨H, 2, none⟩)
  | _, 6, v, _ => v = .slice aoc lc capc
  | _, 7, v, _ => v = .slice aor lr capr
  | _, 8, v, _ => v = .tuple #[.agg #[.int .i64 1, .int .i64 0, .int .u64 0, .string ⟨#[]⟩], .int .i64 0]
  | _, 9, v, _ => v = .tuple #[.agg #[.int .i64 1, .int .i64 0, .int .u64 0, .string ⟨#[]⟩], .int .i64 0]
  | _, 10, v, _ => v = .agg #[.int .i64 1, .int .i64 0, .int .u64 0, .string ⟨#[]⟩]
  | _, 11, v, _ => v = .int .i64 0
  | _, 12, _, _ => True
  | _, 13, _, _ => True
  | _, _, _, _ => True
def ShbF (yo yk yi yb : Int) (ys ym : ByteArray) (ay : Option Addr) (yl cy : Nat) (H : Nat) (aoc : Option Addr) (lc capc : Nat) (aor : Option Addr) (lr capr : Nat) (ty : T) : Array Bool → Nat → Value → World → Prop
  | _, 0, v, _ => v = .agg #[.int .i64 1, .int .i64 1, .int .i64 1, .int .u64 0, .string ⟨#[]⟩, .string ⟨#[]⟩, .slice none 0 0]
  | _, 1, v, _ => v = .agg #[.int .i64 yo, .int .i64 yk, .int .i64 yi, .int .u64 yb, .string ys, .string ym, .slice ay yl cy]
  | ls, 2, v, w => ls.getD 8 false = true ∨ ∃ k, v = .agg #[.int .i64 16, .int .i64 0, .int .i64 0, .int .u64 0, .string ⟨#[]⟩, .string ⟨#[]⟩, .slice (some ⟨k, 0, none⟩) 2 2] ∧ Hid (XT w (opN 16 [litT 1 1 0 [], ty]) (some ⟨k, 0, none⟩) 2)
  | _, 3, v, _ => v = .pointer (some ⟨H, 0, none⟩)
  | _, 4, v, _ => v = .pointer (some ⟨H, 0, none⟩)
  | _, 5, v, _ => v = .pointer (some ⟨H, 2, none⟩)
  | _, 6, v, _ => v = .slice aoc lc capc
  | _, 7, v, _ => v = .slice aor lr capr
  | _, 8, v, _ => v = .tuple #[.agg #[.int .i64 1, .int .i64 1, .int .u64 0, .string ⟨#[]⟩], .int .i64 0]
  | _, 9, v, _ => v = .tuple #[.agg #[.int .i64 1, .int .i64 1, .int .u64 0, .string ⟨#[]⟩], .int .i64 0]
  | _, 10, v, _ => v = .agg #[.int .i64 1, .int .i64 1, .int .u64 0, .string ⟨#[]⟩]
  | _, 11, v, _ => v = .int .i64 0
  | _, 12, _, _ => True
  | _, 13, _, _ => True
  | _, _, _, _ => True
def ShcF (yo yk yi yb : Int) (ys ym : ByteArray) (ay : Option Addr) (yl cy : Nat) (H : Nat) (aoc : Option Addr) (lc capc : Nat) (aor : Option Addr) (lr capr : Nat) (rk ri rb : Int) (rs : ByteArray) (rf : Int) (ty : T) : Array Bool → Nat → Value → World → Prop
  | _, 0, v, _ => v = .agg #[.int .i64 1, .int .i64 1, .int .i64 1, .int .u64 0, .string ⟨#[]⟩, .string ⟨#[]⟩, .slice none 0 0]
  | _, 1, v, _ => v = .agg #[.int .i64 yo, .int .i64 yk, .int .i64 yi, .int .u64 yb, .string ys, .string ym, .slice ay yl cy]
  | ls, 2, v, w => ls.getD 8 false = true ∨ ∃ k, v = .agg #[.int .i64 15, .int .i64 0, .int .i64 0, .int .u64 0, .string ⟨#[]⟩, .string ⟨#[]⟩, .slice (some ⟨k, 0, none⟩) 2 2] ∧ Hid (XT w (opN 15 [litT 1 1 0 [], ty]) (some ⟨k, 0, none⟩) 2)
  | _, 3, v, _ => v = .pointer (some ⟨H, 0, none⟩)
  | _, 4, v, _ => v = .pointer (some ⟨H, 0, none⟩)
  | _, 5, v, _ => v = .pointer (some ⟨H, 2, none⟩)
  | _, 6, v, _ => v = .slice aoc lc capc
  | _, 7, v, _ => v = .slice aor lr capr
  | _, 8, v, _ => v = .tuple #[.agg #[.int .i64 rk, .int .i64 ri, .int .u64 rb, .string rs], .int .i64 rf]
  | _, 9, v, _ => v = .tuple #[.agg #[.int .i64 rk, .int .i64 ri, .int .u64 rb, .string rs], .int .i64 rf]
  | _, 10, v, _ => v = .agg #[.int .i64 rk, .int .i64 ri, .int .u64 rb, .string rs]
  | _, 11, v, _ => v = .int .i64 rf
  | _, 12, _, _ => True
  | _, 13, _, _ => True
  | _, _, _, _ => True
set_option maxHeartbeats 16000000 in
theorem evalShort_walk (l : List R) (aol : Option Addr) (capl : Nat) (key : Int) (bad : Bool) (w : World) (hX : XEnv w) (hc : l.length ≤ capl) (hm : capl ≤ 9223372036854775807) (hx : Raws w aol l) (q0 : -9223372036854775808 ≤ key) (q1 : key ≤ 9223372036854775807) :
    Calls Tryz.prog 8 #[.slice aol l.length capl, .int .i64 key, .bool bad] w fun e w' => e = .returned (.bool true) ∧ Below w.heap.size w w' := by
  have cH := heapOf_any l aol capl w hx hc (by omega)
  obtain ⟨n, hn⟩ : ∃ n, l.length = n := ⟨_, rfl⟩
  rw [hn] at cH ⊢
  unfold HeapOk at cH
  have HX := Lib.hid hX
  have HKEY := Lib.hid (And.intro q0 q1)
  clear hx hn hc hm hX q0 q1
  go_enter Tryz.func8, Tryz.ntmps8
  go_wp2_with fail
  refine cH.mono ?_
  rintro e w1 ⟨S, H, rfl, HA, HS, HNM, HCP, HBL, hwH, hb1⟩
  have cX := fun n w hA hn => ex_any S H HS.out (fun c hc => by rw [HNM.out c hc]; decide) 3 (by decide) 1 n w (by decide) hA hn
  clear cH HBL
  unfold ExprPost at cX
  go_wp2_with fail
  refine (cX 0 w1 HA.out (by decide)).mono ?_
  rintro e w2 ⟨tx, ax, cx, m, rfl, HTX, hXX, HA2, hm2, hb2⟩
  obtain ⟨xo, xk, xi, xb, xs, xm, xl, hxv⟩ := exprV_sevenS tx ax cx
  rw [hxv]
  have hb02 : Below w.heap.size w w2 := below_hb hb1 hwH hb2
  have hX2 := hXX.out.mono (show H + 1 ≤ w1.heap.size from HA.out.lt)
  have hHg := HA2.out.lt
  clear cX hXX HA
  have zX := Blk.new w2 #[.int .i64 xo, .int .i64 xk, .int .i64 xi, .int .u64 xb, .string xs, .string xm, .slice ax xl cx] 27
  have hba := (Below.refl w2.heap.size w2).alloc (Nat.le_refl _) (.cells #[.int .i64 xo, .int .i64 xk, .int .i64 xi, .int .u64 xb, .string xs, .string xm, .slice ax xl cx] 27)
  have hX3 := hX2.below hba
  have hm15 : m ≤ 100000 := by omega
  go_upto_if 22 with fail
  generalize hw3 : w2.alloc (.cells #[.int .i64 xo, .int .i64 xk, .int .i64 xi, .int .u64 xb, .string xs, .string xm, .slice ax xl cx] 27) = w3 at *
  clear hw3
  have HB2 := Lib.hid hba
  have HZX := Lib.hid zX
  have HX3 := Lib.hid hX3
  have HXV := Lib.hid hxv
  have HM := Lib.hid hm15
  have HB02 := Lib.hid hb02
  have HGX : Hid (w2.heap.size ≤ w2.heap.size) := Lib.hid (Nat.le_refl _)
  clear hba zX hX3 hX2 hxv hm15 hm2 hb2 hb1 hb02
  go_cut [8] (fun x wx => ∃ (yo yk yi yb : Int) (ys ym : ByteArray) (ay : Option Addr) (yl cy : Nat) (ty : T), x = .pointer (some ⟨w2.heap.size, 0, none⟩) ∧ Hid (Blk wx w2.heap.size 27 [.int .i64 yo, .int .i64 yk, .int .i64 yi, .int .u64 yb, .string ys, .string ym, .slice ay yl cy]) ∧ Hid (Below w2.heap.size w2 wx) ∧ Hid (exprV ty ay cy = .agg #[.int .i64 yo, .int .i64 yk, .int .i64 yi, .int .u64 yb, .string ys, .string ym, .slice ay yl cy]) ∧ Hid (XTb (H + 1) wx ty ay cy) ∧ Hid (Ty S.cs 3 1 ty) ∧ Hid (bad = true → ∀ row, evT S.cs row ty = badE 7))
  case first =>
    cases bad
    · go_wp2_with fail
      go_meet
      exact ⟨_, _, _, _, _, _, _, _, _, tx, rfl, HZX, HB2, HXV, HX3, HTX, Lib.hid (fun h => by cases h)⟩
    · go_wp2_with fail
      refine (knum_any 1 w3).mono ?_
      rintro e W1 ⟨rfl, h1⟩
      go_wp2_with fail
      refine (knum_any 0 W1).mono ?_
      rintro e W2 ⟨rfl, h2⟩
      go_wp2_with fail
      have c1 := hop2 0 8 (w2.heap.size + 1) (by decide) (litT 2 1 0 []) (litT 2 0 0 []) none none 0 0 W2 (xt_num _ 1 (by decide)) (xt_num _ 0 (by decide)) (by have := HZX.out.lt; have := h1.size; have := h2.size; omega)
      refine c1.mono ?_
      rintro e W3 ⟨k, rfl, hT, h3⟩
      clear c1
      go_wp2_with fail
      refine (knum_any 1 W3).mono ?_
      rintro e W4 ⟨rfl, h4⟩
      go_wp2_with fail
      have c2 := hop2 0 9 (w2.heap.size + 1) (by decide) (opN 8 [litT 2 1 0 [], litT 2 0 0 []]) (litT 2 1 0 []) (some ⟨k, 0, none⟩) none 2 0 W4 (hT.out.below h4) (xt_num _ 1 (by decide)) (by have := HZX.out.lt; have := h1.size; have := h2.size; have := h3.size; have := h4.size; omega)
      refine c2.mono ?_
      rintro e W5 ⟨k2, rfl, hT2, h5⟩
      clear c2 hT
      have hg := HB2.out.size
      have hx := HZX.out.lt
      have b1 := below_stepH HB2.out HB2.out.size h1
      have b2 := below_stepH b1 b1.size h2
      have b3 := below_stepH b2 b2.size h3
      have b4 := below_stepH b3 b3.size h4
      have b5 := below_stepH b4 b4.size h5
      clear b1 b2 b3 b4
      have z5 := ((((HZX.out.call h1).call h2).call h3).call h4).call h5
      clear h1 h2 h3 h4 h5
      obtain ⟨f0, f1, f2, f3, f4, f5, f6⟩ := z5.sevenFS
      obtain ⟨p0, p1, p2, p3, p4, p5, p6⟩ := z5.cells7
      go_wp2_with fail
      go_meet
      exact ⟨_, _, _, _, _, _, _, _, _, badT, rfl, Lib.hid z5.set7, Lib.hid (below_set7 b5 (Nat.le_refl _)), Lib.hid rfl, Lib.hid ((hT2.out.set7 (Nat.lt_succ_self _)).mono (by omega)), Lib.hid (ty_bad _), Lib.hid (fun _ row => ev_bad _ row)⟩
  case rest =>
  obtain ⟨yo, yk, yi, yb, ys, ym, ay, yl, cy, ty, rfl, hZY, hBY, hYV, hYX, hTY, hBAD⟩ := hcut
  clear HZX HB2 HXV HX3 HTX
  have zY := hZY.out
  have hyv := hYV.out
  have hA4 := HA2.out.call hBY.out
  have hbs := hBY.out.size
  have hb04 := below_stepH HB02.out HB02.out.size hBY.out
  generalize w2.heap.size = gx at *
  have cR := row_h S H m key wc hA4 HS.out HM.out HKEY.out ⟨HCP.out.2.1, HCP.out.2.2⟩
  unfold RowPost at cR
  go_wp2_with fail
  refine cR.mono ?_
  rintro e w5 ⟨vr, vs, rfl, hO, hR, hA5, hb5⟩
  clear cR
  have hH4 := hA4.lt
  have hb05 : Below w.heap.size w w5 := below_hb hb04 hwH hb5
  have zY5 := zY.hb hb5 (by omega)
  have hy5 := hYX.out.hb (Nat.lt_succ_self _) hb5
  have zN := (Blk.new w5 #[.int .i64 1, .int .i64 1, .int .i64 0, .int .u64 0, .string ⟨#[]⟩, .string ⟨#[]⟩, .slice none 0 0] 27).alloc (.cells #[.int .i64 1, .int .i64 1, .int .i64 1, .int .u64 0, .string ⟨#[]⟩, .string ⟨#[]⟩, .slice none 0 0] 27)
  have zS := Blk.new (w5.alloc (.cells #[.int .i64 1, .int .i64 1, .int .i64 0, .int .u64 0, .string ⟨#[]⟩, .string ⟨#[]⟩, .slice none 0 0] 27)) #[.int .i64 1, .int .i64 1, .int .i64 1, .int .u64 0, .string ⟨#[]⟩, .string ⟨#[]⟩, .slice none 0 0] 27
  have hys : (w5.alloc (.cells #[.int .i64 1, .int .i64 1, .int .i64 0, .int .u64 0, .string ⟨#[]⟩, .string ⟨#[]⟩, .slice none 0 0] 27)).heap.size = w5.heap.size + 1 := by simp
  rw [hys] at zS
  have hba := ((Below.refl w5.heap.size w5).alloc (Nat.le_refl _) (.cells #[.int .i64 1, .int .i64 1, .int .i64 0, .int .u64 0, .string ⟨#[]⟩, .string ⟨#[]⟩, .slice none 0 0] 27)).alloc (by simp) (.cells #[.int .i64 1, .int .i64 1, .int .i64 1, .int .u64 0, .string ⟨#[]⟩, .string ⟨#[]⟩, .slice none 0 0] 27)
  have hcs5 : Cols w5 S.aoc S.cs := hA5.out.2.2.show
  have hc0 := HS.out.cols
  obtain ⟨hn1, hcc, hcm⟩ := HCP.out
  obtain ⟨aor, capr, rfl, hv1, hv2, hV5, hrow⟩ := row_openS hO.out hR.out hc0
  have zH5 := hA5.out.1
  clear hb5 hO hR hA5 hA4 HA2 hYX zY hn1 hH4
  go_upto_region 8 with fail
  generalize hw6 : (w5.alloc (.cells #[.int .i64 1, .int .i64 1, .int .i64 0, .int .u64 0, .string ⟨#[]⟩, .string ⟨#[]⟩, .slice none 0 0] 27)).alloc (.cells #[.int .i64 1, .int .i64 1, .int .i64 1, .int .u64 0, .string ⟨#[]⟩, .string ⟨#[]⟩, .slice none 0 0] 27) = w6 at *
  have hb06 := below_stepH hb05 hb05.size hba
  have X6 := HX.out.keep hb06
  have zY := zY5.call hba
  have zH := zH5.call hba
  have hcs := hcs5.keep hba
  have hV := hV5.keep hba
  have hy6 := (hy5.below hba).show
  clear hw6 hys zY5 zH5 hcs5 hV5 hy5 hba hb05
  generalize w5.heap.size = gn at *
  have hT1 := ty_op2 (op := 15) (.inr (.inr (.inl ⟨rfl, .inl rfl, rfl⟩))) (tyBoo S.cs 2 0 (.inl rfl)) hTY.out
  have hT2 := ty_op2 (op := 16) (.inr (.inr (.inl ⟨rfl, .inr rfl, rfl⟩))) (tyBoo S.cs 2 1 (.inr rfl)) hTY.out
  have hT3 := ty_op2 (op := 15) (.inr (.inr (.inl ⟨rfl, .inl rfl, rfl⟩))) (tyBoo S.cs 2 1 (.inr rfl)) hTY.out
  have e1 : evalR (opN 15 [litT 1 0 0 [], ty]) S.cs vs = okE (booV false) := by
    rw [evalR_ok _ _ _ (ty_expr hc0 4 (by decide) 1 _ (by decide) hT1) hrow, ev_op2 _ _ 15 (by decide)]
    exact ev_short_and _
  have e2 : evalR (opN 16 [litT 1 1 0 [], ty]) S.cs vs = okE (booV true) := by
    rw [evalR_ok _ _ _ (ty_expr hc0 4 (by decide) 1 _ (by decide) hT2) hrow, ev_op2 _ _ 16 (by decide)]
    exact ev_short_or _
  obtain ⟨R, e3⟩ : ∃ R, evalR (opN 15 [litT 1 1 0 [], ty]) S.cs vs = R := ⟨_, rfl⟩
  have hG : bad = true → R.f = 7 := fun h => by
    rw [← e3, evalR_ok _ _ _ (ty_expr hc0 4 (by decide) 1 _ (by decide) hT3) hrow, ev_op2 _ _ 15 (by decide), hBAD.out h vs]
    rfl
  obtain ⟨⟨rk, ri, rb, rsl⟩, rf⟩ := R
  have HG : Hid (bad = true → rf = 7) := Lib.hid hG
  have HE1 : Hid (∀ W k, Below w6.heap.size w6 W → XT W (opN 15 [litT 1 0 0 [], ty]) (some ⟨k, 0, none⟩) 2 → Calls Tryz.prog 20 #[.agg #[.int .i64 15, .int .i64 0, .int .i64 0, .int .u64 0, .string ⟨#[]⟩, .string ⟨#[]⟩, .slice (some ⟨k, 0, none⟩) 2 2], .slice S.aoc S.cs.length S.capc, .slice aor vs.length capr] W fun e w' => e = .returned (.tuple #[.agg #[.int .i64 1, .int .i64 0, .int .u64 0, .string ⟨#[]⟩], .int .i64 0]) ∧ Below W.heap.size W w') := Lib.hid (fun W k hW hT => by
    have := eval_any (opN 15 [litT 1 0 0 [], ty]) (some ⟨k, 0, none⟩) 2 S.cs S.aoc S.capc vs aor capr W ⟨hT.A, hT.n1, hT.n2, hcs.keep hW, hcc, hcm, hV.keep hW, hv1, hv2, X6.keep hW⟩
    rw [e1] at this
    exact this)
  have HE2 : Hid (∀ W k, Below w6.heap.size w6 W → XT W (opN 16 [litT 1 1 0 [], ty]) (some ⟨k, 0, none⟩) 2 → Calls Tryz.prog 20 #[.agg #[.int .i64 16, .int .i64 0, .int .i64 0, .int .u64 0, .string ⟨#[]⟩, .string ⟨#[]⟩, .slice (some ⟨k, 0, none⟩) 2 2], .slice S.aoc S.cs.length S.capc, .slice aor vs.length capr] W fun e w' => e = .returned (.tuple #[.agg #[.int .i64 1, .int .i64 1, .int .u64 0, .string ⟨#[]⟩], .int .i64 0]) ∧ Below W.heap.size W w') := Lib.hid (fun W k hW hT => by
    have := eval_any (opN 16 [litT 1 1 0 [], ty]) (some ⟨k, 0, none⟩) 2 S.cs S.aoc S.capc vs aor capr W ⟨hT.A, hT.n1, hT.n2, hcs.keep hW, hcc, hcm, hV.keep hW, hv1, hv2, X6.keep hW⟩
    rw [e2] at this
    exact this)
  have HE3 : Hid (∀ W k, Below w6.heap.size w6 W → XT W (opN 15 [litT 1 1 0 [], ty]) (some ⟨k, 0, none⟩) 2 → Calls Tryz.prog 20 #[.agg #[.int .i64 15, .int .i64 0, .int .i64 0, .int .u64 0, .string ⟨#[]⟩, .string ⟨#[]⟩, .slice (some ⟨k, 0, none⟩) 2 2], .slice S.aoc S.cs.length S.capc, .slice aor vs.length capr] W fun e w' => e = .returned (.tuple #[.agg #[.int .i64 rk, .int .i64 ri, .int .u64 rb, .string (str rsl)], .int .i64 rf]) ∧ Below W.heap.size W w') := Lib.hid (fun W k hW hT => by
    have := eval_any (opN 15 [litT 1 1 0 [], ty]) (some ⟨k, 0, none⟩) 2 S.cs S.aoc S.capc vs aor capr W ⟨hT.A, hT.n1, hT.n2, hcs.keep hW, hcc, hcm, hV.keep hW, hv1, hv2, X6.keep hW⟩
    rw [e3] at this
    exact this)
  have fN : FitN ⟨1, 1, 0, 0, [], []⟩ := fit_lit 1 0 0 [] (by decide) (by decide) (by decide) (by decide)
  have fY : FitN ⟨1, 1, 1, 0, [], []⟩ := fit_lit 1 1 0 [] (by decide) (by decide) (by decide) (by decide)
  have HO1 : Hid (∀ W, Below w6.heap.size w6 W → Calls Tryz.prog 24 #[.int .i64 15, .agg #[.int .i64 1, .int .i64 1, .int .i64 0, .int .u64 0, .string ⟨#[]⟩, .string ⟨#[]⟩, .slice none 0 0], .agg #[.int .i64 yo, .int .i64 yk, .int .i64 yi, .int .u64 yb, .string ys, .string ym, .slice ay yl cy]] W (Op2Ok 15 (litT 1 0 0 []) ty W)) := Lib.hid (fun W hW => by
    have := op2_lit 15 (by decide) (litT 1 0 0 []) ty none ay 0 cy W (xt_leaf W _ fN) (hy6.keep hW)
    rw [hyv] at this; exact this)
  have HO2 : Hid (∀ W, Below w6.heap.size w6 W → Calls Tryz.prog 24 #[.int .i64 16, .agg #[.int .i64 1, .int .i64 1, .int .i64 1, .int .u64 0, .string ⟨#[]⟩, .string ⟨#[]⟩, .slice none 0 0], .agg #[.int .i64 yo, .int .i64 yk, .int .i64 yi, .int .u64 yb, .string ys, .string ym, .slice ay yl cy]] W (Op2Ok 16 (litT 1 1 0 []) ty W)) := Lib.hid (fun W hW => by
    have := op2_lit 16 (by decide) (litT 1 1 0 []) ty none ay 0 cy W (xt_leaf W _ fY) (hy6.keep hW)
    rw [hyv] at this; exact this)
  have HO3 : Hid (∀ W, Below w6.heap.size w6 W → Calls Tryz.prog 24 #[.int .i64 15, .agg #[.int .i64 1, .int .i64 1, .int .i64 1, .int .u64 0, .string ⟨#[]⟩, .string ⟨#[]⟩, .slice none 0 0], .agg #[.int .i64 yo, .int .i64 yk, .int .i64 yi, .int .u64 yb, .string ys, .string ym, .slice ay yl cy]] W (Op2Ok 15 (litT 1 1 0 []) ty W)) := Lib.hid (fun W hW => by
    have := op2_lit 15 (by decide) (litT 1 1 0 []) ty none ay 0 cy W (xt_leaf W _ fY) (hy6.keep hW)
    rw [hyv] at this; exact this)
  generalize hrs : str rsl = rs at *
  clear hrs hyv hYV hT1 hT2 hT3 e1 e2 e3 hG fN fY hcs hc0 hV hrow X6 hTY hBAD hv1 hv2 hcc hcm hy6 HX HM HB02 HKEY HCP HS HNM
  unfold Op2Ok at HO1 HO2 HO3
  obtain ⟨aol2, capl2, l2, aoc, capc, cs⟩ := S
  simp only at *
  generalize cs.length = lc at *
  generalize vs.length = lr at *
  refine wp_region_cell 14 12 13 (by kernel_rfl) (by kernel_rfl) (by kernel_rfl) 24 [.int .i64 0, .int .i64 0, .int .u64 0, .string ⟨#[]⟩] [.int .i64 1, .int .i64 0, .int .u64 0, .string ⟨#[]⟩] (ShaF yo yk yi yb ys ym ay yl cy H aoc lc capc aor lr capr ty) ?hF8 ?hQ8 ?hstep8 ?hp8 ?hq8 ?hdone8
  case hF8 =>
    intro ls i j v W W' hi hiq hji hun hb h
    match j, h with
    | 0, h => exact h
    | 1, h => exact h
    | 2, h =>
      rcases h with h | ⟨k, h1, h2⟩
      · exact .inl (getD_put_true h)
      · exact .inr ⟨k, h1, Lib.hid (h2.out.keep hb)⟩
    | 3, h => exact h
    | 4, h => exact h
    | 5, h => exact h
    | 6, h => exact h
    | 7, h => exact h
    | 8, h => exact h
    | 9, h => exact h
    | 10, h => exact h
    | 11, h => exact h
    | 12, h => exact h
    | 13, h => exact h
    | j + 14, h => exact h
  case hQ8 =>
    intro ls j v W W' hcl hd h
    match j, h with
    | 0, h => exact h
    | 1, h => exact h
    | 2, h => exact .inl (getD_put_true (hcl 9 8 (hcl 10 9 (hd 10 (by kernel_rfl)) (by kernel_rfl)) (by kernel_rfl)))
    | 3, h => exact h
    | 4, h => exact h
    | 5, h => exact h
    | 6, h => exact h
    | 7, h => exact h
    | 8, h => exact h
    | 9, h => exact h
    | 10, h => exact h
    | 11, h => exact h
    | 12, h => exact h
    | 13, h => exact h
    | j + 14, h => exact h
  case hstep8 =>
    intro j hj hnp hnq ls vs W K hst hf hK hcl hd hun
    simp only [fillF, Act.put, List.take_succ_cons, List.take_zero, List.setIfInBounds_toArray, List.set_cons_zero, List.set_cons_succ] at hK ⊢
    obtain ⟨q0, q1, q2, q3, q4, q5, q6⟩ := (zN.call hst).cells7
    obtain ⟨u0, u1, u2, u3, u4, u5, u6⟩ := (zY.call hst).cells7
    obtain ⟨⟨c0, c1, c2⟩, _⟩ := (zH.call hst).three
    rcases (show j = 0 ∨ j = 1 ∨ j = 2 ∨ j = 3 ∨ j = 4 ∨ j = 5 ∨ j = 6 ∨ j = 7 ∨ j = 8 ∨ j = 9 ∨ j = 10 ∨ j = 11 ∨ j = 12 ∨ j = 13 by omega) with rfl | rfl | rfl | rfl | rfl | rfl | rfl | rfl | rfl | rfl | rfl | rfl | rfl | rfl
    · refine wpOp_step rfl (fun K' hK' => ?_)
      go_simp
      exact hK' _ _ (hK _ _ rfl (Below.refl _ _))
    · refine wpOp_step rfl (fun K' hK' => ?_)
      go_simp
      exact hK' _ _ (hK _ _ rfl (Below.refl _ _))
    · have e0 : vs 0 = .agg #[.int .i64 1, .int .i64 1, .int .i64 0, .int .u64 0, .string ⟨#[]⟩, .string ⟨#[]⟩, .slice none 0 0] := hf 0 (by decide) (by decide) (by decide) (by kernel_rfl)
      have e1 : vs 1 = .agg #[.int .i64 yo, .int .i64 yk, .int .i64 yi, .int .u64 yb, .string ys, .string ym, .slice ay yl cy] := hf 1 (by decide) (by decide) (by decide) (by kernel_rfl)
      simp only [e0, e1] at hK ⊢
      refine wpOp_step rfl (fun K' hK' => ?_)
      go_simp
      refine (HO1.out W hst).mono ?_
      rintro e W' ⟨k, rfl, hT, hbc⟩
      go_simp
      exact hK' _ _ (hK _ _ (.inr ⟨k, rfl, hT⟩) hbc)
    · refine wpOp_step rfl (fun K' hK' => ?_)
      go_simp
      exact hK' _ _ (hK _ _ rfl (Below.refl _ _))
    · have e3 : vs 3 = .pointer (some ⟨H, 0, none⟩) := hf 3 (by decide) (by decide) (by decide) (by kernel_rfl)
      simp only [e3] at hK ⊢
      refine wpOp_step rfl (fun K' hK' => ?_)
      go_simp
      exact hK' _ _ (hK _ _ rfl (Below.refl _ _))
    · have e4 : vs 4 = .pointer (some ⟨H, 0, none⟩) := hf 4 (by decide) (by decide) (by decide) (by kernel_rfl)
      simp only [e4] at hK ⊢
      refine wpOp_step rfl (fun K' hK' => ?_)
      go_simp
      exact hK' _ _ (hK _ _ rfl (Below.refl _ _))
    · have e5 : vs 5 = .pointer (some ⟨H, 2, none⟩) := hf 5 (by decide) (by decide) (by decide) (by kernel_rfl)
      simp only [e5] at hK ⊢
      refine wpOp_step rfl (fun K' hK' => ?_)
      go_simp
      exact hK' _ _ (hK _ _ rfl (Below.refl _ _))
    · refine wpOp_step rfl (fun K' hK' => ?_)
      go_simp
      exact hK' _ _ (hK _ _ rfl (Below.refl _ _))
    · obtain ⟨k2, e2, y2⟩ := (hf 2 (by decide) (by decide) (by decide) (by kernel_rfl)).resolve_left (fun hh => by rw [hun] at hh; cases hh)
      have e6 : vs 6 = .slice aoc lc capc := hf 6 (by decide) (by decide) (by decide) (by kernel_rfl)
      have e7 : vs 7 = .slice aor lr capr := hf 7 (by decide) (by decide) (by decide) (by kernel_rfl)
      simp only [e2, e6, e7] at hK ⊢
      refine wpOp_step rfl (fun K' hK' => ?_)
      go_simp
      refine (HE1.out W k2 hst y2.out).mono ?_
      rintro e W' ⟨rfl, hbc⟩
      go_simp
      exact hK' _ _ (hK _ _ rfl hbc)
    · have e8 : vs 8 = .tuple #[.agg #[.int .i64 1, .int .i64 0, .int .u64 0, .string ⟨#[]⟩], .int .i64 0] := hf 8 (by decide) (by decide) (by decide) (by kernel_rfl)
      simp only [e8] at hK ⊢
      refine wpOp_step rfl (fun K' hK' => ?_)
      go_simp
      exact hK' _ _ (hK _ _ rfl (Below.refl _ _))
    · have e9 : vs 9 = .tuple #[.agg #[.int .i64 1, .int .i64 0, .int .u64 0, .string ⟨#[]⟩], .int .i64 0] := hf 9 (by decide) (by decide) (by decide) (by kernel_rfl)
      simp only [e9] at hK ⊢
      refine wpOp_step rfl (fun K' hK' => ?_)
      go_simp
      exact hK' _ _ (hK _ _ rfl (Below.refl _ _))
    · have e9 : vs 9 = .tuple #[.agg #[.int .i64 1, .int .i64 0, .int .u64 0, .string ⟨#[]⟩], .int .i64 0] := hf 9 (by decide) (by decide) (by decide) (by kernel_rfl)
      simp only [e9] at hK ⊢
      refine wpOp_step rfl (fun K' hK' => ?_)
      go_simp
      exact hK' _ _ (hK _ _ rfl (Below.refl _ _))
    · exact (hnp rfl).elim
    · exact (hnq rfl).elim
  case hp8 =>
    intro vs W K hK
    simp only [fillF, Act.put, List.take_succ_cons, List.take_zero, List.setIfInBounds_toArray, List.set_cons_zero, List.set_cons_succ] at hK ⊢
    refine wpOp_step rfl (fun K' hK' => ?_)
    go_simp
    exact hK' _ _ hK
  case hq8 =>
    intro ls vs W K k hst ek hk hz hf hK
    simp only [fillF, Act.put, List.take_succ_cons, List.take_zero, List.setIfInBounds_toArray, List.set_cons_zero, List.set_cons_succ] at hK ⊢
    have e10 : vs 10 = .agg #[.int .i64 1, .int .i64 0, .int .u64 0, .string ⟨#[]⟩] := hf 10 (by decide) (by decide) (by decide) (by kernel_rfl)
    simp only [e10] at hK ⊢
    simp only [ek] at hK ⊢
    obtain ⟨⟨p0, p1, p2, p3⟩, f0, f1, f2, f3⟩ := hz.four
    refine wpOp_step rfl (fun K' hK' => ?_)
    go_simp
    exact hK' _ _ (hK undef _ hz.set4 (below_set4 hst hk))
  intro ls8 vs8 W8 gV8 hst ek hk zV8 hf
  simp only [fillF, Act.put, List.take_succ_cons, List.take_zero, List.drop_succ_cons, List.drop_zero, List.setIfInBounds_toArray, List.set_cons_zero, List.set_cons_succ]
  have e11 : vs8 11 = .int .i64 0 := hf 11 (by decide) (by decide) (by decide)
  clear hf HO1 HE1
  simp only [ek, e11]
  clear ek e11
  generalize vs8 0 = y0
  generalize vs8 1 = y1
  generalize vs8 2 = y2
  generalize vs8 3 = y3
  generalize vs8 4 = y4
  generalize vs8 5 = y5
  generalize vs8 6 = y6
  generalize vs8 7 = y7
  generalize vs8 8 = y8
  generalize vs8 9 = y9
  generalize vs8 10 = y10
  generalize vs8 13 = y13
  have hb07 := below_stepH hb06 hb06.size hst
  have zY6 := zY.call hst
  have zH6 := zH.call hst
  have zN6 := zN.call hst
  have zS6 := zS.call hst
  have HW6 := Lib.hid hst
  clear zY zH zN zS hst hk hb06
  have zY := zY6
  have zH := zH6
  have zN := zN6
  have zS := zS6
  clear zY6 zH6 zN6 zS6
  go_upto_region 9 with fail
  refine wp_region_cell 14 12 13 (by kernel_rfl) (by kernel_rfl) (by kernel_rfl) 24 [.int .i64 0, .int .i64 0, .int .u64 0, .string ⟨#[]⟩] [.int .i64 1, .int .i64 1, .int .u64 0, .string ⟨#[]⟩] (ShbF yo yk yi yb ys ym ay yl cy H aoc lc capc aor lr capr ty) ?hF9 ?hQ9 ?hstep9 ?hp9 ?hq9 ?hdone9
  case hF9 =>
    intro ls i j v W W' hi hiq hji hun hb h
    match j, h with
    | 0, h => exact h
    | 1, h => exact h
    | 2, h =>
      rcases h with h | ⟨k, h1, h2⟩
      · exact .inl (getD_put_true h)
      · exact .inr ⟨k, h1, Lib.hid (h2.out.keep hb)⟩
    | 3, h => exact h
    | 4, h => exact h
    | 5, h => exact h
    | 6, h => exact h
    | 7, h => exact h
    | 8, h => exact h
    | 9, h => exact h
    | 10, h => exact h
    | 11, h => exact h
    | 12, h => exact h
    | 13, h => exact h
    | j + 14, h => exact h
  case hQ9 =>
    intro ls j v W W' hcl hd h
    match j, h with
    | 0, h => exact h
    | 1, h => exact h
    | 2, h => exact .inl (getD_put_true (hcl 9 8 (hcl 10 9 (hd 10 (by kernel_rfl)) (by kernel_rfl)) (by kernel_rfl)))
    | 3, h => exact h
    | 4, h => exact h
    | 5, h => exact h
    | 6, h => exact h
    | 7, h => exact h
    | 8, h => exact h
    | 9, h => exact h
    | 10, h => exact h
    | 11, h => exact h
    | 12, h => exact h
    | 13, h => exact h
    | j + 14, h => exact h
  case hstep9 =>
    intro j hj hnp hnq ls vs W K hst hf hK hcl hd hun
    simp only [fillF, Act.put, List.take_succ_cons, List.take_zero, List.setIfInBounds_toArray, List.set_cons_zero, List.set_cons_succ] at hK ⊢
    obtain ⟨q0, q1, q2, q3, q4, q5, q6⟩ := (zS.call hst).cells7
    obtain ⟨u0, u1, u2, u3, u4, u5, u6⟩ := (zY.call hst).cells7
    obtain ⟨⟨c0, c1, c2⟩, _⟩ := (zH.call hst).three
    rcases (show j = 0 ∨ j = 1 ∨ j = 2 ∨ j = 3 ∨ j = 4 ∨ j = 5 ∨ j = 6 ∨ j = 7 ∨ j = 8 ∨ j = 9 ∨ j = 10 ∨ j = 11 ∨ j = 12 ∨ j = 13 by omega) with rfl | rfl | rfl | rfl | rfl | rfl | rfl | rfl | rfl | rfl | rfl | rfl | rfl | rfl
    · refine wpOp_step rfl (fun K' hK' => ?_)
      go_simp
      exact hK' _ _ (hK _ _ rfl (Below.refl _ _))
    · refine wpOp_step rfl (fun K' hK' => ?_)
      go_simp
      exact hK' _ _ (hK _ _ rfl (Below.refl _ _))
    · have e0 : vs 0 = .agg #[.int .i64 1, .int .i64 1, .int .i64 1, .int .u64 0, .string ⟨#[]⟩, .string ⟨#[]⟩, .slice none 0 0] := hf 0 (by decide) (by decide) (by decide) (by kernel_rfl)
      have e1 : vs 1 = .agg #[.int .i64 yo, .int .i64 yk, .int .i64 yi, .int .u64 yb, .string ys, .string ym, .slice ay yl cy] := hf 1 (by decide) (by decide) (by decide) (by kernel_rfl)
      simp only [e0, e1] at hK ⊢
      refine wpOp_step rfl (fun K' hK' => ?_)
      go_simp
      refine (HO2.out W (below_stepH HW6.out HW6.out.size hst)).mono ?_
      rintro e W' ⟨k, rfl, hT, hbc⟩
      go_simp
      exact hK' _ _ (hK _ _ (.inr ⟨k, rfl, hT⟩) hbc)
    · refine wpOp_step rfl (fun K' hK' => ?_)
      go_simp
      exact hK' _ _ (hK _ _ rfl (Below.refl _ _))
    · have e3 : vs 3 = .pointer (some ⟨H, 0, none⟩) := hf 3 (by decide) (by decide) (by decide) (by kernel_rfl)
      simp only [e3] at hK ⊢
      refine wpOp_step rfl (fun K' hK' => ?_)
      go_simp
      exact hK' _ _ (hK _ _ rfl (Below.refl _ _))
    · have e4 : vs 4 = .pointer (some ⟨H, 0, none⟩) := hf 4 (by decide) (by decide) (by decide) (by kernel_rfl)
      simp only [e4] at hK ⊢
      refine wpOp_step rfl (fun K' hK' => ?_)
      go_simp
      exact hK' _ _ (hK _ _ rfl (Below.refl _ _))
    · have e5 : vs 5 = .pointer (some ⟨H, 2, none⟩) := hf 5 (by decide) (by decide) (by decide) (by kernel_rfl)
      simp only [e5] at hK ⊢
      refine wpOp_step rfl (fun K' hK' => ?_)
      go_simp
      exact hK' _ _ (hK _ _ rfl (Below.refl _ _))
    · refine wpOp_step rfl (fun K' hK' => ?_)
      go_simp
      exact hK' _ _ (hK _ _ rfl (Below.refl _ _))
    · obtain ⟨k2, e2, y2⟩ := (hf 2 (by decide) (by decide) (by decide) (by kernel_rfl)).resolve_left (fun hh => by rw [hun] at hh; cases hh)
      have e6 : vs 6 = .slice aoc lc capc := hf 6 (by decide) (by decide) (by decide) (by kernel_rfl)
      have e7 : vs 7 = .slice aor lr capr := hf 7 (by decide) (by decide) (by decide) (by kernel_rfl)
      simp only [e2, e6, e7] at hK ⊢
      refine wpOp_step rfl (fun K' hK' => ?_)
      go_simp
      refine (HE2.out W k2 (below_stepH HW6.out HW6.out.size hst) y2.out).mono ?_
      rintro e W' ⟨rfl, hbc⟩
      go_simp
      exact hK' _ _ (hK _ _ rfl hbc)
    · have e8 : vs 8 = .tuple #[.agg #[.int .i64 1, .int .i64 1, .int .u64 0, .string ⟨#[]⟩], .int .i64 0] := hf 8 (by decide) (by decide) (by decide) (by kernel_rfl)
      simp only [e8] at hK ⊢
      refine wpOp_step rfl (fun K' hK' => ?_)
      go_simp
      exact hK' _ _ (hK _ _ rfl (Below.refl _ _))
    · have e9 : vs 9 = .tuple #[.agg #[.int .i64 1, .int .i64 1, .int .u64 0, .string ⟨#[]⟩], .int .i64 0] := hf 9 (by decide) (by decide) (by decide) (by kernel_rfl)
      simp only [e9] at hK ⊢
      refine wpOp_step rfl (fun K' hK' => ?_)
      go_simp
      exact hK' _ _ (hK _ _ rfl (Below.refl _ _))
    · have e9 : vs 9 = .tuple #[.agg #[.int .i64 1, .int .i64 1, .int .u64 0, .string ⟨#[]⟩], .int .i64 0] := hf 9 (by decide) (by decide) (by decide) (by kernel_rfl)
      simp only [e9] at hK ⊢
      refine wpOp_step rfl (fun K' hK' => ?_)
      go_simp
      exact hK' _ _ (hK _ _ rfl (Below.refl _ _))
    · exact (hnp rfl).elim
    · exact (hnq rfl).elim
  case hp9 =>
    intro vs W K hK
    simp only [fillF, Act.put, List.take_succ_cons, List.take_zero, List.setIfInBounds_toArray, List.set_cons_zero, List.set_cons_succ] at hK ⊢
    refine wpOp_step rfl (fun K' hK' => ?_)
    go_simp
    exact hK' _ _ hK
  case hq9 =>
    intro ls vs W K k hst ek hk hz hf hK
    simp only [fillF, Act.put, List.take_succ_cons, List.take_zero, List.setIfInBounds_toArray, List.set_cons_zero, List.set_cons_succ] at hK ⊢
    have e10 : vs 10 = .agg #[.int .i64 1, .int .i64 1, .int .u64 0, .string ⟨#[]⟩] := hf 10 (by decide) (by decide) (by decide) (by kernel_rfl)
    simp only [e10] at hK ⊢
    simp only [ek] at hK ⊢
    obtain ⟨⟨p0, p1, p2, p3⟩, f0, f1, f2, f3⟩ := hz.four
    refine wpOp_step rfl (fun K' hK' => ?_)
    go_simp
    exact hK' _ _ (hK undef _ hz.set4 (below_set4 hst hk))
  intro ls9 vs9 W9 gV9 hst ek hk zV9 hf
  simp only [fillF, Act.put, List.take_succ_cons, List.take_zero, List.drop_succ_cons, List.drop_zero, List.setIfInBounds_toArray, List.set_cons_zero, List.set_cons_succ]
  have e11 : vs9 11 = .int .i64 0 := hf 11 (by decide) (by decide) (by decide)
  clear hf HO2 HE2
  simp only [ek, e11]
  clear ek e11
  generalize vs9 0 = z0
  generalize vs9 1 = z1
  generalize vs9 2 = z2
  generalize vs9 3 = z3
  generalize vs9 4 = z4
  generalize vs9 5 = z5
  generalize vs9 6 = z6
  generalize vs9 7 = z7
  generalize vs9 8 = z8
  generalize vs9 9 = z9
  generalize vs9 10 = z10
  generalize vs9 13 = z13
  have hb08 := below_stepH hb07 hb07.size hst
  have zV8b := zV8.call hst
  have zY6 := zY.call hst
  have zH6 := zH.call hst
  have zN6 := zN.call hst
  have zS6 := zS.call hst
  have HW7 := Lib.hid (below_stepH HW6.out HW6.out.size hst)
  clear zY zH zN zS hst hk hb07 HW6 zV8
  have zY := zY6
  have zH := zH6
  have zN := zN6
  have zS := zS6
  have zV8 := zV8b
  clear zY6 zH6 zN6 zS6 zV8b
  go_upto_region 10 with fail
  refine wp_region_cell 14 12 13 (by kernel_rfl) (by kernel_rfl) (by kernel_rfl) 24 [.int .i64 0, .int .i64 0, .int .u64 0, .string ⟨#[]⟩] [.int .i64 rk, .int .i64 ri, .int .u64 rb, .string rs] (ShcF yo yk yi yb ys ym ay yl cy H aoc lc capc aor lr capr rk ri rb rs rf ty) ?hF10 ?hQ10 ?hstep10 ?hp10 ?hq10 ?hdone10
  case hF10 =>
    intro ls i j v W W' hi hiq hji hun hb h
    match j, h with
    | 0, h => exact h
    | 1, h => exact h
    | 2, h =>
      rcases h with h | ⟨k, h1, h2⟩
      · exact .inl (getD_put_true h)
      · exact .inr ⟨k, h1, Lib.hid (h2.out.keep hb)⟩
    | 3, h => exact h
    | 4, h => exact h
    | 5, h => exact h
    | 6, h => exact h
    | 7, h => exact h
    | 8, h => exact h
    | 9, h => exact h
    | 10, h => exact h
    | 11, h => exact h
    | 12, h => exact h
    | 13, h => exact h
    | j + 14, h => exact h
  case hQ10 =>
    intro ls j v W W' hcl hd h
    match j, h with
    | 0, h => exact h
    | 1, h => exact h
    | 2, h => exact .inl (getD_put_true (hcl 9 8 (hcl 10 9 (hd 10 (by kernel_rfl)) (by kernel_rfl)) (by kernel_rfl)))
    | 3, h => exact h
    | 4, h => exact h
    | 5, h => exact h
    | 6, h => exact h
    | 7, h => exact h
    | 8, h => exact h
    | 9, h => exact h
    | 10, h => exact h
    | 11, h => exact h
    | 12, h => exact h
    | 13, h => exact h
    | j + 14, h => exact h
  case hstep10 =>
    intro j hj hnp hnq ls vs W K hst hf hK hcl hd hun
    simp only [fillF, Act.put, List.take_succ_cons, List.take_zero, List.setIfInBounds_toArray, List.set_cons_zero, List.set_cons_succ] at hK ⊢
    obtain ⟨q0, q1, q2, q3, q4, q5, q6⟩ := (zS.call hst).cells7
    obtain ⟨u0, u1, u2, u3, u4, u5, u6⟩ := (zY.call hst).cells7
    obtain ⟨⟨c0, c1, c2⟩, _⟩ := (zH.call hst).three
    rcases (show j = 0 ∨ j = 1 ∨ j = 2 ∨ j = 3 ∨ j = 4 ∨ j = 5 ∨ j = 6 ∨ j = 7 ∨ j = 8 ∨ j = 9 ∨ j = 10 ∨ j = 11 ∨ j = 12 ∨ j = 13 by omega) with rfl | rfl | rfl | rfl | rfl | rfl | rfl | rfl | rfl | rfl | rfl | rfl | rfl | rfl
    · refine wpOp_step rfl (fun K' hK' => ?_)
      go_simp
      exact hK' _ _ (hK _ _ rfl (Below.refl _ _))
    · refine wpOp_step rfl (fun K' hK' => ?_)
      go_simp
      exact hK' _ _ (hK _ _ rfl (Below.refl _ _))
    · have e0 : vs 0 = .agg #[.int .i64 1, .int .i64 1, .int .i64 1, .int .u64 0, .string ⟨#[]⟩, .string ⟨#[]⟩, .slice none 0 0] := hf 0 (by decide) (by decide) (by decide) (by kernel_rfl)
      have e1 : vs 1 = .agg #[.int .i64 yo, .int .i64 yk, .int .i64 yi, .int .u64 yb, .string ys, .string ym, .slice ay yl cy] := hf 1 (by decide) (by decide) (by decide) (by kernel_rfl)
      simp only [e0, e1] at hK ⊢
      refine wpOp_step rfl (fun K' hK' => ?_)
      go_simp
      refine (HO3.out W (below_stepH HW7.out HW7.out.size hst)).mono ?_
      rintro e W' ⟨k, rfl, hT, hbc⟩
      go_simp
      exact hK' _ _ (hK _ _ (.inr ⟨k, rfl, hT⟩) hbc)
    · refine wpOp_step rfl (fun K' hK' => ?_)
      go_simp
      exact hK' _ _ (hK _ _ rfl (Below.refl _ _))
    · have e3 : vs 3 = .pointer (some ⟨H, 0, none⟩) := hf 3 (by decide) (by decide) (by decide) (by kernel_rfl)
      simp only [e3] at hK ⊢
      refine wpOp_step rfl (fun K' hK' => ?_)
      go_simp
      exact hK' _ _ (hK _ _ rfl (Below.refl _ _))
    · have e4 : vs 4 = .pointer (some ⟨H, 0, none⟩) := hf 4 (by decide) (by decide) (by decide) (by kernel_rfl)
      simp only [e4] at hK ⊢
      refine wpOp_step rfl (fun K' hK' => ?_)
      go_simp
      exact hK' _ _ (hK _ _ rfl (Below.refl _ _))
    · have e5 : vs 5 = .pointer (some ⟨H, 2, none⟩) := hf 5 (by decide) (by decide) (by decide) (by kernel_rfl)
      simp only [e5] at hK ⊢
      refine wpOp_step rfl (fun K' hK' => ?_)
      go_simp
      exact hK' _ _ (hK _ _ rfl (Below.refl _ _))
    · refine wpOp_step rfl (fun K' hK' => ?_)
      go_simp
      exact hK' _ _ (hK _ _ rfl (Below.refl _ _))
    · obtain ⟨k2, e2, y2⟩ := (hf 2 (by decide) (by decide) (by decide) (by kernel_rfl)).resolve_left (fun hh => by rw [hun] at hh; cases hh)
      have e6 : vs 6 = .slice aoc lc capc := hf 6 (by decide) (by decide) (by decide) (by kernel_rfl)
      have e7 : vs 7 = .slice aor lr capr := hf 7 (by decide) (by decide) (by decide) (by kernel_rfl)
      simp only [e2, e6, e7] at hK ⊢
      refine wpOp_step rfl (fun K' hK' => ?_)
      go_simp
      refine (HE3.out W k2 (below_stepH HW7.out HW7.out.size hst) y2.out).mono ?_
      rintro e W' ⟨rfl, hbc⟩
      go_simp
      exact hK' _ _ (hK _ _ rfl hbc)
    · have e8 : vs 8 = .tuple #[.agg #[.int .i64 rk, .int .i64 ri, .int .u64 rb, .string rs], .int .i64 rf] := hf 8 (by decide) (by decide) (by decide) (by kernel_rfl)
      simp only [e8] at hK ⊢
      refine wpOp_step rfl (fun K' hK' => ?_)
      go_simp
      exact hK' _ _ (hK _ _ rfl (Below.refl _ _))
    · have e9 : vs 9 = .tuple #[.agg #[.int .i64 rk, .int .i64 ri, .int .u64 rb, .string rs], .int .i64 rf] := hf 9 (by decide) (by decide) (by decide) (by kernel_rfl)
      simp only [e9] at hK ⊢
      refine wpOp_step rfl (fun K' hK' => ?_)
      go_simp
      exact hK' _ _ (hK _ _ rfl (Below.refl _ _))
    · have e9 : vs 9 = .tuple #[.agg #[.int .i64 rk, .int .i64 ri, .int .u64 rb, .string rs], .int .i64 rf] := hf 9 (by decide) (by decide) (by decide) (by kernel_rfl)
      simp only [e9] at hK ⊢
      refine wpOp_step rfl (fun K' hK' => ?_)
      go_simp
      exact hK' _ _ (hK _ _ rfl (Below.refl _ _))
    · exact (hnp rfl).elim
    · exact (hnq rfl).elim
  case hp10 =>
    intro vs W K hK
    simp only [fillF, Act.put, List.take_succ_cons, List.take_zero, List.setIfInBounds_toArray, List.set_cons_zero, List.set_cons_succ] at hK ⊢
    refine wpOp_step rfl (fun K' hK' => ?_)
    go_simp
    exact hK' _ _ hK
  case hq10 =>
    intro ls vs W K k hst ek hk hz hf hK
    simp only [fillF, Act.put, List.take_succ_cons, List.take_zero, List.setIfInBounds_toArray, List.set_cons_zero, List.set_cons_succ] at hK ⊢
    have e10 : vs 10 = .agg #[.int .i64 rk, .int .i64 ri, .int .u64 rb, .string rs] := hf 10 (by decide) (by decide) (by decide) (by kernel_rfl)
    simp only [e10] at hK ⊢
    simp only [ek] at hK ⊢
    obtain ⟨⟨p0, p1, p2, p3⟩, f0, f1, f2, f3⟩ := hz.four
    refine wpOp_step rfl (fun K' hK' => ?_)
    go_simp
    exact hK' _ _ (hK undef _ hz.set4 (below_set4 hst hk))
  intro ls10 vs10 W10 gV10 hst ek hk zV10 hf
  simp only [fillF, Act.put, List.take_succ_cons, List.take_zero, List.drop_succ_cons, List.drop_zero, List.setIfInBounds_toArray, List.set_cons_zero, List.set_cons_succ]
  have e11 : vs10 11 = .int .i64 rf := hf 11 (by decide) (by decide) (by decide)
  clear hf HO3 HE3
  simp only [ek, e11]
  clear ek e11
  generalize vs10 0 = x0
  generalize vs10 1 = x1
  generalize vs10 2 = x2
  generalize vs10 3 = x3
  generalize vs10 4 = x4
  generalize vs10 5 = x5
  generalize vs10 6 = x6
  generalize vs10 7 = x7
  generalize vs10 8 = x8
  generalize vs10 9 = x9
  generalize vs10 10 = x10
  generalize vs10 13 = x13
  have hb09 := below_stepH hb08 hb08.size hst
  have zA := zV8.call hst
  have zB := zV9.call hst
  have zC := zN.call hst
  have zD := zS.call hst
  clear zY zH zN zS hst hk hb08 HW7 zV8 zV9 zV10
  go_upto_region 11 with fail
  obtain ⟨p0, p1, p2, p3⟩ := zA.cell4
  obtain ⟨t0, t1, t2, t3⟩ := zB.cell4
  obtain ⟨q0, q1, q2, q3, q4, q5, q6⟩ := zC.cells7
  obtain ⟨u0, u1, u2, u3, u4, u5, u6⟩ := zD.cells7
  cases bad
  · go_wp2_with fail
    go_ret
    exact ⟨by simp, hb09⟩
  · obtain rfl := HG.out rfl
    go_wp2_with fail
    go_ret
    exact ⟨by simp, hb09⟩
end Go.Proofs.YtablacloabpjfabGreatDoor
