/-
  MERGED: RowP, RowH.
  CONDITIONS: each theorem's own hypotheses.
-/
import Derived.Test.YtablacloabpjfabGreatDoorGHeap
import Derived.Test.YtablacloabpjfabGreatDoorEvalM
import Derived.Test.YtablacloabpjfabGreatDoorRawB

/-! Rows of values of a call's own, kept while a heap's place goes on; which rows raw things make. CONDITIONS: each theorem's own hypotheses. -/
namespace Go.Proofs.YtablacloabpjfabGreatDoor
open Go.RowKit
set_option linter.unusedVariables false
set_option maxRecDepth 100000

def cellsV1 (v : Vl) : List Value := [.int .i64 v.k, .int .i64 v.i, .int .u64 v.b, .string (str v.s)]
def cellsV (l : List Vl) : List Value := l.flatMap cellsV1
theorem cellsV_length : ∀ l : List Vl, (cellsV l).length = l.length * 4
  | [] => rfl
  | t :: l => by
    show ((cellsV1 t) ++ cellsV l).length = _
    rw [List.length_append, cellsV_length l]
    simp [cellsV1]; omega
theorem cellsV_append (l m : List Vl) : cellsV (l ++ m) = cellsV l ++ cellsV m := by simp [cellsV]
theorem cellsV_at : ∀ (l : List Vl) (j q : Nat) (t : Vl), l[j]? = some t → q < 4 → (cellsV l)[j * 4 + q]? = (cellsV1 t)[q]?
  | [], j, q, v, h, hq => by simp at h
  | u :: l, 0, q, v, h, hq => by
    simp only [List.getElem?_cons_zero, Option.some.injEq] at h
    subst h
    show ((cellsV1 u) ++ cellsV l)[0 * 4 + q]? = _
    rw [List.getElem?_append_left (by simp [cellsV1]; omega)]
    simp
  | u :: l, j + 1, q, v, h, hq => by
    simp only [List.getElem?_cons_succ] at h
    show ((cellsV1 u) ++ cellsV l)[(j + 1) * 4 + q]? = _
    rw [List.getElem?_append_right (by simp [cellsV1]; omega)]
    rw [show (j + 1) * 4 + q - (cellsV1 u).length = j * 4 + q by simp [cellsV1]; omega]
    exact cellsV_at l j q v h hq
/-- A slice of values of the call's own. -/
def OwnW (w : World) (base : Nat) (v : Value) (l : List Vl) : Prop := w.ownsRow base 24 4 v l.length (cellsV l)
theorem infoW : (Tryz.prog.info? 24).map (fun i => (i.zero, i.size, i.bytes)) = some (some (.agg #[.int .i64 0, .int .i64 0, .int .u64 0, .string ⟨#[]⟩]), 4, 40) := by kernel_rfl
theorem OwnW.nil (w : World) (base : Nat) : OwnW w base (.slice none 0 0) [] := World.ownsRow_nil _ _ _ _
theorem OwnW.keep {w w1 : World} {base : Nat} {v : Value} {l : List Vl} (h : OwnW w base v l) (hb : Below w.heap.size w w1) : OwnW w1 base v l :=
  World.ownsRow.kept (row := none) h ⟨hb.os, hb.tape, hb.output, hb.size, fun k hk _ => hb.block k hk⟩ (by cases v.ownBlock <;> simp)
theorem OwnW.hb {H : Nat} {w w' : World} {base : Nat} {v : Value} {l : List Vl} (h : OwnW w base v l) (k : HB H w w') (hH : H < base) : OwnW w' base v l := by
  refine ⟨h.1, ?_⟩
  rcases h.2 with hn | ⟨g, cap, cur, rfl, hb, hgg, rest⟩
  · exact .inl hn
  · refine .inr ⟨g, cap, cur, rfl, hb, ?_, rest⟩
    rw [k.old g (Array.getElem?_eq_some_iff.1 hgg).1 (by omega)]; exact hgg
theorem OwnW.vals {w : World} {base : Nat} {v : Value} {l : List Vl} (h : OwnW w base v l) (hf : ∀ c ∈ l, FitV c) : ∃ ao cap, v = .slice ao l.length cap ∧ l.length ≤ cap ∧ cap ≤ 9223372036854775807 ∧ Vals w ao l ∧ ∀ a, ao = some a → base ≤ a.block := by
  rcases h.2 with ⟨rfl, h0⟩ | ⟨g, cap, cur, rfl, hbg, hg, h1, h2, _⟩
  · exact ⟨none, 0, by rw [h0], by omega, by omega, ⟨hf, .inl (List.eq_nil_of_length_eq_zero h0)⟩, fun a ha => by cases ha⟩
  · refine ⟨_, _, rfl, h1, by unfold maxLen at h2; omega, ⟨hf, .inr ⟨g, 0, rfl, (Array.getElem?_eq_some_iff.1 hg).1, fun j t ht => ?_⟩⟩, fun a ha => by cases ha; exact hbg⟩
    have hj : j < l.length := (List.getElem?_eq_some_iff.1 ht).1
    have hc : ∀ q, q < 4 → w.cell? ⟨g, j * 4 + q, none⟩ = (cellsV1 t)[q]? := fun q hq => by
      rw [World.ownsRow.cellAt h (j * 4 + q) (by omega), cellsV_at l j q t ht hq]
    rw [Nat.zero_add]
    exact ⟨hc 0 (by decide), hc 1 (by decide), hc 2 (by decide), hc 3 (by decide)⟩
/-- append(l, v), one value. -/
theorem wpList_append_valW {ops : Array Oper} {rest : List Oper} {o : Oper} {a : Act} {Q : Exit → Act → World → Prop} {w : World} (hgd : o.guard = none) (s x : Operand)
    (ho : o.op = .call { callee := .builtin .append, args := #[s, x], argTypes := #[38, 38] }) (base : Nat) (v : Value) (l : List Vl) (hs : a.eval s = v) (hown : OwnW w base v l)
    (u : Vl) (k i b : Int) (S : ByteArray) (hk : k = u.k) (hi' : i = u.i) (hb' : b = u.b) (hS : S = str u.s) (m : Nat) (hx : a.eval x = .slice (some ⟨m, 0, none⟩) 1 1) (hm : m = w.heap.size) (hl : l.length ≤ 1000000) (hb : base ≤ w.heap.size)
    (h : ∀ v' w', OwnW w' base v' (l ++ [u]) → Below base w w' → wpList Tryz.prog ops Q rest (a.put o.dst v') w') : wpList Tryz.prog ops Q (o :: rest) a (w.alloc (.cells #[.int .i64 k, .int .i64 i, .int .u64 b, .string S] 24)) := by
  subst hm hS hk hi' hb'
  obtain ⟨i0, hi, hz0, hz1, hz2⟩ := info_parts infoW
  refine wpList_append_own _ hgd s x 38 ho base 24 i0 _ 4 40 Tryz.underlying38 hi hz0 hz1 hz2 rfl (by decide) v l.length (cellsV l) hs (World.ownsRow.alloc hown _) ⟨w.heap.size, 0, none⟩ 1 1 (cellsV1 u) hx rfl ?_ ?_ (by unfold maxLen; omega) (by omega) (by simp; omega) ?_
  · intro j y hj
    have hj4 : j < 4 := by have := (List.getElem?_eq_some_iff.1 hj).1; simpa [cellsV1] using this
    rw [addr_addC, World.cell?_alloc_new]
    rcases (show j = 0 ∨ j = 1 ∨ j = 2 ∨ j = 3 by omega) with rfl | rfl | rfl | rfl <;> exact hj
  · intro y hy
    simp [cellsV1] at hy
    rcases hy with rfl | rfl | rfl | rfl <;> rfl
  · intro v' w' h1 h2 _
    refine h v' w' ?_ ?_
    · unfold OwnW
      rw [cellsV_append, List.length_append]
      have e : cellsV [u] = cellsV1 u := by simp [cellsV]
      rw [e]; exact h1
    · exact ((Below.refl base w).alloc hb _).grown h2 (by simp; omega) (fun k hk => (hown.lt k hk).1)
/-- What lies below B is as it was, with or without what block H holds. -/
theorem hd_belowB {B H : Nat} {w w' : World} (hb : Below B w w') (hB : B ≤ w.heap.size) : Below B (hd H w) (hd H w') := by
  refine ⟨hb.os, hb.tape, hb.output, by rw [hd_size, hd_size]; exact hb.size, fun k hk => ?_⟩
  by_cases e : k = H
  · subst e
    show (w'.heap.setIfInBounds k _)[k]? = (w.heap.setIfInBounds k _)[k]?
    rw [Array.getElem?_setIfInBounds, Array.getElem?_setIfInBounds, if_pos rfl, if_pos rfl, if_pos (Nat.lt_of_lt_of_le (Nat.lt_of_lt_of_le hk hB) hb.size), if_pos (Nat.lt_of_lt_of_le hk hB)]
  · rw [hd_at H w' k e, hd_at H w k e]; exact hb.block k hk
theorem HB.belowB {H : Nat} {a w w' : World} (h : HB H a w) (hb : Below a.heap.size w w') : HB H a w' := Below.trans h (hd_belowB hb h.size)
theorem Blk.cell3 {w : World} {b : Nat} {T : TypeId} {v0 v1 v2 : Value} (h : Blk w b T [v0, v1, v2]) : w.cell? ⟨b, 0, none⟩ = some v0 ∧ w.cell? ⟨b, 1, none⟩ = some v1 ∧ w.cell? ⟨b, 2, none⟩ = some v2 := ⟨h.cell (j := 0) rfl, h.cell (j := 1) rfl, h.cell (j := 2) rfl⟩
theorem Blk.cell4 {w : World} {b : Nat} {T : TypeId} {v0 v1 v2 v3 : Value} (h : Blk w b T [v0, v1, v2, v3]) : w.cell? ⟨b, 0, none⟩ = some v0 ∧ w.cell? ⟨b, 1, none⟩ = some v1 ∧ w.cell? ⟨b, 2, none⟩ = some v2 ∧ w.cell? ⟨b, 3, none⟩ = some v3 := ⟨h.cell (j := 0) rfl, h.cell (j := 1) rfl, h.cell (j := 2) rfl, h.cell (j := 3) rfl⟩
/-- A value fits a column. -/
def CellOk (v : Vl) (c : Cl) : Prop := FitV v ∧ cellF v c = 0
def RowOkL (vs : List Vl) (cs : List Cl) : Prop := vs.length ≤ cs.length ∧ ∀ (j : Nat) (v : Vl) (c : Cl), vs[j]? = some v → cs[j]? = some c → CellOk v c
theorem RowOkL.nil (cs : List Cl) : RowOkL [] cs := ⟨Nat.zero_le _, fun j v c h _ => by simp at h⟩
theorem RowOkL.snoc {vs : List Vl} {cs : List Cl} (h : RowOkL vs cs) {j : Nat} (hj : vs.length = j) {c : Cl} (hc : cs[j]? = some c) {v : Vl} (hv : CellOk v c) : RowOkL (vs ++ [v]) cs := by
  have hlt := (List.getElem?_eq_some_iff.1 hc).1
  refine ⟨by rw [List.length_append, hj]; exact hlt, fun i u d hu hd => ?_⟩
  rcases Nat.lt_or_ge i vs.length with hi | hi
  · rw [List.getElem?_append_left hi] at hu
    exact h.2 i u d hu hd
  · rw [List.getElem?_append_right hi] at hu
    have hi0 : i - vs.length = 0 := by
      have := (List.getElem?_eq_some_iff.1 hu).1; simpa using this
    obtain rfl : i = j := by omega
    rw [hi0] at hu
    simp only [List.getElem?_cons_zero, Option.some.injEq] at hu
    subst hu
    rw [hc] at hd
    simp only [Option.some.injEq] at hd
    subst hd; exact hv
theorem RowOkL.row {vs : List Vl} {cs : List Cl} (h : RowOkL vs cs) (hl : vs.length = cs.length) (hc : colsR cs = 0) : rowR vs cs = 0 := by
  unfold rowR
  rw [if_neg (by rw [hc]; decide), if_neg (by simpa using hl)]
  exact cellsF_good vs cs (fun i x y hx hy => (h.2 i x y hx hy).2)
theorem RowOkL.fit {vs : List Vl} {cs : List Cl} (h : RowOkL vs cs) : ∀ v ∈ vs, FitV v := fun v hv => by
  obtain ⟨j, hj⟩ := List.mem_iff_getElem?.1 hv
  have hlt := (List.getElem?_eq_some_iff.1 hj).1
  have hlt2 : j < cs.length := Nat.lt_of_lt_of_le hlt h.1
  exact (h.2 j v cs[j] hj (List.getElem?_eq_getElem hlt2)).1
theorem cellOk_kind (v : Vl) (c : Cl) (hv : OkV v) (hk : v.k = c.k) : CellOk v c := ⟨hv.fit, by unfold cellF; rw [if_neg (by rw [hv.chk]; decide), if_pos hk]⟩
theorem cellOk_null (c : Cl) (hk : 1 ≤ c.k) (hn : c.nl = true) : CellOk nulV c := ⟨ok_nul.fit, by
  unfold cellF
  rw [if_neg (by rw [ok_nul.chk]; decide), if_neg (by show ¬ (0 : Int) = c.k; omega), if_pos (show nulV.k = 0 from rfl), if_pos hn]⟩
/-- What row makes: a value a column, each such as fits. -/
def RowPost (S : HpS) (H n : Nat) (key : Int) (w : World) (e : Ending) (w' : World) : Prop := ∃ (v : Value) (vs : List Vl), e = .returned v ∧ Hid (OwnW w' w.heap.size v vs) ∧ Hid (RowOkL vs S.cs ∧ vs.length = S.cs.length) ∧ Hid (HpAt S H w' (n + S.cs.length)) ∧ HB H w w'
end Go.Proofs.YtablacloabpjfabGreatDoor

/-! CONTRACT of the heap of raw things: row. CONDITIONS: each theorem's own hypotheses. -/
namespace Go.Proofs.YtablacloabpjfabGreatDoor
open Go.RowKit
set_option linter.unusedVariables false
set_option maxRecDepth 100000

theorem okV_val (v : V) (hf : v.Fits) (hc : v.chk = 0) : OkV ⟨v.k, v.i, v.b, v.s.data.toList⟩ := by
  refine ⟨⟨hf.i0, hf.i1, hf.b0, hf.b1, ?_⟩, ?_⟩
  · have := hf.s1
    rw [← Lib.size_eq]; exact this
  · show Go.Proofs.YtablacloabpjfabGreatDoor.chk v.k v.i v.b (str v.s.data.toList) = 0
    rw [← str_eq]; exact hc
set_option maxHeartbeats 32000000 in
theorem row_h (S : HpS) (H n : Nat) (key : Int) (w : World) (h : HpAt S H w n) (hS : HpK S) (hn : n ≤ 100000) (hk : -9223372036854775808 ≤ key ∧ key ≤ 9223372036854775807) (hcl : S.cs.length ≤ S.capc ∧ S.capc ≤ 9223372036854775807) :
    Calls Tryz.prog 18 #[.pointer (some ⟨H, 0, none⟩), .int .i64 key] w (RowPost S H n key w) := by
  have hH := h.lt
  have hc4 := hS.c4
  have h40 := hS.l40
  have hcol := hS.cols
  have h0 := hS.key
  have cN := fun (q : Nat) (W : World) (hq : q ≤ 1000000) (hW : HpAt S H W q) => next_any S H q W hq hW h40
  obtain ⟨m, hm⟩ : ∃ m, S.cs.length = m := ⟨_, rfl⟩
  rw [hm] at hc4
  obtain ⟨⟨p0, p1, p2⟩, _⟩ := h.1.three
  rw [hm] at p2
  have HM := Lib.hid hm
  have HA := Lib.hid h
  have HC := Lib.hid hcol
  have H0 := Lib.hid h0
  have HK := Lib.hid hk
  have H40 := Lib.hid h40
  clear hm hcol hS h0 hk h h40 hcl
  go_enter Tryz.func18, Tryz.ntmps18
  go_wp2_with fail
  clear p0 p1 p2
  go_loopw [5, 14] (fun u i wr => ∃ (j : Nat) (vs : List Vl), j ≤ m ∧ i = .int .i64 j ∧ vs.length = j ∧ Hid (RowOkL vs S.cs) ∧ Hid (OwnW wr w.heap.size u vs) ∧ Hid (HpAt S H wr (n + j)) ∧ HB H w wr) (fun _ i _ => m - (intOf i).toNat)
  case atStart => exact ⟨0, [], Nat.zero_le _, rfl, rfl, Lib.hid (RowOkL.nil _), Lib.hid (OwnW.nil _ _), HA, HB.refl _ _⟩
  case round =>
    obtain ⟨j, vs, hj, rfl, hvl, hok, ho, hA, hbw⟩ := hrel
    by_cases h1 : j < m
    · have hlt : j < S.cs.length := by have := HM.out; omega
      obtain ⟨c, hcj⟩ : ∃ c, S.cs[j]? = some c := ⟨S.cs[j], List.getElem?_eq_getElem hlt⟩
      have HCJ := Lib.hid hcj
      obtain ⟨a, o, haoc, ha, hL⟩ := (Cols.show hA.out.2.2).2.resolve_left (fun e => by rw [e] at hlt; simp at hlt)
      obtain ⟨d0, d1, d2⟩ := hL j c hcj
      obtain ⟨hck, hck4⟩ := colsR_rng _ HC.out c (List.mem_of_getElem? hcj)
      rw [haoc]
      obtain ⟨cn, ck, nl⟩ := c
      simp only at d0 d1 d2 hck hck4
      generalize str cn = CN at *
      have hvl6 : vs.length ≤ 1000000 := by omega
      have HV := Lib.hid hvl
      have hA5 := hA.out.call ((Below.refl wr.heap.size wr).alloc (Nat.le_refl _) (.cells #[.string CN, .int .i64 ck, .bool nl] 57))
      have hb5 := hbw.alloc (Nat.lt_of_lt_of_le hH hbw.size) (.cells #[.string CN, .int .i64 ck, .bool nl] 57)
      have ho5 := ho.out.keep ((Below.refl wr.heap.size wr).alloc (Nat.le_refl _) (.cells #[.string CN, .int .i64 ck, .bool nl] 57))
      have zc := Blk.new wr #[.string CN, .int .i64 ck, .bool nl] 57
      have hHr : H ≠ wr.heap.size := by have := hbw.size; omega
      clear hcj haoc hlt hvl hL
      go_upto_region 5 with fail
      generalize hw5 : wr.alloc (.cells #[.string CN, .int .i64 ck, .bool nl] 57) = w5 at *
      clear hw5 d0 d1 d2 hA hbw ho ha
      generalize wr.heap.size = gc at *
      go_wp2_with fail
      refine (cN (n + j) w5 (by omega) hA5).mono ?_
      rintro e w6 ⟨r, rfl, hrf, hA6, hb6⟩
      obtain ⟨rk, ra, rb, rs⟩ := r
      simp only [rawV]
      have ho6 := ho5.hb hb6 hH
      have zc6 := zc.hb hb6 (Ne.symm hHr)
      have hb06 := hb5.trans hb6
      have zh7 := hA6.1.alloc (.cells #[.int .i64 rk, .int .i64 ra, .int .i64 rb, .string rs] 54)
      have zc7 := zc6.alloc (.cells #[.int .i64 rk, .int .i64 ra, .int .i64 rb, .string rs] 54)
      have zr := Blk.new w6 #[.int .i64 rk, .int .i64 ra, .int .i64 rb, .string rs] 54
      have ho7 := ho6.keep ((Below.refl w6.heap.size w6).alloc (Nat.le_refl _) (.cells #[.int .i64 rk, .int .i64 ra, .int .i64 rb, .string rs] 54))
      have hb7 := hb06.alloc (Nat.lt_of_lt_of_le hH hb06.size) (.cells #[.int .i64 rk, .int .i64 ra, .int .i64 rb, .string rs] 54)
      go_upto_region 7 with fail
      generalize hw7 : w6.alloc (.cells #[.int .i64 rk, .int .i64 ra, .int .i64 rb, .string rs] 54) = w7 at *
      generalize w6.heap.size = gr at *
      have WO := Lib.hid (And.intro ho7 (Nat.le_trans (Nat.le_refl _) hb7.size))
      have cK := fun W => picked_any rb 4 W (by decide) (by decide) hrf.b0 hrf.b1
      have cI := fun W => picked_any ra 40 W (by decide) (by decide) hrf.a0 hrf.a1
      have cV := fun W => valOf_any ck rk ra rb rs W (by omega) hck4 hrf.a0 hrf.a1
      clear hw7 hA5 hb5 ho5 zc hA6 hb6 ho6 zc6 hb06 hrf
      obtain ⟨c0, c1, c2⟩ := zc7.cell3
      obtain ⟨r0, r1, r2, r3⟩ := zr.cell4
      have zh := zh7
      have zc := zc7
      clear zh7 zc7 ho7
      by_cases hj0 : j = 0
      · subst hj0
        have hk2 : ck = 2 := H0.out _ HCJ.out
        have HK2 := Lib.hid hk2
        clear cK cI cV hk2
        go_upto_region 13 with (first
          | (with_reducible refine wpList_append_valW rfl (.tmp 31) (.tmp 34) rfl w.heap.size u5 vs rfl WO.out.1 (intV key) (2) (key) (0) (⟨#[]⟩) rfl rfl rfl rfl _ rfl rfl hvl6 WO.out.2 ?_; intro v1 w9 ho9 hb9))
        have hb10 : HB H w w9 := HB.belowB hb7 hb9
        have hbk9 := Blk.keep zh hb9 hH
        clear zc zr hb9 zh hb7 c0 c1 c2 r0 r1 r2 r3
        go_wp2_with fail
        go_roundw
        case rel => exact ⟨0 + 1, vs ++ [intV key], by omega, by go_num, by rw [List.length_append, HV.out]; rfl, Lib.hid (RowOkL.snoc hok.out HV.out HCJ.out (cellOk_kind _ _ (ok_int key HK.out.1 HK.out.2) HK2.out.symm)), Lib.hid ho9, Lib.hid (by rw [← Nat.add_assoc]; exact HA.out.move hb10 hbk9), hb10⟩
        case measure => simp [intOf]; omega
      · have bj : (((j : Nat) : Int) == 0) = false := by simp; omega
        have HJ0 := Lib.hid hj0
        have HCK := Lib.hid hck
        clear hj0
        cases nl
        · by_cases hk2 : ck = 2
          · have bk : (ck == 2) = true := by simpa using hk2
            have HK2 := Lib.hid hk2
            obtain ⟨q, hq⟩ : ∃ q, ra % 40 = q := ⟨_, rfl⟩
            have hq0 : 0 ≤ q := by rw [← hq]; exact Int.emod_nonneg _ (by decide)
            have hq4 : q < 40 := by rw [← hq]; exact Int.emod_lt_of_pos _ (by decide)
            have wq : IntKind.i64.wrap (q - 10) = q - 10 := by rw [IntKind.wrap_i64]; omega
            simp only [hq] at cI
            clear hk2 hq cV
            go_upto_region 13 with (first
              | (go_at_call 27; refine (cI _).mono ?_; rintro e W8 ⟨rfl, rfl⟩)
              | (with_reducible refine wpList_append_valW rfl (.tmp 53) (.tmp 59) rfl w.heap.size u5 vs rfl WO.out.1 (intV (q - 10)) (2) (q - 10) (0) (⟨#[]⟩) rfl rfl rfl rfl _ rfl rfl hvl6 WO.out.2 ?_; intro v1 w9 ho9 hb9))
            have hb10 : HB H w w9 := HB.belowB hb7 hb9
            have hbk9 := Blk.keep zh hb9 hH
            clear zc zr hb9 zh hb7 c0 c1 c2 r0 r1 r2 r3
            go_wp2_with fail
            go_roundw
            case rel => exact ⟨j + 1, vs ++ [intV (q - 10)], by omega, by go_num, by rw [List.length_append, HV.out]; rfl, Lib.hid (RowOkL.snoc hok.out HV.out HCJ.out (cellOk_kind _ _ (ok_int _ (by omega) (by omega)) HK2.out.symm)), Lib.hid ho9, Lib.hid (by rw [← Nat.add_assoc]; exact HA.out.move hb10 hbk9), hb10⟩
            case measure => simp [intOf]; omega
          · have bk : (ck == 2) = false := by simpa using hk2
            clear hk2 cI
            go_upto_region 13 with (first
              | (go_at_call 28; refine (cV _).mono ?_; rintro e W8 ⟨⟨vk, vi, vb, vS⟩, hvk, hvf, hvc, rfl, hb8⟩; have WO8 := Lib.hid (And.intro (WO.out.1.keep hb8) (Nat.le_trans WO.out.2 hb8.size)); have hb78 := hb7.below hb8; have zh8 := zh.call hb8; have HVF := Lib.hid (And.intro hvk (And.intro hvf hvc)); clear hvk hvf hvc hb8 cV)
              | (with_reducible refine wpList_append_valW rfl (.tmp 21) (.tmp 26) rfl w.heap.size u5 vs rfl WO8.out.1 (⟨vk, vi, vb, vS.data.toList⟩) (vk) (vi) (vb) (vS) rfl rfl rfl (str_eq vS) _ rfl rfl hvl6 WO8.out.2 ?_; intro v1 w9 ho9 hb9))
            have hb10 : HB H w w9 := HB.belowB hb78 hb9
            have hbk9 := Blk.keep zh8 hb9 hH
            clear zc zr hb9 zh8 hb78 c0 c1 c2 r0 r1 r2 r3
            go_wp2_with fail
            go_roundw
            case rel => exact ⟨j + 1, vs ++ [⟨vk, vi, vb, vS.data.toList⟩], by omega, by go_num, by rw [List.length_append, HV.out]; rfl, Lib.hid (RowOkL.snoc hok.out HV.out HCJ.out (cellOk_kind _ _ (okV_val ⟨vk, vi, vb, vS⟩ HVF.out.2.1 HVF.out.2.2) HVF.out.1)), Lib.hid ho9, Lib.hid (by rw [← Nat.add_assoc]; exact HA.out.move hb10 hbk9), hb10⟩
            case measure => simp [intOf]; omega
        · go_wp2_with fail
          refine (cK _).mono ?_
          rintro e W8 ⟨rfl, rfl⟩
          clear cK
          by_cases hb4 : rb % 4 = 0
          · have bb : (rb % 4 == 0) = true := by simpa using hb4
            clear hb4 cI cV
            go_upto_region 13 with (first
              | (with_reducible refine wpList_append_valW rfl (.tmp 45) (.tmp 47) rfl w.heap.size u5 vs rfl WO.out.1 (nulV) (0) (0) (0) (⟨#[]⟩) rfl rfl rfl rfl _ rfl rfl hvl6 WO.out.2 ?_; intro v1 w9 ho9 hb9))
            have hb10 : HB H w w9 := HB.belowB hb7 hb9
            have hbk9 := Blk.keep zh hb9 hH
            clear zc zr hb9 zh hb7 c0 c1 c2 r0 r1 r2 r3
            go_wp2_with fail
            go_roundw
            case rel => exact ⟨j + 1, vs ++ [nulV], by omega, by go_num, by rw [List.length_append, HV.out]; rfl, Lib.hid (RowOkL.snoc hok.out HV.out HCJ.out (cellOk_null _ HCK.out rfl)), Lib.hid ho9, Lib.hid (by rw [← Nat.add_assoc]; exact HA.out.move hb10 hbk9), hb10⟩
            case measure => simp [intOf]; omega
          · have bb : (rb % 4 == 0) = false := by simpa using hb4
            clear hb4
            by_cases hk2 : ck = 2
            · have bk : (ck == 2) = true := by simpa using hk2
              have HK2 := Lib.hid hk2
              obtain ⟨q, hq⟩ : ∃ q, ra % 40 = q := ⟨_, rfl⟩
              have hq0 : 0 ≤ q := by rw [← hq]; exact Int.emod_nonneg _ (by decide)
              have hq4 : q < 40 := by rw [← hq]; exact Int.emod_lt_of_pos _ (by decide)
              have wq : IntKind.i64.wrap (q - 10) = q - 10 := by rw [IntKind.wrap_i64]; omega
              simp only [hq] at cI
              clear hk2 hq cV
              go_upto_region 13 with (first
                | (go_at_call 27; refine (cI _).mono ?_; rintro e W8 ⟨rfl, rfl⟩)
                | (with_reducible refine wpList_append_valW rfl (.tmp 53) (.tmp 59) rfl w.heap.size u5 vs rfl WO.out.1 (intV (q - 10)) (2) (q - 10) (0) (⟨#[]⟩) rfl rfl rfl rfl _ rfl rfl hvl6 WO.out.2 ?_; intro v1 w9 ho9 hb9))
              have hb10 : HB H w w9 := HB.belowB hb7 hb9
              have hbk9 := Blk.keep zh hb9 hH
              clear zc zr hb9 zh hb7 c0 c1 c2 r0 r1 r2 r3
              go_wp2_with fail
              go_roundw
              case rel => exact ⟨j + 1, vs ++ [intV (q - 10)], by omega, by go_num, by rw [List.length_append, HV.out]; rfl, Lib.hid (RowOkL.snoc hok.out HV.out HCJ.out (cellOk_kind _ _ (ok_int _ (by omega) (by omega)) HK2.out.symm)), Lib.hid ho9, Lib.hid (by rw [← Nat.add_assoc]; exact HA.out.move hb10 hbk9), hb10⟩
              case measure => simp [intOf]; omega
            · have bk : (ck == 2) = false := by simpa using hk2
              clear hk2 cI
              go_upto_region 13 with (first
                | (go_at_call 28; refine (cV _).mono ?_; rintro e W8 ⟨⟨vk, vi, vb, vS⟩, hvk, hvf, hvc, rfl, hb8⟩; have WO8 := Lib.hid (And.intro (WO.out.1.keep hb8) (Nat.le_trans WO.out.2 hb8.size)); have hb78 := hb7.below hb8; have zh8 := zh.call hb8; have HVF := Lib.hid (And.intro hvk (And.intro hvf hvc)); clear hvk hvf hvc hb8 cV)
                | (with_reducible refine wpList_append_valW rfl (.tmp 21) (.tmp 26) rfl w.heap.size u5 vs rfl WO8.out.1 (⟨vk, vi, vb, vS.data.toList⟩) (vk) (vi) (vb) (vS) rfl rfl rfl (str_eq vS) _ rfl rfl hvl6 WO8.out.2 ?_; intro v1 w9 ho9 hb9))
              have hb10 : HB H w w9 := HB.belowB hb78 hb9
              have hbk9 := Blk.keep zh8 hb9 hH
              clear zc zr hb9 zh8 hb78 c0 c1 c2 r0 r1 r2 r3
              go_wp2_with fail
              go_roundw
              case rel => exact ⟨j + 1, vs ++ [⟨vk, vi, vb, vS.data.toList⟩], by omega, by go_num, by rw [List.length_append, HV.out]; rfl, Lib.hid (RowOkL.snoc hok.out HV.out HCJ.out (cellOk_kind _ _ (okV_val ⟨vk, vi, vb, vS⟩ HVF.out.2.1 HVF.out.2.2) HVF.out.1)), Lib.hid ho9, Lib.hid (by rw [← Nat.add_assoc]; exact HA.out.move hb10 hbk9), hb10⟩
              case measure => simp [intOf]; omega
    · have hjm : j = m := by omega
      have HJ := Lib.hid hjm
      clear hjm
      go_wp2_with fail
      go_ret
      exact ⟨_, vs, rfl, ho, Lib.hid ⟨hok.out, by rw [hvl, HJ.out, HM.out]⟩, Lib.hid (by have := hA.out; rw [HJ.out] at this; rw [HM.out]; exact this), hbw⟩
end Go.Proofs.YtablacloabpjfabGreatDoor
