/-
  THE WALK of the law 'chirographkeep.KindStrict': for every raw things and kind the law returns true.
  CONDITIONS: the raw things lie; the tables lie.
-/
import Derived.Test.YtoleaahnpcbkkaaDoorKindF
import Derived.Test.YtoleaahnpcbkkaaDoorGHeap
import Derived.Test.YtoleaahnpcbkkaaDoorTyK
namespace Go.Proofs.YtoleaahnpcbkkaaDoor
open Go.RowKit
set_option linter.unusedVariables false
set_option maxRecDepth 100000

theorem cellsC_strict : ∀ (l : List Cl) (j : Nat) (c : Cl), l[j]? = some c → (cellsC l).set (j * 3 + 2) (.bool false) = cellsC (l.set j (strictC c))
  | [], j, c, h => by simp at h
  | x :: l, 0, c, h => by
    simp only [List.getElem?_cons_zero, Option.some.injEq] at h
    subst h
    rfl
  | x :: l, j + 1, c, h => by
    simp only [List.getElem?_cons_succ] at h
    have e : cellsC (x :: l) = .string (str x.n) :: .int .i64 x.k :: .bool x.nl :: cellsC l := rfl
    have e2 : cellsC ((x :: l).set (j + 1) (strictC c)) = .string (str x.n) :: .int .i64 x.k :: .bool x.nl :: cellsC (l.set j (strictC c)) := rfl
    rw [e, e2, ← cellsC_strict l j c h, show (j + 1) * 3 + 2 = j * 3 + 2 + 1 + 1 + 1 by omega]
    rfl
def strictN (j : Nat) (l : List Cl) : List Cl := (l.take j).map strictC ++ l.drop j
theorem strictN_zero (l : List Cl) : strictN 0 l = l := by simp [strictN]
theorem strictN_all (l : List Cl) : strictN l.length l = l.map strictC := by simp [strictN]
theorem strictN_length (j : Nat) (l : List Cl) (h : j ≤ l.length) : (strictN j l).length = l.length := by simp [strictN]; omega
theorem strictN_at (j : Nat) (l : List Cl) (c : Cl) (h : l[j]? = some c) : (strictN j l)[j]? = some c := by
  have hj : j < l.length := (List.getElem?_eq_some_iff.1 h).1
  unfold strictN
  rw [List.getElem?_append_right (by simp; omega)]
  simp only [List.length_map, List.length_take, List.getElem?_drop]
  rw [show j + (j - min j l.length) = j by omega]; exact h
theorem strictN_step (j : Nat) (l : List Cl) (c : Cl) (h : l[j]? = some c) : (strictN j l).set j (strictC c) = strictN (j + 1) l := by
  have hj : j < l.length := (List.getElem?_eq_some_iff.1 h).1
  have hlen : ((l.take j).map strictC).length = j := by simp; omega
  unfold strictN
  rw [List.set_append_right _ _ (by omega), hlen, Nat.sub_self]
  have hd : l.drop j = c :: l.drop (j + 1) := by
    rw [List.drop_eq_getElem_cons hj]
    have := (List.getElem?_eq_some_iff.1 h).2
    rw [this]
  have ht : l.take (j + 1) = l.take j ++ [c] := by
    rw [List.take_add_one, h]; rfl
  rw [hd, ht, List.set_cons_zero, List.map_append]
  simp
theorem colF_strict (c : Cl) (a : List Cl) : colF (strictC c) (a.map strictC) = colF c a := by
  unfold colF
  rw [List.any_map]; rfl
theorem colsG_strict : ∀ (l a : List Cl), colsG (a.map strictC) (l.map strictC) = colsG a l
  | [], a => rfl
  | c :: l, a => by
    rw [List.map_cons]
    simp only [colsG]
    rw [colF_strict, show a.map strictC ++ [strictC c] = (a ++ [c]).map strictC by simp, colsG_strict l (a ++ [c])]
theorem colsR_strict (l : List Cl) : colsR (l.map strictC) = colsR l := by
  unfold colsR
  rw [List.length_map]
  have := colsG_strict l []
  rw [List.map_nil] at this
  rw [this]
theorem strict_facts {cs : List Cl} {k0 : Int} {t : T} (hc : colsR cs = 0) (hk : 1 ≤ k0 ∧ k0 ≤ 4) (hT : Ty cs 4 k0 t) : ∃ (k : Int) (n n' : Bool), kindsR cs t = ⟨k, n, 0⟩ ∧ kindsR (cs.map strictC) t = ⟨k, n', 0⟩ ∧ (n' = true → n = true) := by
  have he := ty_expr hc 4 (by decide) k0 t hk hT
  obtain ⟨h1, h2, h3⟩ := ty_less hc 4 k0 t hk hT
  have hf := (ty_kind hc 4 k0 t hk hT).1
  refine ⟨(kT cs t).k, (kT cs t).n, (kT (cs.map strictC) t).n, ?_, ?_, h3⟩
  · unfold kindsR
    rw [if_neg (by rw [he]; decide), if_neg (by rw [hc]; decide), ← hf]
  · unfold kindsR
    rw [if_neg (by rw [he]; decide), if_neg (by rw [colsR_strict, hc]; decide), ← h2]
    have h4 : (kT (cs.map strictC) t).f = 0 := h1.trans hf
    generalize kT (cs.map strictC) t = r at *
    obtain ⟨a, b, c⟩ := r
    simp only at h4
    rw [h4]
theorem one_facts : kindsR [] (litT 2 0 0 []) = ⟨2, false, 0⟩ := by
  have he : exprR (litT 2 0 0 []) = 0 := ty_expr (cs := []) (by decide) 1 (by decide) 2 _ (by decide) (.inl (.inr ⟨2, 0, 0, [], .inl rfl, by kernel_rfl, by decide, by decide, by decide, by decide, rfl⟩))
  unfold kindsR
  rw [if_neg (by rw [he]; decide), if_neg (by decide)]; rfl
theorem exprV_seven (t : T) (ao : Option Addr) (cap : Nat) : ∃ (xo xk xi xb : Int) (xs xm : ByteArray) (xl : Nat), exprV t ao cap = .agg #[.int .i64 xo, .int .i64 xk, .int .i64 xi, .int .u64 xb, .string xs, .string xm, .slice ao xl cap] := ⟨_, _, _, _, _, _, _, exprV_cells t ao cap⟩
theorem Blk.seven7 {w : World} {b : Nat} {T : TypeId} {v0 v1 v2 v3 v4 v5 v6 : Value} (h : Blk w b T [v0, v1, v2, v3, v4, v5, v6]) : w.cell? ⟨b, 0, Option.none⟩ = some v0 ∧ w.cell? ⟨b, 1, Option.none⟩ = some v1 ∧ w.cell? ⟨b, 2, Option.none⟩ = some v2 ∧ w.cell? ⟨b, 3, Option.none⟩ = some v3 ∧ w.cell? ⟨b, 4, Option.none⟩ = some v4 ∧ w.cell? ⟨b, 5, Option.none⟩ = some v5 ∧ w.cell? ⟨b, 6, Option.none⟩ = some v6 :=
  ⟨h.cell (j := 0) rfl, h.cell (j := 1) rfl, h.cell (j := 2) rfl, h.cell (j := 3) rfl, h.cell (j := 4) rfl, h.cell (j := 5) rfl, h.cell (j := 6) rfl⟩
theorem addr_addO (b o j : Nat) : (⟨b, o, Option.none⟩ : Addr).add j = ⟨b, o + j, Option.none⟩ := by unfold Addr.add; split <;> simp_all
theorem lies_cells {W : World} {a o : Nat} {cs : List Cl} (h : LiesC W a o cs) : ∀ j u, (cellsC cs)[j]? = some u → W.cell? ⟨a, o + j, Option.none⟩ = some u := by
  intro j u hj
  have hlt : j < cs.length * 3 := by rw [← cellsC_length]; exact (List.getElem?_eq_some_iff.1 hj).1
  obtain ⟨t, ht⟩ : ∃ t, cs[j / 3]? = some t := ⟨_, List.getElem?_eq_getElem (by omega)⟩
  have h1 := cellsC_at cs (j / 3) (j % 3) t ht (by omega)
  rw [show j / 3 * 3 + j % 3 = j by omega, hj] at h1
  obtain ⟨c0, c1, c2⟩ := h (j / 3) t ht
  rcases (show j % 3 = 0 ∨ j % 3 = 1 ∨ j % 3 = 2 by omega) with e | e | e
  · rw [e] at h1
    rw [h1, show o + j = o + j / 3 * 3 by omega]; exact c0
  · rw [e] at h1
    rw [h1, show o + j = o + j / 3 * 3 + 1 by omega]; exact c1
  · rw [e] at h1
    rw [h1, show o + j = o + j / 3 * 3 + 2 by omega]; exact c2
theorem wpList_append_colsC {ops : Array Oper} {rest : List Oper} {o : Oper} {a : Act} {Q : Exit → Act → World → Prop} {w : World} (hgd : o.guard = Option.none) (s x : Operand)
    (ho : o.op = .call { callee := .builtin .append, args := #[s, x], argTypes := #[22, 22] }) (base : Nat) (v : Value) (l : List Cl) (hs : a.eval s = v) (hown : OwnC w base v l)
    (m : List Cl) (ad : Addr) (q c : Nat) (hx : a.eval x = .slice (some ad) q c) (hq : m.length = q) (hnews : ∀ j u, (cellsC m)[j]? = some u → w.cell? (ad.add j) = some u) (hl : l.length + q ≤ 1000000) (hb : base ≤ w.heap.size)
    (h : ∀ v' w', OwnC w' base v' (l ++ m) → Below base w w' → wpList Tryd.prog ops Q rest (a.put o.dst v') w') : wpList Tryd.prog ops Q (o :: rest) a w := by
  subst hq
  obtain ⟨i0, hi, hz0, hz1, hz2⟩ := info_parts infoC
  refine wpList_append_own _ hgd s x 22 ho base 43 i0 _ 3 32 Tryd.underlying22 hi hz0 hz1 hz2 rfl (by decide) v l.length (cellsC l) hs hown ad m.length c (cellsC m) hx (cellsC_length m) hnews ?_ (by unfold maxLen; omega) (by omega) hb ?_
  · intro y hy
    unfold cellsC at hy
    obtain ⟨t, _, ht⟩ := List.mem_flatMap.1 hy
    simp [cellsC1] at ht
    rcases ht with rfl | rfl | rfl <;> rfl
  · intro v' w' h1 h2 _
    refine h v' w' ?_ ?_
    · unfold OwnC
      rw [cellsC_append, List.length_append]
      exact h1
    · exact (Below.refl base w).grown h2 hb (fun k hk => (hown.lt k hk).1)
theorem OwnC.slice {w : World} {b : Nat} {v : Value} {l m : List Cl} {q : Nat} (h : OwnC w b v ([] ++ l)) (hq : l.length = q) (hl : 1 ≤ q) : ∃ g cap, v = .slice (some ⟨g, 0, Option.none⟩) q cap ∧ b ≤ g ∧ q ≤ cap ∧ w.ownsRow b 43 3 (.slice (some ⟨g, 0, Option.none⟩) q cap) q (cellsC l) := by
  rw [List.nil_append] at h
  unfold OwnC at h
  rw [hq] at h
  rcases h.2 with ⟨rfl, h0⟩ | ⟨g, cap, cur, rfl, h1, h2, h3, h4, h5⟩
  · omega
  · exact ⟨g, cap, rfl, h1, h3, h⟩
/-- An empty row of the call's own, in a block. -/
theorem OwnC.none (w : World) : OwnC (w.alloc (.cells #[] 43)) w.heap.size (.slice (some ⟨w.heap.size, 0, Option.none⟩) 0 0) [] :=
  ⟨rfl, .inr ⟨w.heap.size, 0, #[], rfl, Nat.le_refl _, Blk.new w #[] 43, Nat.le_refl _, by unfold maxLen; omega, rfl, rfl⟩⟩
set_option maxHeartbeats 8000000 in
theorem kindStrict_walk (l : List R) (aol : Option Addr) (capl : Nat) (kd : Int) (w : World) (hX : XEnv w) (hc : l.length ≤ capl) (hm : capl ≤ 9223372036854775807) (hx : Raws w aol l) (k0 : -9223372036854775808 ≤ kd) (k1 : kd ≤ 9223372036854775807) :
    Calls Tryd.prog 7 #[.slice aol l.length capl, .int .i64 kd] w fun e w' => e = .returned (.bool true) ∧ Below w.heap.size w w' := by
  have cE := exprOf_any l aol capl kd w hx hc (by omega) k0 k1
  have hkr : 1 ≤ 1 + kd % 4 ∧ 1 + kd % 4 ≤ 4 := by have := Int.emod_nonneg kd (show (4 : Int) ≠ 0 by decide); have := Int.emod_lt_of_pos kd (show (0 : Int) < 4 by decide); omega
  obtain ⟨n, hn⟩ : ∃ n, l.length = n := ⟨_, rfl⟩
  rw [hn] at cE ⊢
  unfold ExprOfOk at cE
  have HX := Lib.hid hX
  have HKR := Lib.hid hkr
  clear hx hn hc hm hX hkr
  go_enter Tryd.func7, Tryd.ntmps7
  go_wp2_with fail
  refine cE.mono ?_
  rintro e w1 ⟨S, H, m, t, ao, cap, rfl, HT, HXT, HA, HS, HNM, HCP, hwH, hb1⟩
  clear cE hwH
  have X1 := HX.out.keep hb1
  have hcs : Cols w1 S.aoc S.cs := HA.out.1.2.2.show
  have hc0 := HS.out.cols
  have hc4 := HS.out.c4
  obtain ⟨hn1, hcc, hcm⟩ := HCP.out
  obtain ⟨k, nl, nl', e1, e2, hnl⟩ := strict_facts hc0 HKR.out HT.out
  have hxt := HXT.out
  have cO1 : ∀ W, Below w1.heap.size w1 W → Calls Tryd.prog 10 #[exprV t ao cap, .slice S.aoc S.cs.length S.capc] W fun e w' => e = .returned (.tuple #[.int .i64 k, .bool nl, .int .i64 0]) ∧ Below W.heap.size W w' := fun W hW => by
    have := of_any t ao cap S.cs S.aoc S.capc W (X1.keep hW) hxt.n1 ⟨hxt.n2, hxt.n3⟩ (hxt.A.keep hW) hcc hcm (hcs.keep hW)
    rw [e1] at this; exact this
  have cO2 : ∀ W v b, Below w1.heap.size w1 W → OwnC W b v (S.cs.map strictC) → Calls Tryd.prog 10 #[exprV t ao cap, v] W fun e w' => e = .returned (.tuple #[.int .i64 k, .bool nl', .int .i64 0]) ∧ Below W.heap.size W w' := fun W v b hW ho => by
    obtain ⟨ao2, cap2, rfl, h1, h2, h3, _⟩ := OwnC.cols ho (fun c hc => by
      obtain ⟨c', hc', rfl⟩ := List.mem_map.1 hc
      exact ⟨(hcs.1 c' hc').k0, (hcs.1 c' hc').k1, (hcs.1 c' hc').n1⟩)
    have := of_any t ao cap (S.cs.map strictC) ao2 cap2 W (X1.keep hW) hxt.n1 ⟨hxt.n2, hxt.n3⟩ (hxt.A.keep hW) h1 h2 h3
    rw [e2] at this; exact this
  have cO3 : ∀ W, Below w1.heap.size w1 W → Calls Tryd.prog 10 #[.agg #[.int .i64 1, .int .i64 2, .int .i64 0, .int .u64 0, .string ⟨#[]⟩, .string ⟨#[]⟩, .slice none 0 0], .slice none 0 0] W fun e w' => e = .returned (.tuple #[.int .i64 2, .bool false, .int .i64 0]) ∧ Below W.heap.size W w' := fun W hW => by
    have ht := xt_leaf W _ (fit_lit 2 0 0 [] (by decide) (by decide) (by decide) (by decide))
    have := of_any (litT 2 0 0 []) none 0 [] none 0 W (X1.keep hW) ht.n1 ⟨ht.n2, ht.n3⟩ ht.A (Nat.le_refl _) (by decide) ⟨fun c hc => (by cases hc), .inl rfl⟩
    rw [one_facts] at this; exact this
  obtain ⟨xo, xk, xi, xb, xs, xm, xl, hxv⟩ := exprV_seven t ao cap
  rw [hxv]
  simp only [hxv] at cO1 cO2
  clear hxv e1 e2 HXT HA HS HNM HCP hxt hc0
  obtain ⟨aol2, capl2, l2, aoc, capc, cs⟩ := S
  simp only at *
  have HNL := Lib.hid hnl
  have HO2 := Lib.hid cO2
  have HO3 := Lib.hid cO3
  have zX := Blk.new w1 #[.int .i64 xo, .int .i64 xk, .int .i64 xi, .int .u64 xb, .string xs, .string xm, .slice ao xl cap] 31
  have hb2 := (Below.refl w1.heap.size w1).alloc (Nat.le_refl _) (.cells #[.int .i64 xo, .int .i64 xk, .int .i64 xi, .int .u64 xb, .string xs, .string xm, .slice ao xl cap] 31)
  clear hnl cO2 cO3 HT
  obtain ⟨a, o, rfl, ha, hcells⟩ : ∃ a o, aoc = some ⟨a, o, none⟩ ∧ a < w1.heap.size ∧ LiesC w1 a o cs := by
    rcases hcs.2 with h | h
    · rw [h] at hn1; exact absurd hn1 (by decide)
    · exact h
  have HCE := Lib.hid hcells
  clear hcs hcells
  obtain ⟨q, hq⟩ : ∃ q, cs.length = q := ⟨_, rfl⟩
  rw [hq] at cO1 hn1 hc4 hcc ⊢
  have HQ := Lib.hid hq
  clear hq
  go_upto_region 2 with fail
  generalize hw2 : w1.alloc (.cells #[.int .i64 xo, .int .i64 xk, .int .i64 xi, .int .u64 xb, .string xs, .string xm, .slice ao xl cap] 31) = w2 at *
  clear hw2
  have zX2 : Blk w2 w1.heap.size 31 [.int .i64 xo, .int .i64 xk, .int .i64 xi, .int .u64 xb, .string xs, .string xm, .slice ao xl cap] := zX
  have c1 := cO1 w2 hb2
  obtain ⟨p0, p1, p2, p3, p4, p5, p6⟩ := zX2.seven7
  go_wp2_with fail
  refine c1.mono ?_
  rintro e w3 ⟨rfl, hb3⟩
  have hb13 := below_stepH hb2 hb2.size hb3
  have zX3 := zX2.call hb3
  have hlt3 := zX3.lt
  have hb14 := hb13.alloc hb13.size (.cells #[] 43)
  have hl4 : LiesC (w3.alloc (.cells #[] 43)) a o cs := fun j c hj => by
    obtain ⟨c0, c1, c2⟩ := HCE.out j c hj
    exact ⟨(hb14.cell (p := ⟨a, _, none⟩) ha).trans c0, (hb14.cell (p := ⟨a, _, none⟩) ha).trans c1, (hb14.cell (p := ⟨a, _, none⟩) ha).trans c2⟩
  have hnews := lies_cells hl4
  have hba3 := (Below.refl w3.heap.size w3).alloc (Nat.le_refl _) (.cells #[] 43)
  have hon := OwnC.none w3
  have hq5 : ([] : List Cl).length + q ≤ 1000000 := by simp; omega
  have hbs : w3.heap.size ≤ (w3.alloc (.cells #[] 43)).heap.size := hba3.size
  have HNEWS : Hid (∀ j u, (cellsC cs)[j]? = some u → (w3.alloc (.cells #[] 43)).cell? ((⟨a, o, none⟩ : Addr).add j) = some u) := Lib.hid (fun j u hj => by rw [addr_addO]; exact hnews j u hj)
  have HON := Lib.hid hon
  have HB3 := Lib.hid hba3
  have HBS := Lib.hid (And.intro hq5 hbs)
  clear c1 cO1 p0 p1 p2 p3 p4 p5 p6 hb2 hb3 zX zX2 hl4 hnews hb14 hon hq5 hbs
  go_wp2_with (first | (at_builtin; refine wpList_append_colsC rfl (.tmp 33) (.tmp 34) rfl w3.heap.size _ [] rfl HON.out cs ⟨a, o, none⟩ q capc rfl HQ.out HNEWS.out HBS.out.1 HBS.out.2 ?_; intro v w5 ho hb5; have hb35 := Below.trans HB3.out hb5; obtain ⟨g, capv, rfl, hg, hqc, ho5⟩ := OwnC.slice (m := []) ho HQ.out hn1; clear ho) | fail)
  go_loopw [38] (fun i wr => ∃ j : Nat, j ≤ q ∧ i = .int .i64 j ∧ wr.ownsRow w3.heap.size 43 3 (.slice (some ⟨g, 0, none⟩) q capv) q (cellsC (strictN j cs)) ∧ Below w3.heap.size w3 wr) (fun i _ => q - (intOf i).toNat)
  case atStart => exact ⟨0, Nat.zero_le _, rfl, by rw [strictN_zero]; exact ho5, hb35⟩
  case round =>
    obtain ⟨j, hj, rfl, ho, hbw⟩ := hrel
    by_cases h1 : j < q
    · obtain ⟨c, hc⟩ : ∃ c, cs[j]? = some c := ⟨cs[j]'(by rw [HQ.out]; exact h1), List.getElem?_eq_getElem _⟩
      have hcell : wr.cell? ⟨g, j * 3 + 2, none⟩ = some (.bool c.nl) := by
        rw [World.ownsRow.cellAt ho (j * 3 + 2) (by omega), cellsC_at _ j 2 c (strictN_at j cs c hc) (by decide)]; rfl
      have hfr := World.ownsRow.frozenAt ho (j * 3 + 2)
      have hst := (World.ownsRow.stored ho (j * 3 + 2) (.bool false)).1
      rw [cellsC_strict _ j c (strictN_at j cs c hc), strictN_step j cs c hc] at hst
      have hbs := hbw.setCell (p := ⟨g, j * 3 + 2, none⟩) hg (.bool false)
      have HST := Lib.hid (And.intro hst hbs)
      clear hc ho hbw hst hbs ho5
      go_wp2_with fail
      go_roundw
      case rel => exact ⟨j + 1, by omega, by go_num, HST.out.1, HST.out.2⟩
      case measure => simp [intOf]; omega
    · have hjq : j = q := by omega
      have ho6 : OwnC wr w3.heap.size (.slice (some ⟨g, 0, none⟩) q capv) (cs.map strictC) := by
        rw [hjq, ← HQ.out, strictN_all] at ho
        unfold OwnC
        rw [List.length_map, ← HQ.out]
        exact ho
      have hb1r := below_stepH hb13 hb13.size hbw
      have c2 := HO2.out wr _ _ hb1r ho6
      have zX9 := zX3.keep hbw hlt3
      obtain ⟨p0, p1, p2, p3, p4, p5, p6⟩ := zX9.seven7
      have HJ := Lib.hid hjq
      clear ho ho6 hbw hjq zX3 zX9 HNEWS HON HBS ho5
      go_wp2_with fail
      refine c2.mono ?_
      rintro e w7 ⟨rfl, hb7⟩
      have hb17 := below_stepH hb1r hb1r.size hb7
      have c3 := HO3.out w7 hb17
      clear c2 p0 p1 p2 p3 p4 p5 p6 hb7 hb1r HO2 HO3
      go_wp2_with fail
      refine c3.mono ?_
      rintro e w8 ⟨rfl, hb8⟩
      have hb18 := below_stepH hb17 hb17.size hb8
      have hfin := below_stepH hb1 hb1.size hb18
      have hnl := HNL.out
      clear c3 hb17 hb8 HNL
      cases nl' with
      | true =>
        obtain rfl := hnl rfl
        go_wp2_with fail
        go_ret
        exact ⟨by simp, hfin⟩
      | false =>
        clear hnl
        cases nl <;> (go_wp2_with fail; go_ret; exact ⟨by simp, hfin⟩)
end Go.Proofs.YtoleaahnpcbkkaaDoor
