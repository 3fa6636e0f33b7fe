/-
  THE WALK of the law 'chirographkeep.LengthJoins': for every two texts the law returns true.
  CONDITIONS: the tables lie.
-/
import Derived.Test.YtablacloabpjfabGreatDoorGEve
import Derived.Test.YtablacloabpjfabGreatDoorRawA
namespace Go.Proofs.YtablacloabpjfabGreatDoor
open Go.RowKit
set_option linter.unusedVariables false
set_option maxRecDepth 100000

def txT (s : List UInt8) : T := litT 4 0 0 s
def tJo (s t : List UInt8) : T := opN 18 [opN 19 [txT s, txT t]]
def tAd (s t : List UInt8) : T := opN 5 [opN 18 [txT s], opN 18 [txT t]]
theorem chk_textJ (s : List UInt8) (h : s.length ≤ 20) (hv : Lib.validD s = true) : chkV ⟨4, 0, 0, s⟩ = 0 := chkV_of 4 0 0 s (by decide) (by decide) (by omega) (by simp [own]) (by
  have e : (str s).data.toList = s := by rw [← Lib.toList_data, str_toList]
  simp [good, e, hv])
theorem ty_text (s : List UInt8) (h : s.length ≤ 20) (hv : Lib.validD s = true) : Ty [] 1 4 (txT s) := .inl (.inr ⟨4, 0, 0, s, .inl rfl, chk_textJ s h hv, by decide, by decide, by decide, by decide, rfl⟩)
theorem ty_jo (s t : List UInt8) (hs : s.length ≤ 20) (ht : t.length ≤ 20) (vs : Lib.validD s = true) (vt : Lib.validD t = true) : Ty [] 3 2 (tJo s t) :=
  ty_op1 (.inr (.inl ⟨rfl, rfl, rfl⟩)) (ty_op2 (.inr (.inr (.inr (.inr ⟨rfl, rfl, rfl⟩)))) (ty_text s hs vs) (ty_text t ht vt))
theorem ty_ad (s t : List UInt8) (hs : s.length ≤ 20) (ht : t.length ≤ 20) (vs : Lib.validD s = true) (vt : Lib.validD t = true) : Ty [] 3 2 (tAd s t) :=
  ty_op2 (.inr (.inl ⟨rfl, by decide, rfl⟩)) (ty_op1 (.inr (.inl ⟨rfl, rfl, rfl⟩)) (ty_text s hs vs)) (ty_op1 (.inr (.inl ⟨rfl, rfl, rfl⟩)) (ty_text t ht vt))
theorem ev_text (s : List UInt8) : evT [] [] (txT s) = okE ⟨4, 0, 0, s⟩ := rfl
theorem ev_len (s : List UInt8) : combE 18 [okE ⟨4, 0, 0, s⟩] = okE (intV (runesL s)) := rfl
theorem ev_jo (s t : List UInt8) (hs : s.length ≤ 20) (ht : t.length ≤ 20) (vs : Lib.validD s = true) : evT [] [] (tJo s t) = okE (intV ((runesL s : Int) + runesL t)) := by
  unfold tJo
  rw [ev_op1 _ _ 18 (by decide), ev_op2 _ _ 19 (by decide), ev_text, ev_text]
  have e : combE 19 [okE ⟨4, 0, 0, s⟩, okE ⟨4, 0, 0, t⟩] = okE ⟨4, 0, 0, s ++ t⟩ := by
    refine (comb2_ok 19 _ _ rfl).trans ?_
    unfold op2E
    rw [if_neg (by decide), if_neg (by decide), if_neg (by decide), if_pos rfl]
    unfold joiE
    rw [if_pos (by rfl), if_neg (by show ¬((4 : Int) = 0 ∨ (4 : Int) = 0); decide), if_neg (by show ¬ (40 < s.length + t.length); omega)]; rfl
  rw [e, ev_len, runes_app s t vs]; rfl
theorem ev_ad (s t : List UInt8) (hs : s.length ≤ 20) (ht : t.length ≤ 20) : evT [] [] (tAd s t) = okE (intV ((runesL s : Int) + runesL t)) := by
  unfold tAd
  have h1 := runes_le s
  have h2 := runes_le t
  rw [ev_op2 _ _ 5 (by decide), ev_op1 _ _ 18 (by decide), ev_op1 _ _ 18 (by decide), ev_text, ev_text, ev_len, ev_len, comb_ar 5 _ _ (.inl rfl)]
  show numE _ = _
  rw [numE_in (by unfold in64; omega)]
theorem eval_nil (t : T) (hf : exprR t = 0) (R : RE) (hR : evT [] [] t = R) (ao : Option Addr) (cap : Nat) (w : World) (hX : XEnv w) (hT : XT w t ao cap) :
    Calls Tryz.prog 20 #[exprV t ao cap, .slice none 0 0, .slice none 0 0] w fun e w' => e = .returned (.tuple #[valV R.v, .int .i64 R.f]) ∧ Below w.heap.size w w' := by
  have := eval_any t ao cap [] none 0 [] none 0 w (evIn_nil hT hX)
  rw [evalR_ok _ _ _ hf (by decide), hR] at this
  exact this
theorem str_self (t : ByteArray) : str t.data.toList = t := by cases t; simp [str]
theorem joined_empty (S T : ByteArray) : (!decide (S = ByteArray.empty) || !decide (T = ByteArray.empty)) = !(S ++ T).toList.isEmpty := by
  have h : ∀ X : ByteArray, X = ByteArray.empty ↔ X.data.toList = [] := fun X => ⟨fun h => by rw [h]; rfl, fun h => ByteArray.ext (Array.toList_eq_nil_iff.1 h)⟩
  rw [Lib.toList_data, ByteArray.data_append, Array.toList_append]
  by_cases h1 : S = ByteArray.empty
  · by_cases h2 : T = ByteArray.empty
    · rw [(h S).1 h1, (h T).1 h2]; simp [h1, h2]
    · have := mt (h T).2 h2
      have h3 : ¬ T.data = #[] := fun e => this (by rw [e])
      simp [h1, h2, h3]
  · have := mt (h S).2 h1
    have h3 : ¬ S.data = #[] := fun e => this (by rw [e])
    simp [h1, h3]
theorem xt_text (w : World) (s : List UInt8) (h : s.length ≤ 20) : XT w (txT s) none 0 := xt_leaf w _ (fit_lit 4 0 0 s (by decide) (by decide) (by decide) (by omega))
set_option maxHeartbeats 2000000 in
theorem lit_any (S : ByteArray) (w : World) : Calls Tryz.prog 35 #[.string S] w fun e w' => e = .returned (.agg #[.int .i64 1, .int .i64 4, .int .i64 0, .int .u64 0, .string S, .string ⟨#[]⟩, .slice none 0 0]) ∧ Below w.heap.size w w' := by
  have z := Blk.new w #[.int .i64 0, .int .i64 0, .int .i64 0, .int .u64 0, .string ⟨#[]⟩, .string ⟨#[]⟩, .slice none 0 0] 27
  have hb := (Below.refl w.heap.size w).alloc (Nat.le_refl _) (.cells #[.int .i64 0, .int .i64 0, .int .i64 0, .int .u64 0, .string ⟨#[]⟩, .string ⟨#[]⟩, .slice none 0 0] 27)
  generalize hw1 : w.alloc (.cells #[.int .i64 0, .int .i64 0, .int .i64 0, .int .u64 0, .string ⟨#[]⟩, .string ⟨#[]⟩, .slice none 0 0] 27) = w1 at z hb
  obtain ⟨r0, r1, r2, r3, r4, r5, r6⟩ := z.cells7
  have f0 := z.free 0
  have f1 := z.free 1
  have f2 := z.free 2
  have f3 := z.free 3
  have f4 := z.free 4
  have f5 := z.free 5
  have f6 := z.free 6
  go_enter Tryz.func35, Tryz.ntmps35
  go_upto_region 1 with fail
  try rw [hw1]
  clear hw1
  go_wp2_with fail
  exact bodyPost_ret (results_expr rfl _ _ w.heap.size _ _ _ _ _ _ _ rfl z.set7) rfl ⟨rfl, below_set7 hb (Nat.le_refl _)⟩
set_option maxHeartbeats 16000000 in
theorem lengthJoins_walk (a b : ByteArray) (w : World) (hX : XEnv w) (ha : a.size ≤ 9223372036854775807) (hb : b.size ≤ 9223372036854775807) :
    Calls Tryz.prog 11 #[.string a, .string b] w fun e w' => e = .returned (.bool true) ∧ Below w.heap.size w w' := by
  have cA := fun W => clean_any a W
  have cB := fun W => clean_any b W
  have cL := fun S W => lit_any S W
  unfold CleanOk at cA cB
  have HX := Lib.hid hX
  clear hX
  go_enter Tryz.func11, Tryz.ntmps11
  go_wp2_with fail
  refine (cA _).mono ?_
  rintro e w1 ⟨S, rfl, hS, hvS, hb1⟩
  clear cA
  go_wp2_with fail
  refine (cB _).mono ?_
  rintro e w2 ⟨T, rfl, hT, hvT, hb2⟩
  clear cB
  have hb02 := below_stepE hb1 hb1.size hb2
  obtain ⟨s, hs⟩ : ∃ s, S.data.toList = s := ⟨_, rfl⟩
  obtain ⟨t, ht⟩ : ∃ t, T.data.toList = t := ⟨_, rfl⟩
  have eS : str s = S := by rw [← hs]; exact str_self S
  have eT : str t = T := by rw [← ht]; exact str_self T
  rw [hs] at hvS
  rw [ht] at hvT
  have ls : s.length ≤ 20 := by rw [← eS, str_size] at hS; exact hS
  have lt : t.length ≤ 20 := by rw [← eT, str_size] at hT; exact hT
  have cJ : ∀ W, Calls Tryz.prog 24 #[.int .i64 19, .agg #[.int .i64 1, .int .i64 4, .int .i64 0, .int .u64 0, .string S, .string ⟨#[]⟩, .slice none 0 0], .agg #[.int .i64 1, .int .i64 4, .int .i64 0, .int .u64 0, .string T, .string ⟨#[]⟩, .slice none 0 0]] W (Op2Ok 19 (txT s) (txT t) W) := fun W => by
    have := op2_lit 19 (by decide) (txT s) (txT t) none none 0 0 W (xt_text W s ls) (xt_text W t lt)
    rw [show exprV (txT s) none 0 = .agg #[.int .i64 1, .int .i64 4, .int .i64 0, .int .u64 0, .string (str s), .string ⟨#[]⟩, .slice none 0 0] from rfl, show exprV (txT t) none 0 = .agg #[.int .i64 1, .int .i64 4, .int .i64 0, .int .u64 0, .string (str t), .string ⟨#[]⟩, .slice none 0 0] from rfl, eS, eT] at this
    exact this
  have cLs : ∀ W, Calls Tryz.prog 29 #[.int .i64 18, .agg #[.int .i64 1, .int .i64 4, .int .i64 0, .int .u64 0, .string S, .string ⟨#[]⟩, .slice none 0 0]] W (Op1Ok 18 (txT s) W) := fun W => by
    have := op1_lit 18 (by decide) (txT s) none 0 W (xt_text W s ls)
    rw [show exprV (txT s) none 0 = .agg #[.int .i64 1, .int .i64 4, .int .i64 0, .int .u64 0, .string (str s), .string ⟨#[]⟩, .slice none 0 0] from rfl, eS] at this
    exact this
  have cLt : ∀ W, Calls Tryz.prog 29 #[.int .i64 18, .agg #[.int .i64 1, .int .i64 4, .int .i64 0, .int .u64 0, .string T, .string ⟨#[]⟩, .slice none 0 0]] W (Op1Ok 18 (txT t) W) := fun W => by
    have := op1_lit 18 (by decide) (txT t) none 0 W (xt_text W t lt)
    rw [show exprV (txT t) none 0 = .agg #[.int .i64 1, .int .i64 4, .int .i64 0, .int .u64 0, .string (str t), .string ⟨#[]⟩, .slice none 0 0] from rfl, eT] at this
    exact this
  have cLj : ∀ W g, XT W (opN 19 [txT s, txT t]) (some ⟨g, 0, none⟩) 2 → Calls Tryz.prog 29 #[.int .i64 18, .agg #[.int .i64 19, .int .i64 0, .int .i64 0, .int .u64 0, .string ⟨#[]⟩, .string ⟨#[]⟩, .slice (some ⟨g, 0, none⟩) 2 2]] W (Op1Ok 18 (opN 19 [txT s, txT t]) W) := fun W g h => op1_lit 18 (by decide) _ (some ⟨g, 0, none⟩) 2 W h
  have cAd : ∀ W g h, XT W (opN 18 [txT s]) (some ⟨g, 0, none⟩) 1 → XT W (opN 18 [txT t]) (some ⟨h, 0, none⟩) 1 → Calls Tryz.prog 24 #[.int .i64 5, .agg #[.int .i64 18, .int .i64 0, .int .i64 0, .int .u64 0, .string ⟨#[]⟩, .string ⟨#[]⟩, .slice (some ⟨g, 0, none⟩) 1 1], .agg #[.int .i64 18, .int .i64 0, .int .i64 0, .int .u64 0, .string ⟨#[]⟩, .string ⟨#[]⟩, .slice (some ⟨h, 0, none⟩) 1 1]] W (Op2Ok 5 (opN 18 [txT s]) (opN 18 [txT t]) W) := fun W g h h1 h2 => op2_lit 5 (by decide) _ _ (some ⟨g, 0, none⟩) (some ⟨h, 0, none⟩) 1 1 W h1 h2
  have hle1 := runes_le s
  have hle2 := runes_le t
  have hp1 := runes_pos s
  have hp2 := runes_pos t
  obtain ⟨n, hn⟩ : ∃ n : Int, (runesL s : Int) + runesL t = n := ⟨_, rfl⟩
  have hEJ : ∀ W g, Below w.heap.size w W → XT W (tJo s t) (some ⟨g, 0, none⟩) 1 → Calls Tryz.prog 20 #[.agg #[.int .i64 18, .int .i64 0, .int .i64 0, .int .u64 0, .string ⟨#[]⟩, .string ⟨#[]⟩, .slice (some ⟨g, 0, none⟩) 1 1], .slice none 0 0, .slice none 0 0] W fun e w' => e = .returned (.tuple #[.agg #[.int .i64 2, .int .i64 n, .int .u64 0, .string ⟨#[]⟩], .int .i64 0]) ∧ Below W.heap.size W w' := fun W g hW h => by
    have := eval_nil (tJo s t) (ty_expr (cs := []) (by decide) 3 (by decide) 2 _ (by decide) (ty_jo s t ls lt hvS hvT)) _ (ev_jo s t ls lt hvS) (some ⟨g, 0, none⟩) 1 W (HX.out.keep hW) h
    rw [hn] at this
    exact this
  have hEA : ∀ W g, Below w.heap.size w W → XT W (tAd s t) (some ⟨g, 0, none⟩) 2 → Calls Tryz.prog 20 #[.agg #[.int .i64 5, .int .i64 0, .int .i64 0, .int .u64 0, .string ⟨#[]⟩, .string ⟨#[]⟩, .slice (some ⟨g, 0, none⟩) 2 2], .slice none 0 0, .slice none 0 0] W fun e w' => e = .returned (.tuple #[.agg #[.int .i64 2, .int .i64 n, .int .u64 0, .string ⟨#[]⟩], .int .i64 0]) ∧ Below W.heap.size W w' := fun W g hW h => by
    have := eval_nil (tAd s t) (ty_expr (cs := []) (by decide) 3 (by decide) 2 _ (by decide) (ty_ad s t ls lt hvS hvT)) _ (ev_ad s t ls lt) (some ⟨g, 0, none⟩) 2 W (HX.out.keep hW) h
    rw [hn] at this
    exact this
  have hsS : S.size = s.length := by rw [← eS, str_size]
  have hsT : T.size = t.length := by rw [← eT, str_size]
  have hn0 : n ≤ (S.size : Int) + T.size := by omega
  have hpos : (0 < n) ↔ ¬ (S.size = 0 ∧ T.size = 0) := by
    have e1 : s ≠ [] ↔ ¬ S.size = 0 := by rw [hsS]; exact not_congr List.length_eq_zero_iff.symm
    have e2 : t ≠ [] ↔ ¬ T.size = 0 := by rw [hsT]; exact not_congr List.length_eq_zero_iff.symm
    rw [e1] at hp1
    rw [e2] at hp2
    omega
  have HEJ := Lib.hid hEJ
  have HEA := Lib.hid hEA
  have HCJ := Lib.hid cLj
  have HCA := Lib.hid cAd
  have HN := Lib.hid (And.intro hn0 hpos)
  have HSZ := Lib.hid (And.intro hS hT)
  have tjd : tJo s t = opN 18 [opN 19 [txT s, txT t]] := rfl
  have tad : tAd s t = opN 5 [opN 18 [txT s], opN 18 [txT t]] := rfl
  rw [tjd] at HEJ
  rw [tad] at HEA
  clear hEJ hEA cLj cAd hn0 hpos hS hT hsS hsT hle1 hle2 hp1 hp2 hvS hvT ls lt eS eT hs ht hn tjd tad
  generalize txT s = ts at *
  generalize txT t = tt at *
  clear hb1 hb2
  go_wp2_with fail
  refine (cL S _).mono ?_
  rintro e w3 ⟨rfl, hb3⟩
  have hb03 := below_stepE hb02 hb02.size hb3
  clear hb02 hb3
  go_wp2_with fail
  refine (cL T _).mono ?_
  rintro e w4 ⟨rfl, hb4⟩
  have hb04 := below_stepE hb03 hb03.size hb4
  clear hb03 hb4
  go_wp2_with fail
  refine (cJ _).mono ?_
  rintro e w5 ⟨g5, rfl, hT5, hb5⟩
  have hb05 := below_stepE hb04 hb04.size hb5
  have c6 := HCJ.out w5 g5 hT5.out
  clear hb04 hb5 hT5 cJ HCJ
  go_wp2_with fail
  refine c6.mono ?_
  rintro e w6 ⟨g6, rfl, hT6, hb6⟩
  have hb06 := below_stepE hb05 hb05.size hb6
  have c7 := HEJ.out w6 g6 hb06 hT6.out
  clear hb05 hb6 hT6 c6 HEJ
  go_wp2_with fail
  refine c7.mono ?_
  rintro e w7 ⟨rfl, hb7⟩
  have hb07 := below_stepE hb06 hb06.size hb7
  clear hb06 hb7 c7
  have zJ := Blk.new w7 #[.int .i64 2, .int .i64 n, .int .u64 0, .string ⟨#[]⟩] 24
  have hb08 := hb07.alloc hb07.size (.cells #[.int .i64 2, .int .i64 n, .int .u64 0, .string ⟨#[]⟩] 24)
  go_upto_region 4 with fail
  generalize hw8 : w7.alloc (.cells #[.int .i64 2, .int .i64 n, .int .u64 0, .string ⟨#[]⟩] 24) = w8 at *
  clear hw8 hb07
  generalize w7.heap.size = gJ at *
  go_wp2_with fail
  refine (cL S _).mono ?_
  rintro e w9 ⟨rfl, hb9⟩
  have hb89 := hb9
  clear hb9
  go_wp2_with fail
  refine (cLs _).mono ?_
  rintro e w10 ⟨g10, rfl, hT10, hb10⟩
  have hb810 := below_stepE hb89 hb89.size hb10
  clear hb89 hb10 cLs
  go_wp2_with fail
  refine (cL T _).mono ?_
  rintro e w11 ⟨rfl, hb11⟩
  have hb811 := below_stepE hb810 hb810.size hb11
  have hT11 := Lib.hid (hT10.out.keep hb11)
  clear hb810 hb11 cL hT10
  go_wp2_with fail
  refine (cLt _).mono ?_
  rintro e w12 ⟨g12, rfl, hT12, hb12⟩
  have hb812 := below_stepE hb811 hb811.size hb12
  have c13 := HCA.out w12 g10 g12 (hT11.out.keep hb12) hT12.out
  clear hb811 hb12 cLt hT11 hT12 HCA
  go_wp2_with fail
  refine c13.mono ?_
  rintro e w13 ⟨g13, rfl, hT13, hb13⟩
  have hb813 := below_stepE hb812 hb812.size hb13
  have hb013 := below_stepE hb08 hb08.size hb813
  have c14 := HEA.out w13 g13 hb013 hT13.out
  clear hb812 hb13 hT13 HEA c13 hb013
  go_wp2_with fail
  refine c14.mono ?_
  rintro e w14 ⟨rfl, hb14⟩
  have hb814 := below_stepE hb813 hb813.size hb14
  clear hb813 hb14 c14
  have zA := Blk.new w14 #[.int .i64 2, .int .i64 n, .int .u64 0, .string ⟨#[]⟩] 24
  have zJ15 := (zJ.call hb814).alloc (.cells #[.int .i64 2, .int .i64 n, .int .u64 0, .string ⟨#[]⟩] 24)
  have hb815 := hb814.alloc hb814.size (.cells #[.int .i64 2, .int .i64 n, .int .u64 0, .string ⟨#[]⟩] 24)
  have hb015 := below_stepE hb08 hb08.size hb815
  clear hb814 zJ hb08 hb815
  obtain ⟨⟨p0, p1, p2, p3⟩, _⟩ := zA.four
  obtain ⟨⟨q0, q1, q2, q3⟩, _⟩ := zJ15.four
  go_upto_region 5 with fail
  generalize hw15 : w14.alloc (.cells #[.int .i64 2, .int .i64 n, .int .u64 0, .string ⟨#[]⟩] 24) = w15 at *
  clear hw15 zA zJ15
  generalize w14.heap.size = gA at *
  obtain ⟨hn0, hpos⟩ := HN.out
  obtain ⟨hS, hT⟩ := HSZ.out
  clear HN HSZ HX
  go_wp2_with fail
  go_ret
  exact ⟨by simp; exact joined_empty S T, hb015⟩
end Go.Proofs.YtablacloabpjfabGreatDoor
