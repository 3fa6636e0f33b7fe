/-
  THE WALK of the law 'chirographkeep.TreeSwaps'.
  CONDITIONS: each theorem's own hypotheses.
-/
import Derived.Test.YtopgakdgifmecaaLawTm
namespace Go.Proofs.Ytopgakdgifmecaa
open Go.RowKit
set_option linter.unusedVariables false
set_option maxRecDepth 4000000

theorem putR_last (s : List UInt8) (v : Int) (l : List En) (h : ∀ e ∈ l, lessS e.1 s = true) : putR s v l = l ++ [(s, v)] := by
  have := putR_mid s v l [] [] h (fun e he => by cases he)
  simpa [putR] using this
theorem putR_before (s y : List UInt8) (v w : Int) (l : List En) (h : ∀ e ∈ l, lessS e.1 s = true) (hy : lessS s y = true) : putR s v (l ++ [(y, w)]) = l ++ [(s, v), (y, w)] := by
  have := putR_mid s v l [] [(y, w)] h (fun e he => by rw [List.mem_singleton] at he; rw [he]; exact hy)
  simpa [putR] using this
theorem cutR_last (s : List UInt8) (v : Int) (l : List En) (h : ∀ e ∈ l, lessS e.1 s = true) : cutR s (l ++ [(s, v)]) = l := by
  unfold cutR
  rw [List.filter_append, List.filter_eq_self.2 (fun e he => by simpa using less_ne (h e he))]
  simp
set_option maxHeartbeats 16000000 in
theorem treeSwaps_walk (l : List R) (ao : Option Addr) (cap : Nat) (iv iw : Int) (w : World) (hc : l.length ≤ cap) (hm : cap ≤ 9223372036854775807) (hR : Raws w ao l) (v0 : -9223372036854775808 ≤ iv) (v1 : iv ≤ 9223372036854775807) (w0 : -9223372036854775808 ≤ iw) (w1 : iw ≤ 9223372036854775807) :
    Calls Try.prog 11 #[.slice ao l.length cap, .int .i64 iv, .int .i64 iw] w fun e w' => e = .returned (.bool true) ∧ Below w.heap.size w w' := by
  have c1 := grown_any l ao cap 40 40 rfl w hc hm (by omega) hR
  obtain ⟨m, hg⟩ : ∃ m, growL (l.take 40) = m := ⟨_, rfl⟩
  have hin : ∀ e ∈ m, _ := fun e he => grow_two (l.take 40) e (by rw [hg]; exact he)
  have hlen : m.length ≤ 40 := by
    rw [← hg]
    have := growL_len (l.take 40)
    rw [List.length_take] at this; omega
  rw [hg] at c1
  have e1 : putR [120] iv m = m ++ [([120], iv)] := putR_last _ _ _ (fun e he => (hin e he).2.2.2.2.1)
  have e2 : putR [121] iw (m ++ [([120], iv)]) = m ++ [([120], iv), ([121], iw)] := by
    rw [putR_last _ _ _ (fun e he => ?_), List.append_assoc]
    · rfl
    · rcases List.mem_append.1 he with he | he
      · exact (hin e he).2.2.2.2.2
      · rw [List.mem_singleton] at he; rw [he]; exact (by decide +kernel : lessS [120] [121] = true)
  have e3 : putR [121] iw m = m ++ [([121], iw)] := putR_last _ _ _ (fun e he => (hin e he).2.2.2.2.2)
  have e4 : putR [120] iv (m ++ [([121], iw)]) = m ++ [([120], iv), ([121], iw)] := putR_before _ _ _ _ _ (fun e he => (hin e he).2.2.2.2.1) (by decide +kernel)
  have e5 : cutR [120] (m ++ [([120], iv)]) = m := cutR_last _ _ _ (fun e he => (hin e he).2.2.2.2.1)
  have e6 : listR (m ++ [([120], iv), ([121], iw)]) [] [122, 122] = m ++ [([120], iv), ([121], iw)] := listR_all _ (fun e he => by
    rcases List.mem_append.1 he with he | he
    · exact ⟨(hin e he).1, (hin e he).2.1⟩
    · simp only [List.mem_cons, List.not_mem_nil, or_false] at he
      rcases he with rfl | rfl
      · exact ⟨(by decide +kernel : lessS [120] [] = false), (by decide +kernel : lessS [122, 122] [120] = false)⟩
      · exact ⟨(by decide +kernel : lessS [121] [] = false), (by decide +kernel : lessS [122, 122] [121] = false)⟩)
  have e7 : listR m [] [122, 122] = m := listR_all _ (fun e he => ⟨(hin e he).1, (hin e he).2.1⟩)
  have e8 : (m ++ [([120], iv)]).any (fun e => e.1 == [120]) = true := by simp
  have E1 := Lib.hid e1
  have E2 := Lib.hid e2
  have E3 := Lib.hid e3
  have E4 := Lib.hid e4
  have E5 := Lib.hid e5
  have E6 := Lib.hid e6
  have E7 := Lib.hid e7
  have E8 := Lib.hid e8
  obtain ⟨M, hM⟩ : ∃ M, m.length = M := ⟨_, rfl⟩
  have E9 : Hid (m.length = M) := Lib.hid hM
  have HM40 : Hid (M ≤ 40) := Lib.hid (by omega)
  have E10 : Hid ((m ++ [([120], iv), ([121], iw)]).length = M + 2) := Lib.hid (by rw [List.length_append, hM]; rfl)
  clear hg hin e1 e2 e3 e4 e5 e6 e7 e8 hM
  generalize l.length = RN at *
  go_enter Try.func11, Try.ntmps11
  go_wp2_with fail
  refine c1.mono ?_
  rintro e wa ⟨au0, nu0, cu0, vr, rfl, ht, ho, hb⟩
  clear c1
  have HT0 := Lib.hid ht
  obtain ⟨av, kv, rfl, -⟩ := owns_shape ho
  have HO := Lib.hid ho
  have HB := Lib.hid hb
  clear ht ho hb
  have z0 : Blk _ _ _ [_] := Blk.new wa #[.slice au0 nu0 cu0] 24
  have hb0 := (Below.refl wa.heap.size wa).alloc (Nat.le_refl _) (.cells #[.slice au0 nu0 cu0] 24)
  obtain ⟨wv0, hw0⟩ : ∃ W, wa.alloc (.cells #[.slice au0 nu0 cu0] 24) = W := ⟨_, rfl⟩
  rw [hw0] at z0 hb0
  obtain ⟨m0, hm0⟩ : ∃ x, wa.heap.size = x := ⟨_, rfl⟩
  rw [hm0] at z0
  have HW0 := Lib.hid hw0
  have HM0 := Lib.hid hm0
  replace HT0 := Lib.hid (HT0.out.keep hb0)
  replace HO := Lib.hid (HO.out.keep hb0)
  replace HB := Lib.hid (below_stepE HB.out HB.out.size hb0)
  clear hb0
  have HZ0 := Lib.hid z0
  clear z0 hw0 hm0
  go_upto_region 2 with fail
  rw [HW0.out, HM0.out]
  have q0 := HZ0.out.cell (j := 0) rfl
  have c0 := treePut_tr au0 nu0 cu0 _ [120] iv wv0 HT0.out (by decide) ⟨by omega, by omega⟩
  rw [E1.out, if_neg (by simp only [List.length_append, List.length_cons, List.length_nil]; omega)] at c0
  go_wp2_with fail
  refine c0.mono ?_
  rintro e wb ⟨au1, nu1, cu1, rfl, ht, hb⟩
  have HT1 := Lib.hid (ht (by simp only [List.length_append, List.length_cons, List.length_nil]; omega) _ (fun b _ _ => rfl))
  clear c0 q0 ht
  replace HT0 := Lib.hid (HT0.out.keep hb)
  replace HZ0 := Lib.hid (HZ0.out.call hb)
  replace HO := Lib.hid (HO.out.keep hb)
  replace HB := Lib.hid (below_stepE HB.out HB.out.size hb)
  clear hb
  have z1 : Blk _ _ _ [_] := Blk.new wb #[.slice au1 nu1 cu1] 24
  have hb1 := (Below.refl wb.heap.size wb).alloc (Nat.le_refl _) (.cells #[.slice au1 nu1 cu1] 24)
  obtain ⟨wv1, hw1⟩ : ∃ W, wb.alloc (.cells #[.slice au1 nu1 cu1] 24) = W := ⟨_, rfl⟩
  rw [hw1] at z1 hb1
  obtain ⟨m1, hm1⟩ : ∃ x, wb.heap.size = x := ⟨_, rfl⟩
  rw [hm1] at z1
  have HW1 := Lib.hid hw1
  have HM1 := Lib.hid hm1
  replace HT0 := Lib.hid (HT0.out.keep hb1)
  replace HT1 := Lib.hid (HT1.out.keep hb1)
  replace HZ0 := Lib.hid (HZ0.out.call hb1)
  replace HO := Lib.hid (HO.out.keep hb1)
  replace HB := Lib.hid (below_stepE HB.out HB.out.size hb1)
  clear hb1
  have HZ1 := Lib.hid z1
  clear z1 hw1 hm1
  go_upto_region 3 with fail
  rw [HW1.out, HM1.out]
  have q0 := HZ1.out.cell (j := 0) rfl
  have c0 := treePut_tr au1 nu1 cu1 _ [121] iw wv1 HT1.out (by decide) ⟨by omega, by omega⟩
  rw [E2.out, if_neg (by simp only [List.length_append, List.length_cons, List.length_nil]; omega)] at c0
  go_wp2_with fail
  refine c0.mono ?_
  rintro e wc ⟨au2, nu2, cu2, rfl, ht, hb⟩
  have HT2 := Lib.hid (ht (by simp only [List.length_append, List.length_cons, List.length_nil]; omega) _ (fun b _ _ => rfl))
  clear c0 q0 ht
  replace HT0 := Lib.hid (HT0.out.keep hb)
  replace HT1 := Lib.hid (HT1.out.keep hb)
  replace HZ0 := Lib.hid (HZ0.out.call hb)
  replace HZ1 := Lib.hid (HZ1.out.call hb)
  replace HO := Lib.hid (HO.out.keep hb)
  replace HB := Lib.hid (below_stepE HB.out HB.out.size hb)
  clear hb
  have z2 : Blk _ _ _ [_] := Blk.new wc #[.slice au2 nu2 cu2] 24
  have hb2 := (Below.refl wc.heap.size wc).alloc (Nat.le_refl _) (.cells #[.slice au2 nu2 cu2] 24)
  obtain ⟨wv2, hw2⟩ : ∃ W, wc.alloc (.cells #[.slice au2 nu2 cu2] 24) = W := ⟨_, rfl⟩
  rw [hw2] at z2 hb2
  obtain ⟨m2, hm2⟩ : ∃ x, wc.heap.size = x := ⟨_, rfl⟩
  rw [hm2] at z2
  have HW2 := Lib.hid hw2
  have HM2 := Lib.hid hm2
  replace HT0 := Lib.hid (HT0.out.keep hb2)
  replace HT1 := Lib.hid (HT1.out.keep hb2)
  replace HT2 := Lib.hid (HT2.out.keep hb2)
  replace HZ0 := Lib.hid (HZ0.out.call hb2)
  replace HZ1 := Lib.hid (HZ1.out.call hb2)
  replace HO := Lib.hid (HO.out.keep hb2)
  replace HB := Lib.hid (below_stepE HB.out HB.out.size hb2)
  clear hb2
  have HZ2 := Lib.hid z2
  clear z2 hw2 hm2
  go_upto_region 4 with fail
  rw [HW2.out, HM2.out]
  have q0 := HZ0.out.cell (j := 0) rfl
  have c0 := treePut_tr au0 nu0 cu0 _ [121] iw wv2 HT0.out (by decide) ⟨by omega, by omega⟩
  rw [E3.out, if_neg (by simp only [List.length_append, List.length_cons, List.length_nil]; omega)] at c0
  go_wp2_with fail
  refine c0.mono ?_
  rintro e wd ⟨au3, nu3, cu3, rfl, ht, hb⟩
  have HT3 := Lib.hid (ht (by simp only [List.length_append, List.length_cons, List.length_nil]; omega) _ (fun b _ _ => rfl))
  clear c0 q0 ht
  replace HT0 := Lib.hid (HT0.out.keep hb)
  replace HT1 := Lib.hid (HT1.out.keep hb)
  replace HT2 := Lib.hid (HT2.out.keep hb)
  replace HZ0 := Lib.hid (HZ0.out.call hb)
  replace HZ1 := Lib.hid (HZ1.out.call hb)
  replace HZ2 := Lib.hid (HZ2.out.call hb)
  replace HO := Lib.hid (HO.out.keep hb)
  replace HB := Lib.hid (below_stepE HB.out HB.out.size hb)
  clear hb
  have z3 : Blk _ _ _ [_] := Blk.new wd #[.slice au3 nu3 cu3] 24
  have hb3 := (Below.refl wd.heap.size wd).alloc (Nat.le_refl _) (.cells #[.slice au3 nu3 cu3] 24)
  obtain ⟨wv3, hw3⟩ : ∃ W, wd.alloc (.cells #[.slice au3 nu3 cu3] 24) = W := ⟨_, rfl⟩
  rw [hw3] at z3 hb3
  obtain ⟨m3, hm3⟩ : ∃ x, wd.heap.size = x := ⟨_, rfl⟩
  rw [hm3] at z3
  have HW3 := Lib.hid hw3
  have HM3 := Lib.hid hm3
  replace HT0 := Lib.hid (HT0.out.keep hb3)
  replace HT1 := Lib.hid (HT1.out.keep hb3)
  replace HT2 := Lib.hid (HT2.out.keep hb3)
  replace HT3 := Lib.hid (HT3.out.keep hb3)
  replace HZ0 := Lib.hid (HZ0.out.call hb3)
  replace HZ1 := Lib.hid (HZ1.out.call hb3)
  replace HZ2 := Lib.hid (HZ2.out.call hb3)
  replace HO := Lib.hid (HO.out.keep hb3)
  replace HB := Lib.hid (below_stepE HB.out HB.out.size hb3)
  clear hb3
  have HZ3 := Lib.hid z3
  clear z3 hw3 hm3
  go_upto_region 5 with fail
  rw [HW3.out, HM3.out]
  have q0 := HZ3.out.cell (j := 0) rfl
  have c0 := treePut_tr au3 nu3 cu3 _ [120] iv wv3 HT3.out (by decide) ⟨by omega, by omega⟩
  rw [E4.out, if_neg (by simp only [List.length_append, List.length_cons, List.length_nil]; omega)] at c0
  go_wp2_with fail
  refine c0.mono ?_
  rintro e we ⟨au4, nu4, cu4, rfl, ht, hb⟩
  have HT4 := Lib.hid (ht (by simp only [List.length_append, List.length_cons, List.length_nil]; omega) _ (fun b _ _ => rfl))
  clear c0 q0 ht
  replace HT0 := Lib.hid (HT0.out.keep hb)
  replace HT1 := Lib.hid (HT1.out.keep hb)
  replace HT2 := Lib.hid (HT2.out.keep hb)
  replace HT3 := Lib.hid (HT3.out.keep hb)
  replace HZ0 := Lib.hid (HZ0.out.call hb)
  replace HZ1 := Lib.hid (HZ1.out.call hb)
  replace HZ2 := Lib.hid (HZ2.out.call hb)
  replace HZ3 := Lib.hid (HZ3.out.call hb)
  replace HO := Lib.hid (HO.out.keep hb)
  replace HB := Lib.hid (below_stepE HB.out HB.out.size hb)
  clear hb
  have z4 : Blk _ _ _ [_] := Blk.new we #[.slice au4 nu4 cu4] 24
  have hb4 := (Below.refl we.heap.size we).alloc (Nat.le_refl _) (.cells #[.slice au4 nu4 cu4] 24)
  obtain ⟨wv4, hw4⟩ : ∃ W, we.alloc (.cells #[.slice au4 nu4 cu4] 24) = W := ⟨_, rfl⟩
  rw [hw4] at z4 hb4
  obtain ⟨m4, hm4⟩ : ∃ x, we.heap.size = x := ⟨_, rfl⟩
  rw [hm4] at z4
  have HW4 := Lib.hid hw4
  have HM4 := Lib.hid hm4
  replace HT0 := Lib.hid (HT0.out.keep hb4)
  replace HT1 := Lib.hid (HT1.out.keep hb4)
  replace HT2 := Lib.hid (HT2.out.keep hb4)
  replace HT3 := Lib.hid (HT3.out.keep hb4)
  replace HT4 := Lib.hid (HT4.out.keep hb4)
  replace HZ0 := Lib.hid (HZ0.out.call hb4)
  replace HZ1 := Lib.hid (HZ1.out.call hb4)
  replace HZ2 := Lib.hid (HZ2.out.call hb4)
  replace HZ3 := Lib.hid (HZ3.out.call hb4)
  replace HO := Lib.hid (HO.out.keep hb4)
  replace HB := Lib.hid (below_stepE HB.out HB.out.size hb4)
  clear hb4
  have HZ4 := Lib.hid z4
  clear z4 hw4 hm4
  go_upto_region 6 with fail
  rw [HW4.out, HM4.out]
  have q0 := HZ2.out.cell (j := 0) rfl
  have c0 := treeList_tr au2 nu2 cu2 _ [] [122, 122] wv4 HT2.out
  rw [E6.out] at c0
  go_wp2_with fail
  refine c0.mono ?_
  rintro e wf ⟨up, rfl, ho, hb⟩
  obtain ⟨ap, kp, rfl, -⟩ := owns_shape ho
  replace HT0 := Lib.hid (HT0.out.keep hb)
  replace HT1 := Lib.hid (HT1.out.keep hb)
  replace HT2 := Lib.hid (HT2.out.keep hb)
  replace HT3 := Lib.hid (HT3.out.keep hb)
  replace HT4 := Lib.hid (HT4.out.keep hb)
  replace HZ0 := Lib.hid (HZ0.out.call hb)
  replace HZ1 := Lib.hid (HZ1.out.call hb)
  replace HZ2 := Lib.hid (HZ2.out.call hb)
  replace HZ3 := Lib.hid (HZ3.out.call hb)
  replace HZ4 := Lib.hid (HZ4.out.call hb)
  replace HO := Lib.hid (HO.out.keep hb)
  replace HB := Lib.hid (below_stepE HB.out HB.out.size hb)
  clear hb
  have HOp := Lib.hid ho
  clear c0 q0 ho
  have q0 := HZ4.out.cell (j := 0) rfl
  have c0 := treeList_tr au4 nu4 cu4 _ [] [122, 122] wf HT4.out
  rw [E6.out] at c0
  go_wp2_with fail
  refine c0.mono ?_
  rintro e wg ⟨uq, rfl, ho, hb⟩
  obtain ⟨aq, kq, rfl, -⟩ := owns_shape ho
  replace HT0 := Lib.hid (HT0.out.keep hb)
  replace HT1 := Lib.hid (HT1.out.keep hb)
  replace HT2 := Lib.hid (HT2.out.keep hb)
  replace HT3 := Lib.hid (HT3.out.keep hb)
  replace HT4 := Lib.hid (HT4.out.keep hb)
  replace HZ0 := Lib.hid (HZ0.out.call hb)
  replace HZ1 := Lib.hid (HZ1.out.call hb)
  replace HZ2 := Lib.hid (HZ2.out.call hb)
  replace HZ3 := Lib.hid (HZ3.out.call hb)
  replace HZ4 := Lib.hid (HZ4.out.call hb)
  replace HO := Lib.hid (HO.out.keep hb)
  replace HOp := Lib.hid (HOp.out.keep hb)
  replace HB := Lib.hid (below_stepE HB.out HB.out.size hb)
  clear hb
  have HOq := Lib.hid ho
  clear c0 q0 ho
  go_upto_region 8 with fail
  have q0 := HZ1.out.cell (j := 0) rfl
  have c0 := treeCut_tr au1 nu1 cu1 _ [120] wg HT1.out
  rw [E8.out, if_pos rfl, E5.out] at c0
  go_wp2_with fail
  refine c0.mono ?_
  rintro e wh ⟨au5, nu5, cu5, rfl, ht, hb⟩
  have HT5 := Lib.hid (ht (by first | rfl | trivial) _ (fun b _ _ => rfl))
  clear c0 q0 ht
  replace HT0 := Lib.hid (HT0.out.keep hb)
  replace HT1 := Lib.hid (HT1.out.keep hb)
  replace HT2 := Lib.hid (HT2.out.keep hb)
  replace HT3 := Lib.hid (HT3.out.keep hb)
  replace HT4 := Lib.hid (HT4.out.keep hb)
  replace HZ0 := Lib.hid (HZ0.out.call hb)
  replace HZ1 := Lib.hid (HZ1.out.call hb)
  replace HZ2 := Lib.hid (HZ2.out.call hb)
  replace HZ3 := Lib.hid (HZ3.out.call hb)
  replace HZ4 := Lib.hid (HZ4.out.call hb)
  replace HO := Lib.hid (HO.out.keep hb)
  replace HOp := Lib.hid (HOp.out.keep hb)
  replace HOq := Lib.hid (HOq.out.keep hb)
  replace HB := Lib.hid (below_stepE HB.out HB.out.size hb)
  clear hb
  have z5 : Blk _ _ _ [_] := Blk.new wh #[.slice au5 nu5 cu5] 24
  have hb5 := (Below.refl wh.heap.size wh).alloc (Nat.le_refl _) (.cells #[.slice au5 nu5 cu5] 24)
  obtain ⟨wv5, hw5⟩ : ∃ W, wh.alloc (.cells #[.slice au5 nu5 cu5] 24) = W := ⟨_, rfl⟩
  rw [hw5] at z5 hb5
  obtain ⟨m5, hm5⟩ : ∃ x, wh.heap.size = x := ⟨_, rfl⟩
  rw [hm5] at z5
  have HW5 := Lib.hid hw5
  have HM5 := Lib.hid hm5
  replace HT0 := Lib.hid (HT0.out.keep hb5)
  replace HT1 := Lib.hid (HT1.out.keep hb5)
  replace HT2 := Lib.hid (HT2.out.keep hb5)
  replace HT3 := Lib.hid (HT3.out.keep hb5)
  replace HT4 := Lib.hid (HT4.out.keep hb5)
  replace HT5 := Lib.hid (HT5.out.keep hb5)
  replace HZ0 := Lib.hid (HZ0.out.call hb5)
  replace HZ1 := Lib.hid (HZ1.out.call hb5)
  replace HZ2 := Lib.hid (HZ2.out.call hb5)
  replace HZ3 := Lib.hid (HZ3.out.call hb5)
  replace HZ4 := Lib.hid (HZ4.out.call hb5)
  replace HO := Lib.hid (HO.out.keep hb5)
  replace HOp := Lib.hid (HOp.out.keep hb5)
  replace HOq := Lib.hid (HOq.out.keep hb5)
  replace HB := Lib.hid (below_stepE HB.out HB.out.size hb5)
  clear hb5
  have HZ5 := Lib.hid z5
  clear z5 hw5 hm5
  go_upto_region 9 with fail
  rw [HW5.out, HM5.out]
  have q0 := HZ5.out.cell (j := 0) rfl
  have c0 := treeList_tr au5 nu5 cu5 _ [] [122, 122] wv5 HT5.out
  rw [E7.out] at c0
  go_wp2_with fail
  refine c0.mono ?_
  rintro e wi ⟨ur, rfl, ho, hb⟩
  obtain ⟨ar, kr, rfl, -⟩ := owns_shape ho
  replace HT0 := Lib.hid (HT0.out.keep hb)
  replace HT1 := Lib.hid (HT1.out.keep hb)
  replace HT2 := Lib.hid (HT2.out.keep hb)
  replace HT3 := Lib.hid (HT3.out.keep hb)
  replace HT4 := Lib.hid (HT4.out.keep hb)
  replace HT5 := Lib.hid (HT5.out.keep hb)
  replace HZ0 := Lib.hid (HZ0.out.call hb)
  replace HZ1 := Lib.hid (HZ1.out.call hb)
  replace HZ2 := Lib.hid (HZ2.out.call hb)
  replace HZ3 := Lib.hid (HZ3.out.call hb)
  replace HZ4 := Lib.hid (HZ4.out.call hb)
  replace HZ5 := Lib.hid (HZ5.out.call hb)
  replace HO := Lib.hid (HO.out.keep hb)
  replace HOp := Lib.hid (HOp.out.keep hb)
  replace HOq := Lib.hid (HOq.out.keep hb)
  replace HB := Lib.hid (below_stepE HB.out HB.out.size hb)
  clear hb
  have HOr := Lib.hid ho
  clear c0 q0 ho
  have gp := HOp.out
  have gq := HOq.out
  have gr := HOr.out
  have g0 := HO.out
  have hc1 := fun W (h : Below wi.heap.size wi W) => keepPairs_any _ ap aq kp kq _ _ W (by have := E9.out; rw [E10.out]; omega) (gp.keep h) (gq.keep h)
  have hc2 := fun W (h : Below wi.heap.size wi W) => keepPairs_any _ ar av kr kv _ _ W (by omega) (gr.keep h) (g0.keep h)
  rw [E10.out] at hc1
  rw [E9.out] at hc2 ⊢
  go_upto_region 10 with fail
  have HC1 := Lib.hid hc1
  have HC2 := Lib.hid hc2
  have wM : wrap64 ((M : Int) + 2) = (M : Int) + 2 := IntWalk.wrap64_in _ ⟨by omega, by have := HM40.out; omega⟩
  have wB : (((M + 2 : Nat) : Int) == (M : Int) + 2) = true := by simp
  clear hc1 hc2 gp gq gr g0
  clear E1 E2 E3 E4 E5 E6 E7 E8 v0 v1 w0 w1 hlen HT0 HT1 HT2 HT3 HT4 HT5 HZ0 HZ1 HZ2 HZ3 HZ4 HZ5 HW0 HW1 HW2 HW3 HW4 HW5 HM0 HM1 HM2 HM3 HM4 HM5
  go_wp2_with fail
  refine (HC1.out _ (Below.refl _ _)).mono ?_
  rintro e w6 ⟨rfl, q, rfl⟩
  go_wp2_with fail
  refine (HC2.out _ (below_dqT (Below.refl _ _) q)).mono ?_
  rintro e w6 ⟨rfl, q2, rfl⟩
  go_wp2_with fail
  go_ret
  exact ⟨rfl, below_dqT HB.out _⟩
end Go.Proofs.Ytopgakdgifmecaa
