/-
  THE WALK of the law 'chirographkeep.FrameApart'.
  CONDITIONS: each theorem's own hypotheses.
-/
import Derived.Test.YtmldhnghfdhjmaaLawO3
import Derived.Test.YtmldhnghfdhjmaaRegDet
import Derived.Deep.Cut
namespace Go.Proofs.Ytmldhnghfdhjmaa
open Go.RowKit CodeMath Go.Proofs.Ytmldhnghfdhjmaa.FrameMath
set_option linter.unusedVariables false

theorem frames_same (t u : Nat) (ps qs : List (List UInt8)) (t9 : t ≤ 9) (u9 : u ≤ 9) (p8 : ps.length ≤ 8) (q8 : qs.length ≤ 8) (hp : total ps ≤ 272) (hq : total qs ≤ 272) (n : Nat) (hn : n = min (frame t ps).length (frame u qs).length) :
    decide ((frame t ps).take n = (frame u qs).take n) = (decide (t = u) && decide (ps = qs)) ∧ decide (frame t ps = frame u qs) = (decide (t = u) && decide (ps = qs)) := by
  have hpl : ∀ p ∈ ps, p.length < 4294967296 := fun p h => by have := total_mem ps p h; omega
  have hql : ∀ p ∈ qs, p.length < 4294967296 := fun p h => by have := total_mem qs p h; omega
  have key : (frame t ps).take n = (frame u qs).take n → t = u ∧ ps = qs := fun h => by
    rw [hn] at h
    obtain ⟨x, y, hxy⟩ := take_same _ _ h
    obtain ⟨h1, h2, _⟩ := frame_apart t u ps qs x y (by omega) (by omega) (by omega) (by omega) hpl hql hxy
    exact ⟨h1, h2⟩
  by_cases h : t = u ∧ ps = qs
  · obtain ⟨rfl, rfl⟩ := h
    simp
  · have e : (decide (t = u) && decide (ps = qs)) = false := by
      cases h1 : decide (t = u) <;> cases h2 : decide (ps = qs) <;> simp_all
    rw [e]
    exact ⟨decide_eq_false (fun hh => h (key hh)), decide_eq_false (fun hh => h (key (by rw [hh])))⟩
theorem str_beq (l m : List UInt8) : ((str l).toList == (str m).toList) = decide (l = m) := by
  rw [str_toList, str_toList]; by_cases h : l = m <;> simp [h]
set_option maxRecDepth 100000 in
set_option maxHeartbeats 4000000 in
theorem frameApart_walk (tag : Int) (l : List R) (ao : Option Addr) (cap : Nat) (other : Int) (m : List R) (ao' : Option Addr) (cap' : Nat) (w : World) (t0 : -9223372036854775808 ≤ tag) (t1 : tag ≤ 9223372036854775807) (hc : l.length ≤ cap) (hq : cap ≤ 9223372036854775807) (hR : Raws w ao l)
    (o0 : -9223372036854775808 ≤ other) (o1 : other ≤ 9223372036854775807) (hc' : m.length ≤ cap') (hq' : cap' ≤ 9223372036854775807) (hR' : Raws w ao' m) :
    Calls Try.prog 7 #[.int .i64 tag, .slice ao l.length cap, .int .i64 other, .slice ao' m.length cap'] w fun e w' => e = .returned (.bool true) ∧ Below w.heap.size w w' := by
  have cP := fun W => picked_any tag 9 W (by decide) (by decide) t0 t1
  have cQ := fun W => picked_any other 9 W (by decide) (by decide) o0 o1
  have cK := partsK_any l ao cap w hc hq hR
  have cK' := fun W h => partsK_any m ao' cap' W hc' hq' h
  obtain ⟨t, h1, h9, ht⟩ := tag_of tag
  obtain ⟨k, hk⟩ : ∃ k, tag % 9 = k := ⟨_, rfl⟩
  rw [hk] at cP ht
  have hk0 : 0 ≤ k := by omega
  have hk1 : k ≤ 8 := by omega
  obtain ⟨u, i1, i9, hu⟩ := tag_of other
  obtain ⟨k', hk'⟩ : ∃ k, other % 9 = k := ⟨_, rfl⟩
  rw [hk'] at cQ hu
  have hk0' : 0 ≤ k' := by omega
  have hk1' : k' ≤ 8 := by omega
  have ps8 := partsL_length l
  have pst := partsL_total l
  have qs8 := partsL_length m
  have qst := partsL_total m
  generalize partsL l = ps at *
  generalize partsL m = qs at *
  have cF := fun ap cp W h => Frame_good t h1 h9 ps ap cp ps8 (by omega) W h
  have cG := fun ap cp W h => Frame_good u i1 i9 qs ap cp qs8 (by omega) W h
  obtain ⟨n, hn⟩ : ∃ n, n = min (frame t ps).length (frame u qs).length := ⟨_, rfl⟩
  obtain ⟨hs1, hs2⟩ := frames_same t u ps qs h9 i9 ps8 qs8 pst qst n hn
  have hfl : 2 ≤ (frame t ps).length := by rw [frame_length]; omega
  have hgl : 2 ≤ (frame u qs).length := by rw [frame_length]; omega
  have hfm : (frame t ps).length ≤ 1000 := by rw [frame_length]; omega
  have hgm : (frame u qs).length ≤ 1000 := by rw [frame_length]; omega
  generalize frame t ps = F at *
  generalize frame u qs = G at *
  obtain ⟨sm, hsm⟩ : ∃ sm, (decide (t = u) && decide (ps = qs)) = sm := ⟨_, rfl⟩
  rw [hsm] at hs1 hs2
  have hp1 := str_beq (F.take n) (G.take n)
  have hp2 := str_beq F G
  rw [hs1] at hp1
  rw [hs2] at hp2
  have hfn : (F.take n).length = n := by rw [List.length_take]; omega
  have hgn : (G.take n).length = n := by rw [List.length_take]; omega
  have hmin : ∀ (ts : Array TypeId) (T : TypeId) (W : World), (Builtin.min_ ts T #[.int .i64 (F.length : Int), .int .i64 (G.length : Int)]).run Try.prog W = .ok (.int .i64 (n : Int)) W := fun ts T W => by
    rw [run_min_int2, hn]
    congr 2
    split <;> omega
  have HSM := Lib.hid hsm
  have nb1 : n ≤ F.length := by omega
  have nb2 : n ≤ G.length := by omega
  have psm : ps.length ≤ 9223372036854775807 := by omega
  have qsm : qs.length ≤ 9223372036854775807 := by omega
  clear hk hk' pst qst hs1 hs2 hn hsm
  generalize l.length = nl at *
  generalize m.length = nm at *
  go_enter Try.func7, Try.ntmps7
  go_wp2_with fail
  refine (cP _).mono ?_
  rintro e w1 ⟨rfl, rfl⟩
  clear cP
  go_wp2_with fail
  refine (cQ _).mono ?_
  rintro e w1 ⟨rfl, rfl⟩
  clear cQ
  go_wp2_with fail
  refine cK.mono ?_
  rintro e w2 ⟨v2, rfl, ho2, hb2⟩
  clear cK
  have c := cK' w2 (hR'.keep hb2)
  clear cK' hR hR' ht hu hk0 hk1 hk0' hk1'
  go_wp2_with fail
  refine c.mono ?_
  rintro e w3 ⟨v3, rfl, ho3, hb3⟩
  clear c
  have hbb3 := below_step hb2 hb2.size hb3
  obtain ⟨a2, k2, rfl, g1, g2, g3, g4⟩ := (ho2.keep hb3).lines
  obtain ⟨a3, k3, rfl, j1, j2, j3, j4⟩ := ho3.lines
  have c := cF a2 k2 w3 g4
  obtain ⟨pl, hpl⟩ : ∃ pl, ps.length = pl := ⟨_, rfl⟩
  obtain ⟨ql, hql⟩ : ∃ ql, qs.length = ql := ⟨_, rfl⟩
  rw [hpl] at c
  rw [hql] at cG
  rw [hpl, hql]
  have HPL := Lib.hid hpl
  have HQL := Lib.hid hql
  have HPM := Lib.hid psm
  have HQM := Lib.hid qsm
  clear cF g1 g2 g3 j1 j2 j3 ho2 ho3 hpl hql psm qsm ps8 qs8
  go_wp2_with fail
  refine c.mono ?_
  rintro e w4 ⟨v4, rfl, ho4, hb4⟩
  clear c
  have hbb4 := below_step hbb3 hbb3.size hb4
  have c := cG a3 k3 w4 (j4.keep hb4)
  clear cG
  obtain ⟨a4, k4, rfl, f1, f2, f3, f4⟩ := ho4.rowT.row
  obtain ⟨fl, hfl'⟩ : ∃ fl, F.length = fl := ⟨_, rfl⟩
  obtain ⟨gl, hgl'⟩ : ∃ gl, G.length = gl := ⟨_, rfl⟩
  have HFL := Lib.hid hfl'
  have HGL := Lib.hid hgl'
  rw [hfl'] at hmin hfl hfm nb1 f1 ⊢
  rw [hgl'] at hmin hgl hgm nb2
  clear hfl' hgl' ho4
  go_wp2_with fail
  refine c.mono ?_
  rintro e w5 ⟨v5, rfl, ho5, hb5⟩
  clear c
  have hbb5 := below_step hbb4 hbb4.size hb5
  obtain ⟨a5, k5, rfl, e1, e2, e3, e4⟩ := ho5.rowT.row
  have f5 := f4.keep hb5
  have g5 := ((g4.keep hb4).keep hb5)
  have j5 := ((j4.keep hb4).keep hb5)
  rw [HGL.out] at e1 ⊢
  have hI1 : ¬ (fl : Int) < 2 := by omega
  have hI2 : ¬ (gl : Int) < 2 := by omega
  have cL := keepLists_any ps qs a2 a3 k2 k3 w5 g5 j5 HPM.out HQM.out
  rw [HPL.out, HQL.out] at cL
  clear ho5 g4 j4 f4 hb5 hb4 hb3 hb2
  have hnk4 : n ≤ k4 := by omega
  have hnk5 : n ≤ k5 := by omega
  have sF := fun W => slice_first a4 fl k4 n hnk4 W
  have sG := fun W => slice_first a5 gl k5 n hnk5 W
  have qF : ∀ W, Below w5.heap.size w5 W → (convert 23 9 (.slice a4 fl k4)).run Try.prog W = .ok (.string (str F)) W := fun W hW => by rw [← HFL.out]; exact bytes_string (f5.keep hW)
  have qG : ∀ W, Below w5.heap.size w5 W → (convert 23 9 (.slice a5 gl k5)).run Try.prog W = .ok (.string (str G)) W := fun W hW => by rw [← HGL.out]; exact bytes_string (e4.keep hW)
  have qFn : ∀ W, Below w5.heap.size w5 W → (convert 23 9 (.slice a4 n k4)).run Try.prog W = .ok (.string (str (F.take n))) W := fun W hW => by
    have := bytes_string (cap := k4) (bytes_front (f5.keep hW) n)
    rwa [hfn] at this
  have qGn : ∀ W, Below w5.heap.size w5 W → (convert 23 9 (.slice a5 n k5)).run Try.prog W = .ok (.string (str (G.take n))) W := fun W hW => by
    have := bytes_string (cap := k5) (bytes_front (e4.keep hW) n)
    rwa [hgn] at this
  have QF := Lib.hid qF
  have QG := Lib.hid qG
  have QFn := Lib.hid qFn
  have QGn := Lib.hid qGn
  have HNB := Lib.hid hbb5
  clear qF qG qFn qGn e1 e2 e3 f1 f2 f3 f5 e4 hfn hgn nb1 nb2 hnk4 hnk5 g5 j5 hbb5
  generalize str F = SF at *
  generalize str G = SG at *
  generalize str (F.take n) = SFn at *
  generalize str (G.take n) = SGn at *
  by_cases htu : t = u
  · have tI : (t : Int) = u := by omega
    have hd : decide (ps = qs) = sm := by rw [← HSM.out, decide_eq_true htu, Bool.true_and]
    rw [hd] at cL
    clear HSM hd
    subst htu
    go_wp2_with (first
      | (go_at_call 16; refine cL.mono ?_; rintro e w6 ⟨rfl, hb6⟩; clear cL)
      | fail)
    go_upto_region 9 with fail
    refine wp_region_det 21 (by kernel_rfl) (by kernel_rfl) (by kernel_rfl) ?_
    simp only [List.take_succ_cons, List.take_zero, List.drop_succ_cons, List.drop_zero]
    repeat (first
      | (apply wpDet_plain _ rfl; (focus (intro W hW; have hW5 := below_step hb6 hb6.size hW; have r1 := QF.out W hW5; have r2 := QG.out W hW5; go_simp; exact ⟨rfl, Below.refl _ _⟩)); simp only [Act.put, List.setIfInBounds_toArray, List.set_cons_zero, List.set_cons_succ])
      | (apply wpDet_want _ (by kernel_rfl); (focus (intro W hW; have hW5 := below_step hb6 hb6.size hW; have r1 := QFn.out W hW5; have r2 := QGn.out W hW5; have r3 := sF W; have r4 := sG W; go_simp; exact ⟨rfl, Below.refl _ _⟩)); simp only [Act.put, List.setIfInBounds_toArray, List.set_cons_zero, List.set_cons_succ]))
    refine wpDet_nil ?_
    intro W9 hW9
    have hBB := below_step HNB.out HNB.out.size (below_step hb6 hb6.size hW9)
    clear QF QG QFn QGn HNB sF sG
    go_wp2_with fail
    go_ret
    exact ⟨rfl, hBB⟩
  · have tI : ¬ (t : Int) = u := by omega
    have hd : sm = false := by rw [← HSM.out, decide_eq_false htu, Bool.false_and]
    subst hd
    clear HSM cL
    go_upto_region 9 with fail
    refine wp_region_det 21 (by kernel_rfl) (by kernel_rfl) (by kernel_rfl) ?_
    simp only [List.take_succ_cons, List.take_zero, List.drop_succ_cons, List.drop_zero]
    repeat (first
      | (apply wpDet_plain _ rfl; (focus (intro W hW; have hW5 := hW; have r1 := QF.out W hW5; have r2 := QG.out W hW5; go_simp; exact ⟨rfl, Below.refl _ _⟩)); simp only [Act.put, List.setIfInBounds_toArray, List.set_cons_zero, List.set_cons_succ])
      | (apply wpDet_want _ (by kernel_rfl); (focus (intro W hW; have hW5 := hW; have r1 := QFn.out W hW5; have r2 := QGn.out W hW5; have r3 := sF W; have r4 := sG W; go_simp; exact ⟨rfl, Below.refl _ _⟩)); simp only [Act.put, List.setIfInBounds_toArray, List.set_cons_zero, List.set_cons_succ]))
    refine wpDet_nil ?_
    intro W9 hW9
    have hBB := below_step HNB.out HNB.out.size (hW9)
    clear QF QG QFn QGn HNB sF sG
    go_wp2_with fail
    go_ret
    exact ⟨rfl, hBB⟩
end Go.Proofs.Ytmldhnghfdhjmaa
