/-
  THE WALK of the law 'chirographkeep.SaltsApart'.
  CONDITIONS: package sum's roundWords hold what their initialiser lays ('KW').
-/
import Derived.Test.YtmldhnghfdhjmaaDoorSaltA
import Derived.Test.YtmldhnghfdhjmaaDoorGParse
namespace Go.Proofs.YtmldhnghfdhjmaaDoor
open Go.RowKit CodeMath Go.Proofs.YtmldhnghfdhjmaaDoor.FrameMath
set_option linter.unusedVariables false
set_option maxRecDepth 100000

theorem wd_inj (a b : Int) (a0 : -9223372036854775808 ≤ a) (a1 : a ≤ 9223372036854775807) (b0 : -9223372036854775808 ≤ b) (b1 : b ≤ 9223372036854775807) (h : wd a = wd b) : a = b := by
  have h1 := congrArg (fun l => num l 0) h
  simp only [wd, num_be] at h1
  have e : (256 : Int) ^ 8 = 18446744073709551616 := by decide
  rw [e] at h1
  omega
theorem salts_same (s : List UInt8) (hs : s.length ≤ 16) (a b c d : Int) (a0 : -9223372036854775808 ≤ a) (a1 : a ≤ 9223372036854775807) (b0 : -9223372036854775808 ≤ b) (b1 : b ≤ 9223372036854775807) (c0 : -9223372036854775808 ≤ c) (c1 : c ≤ 9223372036854775807) (d0 : -9223372036854775808 ≤ d) (d1 : d ≤ 9223372036854775807) :
    ((str (frame 3 [s, wd a, wd b])).toList == (str (frame 3 [s, wd c, wd d])).toList) = (decide (a = c) && decide (b = d)) := by
  rw [str_toList, str_toList]
  by_cases h : frame 3 [s, wd a, wd b] = frame 3 [s, wd c, wd d]
  · have h2 : ∀ x y, ∀ p ∈ [s, wd x, wd y], p.length < 4294967296 := fun x y p hp => by
      have hx := wd_length x
      have hy := wd_length y
      simp at hp
      rcases hp with rfl | rfl | rfl <;> omega
    obtain ⟨_, h3, _⟩ := frame_apart 3 3 [s, wd a, wd b] [s, wd c, wd d] [] [] (by decide) (by decide) (by simp) (by simp) (h2 a b) (h2 c d) (by rw [h])
    simp only [List.cons.injEq, and_true, true_and] at h3
    have e1 := wd_inj a c a0 a1 c0 c1 h3.1
    have e2 := wd_inj b d b0 b1 d0 d1 h3.2
    subst e1 e2
    simp
  · have : ¬ (a = c ∧ b = d) := fun hh => h (by rw [hh.1, hh.2])
    rw [beq_eq_false_iff_ne.2 h]
    by_cases h1 : a = c
    · have h2 : ¬ b = d := fun h2 => this ⟨h1, h2⟩
      simp [h2]
    · simp [h1]
set_option maxHeartbeats 4000000 in
theorem saltsApart_walk (s : List UInt8) (ao : Option Addr) (cap : Nat) (step place other far : Int) (w : World) (hT : KW w) (hc : s.length ≤ cap) (hq : cap ≤ 9223372036854775807) (hr : s.length ≤ 140737488351232) (hn : ao = none → cap = 0) (hb : Bytes w ao s) (s0 : -9223372036854775808 ≤ step) (s1 : step ≤ 9223372036854775807) (p0 : -9223372036854775808 ≤ place) (p1 : place ≤ 9223372036854775807) (o0 : -9223372036854775808 ≤ other) (o1 : other ≤ 9223372036854775807) (f0 : -9223372036854775808 ≤ far) (f1 : far ≤ 9223372036854775807) :
    Calls Tryd.prog 6 #[.slice ao s.length cap, .int .i64 step, .int .i64 place, .int .i64 other, .int .i64 far] w fun e w' => e = .returned (.bool true) ∧ Below w.heap.size w w' := by
  obtain ⟨q, hqq⟩ : ∃ q : Nat, min s.length 16 = q := ⟨_, rfl⟩
  have hmin : ∀ (ts : Array TypeId) (t : TypeId) (W : World), (Builtin.min_ ts t #[.int .i64 (s.length : Int), .int .i64 16]).run Tryd.prog W = .ok (.int .i64 (q : Int)) W := fun ts t W => by
    rw [run_min_int2, ← hqq]
    congr 2
    split <;> omega
  have hqc : q ≤ cap := by omega
  have hsl := fun W => slice_first ao s.length cap q hqc W
  have hL : (s.take q).length = q := by rw [List.length_take]; omega
  have hbL := bytes_front hb q
  have q16 : q ≤ 16 := by omega
  generalize s.take q = S at hL hbL
  have hm1 : ∀ m, m = 1 ∨ m = 2 → ∀ x y, saltR m S x y = .ok (saltB m S x y) := fun m hm x y => by
    unfold saltR
    have e : isMode m = true := by unfold isMode; simpa using hm
    rw [if_neg (by rw [e]; decide), if_neg (by omega)]
  have cA := fun W h h2 => Salt_any 2 S ao cap step place W (by decide) (by decide) (by omega) hq hn h s0 s1 p0 p1 h2
  have cB := fun W h h2 => Salt_any 2 S ao cap other far W (by decide) (by decide) (by omega) hq hn h o0 o1 f0 f1 h2
  have cC := fun W h h2 => Salt_any 1 S ao cap step place W (by decide) (by decide) (by omega) hq hn h s0 s1 p0 p1 h2
  rw [hm1 2 (.inr rfl), show saltB 2 S step place = frame 3 [S, wd step, wd place] from rfl, hL] at cA
  rw [hm1 2 (.inr rfl), show saltB 2 S other far = frame 3 [S, wd other, wd far] from rfl, hL] at cB
  rw [hm1 1 (.inl rfl), show saltB 1 S step place = ShaMath.hmac S (frame 3 [wd step, wd place]) from rfl, hL] at cC
  have hcl : (ShaMath.hmac S (frame 3 [wd step, wd place])).length = 32 := ShaMath.sha_length _
  have hss := salts_same S (by omega) step place other far s0 s1 p0 p1 o0 o1 f0 f1
  have hfa : (frame 3 [S, wd step, wd place]).length = 30 + q := by rw [frame_length]; simp only [total, wd_length, hL]; omega
  have hfb : (frame 3 [S, wd other, wd far]).length = 30 + q := by rw [frame_length]; simp only [total, wd_length, hL]; omega
  generalize ShaMath.hmac S (frame 3 [wd step, wd place]) = C at *
  generalize frame 3 [S, wd step, wd place] = A at *
  generalize frame 3 [S, wd other, wd far] = B at *
  obtain ⟨L, hLL⟩ : ∃ L, 30 + q = L := ⟨_, rfl⟩
  rw [hLL] at hfa hfb
  have hLp : (0 : Int) < L := by omega
  have HFA := Lib.hid hfa
  have HFB := Lib.hid hfb
  have HCL := Lib.hid hcl
  have HSS := Lib.hid hss
  clear hqq hL hm1 hb hn hr hLL hfa hfb hcl hss hc q16
  generalize s.length = n at *
  go_enter Tryd.func6, Tryd.ntmps6
  go_wp2_with fail
  refine (cA _ hbL hT).mono ?_
  rintro e w1 ⟨v1, rfl, hr1, hb1⟩
  have c := cB w1 (hbL.keep hb1) (hT.keep hb1 (Nat.le_refl _))
  clear cA cB hmin hsl
  obtain ⟨a1, k1, rfl, _⟩ := hr1.row
  rw [HFA.out] at hr1 ⊢
  go_wp2_with fail
  refine c.mono ?_
  rintro e w2 ⟨v2, rfl, hr2, hb2⟩
  have hbb2 := below_step hb1 hb1.size hb2
  have c' := cC w2 (hbL.keep hbb2) (hT.keep hbb2 (Nat.le_refl _))
  clear c cC
  obtain ⟨a2, k2, rfl, _⟩ := hr2.row
  rw [HFB.out] at hr2 ⊢
  go_wp2_with fail
  refine c'.mono ?_
  rintro e w3 ⟨v3, rfl, hr3, hb3⟩
  have hbb3 := below_step hbb2 hbb2.size hb3
  clear c'
  obtain ⟨a3, k3, rfl, _⟩ := hr3.row
  rw [HCL.out]
  obtain ⟨b1', y1, e1, _, _, _, z1⟩ := ((hr1.keep hb2).keep hb3).row
  obtain ⟨rfl, he1, rfl⟩ := Value.slice.inj e1
  obtain ⟨b2', y2, e2, _, _, _, z2⟩ := (hr2.keep hb3).row
  obtain ⟨rfl, he2, rfl⟩ := Value.slice.inj e2
  clear he1 he2
  have t1 := bytes_string (cap := k1) z1
  have t2 := bytes_string (cap := k2) z2
  rw [HFA.out] at t1
  rw [HFB.out] at t2
  have hss := HSS.out
  rw [show (⟨A.toArray⟩ : ByteArray) = str A from rfl] at t1
  rw [show (⟨B.toArray⟩ : ByteArray) = str B from rfl] at t2
  generalize str A = SA at *
  generalize str B = SB at *
  clear z1 z2 e1 e2 hr1 hr2 hr3 HFA HFB HCL HSS hb1 hb2 hb3
  by_cases h1 : step = other
  · by_cases h2 : place = far
    · have hs2 : (SA.toList == SB.toList) = true := by rw [hss, decide_eq_true h1, decide_eq_true h2]; rfl
      clear hss
      go_wp2_with fail
      go_ret
      exact ⟨rfl, hbb3⟩
    · have hs2 : (SA.toList == SB.toList) = false := by rw [hss, decide_eq_false h2, Bool.and_false]
      clear hss
      go_wp2_with fail
      go_ret
      exact ⟨by show Ending.returned (.bool (!(place == far))) = _; simp [h2], hbb3⟩
  · have hs2 : (SA.toList == SB.toList) = false := by rw [hss, decide_eq_false h1, Bool.false_and]
    clear hss
    go_wp2_with fail
    go_ret
    exact ⟨rfl, hbb3⟩
end Go.Proofs.YtmldhnghfdhjmaaDoor
