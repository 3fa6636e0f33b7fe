/-
  CONTRACT of the reference's SaltOf.
  CONDITIONS: each theorem's own hypotheses.
-/
import Derived.Test.YtmldhnghfdhjmaaDoorSaltA
import Derived.Test.YtmldhnghfdhjmaaDoorFrameT
import Derived.Test.YtmldhnghfdhjmaaDoorGMac
import Derived.Deep.Cut
namespace Go.Proofs.YtmldhnghfdhjmaaDoor
open Go.RowKit CodeMath Go.Proofs.YtmldhnghfdhjmaaDoor.FrameMath
set_option linter.unusedVariables false
set_option maxRecDepth 100000

set_option maxHeartbeats 4000000 in
theorem SaltOf_any (m : Int) (s : List UInt8) (ao : Option Addr) (cap : Nat) (step place : Int) (w : World) (m0 : -9223372036854775808 ≤ m) (m1 : m ≤ 9223372036854775807) (hc : s.length ≤ cap) (hq : cap ≤ 9223372036854775807) (hn : ao = none → cap = 0) (hb : Bytes w ao s) (s0 : -9223372036854775808 ≤ step) (s1 : step ≤ 9223372036854775807) (p0 : -9223372036854775808 ≤ place) (p1 : place ≤ 9223372036854775807) :
    Calls Tryd.prog 14 #[.int .i64 m, .slice ao s.length cap, .int .i64 step, .int .i64 place] w (DigPost (saltR m s step place) w) := by
  have cM := fun W => badMode_any m W m0 m1
  obtain ⟨R, hR⟩ : ∃ R, saltR m s step place = R := ⟨_, rfl⟩
  rw [hR]
  unfold saltR at hR
  have hBB := Below.refl w.heap.size w
  cases hm : isMode m with
  | false =>
    rw [if_pos hm] at hR
    subst hR
    rw [hm] at cM
    clear hm hn hb hc
    generalize s.length = n
    go_enter Tryd.func14, Tryd.ntmps14
    go_wp2_with fail
    refine (cM _).mono ?_
    rintro e w1 ⟨rfl, rfl⟩
    go_wp2_with fail
    go_ret2
    exact ⟨rfl, hBB⟩
  | true =>
    rw [if_neg (by rw [hm]; decide)] at hR
    rw [hm] at cM
    by_cases h16 : 16 < s.length
    · rw [if_pos h16] at hR
      subst hR
      have hI : (16 : Int) < s.length := by omega
      clear hm hn hb hc h16
      generalize s.length = n at *
      go_enter Tryd.func14, Tryd.ntmps14
      go_wp2_with fail
      refine (cM _).mono ?_
      rintro e w1 ⟨rfl, rfl⟩
      go_wp2_with fail
      go_ret2
      exact ⟨rfl, hBB⟩
    · rw [if_neg h16] at hR
      subst hR
      have hI : ¬ (16 : Int) < s.length := by omega
      have hmm : m = 1 ∨ m = 2 := by simpa [isMode] using hm
      have hs0 := Int.emod_nonneg step (show (18446744073709551616 : Int) ≠ 0 by decide)
      have hs1 := Int.emod_lt_of_pos step (show (0 : Int) < 18446744073709551616 by decide)
      have hp0 := Int.emod_nonneg place (show (18446744073709551616 : Int) ≠ 0 by decide)
      have hp1 := Int.emod_lt_of_pos place (show (0 : Int) < 18446744073709551616 by decide)
      have ws : IntKind.u64.wrap step = step % 18446744073709551616 := IntKind.wrap_u64 step
      have wp : IntKind.u64.wrap place = place % 18446744073709551616 := IntKind.wrap_u64 place
      have c1 := fun W => big_k (step % 18446744073709551616) 8 8 rfl W hs0 (by omega) (by decide)
      have c2 := fun W => big_k (place % 18446744073709551616) 8 8 rfl W hp0 (by omega) (by decide)
      rw [show be (step % 18446744073709551616) 8 = wd step from rfl] at c1
      rw [show be (place % 18446744073709551616) 8 = wd place from rfl] at c2
      have l1 := wd_length step
      have l2 := wd_length place
      have v1 := fun W => bytesOf_T (wd step) W (by rw [l1]; decide)
      have v2 := fun W => bytesOf_T (wd place) W (by rw [l2]; decide)
      rw [l1] at v1
      rw [l2] at v2
      unfold saltB
      by_cases h2 : m = 2
      · rw [if_pos h2]
        subst h2
        have cF := fun ap W h => framed_any 3 3 rfl (by decide) [s, wd step, wd place] ap 3 W h (by simp) (by simp only [total, l1, l2]; omega)
        rw [show [s, wd step, wd place].length = 3 from rfl] at cF
        have hfl : (frame 3 [s, wd step, wd place]).length ≤ 100 := by rw [frame_length]; simp only [total, l1, l2]; omega
        generalize frame 3 [s, wd step, wd place] = F at *
        have cv := fun W => bytesOf_T F W (by omega)
        generalize str F = SF at *
        have hrs : ∀ W, Below w.heap.size w W → RowV W (.slice ao s.length cap) s := fun W hW => ⟨ao, cap, rfl, hc, hq, hn, hb.keep hW⟩
        have HRS := Lib.hid hrs
        generalize wd step = A at *
        generalize wd place = B at *
        generalize str A = SA at *
        generalize str B = SB at *
        generalize step % 18446744073709551616 = ST at *
        generalize place % 18446744073709551616 = PL at *
        clear hm hmm hn hb hc h16 hrs l1 l2 hfl
        obtain ⟨n, hnn⟩ : ∃ n, s.length = n := ⟨_, rfl⟩
        have HNN := Lib.hid hnn
        rw [hnn] at hI ⊢
        clear hnn
        go_enter Tryd.func14, Tryd.ntmps14
        go_wp2_with fail
        refine (cM _).mono ?_
        rintro e w1 ⟨rfl, rfl⟩
        clear cM
        go_wp2_with fail
        refine (c1 _).mono ?_
        rintro e w1 ⟨rfl, hb1⟩
        clear c1
        obtain ⟨g2, k2, w2, q2, hr2, hb2⟩ := v1 w1
        clear v1
        have hbb2 := below_step hb1 hb1.size hb2
        go_wp2_with fail
        refine (c2 _).mono ?_
        rintro e w3 ⟨rfl, hb3⟩
        clear c2 q2
        have hbb3 := below_step hbb2 hbb2.size hb3
        obtain ⟨g4, k4, w4, q4, hr4, hb4⟩ := v2 w3
        clear v2
        have hbb4 := below_step hbb3 hbb3.size hb4
        have hx1 := ((hr2.keep hb3).keep hb4).row
        have hx2 := hr4.row
        have hx0 := HRS.out w4 hbb4
        rw [HNN.out] at hx0
        have hlin := fun T => lines_three w4 _ _ _ T _ _ _ hx0 hx1 hx2
        have hba : ∀ o, Below w.heap.size w (w4.alloc o) := fun o => hbb4.alloc hbb4.size o
        clear hx0 hx1 hx2 hr2 hr4 HRS
        go_wp2_with fail
        refine (cF _ _ (hlin _)).mono ?_
        rintro e w5 ⟨rfl, hb5⟩
        have hbb5 := below_step (hba _) (hba _).size hb5
        clear cF hlin hba q4
        obtain ⟨g6, k6, w6, q6, hr6, hb6⟩ := cv w5
        have hbb6 := below_step hbb5 hbb5.size hb6
        generalize F.length = fl at *
        go_wp2_with fail
        go_ret2
        exact ⟨_, rfl, hr6, hbb6⟩
      · rw [if_neg h2]
        obtain rfl : m = 1 := by omega
        have cF := fun ap W h => framed_any 3 3 rfl (by decide) [wd step, wd place] ap 2 W h (by simp) (by simp only [total, l1, l2]; omega)
        rw [show [wd step, wd place].length = 2 from rfl] at cF
        have hfl : (frame 3 [wd step, wd place]).length ≤ 100 := by rw [frame_length]; simp only [total, l1, l2]; omega
        generalize frame 3 [wd step, wd place] = F at *
        have cv := fun W => bytesOf_T F W (by omega)
        generalize str F = SF at *
        generalize wd step = A at *
        generalize wd place = B at *
        generalize str A = SA at *
        generalize str B = SB at *
        generalize step % 18446744073709551616 = ST at *
        generalize place % 18446744073709551616 = PL at *
        have cS := fun W ab cb h1 h2 h3 h4 => maced_any s F ao ab cap cb W hc hq h1 (by omega) h2 h3 h4 (by omega)
        have hsl : (ShaMath.hmac s F).length = 32 := ShaMath.sha_length _
        generalize ShaMath.hmac s F = H at *
        clear hm hmm hc h16 l1 l2 hfl h2
        obtain ⟨n, hnn⟩ : ∃ n, s.length = n := ⟨_, rfl⟩
        rw [hnn] at hI cS ⊢
        clear hnn
        go_enter Tryd.func14, Tryd.ntmps14
        go_wp2_with fail
        refine (cM _).mono ?_
        rintro e w1 ⟨rfl, rfl⟩
        clear cM
        go_wp2_with fail
        refine (c1 _).mono ?_
        rintro e w1 ⟨rfl, hb1⟩
        clear c1
        obtain ⟨g2, k2, w2, q2, hr2, hb2⟩ := v1 w1
        clear v1
        have hbb2 := below_step hb1 hb1.size hb2
        go_wp2_with fail
        refine (c2 _).mono ?_
        rintro e w3 ⟨rfl, hb3⟩
        clear c2 q2
        have hbb3 := below_step hbb2 hbb2.size hb3
        obtain ⟨g4, k4, w4, q4, hr4, hb4⟩ := v2 w3
        clear v2
        have hbb4 := below_step hbb3 hbb3.size hb4
        have hx1 := ((hr2.keep hb3).keep hb4).row
        have hx2 := hr4.row
        have hlin := fun T => lines_two w4 _ _ T _ _ hx1 hx2
        have hba : ∀ o, Below w.heap.size w (w4.alloc o) := fun o => hbb4.alloc hbb4.size o
        clear hx1 hx2 hr2 hr4
        go_wp2_with fail
        refine (cF _ _ (hlin _)).mono ?_
        rintro e w5 ⟨rfl, hb5⟩
        have hbb5 := below_step (hba _) (hba _).size hb5
        clear cF hlin hba q4
        obtain ⟨g6, k6, w6, q6, hr6, hb6⟩ := cv w5
        have hbb6 := below_step hbb5 hbb5.size hb6
        obtain ⟨a7, k7, e7, i1, i2, i3, i4⟩ := hr6.row
        obtain ⟨e8, _, e9⟩ := Value.slice.inj e7
        subst e9
        have c := cS w6 a7 k6 (hb.keep hbb6) i1 i2 i4
        rw [← e8] at c
        clear cS cv i1 i2 i3 i4 e7 e8 hr6
        generalize F.length = fl at *
        obtain ⟨RA, hRA⟩ : ∃ RA, (u8s H).toArray = RA := ⟨_, rfl⟩
        rw [hRA] at c
        go_wp2_with fail
        refine c.mono ?_
        rintro e w8 ⟨rfl, hb8⟩
        have hbb8 := below_step hbb6 hbb6.size hb8
        clear c q6
        have c32 := fun W (h : Bytes W (some ⟨w8.heap.size, 0, none⟩) H) => bytes_string (cap := 32) h
        rw [hsl] at c32
        have s32 := fun W => slice_all32 w8.heap.size 0 W
        go_upto_region 9 with (first
          | (refine wpList_store_blk rfl 51 (.tmp 12) (.tmp 40) rfl w8.heap.size 0 rfl _ _ (Blk.new w8 _ _) (u8s H) RA (by rw [← hRA]) rfl (by rw [u8s_length, hsl]; decide) (by rw [u8s_length, hsl]; kernel_rfl) (u8s_one _) ?_; intro x3 hg7 hs7 hB7)
          | fail)
        have hB8 : Blk x3 w8.heap.size 51 (u8s H) := by
          rw [List.take_zero, List.nil_append, u8s_length, hsl, List.drop_of_length_le (by decide), List.append_nil] at hB7
          exact hB7
        have hb9 := (hbb8.alloc hbb8.size _).grown hg7 (hbb8.alloc hbb8.size _).size (fun k h => by cases h; exact hbb8.size)
        obtain ⟨a9, k9, e9, _, _, _, y9⟩ := (rowT_arr hB8 hsl).row
        obtain ⟨rfl, he1, he2⟩ := Value.slice.inj e9
        have q1 := c32 x3 y9
        obtain ⟨gx, kx, wx, qx, hrx, hbx⟩ := bytesOf_T H x3 (by rw [hsl]; decide)
        rw [hsl] at qx hrx
        have hbbx := below_step hb9 hb9.size hbx
        rw [show (⟨H.toArray⟩ : ByteArray) = str H from rfl] at q1
        generalize str H = SH at q1 qx
        clear hB7 hB8 hg7 hs7 c32 y9 e9 he1 he2
        simp only [Act.put]
        go_wp2_with fail
        go_ret2
        exact ⟨_, rfl, hrx, hbbx⟩
end Go.Proofs.YtmldhnghfdhjmaaDoor
