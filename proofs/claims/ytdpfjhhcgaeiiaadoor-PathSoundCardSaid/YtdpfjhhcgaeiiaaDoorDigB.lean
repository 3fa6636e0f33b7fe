/-
  CONTRACT of the reference's DigestOf.
  CONDITIONS: each theorem's own hypotheses.
-/
import Derived.Test.YtdpfjhhcgaeiiaaDoorDigA
import Derived.Test.YtdpfjhhcgaeiiaaDoorFrameT
import Derived.Deep.Cut
namespace Go.Proofs.YtdpfjhhcgaeiiaaDoor
open Go.RowKit CodeMath Go.Proofs.YtdpfjhhcgaeiiaaDoor.FrameMath
set_option linter.unusedVariables false
set_option maxRecDepth 100000

set_option maxRecDepth 100000 in
set_option maxHeartbeats 4000000 in
theorem DigestOf_any (m t : Int) (ps : List (List UInt8)) (ap : Option Addr) (cp : Nat) (w : World) (m0 : -9223372036854775808 ≤ m) (m1 : m ≤ 9223372036854775807) (t0 : -9223372036854775808 ≤ t) (t1 : t ≤ 9223372036854775807) (hn : ps.length ≤ 9223372036854775807) (hB : ∀ l ∈ ps, l.length ≤ 140737488351232) (hl : Lines w ap ps) :
    Calls Tryd.prog 81 #[.int .i64 m, .int .i64 t, .slice ap ps.length cp] w (DigPost (digR m t ps) w) := by
  have cM := fun W => badMode_any m W m0 m1
  obtain ⟨R, hR⟩ : ∃ R, digR m t ps = R := ⟨_, rfl⟩
  rw [hR]
  unfold digR at hR
  have hBB := Below.refl w.heap.size w
  cases hm : isMode m with
  | false =>
    rw [if_pos hm] at hR
    subst hR
    rw [hm] at cM
    clear hm hn hB
    generalize ps.length = n
    go_enter Tryd.func81, Tryd.ntmps81
    go_wp2_with fail
    refine (cM _).mono ?_
    rintro e w1 ⟨rfl, rfl⟩
    go_wp2_with fail
    go_ret2
    exact ⟨rfl, hBB⟩
  | true =>
    rw [if_neg (by rw [hm]; decide)] at hR
    rw [hm] at cM
    by_cases ht : 1 ≤ t ∧ t ≤ 9
    · rw [if_neg (by simpa using ht)] at hR
      by_cases hb : 8 < ps.length ∨ 16777216 < 2 + total ps
      · rw [if_pos hb] at hR
        subst hR
        have cF : Calls Tryd.prog 100 #[.int .i64 t, .slice ap ps.length cp] w fun e w' => e = .returned (.tuple #[.slice none 0 0, .int .i64 1]) ∧ w = w' := by
          by_cases h8 : 8 < ps.length
          · exact FrameOf_many t ht ap ps.length cp h8 hn w
          · exact FrameOf_big t ht ps ap cp (by omega) (by omega) w hl hB
        clear hm hn hB hb hl ht
        generalize ps.length = n at *
        go_enter Tryd.func81, Tryd.ntmps81
        go_wp2_with fail
        refine (cM _).mono ?_
        rintro e w1 ⟨rfl, rfl⟩
        clear cM
        go_wp2_with fail
        refine cF.mono ?_
        rintro e w1 ⟨rfl, rfl⟩
        go_wp2_with fail
        go_ret2
        exact ⟨rfl, hBB⟩
      · rw [if_neg hb] at hR
        subst hR
        obtain ⟨T, rfl⟩ : ∃ T : Nat, t = T := ⟨t.toNat, by omega⟩
        rw [Int.toNat_natCast]
        have cF := FrameOf_goodT T (by omega) (by omega) ps ap cp (by omega) (by omega) w hl
        have hfl := frame_length T ps
        have hfm : (frame T ps).length ≤ 16777216 := by omega
        have hmm : m = 1 ∨ m = 2 := by simpa [isMode] using hm
        unfold digB
        clear hfl
        generalize frame T ps = F at *
        clear hn hB hb hl ht
        generalize ps.length = n at *
        by_cases h2 : m = 2
        · rw [if_pos h2]
          subst h2
          clear hm hmm
          go_enter Tryd.func81, Tryd.ntmps81
          go_wp2_with fail
          refine (cM _).mono ?_
          rintro e w1 ⟨rfl, rfl⟩
          clear cM
          go_wp2_with fail
          refine cF.mono ?_
          rintro e w1 ⟨v1, rfl, hr, hb1⟩
          clear cF
          go_wp2_with fail
          go_ret2
          exact ⟨_, rfl, hr, hb1⟩
        · rw [if_neg h2]
          obtain rfl : m = 1 := by omega
          have cS := fun W ab cb h1 h2 h3 => summed_any F ab cb W h1 h2 h3 (by omega)
          have hsl : (ShaMath.sha F).length = 32 := ShaMath.sha_length _
          generalize ShaMath.sha F = H at *
          clear hm hmm h2
          go_enter Tryd.func81, Tryd.ntmps81
          go_wp2_with fail
          refine (cM _).mono ?_
          rintro e w1 ⟨rfl, rfl⟩
          clear cM
          go_wp2_with fail
          refine cF.mono ?_
          rintro e w1 ⟨v1, rfl, hr1, hb1⟩
          clear cF
          obtain ⟨a1, k1, rfl, i1, i2, i3, i4⟩ := hr1.row
          have c := cS w1 a1 k1 i1 i2 i4
          clear cS i1 i2 i3 i4 hr1
          generalize F.length = fl at *
          obtain ⟨RA, hRA⟩ : ∃ RA, (u8s H).toArray = RA := ⟨_, rfl⟩
          rw [hRA] at c
          go_wp2_with fail
          refine c.mono ?_
          rintro e w2 ⟨rfl, hb2⟩
          have hbb := below_step hb1 hb1.size hb2
          clear c
          have hba : ∀ o, Below w.heap.size w (w2.alloc o) := fun o => hbb.alloc hbb.size o
          have c32 := fun W (h : Bytes W (some ⟨w2.heap.size, 0, none⟩) H) => bytes_string (cap := 32) h
          rw [hsl] at c32
          have s32 := fun W => slice_all32 w2.heap.size 0 W
          go_upto_region 6 with (first
            | (refine wpList_store_blk rfl 123 (.tmp 10) (.tmp 26) rfl w2.heap.size 0 rfl _ _ (Blk.new w2 _ _) (u8s H) RA (by rw [← hRA]) rfl (by rw [u8s_length, hsl]; decide) (by rw [u8s_length, hsl]; kernel_rfl) (u8s_one _) ?_; intro x3 hg7 hs7 hB7)
            | fail)
          have hB8 : Blk x3 w2.heap.size 123 (u8s H) := by
            rw [List.take_zero, List.nil_append, u8s_length, hsl, List.drop_of_length_le (by decide), List.append_nil] at hB7
            exact hB7
          have hb3 := (hbb.alloc hbb.size _).grown hg7 (hbb.alloc hbb.size _).size (fun k h => by cases h; exact hbb.size)
          obtain ⟨a9, k9, e9, _, _, _, y9⟩ := (rowT_arr hB8 hsl).row
          obtain ⟨rfl, he1, he2⟩ := Value.slice.inj e9
          have q1 := c32 x3 y9
          obtain ⟨g4, k4, w4, q2, hr4, hb4⟩ := bytesOf_T H x3 (by rw [hsl]; decide)
          rw [hsl] at q2 hr4
          have hb5 := below_step hb3 hb3.size hb4
          rw [show (⟨H.toArray⟩ : ByteArray) = str H from rfl] at q1
          generalize str H = SH at q1 q2
          clear hB7 hB8 hg7 hs7 c32 hba y9 e9 he1 he2
          simp only [Act.put]
          go_wp2_with fail
          go_ret2
          exact ⟨_, rfl, hr4, hb5⟩
    · rw [if_pos (by simpa using ht)] at hR
      subst hR
      have cF := FrameOf_badTag t ht (.slice ap ps.length cp) w t0 t1
      clear hm hn hB hl ht
      generalize ps.length = n at *
      go_enter Tryd.func81, Tryd.ntmps81
      go_wp2_with fail
      refine (cM _).mono ?_
      rintro e w1 ⟨rfl, rfl⟩
      clear cM
      go_wp2_with fail
      refine cF.mono ?_
      rintro e w1 ⟨rfl, rfl⟩
      go_wp2_with fail
      go_ret2
      exact ⟨rfl, hBB⟩
end Go.Proofs.YtdpfjhhcgaeiiaaDoor
