/-
  CONTRACT of package lex's quoted.
  CONDITIONS: each theorem's own hypotheses.
-/
import Derived.Test.YtlhoakpijfhljaaDoorShowM
import Derived.Test.YtlhoakpijfhljaaDoorBldW
import Derived.WalkSmall
namespace Go.Proofs.YtlhoakpijfhljaaDoor
open Go.RowKit
set_option linter.unusedVariables false
set_option maxRecDepth 100000

set_option maxHeartbeats 4000000 in
theorem quotedShow_any (l : List UInt8) (w : World) (hl : l.length ≤ 1000) (hv : Lib.validD l = true) :
    Calls Tryd.prog 20 #[.string (str l)] w fun e w' => e = .returned (.string (str (39 :: bodyQ l ++ [39]))) ∧ Below w.heap.size w w' := by
  obtain ⟨n, hn⟩ : ∃ n, l.length = n := ⟨_, rfl⟩
  have hsz := str_size l
  have hru := quote_rune l
  have hbl : ∀ p, (bodyQ (l.take p)).length ≤ 2000 := fun p => by
    have := bodyQ_len (l.take p)
    rw [List.length_take] at this
    omega
  obtain ⟨OUT, hOUT⟩ : ∃ OUT, str (39 :: bodyQ l ++ [39]) = OUT := ⟨_, rfl⟩
  rw [hOUT]
  have HO := Lib.hid hOUT
  rw [hn] at hsz hl
  have HN := Lib.hid hn
  have HRU := Lib.hid hru
  have HBL := Lib.hid hbl
  have hV0 : Hid (Lib.validD (l.drop 0) = true) := Lib.hid (by rw [List.drop_zero]; exact hv)
  obtain ⟨s, hs⟩ : ∃ s, str l = s := ⟨_, rfl⟩
  rw [hs] at hsz hru ⊢
  simp only [hs] at HRU
  have HSZ := Lib.hid hsz
  obtain ⟨w2, hw2⟩ : ∃ w2, w.alloc (.cells #[.pointer none, .slice none 0 0] 30) = w2 := ⟨_, rfl⟩
  have hb2 : Below w.heap.size w w2 := by rw [← hw2]; exact (Below.refl _ _).alloc (Nat.le_refl _) _
  have z2 : Bld w2 w.heap.size w.heap.size [] := by rw [← hw2]; exact Bld.fresh w
  have hlt2 : w.heap.size < w2.heap.size := by rw [← hw2]; simp
  have c1 := writeByte_any w.heap.size w.heap.size [] 39 w2 z2 (by simp) (by omega)
  have HB2 := Lib.hid hb2
  clear hn hru hbl hOUT hv hs hsz z2 hb2
  go_enter Tryd.func20, Tryd.ntmps20
  go_upto_region 2 with fail
  try rw [hw2]
  clear hw2
  go_wp2_with fail
  refine c1.mono ?_
  rintro e w3 ⟨rfl, z3, hb3, _⟩
  clear c1
  have hb03 := HB2.out.trans hb3
  have hlt3 : w.heap.size < w3.heap.size := Nat.lt_of_lt_of_le hlt2 hb3.size
  have hI4 : (w3.iter s 0).heap[w3.heap.size]? = some (.stringIter s 0) := World.iter_heap w3 s 0
  have hb04 : Below w.heap.size w (w3.iter s 0) := hb03.alloc (by omega) _
  have z4 : Bld (w3.iter s 0) w.heap.size w.heap.size [39] := Lib.IsBuilderF.alloc z3 _
  have HZ4 := Lib.hid z4
  have HB4 := Lib.hid hb04
  clear z3 hb3 z4 hb04 HB2 hb03
  have hkb : w3.heap.size ≠ w.heap.size := by omega
  have hk0 : w.heap.size ≤ w3.heap.size := by omega
  obtain ⟨w4, hw4⟩ : ∃ w4, w3.iter s 0 = w4 := ⟨_, rfl⟩
  rw [hw4] at hI4 HZ4 HB4
  have hlt4 : w.heap.size < w4.heap.size := by
    have := (Array.getElem?_eq_some_iff.1 hI4).1
    omega
  go_wp2_with fail
  try rw [hw4]
  clear hw4
  generalize w3.heap.size = k at *
  go_loopw [5] (fun bv wr => ∃ pos : Nat, pos ≤ n ∧ wr.heap[k]? = some (.stringIter s pos) ∧ Hid (Bld wr w.heap.size w.heap.size (39 :: bodyQ (l.take pos))) ∧ Hid (Lib.validD (l.drop pos) = true) ∧ Hid (Below w.heap.size w wr) ∧ w.heap.size < wr.heap.size) (fun _ wr => n - wr.iterPos k)
  case atStart => exact ⟨0, Nat.zero_le _, hI4, HZ4, hV0, HB4, hlt4⟩
  case round =>
    obtain ⟨pos, hpn, hit, hz, hvd, hbw, hltw⟩ := hrel
    clear hI4 HZ4 HB4 hlt4
    by_cases hlt : pos < n
    · have hps : pos < s.size := by rw [HSZ.out]; exact hlt
      have hpl : pos < l.length := by rw [HN.out]; exact hlt
      have hnx : ∀ ty, (Instr.next (.pointer (some ⟨k, 0, none⟩)) true ty).run Tryd.prog wr = _ := fun ty => Lib.run_next_any_at wr k s pos ty hit hps
      obtain ⟨d0, d1, d2, d3, d4⟩ := HRU.out pos hpl hvd.out
      obtain ⟨r, hr⟩ : ∃ r, (Utf8.decode s pos).1 = r := ⟨_, rfl⟩
      obtain ⟨d, hd⟩ : ∃ d, (Utf8.decode s pos).2 = d := ⟨_, rfl⟩
      simp only [hr, hd] at hnx d0 d1 d2 d3 d4
      rw [HN.out] at d1
      have hit2 := Lib.iterAt_heap wr k s pos (pos + d) hit
      have hz2 : Bld (wr.iterAt k s (pos + d)) w.heap.size w.heap.size (39 :: bodyQ (l.take pos)) := Lib.IsBuilderF.iterAt hz.out hit (pos + d)
      have hb2 := Lib.below_iterAt hbw.out (k := k) hk0 s (pos + d)
      have hsz2 : w.heap.size < (wr.iterAt k s (pos + d)).heap.size := by rw [Lib.iterAt_size]; exact hltw
      obtain ⟨wa, hwa⟩ : ∃ wa, wr.iterAt k s (pos + d) = wa := ⟨_, rfl⟩
      rw [hwa] at hit2 hz2 hb2 hsz2
      have hnx2 : ∀ ty, (Instr.next (.pointer (some ⟨k, 0, none⟩)) true ty).run Tryd.prog wr = .ok (.tuple #[.bool true, .int .i64 pos, .int .i32 (r : Int)]) wa := fun ty => by rw [hnx ty, hwa]
      have hbl := HBL.out pos
      have hms : n - (pos + d) < n - wr.iterPos k := by rw [iterPos_of hit]; omega
      have HV2 := Lib.hid d3
      have HMS := Lib.hid hms
      have hpd : pos + d ≤ n := d1
      clear hnx hr hd hz hvd hbw hit hltw hms d3 hwa
      by_cases h39 : r = 39
      · subst h39
        rw [if_pos rfl] at d4
        have HE : Hid (39 :: bodyQ (l.take pos) ++ [39] ++ Lib.encodeRune ((39 : Nat) : Int) = 39 :: bodyQ (l.take (pos + d))) := by show _ = _; rw [d4]; simp
        have cB := writeByte_any w.heap.size w.heap.size (39 :: bodyQ (l.take pos)) 39 wa hz2 (by simp; omega) (by omega)
        have hlen2 : (39 :: bodyQ (l.take pos) ++ [39]).length ≤ 1000000 := by simp; omega
        clear d4 hz2
        have e39 : (((39 : Nat) : Int) == 39) = true := rfl
        go_wp2_with fail
        refine cB.mono ?_
        rintro e w5 ⟨rfl, z5, hb5, ho5⟩
        have hit5 := ho5.iter hit2 hkb
        have hb05 := hb2.trans hb5
        have hs5 : w.heap.size < w5.heap.size := Nat.lt_of_lt_of_le hsz2 hb5.size
        clear cB hit2 hb2 hb5 ho5 hsz2
        have cR := writeRune_any w.heap.size w.heap.size _ (39 : Int) w5 z5 (by omega) (by omega) hlen2 (by omega)
        go_wp2_with fail
        refine cR.mono ?_
        rintro e w6 ⟨⟨q, rfl⟩, z6, hb6, ho6⟩
        have hit6 := ho6.iter hit5 hkb
        have hb06 := Lib.hid (hb05.trans hb6)
        have hs6 : w.heap.size < w6.heap.size := Nat.lt_of_lt_of_le hs5 hb6.size
        have HZ6 : Hid (Bld w6 w.heap.size w.heap.size (39 :: bodyQ (l.take (pos + d)))) := by rw [← HE.out]; exact Lib.hid z6
        have hm6 : n - w6.iterPos k < n - wr.iterPos k := by rw [iterPos_of hit6]; exact HMS.out
        clear cR hit5 hb05 hb6 ho6 z5 z6 hs5
        go_wp2_with fail
        go_roundw
        case rel => exact ⟨pos + d, hpd, hit6, HZ6, HV2, hb06, hs6⟩
        case measure => exact hm6
      · rw [if_neg h39] at d4
        have HE : Hid (39 :: bodyQ (l.take pos) ++ Lib.encodeRune (r : Int) = 39 :: bodyQ (l.take (pos + d))) := by show _ = _; rw [d4]; simp
        have e39 : ((r : Int) == 39) = false := by simp; omega
        have cR := writeRune_any w.heap.size w.heap.size (39 :: bodyQ (l.take pos)) (r : Int) wa hz2 (by omega) (by omega) (by simp; omega) (by omega)
        clear d4 hz2
        go_wp2_with fail
        refine cR.mono ?_
        rintro e w6 ⟨⟨q, rfl⟩, z6, hb6, ho6⟩
        have hit6 := ho6.iter hit2 hkb
        have hb06 := Lib.hid (hb2.trans hb6)
        have hs6 : w.heap.size < w6.heap.size := Nat.lt_of_lt_of_le hsz2 hb6.size
        have HZ6 : Hid (Bld w6 w.heap.size w.heap.size (39 :: bodyQ (l.take (pos + d)))) := by rw [← HE.out]; exact Lib.hid z6
        have hm6 : n - w6.iterPos k < n - wr.iterPos k := by rw [iterPos_of hit6]; exact HMS.out
        clear cR hit2 hb2 hb6 ho6 z6 hsz2
        go_wp2_with fail
        go_roundw
        case rel => exact ⟨pos + d, hpd, hit6, HZ6, HV2, hb06, hs6⟩
        case measure => exact hm6
    · obtain rfl : pos = n := by omega
      have hps : ¬ pos < s.size := by rw [HSZ.out]; exact hlt
      have hnx : ∀ ty, (Instr.next (.pointer (some ⟨k, 0, none⟩)) true ty).run Tryd.prog wr = _ := fun ty => Lib.run_next_end_at wr k s pos ty hit hps
      have htk : l.take pos = l := List.take_of_length_le (by rw [HN.out]; exact Nat.le_refl _)
      have hbl := HBL.out pos
      have hz0 := hz.out
      rw [htk] at hbl hz0
      have cB := writeByte_any w.heap.size w.heap.size (39 :: bodyQ l) 39 wr hz0 (by simp; omega) (by omega)
      clear hz hz0 hvd hit htk hbl
      go_wp2_with fail
      refine cB.mono ?_
      rintro e w5 ⟨rfl, z5, hb5, _⟩
      have hb05 := hbw.out.trans hb5
      have cS := builderString_any w.heap.size w.heap.size _ w5 z5 hb05.size
      rw [HO.out] at cS
      clear cB hb5 z5
      go_wp2_with fail
      refine cS.mono ?_
      rintro e w6 ⟨rfl, hb6⟩
      have hb06 := hb05.trans hb6
      go_wp2_with fail
      go_ret
      exact ⟨by first | rfl | trivial, hb06⟩
end Go.Proofs.YtlhoakpijfhljaaDoor
