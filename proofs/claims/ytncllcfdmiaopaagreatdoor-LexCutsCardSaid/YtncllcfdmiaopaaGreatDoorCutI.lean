/-
  CONTRACTS of the reference's isSign and hexed.
  CONDITIONS: each theorem's own hypotheses.
-/
import Derived.Test.YtncllcfdmiaopaaGreatDoorCutD
import Derived.Test.YtncllcfdmiaopaaGreatDoorValB
namespace Go.Proofs.YtncllcfdmiaopaaGreatDoor
open Go.RowKit
set_option linter.unusedVariables false
set_option maxRecDepth 100000

def refSigns : List (List UInt8) := [[40], [41], [44], [46], [61], [60], [62], [60, 61], [62, 61], [60, 62], [43], [45], [42], [47], [124, 124], [59]]
theorem refSigns_has (l : List UInt8) : refSigns.contains l = signB l := by
  have h1 : ∀ x ∈ refSigns, x ∈ signsL := by decide
  have h2 : ∀ x ∈ signsL, x ∈ refSigns := by decide
  unfold signB
  rw [Bool.eq_iff_iff, List.contains_iff_mem, List.contains_iff_mem]
  exact ⟨h1 l, h2 l⟩
theorem refSigns_small : ∀ x ∈ refSigns, x.length ≤ 2 := by decide
set_option maxHeartbeats 2000000 in
theorem isSignRef_any (l : List UInt8) (w : World) :
    Calls Tryz.prog 43 #[.string (str l)] w fun e w' => e = .returned (.bool (signB l)) ∧ Below w.heap.size w w' := by
  obtain ⟨w2, hw2⟩ : ∃ w2, w.alloc (.cells #[.string ⟨#[40]⟩, .string ⟨#[41]⟩, .string ⟨#[44]⟩, .string ⟨#[46]⟩, .string ⟨#[61]⟩, .string ⟨#[60]⟩, .string ⟨#[62]⟩, .string ⟨#[60, 61]⟩, .string ⟨#[62, 61]⟩, .string ⟨#[60, 62]⟩, .string ⟨#[43]⟩, .string ⟨#[45]⟩, .string ⟨#[42]⟩, .string ⟨#[47]⟩, .string ⟨#[124, 124]⟩, .string ⟨#[59]⟩] 9) = w2 := ⟨_, rfl⟩
  have hb2 : Below w.heap.size w w2 := by rw [← hw2]; exact (Below.refl _ _).alloc (Nat.le_refl _) _
  have hcell : ∀ i x, refSigns[i]? = some x → w2.cell? ⟨w.heap.size, i, none⟩ = some (.string (str x)) := by
    intro i x hx
    rw [← hw2, World.cell?_alloc_new]
    have hi : i < 16 := (List.getElem?_eq_some_iff.1 hx).1
    have e : (#[.string ⟨#[40]⟩, .string ⟨#[41]⟩, .string ⟨#[44]⟩, .string ⟨#[46]⟩, .string ⟨#[61]⟩, .string ⟨#[60]⟩, .string ⟨#[62]⟩, .string ⟨#[60, 61]⟩, .string ⟨#[62, 61]⟩, .string ⟨#[60, 62]⟩, .string ⟨#[43]⟩, .string ⟨#[45]⟩, .string ⟨#[42]⟩, .string ⟨#[47]⟩, .string ⟨#[124, 124]⟩, .string ⟨#[59]⟩] : Array Value) = (strsV refSigns).toArray := rfl
    rw [e]
    simpa using strsV_get hx
  have hstr := fun x => str_beq l x
  obtain ⟨B, hB⟩ : ∃ B, signB l = B := ⟨_, rfl⟩
  rw [hB]
  rw [← refSigns_has] at hB
  have HB := Lib.hid hB
  have HC := Lib.hid hcell
  have HS := Lib.hid hstr
  generalize str l = s at *
  clear hB hcell hstr
  go_enter Tryz.func43, Tryz.ntmps43
  go_upto_region 2 with fail
  try rw [hw2]
  clear hw2
  go_loopw [7] (fun ix wr => ∃ i : Nat, i ≤ 16 ∧ ix = .int .i64 i ∧ Hid (l ∉ refSigns.take i) ∧ wr = w2) (fun ix _ => 16 - (intOf ix).toNat)
  case atStart => exact ⟨0, Nat.zero_le _, rfl, Lib.hid (by simp), rfl⟩
  case round =>
    obtain ⟨i, hi, rfl, hA, rfl⟩ := hrel
    by_cases h1 : i < 16
    · have iI : (i : Int) < 16 := by omega
      obtain ⟨x, hx⟩ : ∃ x, refSigns[i]? = some x := ⟨_, List.getElem?_eq_getElem h1⟩
      obtain ⟨hi2, hxx⟩ := List.getElem?_eq_some_iff.1 hx
      have q1 := HC.out i x hx
      have q2 := HS.out x
      by_cases hp : l = x
      · have HE : Hid (B = true) := by show _ = _; rw [← HB.out, List.contains_iff_mem, hp]; exact List.mem_of_getElem? hx
        have q3 : (s.toList == (str x).toList) = true := by rw [q2]; simpa using hp
        generalize str x = X at *
        clear q2 hx hp hxx hi2
        go_wp2_with fail
        go_ret
        exact ⟨by rw [HE.out]; rfl, hb2⟩
      · have HE : Hid (l ∉ refSigns.take (i + 1)) := by
          show l ∉ _
          rw [List.take_succ_eq_append_getElem hi2, List.mem_append]
          rintro (h | h)
          · exact hA.out h
          · simp only [List.mem_singleton] at h; exact hp (h.trans hxx)
        have q3 : (s.toList == (str x).toList) = false := by rw [q2]; simpa using hp
        generalize str x = X at *
        clear q2 hx hp hxx hi2
        go_wp2_with fail
        go_roundw
        case rel => exact ⟨i + 1, h1, by go_num, HE, by first | rfl | trivial⟩
        case measure => simp [intOf]; omega
    · have iI : ¬ (i : Int) < 16 := by omega
      obtain rfl : i = 16 := by omega
      have HE : Hid (B = false) := by
        show _ = _
        rw [← HB.out]
        have := hA.out
        rw [List.take_of_length_le (by decide)] at this
        simpa using this
      go_wp2_with fail
      go_ret
      exact ⟨by rw [HE.out]; rfl, hb2⟩

def HxOk (R : TR) (b x : Int) : Prop := match R with
  | .err e => x = e ∧ e ≠ 0
  | .ok t _ => t = ⟨5, [], 0, b⟩ ∧ x = 0
set_option maxHeartbeats 4000000 in
theorem hexed_any (l : List UInt8) (w : World) (hl : l.length ≤ 1000000) (h1 : 1 ≤ l.length) :
    Calls Tryz.prog 42 #[.string (str l)] w fun e w' => (∃ b x, e = .returned (.tuple #[.int .u64 b, .int .i64 x]) ∧ Hid (HxOk (realR l) b x)) ∧ w = w' := by
  obtain ⟨R, hR⟩ : ∃ R, realR l = R := ⟨_, rfl⟩
  rw [hR]
  unfold realR at hR
  have HR := Lib.hid hR
  obtain ⟨n, hn⟩ : ∃ n, l.length = n := ⟨_, rfl⟩
  have hsz := str_size l
  rw [hn] at hsz hl h1
  have HN := Lib.hid hn
  have HI := Lib.hid (fun c W => hexIdx_any c W)
  have hBR := fun b W h0 h1 => badReal_any b W h0 h1
  have HBR := Lib.hid hBR
  obtain ⟨s, hs⟩ : ∃ s, str l = s := ⟨_, rfl⟩
  rw [hs] at hsz ⊢
  have hget : ∀ j (h : j < s.size) (h' : j < l.length), s[j] = l[j] := by subst hs; exact fun j h h' => rfl
  have HG := Lib.hid hget
  have HSZ := Lib.hid hsz
  obtain ⟨HX, hHX⟩ : ∃ HX, str hexL16 = HX := ⟨_, rfl⟩
  clear hn hR hs hget hsz hBR
  go_enter Tryz.func42, Tryz.ntmps42
  go_wp2_with fail
  go_loopw [4, 5] (fun bv ix wr => ∃ i b : Nat, 1 ≤ i ∧ i ≤ 17 ∧ i ≤ n ∧ ix = .int .i64 i ∧ bv = .int .u64 b ∧ Hid (hexF 16 (l.drop 1) 0 = hexF (17 - i) (l.drop i) b) ∧ Hid (b < 16 ^ (i - 1)) ∧ wr = w) (fun _ ix _ => 17 - (intOf ix).toNat)
  case atStart => exact ⟨1, 0, Nat.le_refl _, by omega, h1, rfl, rfl, Lib.hid rfl, Lib.hid (by decide), rfl⟩
  case round =>
    obtain ⟨i, b, hi1, hi, hin, rfl, rfl, hH, hb, rfl⟩ := hrel
    by_cases hlt : i < 17
    · have iI : (i : Int) ≤ 16 := by omega
      have hH2 := hH.out
      rw [show 17 - i = 16 - i + 1 by omega] at hH2
      by_cases hin2 : i < n
      · have iS : ¬ (s.size : Int) ≤ (i : Int) := by have := HSZ.out; omega
        have iS2 : (i : Int) < (s.size : Int) := by have := HSZ.out; omega
        have hjs : i < s.size := by rw [HSZ.out]; exact hin2
        have hjl : i < l.length := by rw [HN.out]; exact hin2
        have hg0 := HG.out i hjs hjl
        have ci := HI.out s[i] wr
        have hrg := hexI_range s[i]
        rw [List.drop_eq_getElem_cons hjl, ← hg0] at hH2
        simp only [hexF] at hH2
        obtain ⟨d, hd⟩ : ∃ d, Lib.indexByte hexL16 s[i] = d := ⟨_, rfl⟩
        simp only [hd] at hH2 ci hrg
        by_cases hdn : d < 0
        · rw [if_pos hdn] at hH2
          have HRR : Hid (R = .err 3) := by
            show _ = _
            rw [← HR.out, hH2]
          clear hd hH2 hH hb HR HI hg0 HG HBR
          rw [hHX] at ci
          go_wp2_with fail
          refine Calls.mono (show Calls _ _ #[.string (str hexL16), .int .u8 (s[i].toNat : Int)] _ _ by rw [hHX]; exact ci) ?_
          rintro e w3 ⟨rfl, rfl⟩
          clear ci
          go_wp2_with fail
          go_ret2
          exact ⟨⟨_, _, rfl, Lib.hid (by rw [HRR.out]; exact ⟨rfl, by decide⟩)⟩, rfl⟩
        · rw [if_neg hdn] at hH2
          obtain ⟨dn, rfl⟩ : ∃ k : Nat, d = (k : Int) := ⟨d.toNat, by omega⟩
          have hdn16 : dn < 16 := by omega
          have hb15 : b < 1152921504606846976 := by
            have h5 : 16 ^ (i - 1) ≤ 16 ^ 15 := Nat.pow_le_pow_right (by decide) (by omega)
            have e5 : 16 ^ 15 = 1152921504606846976 := by decide
            have := hb.out
            omega
          have wA : IntKind.u64.wrap ((b : Int) * 16) = (b : Int) * 16 := by show (b : Int) * 16 % 18446744073709551616 = _; omega
          have wB : IntKind.u64.wrap (dn : Int) = (dn : Int) := by show (dn : Int) % 18446744073709551616 = _; omega
          have wC : IntKind.u64.wrap ((b : Int) * 16 + (dn : Int)) = (b : Int) * 16 + (dn : Int) := by show ((b : Int) * 16 + (dn : Int)) % 18446744073709551616 = _; omega
          have HH : Hid (hexF 16 (l.drop 1) 0 = hexF (17 - (i + 1)) (l.drop (i + 1)) (b * 16 + dn)) := by
            show _ = _
            rw [hH2, show 17 - (i + 1) = 16 - i by omega]
            simp
          have HBB : Hid (b * 16 + dn < 16 ^ (i + 1 - 1)) := by
            show _ < _
            have := hb.out
            rw [show i + 1 - 1 = i - 1 + 1 by omega, Nat.pow_succ]; omega
          clear hd hH2 hH hb HR HI hg0 hrg HG HBR
          rw [hHX] at ci
          go_wp2_with fail
          refine Calls.mono (show Calls _ _ #[.string (str hexL16), .int .u8 (s[i].toNat : Int)] _ _ by rw [hHX]; exact ci) ?_
          rintro e w3 ⟨rfl, rfl⟩
          clear ci
          go_wp2_with fail
          go_roundw
          case rel => exact ⟨i + 1, b * 16 + dn, by omega, by omega, by omega, by go_num, by go_num, HH, HBB, by first | rfl | trivial⟩
          case measure => simp [intOf]; omega
      · have iS : (s.size : Int) ≤ (i : Int) := by have := HSZ.out; omega
        rw [show l.drop i = [] from List.drop_of_length_le (by rw [HN.out]; omega)] at hH2
        have HRR : Hid (R = .err 4) := by
          show _ = _
          rw [← HR.out, hH2]; rfl
        clear hH2 hH hb HR HI HG HBR
        go_wp2_with fail
        go_ret2
        exact ⟨⟨_, _, rfl, Lib.hid (by rw [HRR.out]; exact ⟨rfl, by decide⟩)⟩, rfl⟩
    · have iI : ¬ (i : Int) ≤ 16 := by omega
      obtain rfl : i = 17 := by omega
      have hb64 : (b : Int) ≤ 18446744073709551615 := by
        have e5 : 16 ^ (17 - 1) = 18446744073709551616 := by decide
        have := hb.out
        omega
      have cb := HBR.out (b : Int) wr (by omega) hb64
      have HRR : Hid (R = if (nan b || (b : Int) == 9223372036854775808) = true then .err 3 else .ok ⟨5, [], 0, b⟩ 17) := by
        show _ = _
        have hH2 := hH.out
        rw [← HR.out, hH2]; rfl
      generalize (nan b || (b : Int) == 9223372036854775808) = NB at *
      clear hH hb HR HI HG HBR
      cases NB with
      | true =>
        go_wp2_with fail
        refine cb.mono ?_
        rintro e w3 ⟨rfl, rfl⟩
        clear cb
        go_wp2_with fail
        go_ret2
        exact ⟨⟨_, _, rfl, Lib.hid (by rw [HRR.out, if_pos trivial]; exact ⟨rfl, by decide⟩)⟩, rfl⟩
      | false =>
        go_wp2_with fail
        refine cb.mono ?_
        rintro e w3 ⟨rfl, rfl⟩
        clear cb
        go_wp2_with fail
        go_ret2
        exact ⟨⟨_, _, rfl, Lib.hid (by rw [HRR.out, if_neg (by decide)]; exact ⟨rfl, rfl⟩)⟩, rfl⟩
end Go.Proofs.YtncllcfdmiaopaaGreatDoor
