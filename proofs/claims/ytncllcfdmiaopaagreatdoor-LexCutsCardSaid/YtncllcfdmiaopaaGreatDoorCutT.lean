/-
  CONTRACT of the reference's TokensOf.
  CONDITIONS: each theorem's own hypotheses; what 'Env' says.
-/
import Derived.Test.YtncllcfdmiaopaaGreatDoorCutH
import Derived.Test.YtncllcfdmiaopaaGreatDoorCutB
import Derived.Test.YtncllcfdmiaopaaGreatDoorCutR
namespace Go.Proofs.YtncllcfdmiaopaaGreatDoor
open Go.RowKit
set_option linter.unusedVariables false
set_option maxRecDepth 100000

set_option maxHeartbeats 8000000 in
theorem tokensOf_any (l : List UInt8) (w : World) (hl0 : l.length ≤ 9223372036854775807) (hV : Env w) :
    Calls Tryz.prog 10 #[.string (str l)] w (CutPost (cutR l) w) := by
  have hsz := str_size l
  obtain ⟨R, hR⟩ : ∃ R, cutR l = R := ⟨_, rfl⟩
  rw [hR]
  unfold cutR at hR
  unfold CutPost
  by_cases h300 : 300 < l.length
  · rw [if_pos h300] at hR
    have i0 : (300 : Int) < ((str l).size : Int) := by omega
    have HR := Lib.hid hR
    generalize str l = s at *
    clear hR hsz h300 hV hl0
    go_enter Tryz.func10, Tryz.ntmps10
    go_wp2_with fail
    go_ret3
    exact ⟨_, _, _, _, _, rfl, Lib.hid (by rw [← HR.out]; exact ⟨rfl, rfl, rfl, by decide⟩), Below.refl _ _⟩
  · rw [if_neg h300] at hR
    have i0 : ¬ (300 : Int) < ((str l).size : Int) := by omega
    have cG := fun t W => skip_any (l.drop t) W (by rw [List.length_drop]; omega)
    have hcut := fun (t : Nat) (x : Int) (hx : x = (t : Int)) (h : t ≤ l.length) W => drop_str l t x hx h W
    have cF := fun t c r (h : l.drop t = c :: r) W (hW : Env W) => firstRef_any c r W (by rw [← h, List.length_drop]; omega) hW.tabs
    have hstart : Hid (∃ f, l.length < f + gapR l ∧ R = cutF f l (gapR l) []) := Lib.hid ⟨l.length + 1, by omega, hR.symm⟩
    have hg0 := gap_le l
    have cG0 := fun W => cG 0 W
    rw [List.drop_zero] at cG0
    obtain ⟨n, hn⟩ : ∃ n, l.length = n := ⟨_, rfl⟩
    rw [hn] at hcut hstart hg0 hsz
    have HN := Lib.hid hn
    have HC := Lib.hid hcut
    have HG := Lib.hid cG
    have HFI := Lib.hid cF
    have HV := Lib.hid hV
    have hsI : (s : ByteArray) → Hid True := fun _ => Lib.hid trivial
    have HSZ := Lib.hid hsz
    have hn300 : n ≤ 300 := by omega
    generalize str l = s at *
    generalize gapR l = g0 at *
    have hsn : (s.size : Int) = (n : Int) := by omega
    clear hR hn hcut cG cF hV h300 hl0 hsI hsz
    go_enter Tryz.func10, Tryz.ntmps10
    go_wp2_with fail
    refine (cG0 _).mono ?_
    rintro e w1 ⟨rfl, rfl⟩
    clear cG0
    go_wp2_with fail
    go_loopw [5, 6] (fun lv av wr => ∃ (p : Nat) (acc : List Tok) (a : Option Addr) (m k : Nat), lv = .slice a m k ∧ av = .int .i64 p ∧ p ≤ n ∧ m ≤ 100 ∧ Hid (m = acc.length) ∧ Hid (OwnTk wr w.heap.size (.slice a m k) acc) ∧ Hid (∃ f, n < f + p ∧ R = cutF f l p acc) ∧ Hid (Below w.heap.size w wr)) (fun _ av _ => n - (intOf av).toNat)
    case atStart => exact ⟨g0, [], none, 0, 0, rfl, rfl, hg0, by omega, Lib.hid rfl, Lib.hid (OwnTk.nil _ _), hstart, Lib.hid (Below.refl _ _)⟩
    case round =>
      obtain ⟨p, acc, a, m, k, rfl, rfl, hp, hm, hma, hown, hcu, hbw⟩ := hrel
      clear hstart
      by_cases hlt : p < n
      · have iI : (p : Int) < (s.size : Int) := by omega
        obtain ⟨f, hf, hfe⟩ := hcu.out
        by_cases h100 : m = 100
        · have HE : Hid (R = .err p 1) := by show _ = _; rw [hfe]; exact cutF_full f l p acc (by rw [HN.out]; exact hlt) (by rw [HN.out]; exact hf) (by rw [← hma.out]; omega)
          subst h100
          have i100 : (100 : Int) ≤ ((100 : Nat) : Int) := by omega
          clear hcu hfe hf hown HC HG HFI
          go_wp2_with fail
          go_ret3
          exact ⟨_, _, _, _, _, rfl, Lib.hid (by rw [HE.out]; exact ⟨rfl, rfl, rfl, by decide⟩), hbw.out⟩
        · have hm99 : m < 100 := by omega
          have hmI : (m : Int) < 100 := by omega
          have hmJ : ¬ (100 : Int) ≤ (m : Int) := by omega
          have hmE : ((m : Int) == 100) = false := by simp; omega
          obtain ⟨k1, k2⟩ := cutF_more f l p acc (by rw [HN.out]; exact hlt) (by rw [HN.out]; exact hf) (by rw [← hma.out]; omega)
          rw [HN.out] at k2
          have q1 := HC.out p (p : Int) rfl hp
          cases hd : l.drop p with
          | nil =>
            exfalso
            have h3 : (l.drop p).length = 0 := by rw [hd]; rfl
            rw [List.length_drop, HN.out] at h3
            omega
          | cons c r =>
            have cf := HFI.out p c r hd wr (HV.out.keep hbw.out)
            rw [hd] at k1 k2 q1
            unfold ReadPost at cf
            generalize str (c :: r) = s1 at *
            generalize firstR (c :: r) = F at *
            have HK1 := Lib.hid k1
            have HK2 := Lib.hid k2
            have HFE := Lib.hid hfe
            clear hd k1 k2 hfe hf hcu h100
            go_wp2_with fail
            refine cf.mono ?_
            rintro e w3 ⟨tk, ss, ti, tb, tn, cc, rfl, hok, hb3⟩
            clear cf
            have hb03 := below_stepL hbw.out hbw.out.size hb3
            cases F with
            | err x =>
              obtain ⟨rfl, hx⟩ := hok.out
              have hx1 : (cc != 0) = true := by simpa using hx
              have HE : Hid (R = .err p cc) := by show _ = _; rw [HFE.out]; exact HK1.out cc rfl
              have HX := Lib.hid hx
              have HB := Lib.hid (hb03.alloc hb03.size (.cells #[.int .i64 tk, .string ss, .int .i64 ti, .int .u64 tb] 34))
              clear hok HK1 HK2 HFE hown hb03 hb3 hx HC HG HFI
              go_wp2_with fail
              go_ret3
              exact ⟨_, _, _, _, _, rfl, Lib.hid (by rw [HE.out]; exact ⟨rfl, rfl, rfl, HX.out⟩), HB.out⟩
            | ok t nn =>
              obtain ⟨rfl, rfl, rfl, rfl, rfl, rfl⟩ := hok.out
              obtain ⟨f', g1, g2, g3, g4⟩ := HK2.out t nn rfl
              have cg := HG.out (p + nn)
              have hle2 : p + nn ≤ n := by omega
              have q2 := HC.out (p + nn) ((p : Int) + (nn : Int)) (by omega) hle2
              have HCU : Hid (∃ f, n < f + (p + nn + gapR (l.drop (p + nn))) ∧ R = cutF f l (p + nn + gapR (l.drop (p + nn))) (acc ++ [t])) := Lib.hid ⟨f', g1, by rw [HFE.out, g2]⟩
              generalize gapR (l.drop (p + nn)) = gg at *
              generalize str (l.drop (p + nn)) = s2 at *
              obtain ⟨tk, ts, ti, tb⟩ := t
              obtain ⟨S, hS⟩ : ∃ S, str ts = S := ⟨_, rfl⟩
              have hbA : Below w3.heap.size w3 (w3.alloc (.cells #[.int .i64 tk, .string S, .int .i64 ti, .int .u64 tb] 34)) := (Below.refl _ _).alloc (Nat.le_refl _) _
              have ho4 := (hown.out.keep hb3).keep hbA
              have hb04 := below_stepL hb03 hb03.size hbA
              have hM4 := hb04.size
              have hmA := hma.out
              have wA : IntKind.i64.wrap ((p : Int) + (nn : Int)) = (p : Int) + (nn : Int) := by rw [IntKind.wrap_i64] <;> omega
              have hwB : IntKind.i64.wrap ((p : Int) + (nn : Int) + (gg : Int)) = (p : Int) + (nn : Int) + (gg : Int) := by rw [IntKind.wrap_i64] <;> omega
              have zT : Blk (w3.alloc (.cells #[.int .i64 tk, .string S, .int .i64 ti, .int .u64 tb] 34)) w3.heap.size 34 [.int .i64 tk, .string S, .int .i64 ti, .int .u64 tb] := Blk.new w3 #[.int .i64 tk, .string S, .int .i64 ti, .int .u64 tb] _
              simp only [hS]
              go_upto_region 9 with fail
              generalize w3.alloc (.cells #[.int .i64 tk, .string S, .int .i64 ti, .int .u64 tb] 34) = w4 at *
              generalize w3.heap.size = gT at *
              have p0 := zT.cell (j := 0) rfl
              have p1 := zT.cell (j := 1) rfl
              have p2 := zT.cell (j := 2) rfl
              have p3 := zT.cell (j := 3) rfl
              have HS := Lib.hid hS
              clear hok HK1 HK2 HFE hown hb03 hb3 g1 g2 zT hS hbA HC HG HFI hma
              go_wp2_with (first | (at_builtin; refine wpList_append_tok rfl (.tmp 35) (.tmp 37) rfl w.heap.size _ acc rfl ho4 ⟨tk, ts, ti, tb⟩ S HS.out.symm tk ti tb rfl rfl rfl _ rfl (by first | rfl | simp) (by omega) hM4 ?_; intro v1 w5 ho5 hb5) | fail)
              have hb45 : Below w4.heap.size w4 w4 := Below.refl _ _
              refine (cg _).mono ?_
              rintro e w6 ⟨rfl, rfl⟩
              obtain ⟨a5, m5, k5, rfl, hm5⟩ := ho5.shape
              rw [List.length_append, List.length_singleton, ← hmA] at hm5
              have hm5b : m5 ≤ 100 := by omega
              have HM5 : Hid (m5 = (acc ++ [(⟨tk, ts, ti, tb⟩ : Tok)]).length) := Lib.hid (by rw [List.length_append, List.length_singleton, ← hmA]; exact hm5)
              have HO5 := Lib.hid ho5
              have HB5 := Lib.hid (hb04.trans hb5)
              clear ho4 hb04 hb5 ho5 cg p0 p1 p2 p3 hmA hm5
              go_wp2_with fail
              go_roundw
              case rel => exact ⟨p + nn + gg, _, a5, m5, k5, rfl, by go_num, g3, hm5b, HM5, HO5, HCU, HB5⟩
              case measure => simp [intOf]; omega
      · have iI : ¬ (p : Int) < (s.size : Int) := by omega
        have HE : Hid (R = .ok acc) := by
          show _ = _
          obtain ⟨f, hf, hfe⟩ := hcu.out
          rw [hfe]; exact cutF_end f l p acc (by rw [HN.out]; omega)
        clear hcu HC HG HFI
        go_wp2_with fail
        go_ret3
        exact ⟨_, _, _, _, _, rfl, Lib.hid (by rw [HE.out]; exact ⟨hown.out, rfl, rfl⟩), hbw.out⟩
end Go.Proofs.YtncllcfdmiaopaaGreatDoor
