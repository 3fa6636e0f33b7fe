/-
  CONTRACT of the reference's quoted.
  CONDITIONS: each theorem's own hypotheses.
-/
import Derived.Test.YtncllcfdmiaopaaGreatDoorCutE
import Derived.Test.YtncllcfdmiaopaaGreatDoorCutD
namespace Go.Proofs.YtncllcfdmiaopaaGreatDoor
open Go.RowKit
set_option linter.unusedVariables false
set_option maxRecDepth 100000

theorem str_snoc (acc : List UInt8) (c : UInt8) : str acc ++ str [c] = str (acc ++ [c]) := str_append _ _
theorem scan_cons (c : UInt8) (r acc : List UInt8) (n : Nat) : scanQ (c :: r) acc n = if c = 39 then (if r.head? = some 39 then scanQ (r.drop 1) (acc ++ [39]) (n + 2) else some (acc, n + 1)) else scanQ r (acc ++ [c]) (n + 1) := by rw [scanQ]
def QtOk (R : TR) (S : ByteArray) (k x : Int) : Prop := match R with
  | .err e => x = e ∧ e ≠ 0
  | .ok t m => ∃ T, t = ⟨4, T, 0, 0⟩ ∧ S = str T ∧ k = m ∧ x = 0
set_option maxHeartbeats 4000000 in
theorem quotedRef_any (l : List UInt8) (w : World) (hl : l.length ≤ 1000000) (h1 : 1 ≤ l.length) (hT : Tabs w) :
    Calls Tryz.prog 41 #[.string (str l)] w fun e w' => (∃ S k x, e = .returned (.tuple #[.string S, .int .i64 k, .int .i64 x]) ∧ Hid (QtOk (quoteR l) S k x)) ∧ Below w.heap.size w w' := by
  obtain ⟨R, hR⟩ : ∃ R, quoteR l = R := ⟨_, rfl⟩
  rw [hR]
  unfold quoteR at hR
  have HR := Lib.hid hR
  obtain ⟨n, hn⟩ : ∃ n, l.length = n := ⟨_, rfl⟩
  have hsz := str_size l
  have hcut := fun (t : Nat) (x y : Int) (hx : x = (t : Int)) (hy : y = ((t + 1 : Nat) : Int)) (h : t + 1 ≤ l.length) W => cut_str l t (t + 1) x y hx hy (by omega) h W
  rw [hn] at hsz hl h1 hcut
  have HN := Lib.hid hn
  have HV := Lib.hid (fun s W hs hT => valid_any s W hs hT)
  obtain ⟨s, hs⟩ : ∃ s, str l = s := ⟨_, rfl⟩
  rw [hs] at hsz hcut ⊢
  have hget : ∀ j (h : j < s.size) (h' : j < l.length), s[j] = l[j] := by subst hs; exact fun j h h' => rfl
  have HG := Lib.hid hget
  have HC := Lib.hid hcut
  have HSZ := Lib.hid hsz
  have HT := Lib.hid hT
  clear hn hR hs hget hsz hcut hT
  go_enter Tryz.func41, Tryz.ntmps41
  go_wp2_with fail
  go_loopw [5, 6] (fun tv ix wr => ∃ (i : Nat) (T : ByteArray), 1 ≤ i ∧ i ≤ n ∧ ix = .int .i64 i ∧ tv = .string T ∧ T.size ≤ i ∧ Hid (∃ acc, T = str acc ∧ scanQ (l.drop 1) [] 1 = scanQ (l.drop i) acc i) ∧ wr = w) (fun _ ix _ => n - (intOf ix).toNat)
  case atStart => exact ⟨1, _, Nat.le_refl _, h1, rfl, rfl, by first | decide | simp, Lib.hid ⟨[], rfl, rfl⟩, rfl⟩
  case round =>
    obtain ⟨i, T, hi1, hin, rfl, rfl, hTi, hH, rfl⟩ := hrel
    by_cases hlt : i < n
    · have iI : (i : Int) < (s.size : Int) := by have := HSZ.out; omega
      have his : i < s.size := by rw [HSZ.out]; exact hlt
      have hil : i < l.length := by rw [HN.out]; exact hlt
      have hg := HG.out i his hil
      have q1 := HC.out i (i : Int) ((i : Int) + 1) rfl (by omega) hlt
      obtain ⟨acc, hacc, hsc⟩ := hH.out
      have hdc := List.drop_eq_getElem_cons hil
      rw [hdc, ← hg, scan_cons] at hsc
      have htk : (l.drop i).take (i + 1 - i) = [s[i]] := by rw [show i + 1 - i = 1 by omega, hdc, ← hg]; rfl
      rw [htk] at q1
      clear htk hdc hH
      have hiw : IntKind.i64.wrap ((i : Int) + 1) = (i : Int) + 1 := by rw [IntKind.wrap_i64] <;> omega
      have hTs : ((T.size : Nat) : Int) ≤ 1000000 := by omega
      by_cases hc : s[i] = 39
      · rw [if_pos hc] at hsc
        have qc : ((s[i].toNat : Int) != 39) = false := by rw [hc]; rfl
        have qc2 : ((s[i].toNat : Int) == 39) = true := by rw [hc]; rfl
        by_cases hp : (l.drop (i + 1)).head? = some 39
        · rw [if_pos hp] at hsc
          have hlt2 : i + 1 < n := by
            refine Classical.byContradiction fun h => ?_
            rw [show l.drop (i + 1) = [] from List.drop_of_length_le (by rw [HN.out]; omega)] at hp
            cases hp
          have iI2 : (i : Int) + 1 < (s.size : Int) := by have := HSZ.out; omega
          have his2 : i + 1 < s.size := by rw [HSZ.out]; exact hlt2
          have hil2 : i + 1 < l.length := by rw [HN.out]; exact hlt2
          have hg2 := HG.out (i + 1) his2 hil2
          have hc2 : s[i + 1] = 39 := by
            rw [List.drop_eq_getElem_cons hil2, ← hg2] at hp
            simpa using hp
          have qd : ((s[i + 1].toNat : Int) == 39) = true := by rw [hc2]; rfl
          have eS : T ++ ⟨#[39]⟩ = str (acc ++ [39]) := by rw [hacc]; exact str_append _ _
          have HE : Hid (∃ acc, T ++ ⟨#[39]⟩ = str acc ∧ scanQ (l.drop 1) [] 1 = scanQ (l.drop (i + 2)) acc (i + 2)) := Lib.hid ⟨acc ++ [39], eS, by rw [hsc, List.drop_drop]⟩
          have hsT : (T ++ ⟨#[39]⟩).size ≤ i + 2 := by rw [ByteArray.size_append]; have : (⟨#[39]⟩ : ByteArray).size = 1 := rfl; omega
          have hiw2 : IntKind.i64.wrap ((i : Int) + 1 + 1) = (i : Int) + 1 + 1 := by rw [IntKind.wrap_i64] <;> omega
          clear hacc hsc hc hp hg hg2 hc2 eS HG HC HV HR
          go_wp2_with fail
          go_roundw
          case rel => exact ⟨i + 2, _, by omega, by omega, by go_num, rfl, hsT, HE, by first | rfl | trivial⟩
          case measure => simp [intOf]; omega
        · rw [if_neg hp] at hsc
          have hR2 := HR.out
          rw [hsc] at hR2
          have hTl : T.size = acc.length := by rw [hacc]; exact str_size acc
          simp only at hR2
          have cv := HV.out T wr (by omega) HT.out
          by_cases hlt2 : i + 1 < n
          · have iI2 : (i : Int) + 1 < (s.size : Int) := by have := HSZ.out; omega
            have his2 : i + 1 < s.size := by rw [HSZ.out]; exact hlt2
            have hil2 : i + 1 < l.length := by rw [HN.out]; exact hlt2
            have hg2 := HG.out (i + 1) his2 hil2
            have hc2 : s[i + 1] ≠ 39 := by
              rw [List.drop_eq_getElem_cons hil2, ← hg2] at hp
              simpa using hp
            have qd : ((s[i + 1].toNat : Int) == 39) = false := by
              simp only [beq_eq_false_iff_ne, ne_eq]
              intro e
              exact hc2 (UInt8.toNat_inj.1 (by simpa using (by omega : s[i + 1].toNat = 39)))
            clear hsc hc hp hg hg2 hc2 q1
            by_cases h40 : 40 < T.size
            · have i4 : (40 : Int) < (T.size : Int) := by omega
              have HRR : Hid (R = .err 1) := by show _ = _; rw [← hR2, if_pos (by omega)]
              clear hR2 hTl hacc HV HR HG HC
              go_wp2_with fail
              go_ret3
              exact ⟨⟨_, _, _, rfl, Lib.hid (by rw [HRR.out]; exact ⟨rfl, by decide⟩)⟩, Below.refl _ _⟩
            · have i4 : ¬ (40 : Int) < (T.size : Int) := by omega
              rw [if_neg (by omega)] at hR2
              cases hv : Lib.validD acc with
              | false =>
                have HRR : Hid (R = .err 3) := by show _ = _; rw [← hR2, if_pos hv]
                rw [show T.data.toList = acc by rw [hacc]; rfl, hv] at cv
                clear hR2 hTl hacc HV HR HG HC hv
                go_wp2_with fail
                refine cv.mono ?_
                rintro e w3 ⟨rfl, hb3⟩
                clear cv
                go_wp2_with fail
                go_ret3
                exact ⟨⟨_, _, _, rfl, Lib.hid (by rw [HRR.out]; exact ⟨rfl, by decide⟩)⟩, hb3⟩
              | true =>
                have HRR : Hid (R = .ok ⟨4, acc, 0, 0⟩ (i + 1)) := by show _ = _; rw [← hR2, if_neg (by rw [hv]; decide)]
                rw [show T.data.toList = acc by rw [hacc]; rfl, hv] at cv
                have HA := Lib.hid hacc
                clear hR2 hTl hacc HV HR HG HC hv
                go_wp2_with fail
                refine cv.mono ?_
                rintro e w3 ⟨rfl, hb3⟩
                clear cv
                go_wp2_with fail
                go_ret3
                exact ⟨⟨_, _, _, rfl, Lib.hid (by rw [HRR.out]; exact ⟨acc, rfl, HA.out, by omega, rfl⟩)⟩, hb3⟩
          · have iI2 : ¬ (i : Int) + 1 < (s.size : Int) := by have := HSZ.out; omega
            clear hsc hc hp hg q1
            by_cases h40 : 40 < T.size
            · have i4 : (40 : Int) < (T.size : Int) := by omega
              have HRR : Hid (R = .err 1) := by show _ = _; rw [← hR2, if_pos (by omega)]
              clear hR2 hTl hacc HV HR HG HC
              go_wp2_with fail
              go_ret3
              exact ⟨⟨_, _, _, rfl, Lib.hid (by rw [HRR.out]; exact ⟨rfl, by decide⟩)⟩, Below.refl _ _⟩
            · have i4 : ¬ (40 : Int) < (T.size : Int) := by omega
              rw [if_neg (by omega)] at hR2
              cases hv : Lib.validD acc with
              | false =>
                have HRR : Hid (R = .err 3) := by show _ = _; rw [← hR2, if_pos hv]
                rw [show T.data.toList = acc by rw [hacc]; rfl, hv] at cv
                clear hR2 hTl hacc HV HR HG HC hv
                go_wp2_with fail
                refine cv.mono ?_
                rintro e w3 ⟨rfl, hb3⟩
                clear cv
                go_wp2_with fail
                go_ret3
                exact ⟨⟨_, _, _, rfl, Lib.hid (by rw [HRR.out]; exact ⟨rfl, by decide⟩)⟩, hb3⟩
              | true =>
                have HRR : Hid (R = .ok ⟨4, acc, 0, 0⟩ (i + 1)) := by show _ = _; rw [← hR2, if_neg (by rw [hv]; decide)]
                rw [show T.data.toList = acc by rw [hacc]; rfl, hv] at cv
                have HA := Lib.hid hacc
                clear hR2 hTl hacc HV HR HG HC hv
                go_wp2_with fail
                refine cv.mono ?_
                rintro e w3 ⟨rfl, hb3⟩
                clear cv
                go_wp2_with fail
                go_ret3
                exact ⟨⟨_, _, _, rfl, Lib.hid (by rw [HRR.out]; exact ⟨acc, rfl, HA.out, by omega, rfl⟩)⟩, hb3⟩
      · rw [if_neg hc] at hsc
        have qc : ((s[i].toNat : Int) != 39) = true := by
          simp only [bne_iff_ne, ne_eq]
          intro e
          exact hc (UInt8.toNat_inj.1 (by simpa using (by omega : s[i].toNat = 39)))
        obtain ⟨S1, hS1⟩ : ∃ S1, str [s[i]] = S1 := ⟨_, rfl⟩
        have h1s : S1.size = 1 := by rw [← hS1, str_size]; rfl
        have eS : T ++ S1 = str (acc ++ [s[i]]) := by rw [hacc, ← hS1]; exact str_append _ _
        have HE : Hid (∃ acc, T ++ S1 = str acc ∧ scanQ (l.drop 1) [] 1 = scanQ (l.drop (i + 1)) acc (i + 1)) := Lib.hid ⟨acc ++ [s[i]], eS, hsc⟩
        have hsT : (T ++ S1).size ≤ i + 1 := by rw [ByteArray.size_append]; omega
        have h1sI : (S1.size : Int) = 1 := by omega
        rw [hS1] at q1
        clear hacc hsc hc hg eS HG HC HV HR hS1
        go_wp2_with fail
        go_roundw
        case rel => exact ⟨i + 1, _, by omega, by omega, by go_num, rfl, hsT, HE, by first | rfl | trivial⟩
        case measure => simp [intOf]; omega
    · have iI : ¬ (i : Int) < (s.size : Int) := by have := HSZ.out; omega
      have HRR : Hid (R = .err 4) := by
        show _ = _
        obtain ⟨acc, hacc, hsc⟩ := hH.out
        rw [show l.drop i = [] from List.drop_of_length_le (by rw [HN.out]; omega), show scanQ [] acc i = none by rw [scanQ]] at hsc
        rw [← HR.out, hsc]
      clear hH HG HC HV HR
      go_wp2_with fail
      go_ret3
      exact ⟨⟨_, _, _, rfl, Lib.hid (by rw [HRR.out]; exact ⟨rfl, by decide⟩)⟩, Below.refl _ _⟩
end Go.Proofs.YtncllcfdmiaopaaGreatDoor
