/-
  CONTRACTS of package lex's tests of bytes, of run, and of the reference's among, reach, isName.
  CONDITIONS: each theorem's own hypotheses.
-/
import Derived.Test.YtlhoakpijfhljaaGreatDoorLexM
import Derived.Test.YtlhoakpijfhljaaGreatDoorStr0
import Derived.LoopTactic
namespace Go.Proofs.YtlhoakpijfhljaaGreatDoor
open Go.RowKit
set_option linter.unusedVariables false

theorem isSmall_any (c : UInt8) (w : World) : Calls Tryz.prog 36 #[.int .u8 (c.toNat : Int)] w fun e w' => e = .returned (.bool (isSm c)) ∧ w = w' := by
  unfold isSm
  generalize c.toNat = n
  by_cases h1 : 97 ≤ n
  · have i1 : (97 : Int) ≤ n := by omega
    by_cases h2 : n ≤ 122
    · have i2 : (n : Int) ≤ 122 := by omega
      rw [decide_eq_true h1, decide_eq_true h2]
      clear h1 h2
      go_enter Tryz.func36, Tryz.ntmps36
      go_wp2
      go_ret
      exact ⟨rfl, rfl⟩
    · have i2 : ¬ (n : Int) ≤ 122 := by omega
      rw [decide_eq_true h1, decide_eq_false h2]
      clear h1 h2
      go_enter Tryz.func36, Tryz.ntmps36
      go_wp2
      go_ret
      exact ⟨rfl, rfl⟩
  · have i1 : ¬ (97 : Int) ≤ n := by omega
    rw [decide_eq_false h1, Bool.false_and]
    clear h1
    go_enter Tryz.func36, Tryz.ntmps36
    go_wp2
    go_ret
    exact ⟨rfl, rfl⟩
theorem isGreat_any (c : UInt8) (w : World) : Calls Tryz.prog 38 #[.int .u8 (c.toNat : Int)] w fun e w' => e = .returned (.bool (isGr c)) ∧ w = w' := by
  unfold isGr
  generalize c.toNat = n
  by_cases h1 : 65 ≤ n
  · have i1 : (65 : Int) ≤ n := by omega
    by_cases h2 : n ≤ 90
    · have i2 : (n : Int) ≤ 90 := by omega
      rw [decide_eq_true h1, decide_eq_true h2]
      clear h1 h2
      go_enter Tryz.func38, Tryz.ntmps38
      go_wp2
      go_ret
      exact ⟨rfl, rfl⟩
    · have i2 : ¬ (n : Int) ≤ 90 := by omega
      rw [decide_eq_true h1, decide_eq_false h2]
      clear h1 h2
      go_enter Tryz.func38, Tryz.ntmps38
      go_wp2
      go_ret
      exact ⟨rfl, rfl⟩
  · have i1 : ¬ (65 : Int) ≤ n := by omega
    rw [decide_eq_false h1, Bool.false_and]
    clear h1
    go_enter Tryz.func38, Tryz.ntmps38
    go_wp2
    go_ret
    exact ⟨rfl, rfl⟩
theorem isDigit_any (c : UInt8) (w : World) : Calls Tryz.prog 49 #[.int .u8 (c.toNat : Int)] w fun e w' => e = .returned (.bool (isDi c)) ∧ w = w' := by
  unfold isDi
  generalize c.toNat = n
  by_cases h1 : 48 ≤ n
  · have i1 : (48 : Int) ≤ n := by omega
    by_cases h2 : n ≤ 57
    · have i2 : (n : Int) ≤ 57 := by omega
      rw [decide_eq_true h1, decide_eq_true h2]
      clear h1 h2
      go_enter Tryz.func49, Tryz.ntmps49
      go_wp2
      go_ret
      exact ⟨rfl, rfl⟩
    · have i2 : ¬ (n : Int) ≤ 57 := by omega
      rw [decide_eq_true h1, decide_eq_false h2]
      clear h1 h2
      go_enter Tryz.func49, Tryz.ntmps49
      go_wp2
      go_ret
      exact ⟨rfl, rfl⟩
  · have i1 : ¬ (48 : Int) ≤ n := by omega
    rw [decide_eq_false h1, Bool.false_and]
    clear h1
    go_enter Tryz.func49, Tryz.ntmps49
    go_wp2
    go_ret
    exact ⟨rfl, rfl⟩
theorem isBlank_any (c : UInt8) (w : World) : Calls Tryz.prog 32 #[.int .u8 (c.toNat : Int)] w fun e w' => e = .returned (.bool (isBl c)) ∧ w = w' := by
  have e1 : decide (c.toNat = 32) = ((c.toNat : Int) == 32) := by rw [Bool.eq_iff_iff]; simp; omega
  have e2 : decide (c.toNat = 9) = ((c.toNat : Int) == 9) := by rw [Bool.eq_iff_iff]; simp; omega
  have e3 : decide (c.toNat = 10) = ((c.toNat : Int) == 10) := by rw [Bool.eq_iff_iff]; simp; omega
  unfold isBl
  rw [e1, e2, e3]
  clear e1 e2 e3
  cases h1 : ((c.toNat : Int) == 32) <;> cases h2 : ((c.toNat : Int) == 9) <;> cases h3 : ((c.toNat : Int) == 10) <;>
  (go_enter Tryz.func32, Tryz.ntmps32
   go_wp2
   go_ret
   exact ⟨rfl, rfl⟩)
theorem staysInName_any (c : UInt8) (w : World) : Calls Tryz.prog 37 #[.int .u8 (c.toNat : Int)] w fun e w' => e = .returned (.bool (stays c)) ∧ w = w' := by
  have e1 : decide (c.toNat = 95) = ((c.toNat : Int) == 95) := by rw [Bool.eq_iff_iff]; simp; omega
  unfold stays
  rw [e1]
  have cS := isSmall_any c w
  have cD := isDigit_any c w
  clear e1
  cases h1 : isSm c <;> cases h2 : isDi c <;> cases h3 : ((c.toNat : Int) == 95) <;>
  (rw [h1] at cS
   rw [h2] at cD
   go_enter Tryz.func37, Tryz.ntmps37
   go_wp2_with (first | (go_at_call 36; refine cS.mono ?_; rintro e w' ⟨rfl, rfl⟩) | (go_at_call 49; refine cD.mono ?_; rintro e w' ⟨rfl, rfl⟩) | fail)
   go_ret
   exact ⟨rfl, rfl⟩)
set_option maxHeartbeats 1000000 in
/-- ████ run. -/
theorem run_staysInName (l : List UInt8) (w : World) (hl : l.length ≤ 9223372036854775807) :
    Calls Tryz.prog 31 #[.string (str l), .func (.func 37) #[] #[]] w fun e w' => e = .returned (.string (str (l.takeWhile stays))) ∧ w = w' := by
  have hsz := str_size l
  obtain ⟨s, hs⟩ : ∃ s, str l = s := ⟨_, rfl⟩
  rw [hs] at hsz ⊢
  obtain ⟨n, hn⟩ : ∃ n, l.length = n := ⟨_, rfl⟩
  rw [hn] at hsz hl
  have hget : ∀ j (h : j < s.size) (h' : j < l.length), s[j] = l[j] := by subst hs; exact fun j h h' => rfl
  have hcut : ∀ j (h : j ≤ n) (w : World), (Instr.slice 9 (.string s) none (some (.int .i64 (j : Int))) none).run Tryz.prog w = .ok (.string (str (l.take j))) w := fun j h w => by
    subst hs; exact head_str l j _ rfl (by omega) w
  have HSZ := Lib.hid hsz
  have HN := Lib.hid hn
  have HG := Lib.hid hget
  have HC := Lib.hid hcut
  clear hs hsz hn hget hcut
  go_enter Tryz.func31, Tryz.ntmps31
  go_wp2
  go_loopw [5] (fun i wr => ∃ t : Nat, t ≤ n ∧ i = .int .i64 t ∧ Hid ((l.take t).all stays = true) ∧ wr = w) (fun i _ => n - (intOf i).toNat)
  case atStart => exact ⟨0, Nat.zero_le _, rfl, Lib.hid (by simp), rfl⟩
  case round =>
    obtain ⟨t, ht, rfl, hA, rfl⟩ := hrel
    by_cases h1 : t < n
    · have hts : t < s.size := by rw [HSZ.out]; exact h1
      have htl : t < l.length := by rw [HN.out]; exact h1
      have hg := HG.out t hts htl
      have cF := staysInName_any s[t] wr
      have htI : (t : Int) < (s.size : Int) := by omega
      cases hp : stays s[t] with
      | true =>
        rw [hp] at cF
        have hA2 := Lib.hid (all_take_succ stays l t htl hA.out (by rw [← hg]; exact hp))
        clear hg htl
        go_wp2_with fail
        refine cF.mono ?_
        rintro e w1 ⟨rfl, rfl⟩
        go_wp2_with fail
        go_roundw
        case rel => exact ⟨t + 1, by omega, by go_num, hA2, by first | rfl | trivial⟩
        case measure => simp [intOf]; omega
      | false =>
        rw [hp] at cF
        have hE := Lib.hid (takeWhile_at stays l t hA.out (fun h => by rw [← hg]; exact hp))
        have q := HC.out t ht
        clear hg htl
        go_wp2_with fail
        refine cF.mono ?_
        rintro e w1 ⟨rfl, rfl⟩
        have q1 := q wr
        go_wp2_with fail
        go_ret
        exact ⟨by rw [hE.out]; rfl, by first | rfl | trivial⟩
    · have hge : ¬ t < s.size := by rw [HSZ.out]; exact h1
      have hE := Lib.hid (takeWhile_at stays l t hA.out (fun h => by rw [HN.out] at h; omega))
      have q1 := HC.out t ht wr
      have htI : ¬ (t : Int) < (s.size : Int) := by omega
      go_wp2_with fail
      go_ret
      exact ⟨by rw [hE.out]; rfl, by first | rfl | trivial⟩
set_option maxHeartbeats 1000000 in
/-- ████ run. -/
theorem run_isGreat (l : List UInt8) (w : World) (hl : l.length ≤ 9223372036854775807) :
    Calls Tryz.prog 31 #[.string (str l), .func (.func 38) #[] #[]] w fun e w' => e = .returned (.string (str (l.takeWhile isGr))) ∧ w = w' := by
  have hsz := str_size l
  obtain ⟨s, hs⟩ : ∃ s, str l = s := ⟨_, rfl⟩
  rw [hs] at hsz ⊢
  obtain ⟨n, hn⟩ : ∃ n, l.length = n := ⟨_, rfl⟩
  rw [hn] at hsz hl
  have hget : ∀ j (h : j < s.size) (h' : j < l.length), s[j] = l[j] := by subst hs; exact fun j h h' => rfl
  have hcut : ∀ j (h : j ≤ n) (w : World), (Instr.slice 9 (.string s) none (some (.int .i64 (j : Int))) none).run Tryz.prog w = .ok (.string (str (l.take j))) w := fun j h w => by
    subst hs; exact head_str l j _ rfl (by omega) w
  have HSZ := Lib.hid hsz
  have HN := Lib.hid hn
  have HG := Lib.hid hget
  have HC := Lib.hid hcut
  clear hs hsz hn hget hcut
  go_enter Tryz.func31, Tryz.ntmps31
  go_wp2
  go_loopw [5] (fun i wr => ∃ t : Nat, t ≤ n ∧ i = .int .i64 t ∧ Hid ((l.take t).all isGr = true) ∧ wr = w) (fun i _ => n - (intOf i).toNat)
  case atStart => exact ⟨0, Nat.zero_le _, rfl, Lib.hid (by simp), rfl⟩
  case round =>
    obtain ⟨t, ht, rfl, hA, rfl⟩ := hrel
    by_cases h1 : t < n
    · have hts : t < s.size := by rw [HSZ.out]; exact h1
      have htl : t < l.length := by rw [HN.out]; exact h1
      have hg := HG.out t hts htl
      have cF := isGreat_any s[t] wr
      have htI : (t : Int) < (s.size : Int) := by omega
      cases hp : isGr s[t] with
      | true =>
        rw [hp] at cF
        have hA2 := Lib.hid (all_take_succ isGr l t htl hA.out (by rw [← hg]; exact hp))
        clear hg htl
        go_wp2_with fail
        refine cF.mono ?_
        rintro e w1 ⟨rfl, rfl⟩
        go_wp2_with fail
        go_roundw
        case rel => exact ⟨t + 1, by omega, by go_num, hA2, by first | rfl | trivial⟩
        case measure => simp [intOf]; omega
      | false =>
        rw [hp] at cF
        have hE := Lib.hid (takeWhile_at isGr l t hA.out (fun h => by rw [← hg]; exact hp))
        have q := HC.out t ht
        clear hg htl
        go_wp2_with fail
        refine cF.mono ?_
        rintro e w1 ⟨rfl, rfl⟩
        have q1 := q wr
        go_wp2_with fail
        go_ret
        exact ⟨by rw [hE.out]; rfl, by first | rfl | trivial⟩
    · have hge : ¬ t < s.size := by rw [HSZ.out]; exact h1
      have hE := Lib.hid (takeWhile_at isGr l t hA.out (fun h => by rw [HN.out] at h; omega))
      have q1 := HC.out t ht wr
      have htI : ¬ (t : Int) < (s.size : Int) := by omega
      go_wp2_with fail
      go_ret
      exact ⟨by rw [hE.out]; rfl, by first | rfl | trivial⟩
set_option maxHeartbeats 1000000 in
/-- ████ run. -/
theorem run_isDigit (l : List UInt8) (w : World) (hl : l.length ≤ 9223372036854775807) :
    Calls Tryz.prog 31 #[.string (str l), .func (.func 49) #[] #[]] w fun e w' => e = .returned (.string (str (l.takeWhile isDi))) ∧ w = w' := by
  have hsz := str_size l
  obtain ⟨s, hs⟩ : ∃ s, str l = s := ⟨_, rfl⟩
  rw [hs] at hsz ⊢
  obtain ⟨n, hn⟩ : ∃ n, l.length = n := ⟨_, rfl⟩
  rw [hn] at hsz hl
  have hget : ∀ j (h : j < s.size) (h' : j < l.length), s[j] = l[j] := by subst hs; exact fun j h h' => rfl
  have hcut : ∀ j (h : j ≤ n) (w : World), (Instr.slice 9 (.string s) none (some (.int .i64 (j : Int))) none).run Tryz.prog w = .ok (.string (str (l.take j))) w := fun j h w => by
    subst hs; exact head_str l j _ rfl (by omega) w
  have HSZ := Lib.hid hsz
  have HN := Lib.hid hn
  have HG := Lib.hid hget
  have HC := Lib.hid hcut
  clear hs hsz hn hget hcut
  go_enter Tryz.func31, Tryz.ntmps31
  go_wp2
  go_loopw [5] (fun i wr => ∃ t : Nat, t ≤ n ∧ i = .int .i64 t ∧ Hid ((l.take t).all isDi = true) ∧ wr = w) (fun i _ => n - (intOf i).toNat)
  case atStart => exact ⟨0, Nat.zero_le _, rfl, Lib.hid (by simp), rfl⟩
  case round =>
    obtain ⟨t, ht, rfl, hA, rfl⟩ := hrel
    by_cases h1 : t < n
    · have hts : t < s.size := by rw [HSZ.out]; exact h1
      have htl : t < l.length := by rw [HN.out]; exact h1
      have hg := HG.out t hts htl
      have cF := isDigit_any s[t] wr
      have htI : (t : Int) < (s.size : Int) := by omega
      cases hp : isDi s[t] with
      | true =>
        rw [hp] at cF
        have hA2 := Lib.hid (all_take_succ isDi l t htl hA.out (by rw [← hg]; exact hp))
        clear hg htl
        go_wp2_with fail
        refine cF.mono ?_
        rintro e w1 ⟨rfl, rfl⟩
        go_wp2_with fail
        go_roundw
        case rel => exact ⟨t + 1, by omega, by go_num, hA2, by first | rfl | trivial⟩
        case measure => simp [intOf]; omega
      | false =>
        rw [hp] at cF
        have hE := Lib.hid (takeWhile_at isDi l t hA.out (fun h => by rw [← hg]; exact hp))
        have q := HC.out t ht
        clear hg htl
        go_wp2_with fail
        refine cF.mono ?_
        rintro e w1 ⟨rfl, rfl⟩
        have q1 := q wr
        go_wp2_with fail
        go_ret
        exact ⟨by rw [hE.out]; rfl, by first | rfl | trivial⟩
    · have hge : ¬ t < s.size := by rw [HSZ.out]; exact h1
      have hE := Lib.hid (takeWhile_at isDi l t hA.out (fun h => by rw [HN.out] at h; omega))
      have q1 := HC.out t ht wr
      have htI : ¬ (t : Int) < (s.size : Int) := by omega
      go_wp2_with fail
      go_ret
      exact ⟨by rw [hE.out]; rfl, by first | rfl | trivial⟩
set_option maxHeartbeats 1000000 in
/-- ████ run. -/
theorem run_isBlank (l : List UInt8) (w : World) (hl : l.length ≤ 9223372036854775807) :
    Calls Tryz.prog 31 #[.string (str l), .func (.func 32) #[] #[]] w fun e w' => e = .returned (.string (str (l.takeWhile isBl))) ∧ w = w' := by
  have hsz := str_size l
  obtain ⟨s, hs⟩ : ∃ s, str l = s := ⟨_, rfl⟩
  rw [hs] at hsz ⊢
  obtain ⟨n, hn⟩ : ∃ n, l.length = n := ⟨_, rfl⟩
  rw [hn] at hsz hl
  have hget : ∀ j (h : j < s.size) (h' : j < l.length), s[j] = l[j] := by subst hs; exact fun j h h' => rfl
  have hcut : ∀ j (h : j ≤ n) (w : World), (Instr.slice 9 (.string s) none (some (.int .i64 (j : Int))) none).run Tryz.prog w = .ok (.string (str (l.take j))) w := fun j h w => by
    subst hs; exact head_str l j _ rfl (by omega) w
  have HSZ := Lib.hid hsz
  have HN := Lib.hid hn
  have HG := Lib.hid hget
  have HC := Lib.hid hcut
  clear hs hsz hn hget hcut
  go_enter Tryz.func31, Tryz.ntmps31
  go_wp2
  go_loopw [5] (fun i wr => ∃ t : Nat, t ≤ n ∧ i = .int .i64 t ∧ Hid ((l.take t).all isBl = true) ∧ wr = w) (fun i _ => n - (intOf i).toNat)
  case atStart => exact ⟨0, Nat.zero_le _, rfl, Lib.hid (by simp), rfl⟩
  case round =>
    obtain ⟨t, ht, rfl, hA, rfl⟩ := hrel
    by_cases h1 : t < n
    · have hts : t < s.size := by rw [HSZ.out]; exact h1
      have htl : t < l.length := by rw [HN.out]; exact h1
      have hg := HG.out t hts htl
      have cF := isBlank_any s[t] wr
      have htI : (t : Int) < (s.size : Int) := by omega
      cases hp : isBl s[t] with
      | true =>
        rw [hp] at cF
        have hA2 := Lib.hid (all_take_succ isBl l t htl hA.out (by rw [← hg]; exact hp))
        clear hg htl
        go_wp2_with fail
        refine cF.mono ?_
        rintro e w1 ⟨rfl, rfl⟩
        go_wp2_with fail
        go_roundw
        case rel => exact ⟨t + 1, by omega, by go_num, hA2, by first | rfl | trivial⟩
        case measure => simp [intOf]; omega
      | false =>
        rw [hp] at cF
        have hE := Lib.hid (takeWhile_at isBl l t hA.out (fun h => by rw [← hg]; exact hp))
        have q := HC.out t ht
        clear hg htl
        go_wp2_with fail
        refine cF.mono ?_
        rintro e w1 ⟨rfl, rfl⟩
        have q1 := q wr
        go_wp2_with fail
        go_ret
        exact ⟨by rw [hE.out]; rfl, by first | rfl | trivial⟩
    · have hge : ¬ t < s.size := by rw [HSZ.out]; exact h1
      have hE := Lib.hid (takeWhile_at isBl l t hA.out (fun h => by rw [HN.out] at h; omega))
      have q1 := HC.out t ht wr
      have htI : ¬ (t : Int) < (s.size : Int) := by omega
      go_wp2_with fail
      go_ret
      exact ⟨by rw [hE.out]; rfl, by first | rfl | trivial⟩

theorem nameB_eq (l : List UInt8) : nameB l = (!l.isEmpty && (match l with | [] => false | c :: _ => isSm c) && l.all stays) := by
  cases l <;> simp [nameB]
end Go.Proofs.YtlhoakpijfhljaaGreatDoor
