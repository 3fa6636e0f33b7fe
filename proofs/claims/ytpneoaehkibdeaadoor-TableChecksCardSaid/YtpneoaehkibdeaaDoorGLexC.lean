/-
  MERGED: LexA, LexB, LexC.
  CONDITIONS: each theorem's own hypotheses.
-/
import Derived.Test.YtpneoaehkibdeaaDoorLexM
import Derived.Test.YtpneoaehkibdeaaDoorStr0
import Derived.LoopTactic
import Derived.Test.YtpneoaehkibdeaaDoorGReg
import Derived.Deep.MidRow
import Derived.Lib.PathFns

/-! CONTRACTS of package lex's tests of bytes, of run, and of the reference's among, reach, isName. CONDITIONS: each theorem's own hypotheses. -/
namespace Go.Proofs.YtpneoaehkibdeaaDoor
open Go.RowKit
set_option linter.unusedVariables false

theorem isSmall_any (c : UInt8) (w : World) : Calls Tryd.prog 81 #[.int .u8 (c.toNat : Int)] w fun e w' => e = .returned (.bool (isSm c)) ∧ w = w' := by
  unfold isSm
  generalize c.toNat = n
  by_cases h1 : 97 ≤ n
  · have i1 : (97 : Int) ≤ n := by omega
    by_cases h2 : n ≤ 122
    · have i2 : (n : Int) ≤ 122 := by omega
      rw [decide_eq_true h1, decide_eq_true h2]
      clear h1 h2
      go_enter Tryd.func81, Tryd.ntmps81
      go_wp2
      go_ret
      exact ⟨rfl, rfl⟩
    · have i2 : ¬ (n : Int) ≤ 122 := by omega
      rw [decide_eq_true h1, decide_eq_false h2]
      clear h1 h2
      go_enter Tryd.func81, Tryd.ntmps81
      go_wp2
      go_ret
      exact ⟨rfl, rfl⟩
  · have i1 : ¬ (97 : Int) ≤ n := by omega
    rw [decide_eq_false h1, Bool.false_and]
    clear h1
    go_enter Tryd.func81, Tryd.ntmps81
    go_wp2
    go_ret
    exact ⟨rfl, rfl⟩
theorem isGreat_any (c : UInt8) (w : World) : Calls Tryd.prog 84 #[.int .u8 (c.toNat : Int)] w fun e w' => e = .returned (.bool (isGr c)) ∧ w = w' := by
  unfold isGr
  generalize c.toNat = n
  by_cases h1 : 65 ≤ n
  · have i1 : (65 : Int) ≤ n := by omega
    by_cases h2 : n ≤ 90
    · have i2 : (n : Int) ≤ 90 := by omega
      rw [decide_eq_true h1, decide_eq_true h2]
      clear h1 h2
      go_enter Tryd.func84, Tryd.ntmps84
      go_wp2
      go_ret
      exact ⟨rfl, rfl⟩
    · have i2 : ¬ (n : Int) ≤ 90 := by omega
      rw [decide_eq_true h1, decide_eq_false h2]
      clear h1 h2
      go_enter Tryd.func84, Tryd.ntmps84
      go_wp2
      go_ret
      exact ⟨rfl, rfl⟩
  · have i1 : ¬ (65 : Int) ≤ n := by omega
    rw [decide_eq_false h1, Bool.false_and]
    clear h1
    go_enter Tryd.func84, Tryd.ntmps84
    go_wp2
    go_ret
    exact ⟨rfl, rfl⟩
theorem isDigit_any (c : UInt8) (w : World) : Calls Tryd.prog 106 #[.int .u8 (c.toNat : Int)] w fun e w' => e = .returned (.bool (isDi c)) ∧ w = w' := by
  unfold isDi
  generalize c.toNat = n
  by_cases h1 : 48 ≤ n
  · have i1 : (48 : Int) ≤ n := by omega
    by_cases h2 : n ≤ 57
    · have i2 : (n : Int) ≤ 57 := by omega
      rw [decide_eq_true h1, decide_eq_true h2]
      clear h1 h2
      go_enter Tryd.func106, Tryd.ntmps106
      go_wp2
      go_ret
      exact ⟨rfl, rfl⟩
    · have i2 : ¬ (n : Int) ≤ 57 := by omega
      rw [decide_eq_true h1, decide_eq_false h2]
      clear h1 h2
      go_enter Tryd.func106, Tryd.ntmps106
      go_wp2
      go_ret
      exact ⟨rfl, rfl⟩
  · have i1 : ¬ (48 : Int) ≤ n := by omega
    rw [decide_eq_false h1, Bool.false_and]
    clear h1
    go_enter Tryd.func106, Tryd.ntmps106
    go_wp2
    go_ret
    exact ⟨rfl, rfl⟩
theorem staysInName_any (c : UInt8) (w : World) : Calls Tryd.prog 83 #[.int .u8 (c.toNat : Int)] w fun e w' => e = .returned (.bool (stays c)) ∧ w = w' := by
  have e1 : decide (c.toNat = 95) = ((c.toNat : Int) == 95) := by rw [Bool.eq_iff_iff]; simp; omega
  unfold stays
  rw [e1]
  have cS := isSmall_any c w
  have cD := isDigit_any c w
  clear e1
  cases h1 : isSm c <;> cases h2 : isDi c <;> cases h3 : ((c.toNat : Int) == 95) <;>
  (rw [h1] at cS
   rw [h2] at cD
   go_enter Tryd.func83, Tryd.ntmps83
   go_wp2_with (first | (go_at_call 81; refine cS.mono ?_; rintro e w' ⟨rfl, rfl⟩) | (go_at_call 106; refine cD.mono ?_; rintro e w' ⟨rfl, rfl⟩) | fail)
   go_ret
   exact ⟨rfl, rfl⟩)
set_option maxHeartbeats 1000000 in
/-- ████ run. -/
theorem run_staysInName (l : List UInt8) (w : World) (hl : l.length ≤ 9223372036854775807) :
    Calls Tryd.prog 82 #[.string (str l), .func (.func 83) #[] #[]] w fun e w' => e = .returned (.string (str (l.takeWhile stays))) ∧ w = w' := by
  have hsz := str_size l
  obtain ⟨s, hs⟩ : ∃ s, str l = s := ⟨_, rfl⟩
  rw [hs] at hsz ⊢
  obtain ⟨n, hn⟩ : ∃ n, l.length = n := ⟨_, rfl⟩
  rw [hn] at hsz hl
  have hget : ∀ j (h : j < s.size) (h' : j < l.length), s[j] = l[j] := by subst hs; exact fun j h h' => rfl
  have hcut : ∀ j (h : j ≤ n) (w : World), (Instr.slice 9 (.string s) none (some (.int .i64 (j : Int))) none).run Tryd.prog w = .ok (.string (str (l.take j))) w := fun j h w => by
    subst hs; exact head_str l j _ rfl (by omega) w
  have HSZ := Lib.hid hsz
  have HN := Lib.hid hn
  have HG := Lib.hid hget
  have HC := Lib.hid hcut
  clear hs hsz hn hget hcut
  go_enter Tryd.func82, Tryd.ntmps82
  go_wp2
  go_loopw [5] (fun i wr => ∃ t : Nat, t ≤ n ∧ i = .int .i64 t ∧ Hid ((l.take t).all stays = true) ∧ wr = w) (fun i _ => n - (intOf i).toNat)
  case atStart => exact ⟨0, Nat.zero_le _, rfl, Lib.hid (by simp), rfl⟩
  case round =>
    obtain ⟨t, ht, rfl, hA, rfl⟩ := hrel
    by_cases h1 : t < n
    · have hts : t < s.size := by rw [HSZ.out]; exact h1
      have htl : t < l.length := by rw [HN.out]; exact h1
      have hg := HG.out t hts htl
      have cF := staysInName_any s[t] wr
      have htI : (t : Int) < (s.size : Int) := by omega
      cases hp : stays s[t] with
      | true =>
        rw [hp] at cF
        have hA2 := Lib.hid (all_take_succ stays l t htl hA.out (by rw [← hg]; exact hp))
        clear hg htl
        go_wp2_with fail
        refine cF.mono ?_
        rintro e w1 ⟨rfl, rfl⟩
        go_wp2_with fail
        go_roundw
        case rel => exact ⟨t + 1, by omega, by go_num, hA2, by first | rfl | trivial⟩
        case measure => simp [intOf]; omega
      | false =>
        rw [hp] at cF
        have hE := Lib.hid (takeWhile_at stays l t hA.out (fun h => by rw [← hg]; exact hp))
        have q := HC.out t ht
        clear hg htl
        go_wp2_with fail
        refine cF.mono ?_
        rintro e w1 ⟨rfl, rfl⟩
        have q1 := q wr
        go_wp2_with fail
        go_ret
        exact ⟨by rw [hE.out]; rfl, by first | rfl | trivial⟩
    · have hge : ¬ t < s.size := by rw [HSZ.out]; exact h1
      have hE := Lib.hid (takeWhile_at stays l t hA.out (fun h => by rw [HN.out] at h; omega))
      have q1 := HC.out t ht wr
      have htI : ¬ (t : Int) < (s.size : Int) := by omega
      go_wp2_with fail
      go_ret
      exact ⟨by rw [hE.out]; rfl, by first | rfl | trivial⟩
set_option maxHeartbeats 1000000 in
/-- ████ run. -/
theorem run_isGreat (l : List UInt8) (w : World) (hl : l.length ≤ 9223372036854775807) :
    Calls Tryd.prog 82 #[.string (str l), .func (.func 84) #[] #[]] w fun e w' => e = .returned (.string (str (l.takeWhile isGr))) ∧ w = w' := by
  have hsz := str_size l
  obtain ⟨s, hs⟩ : ∃ s, str l = s := ⟨_, rfl⟩
  rw [hs] at hsz ⊢
  obtain ⟨n, hn⟩ : ∃ n, l.length = n := ⟨_, rfl⟩
  rw [hn] at hsz hl
  have hget : ∀ j (h : j < s.size) (h' : j < l.length), s[j] = l[j] := by subst hs; exact fun j h h' => rfl
  have hcut : ∀ j (h : j ≤ n) (w : World), (Instr.slice 9 (.string s) none (some (.int .i64 (j : Int))) none).run Tryd.prog w = .ok (.string (str (l.take j))) w := fun j h w => by
    subst hs; exact head_str l j _ rfl (by omega) w
  have HSZ := Lib.hid hsz
  have HN := Lib.hid hn
  have HG := Lib.hid hget
  have HC := Lib.hid hcut
  clear hs hsz hn hget hcut
  go_enter Tryd.func82, Tryd.ntmps82
  go_wp2
  go_loopw [5] (fun i wr => ∃ t : Nat, t ≤ n ∧ i = .int .i64 t ∧ Hid ((l.take t).all isGr = true) ∧ wr = w) (fun i _ => n - (intOf i).toNat)
  case atStart => exact ⟨0, Nat.zero_le _, rfl, Lib.hid (by simp), rfl⟩
  case round =>
    obtain ⟨t, ht, rfl, hA, rfl⟩ := hrel
    by_cases h1 : t < n
    · have hts : t < s.size := by rw [HSZ.out]; exact h1
      have htl : t < l.length := by rw [HN.out]; exact h1
      have hg := HG.out t hts htl
      have cF := isGreat_any s[t] wr
      have htI : (t : Int) < (s.size : Int) := by omega
      cases hp : isGr s[t] with
      | true =>
        rw [hp] at cF
        have hA2 := Lib.hid (all_take_succ isGr l t htl hA.out (by rw [← hg]; exact hp))
        clear hg htl
        go_wp2_with fail
        refine cF.mono ?_
        rintro e w1 ⟨rfl, rfl⟩
        go_wp2_with fail
        go_roundw
        case rel => exact ⟨t + 1, by omega, by go_num, hA2, by first | rfl | trivial⟩
        case measure => simp [intOf]; omega
      | false =>
        rw [hp] at cF
        have hE := Lib.hid (takeWhile_at isGr l t hA.out (fun h => by rw [← hg]; exact hp))
        have q := HC.out t ht
        clear hg htl
        go_wp2_with fail
        refine cF.mono ?_
        rintro e w1 ⟨rfl, rfl⟩
        have q1 := q wr
        go_wp2_with fail
        go_ret
        exact ⟨by rw [hE.out]; rfl, by first | rfl | trivial⟩
    · have hge : ¬ t < s.size := by rw [HSZ.out]; exact h1
      have hE := Lib.hid (takeWhile_at isGr l t hA.out (fun h => by rw [HN.out] at h; omega))
      have q1 := HC.out t ht wr
      have htI : ¬ (t : Int) < (s.size : Int) := by omega
      go_wp2_with fail
      go_ret
      exact ⟨by rw [hE.out]; rfl, by first | rfl | trivial⟩
set_option maxHeartbeats 1000000 in
/-- ████ run. -/
theorem run_isDigit (l : List UInt8) (w : World) (hl : l.length ≤ 9223372036854775807) :
    Calls Tryd.prog 82 #[.string (str l), .func (.func 106) #[] #[]] w fun e w' => e = .returned (.string (str (l.takeWhile isDi))) ∧ w = w' := by
  have hsz := str_size l
  obtain ⟨s, hs⟩ : ∃ s, str l = s := ⟨_, rfl⟩
  rw [hs] at hsz ⊢
  obtain ⟨n, hn⟩ : ∃ n, l.length = n := ⟨_, rfl⟩
  rw [hn] at hsz hl
  have hget : ∀ j (h : j < s.size) (h' : j < l.length), s[j] = l[j] := by subst hs; exact fun j h h' => rfl
  have hcut : ∀ j (h : j ≤ n) (w : World), (Instr.slice 9 (.string s) none (some (.int .i64 (j : Int))) none).run Tryd.prog w = .ok (.string (str (l.take j))) w := fun j h w => by
    subst hs; exact head_str l j _ rfl (by omega) w
  have HSZ := Lib.hid hsz
  have HN := Lib.hid hn
  have HG := Lib.hid hget
  have HC := Lib.hid hcut
  clear hs hsz hn hget hcut
  go_enter Tryd.func82, Tryd.ntmps82
  go_wp2
  go_loopw [5] (fun i wr => ∃ t : Nat, t ≤ n ∧ i = .int .i64 t ∧ Hid ((l.take t).all isDi = true) ∧ wr = w) (fun i _ => n - (intOf i).toNat)
  case atStart => exact ⟨0, Nat.zero_le _, rfl, Lib.hid (by simp), rfl⟩
  case round =>
    obtain ⟨t, ht, rfl, hA, rfl⟩ := hrel
    by_cases h1 : t < n
    · have hts : t < s.size := by rw [HSZ.out]; exact h1
      have htl : t < l.length := by rw [HN.out]; exact h1
      have hg := HG.out t hts htl
      have cF := isDigit_any s[t] wr
      have htI : (t : Int) < (s.size : Int) := by omega
      cases hp : isDi s[t] with
      | true =>
        rw [hp] at cF
        have hA2 := Lib.hid (all_take_succ isDi l t htl hA.out (by rw [← hg]; exact hp))
        clear hg htl
        go_wp2_with fail
        refine cF.mono ?_
        rintro e w1 ⟨rfl, rfl⟩
        go_wp2_with fail
        go_roundw
        case rel => exact ⟨t + 1, by omega, by go_num, hA2, by first | rfl | trivial⟩
        case measure => simp [intOf]; omega
      | false =>
        rw [hp] at cF
        have hE := Lib.hid (takeWhile_at isDi l t hA.out (fun h => by rw [← hg]; exact hp))
        have q := HC.out t ht
        clear hg htl
        go_wp2_with fail
        refine cF.mono ?_
        rintro e w1 ⟨rfl, rfl⟩
        have q1 := q wr
        go_wp2_with fail
        go_ret
        exact ⟨by rw [hE.out]; rfl, by first | rfl | trivial⟩
    · have hge : ¬ t < s.size := by rw [HSZ.out]; exact h1
      have hE := Lib.hid (takeWhile_at isDi l t hA.out (fun h => by rw [HN.out] at h; omega))
      have q1 := HC.out t ht wr
      have htI : ¬ (t : Int) < (s.size : Int) := by omega
      go_wp2_with fail
      go_ret
      exact ⟨by rw [hE.out]; rfl, by first | rfl | trivial⟩
/-! ### the reference's -/
set_option maxHeartbeats 1000000 in
theorem among_any (c : UInt8) (l : List UInt8) (w : World) (hl : l.length ≤ 9223372036854775807) :
    Calls Tryd.prog 58 #[.int .u8 (c.toNat : Int), .string (str l)] w fun e w' => e = .returned (.bool (l.contains c)) ∧ w = w' := by
  obtain ⟨B, hB⟩ : ∃ B, l.contains c = B := ⟨_, rfl⟩
  rw [hB]
  have HBB := Lib.hid hB
  clear hB
  have hsz := str_size l
  obtain ⟨s, hs⟩ : ∃ s, str l = s := ⟨_, rfl⟩
  rw [hs] at hsz ⊢
  obtain ⟨n, hn⟩ : ∃ n, l.length = n := ⟨_, rfl⟩
  rw [hn] at hsz hl
  have hget : ∀ j (h : j < s.size) (h' : j < l.length), s[j] = l[j] := by subst hs; exact fun j h h' => rfl
  have HSZ := Lib.hid hsz
  have HN := Lib.hid hn
  have HG := Lib.hid hget
  clear hs hsz hn hget
  go_enter Tryd.func58, Tryd.ntmps58
  go_wp2
  go_loopw [5] (fun i wr => ∃ t : Nat, t ≤ n ∧ i = .int .i64 t ∧ Hid (c ∉ l.take t) ∧ wr = w) (fun i _ => n - (intOf i).toNat)
  case atStart => exact ⟨0, Nat.zero_le _, rfl, Lib.hid (by simp), rfl⟩
  case round =>
    obtain ⟨t, ht, rfl, hA, rfl⟩ := hrel
    by_cases h1 : t < n
    · have hts : t < s.size := by rw [HSZ.out]; exact h1
      have htl : t < l.length := by rw [HN.out]; exact h1
      have hg := HG.out t hts htl
      have htI : (t : Int) < (s.size : Int) := by omega
      by_cases hp : s[t] = c
      · have hE : Hid (B = true) := by
          show _ = _
          rw [← HBB.out, List.contains_iff_mem, ← hp, hg]; exact List.getElem_mem htl
        have hq : ((s[t].toNat : Int) == (c.toNat : Int)) = true := by rw [hp]; simp
        clear hg htl hp
        go_wp2_with fail
        go_ret
        exact ⟨by rw [hE.out]; rfl, by first | rfl | trivial⟩
      · have hq : ((s[t].toNat : Int) == (c.toNat : Int)) = false := by
          simp only [beq_eq_false_iff_ne, ne_eq]
          intro e
          exact hp (UInt8.toNat_inj.1 (by omega))
        have hA2 : Hid (c ∉ l.take (t + 1)) := by
          show c ∉ _
          rw [List.take_succ_eq_append_getElem htl, List.mem_append]
          rintro (h | h)
          · exact hA.out h
          · simp at h; exact hp (by rw [hg, ← h])
        clear hg htl hp
        go_wp2_with fail
        go_roundw
        case rel => exact ⟨t + 1, by omega, by go_num, hA2, by first | rfl | trivial⟩
        case measure => simp [intOf]; omega
    · have hge : ¬ t < s.size := by rw [HSZ.out]; exact h1
      have hE : Hid (B = false) := by
        show _ = _
        rw [← HBB.out]
        have := hA.out
        rw [List.take_of_length_le (by rw [HN.out]; omega)] at this
        simpa using this
      have htI : ¬ (t : Int) < (s.size : Int) := by omega
      go_wp2_with fail
      go_ret
      exact ⟨by rw [hE.out]; rfl, by first | rfl | trivial⟩
set_option maxHeartbeats 1000000 in
theorem reach_any (l m : List UInt8) (w : World) (hl : l.length ≤ 9223372036854775807) (hm : m.length ≤ 9223372036854775807) :
    Calls Tryd.prog 59 #[.string (str l), .string (str m)] w fun e w' => e = .returned (.int .i64 ((l.takeWhile m.contains).length : Nat)) ∧ w = w' := by
  have cA := fun c W => among_any c m W hm
  have hsz := str_size l
  obtain ⟨s, hs⟩ : ∃ s, str l = s := ⟨_, rfl⟩
  rw [hs] at hsz ⊢
  obtain ⟨n, hn⟩ : ∃ n, l.length = n := ⟨_, rfl⟩
  rw [hn] at hsz hl
  have hget : ∀ j (h : j < s.size) (h' : j < l.length), s[j] = l[j] := by subst hs; exact fun j h h' => rfl
  have HSZ := Lib.hid hsz
  have HN := Lib.hid hn
  have HG := Lib.hid hget
  generalize str m = M at *
  clear hs hsz hn hget hm
  go_enter Tryd.func59, Tryd.ntmps59
  go_wp2
  go_loopw [5] (fun i wr => ∃ t : Nat, t ≤ n ∧ i = .int .i64 t ∧ Hid ((l.take t).all m.contains = true) ∧ wr = w) (fun i _ => n - (intOf i).toNat)
  case atStart => exact ⟨0, Nat.zero_le _, rfl, Lib.hid (by simp), rfl⟩
  case round =>
    obtain ⟨t, ht, rfl, hA, rfl⟩ := hrel
    by_cases h1 : t < n
    · have hts : t < s.size := by rw [HSZ.out]; exact h1
      have htl : t < l.length := by rw [HN.out]; exact h1
      have hg := HG.out t hts htl
      have cF := cA s[t] wr
      have htI : (t : Int) < (s.size : Int) := by omega
      cases hp : m.contains s[t] with
      | true =>
        rw [hp] at cF
        have hA2 := Lib.hid (all_take_succ m.contains l t htl hA.out (by rw [← hg]; exact hp))
        clear cA hg htl hp
        go_wp2_with fail
        refine cF.mono ?_
        rintro e w1 ⟨rfl, rfl⟩
        go_wp2_with fail
        go_roundw
        case rel => exact ⟨t + 1, by omega, by go_num, hA2, by first | rfl | trivial⟩
        case measure => simp [intOf]; omega
      | false =>
        rw [hp] at cF
        have hE := Lib.hid (takeWhile_at m.contains l t hA.out (fun h => by rw [← hg]; exact hp))
        have hL : Hid ((l.take t).length = t) := by show _ = _; rw [List.length_take, HN.out]; omega
        clear cA hg htl hp
        go_wp2_with fail
        refine cF.mono ?_
        rintro e w1 ⟨rfl, rfl⟩
        go_wp2_with fail
        go_ret
        exact ⟨by rw [hE.out, hL.out]; rfl, by first | rfl | trivial⟩
    · have hge : ¬ t < s.size := by rw [HSZ.out]; exact h1
      have hE := Lib.hid (takeWhile_at m.contains l t hA.out (fun h => by rw [HN.out] at h; omega))
      have hL : Hid ((l.take t).length = t) := by show _ = _; rw [List.length_take, HN.out]; omega
      have htI : ¬ (t : Int) < (s.size : Int) := by omega
      clear cA
      go_wp2_with fail
      go_ret
      exact ⟨by rw [hE.out, hL.out]; rfl, by first | rfl | trivial⟩
theorem nameB_eq (l : List UInt8) : nameB l = (!l.isEmpty && (match l with | [] => false | c :: _ => isSm c) && l.all stays) := by
  cases l <;> simp [nameB]
set_option maxHeartbeats 1000000 in
theorem isNameRef_any (l : List UInt8) (w : World) (hl : l.length ≤ 9223372036854775807) :
    Calls Tryd.prog 29 #[.string (str l)] w fun e w' => e = .returned (.bool (nameB l)) ∧ w = w' := by
  have cR := fun W => reach_any l nameTail W hl (by decide)
  rw [show nameTail.contains = stays from funext tail_has] at cR
  cases l with
  | nil =>
    have he : (str []).toList.isEmpty = true := by rw [str_toList]; rfl
    have he2 : (str []).toList = [] := by rw [str_toList]
    clear cR hl
    generalize str [] = s at *
    go_enter Tryd.func29, Tryd.ntmps29
    go_wp2_with fail
    go_ret
    exact ⟨rfl, rfl⟩
  | cons c l =>
    have cA := fun W => among_any c smallsL W (by decide)
    rw [smalls_has] at cA
    have hsz := str_size (c :: l)
    have hne : (str (c :: l)).toList ≠ [] := by rw [str_toList]; simp
    have hne2 : (str (c :: l)).toList.isEmpty = false := by rw [str_toList]; rfl
    have hg : ∀ h : 0 < (str (c :: l)).size, (str (c :: l))[0] = c := fun h => rfl
    have e2 := takeWhile_len stays (c :: l)
    obtain ⟨NB, hNB⟩ : ∃ NB, nameB (c :: l) = NB := ⟨_, rfl⟩
    rw [hNB]
    have hNB2 : NB = (isSm c && (c :: l).all stays) := by rw [← hNB]; rfl
    clear hNB
    obtain ⟨s, hs⟩ : ∃ s, str (c :: l) = s := ⟨_, rfl⟩
    rw [hs] at hsz hne hne2 hg cR ⊢
    have h0 : 0 < s.size := by rw [hsz]; simp
    have hg0 := hg h0
    generalize (c :: l).takeWhile stays = T at *
    generalize (c :: l).all stays = B at *
    generalize (c :: l).length = n at *
    have e3 : ((T.length : Int) == (s.size : Int)) = B := by rw [← e2, hsz, Bool.eq_iff_iff]; simp; omega
    generalize T.length = tl at *
    have HNB := Lib.hid hNB2
    have h0I : (0 : Int) < (s.size : Int) := by omega
    clear hs hg e2 hsz hl hNB2
    cases hc : isSm c with
    | false =>
      have HC : Hid (NB = false) := by show _ = _; rw [HNB.out, hc]; rfl
      rw [hc, ← hg0] at cA
      clear hg0 cR e3 HNB hc
      go_enter Tryd.func29, Tryd.ntmps29
      go_wp2_with fail
      refine (cA _).mono ?_
      rintro e w1 ⟨rfl, rfl⟩
      go_wp2_with fail
      go_ret
      exact ⟨by rw [HC.out]; rfl, rfl⟩
    | true =>
      have HC : Hid (NB = B) := by show _ = _; rw [HNB.out, hc]; rfl
      rw [hc, ← hg0] at cA
      clear hg0 HNB hc
      cases B <;>
      (go_enter Tryd.func29, Tryd.ntmps29
       go_wp2_with fail
       refine (cA _).mono ?_
       rintro e w1 ⟨rfl, rfl⟩
       go_wp2_with fail
       refine (cR _).mono ?_
       rintro e w1 ⟨rfl, rfl⟩
       go_wp2_with fail
       go_ret
       exact ⟨by rw [HC.out]; rfl, rfl⟩)
end Go.Proofs.YtpneoaehkibdeaaDoor

/-! CONTRACTS of package lex's signOf, mayBe, isTooLong, onlyOwnFields, goodContent, Check. CONDITIONS: each theorem's own hypotheses; package lex's signs hold what their initialiser lays ('SW'), unicode/utf8's two tables, too ('Tabs'). -/
namespace Go.Proofs.YtpneoaehkibdeaaDoor
open Go.RowKit
set_option linter.unusedVariables false
set_option maxRecDepth 100000

theorem str_beq (l m : List UInt8) : ((str l).toList == (str m).toList) = (l == m) := by rw [str_toList, str_toList]
set_option maxHeartbeats 1000000 in
theorem hasPrefix_any (l p : List UInt8) (w : World) (hl : l.length ≤ 9223372036854775807) (hp : p.length ≤ 9223372036854775807) :
    Calls Tryd.prog 107 #[.string (str l), .string (str p)] w fun e w' => e = .returned (.bool (Lib.hasPrefix l p)) ∧ w = w' := by
  have h1 := str_size l
  have h2 := str_size p
  have hh := (Lib.hasPrefix_of_take l p).symm
  have hc := fun (h : p.length ≤ l.length) W => head_str l p.length (p.length : Int) rfl h W
  rw [← str_beq] at hh
  obtain ⟨P, hP⟩ : ∃ P, Lib.hasPrefix l p = P := ⟨_, rfl⟩
  rw [hP] at hh ⊢
  generalize str (l.take p.length) = T at *
  generalize str l = S at *
  generalize str p = Q at *
  by_cases hlt : p.length ≤ l.length
  · have i1 : (Q.size : Int) ≤ (S.size : Int) := by omega
    have q1 := hc hlt
    rw [← h2] at q1
    rw [decide_eq_true hlt, Bool.true_and] at hh
    have HH := Lib.hid hh
    clear hc hh hlt h1 h2 hP
    cases he : (T.toList == Q.toList)
    all_goals
      rw [he] at HH
      go_enter Tryd.func107, Tryd.ntmps107
      go_wp2
      go_ret
      exact ⟨by rw [HH.out]; rfl, rfl⟩
  · have i1 : ¬ (Q.size : Int) ≤ (S.size : Int) := by omega
    rw [decide_eq_false hlt, Bool.false_and] at hh
    have HH := Lib.hid hh
    clear hc hh hlt h1 h2 hP
    go_enter Tryd.func107, Tryd.ntmps107
    go_wp2
    go_ret
    exact ⟨by rw [HH.out]; rfl, rfl⟩

/-! ### signs -/
def strsV (l : List (List UInt8)) : List Value := l.map fun s => .string (str s)
theorem strsV_get {l : List (List UInt8)} {i : Nat} {x : List UInt8} (h : l[i]? = some x) : (strsV l)[i]? = some (.string (str x)) := by simp [strsV, h]
theorem size_string (w : World) : (sizeOf 9).run Tryd.prog w = .ok 1 w := by kernel_rfl
theorem agg_string (w : World) : (isAgg 9).run Tryd.prog w = .ok false w := by kernel_rfl
theorem run_index_in {P : Program} {t e : TypeId} {n : Nat} (w : World) (cs : List Value) (i : Nat) (v : Value) (ht : P.underlying t = some (.array n e)) (hn : cs.length = n) (hs : ∀ w, (sizeOf e).run P w = .ok 1 w) (ha : ∀ w, (isAgg e).run P w = .ok false w) (hv : cs[i]? = some v) :
    (Instr.index t (.agg cs.toArray) (.int .i64 (i : Int))).run P w = .ok v w := by
  have hi : i < cs.length := (List.getElem?_eq_some_iff.1 hv).1
  have h1 : (0 : Int) ≤ i ∧ (i : Int) < n := by omega
  have h2 : i < n := by omega
  simp [Instr.index, run_underlying ht, asIntOf, h2, hs, ha, hv, go_sem]
theorem size_u8 (w : World) : (sizeOf 5).run Tryd.prog w = .ok 1 w := by kernel_rfl
theorem agg_u8 (w : World) : (isAgg 5).run Tryd.prog w = .ok false w := by kernel_rfl
theorem size_u32 (w : World) : (sizeOf 159).run Tryd.prog w = .ok 1 w := by kernel_rfl
theorem agg_u32 (w : World) : (isAgg 159).run Tryd.prog w = .ok false w := by kernel_rfl
/-- Package lex's signs. -/
def SW (w : World) : Prop := 0 < w.heap.size ∧ ∀ i x, signsL[i]? = some x → w.cell? ⟨0, i, none⟩ = some (.string (str x))
theorem SW.keep {w w' : World} {B : Nat} (h : SW w) (hb : Below B w w') (hB : w.heap.size ≤ B) : SW w' :=
  ⟨Nat.lt_of_lt_of_le h.1 hb.size, fun i x hx => (hb.cell (p := ⟨0, i, none⟩) (Nat.lt_of_lt_of_le h.1 hB)).trans (h.2 i x hx)⟩
theorem signs_range {w : World} (h : SW w) : w.rangeAt 0 0 (strsV signsL) := fun j v hv => by
  rw [Nat.zero_add]
  unfold strsV at hv
  rw [List.getElem?_map] at hv
  cases hx : signsL[j]? with
  | none => rw [hx] at hv; cases hv
  | some x => rw [hx] at hv; cases hv; exact h.2 j x hx
theorem signR_step (l : List UInt8) (i : Nat) (x : List UInt8) (hx : signsL[i]? = some x) (h : (signsL.take i).all (fun s => !Lib.hasPrefix l s) = true) : (Lib.hasPrefix l x = true → signR l = x) ∧ (Lib.hasPrefix l x = false → (signsL.take (i + 1)).all (fun s => !Lib.hasPrefix l s) = true) := by
  obtain ⟨hi, hxx⟩ := List.getElem?_eq_some_iff.1 hx
  constructor
  · intro hp
    unfold signR
    have : signsL.find? (fun s => Lib.hasPrefix l s) = some x := by
      rw [← List.take_append_drop i signsL, List.find?_append, List.find?_eq_none.2 (fun s hs => by have := List.all_eq_true.1 h s hs; simpa using this), List.drop_eq_getElem_cons hi, hxx]
      simp [hp]
    rw [this]; rfl
  · intro hp
    rw [List.take_succ_eq_append_getElem hi, List.all_append, h, hxx]
    simp [hp]
theorem signR_none (l : List UInt8) (h : (signsL.take 16).all (fun s => !Lib.hasPrefix l s) = true) : signR l = [] := by
  unfold signR
  rw [List.find?_eq_none.2 (fun s hs => by have := List.all_eq_true.1 h s hs; simpa using this)]; rfl
theorem signs_small : ∀ x ∈ signsL, x.length ≤ 2 := by decide
set_option maxHeartbeats 2000000 in
theorem signOf_any (l : List UInt8) (w : World) (hl : l.length ≤ 9223372036854775807) (hS : SW w) :
    Calls Tryd.prog 86 #[.string (str l)] w fun e w' => e = .returned (.string (str (signR l))) ∧ w = w' := by
  have cH := fun p W hp => hasPrefix_any l p W hl hp
  obtain ⟨V, hV⟩ : ∃ V, (strsV signsL).toArray = V := ⟨_, rfl⟩
  have hidx := fun i x (hx : signsL[i]? = some x) W => run_index_in (P := Tryd.prog) W (strsV signsL) i _ (t := 133) (e := 9) (n := 16) rfl rfl size_string agg_string (strsV_get hx)
  simp only [hV] at hidx
  have hrg := signs_range hS
  generalize str l = S at *
  have HI := Lib.hid hidx
  have HR := Lib.hid hrg
  clear hS hidx hrg
  go_enter Tryd.func86, Tryd.ntmps86
  go_wp2_with (first | (with_reducible refine wpList_load_mid rfl 133 (.global 0) rfl 0 0 rfl (strsV signsL) _ HR.out rfl rfl (by kernel_rfl) ?_) | fail)
  try rw [hV]
  clear hV HR
  go_loopw [6] (fun ix wr => ∃ i : Nat, i ≤ 16 ∧ ix = .int .i64 i ∧ Hid ((signsL.take i).all (fun s => !Lib.hasPrefix l s) = true) ∧ wr = w) (fun ix _ => 16 - (intOf ix).toNat)
  case atStart => exact ⟨0, Nat.zero_le _, rfl, Lib.hid rfl, rfl⟩
  case round =>
    obtain ⟨i, hi, rfl, hA, rfl⟩ := hrel
    by_cases h1 : i < 16
    · have iI : (i : Int) < 16 := by omega
      obtain ⟨x, hx⟩ : ∃ x, signsL[i]? = some x := ⟨_, List.getElem?_eq_getElem h1⟩
      obtain ⟨s1, s2⟩ := signR_step l i x hx hA.out
      have hx2 := signs_small x (List.mem_of_getElem? hx)
      have q1 := HI.out i x hx
      have cP := cH x wr (by omega)
      cases hp : Lib.hasPrefix l x with
      | true =>
        have HE : Hid (str (signR l) = str x) := Lib.hid (by rw [s1 hp])
        rw [hp] at cP
        clear cH hx s1 s2 hp hx2
        generalize str x = X at *
        go_wp2_with fail
        refine cP.mono ?_
        rintro e w1 ⟨rfl, rfl⟩
        go_wp2_with fail
        go_ret
        exact ⟨by rw [HE.out]; rfl, by first | rfl | trivial⟩
      | false =>
        have HE := Lib.hid (s2 hp)
        rw [hp] at cP
        clear cH hx s1 s2 hp hx2
        generalize str x = X at *
        go_wp2_with fail
        refine cP.mono ?_
        rintro e w1 ⟨rfl, rfl⟩
        go_wp2_with fail
        go_roundw
        case rel => exact ⟨i + 1, h1, by go_num, HE, by first | rfl | trivial⟩
        case measure => simp [intOf]; omega
    · have iI : ¬ (i : Int) < 16 := by omega
      obtain rfl : i = 16 := by omega
      have HE := Lib.hid (signR_none l hA.out)
      clear cH
      go_wp2_with fail
      go_ret
      exact ⟨by rw [HE.out]; rfl, by first | rfl | trivial⟩

/-! ### a token's fields -/
theorem kcase7 (k : Int) : (k = 1 ∨ k = 2 ∨ k = 3 ∨ k = 4 ∨ k = 5 ∨ k = 6) ∨ ((k == 1) = false ∧ (k == 2) = false ∧ (k == 3) = false ∧ (k == 4) = false ∧ (k == 5) = false ∧ (k == 6) = false) := by
  simp only [beq_eq_false_iff_ne]; omega
theorem mayBe_any (k i b : Int) (s : ByteArray) (w : World) (h0 : 0 ≤ b) (h1 : b ≤ 18446744073709551615) (hs : s.size ≤ 9223372036854775807) (hT : Tabs w) :
    Calls Tryd.prog 85 #[.agg #[.int .i64 k, .int .i64 i, .int .u64 b, .string s]] w fun e w' => e = .returned (.bool (chk k i b s == 0)) ∧ Below w.heap.size w w' := by
  have cC := fun o => check_any k i b s (w.alloc o) h0 h1 hs (tabs_below hT ((Below.refl _ _).alloc (Nat.le_refl _) o))
  obtain ⟨B, hB⟩ : ∃ B, (chk k i b s == 0) = B := ⟨_, rfl⟩
  rw [hB]
  generalize chk k i b s = C at *
  clear h0 h1 hs hT
  cases B
  all_goals
    go_enter Tryd.func85, Tryd.ntmps85
    go_wp2_with fail
    refine (cC _).mono ?_
    rintro e w' ⟨rfl, hb⟩
    clear cC
    go_wp2_with fail
    go_ret
    exact ⟨rfl, ((Below.refl _ _).alloc (Nat.le_refl _) _).trans (hb.mono (by simp))⟩
theorem isTooLong_any (k i b : Int) (l : List UInt8) (w : World) :
    Calls Tryd.prog 52 #[.agg #[.int .i64 k, .string (str l), .int .i64 i, .int .u64 b]] w fun e w' => e = .returned (.bool (tooL k l)) ∧ Below w.heap.size w w' := by
  have hsz := str_size l
  unfold tooL
  generalize str l = s at *
  generalize l.length = n at *
  rcases kcase7 k with (rfl | rfl | rfl | rfl | rfl | rfl) | ⟨k1, k2, k3, k4, k5, k6⟩
  · rw [if_pos (.inl rfl)]
    by_cases h : 8 < n
    · have i1 : (8 : Int) < (s.size : Int) := by omega
      rw [decide_eq_true h]
      clear h hsz
      go_enter Tryd.func52, Tryd.ntmps52
      go_wp2
      go_ret
      exact ⟨rfl, (Below.refl _ _).alloc (Nat.le_refl _) _⟩
    · have i1 : ¬ (8 : Int) < (s.size : Int) := by omega
      rw [decide_eq_false h]
      clear h hsz
      go_enter Tryd.func52, Tryd.ntmps52
      go_wp2
      go_ret
      exact ⟨rfl, (Below.refl _ _).alloc (Nat.le_refl _) _⟩
  · rw [if_pos (.inr rfl)]
    by_cases h : 8 < n
    · have i1 : (8 : Int) < (s.size : Int) := by omega
      rw [decide_eq_true h]
      clear h hsz
      go_enter Tryd.func52, Tryd.ntmps52
      go_wp2
      go_ret
      exact ⟨rfl, (Below.refl _ _).alloc (Nat.le_refl _) _⟩
    · have i1 : ¬ (8 : Int) < (s.size : Int) := by omega
      rw [decide_eq_false h]
      clear h hsz
      go_enter Tryd.func52, Tryd.ntmps52
      go_wp2
      go_ret
      exact ⟨rfl, (Below.refl _ _).alloc (Nat.le_refl _) _⟩
  · clear hsz
    go_enter Tryd.func52, Tryd.ntmps52
    go_wp2
    go_ret
    exact ⟨rfl, (Below.refl _ _).alloc (Nat.le_refl _) _⟩
  · rw [if_neg (by decide), if_pos rfl]
    by_cases h : 40 < n
    · have i1 : (40 : Int) < (s.size : Int) := by omega
      rw [decide_eq_true h]
      clear h hsz
      go_enter Tryd.func52, Tryd.ntmps52
      go_wp2
      go_ret
      exact ⟨rfl, (Below.refl _ _).alloc (Nat.le_refl _) _⟩
    · have i1 : ¬ (40 : Int) < (s.size : Int) := by omega
      rw [decide_eq_false h]
      clear h hsz
      go_enter Tryd.func52, Tryd.ntmps52
      go_wp2
      go_ret
      exact ⟨rfl, (Below.refl _ _).alloc (Nat.le_refl _) _⟩
  · clear hsz
    go_enter Tryd.func52, Tryd.ntmps52
    go_wp2
    go_ret
    exact ⟨rfl, (Below.refl _ _).alloc (Nat.le_refl _) _⟩
  · clear hsz
    go_enter Tryd.func52, Tryd.ntmps52
    go_wp2
    go_ret
    exact ⟨rfl, (Below.refl _ _).alloc (Nat.le_refl _) _⟩
  · rw [if_neg (by simp only [beq_eq_false_iff_ne] at *; omega), if_neg (by simp only [beq_eq_false_iff_ne] at *; omega)]
    clear hsz
    go_enter Tryd.func52, Tryd.ntmps52
    go_wp2
    go_ret
    exact ⟨rfl, (Below.refl _ _).alloc (Nat.le_refl _) _⟩
set_option maxHeartbeats 4000000 in
theorem onlyOwn_any (k i b : Int) (l : List UInt8) (w : World) :
    Calls Tryd.prog 53 #[.agg #[.int .i64 k, .string (str l), .int .i64 i, .int .u64 b]] w fun e w' => e = .returned (.bool (ownT k l i b)) ∧ Below w.heap.size w w' := by
  have hse : (str l).toList.isEmpty = l.isEmpty := by rw [str_toList]
  obtain ⟨B, hB⟩ : ∃ B, ownT k l i b = B := ⟨_, rfl⟩
  rw [hB]
  have HB := Lib.hid hB
  unfold ownT at HB
  rw [← hse] at HB
  clear hB hse
  generalize str l = s at *
  cases k3 : (k == 3) <;> cases k5 : (k == 5) <;> cases hi : (i == 0) <;> cases hb : (b == 0) <;> cases hs : s.toList.isEmpty <;>
   (rw [k3, k5, hi, hb, hs] at HB
    go_enter Tryd.func53, Tryd.ntmps53
    go_wp2
    go_ret
    refine ⟨?_, (Below.refl _ _).alloc (Nat.le_refl _) _⟩
    rw [← HB.out]
    first | rfl | simp [*])

theorem chk_text (l : List UInt8) (h : l.length ≤ 40) : (chk 4 0 0 (str l) == 0) = Lib.validD l := by
  have h1 : own 4 0 0 (str l) = true := by unfold own; simp
  have h2 : good 4 0 0 (str l) = Lib.validD l := by unfold good; rw [if_neg (by decide), if_neg (by decide), if_pos rfl, str_data]
  unfold chk
  rw [if_neg (by decide), if_neg (by rw [str_size]; omega), h1, h2]
  cases Lib.validD l <;> rfl
theorem chk_real (b : Int) : (chk 3 0 b ⟨#[]⟩ == 0) = (!nan b && !(b == 9223372036854775808)) := by
  have h1 : own 3 0 b ⟨#[]⟩ = true := by unfold own; simp
  have h2 : good 3 0 b ⟨#[]⟩ = (!nan b && !(b == 9223372036854775808)) := by unfold good; rw [if_neg (by decide), if_pos rfl]
  unfold chk
  rw [if_neg (by decide), if_neg (by decide), h1, h2]
  cases (!nan b && !(b == 9223372036854775808)) <;> rfl
theorem below_stepL {B : Nat} {a b c : World} (h : Below B a b) (hB : B ≤ b.heap.size) (k : Below b.heap.size b c) : Below B a c := h.trans (k.mono hB)
theorem hq_of {w w2 : World} {k i b : Int} {s : ByteArray} (hw2 : w.alloc (.cells #[.int .i64 k, .string s, .int .i64 i, .int .u64 b] 64) = w2) : Below w.heap.size w w2 ∧ (∀ W, Below w2.heap.size w2 W → W.cell? ⟨w.heap.size, 0, none⟩ = some (.int .i64 k)) ∧ (∀ W, Below w2.heap.size w2 W → W.cell? ⟨w.heap.size, 1, none⟩ = some (.string s)) := by
  subst hw2
  exact ⟨(Below.refl _ _).alloc (Nat.le_refl _) _, fun W hW => (hW.cell (p := ⟨w.heap.size, 0, none⟩) (by simp)).trans (by simp), fun W hW => (hW.cell (p := ⟨w.heap.size, 1, none⟩) (by simp)).trans (by simp)⟩
set_option maxHeartbeats 4000000 in
theorem good_name (i b : Int) (l : List UInt8) (w : World) (hl : l.length ≤ 9223372036854775807) :
    Calls Tryd.prog 54 #[.agg #[.int .i64 1, .string (str l), .int .i64 i, .int .u64 b]] w fun e w' => e = .returned (.bool (nameB l)) ∧ Below w.heap.size w w' := by
  obtain ⟨w2, hw2⟩ : ∃ w2, w.alloc (.cells #[.int .i64 1, .string (str l), .int .i64 i, .int .u64 b] 64) = w2 := ⟨_, rfl⟩
  obtain ⟨hb2, hq0, hq1⟩ := hq_of hw2
  cases l with
  | nil =>
    have he : (str []).toList.isEmpty = true := by rw [str_toList]; rfl
    have he2 : (str []).toList = [] := by rw [str_toList]
    have HN : Hid (nameB [] = false) := rfl
    generalize str [] = s at *
    go_enter Tryd.func54, Tryd.ntmps54
    go_upto_region 1 with fail
    try rw [hw2]
    clear hw2
    have p0 := hq0 w2 (Below.refl _ _)
    go_upto_region 3 with fail
    clear p0
    refine wp_region_det 17 (by kernel_rfl) (by kernel_rfl) (by kernel_rfl) ?_
    simp only [List.take_succ_cons, List.take_zero, List.drop_succ_cons, List.drop_zero]
    iterate 2 (apply wpDet_plain _ rfl; (focus (intro W hW; have q0 := hq0 W hW; have q1 := hq1 W hW; go_simp; (first | exact ⟨rfl, Below.refl _ _⟩ | exact Below.refl _ _ | exact ⟨by simp [*], Below.refl _ _⟩))); simp only [Act.put, List.setIfInBounds_toArray, List.set_cons_zero, List.set_cons_succ])
    apply wpDet_plain (.bool false) rfl; (focus (intro W hW; have q0 := hq0 W hW; have q1 := hq1 W hW; go_simp; (first | exact ⟨rfl, Below.refl _ _⟩ | exact Below.refl _ _ | exact ⟨by simp [*], Below.refl _ _⟩))); simp only [Act.put, List.setIfInBounds_toArray, List.set_cons_zero, List.set_cons_succ]
    apply wpDet_plain (.bool false) rfl; (focus (intro W hW; have q0 := hq0 W hW; have q1 := hq1 W hW; go_simp; (first | exact ⟨rfl, Below.refl _ _⟩ | exact Below.refl _ _ | exact ⟨by simp [*], Below.refl _ _⟩))); simp only [Act.put, List.setIfInBounds_toArray, List.set_cons_zero, List.set_cons_succ]
    iterate 4 (refine wpDet_skip (by kernel_rfl) ?_; simp only [Act.put, List.setIfInBounds_toArray, List.set_cons_zero, List.set_cons_succ])
    apply wpDet_plain (.bool false) rfl; (focus (intro W hW; have q0 := hq0 W hW; have q1 := hq1 W hW; go_simp; (first | exact ⟨rfl, Below.refl _ _⟩ | exact Below.refl _ _ | exact ⟨by simp [*], Below.refl _ _⟩))); simp only [Act.put, List.setIfInBounds_toArray, List.set_cons_zero, List.set_cons_succ]
    apply wpDet_plain (.bool false) rfl; (focus (intro W hW; have q0 := hq0 W hW; have q1 := hq1 W hW; go_simp; (first | exact ⟨rfl, Below.refl _ _⟩ | exact Below.refl _ _ | exact ⟨by simp [*], Below.refl _ _⟩))); simp only [Act.put, List.setIfInBounds_toArray, List.set_cons_zero, List.set_cons_succ]
    iterate 6 (refine wpDet_skip (by kernel_rfl) ?_; simp only [Act.put, List.setIfInBounds_toArray, List.set_cons_zero, List.set_cons_succ])
    apply wpDet_plain (.bool false) rfl; (focus (intro W hW; have q0 := hq0 W hW; have q1 := hq1 W hW; go_simp; (first | exact ⟨rfl, Below.refl _ _⟩ | exact Below.refl _ _ | exact ⟨by simp [*], Below.refl _ _⟩))); simp only [Act.put, List.setIfInBounds_toArray, List.set_cons_zero, List.set_cons_succ]
    refine wpDet_nil ?_; intro W hW
    have hbb := below_stepL hb2 hb2.size hW
    clear hq0 hq1 hb2 hW
    go_wp2_with fail
    go_ret
    exact ⟨by rw [HN.out]; rfl, hbb⟩
  | cons c l =>
    have cS := fun W => isSmall_any c W
    have cR := fun W => run_staysInName (c :: l) W hl
    have hsz := str_size (c :: l)
    have hne : (str (c :: l)).toList ≠ [] := by rw [str_toList]; simp
    have hne2 : (str (c :: l)).toList.isEmpty = false := by rw [str_toList]; rfl
    have hg : ∀ h : 0 < (str (c :: l)).size, (str (c :: l))[0] = c := fun h => rfl
    have heq : ((str ((c :: l).takeWhile stays)).toList == (str (c :: l)).toList) = (c :: l).all stays := by rw [str_beq, takeWhile_all]
    have hN : nameB (c :: l) = (isSm c && (c :: l).all stays) := rfl
    generalize str ((c :: l).takeWhile stays) = T at *
    obtain ⟨s, hs⟩ : ∃ s, str (c :: l) = s := ⟨_, rfl⟩
    rw [hs] at hsz hne hne2 hg cR heq hw2 hq1 ⊢
    have h0 : 0 < s.size := by rw [hsz]; simp
    have hg0 := hg h0
    have h0I : (0 : Int) < (s.size : Int) := by omega
    rw [← hg0] at cS
    generalize (c :: l).all stays = B at *
    generalize nameB (c :: l) = NB at *
    clear hs hg hsz hl
    cases hc : isSm c with
    | false =>
      rw [hg0, hc] at cS
      rw [← hg0] at cS
      have HN : Hid (NB = false) := by show _ = _; rw [hN, hc]; rfl
      clear hg0 hN hc cR heq
      go_enter Tryd.func54, Tryd.ntmps54
      go_upto_region 1 with fail
      try rw [hw2]
      clear hw2
      have p0 := hq0 w2 (Below.refl _ _)
      go_upto_region 3 with fail
      clear p0
      refine wp_region_det 17 (by kernel_rfl) (by kernel_rfl) (by kernel_rfl) ?_
      simp only [List.take_succ_cons, List.take_zero, List.drop_succ_cons, List.drop_zero]
      iterate 2 (apply wpDet_plain _ rfl; (focus (intro W hW; have q0 := hq0 W hW; have q1 := hq1 W hW; go_simp; (first | exact ⟨rfl, Below.refl _ _⟩ | exact Below.refl _ _ | exact ⟨by simp [*], Below.refl _ _⟩))); simp only [Act.put, List.setIfInBounds_toArray, List.set_cons_zero, List.set_cons_succ])
      apply wpDet_plain (.bool true) rfl; (focus (intro W hW; have q0 := hq0 W hW; have q1 := hq1 W hW; go_simp; (first | exact ⟨rfl, Below.refl _ _⟩ | exact Below.refl _ _ | exact ⟨by simp [*], Below.refl _ _⟩))); simp only [Act.put, List.setIfInBounds_toArray, List.set_cons_zero, List.set_cons_succ]
      apply wpDet_plain (.bool true) rfl; (focus (intro W hW; have q0 := hq0 W hW; have q1 := hq1 W hW; go_simp; (first | exact ⟨rfl, Below.refl _ _⟩ | exact Below.refl _ _ | exact ⟨by simp [*], Below.refl _ _⟩))); simp only [Act.put, List.setIfInBounds_toArray, List.set_cons_zero, List.set_cons_succ]
      iterate 3 (apply wpDet_want _ (by kernel_rfl); (focus (intro W hW; have q0 := hq0 W hW; have q1 := hq1 W hW; go_simp; (first | exact ⟨rfl, Below.refl _ _⟩ | exact Below.refl _ _ | exact ⟨by simp [*], Below.refl _ _⟩))); simp only [Act.put, List.setIfInBounds_toArray, List.set_cons_zero, List.set_cons_succ])
      apply wpDet_want _ (by kernel_rfl); (focus (intro W hW; have q0 := hq0 W hW; have q1 := hq1 W hW; go_simp; exact (cS W).mono (fun e w' h => ⟨h.1, by rw [← h.2]; exact Below.refl _ _⟩))); simp only [Act.put, List.setIfInBounds_toArray, List.set_cons_zero, List.set_cons_succ]
      apply wpDet_plain (.bool false) rfl; (focus (intro W hW; have q0 := hq0 W hW; have q1 := hq1 W hW; go_simp; (first | exact ⟨rfl, Below.refl _ _⟩ | exact Below.refl _ _ | exact ⟨by simp [*], Below.refl _ _⟩))); simp only [Act.put, List.setIfInBounds_toArray, List.set_cons_zero, List.set_cons_succ]
      apply wpDet_plain (.bool false) rfl; (focus (intro W hW; have q0 := hq0 W hW; have q1 := hq1 W hW; go_simp; (first | exact ⟨rfl, Below.refl _ _⟩ | exact Below.refl _ _ | exact ⟨by simp [*], Below.refl _ _⟩))); simp only [Act.put, List.setIfInBounds_toArray, List.set_cons_zero, List.set_cons_succ]
      iterate 6 (refine wpDet_skip (by kernel_rfl) ?_; simp only [Act.put, List.setIfInBounds_toArray, List.set_cons_zero, List.set_cons_succ])
      apply wpDet_plain (.bool false) rfl; (focus (intro W hW; have q0 := hq0 W hW; have q1 := hq1 W hW; go_simp; (first | exact ⟨rfl, Below.refl _ _⟩ | exact Below.refl _ _ | exact ⟨by simp [*], Below.refl _ _⟩))); simp only [Act.put, List.setIfInBounds_toArray, List.set_cons_zero, List.set_cons_succ]
      refine wpDet_nil ?_; intro W hW
      have hbb := below_stepL hb2 hb2.size hW
      clear hq0 hq1 hb2 hW
      go_wp2_with fail
      go_ret
      exact ⟨by rw [HN.out]; rfl, hbb⟩
    | true =>
      rw [hg0, hc] at cS
      rw [← hg0] at cS
      have HN : Hid (NB = B) := by show _ = _; rw [hN, hc]; rfl
      clear hg0 hN hc
      cases B
      · skip
        go_enter Tryd.func54, Tryd.ntmps54
        go_upto_region 1 with fail
        try rw [hw2]
        clear hw2
        have p0 := hq0 w2 (Below.refl _ _)
        go_upto_region 3 with fail
        clear p0
        refine wp_region_det 17 (by kernel_rfl) (by kernel_rfl) (by kernel_rfl) ?_
        simp only [List.take_succ_cons, List.take_zero, List.drop_succ_cons, List.drop_zero]
        iterate 2 (apply wpDet_plain _ rfl; (focus (intro W hW; have q0 := hq0 W hW; have q1 := hq1 W hW; go_simp; (first | exact ⟨rfl, Below.refl _ _⟩ | exact Below.refl _ _ | exact ⟨by simp [*], Below.refl _ _⟩))); simp only [Act.put, List.setIfInBounds_toArray, List.set_cons_zero, List.set_cons_succ])
        apply wpDet_plain (.bool true) rfl; (focus (intro W hW; have q0 := hq0 W hW; have q1 := hq1 W hW; go_simp; (first | exact ⟨rfl, Below.refl _ _⟩ | exact Below.refl _ _ | exact ⟨by simp [*], Below.refl _ _⟩))); simp only [Act.put, List.setIfInBounds_toArray, List.set_cons_zero, List.set_cons_succ]
        apply wpDet_plain (.bool true) rfl; (focus (intro W hW; have q0 := hq0 W hW; have q1 := hq1 W hW; go_simp; (first | exact ⟨rfl, Below.refl _ _⟩ | exact Below.refl _ _ | exact ⟨by simp [*], Below.refl _ _⟩))); simp only [Act.put, List.setIfInBounds_toArray, List.set_cons_zero, List.set_cons_succ]
        iterate 3 (apply wpDet_want _ (by kernel_rfl); (focus (intro W hW; have q0 := hq0 W hW; have q1 := hq1 W hW; go_simp; (first | exact ⟨rfl, Below.refl _ _⟩ | exact Below.refl _ _ | exact ⟨by simp [*], Below.refl _ _⟩))); simp only [Act.put, List.setIfInBounds_toArray, List.set_cons_zero, List.set_cons_succ])
        apply wpDet_want _ (by kernel_rfl); (focus (intro W hW; have q0 := hq0 W hW; have q1 := hq1 W hW; go_simp; exact (cS W).mono (fun e w' h => ⟨h.1, by rw [← h.2]; exact Below.refl _ _⟩))); simp only [Act.put, List.setIfInBounds_toArray, List.set_cons_zero, List.set_cons_succ]
        apply wpDet_plain (.bool true) rfl; (focus (intro W hW; have q0 := hq0 W hW; have q1 := hq1 W hW; go_simp; (first | exact ⟨rfl, Below.refl _ _⟩ | exact Below.refl _ _ | exact ⟨by simp [*], Below.refl _ _⟩))); simp only [Act.put, List.setIfInBounds_toArray, List.set_cons_zero, List.set_cons_succ]
        apply wpDet_plain (.bool true) rfl; (focus (intro W hW; have q0 := hq0 W hW; have q1 := hq1 W hW; go_simp; (first | exact ⟨rfl, Below.refl _ _⟩ | exact Below.refl _ _ | exact ⟨by simp [*], Below.refl _ _⟩))); simp only [Act.put, List.setIfInBounds_toArray, List.set_cons_zero, List.set_cons_succ]
        iterate 2 (apply wpDet_want _ (by kernel_rfl); (focus (intro W hW; have q0 := hq0 W hW; have q1 := hq1 W hW; go_simp; (first | exact ⟨rfl, Below.refl _ _⟩ | exact Below.refl _ _ | exact ⟨by simp [*], Below.refl _ _⟩))); simp only [Act.put, List.setIfInBounds_toArray, List.set_cons_zero, List.set_cons_succ])
        apply wpDet_want _ (by kernel_rfl); (focus (intro W hW; have q0 := hq0 W hW; have q1 := hq1 W hW; go_simp; exact (cR W).mono (fun e w' h => ⟨h.1, by rw [← h.2]; exact Below.refl _ _⟩))); simp only [Act.put, List.setIfInBounds_toArray, List.set_cons_zero, List.set_cons_succ]
        iterate 2 (apply wpDet_want _ (by kernel_rfl); (focus (intro W hW; have q0 := hq0 W hW; have q1 := hq1 W hW; go_simp; (first | exact ⟨rfl, Below.refl _ _⟩ | exact Below.refl _ _ | exact ⟨by simp [*], Below.refl _ _⟩))); simp only [Act.put, List.setIfInBounds_toArray, List.set_cons_zero, List.set_cons_succ])
        apply wpDet_want (.bool false) (by kernel_rfl); (focus (intro W hW; have q0 := hq0 W hW; have q1 := hq1 W hW; go_simp; (first | exact ⟨rfl, Below.refl _ _⟩ | exact Below.refl _ _ | exact ⟨by simp [*], Below.refl _ _⟩))); simp only [Act.put, List.setIfInBounds_toArray, List.set_cons_zero, List.set_cons_succ]
        apply wpDet_plain (.bool false) rfl; (focus (intro W hW; have q0 := hq0 W hW; have q1 := hq1 W hW; go_simp; (first | exact ⟨rfl, Below.refl _ _⟩ | exact Below.refl _ _ | exact ⟨by simp [*], Below.refl _ _⟩))); simp only [Act.put, List.setIfInBounds_toArray, List.set_cons_zero, List.set_cons_succ]
        refine wpDet_nil ?_; intro W hW
        have hbb := below_stepL hb2 hb2.size hW
        clear hq0 hq1 hb2 hW
        go_wp2_with fail
        go_ret
        exact ⟨by rw [HN.out]; rfl, hbb⟩
      · skip
        go_enter Tryd.func54, Tryd.ntmps54
        go_upto_region 1 with fail
        try rw [hw2]
        clear hw2
        have p0 := hq0 w2 (Below.refl _ _)
        go_upto_region 3 with fail
        clear p0
        refine wp_region_det 17 (by kernel_rfl) (by kernel_rfl) (by kernel_rfl) ?_
        simp only [List.take_succ_cons, List.take_zero, List.drop_succ_cons, List.drop_zero]
        iterate 2 (apply wpDet_plain _ rfl; (focus (intro W hW; have q0 := hq0 W hW; have q1 := hq1 W hW; go_simp; (first | exact ⟨rfl, Below.refl _ _⟩ | exact Below.refl _ _ | exact ⟨by simp [*], Below.refl _ _⟩))); simp only [Act.put, List.setIfInBounds_toArray, List.set_cons_zero, List.set_cons_succ])
        apply wpDet_plain (.bool true) rfl; (focus (intro W hW; have q0 := hq0 W hW; have q1 := hq1 W hW; go_simp; (first | exact ⟨rfl, Below.refl _ _⟩ | exact Below.refl _ _ | exact ⟨by simp [*], Below.refl _ _⟩))); simp only [Act.put, List.setIfInBounds_toArray, List.set_cons_zero, List.set_cons_succ]
        apply wpDet_plain (.bool true) rfl; (focus (intro W hW; have q0 := hq0 W hW; have q1 := hq1 W hW; go_simp; (first | exact ⟨rfl, Below.refl _ _⟩ | exact Below.refl _ _ | exact ⟨by simp [*], Below.refl _ _⟩))); simp only [Act.put, List.setIfInBounds_toArray, List.set_cons_zero, List.set_cons_succ]
        iterate 3 (apply wpDet_want _ (by kernel_rfl); (focus (intro W hW; have q0 := hq0 W hW; have q1 := hq1 W hW; go_simp; (first | exact ⟨rfl, Below.refl _ _⟩ | exact Below.refl _ _ | exact ⟨by simp [*], Below.refl _ _⟩))); simp only [Act.put, List.setIfInBounds_toArray, List.set_cons_zero, List.set_cons_succ])
        apply wpDet_want _ (by kernel_rfl); (focus (intro W hW; have q0 := hq0 W hW; have q1 := hq1 W hW; go_simp; exact (cS W).mono (fun e w' h => ⟨h.1, by rw [← h.2]; exact Below.refl _ _⟩))); simp only [Act.put, List.setIfInBounds_toArray, List.set_cons_zero, List.set_cons_succ]
        apply wpDet_plain (.bool true) rfl; (focus (intro W hW; have q0 := hq0 W hW; have q1 := hq1 W hW; go_simp; (first | exact ⟨rfl, Below.refl _ _⟩ | exact Below.refl _ _ | exact ⟨by simp [*], Below.refl _ _⟩))); simp only [Act.put, List.setIfInBounds_toArray, List.set_cons_zero, List.set_cons_succ]
        apply wpDet_plain (.bool true) rfl; (focus (intro W hW; have q0 := hq0 W hW; have q1 := hq1 W hW; go_simp; (first | exact ⟨rfl, Below.refl _ _⟩ | exact Below.refl _ _ | exact ⟨by simp [*], Below.refl _ _⟩))); simp only [Act.put, List.setIfInBounds_toArray, List.set_cons_zero, List.set_cons_succ]
        iterate 2 (apply wpDet_want _ (by kernel_rfl); (focus (intro W hW; have q0 := hq0 W hW; have q1 := hq1 W hW; go_simp; (first | exact ⟨rfl, Below.refl _ _⟩ | exact Below.refl _ _ | exact ⟨by simp [*], Below.refl _ _⟩))); simp only [Act.put, List.setIfInBounds_toArray, List.set_cons_zero, List.set_cons_succ])
        apply wpDet_want _ (by kernel_rfl); (focus (intro W hW; have q0 := hq0 W hW; have q1 := hq1 W hW; go_simp; exact (cR W).mono (fun e w' h => ⟨h.1, by rw [← h.2]; exact Below.refl _ _⟩))); simp only [Act.put, List.setIfInBounds_toArray, List.set_cons_zero, List.set_cons_succ]
        iterate 2 (apply wpDet_want _ (by kernel_rfl); (focus (intro W hW; have q0 := hq0 W hW; have q1 := hq1 W hW; go_simp; (first | exact ⟨rfl, Below.refl _ _⟩ | exact Below.refl _ _ | exact ⟨by simp [*], Below.refl _ _⟩))); simp only [Act.put, List.setIfInBounds_toArray, List.set_cons_zero, List.set_cons_succ])
        apply wpDet_want (.bool true) (by kernel_rfl); (focus (intro W hW; have q0 := hq0 W hW; have q1 := hq1 W hW; go_simp; (first | exact ⟨rfl, Below.refl _ _⟩ | exact Below.refl _ _ | exact ⟨by simp [*], Below.refl _ _⟩))); simp only [Act.put, List.setIfInBounds_toArray, List.set_cons_zero, List.set_cons_succ]
        apply wpDet_plain (.bool true) rfl; (focus (intro W hW; have q0 := hq0 W hW; have q1 := hq1 W hW; go_simp; (first | exact ⟨rfl, Below.refl _ _⟩ | exact Below.refl _ _ | exact ⟨by simp [*], Below.refl _ _⟩))); simp only [Act.put, List.setIfInBounds_toArray, List.set_cons_zero, List.set_cons_succ]
        refine wpDet_nil ?_; intro W hW
        have hbb := below_stepL hb2 hb2.size hW
        clear hq0 hq1 hb2 hW
        go_wp2_with fail
        go_ret
        exact ⟨by rw [HN.out]; rfl, hbb⟩

end Go.Proofs.YtpneoaehkibdeaaDoor

/-! CONTRACTS of package lex's goodContent at the other kinds, and of Check. CONDITIONS: each theorem's own hypotheses; package lex's signs hold what their initialiser lays ('SW'), unicode/utf8's two tables, too ('Tabs'). -/
namespace Go.Proofs.YtpneoaehkibdeaaDoor
open Go.RowKit
set_option linter.unusedVariables false
set_option maxRecDepth 100000

set_option maxHeartbeats 4000000 in
theorem good_word (i b : Int) (l : List UInt8) (w : World) (hl : l.length ≤ 9223372036854775807) :
    Calls Tryd.prog 54 #[.agg #[.int .i64 2, .string (str l), .int .i64 i, .int .u64 b]] w fun e w' => e = .returned (.bool (wordB l)) ∧ Below w.heap.size w w' := by
  obtain ⟨w2, hw2⟩ : ∃ w2, w.alloc (.cells #[.int .i64 2, .string (str l), .int .i64 i, .int .u64 b] 64) = w2 := ⟨_, rfl⟩
  obtain ⟨hb2, hq0, hq1⟩ := hq_of hw2
  cases l with
  | nil =>
    have he : (str []).toList.isEmpty = true := by rw [str_toList]; rfl
    have he2 : (str []).toList = [] := by rw [str_toList]
    have HN : Hid (wordB [] = false) := by show _ = _; decide
    generalize str [] = s at *
    go_enter Tryd.func54, Tryd.ntmps54
    go_upto_region 1 with fail
    try rw [hw2]
    clear hw2
    have p0 := hq0 w2 (Below.refl _ _)
    go_upto_region 5 with fail
    clear p0
    refine wp_region_det 11 (by kernel_rfl) (by kernel_rfl) (by kernel_rfl) ?_
    simp only [List.take_succ_cons, List.take_zero, List.drop_succ_cons, List.drop_zero]
    iterate 2 (apply wpDet_plain _ rfl; (focus (intro W hW; have q0 := hq0 W hW; have q1 := hq1 W hW; go_simp; (first | exact ⟨rfl, Below.refl _ _⟩ | exact Below.refl _ _ | exact ⟨by simp [*], Below.refl _ _⟩))); simp only [Act.put, List.setIfInBounds_toArray, List.set_cons_zero, List.set_cons_succ])
    apply wpDet_plain (.bool false) rfl; (focus (intro W hW; have q0 := hq0 W hW; have q1 := hq1 W hW; go_simp; (first | exact ⟨rfl, Below.refl _ _⟩ | exact Below.refl _ _ | exact ⟨by simp [*], Below.refl _ _⟩))); simp only [Act.put, List.setIfInBounds_toArray, List.set_cons_zero, List.set_cons_succ]
    apply wpDet_plain (.bool false) rfl; (focus (intro W hW; have q0 := hq0 W hW; have q1 := hq1 W hW; go_simp; (first | exact ⟨rfl, Below.refl _ _⟩ | exact Below.refl _ _ | exact ⟨by simp [*], Below.refl _ _⟩))); simp only [Act.put, List.setIfInBounds_toArray, List.set_cons_zero, List.set_cons_succ]
    iterate 6 (refine wpDet_skip (by kernel_rfl) ?_; simp only [Act.put, List.setIfInBounds_toArray, List.set_cons_zero, List.set_cons_succ])
    apply wpDet_plain (.bool false) rfl; (focus (intro W hW; have q0 := hq0 W hW; have q1 := hq1 W hW; go_simp; (first | exact ⟨rfl, Below.refl _ _⟩ | exact Below.refl _ _ | exact ⟨by simp [*], Below.refl _ _⟩))); simp only [Act.put, List.setIfInBounds_toArray, List.set_cons_zero, List.set_cons_succ]
    refine wpDet_nil ?_; intro W hW
    have hbb := below_stepL hb2 hb2.size hW
    clear hq0 hq1 hb2 hW
    go_wp2_with fail
    go_ret
    exact ⟨by rw [HN.out]; rfl, hbb⟩
  | cons c l =>
    have cR := fun W => run_isGreat (c :: l) W hl
    have hne : (str (c :: l)).toList ≠ [] := by rw [str_toList]; simp
    have hne2 : (str (c :: l)).toList.isEmpty = false := by rw [str_toList]; rfl
    have heq : ((str ((c :: l).takeWhile isGr)).toList == (str (c :: l)).toList) = (c :: l).all isGr := by rw [str_beq, takeWhile_all]
    have hN : Hid (wordB (c :: l) = (c :: l).all isGr) := by show _ = _; rfl
    generalize str ((c :: l).takeWhile isGr) = T at *
    generalize str (c :: l) = s at *
    generalize (c :: l).all isGr = B at *
    generalize wordB (c :: l) = NB at *
    clear hl
    cases B
    · skip
      go_enter Tryd.func54, Tryd.ntmps54
      go_upto_region 1 with fail
      try rw [hw2]
      clear hw2
      have p0 := hq0 w2 (Below.refl _ _)
      go_upto_region 5 with fail
      clear p0
      refine wp_region_det 11 (by kernel_rfl) (by kernel_rfl) (by kernel_rfl) ?_
      simp only [List.take_succ_cons, List.take_zero, List.drop_succ_cons, List.drop_zero]
      iterate 2 (apply wpDet_plain _ rfl; (focus (intro W hW; have q0 := hq0 W hW; have q1 := hq1 W hW; go_simp; (first | exact ⟨rfl, Below.refl _ _⟩ | exact Below.refl _ _ | exact ⟨by simp [*], Below.refl _ _⟩))); simp only [Act.put, List.setIfInBounds_toArray, List.set_cons_zero, List.set_cons_succ])
      apply wpDet_plain (.bool true) rfl; (focus (intro W hW; have q0 := hq0 W hW; have q1 := hq1 W hW; go_simp; (first | exact ⟨rfl, Below.refl _ _⟩ | exact Below.refl _ _ | exact ⟨by simp [*], Below.refl _ _⟩))); simp only [Act.put, List.setIfInBounds_toArray, List.set_cons_zero, List.set_cons_succ]
      apply wpDet_plain (.bool true) rfl; (focus (intro W hW; have q0 := hq0 W hW; have q1 := hq1 W hW; go_simp; (first | exact ⟨rfl, Below.refl _ _⟩ | exact Below.refl _ _ | exact ⟨by simp [*], Below.refl _ _⟩))); simp only [Act.put, List.setIfInBounds_toArray, List.set_cons_zero, List.set_cons_succ]
      iterate 2 (apply wpDet_want _ (by kernel_rfl); (focus (intro W hW; have q0 := hq0 W hW; have q1 := hq1 W hW; go_simp; (first | exact ⟨rfl, Below.refl _ _⟩ | exact Below.refl _ _ | exact ⟨by simp [*], Below.refl _ _⟩))); simp only [Act.put, List.setIfInBounds_toArray, List.set_cons_zero, List.set_cons_succ])
      apply wpDet_want _ (by kernel_rfl); (focus (intro W hW; have q0 := hq0 W hW; have q1 := hq1 W hW; go_simp; exact (cR W).mono (fun e w' h => ⟨h.1, by rw [← h.2]; exact Below.refl _ _⟩))); simp only [Act.put, List.setIfInBounds_toArray, List.set_cons_zero, List.set_cons_succ]
      iterate 2 (apply wpDet_want _ (by kernel_rfl); (focus (intro W hW; have q0 := hq0 W hW; have q1 := hq1 W hW; go_simp; (first | exact ⟨rfl, Below.refl _ _⟩ | exact Below.refl _ _ | exact ⟨by simp [*], Below.refl _ _⟩))); simp only [Act.put, List.setIfInBounds_toArray, List.set_cons_zero, List.set_cons_succ])
      apply wpDet_want (.bool false) (by kernel_rfl); (focus (intro W hW; have q0 := hq0 W hW; have q1 := hq1 W hW; go_simp; (first | exact ⟨rfl, Below.refl _ _⟩ | exact Below.refl _ _ | exact ⟨by simp [*], Below.refl _ _⟩))); simp only [Act.put, List.setIfInBounds_toArray, List.set_cons_zero, List.set_cons_succ]
      apply wpDet_plain (.bool false) rfl; (focus (intro W hW; have q0 := hq0 W hW; have q1 := hq1 W hW; go_simp; (first | exact ⟨rfl, Below.refl _ _⟩ | exact Below.refl _ _ | exact ⟨by simp [*], Below.refl _ _⟩))); simp only [Act.put, List.setIfInBounds_toArray, List.set_cons_zero, List.set_cons_succ]
      refine wpDet_nil ?_; intro W hW
      have hbb := below_stepL hb2 hb2.size hW
      clear hq0 hq1 hb2 hW
      go_wp2_with fail
      go_ret
      exact ⟨by rw [hN.out]; rfl, hbb⟩
    · skip
      go_enter Tryd.func54, Tryd.ntmps54
      go_upto_region 1 with fail
      try rw [hw2]
      clear hw2
      have p0 := hq0 w2 (Below.refl _ _)
      go_upto_region 5 with fail
      clear p0
      refine wp_region_det 11 (by kernel_rfl) (by kernel_rfl) (by kernel_rfl) ?_
      simp only [List.take_succ_cons, List.take_zero, List.drop_succ_cons, List.drop_zero]
      iterate 2 (apply wpDet_plain _ rfl; (focus (intro W hW; have q0 := hq0 W hW; have q1 := hq1 W hW; go_simp; (first | exact ⟨rfl, Below.refl _ _⟩ | exact Below.refl _ _ | exact ⟨by simp [*], Below.refl _ _⟩))); simp only [Act.put, List.setIfInBounds_toArray, List.set_cons_zero, List.set_cons_succ])
      apply wpDet_plain (.bool true) rfl; (focus (intro W hW; have q0 := hq0 W hW; have q1 := hq1 W hW; go_simp; (first | exact ⟨rfl, Below.refl _ _⟩ | exact Below.refl _ _ | exact ⟨by simp [*], Below.refl _ _⟩))); simp only [Act.put, List.setIfInBounds_toArray, List.set_cons_zero, List.set_cons_succ]
      apply wpDet_plain (.bool true) rfl; (focus (intro W hW; have q0 := hq0 W hW; have q1 := hq1 W hW; go_simp; (first | exact ⟨rfl, Below.refl _ _⟩ | exact Below.refl _ _ | exact ⟨by simp [*], Below.refl _ _⟩))); simp only [Act.put, List.setIfInBounds_toArray, List.set_cons_zero, List.set_cons_succ]
      iterate 2 (apply wpDet_want _ (by kernel_rfl); (focus (intro W hW; have q0 := hq0 W hW; have q1 := hq1 W hW; go_simp; (first | exact ⟨rfl, Below.refl _ _⟩ | exact Below.refl _ _ | exact ⟨by simp [*], Below.refl _ _⟩))); simp only [Act.put, List.setIfInBounds_toArray, List.set_cons_zero, List.set_cons_succ])
      apply wpDet_want _ (by kernel_rfl); (focus (intro W hW; have q0 := hq0 W hW; have q1 := hq1 W hW; go_simp; exact (cR W).mono (fun e w' h => ⟨h.1, by rw [← h.2]; exact Below.refl _ _⟩))); simp only [Act.put, List.setIfInBounds_toArray, List.set_cons_zero, List.set_cons_succ]
      iterate 2 (apply wpDet_want _ (by kernel_rfl); (focus (intro W hW; have q0 := hq0 W hW; have q1 := hq1 W hW; go_simp; (first | exact ⟨rfl, Below.refl _ _⟩ | exact Below.refl _ _ | exact ⟨by simp [*], Below.refl _ _⟩))); simp only [Act.put, List.setIfInBounds_toArray, List.set_cons_zero, List.set_cons_succ])
      apply wpDet_want (.bool true) (by kernel_rfl); (focus (intro W hW; have q0 := hq0 W hW; have q1 := hq1 W hW; go_simp; (first | exact ⟨rfl, Below.refl _ _⟩ | exact Below.refl _ _ | exact ⟨by simp [*], Below.refl _ _⟩))); simp only [Act.put, List.setIfInBounds_toArray, List.set_cons_zero, List.set_cons_succ]
      apply wpDet_plain (.bool true) rfl; (focus (intro W hW; have q0 := hq0 W hW; have q1 := hq1 W hW; go_simp; (first | exact ⟨rfl, Below.refl _ _⟩ | exact Below.refl _ _ | exact ⟨by simp [*], Below.refl _ _⟩))); simp only [Act.put, List.setIfInBounds_toArray, List.set_cons_zero, List.set_cons_succ]
      refine wpDet_nil ?_; intro W hW
      have hbb := below_stepL hb2 hb2.size hW
      clear hq0 hq1 hb2 hW
      go_wp2_with fail
      go_ret
      exact ⟨by rw [hN.out]; rfl, hbb⟩
set_option maxHeartbeats 4000000 in
theorem good_sign (i b : Int) (l : List UInt8) (w : World) (hl : l.length ≤ 9223372036854775807) (hS : SW w) :
    Calls Tryd.prog 54 #[.agg #[.int .i64 6, .string (str l), .int .i64 i, .int .u64 b]] w fun e w' => e = .returned (.bool (signB l)) ∧ Below w.heap.size w w' := by
  obtain ⟨w2, hw2⟩ : ∃ w2, w.alloc (.cells #[.int .i64 6, .string (str l), .int .i64 i, .int .u64 b] 64) = w2 := ⟨_, rfl⟩
  obtain ⟨hb2, hq0, hq1⟩ := hq_of hw2
  cases l with
  | nil =>
    have he : (str []).toList.isEmpty = true := by rw [str_toList]; rfl
    have he2 : (str []).toList = [] := by rw [str_toList]
    have HN : Hid (signB [] = false) := by show _ = _; decide
    generalize str [] = s at *
    go_enter Tryd.func54, Tryd.ntmps54
    go_upto_region 1 with fail
    try rw [hw2]
    clear hw2
    have p0 := hq0 w2 (Below.refl _ _)
    go_upto_region 12 with fail
    clear p0
    refine wp_region_det 11 (by kernel_rfl) (by kernel_rfl) (by kernel_rfl) ?_
    simp only [List.take_succ_cons, List.take_zero, List.drop_succ_cons, List.drop_zero]
    iterate 2 (apply wpDet_plain _ rfl; (focus (intro W hW; have q0 := hq0 W hW; have q1 := hq1 W hW; go_simp; (first | exact ⟨rfl, Below.refl _ _⟩ | exact Below.refl _ _ | exact ⟨by simp [*], Below.refl _ _⟩))); simp only [Act.put, List.setIfInBounds_toArray, List.set_cons_zero, List.set_cons_succ])
    apply wpDet_plain (.bool false) rfl; (focus (intro W hW; have q0 := hq0 W hW; have q1 := hq1 W hW; go_simp; (first | exact ⟨rfl, Below.refl _ _⟩ | exact Below.refl _ _ | exact ⟨by simp [*], Below.refl _ _⟩))); simp only [Act.put, List.setIfInBounds_toArray, List.set_cons_zero, List.set_cons_succ]
    apply wpDet_plain (.bool false) rfl; (focus (intro W hW; have q0 := hq0 W hW; have q1 := hq1 W hW; go_simp; (first | exact ⟨rfl, Below.refl _ _⟩ | exact Below.refl _ _ | exact ⟨by simp [*], Below.refl _ _⟩))); simp only [Act.put, List.setIfInBounds_toArray, List.set_cons_zero, List.set_cons_succ]
    iterate 6 (refine wpDet_skip (by kernel_rfl) ?_; simp only [Act.put, List.setIfInBounds_toArray, List.set_cons_zero, List.set_cons_succ])
    apply wpDet_plain (.bool false) rfl; (focus (intro W hW; have q0 := hq0 W hW; have q1 := hq1 W hW; go_simp; (first | exact ⟨rfl, Below.refl _ _⟩ | exact Below.refl _ _ | exact ⟨by simp [*], Below.refl _ _⟩))); simp only [Act.put, List.setIfInBounds_toArray, List.set_cons_zero, List.set_cons_succ]
    refine wpDet_nil ?_; intro W hW
    have hbb := below_stepL hb2 hb2.size hW
    clear hq0 hq1 hb2 hW
    go_wp2_with fail
    go_ret
    exact ⟨by rw [HN.out]; rfl, hbb⟩
  | cons c l =>
    have cR := fun W (hW : Below w2.heap.size w2 W) => signOf_any (c :: l) W hl (hS.keep (below_stepL hb2 hb2.size hW) (Nat.le_refl _))
    have hne : (str (c :: l)).toList ≠ [] := by rw [str_toList]; simp
    have hne2 : (str (c :: l)).toList.isEmpty = false := by rw [str_toList]; rfl
    have heq : ((str (signR (c :: l))).toList == (str (c :: l)).toList) = (signR (c :: l) == c :: l) := by rw [str_beq]
    have hN : Hid (signB (c :: l) = (signR (c :: l) == c :: l)) := by show _ = _; rw [← signR_self]; rfl
    generalize str (signR (c :: l)) = T at *
    generalize str (c :: l) = s at *
    generalize (signR (c :: l) == c :: l) = B at *
    generalize signB (c :: l) = NB at *
    clear hl hS
    cases B
    · skip
      go_enter Tryd.func54, Tryd.ntmps54
      go_upto_region 1 with fail
      try rw [hw2]
      clear hw2
      have p0 := hq0 w2 (Below.refl _ _)
      go_upto_region 12 with fail
      clear p0
      refine wp_region_det 11 (by kernel_rfl) (by kernel_rfl) (by kernel_rfl) ?_
      simp only [List.take_succ_cons, List.take_zero, List.drop_succ_cons, List.drop_zero]
      iterate 2 (apply wpDet_plain _ rfl; (focus (intro W hW; have q0 := hq0 W hW; have q1 := hq1 W hW; go_simp; (first | exact ⟨rfl, Below.refl _ _⟩ | exact Below.refl _ _ | exact ⟨by simp [*], Below.refl _ _⟩))); simp only [Act.put, List.setIfInBounds_toArray, List.set_cons_zero, List.set_cons_succ])
      apply wpDet_plain (.bool true) rfl; (focus (intro W hW; have q0 := hq0 W hW; have q1 := hq1 W hW; go_simp; (first | exact ⟨rfl, Below.refl _ _⟩ | exact Below.refl _ _ | exact ⟨by simp [*], Below.refl _ _⟩))); simp only [Act.put, List.setIfInBounds_toArray, List.set_cons_zero, List.set_cons_succ]
      apply wpDet_plain (.bool true) rfl; (focus (intro W hW; have q0 := hq0 W hW; have q1 := hq1 W hW; go_simp; (first | exact ⟨rfl, Below.refl _ _⟩ | exact Below.refl _ _ | exact ⟨by simp [*], Below.refl _ _⟩))); simp only [Act.put, List.setIfInBounds_toArray, List.set_cons_zero, List.set_cons_succ]
      iterate 2 (apply wpDet_want _ (by kernel_rfl); (focus (intro W hW; have q0 := hq0 W hW; have q1 := hq1 W hW; go_simp; (first | exact ⟨rfl, Below.refl _ _⟩ | exact Below.refl _ _ | exact ⟨by simp [*], Below.refl _ _⟩))); simp only [Act.put, List.setIfInBounds_toArray, List.set_cons_zero, List.set_cons_succ])
      apply wpDet_want _ (by kernel_rfl); (focus (intro W hW; have q0 := hq0 W hW; have q1 := hq1 W hW; go_simp; exact (cR W hW).mono (fun e w' h => ⟨h.1, by rw [← h.2]; exact Below.refl _ _⟩))); simp only [Act.put, List.setIfInBounds_toArray, List.set_cons_zero, List.set_cons_succ]
      iterate 2 (apply wpDet_want _ (by kernel_rfl); (focus (intro W hW; have q0 := hq0 W hW; have q1 := hq1 W hW; go_simp; (first | exact ⟨rfl, Below.refl _ _⟩ | exact Below.refl _ _ | exact ⟨by simp [*], Below.refl _ _⟩))); simp only [Act.put, List.setIfInBounds_toArray, List.set_cons_zero, List.set_cons_succ])
      apply wpDet_want (.bool false) (by kernel_rfl); (focus (intro W hW; have q0 := hq0 W hW; have q1 := hq1 W hW; go_simp; (first | exact ⟨rfl, Below.refl _ _⟩ | exact Below.refl _ _ | exact ⟨by simp [*], Below.refl _ _⟩))); simp only [Act.put, List.setIfInBounds_toArray, List.set_cons_zero, List.set_cons_succ]
      apply wpDet_plain (.bool false) rfl; (focus (intro W hW; have q0 := hq0 W hW; have q1 := hq1 W hW; go_simp; (first | exact ⟨rfl, Below.refl _ _⟩ | exact Below.refl _ _ | exact ⟨by simp [*], Below.refl _ _⟩))); simp only [Act.put, List.setIfInBounds_toArray, List.set_cons_zero, List.set_cons_succ]
      refine wpDet_nil ?_; intro W hW
      have hbb := below_stepL hb2 hb2.size hW
      clear hq0 hq1 hb2 hW
      go_wp2_with fail
      go_ret
      exact ⟨by rw [hN.out]; rfl, hbb⟩
    · skip
      go_enter Tryd.func54, Tryd.ntmps54
      go_upto_region 1 with fail
      try rw [hw2]
      clear hw2
      have p0 := hq0 w2 (Below.refl _ _)
      go_upto_region 12 with fail
      clear p0
      refine wp_region_det 11 (by kernel_rfl) (by kernel_rfl) (by kernel_rfl) ?_
      simp only [List.take_succ_cons, List.take_zero, List.drop_succ_cons, List.drop_zero]
      iterate 2 (apply wpDet_plain _ rfl; (focus (intro W hW; have q0 := hq0 W hW; have q1 := hq1 W hW; go_simp; (first | exact ⟨rfl, Below.refl _ _⟩ | exact Below.refl _ _ | exact ⟨by simp [*], Below.refl _ _⟩))); simp only [Act.put, List.setIfInBounds_toArray, List.set_cons_zero, List.set_cons_succ])
      apply wpDet_plain (.bool true) rfl; (focus (intro W hW; have q0 := hq0 W hW; have q1 := hq1 W hW; go_simp; (first | exact ⟨rfl, Below.refl _ _⟩ | exact Below.refl _ _ | exact ⟨by simp [*], Below.refl _ _⟩))); simp only [Act.put, List.setIfInBounds_toArray, List.set_cons_zero, List.set_cons_succ]
      apply wpDet_plain (.bool true) rfl; (focus (intro W hW; have q0 := hq0 W hW; have q1 := hq1 W hW; go_simp; (first | exact ⟨rfl, Below.refl _ _⟩ | exact Below.refl _ _ | exact ⟨by simp [*], Below.refl _ _⟩))); simp only [Act.put, List.setIfInBounds_toArray, List.set_cons_zero, List.set_cons_succ]
      iterate 2 (apply wpDet_want _ (by kernel_rfl); (focus (intro W hW; have q0 := hq0 W hW; have q1 := hq1 W hW; go_simp; (first | exact ⟨rfl, Below.refl _ _⟩ | exact Below.refl _ _ | exact ⟨by simp [*], Below.refl _ _⟩))); simp only [Act.put, List.setIfInBounds_toArray, List.set_cons_zero, List.set_cons_succ])
      apply wpDet_want _ (by kernel_rfl); (focus (intro W hW; have q0 := hq0 W hW; have q1 := hq1 W hW; go_simp; exact (cR W hW).mono (fun e w' h => ⟨h.1, by rw [← h.2]; exact Below.refl _ _⟩))); simp only [Act.put, List.setIfInBounds_toArray, List.set_cons_zero, List.set_cons_succ]
      iterate 2 (apply wpDet_want _ (by kernel_rfl); (focus (intro W hW; have q0 := hq0 W hW; have q1 := hq1 W hW; go_simp; (first | exact ⟨rfl, Below.refl _ _⟩ | exact Below.refl _ _ | exact ⟨by simp [*], Below.refl _ _⟩))); simp only [Act.put, List.setIfInBounds_toArray, List.set_cons_zero, List.set_cons_succ])
      apply wpDet_want (.bool true) (by kernel_rfl); (focus (intro W hW; have q0 := hq0 W hW; have q1 := hq1 W hW; go_simp; (first | exact ⟨rfl, Below.refl _ _⟩ | exact Below.refl _ _ | exact ⟨by simp [*], Below.refl _ _⟩))); simp only [Act.put, List.setIfInBounds_toArray, List.set_cons_zero, List.set_cons_succ]
      apply wpDet_plain (.bool true) rfl; (focus (intro W hW; have q0 := hq0 W hW; have q1 := hq1 W hW; go_simp; (first | exact ⟨rfl, Below.refl _ _⟩ | exact Below.refl _ _ | exact ⟨by simp [*], Below.refl _ _⟩))); simp only [Act.put, List.setIfInBounds_toArray, List.set_cons_zero, List.set_cons_succ]
      refine wpDet_nil ?_; intro W hW
      have hbb := below_stepL hb2 hb2.size hW
      clear hq0 hq1 hb2 hW
      go_wp2_with fail
      go_ret
      exact ⟨by rw [hN.out]; rfl, hbb⟩

theorem good_num (i b : Int) (l : List UInt8) (w : World) :
    Calls Tryd.prog 54 #[.agg #[.int .i64 3, .string (str l), .int .i64 i, .int .u64 b]] w fun e w' => e = .returned (.bool (decide (0 ≤ i))) ∧ Below w.heap.size w w' := by
  generalize str l = s
  by_cases h : 0 ≤ i
  · rw [decide_eq_true h]
    go_enter Tryd.func54, Tryd.ntmps54
    go_wp2
    go_ret
    exact ⟨rfl, (Below.refl _ _).alloc (Nat.le_refl _) _⟩
  · rw [decide_eq_false h]
    go_enter Tryd.func54, Tryd.ntmps54
    go_wp2
    go_ret
    exact ⟨rfl, (Below.refl _ _).alloc (Nat.le_refl _) _⟩
theorem good_quote (i b : Int) (l : List UInt8) (w : World) (hl : l.length ≤ 40) (hT : Tabs w) :
    Calls Tryd.prog 54 #[.agg #[.int .i64 4, .string (str l), .int .i64 i, .int .u64 b]] w fun e w' => e = .returned (.bool (Lib.validD l)) ∧ Below w.heap.size w w' := by
  have hsz := str_size l
  have cM := fun o => mayBe_any 4 0 0 (str l) (w.alloc o) (by decide) (by decide) (by omega) (tabs_below hT ((Below.refl _ _).alloc (Nat.le_refl _) o))
  rw [chk_text l hl] at cM
  generalize Lib.validD l = B at *
  generalize str l = s at *
  clear hsz hT hl
  cases B
  all_goals
    go_enter Tryd.func54, Tryd.ntmps54
    go_wp2_with fail
    refine (cM _).mono ?_
    rintro e w' ⟨rfl, hb⟩
    clear cM
    go_wp2_with fail
    go_ret
    exact ⟨rfl, ((Below.refl _ _).alloc (Nat.le_refl _) _).trans (hb.mono (by simp))⟩
theorem good_hex (i b : Int) (l : List UInt8) (w : World) (h0 : 0 ≤ b) (h1 : b ≤ 18446744073709551615) (hT : Tabs w) :
    Calls Tryd.prog 54 #[.agg #[.int .i64 5, .string (str l), .int .i64 i, .int .u64 b]] w fun e w' => e = .returned (.bool (!nan b && !(b == 9223372036854775808))) ∧ Below w.heap.size w w' := by
  have cM := fun o => mayBe_any 3 0 b ⟨#[]⟩ (w.alloc o) h0 h1 (by decide) (tabs_below hT ((Below.refl _ _).alloc (Nat.le_refl _) o))
  rw [chk_real b] at cM
  generalize (!nan b && !(b == 9223372036854775808)) = B at *
  generalize str l = s at *
  clear hT h0 h1
  cases B
  all_goals
    go_enter Tryd.func54, Tryd.ntmps54
    go_wp2_with fail
    refine (cM _).mono ?_
    rintro e w' ⟨rfl, hb⟩
    clear cM
    go_wp2_with fail
    go_ret
    exact ⟨rfl, ((Below.refl _ _).alloc (Nat.le_refl _) _).trans (hb.mono (by simp))⟩
theorem goodContent_any (k i b : Int) (l : List UInt8) (w : World) (hk : k = 1 ∨ k = 2 ∨ k = 3 ∨ k = 4 ∨ k = 5 ∨ k = 6) (h0 : 0 ≤ b) (h1 : b ≤ 18446744073709551615) (hl : l.length ≤ 9223372036854775807) (hl4 : k = 4 → l.length ≤ 40) (hT : Tabs w) (hS : SW w) :
    Calls Tryd.prog 54 #[.agg #[.int .i64 k, .string (str l), .int .i64 i, .int .u64 b]] w fun e w' => e = .returned (.bool (goodT k l i b)) ∧ Below w.heap.size w w' := by
  rcases hk with rfl | rfl | rfl | rfl | rfl | rfl
  · exact good_name i b l w hl
  · exact good_word i b l w hl
  · exact good_num i b l w
  · exact good_quote i b l w (hl4 rfl) hT
  · exact good_hex i b l w h0 h1 hT
  · exact good_sign i b l w hl hS
theorem notLong {k : Int} {l : List UInt8} (h : tooL k l = false) : k = 4 → l.length ≤ 40 := by
  rintro rfl
  unfold tooL at h
  rw [if_neg (by decide), if_pos rfl] at h
  simpa using h
set_option maxHeartbeats 2000000 in
/-- ████ lex.Check. -/
theorem lexCheck_any (k i b : Int) (l : List UInt8) (w : World) (h0 : 0 ≤ b) (h1 : b ≤ 18446744073709551615) (hl : l.length ≤ 9223372036854775807) (hT : Tabs w) (hS : SW w) :
    Calls Tryd.prog 26 #[.agg #[.int .i64 k, .string (str l), .int .i64 i, .int .u64 b]] w fun e w' => e = .returned (.int .i64 (tokC k l i b)) ∧ Below w.heap.size w w' := by
  unfold tokC
  by_cases c0 : k < 1
  · rw [if_pos (Or.inl c0)]
    generalize str l = s
    go_enter Tryd.func26, Tryd.ntmps26
    go_wp2_with fail
    go_ret
    exact ⟨rfl, (Below.refl _ _).alloc (Nat.le_refl _) _⟩
  by_cases c6 : 6 < k
  · rw [if_pos (Or.inr c6)]
    generalize str l = s
    go_enter Tryd.func26, Tryd.ntmps26
    go_wp2_with fail
    go_ret
    exact ⟨rfl, (Below.refl _ _).alloc (Nat.le_refl _) _⟩
  rw [if_neg (by omega)]
  have cL := fun w => isTooLong_any k i b l w
  have cO := fun w => onlyOwn_any k i b l w
  have cG := fun (hl4 : k = 4 → l.length ≤ 40) W (hW : Below w.heap.size w W) => goodContent_any k i b l W (by omega) h0 h1 hl hl4 (tabs_below hT hW) (hS.keep hW (Nat.le_refl _))
  have hnl := notLong (k := k) (l := l)
  generalize tooL k l = L at *
  generalize ownT k l i b = O at *
  generalize goodT k l i b = G at *
  generalize str l = s at *
  obtain ⟨w2, hw2⟩ : ∃ w2, w.alloc (.cells #[.int .i64 k, .string s, .int .i64 i, .int .u64 b] 64) = w2 := ⟨_, rfl⟩
  have hb2 : Below w.heap.size w w2 := by rw [← hw2]; exact (Below.refl _ _).alloc (Nat.le_refl _) _
  have hq : ∀ W, Below w2.heap.size w2 W → W.cell? ⟨w.heap.size, 0, none⟩ = some (.int .i64 k) ∧ W.cell? ⟨w.heap.size, 1, none⟩ = some (.string s) ∧ W.cell? ⟨w.heap.size, 2, none⟩ = some (.int .i64 i) ∧ W.cell? ⟨w.heap.size, 3, none⟩ = some (.int .u64 b) := by
    subst hw2
    exact fun W hW => ⟨(hW.cell (p := ⟨w.heap.size, 0, none⟩) (by simp)).trans (by simp), (hW.cell (p := ⟨w.heap.size, 1, none⟩) (by simp)).trans (by simp), (hW.cell (p := ⟨w.heap.size, 2, none⟩) (by simp)).trans (by simp), (hW.cell (p := ⟨w.heap.size, 3, none⟩) (by simp)).trans (by simp)⟩
  have HQ := Lib.hid hq
  have CG := Lib.hid cG
  obtain ⟨p0, p1, p2, p3⟩ := hq w2 (Below.refl _ _)
  clear h0 h1 hl hT hS hq cG
  cases L with
  | true =>
    clear hnl CG cO
    go_enter Tryd.func26, Tryd.ntmps26
    go_upto_region 1 with fail
    try rw [hw2]
    clear hw2
    go_wp2_with fail
    refine (cL _).mono ?_
    rintro e w3 ⟨rfl, hb3⟩
    have hbb := below_stepL hb2 hb2.size hb3
    clear cL p0 p1 p2 p3 hb3
    go_wp2_with fail
    go_ret
    exact ⟨rfl, hbb⟩
  | false =>
    have CG2 := Lib.hid (CG.out (hnl rfl))
    clear hnl CG
    cases O with
    | false =>
      clear CG2
      go_enter Tryd.func26, Tryd.ntmps26
      go_upto_region 1 with fail
      try rw [hw2]
      clear hw2
      go_wp2_with fail
      refine (cL _).mono ?_
      rintro e w3 ⟨rfl, hb3⟩
      clear cL p0 p1 p2 p3
      obtain ⟨p0, p1, p2, p3⟩ := HQ.out w3 hb3
      go_wp2_with fail
      refine (cO _).mono ?_
      rintro e w4 ⟨rfl, hb4⟩
      have hbb := below_stepL hb2 hb2.size (below_stepL hb3 hb3.size hb4)
      clear cO p0 p1 p2 p3 hb3 hb4
      go_wp2_with fail
      go_ret
      exact ⟨rfl, hbb⟩
    | true =>
      cases G
      all_goals
        go_enter Tryd.func26, Tryd.ntmps26
        go_upto_region 1 with fail
        try rw [hw2]
        clear hw2
        go_wp2_with fail
        refine (cL _).mono ?_
        rintro e w3 ⟨rfl, hb3⟩
        clear cL p0 p1 p2 p3
        obtain ⟨p0, p1, p2, p3⟩ := HQ.out w3 hb3
        go_wp2_with fail
        refine (cO _).mono ?_
        rintro e w4 ⟨rfl, hb4⟩
        have hb24 := below_stepL hb3 hb3.size hb4
        clear cO p0 p1 p2 p3
        obtain ⟨p0, p1, p2, p3⟩ := HQ.out w4 hb24
        have hb04 := below_stepL hb2 hb2.size hb24
        go_wp2_with fail
        refine (CG2.out w4 hb04).mono ?_
        rintro e w5 ⟨rfl, hb5⟩
        have hbb := below_stepL hb04 hb04.size hb5
        clear CG2 p0 p1 p2 p3 hb3 hb4
        go_wp2_with fail
        go_ret
        exact ⟨rfl, hbb⟩
end Go.Proofs.YtpneoaehkibdeaaDoor
