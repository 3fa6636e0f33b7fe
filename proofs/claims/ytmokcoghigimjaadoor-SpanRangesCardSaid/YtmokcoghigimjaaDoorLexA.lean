/-
  CONTRACTS of package lex's tests of bytes, of run, and of the reference's among, reach, isName.
  CONDITIONS: each theorem's own hypotheses.
-/
import Derived.Test.YtmokcoghigimjaaDoorLexM
import Derived.Test.YtmokcoghigimjaaDoorStr0
import Derived.LoopTactic
namespace Go.Proofs.YtmokcoghigimjaaDoor
open Go.RowKit
set_option linter.unusedVariables false

theorem isSmall_any (c : UInt8) (w : World) : Calls Tryd.prog 42 #[.int .u8 (c.toNat : Int)] w fun e w' => e = .returned (.bool (isSm c)) ∧ w = w' := by
  unfold isSm
  generalize c.toNat = n
  by_cases h1 : 97 ≤ n
  · have i1 : (97 : Int) ≤ n := by omega
    by_cases h2 : n ≤ 122
    · have i2 : (n : Int) ≤ 122 := by omega
      rw [decide_eq_true h1, decide_eq_true h2]
      clear h1 h2
      go_enter Tryd.func42, Tryd.ntmps42
      go_wp2
      go_ret
      exact ⟨rfl, rfl⟩
    · have i2 : ¬ (n : Int) ≤ 122 := by omega
      rw [decide_eq_true h1, decide_eq_false h2]
      clear h1 h2
      go_enter Tryd.func42, Tryd.ntmps42
      go_wp2
      go_ret
      exact ⟨rfl, rfl⟩
  · have i1 : ¬ (97 : Int) ≤ n := by omega
    rw [decide_eq_false h1, Bool.false_and]
    clear h1
    go_enter Tryd.func42, Tryd.ntmps42
    go_wp2
    go_ret
    exact ⟨rfl, rfl⟩
theorem isGreat_any (c : UInt8) (w : World) : Calls Tryd.prog 45 #[.int .u8 (c.toNat : Int)] w fun e w' => e = .returned (.bool (isGr c)) ∧ w = w' := by
  unfold isGr
  generalize c.toNat = n
  by_cases h1 : 65 ≤ n
  · have i1 : (65 : Int) ≤ n := by omega
    by_cases h2 : n ≤ 90
    · have i2 : (n : Int) ≤ 90 := by omega
      rw [decide_eq_true h1, decide_eq_true h2]
      clear h1 h2
      go_enter Tryd.func45, Tryd.ntmps45
      go_wp2
      go_ret
      exact ⟨rfl, rfl⟩
    · have i2 : ¬ (n : Int) ≤ 90 := by omega
      rw [decide_eq_true h1, decide_eq_false h2]
      clear h1 h2
      go_enter Tryd.func45, Tryd.ntmps45
      go_wp2
      go_ret
      exact ⟨rfl, rfl⟩
  · have i1 : ¬ (65 : Int) ≤ n := by omega
    rw [decide_eq_false h1, Bool.false_and]
    clear h1
    go_enter Tryd.func45, Tryd.ntmps45
    go_wp2
    go_ret
    exact ⟨rfl, rfl⟩
theorem isDigit_any (c : UInt8) (w : World) : Calls Tryd.prog 50 #[.int .u8 (c.toNat : Int)] w fun e w' => e = .returned (.bool (isDi c)) ∧ w = w' := by
  unfold isDi
  generalize c.toNat = n
  by_cases h1 : 48 ≤ n
  · have i1 : (48 : Int) ≤ n := by omega
    by_cases h2 : n ≤ 57
    · have i2 : (n : Int) ≤ 57 := by omega
      rw [decide_eq_true h1, decide_eq_true h2]
      clear h1 h2
      go_enter Tryd.func50, Tryd.ntmps50
      go_wp2
      go_ret
      exact ⟨rfl, rfl⟩
    · have i2 : ¬ (n : Int) ≤ 57 := by omega
      rw [decide_eq_true h1, decide_eq_false h2]
      clear h1 h2
      go_enter Tryd.func50, Tryd.ntmps50
      go_wp2
      go_ret
      exact ⟨rfl, rfl⟩
  · have i1 : ¬ (48 : Int) ≤ n := by omega
    rw [decide_eq_false h1, Bool.false_and]
    clear h1
    go_enter Tryd.func50, Tryd.ntmps50
    go_wp2
    go_ret
    exact ⟨rfl, rfl⟩
theorem staysInName_any (c : UInt8) (w : World) : Calls Tryd.prog 44 #[.int .u8 (c.toNat : Int)] w fun e w' => e = .returned (.bool (stays c)) ∧ w = w' := by
  have e1 : decide (c.toNat = 95) = ((c.toNat : Int) == 95) := by rw [Bool.eq_iff_iff]; simp; omega
  unfold stays
  rw [e1]
  have cS := isSmall_any c w
  have cD := isDigit_any c w
  clear e1
  cases h1 : isSm c <;> cases h2 : isDi c <;> cases h3 : ((c.toNat : Int) == 95) <;>
  (rw [h1] at cS
   rw [h2] at cD
   go_enter Tryd.func44, Tryd.ntmps44
   go_wp2_with (first | (go_at_call 42; refine cS.mono ?_; rintro e w' ⟨rfl, rfl⟩) | (go_at_call 50; refine cD.mono ?_; rintro e w' ⟨rfl, rfl⟩) | fail)
   go_ret
   exact ⟨rfl, rfl⟩)
set_option maxHeartbeats 1000000 in
/-- ████ run. -/
theorem run_staysInName (l : List UInt8) (w : World) (hl : l.length ≤ 9223372036854775807) :
    Calls Tryd.prog 43 #[.string (str l), .func (.func 44) #[] #[]] w fun e w' => e = .returned (.string (str (l.takeWhile stays))) ∧ w = w' := by
  have hsz := str_size l
  obtain ⟨s, hs⟩ : ∃ s, str l = s := ⟨_, rfl⟩
  rw [hs] at hsz ⊢
  obtain ⟨n, hn⟩ : ∃ n, l.length = n := ⟨_, rfl⟩
  rw [hn] at hsz hl
  have hget : ∀ j (h : j < s.size) (h' : j < l.length), s[j] = l[j] := by subst hs; exact fun j h h' => rfl
  have hcut : ∀ j (h : j ≤ n) (w : World), (Instr.slice 9 (.string s) none (some (.int .i64 (j : Int))) none).run Tryd.prog w = .ok (.string (str (l.take j))) w := fun j h w => by
    subst hs; exact head_str l j _ rfl (by omega) w
  have HSZ := Lib.hid hsz
  have HN := Lib.hid hn
  have HG := Lib.hid hget
  have HC := Lib.hid hcut
  clear hs hsz hn hget hcut
  go_enter Tryd.func43, Tryd.ntmps43
  go_wp2
  go_loopw [5] (fun i wr => ∃ t : Nat, t ≤ n ∧ i = .int .i64 t ∧ Hid ((l.take t).all stays = true) ∧ wr = w) (fun i _ => n - (intOf i).toNat)
  case atStart => exact ⟨0, Nat.zero_le _, rfl, Lib.hid (by simp), rfl⟩
  case round =>
    obtain ⟨t, ht, rfl, hA, rfl⟩ := hrel
    by_cases h1 : t < n
    · have hts : t < s.size := by rw [HSZ.out]; exact h1
      have htl : t < l.length := by rw [HN.out]; exact h1
      have hg := HG.out t hts htl
      have cF := staysInName_any s[t] wr
      have htI : (t : Int) < (s.size : Int) := by omega
      cases hp : stays s[t] with
      | true =>
        rw [hp] at cF
        have hA2 := Lib.hid (all_take_succ stays l t htl hA.out (by rw [← hg]; exact hp))
        clear hg htl
        go_wp2_with fail
        refine cF.mono ?_
        rintro e w1 ⟨rfl, rfl⟩
        go_wp2_with fail
        go_roundw
        case rel => exact ⟨t + 1, by omega, by go_num, hA2, by first | rfl | trivial⟩
        case measure => simp [intOf]; omega
      | false =>
        rw [hp] at cF
        have hE := Lib.hid (takeWhile_at stays l t hA.out (fun h => by rw [← hg]; exact hp))
        have q := HC.out t ht
        clear hg htl
        go_wp2_with fail
        refine cF.mono ?_
        rintro e w1 ⟨rfl, rfl⟩
        have q1 := q wr
        go_wp2_with fail
        go_ret
        exact ⟨by rw [hE.out]; rfl, by first | rfl | trivial⟩
    · have hge : ¬ t < s.size := by rw [HSZ.out]; exact h1
      have hE := Lib.hid (takeWhile_at stays l t hA.out (fun h => by rw [HN.out] at h; omega))
      have q1 := HC.out t ht wr
      have htI : ¬ (t : Int) < (s.size : Int) := by omega
      go_wp2_with fail
      go_ret
      exact ⟨by rw [hE.out]; rfl, by first | rfl | trivial⟩
set_option maxHeartbeats 1000000 in
/-- ████ run. -/
theorem run_isGreat (l : List UInt8) (w : World) (hl : l.length ≤ 9223372036854775807) :
    Calls Tryd.prog 43 #[.string (str l), .func (.func 45) #[] #[]] w fun e w' => e = .returned (.string (str (l.takeWhile isGr))) ∧ w = w' := by
  have hsz := str_size l
  obtain ⟨s, hs⟩ : ∃ s, str l = s := ⟨_, rfl⟩
  rw [hs] at hsz ⊢
  obtain ⟨n, hn⟩ : ∃ n, l.length = n := ⟨_, rfl⟩
  rw [hn] at hsz hl
  have hget : ∀ j (h : j < s.size) (h' : j < l.length), s[j] = l[j] := by subst hs; exact fun j h h' => rfl
  have hcut : ∀ j (h : j ≤ n) (w : World), (Instr.slice 9 (.string s) none (some (.int .i64 (j : Int))) none).run Tryd.prog w = .ok (.string (str (l.take j))) w := fun j h w => by
    subst hs; exact head_str l j _ rfl (by omega) w
  have HSZ := Lib.hid hsz
  have HN := Lib.hid hn
  have HG := Lib.hid hget
  have HC := Lib.hid hcut
  clear hs hsz hn hget hcut
  go_enter Tryd.func43, Tryd.ntmps43
  go_wp2
  go_loopw [5] (fun i wr => ∃ t : Nat, t ≤ n ∧ i = .int .i64 t ∧ Hid ((l.take t).all isGr = true) ∧ wr = w) (fun i _ => n - (intOf i).toNat)
  case atStart => exact ⟨0, Nat.zero_le _, rfl, Lib.hid (by simp), rfl⟩
  case round =>
    obtain ⟨t, ht, rfl, hA, rfl⟩ := hrel
    by_cases h1 : t < n
    · have hts : t < s.size := by rw [HSZ.out]; exact h1
      have htl : t < l.length := by rw [HN.out]; exact h1
      have hg := HG.out t hts htl
      have cF := isGreat_any s[t] wr
      have htI : (t : Int) < (s.size : Int) := by omega
      cases hp : isGr s[t] with
      | true =>
        rw [hp] at cF
        have hA2 := Lib.hid (all_take_succ isGr l t htl hA.out (by rw [← hg]; exact hp))
        clear hg htl
        go_wp2_with fail
        refine cF.mono ?_
        rintro e w1 ⟨rfl, rfl⟩
        go_wp2_with fail
        go_roundw
        case rel => exact ⟨t + 1, by omega, by go_num, hA2, by first | rfl | trivial⟩
        case measure => simp [intOf]; omega
      | false =>
        rw [hp] at cF
        have hE := Lib.hid (takeWhile_at isGr l t hA.out (fun h => by rw [← hg]; exact hp))
        have q := HC.out t ht
        clear hg htl
        go_wp2_with fail
        refine cF.mono ?_
        rintro e w1 ⟨rfl, rfl⟩
        have q1 := q wr
        go_wp2_with fail
        go_ret
        exact ⟨by rw [hE.out]; rfl, by first | rfl | trivial⟩
    · have hge : ¬ t < s.size := by rw [HSZ.out]; exact h1
      have hE := Lib.hid (takeWhile_at isGr l t hA.out (fun h => by rw [HN.out] at h; omega))
      have q1 := HC.out t ht wr
      have htI : ¬ (t : Int) < (s.size : Int) := by omega
      go_wp2_with fail
      go_ret
      exact ⟨by rw [hE.out]; rfl, by first | rfl | trivial⟩
set_option maxHeartbeats 1000000 in
/-- ████ run. -/
theorem run_isDigit (l : List UInt8) (w : World) (hl : l.length ≤ 9223372036854775807) :
    Calls Tryd.prog 43 #[.string (str l), .func (.func 50) #[] #[]] w fun e w' => e = .returned (.string (str (l.takeWhile isDi))) ∧ w = w' := by
  have hsz := str_size l
  obtain ⟨s, hs⟩ : ∃ s, str l = s := ⟨_, rfl⟩
  rw [hs] at hsz ⊢
  obtain ⟨n, hn⟩ : ∃ n, l.length = n := ⟨_, rfl⟩
  rw [hn] at hsz hl
  have hget : ∀ j (h : j < s.size) (h' : j < l.length), s[j] = l[j] := by subst hs; exact fun j h h' => rfl
  have hcut : ∀ j (h : j ≤ n) (w : World), (Instr.slice 9 (.string s) none (some (.int .i64 (j : Int))) none).run Tryd.prog w = .ok (.string (str (l.take j))) w := fun j h w => by
    subst hs; exact head_str l j _ rfl (by omega) w
  have HSZ := Lib.hid hsz
  have HN := Lib.hid hn
  have HG := Lib.hid hget
  have HC := Lib.hid hcut
  clear hs hsz hn hget hcut
  go_enter Tryd.func43, Tryd.ntmps43
  go_wp2
  go_loopw [5] (fun i wr => ∃ t : Nat, t ≤ n ∧ i = .int .i64 t ∧ Hid ((l.take t).all isDi = true) ∧ wr = w) (fun i _ => n - (intOf i).toNat)
  case atStart => exact ⟨0, Nat.zero_le _, rfl, Lib.hid (by simp), rfl⟩
  case round =>
    obtain ⟨t, ht, rfl, hA, rfl⟩ := hrel
    by_cases h1 : t < n
    · have hts : t < s.size := by rw [HSZ.out]; exact h1
      have htl : t < l.length := by rw [HN.out]; exact h1
      have hg := HG.out t hts htl
      have cF := isDigit_any s[t] wr
      have htI : (t : Int) < (s.size : Int) := by omega
      cases hp : isDi s[t] with
      | true =>
        rw [hp] at cF
        have hA2 := Lib.hid (all_take_succ isDi l t htl hA.out (by rw [← hg]; exact hp))
        clear hg htl
        go_wp2_with fail
        refine cF.mono ?_
        rintro e w1 ⟨rfl, rfl⟩
        go_wp2_with fail
        go_roundw
        case rel => exact ⟨t + 1, by omega, by go_num, hA2, by first | rfl | trivial⟩
        case measure => simp [intOf]; omega
      | false =>
        rw [hp] at cF
        have hE := Lib.hid (takeWhile_at isDi l t hA.out (fun h => by rw [← hg]; exact hp))
        have q := HC.out t ht
        clear hg htl
        go_wp2_with fail
        refine cF.mono ?_
        rintro e w1 ⟨rfl, rfl⟩
        have q1 := q wr
        go_wp2_with fail
        go_ret
        exact ⟨by rw [hE.out]; rfl, by first | rfl | trivial⟩
    · have hge : ¬ t < s.size := by rw [HSZ.out]; exact h1
      have hE := Lib.hid (takeWhile_at isDi l t hA.out (fun h => by rw [HN.out] at h; omega))
      have q1 := HC.out t ht wr
      have htI : ¬ (t : Int) < (s.size : Int) := by omega
      go_wp2_with fail
      go_ret
      exact ⟨by rw [hE.out]; rfl, by first | rfl | trivial⟩
/-! ### the reference's -/
set_option maxHeartbeats 1000000 in
theorem among_any (c : UInt8) (l : List UInt8) (w : World) (hl : l.length ≤ 9223372036854775807) :
    Calls Tryd.prog 34 #[.int .u8 (c.toNat : Int), .string (str l)] w fun e w' => e = .returned (.bool (l.contains c)) ∧ w = w' := by
  obtain ⟨B, hB⟩ : ∃ B, l.contains c = B := ⟨_, rfl⟩
  rw [hB]
  have HBB := Lib.hid hB
  clear hB
  have hsz := str_size l
  obtain ⟨s, hs⟩ : ∃ s, str l = s := ⟨_, rfl⟩
  rw [hs] at hsz ⊢
  obtain ⟨n, hn⟩ : ∃ n, l.length = n := ⟨_, rfl⟩
  rw [hn] at hsz hl
  have hget : ∀ j (h : j < s.size) (h' : j < l.length), s[j] = l[j] := by subst hs; exact fun j h h' => rfl
  have HSZ := Lib.hid hsz
  have HN := Lib.hid hn
  have HG := Lib.hid hget
  clear hs hsz hn hget
  go_enter Tryd.func34, Tryd.ntmps34
  go_wp2
  go_loopw [5] (fun i wr => ∃ t : Nat, t ≤ n ∧ i = .int .i64 t ∧ Hid (c ∉ l.take t) ∧ wr = w) (fun i _ => n - (intOf i).toNat)
  case atStart => exact ⟨0, Nat.zero_le _, rfl, Lib.hid (by simp), rfl⟩
  case round =>
    obtain ⟨t, ht, rfl, hA, rfl⟩ := hrel
    by_cases h1 : t < n
    · have hts : t < s.size := by rw [HSZ.out]; exact h1
      have htl : t < l.length := by rw [HN.out]; exact h1
      have hg := HG.out t hts htl
      have htI : (t : Int) < (s.size : Int) := by omega
      by_cases hp : s[t] = c
      · have hE : Hid (B = true) := by
          show _ = _
          rw [← HBB.out, List.contains_iff_mem, ← hp, hg]; exact List.getElem_mem htl
        have hq : ((s[t].toNat : Int) == (c.toNat : Int)) = true := by rw [hp]; simp
        clear hg htl hp
        go_wp2_with fail
        go_ret
        exact ⟨by rw [hE.out]; rfl, by first | rfl | trivial⟩
      · have hq : ((s[t].toNat : Int) == (c.toNat : Int)) = false := by
          simp only [beq_eq_false_iff_ne, ne_eq]
          intro e
          exact hp (UInt8.toNat_inj.1 (by omega))
        have hA2 : Hid (c ∉ l.take (t + 1)) := by
          show c ∉ _
          rw [List.take_succ_eq_append_getElem htl, List.mem_append]
          rintro (h | h)
          · exact hA.out h
          · simp at h; exact hp (by rw [hg, ← h])
        clear hg htl hp
        go_wp2_with fail
        go_roundw
        case rel => exact ⟨t + 1, by omega, by go_num, hA2, by first | rfl | trivial⟩
        case measure => simp [intOf]; omega
    · have hge : ¬ t < s.size := by rw [HSZ.out]; exact h1
      have hE : Hid (B = false) := by
        show _ = _
        rw [← HBB.out]
        have := hA.out
        rw [List.take_of_length_le (by rw [HN.out]; omega)] at this
        simpa using this
      have htI : ¬ (t : Int) < (s.size : Int) := by omega
      go_wp2_with fail
      go_ret
      exact ⟨by rw [hE.out]; rfl, by first | rfl | trivial⟩
set_option maxHeartbeats 1000000 in
theorem reach_any (l m : List UInt8) (w : World) (hl : l.length ≤ 9223372036854775807) (hm : m.length ≤ 9223372036854775807) :
    Calls Tryd.prog 35 #[.string (str l), .string (str m)] w fun e w' => e = .returned (.int .i64 ((l.takeWhile m.contains).length : Nat)) ∧ w = w' := by
  have cA := fun c W => among_any c m W hm
  have hsz := str_size l
  obtain ⟨s, hs⟩ : ∃ s, str l = s := ⟨_, rfl⟩
  rw [hs] at hsz ⊢
  obtain ⟨n, hn⟩ : ∃ n, l.length = n := ⟨_, rfl⟩
  rw [hn] at hsz hl
  have hget : ∀ j (h : j < s.size) (h' : j < l.length), s[j] = l[j] := by subst hs; exact fun j h h' => rfl
  have HSZ := Lib.hid hsz
  have HN := Lib.hid hn
  have HG := Lib.hid hget
  generalize str m = M at *
  clear hs hsz hn hget hm
  go_enter Tryd.func35, Tryd.ntmps35
  go_wp2
  go_loopw [5] (fun i wr => ∃ t : Nat, t ≤ n ∧ i = .int .i64 t ∧ Hid ((l.take t).all m.contains = true) ∧ wr = w) (fun i _ => n - (intOf i).toNat)
  case atStart => exact ⟨0, Nat.zero_le _, rfl, Lib.hid (by simp), rfl⟩
  case round =>
    obtain ⟨t, ht, rfl, hA, rfl⟩ := hrel
    by_cases h1 : t < n
    · have hts : t < s.size := by rw [HSZ.out]; exact h1
      have htl : t < l.length := by rw [HN.out]; exact h1
      have hg := HG.out t hts htl
      have cF := cA s[t] wr
      have htI : (t : Int) < (s.size : Int) := by omega
      cases hp : m.contains s[t] with
      | true =>
        rw [hp] at cF
        have hA2 := Lib.hid (all_take_succ m.contains l t htl hA.out (by rw [← hg]; exact hp))
        clear cA hg htl hp
        go_wp2_with fail
        refine cF.mono ?_
        rintro e w1 ⟨rfl, rfl⟩
        go_wp2_with fail
        go_roundw
        case rel => exact ⟨t + 1, by omega, by go_num, hA2, by first | rfl | trivial⟩
        case measure => simp [intOf]; omega
      | false =>
        rw [hp] at cF
        have hE := Lib.hid (takeWhile_at m.contains l t hA.out (fun h => by rw [← hg]; exact hp))
        have hL : Hid ((l.take t).length = t) := by show _ = _; rw [List.length_take, HN.out]; omega
        clear cA hg htl hp
        go_wp2_with fail
        refine cF.mono ?_
        rintro e w1 ⟨rfl, rfl⟩
        go_wp2_with fail
        go_ret
        exact ⟨by rw [hE.out, hL.out]; rfl, by first | rfl | trivial⟩
    · have hge : ¬ t < s.size := by rw [HSZ.out]; exact h1
      have hE := Lib.hid (takeWhile_at m.contains l t hA.out (fun h => by rw [HN.out] at h; omega))
      have hL : Hid ((l.take t).length = t) := by show _ = _; rw [List.length_take, HN.out]; omega
      have htI : ¬ (t : Int) < (s.size : Int) := by omega
      clear cA
      go_wp2_with fail
      go_ret
      exact ⟨by rw [hE.out, hL.out]; rfl, by first | rfl | trivial⟩
theorem nameB_eq (l : List UInt8) : nameB l = (!l.isEmpty && (match l with | [] => false | c :: _ => isSm c) && l.all stays) := by
  cases l <;> simp [nameB]
set_option maxHeartbeats 1000000 in
theorem isNameRef_any (l : List UInt8) (w : World) (hl : l.length ≤ 9223372036854775807) :
    Calls Tryd.prog 27 #[.string (str l)] w fun e w' => e = .returned (.bool (nameB l)) ∧ w = w' := by
  have cR := fun W => reach_any l nameTail W hl (by decide)
  rw [show nameTail.contains = stays from funext tail_has] at cR
  cases l with
  | nil =>
    have he : (str []).toList.isEmpty = true := by rw [str_toList]; rfl
    have he2 : (str []).toList = [] := by rw [str_toList]
    clear cR hl
    generalize str [] = s at *
    go_enter Tryd.func27, Tryd.ntmps27
    go_wp2_with fail
    go_ret
    exact ⟨rfl, rfl⟩
  | cons c l =>
    have cA := fun W => among_any c smallsL W (by decide)
    rw [smalls_has] at cA
    have hsz := str_size (c :: l)
    have hne : (str (c :: l)).toList ≠ [] := by rw [str_toList]; simp
    have hne2 : (str (c :: l)).toList.isEmpty = false := by rw [str_toList]; rfl
    have hg : ∀ h : 0 < (str (c :: l)).size, (str (c :: l))[0] = c := fun h => rfl
    have e2 := takeWhile_len stays (c :: l)
    obtain ⟨NB, hNB⟩ : ∃ NB, nameB (c :: l) = NB := ⟨_, rfl⟩
    rw [hNB]
    have hNB2 : NB = (isSm c && (c :: l).all stays) := by rw [← hNB]; rfl
    clear hNB
    obtain ⟨s, hs⟩ : ∃ s, str (c :: l) = s := ⟨_, rfl⟩
    rw [hs] at hsz hne hne2 hg cR ⊢
    have h0 : 0 < s.size := by rw [hsz]; simp
    have hg0 := hg h0
    generalize (c :: l).takeWhile stays = T at *
    generalize (c :: l).all stays = B at *
    generalize (c :: l).length = n at *
    have e3 : ((T.length : Int) == (s.size : Int)) = B := by rw [← e2, hsz, Bool.eq_iff_iff]; simp; omega
    generalize T.length = tl at *
    have HNB := Lib.hid hNB2
    have h0I : (0 : Int) < (s.size : Int) := by omega
    clear hs hg e2 hsz hl hNB2
    cases hc : isSm c with
    | false =>
      have HC : Hid (NB = false) := by show _ = _; rw [HNB.out, hc]; rfl
      rw [hc, ← hg0] at cA
      clear hg0 cR e3 HNB hc
      go_enter Tryd.func27, Tryd.ntmps27
      go_wp2_with fail
      refine (cA _).mono ?_
      rintro e w1 ⟨rfl, rfl⟩
      go_wp2_with fail
      go_ret
      exact ⟨by rw [HC.out]; rfl, rfl⟩
    | true =>
      have HC : Hid (NB = B) := by show _ = _; rw [HNB.out, hc]; rfl
      rw [hc, ← hg0] at cA
      clear hg0 HNB hc
      cases B <;>
      (go_enter Tryd.func27, Tryd.ntmps27
       go_wp2_with fail
       refine (cA _).mono ?_
       rintro e w1 ⟨rfl, rfl⟩
       go_wp2_with fail
       refine (cR _).mono ?_
       rintro e w1 ⟨rfl, rfl⟩
       go_wp2_with fail
       go_ret
       exact ⟨by rw [HC.out]; rfl, rfl⟩)
end Go.Proofs.YtmokcoghigimjaaDoor
