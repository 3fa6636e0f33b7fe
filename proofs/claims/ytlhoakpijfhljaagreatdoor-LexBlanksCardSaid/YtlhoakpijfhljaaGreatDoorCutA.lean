/-
  CONTRACTS of package lex's gap and of the reference's skip.
  CONDITIONS: each theorem's own hypotheses.
-/
import Derived.Test.YtlhoakpijfhljaaGreatDoorCutM
import Derived.Test.YtlhoakpijfhljaaGreatDoorLexB
namespace Go.Proofs.YtlhoakpijfhljaaGreatDoor
open Go.RowKit
set_option linter.unusedVariables false
set_option maxRecDepth 100000

theorem notNl_any (c : UInt8) (w : World) : Calls Tryz.prog 47 #[.int .u8 (c.toNat : Int)] w fun e w' => e = .returned (.bool (notNl c)) ∧ w = w' := by
  have e1 : decide (c.toNat = 10) = ((c.toNat : Int) == 10) := by rw [Bool.eq_iff_iff]; simp; omega
  unfold notNl
  rw [e1]
  clear e1
  cases h1 : ((c.toNat : Int) == 10)
  all_goals
    go_enter Tryz.func47, Tryz.ntmps47
    go_wp2
    go_ret
    exact ⟨by first | rfl | simp [bne, h1], rfl⟩
set_option maxHeartbeats 1000000 in
theorem run_notNl (l : List UInt8) (w : World) (hl : l.length ≤ 9223372036854775807) :
    Calls Tryz.prog 31 #[.string (str l), .func (.func 47) #[] #[]] w fun e w' => e = .returned (.string (str (l.takeWhile notNl))) ∧ w = w' := by
  have hsz := str_size l
  obtain ⟨s, hs⟩ : ∃ s, str l = s := ⟨_, rfl⟩
  rw [hs] at hsz ⊢
  obtain ⟨n, hn⟩ : ∃ n, l.length = n := ⟨_, rfl⟩
  rw [hn] at hsz hl
  have hget : ∀ j (h : j < s.size) (h' : j < l.length), s[j] = l[j] := by subst hs; exact fun j h h' => rfl
  have hcut : ∀ j (h : j ≤ n) (w : World), (Instr.slice 9 (.string s) none (some (.int .i64 (j : Int))) none).run Tryz.prog w = .ok (.string (str (l.take j))) w := fun j h w => by
    subst hs; exact head_str l j _ rfl (by omega) w
  have HSZ := Lib.hid hsz
  have HN := Lib.hid hn
  have HG := Lib.hid hget
  have HC := Lib.hid hcut
  clear hs hsz hn hget hcut
  go_enter Tryz.func31, Tryz.ntmps31
  go_wp2
  go_loopw [5] (fun i wr => ∃ t : Nat, t ≤ n ∧ i = .int .i64 t ∧ Hid ((l.take t).all notNl = true) ∧ wr = w) (fun i _ => n - (intOf i).toNat)
  case atStart => exact ⟨0, Nat.zero_le _, rfl, Lib.hid (by simp), rfl⟩
  case round =>
    obtain ⟨t, ht, rfl, hA, rfl⟩ := hrel
    by_cases h1 : t < n
    · have hts : t < s.size := by rw [HSZ.out]; exact h1
      have htl : t < l.length := by rw [HN.out]; exact h1
      have hg := HG.out t hts htl
      have cF := notNl_any s[t] wr
      have htI : (t : Int) < (s.size : Int) := by omega
      cases hp : notNl s[t] with
      | true =>
        rw [hp] at cF
        have hA2 := Lib.hid (all_take_succ notNl l t htl hA.out (by rw [← hg]; exact hp))
        clear hg htl
        go_wp2_with fail
        refine cF.mono ?_
        rintro e w1 ⟨rfl, rfl⟩
        go_wp2_with fail
        go_roundw
        case rel => exact ⟨t + 1, by omega, by go_num, hA2, by first | rfl | trivial⟩
        case measure => simp [intOf]; omega
      | false =>
        rw [hp] at cF
        have hE := Lib.hid (takeWhile_at notNl l t hA.out (fun h => by rw [← hg]; exact hp))
        have q := HC.out t ht
        clear hg htl
        go_wp2_with fail
        refine cF.mono ?_
        rintro e w1 ⟨rfl, rfl⟩
        have q1 := q wr
        go_wp2_with fail
        go_ret
        exact ⟨by rw [hE.out]; rfl, by first | rfl | trivial⟩
    · have hge : ¬ t < s.size := by rw [HSZ.out]; exact h1
      have hE := Lib.hid (takeWhile_at notNl l t hA.out (fun h => by rw [HN.out] at h; omega))
      have q1 := HC.out t ht wr
      have htI : ¬ (t : Int) < (s.size : Int) := by omega
      go_wp2_with fail
      go_ret
      exact ⟨by rw [hE.out]; rfl, by first | rfl | trivial⟩

set_option maxHeartbeats 1000000 in
theorem remark_any (l : List UInt8) (w : World) (hl : l.length ≤ 9223372036854775807) :
    Calls Tryz.prog 33 #[.string (str l)] w fun e w' => e = .returned (.int .i64 (remL l : Nat)) ∧ w = w' := by
  have cH := fun W => hasPrefix_any l [45, 45] W hl (by decide)
  have cR := fun W => run_notNl l W hl
  have hsz := str_size (l.takeWhile notNl)
  have hR : remL l = if Lib.hasPrefix l [45, 45] = true then (l.takeWhile notNl).length else 0 := rfl
  generalize remL l = R at *
  generalize str (l.takeWhile notNl) = T at *
  rw [← hsz] at hR
  generalize str l = s at *
  have HR := Lib.hid hR
  clear hR hsz
  cases hp : Lib.hasPrefix l [45, 45] with
  | false =>
    rw [hp] at cH HR
    clear cR hp
    go_enter Tryz.func33, Tryz.ntmps33
    go_wp2_with fail
    refine (cH _).mono ?_
    rintro e w1 ⟨rfl, rfl⟩
    clear cH
    go_wp2_with fail
    go_ret
    exact ⟨by rw [HR.out]; rfl, rfl⟩
  | true =>
    rw [hp] at cH HR
    clear hp
    go_enter Tryz.func33, Tryz.ntmps33
    go_wp2_with fail
    refine (cH _).mono ?_
    rintro e w1 ⟨rfl, rfl⟩
    clear cH
    go_wp2_with fail
    refine (cR _).mono ?_
    rintro e w1 ⟨rfl, rfl⟩
    clear cR
    go_wp2_with fail
    go_ret
    exact ⟨by rw [HR.out]; rfl, rfl⟩
set_option maxHeartbeats 2000000 in
theorem gap_any (l : List UInt8) (w : World) (hl : l.length ≤ 4611686018427387904) :
    Calls Tryz.prog 21 #[.string (str l)] w fun e w' => e = .returned (.int .i64 (gapR l : Nat)) ∧ w = w' := by
  have cB := fun t W => run_isBlank (l.drop t) W (by rw [List.length_drop]; omega)
  have cR := fun t W => remark_any (l.drop t) W (by rw [List.length_drop]; omega)
  have hcut := fun (t : Nat) (x : Int) (hx : x = (t : Int)) (h : t ≤ l.length) W => drop_str l t x hx h W
  have hsz := fun t => str_size ((l.drop t).takeWhile isBl)
  obtain ⟨G, hG⟩ : ∃ G, gapR l = G := ⟨_, rfl⟩
  rw [hG]
  obtain ⟨n, hn⟩ : ∃ n, l.length = n := ⟨_, rfl⟩
  rw [hn] at hcut hl
  have HG0 : Hid (G = 0 + gapR (l.drop 0)) := Lib.hid (by rw [List.drop_zero, hG]; simp)
  have HN := Lib.hid hn
  have CB := Lib.hid cB
  have CR := Lib.hid cR
  have HC := Lib.hid hcut
  have HS := Lib.hid hsz
  generalize str l = s at *
  clear hG hn cB cR hcut hsz
  go_enter Tryz.func21, Tryz.ntmps21
  go_wp2
  go_loopw [3] (fun i wr => ∃ t : Nat, t ≤ n ∧ i = .int .i64 t ∧ Hid (G = t + gapR (l.drop t)) ∧ wr = w) (fun i _ => n - (intOf i).toNat)
  case atStart => exact ⟨0, Nat.zero_le _, rfl, HG0, rfl⟩
  case round =>
    obtain ⟨t, ht, rfl, hA, rfl⟩ := hrel
    clear HG0
    have q1 := HC.out t (t : Int) rfl ht
    have cb := CB.out t wr
    have hs1 := HS.out t
    have hble := blanks_le (l.drop t)
    have hdl : (l.drop t).length = n - t := by rw [List.length_drop, HN.out]
    have hrle := remL_le ((l.drop t).drop (blanks (l.drop t)))
    have h2 := gap_two (l.drop t)
    rw [List.length_drop] at hrle
    rw [List.drop_drop] at hrle h2
    rw [List.drop_drop] at h2
    have hbl : ((l.drop t).takeWhile isBl).length = blanks (l.drop t) := rfl
    rw [hbl] at hs1
    have cr := CR.out (t + blanks (l.drop t)) wr
    have q2 := HC.out (t + blanks (l.drop t)) ((t : Int) + (blanks (l.drop t) : Nat)) (by omega) (by omega)
    have H2 := Lib.hid h2
    have HA := hA
    clear hbl h2 hA
    generalize str ((l.drop t).takeWhile isBl) = T at *
    generalize blanks (l.drop t) = a at *
    generalize str (l.drop t) = s1 at *
    generalize str (l.drop (t + a)) = s2 at *
    generalize remL (l.drop (t + a)) = b at *
    have w1 : IntKind.i64.wrap ((t : Int) + (a : Int)) = ((t + a : Nat) : Int) := by rw [IntKind.wrap_i64] <;> omega
    have e1 : (T.size : Int) = (a : Int) := by omega
    have e3 : (a : Int) + (b : Int) ≤ 4611686018427387904 := by omega
    have hab : a + b ≤ n - t := by omega
    clear hdl hble hrle hs1 CB CR HC HS
    by_cases hz : a + b = 0
    · have z1 : ((a : Int) + (b : Int) == 0) = true := by simp; omega
      have HE : Hid (G = t) := by show _ = _; have := HA.out; have h3 := H2.out; rw [if_pos hz] at h3; omega
      clear hz HA H2
      go_wp2_with fail
      refine cb.mono ?_
      rintro e w1 ⟨rfl, rfl⟩
      go_wp2_with fail
      refine cr.mono ?_
      rintro e w1 ⟨rfl, rfl⟩
      go_wp2_with fail
      go_ret
      exact ⟨by rw [HE.out]; rfl, by first | rfl | trivial⟩
    · have z1 : ((a : Int) + (b : Int) == 0) = false := by simp; omega
      have HE : Hid (G = (t + (a + b)) + gapR (l.drop (t + (a + b)))) := by
        show _ = _
        have := HA.out; have h3 := H2.out
        rw [if_neg hz] at h3
        omega
      have hpos : 0 < a + b := by omega
      clear hz HA H2
      go_wp2_with fail
      refine cb.mono ?_
      rintro e w1 ⟨rfl, rfl⟩
      go_wp2_with fail
      refine cr.mono ?_
      rintro e w1 ⟨rfl, rfl⟩
      go_wp2_with fail
      go_roundw
      case rel => exact ⟨t + (a + b), by omega, by go_num, HE, by first | rfl | trivial⟩
      case measure => simp [intOf]; omega
end Go.Proofs.YtlhoakpijfhljaaGreatDoor
