/-
  CONTRACTS of package kinds: where a column of a name stands; what is wrong with a column; Columns.
  CONDITIONS: each theorem's own hypotheses; the tables 'Tabs' and package lex's signs 'SW' hold what their initialisers lay.
-/
import Derived.Test.YtoleaahnpcbkkaaDoorKindO
import Derived.Test.YtoleaahnpcbkkaaDoorLexC
import Derived.Test.YtoleaahnpcbkkaaDoorBlk
import Derived.Laws.EntriesVeiled
import Derived.BigQuiet
namespace Go.Proofs.YtoleaahnpcbkkaaDoor
open Go.RowKit
set_option linter.unusedVariables false
set_option maxRecDepth 100000

theorem placeN_hit (n : List UInt8) : ∀ (l : List Cl) (q j : Nat) (c : Cl), l[j]? = some c → c.n = n → (∀ (i : Nat) (x : Cl), l[i]? = some x → i < j → x.n ≠ n) → placeN n l q = ((q + j : Nat) : Int)
  | [], q, j, c, h, _, _ => by simp at h
  | x :: l, q, 0, c, h, hc, _ => by
    simp only [List.getElem?_cons_zero, Option.some.injEq] at h
    subst h
    have e : placeN n (x :: l) q = if (x.n == n) = true then (q : Int) else placeN n l (q + 1) := rfl
    rw [e, if_pos (by rw [hc]; simp)]; simp
  | x :: l, q, j + 1, c, h, hc, hg => by
    have e : placeN n (x :: l) q = if (x.n == n) = true then (q : Int) else placeN n l (q + 1) := rfl
    have h0 := hg 0 x rfl (by omega)
    rw [e, if_neg (by simpa using h0), placeN_hit n l (q + 1) j c (by simpa using h) hc (fun i y hy hi => hg (i + 1) y (by simpa using hy) (by omega))]
    congr 1; omega
theorem placeN_none (n : List UInt8) : ∀ (l : List Cl) (q : Nat), (∀ (i : Nat) (x : Cl), l[i]? = some x → x.n ≠ n) → placeN n l q = -1
  | [], q, _ => rfl
  | x :: l, q, hg => by
    have e : placeN n (x :: l) q = if (x.n == n) = true then (q : Int) else placeN n l (q + 1) := rfl
    have h0 := hg 0 x rfl
    rw [e, if_neg (by simpa using h0), placeN_none n l (q + 1) (fun i y hy => hg (i + 1) y (by simpa using hy))]
set_option maxHeartbeats 2000000 in
theorem isNamed_any (c : Cl) (n : List UInt8) (b : Nat) (w : World) (hb : b < w.heap.size) (hc : w.cell? ⟨b, 0, none⟩ = some (.string (str n))) :
    Calls Tryd.prog 51 #[.agg #[.string (str c.n), .int .i64 c.k, .bool c.nl], .pointer (some ⟨b, 0, none⟩)] w fun e w' => e = .returned (.bool (c.n == n)) ∧ Below w.heap.size w w' := by
  have hq : ((str c.n).toList == (str n).toList) = (c.n == n) := str_beq c.n n
  obtain ⟨B, hB⟩ : ∃ B, (c.n == n) = B := ⟨_, rfl⟩
  rw [hB] at hq ⊢
  have hc2 : ∀ o, (w.alloc o).cell? ⟨b, 0, none⟩ = some (.string (str n)) := fun o => (((Below.refl w.heap.size w).alloc (Nat.le_refl _) o).cell (p := ⟨b, 0, none⟩) hb).trans hc
  generalize str c.n = S at *
  generalize str n = N at *
  clear hB hc
  go_enter Tryd.func51, Tryd.ntmps51
  go_wp2_with fail
  go_ret
  exact ⟨by first | rfl | (rw [← hq]; rfl) | simp [hq], (Below.refl _ _).alloc (Nat.le_refl _) _⟩
set_option maxHeartbeats 4000000 in
theorem indexFunc_any (l : List Cl) (ao : Option Addr) (cap : Nat) (n : List UInt8) (b : Nat) (w : World) (hl : l.length ≤ 9223372036854775807) (hC : Cols w ao l) (hb : b < w.heap.size) (hc : w.cell? ⟨b, 0, none⟩ = some (.string (str n))) :
    Calls Tryd.prog 50 #[.slice ao l.length cap, .func (.func 51) #[] #[.pointer (some ⟨b, 0, none⟩)]] w fun e w' => e = .returned (.int .i64 (placeN n l 0)) ∧ Below w.heap.size w w' := by
  obtain ⟨P, hP⟩ : ∃ P, placeN n l 0 = P := ⟨_, rfl⟩
  rw [hP]
  have hhit := fun j c h1 h2 h3 => placeN_hit n l 0 j c h1 h2 h3
  have hnone := placeN_none n l 0
  rw [hP] at hhit hnone
  obtain ⟨m, hm⟩ : ∃ m, l.length = m := ⟨_, rfl⟩
  rw [hm] at hl ⊢
  have HM := Lib.hid hm
  have HH := Lib.hid hhit
  have HN := Lib.hid hnone
  have HC := Lib.hid hC
  clear hhit hnone hP hm hC
  go_enter Tryd.func50, Tryd.ntmps50
  go_wp2_with fail
  go_loopw [8] (fun i wr => ∃ j : Nat, j ≤ m ∧ i = .int .i64 j ∧ Hid (∀ (i : Nat) (x : Cl), l[i]? = some x → i < j → x.n ≠ n) ∧ Below w.heap.size w wr) (fun i _ => m - (intOf i).toNat)
  case atStart => exact ⟨0, Nat.zero_le _, rfl, Lib.hid (fun i x _ h => absurd h (Nat.not_lt_zero _)), Below.refl _ _⟩
  case round =>
    obtain ⟨j, hj, rfl, hal, hbw⟩ := hrel
    by_cases hlt : j < m
    · have iI : (j : Int) < (m : Int) := by omega
      have hjl : j < l.length := by rw [HM.out]; exact hlt
      obtain ⟨c, hcj⟩ : ∃ c, l[j]? = some c := ⟨l[j], List.getElem?_eq_getElem hjl⟩
      rcases HC.out.2 with h0 | ⟨a, o, rfl, ha, hcl⟩
      · rw [h0] at hjl; simp at hjl
      obtain ⟨x0, x1, x2⟩ := hcl j c hcj
      have d0 := (hbw.cell (p := ⟨a, o + j * 3, none⟩) ha).trans x0
      have d1 := (hbw.cell (p := ⟨a, o + j * 3 + 1, none⟩) ha).trans x1
      have d2 := (hbw.cell (p := ⟨a, o + j * 3 + 2, none⟩) ha).trans x2
      have cC := isNamed_any c n b wr (Nat.lt_of_lt_of_le hb hbw.size) ((hbw.cell (p := ⟨b, 0, none⟩) hb).trans hc)
      have hx1 := fun (h : c.n = n) => HH.out j c hcj h hal.out
      have hx2 := fun (h : c.n ≠ n) => (show ∀ (i : Nat) (x : Cl), l[i]? = some x → i < j + 1 → x.n ≠ n from fun i x hx hi => by
        rcases Nat.lt_or_ge i j with h1 | h1
        · exact hal.out i x hx h1
        · obtain rfl : i = j := by omega
          rw [hcj] at hx; cases hx; exact h)
      have HX1 := Lib.hid hx1
      have HX2 := Lib.hid hx2
      clear hx1 hx2 hcl hcj hjl x0 x1 x2 hal
      by_cases hn : c.n = n
      · have hb1 : (c.n == n) = true := by simpa using hn
        rw [hb1] at cC
        have HP := Lib.hid (HX1.out hn)
        clear HX1 HX2 hn hb1
        generalize str c.n = S at *
        go_wp2_with fail
        refine cC.mono ?_
        rintro e w1 ⟨rfl, hb2⟩
        have hbb := below_stepL hbw hbw.size hb2
        clear cC hb2 d0 d1 d2
        go_wp2_with fail
        go_ret
        exact ⟨by rw [HP.out, Nat.zero_add]; rfl, hbb⟩
      · have hb1 : (c.n == n) = false := by simpa using hn
        rw [hb1] at cC
        have HP := Lib.hid (HX2.out hn)
        clear HX1 HX2 hn hb1
        generalize str c.n = S at *
        go_wp2_with fail
        refine cC.mono ?_
        rintro e w1 ⟨rfl, hb2⟩
        have hbb := below_stepL hbw hbw.size hb2
        clear cC hb2 d0 d1 d2
        go_wp2_with fail
        go_roundw
        case rel => exact ⟨j + 1, by omega, by go_num, HP, hbb⟩
        case measure => simp [intOf]; omega
    · have iI : ¬ (j : Int) < (m : Int) := by omega
      have HP := Lib.hid (HN.out (fun i x hx => hal.out i x hx (by have := (List.getElem?_eq_some_iff.1 hx).1; rw [HM.out] at this; omega)))
      go_wp2_with fail
      go_ret
      exact ⟨by rw [HP.out]; rfl, hbw⟩
set_option maxHeartbeats 2000000 in
theorem placeOf_any (l : List Cl) (ao : Option Addr) (cap : Nat) (n : List UInt8) (w : World) (hl : l.length ≤ 9223372036854775807) (hC : Cols w ao l) :
    Calls Tryd.prog 29 #[.string (str n), .slice ao l.length cap] w fun e w' => e = .returned (.int .i64 (placeN n l 0)) ∧ Below w.heap.size w w' := by
  have c := indexFunc_any l ao cap n w.heap.size (w.alloc (.cells #[.string (str n)] 9)) hl (hC.keep ((Below.refl _ _).alloc (Nat.le_refl _) _)) (by simp) (by simp)
  generalize placeN n l 0 = P at *
  generalize l.length = m at *
  generalize str n = N at *
  clear hC
  go_enter Tryd.func29, Tryd.ntmps29
  go_wp2_with fail
  refine c.mono ?_
  rintro e w1 ⟨rfl, hb⟩
  have hbb : Below w.heap.size w w1 := ((Below.refl _ _).alloc (Nat.le_refl _) _).trans (hb.mono (by simp))
  clear c hb
  go_wp2_with fail
  go_ret
  exact ⟨rfl, hbb⟩
end Go.Proofs.YtoleaahnpcbkkaaDoor
