/-
  CONTRACTS of the reference's rollFault, RollOf; THE WALK of the law 'chirographlaw.RollRoots'.
  CONDITIONS: package sum's roundWords hold what their initialiser lays ('KW').
-/
import Derived.Test.YtdpfjhhcgaeiiaaDoorRollN
import Derived.Test.YtdpfjhhcgaeiiaaDoorSame
namespace Go.Proofs.YtdpfjhhcgaeiiaaDoor
open Go.RowKit CodeMath Go.Proofs.YtdpfjhhcgaeiiaaDoor.FrameMath
set_option linter.unusedVariables false
set_option maxRecDepth 100000

theorem rollFault_any (m : Int) (n : Nat) (ap : Option Addr) (cap : Nat) (w : World) (m0 : -9223372036854775808 ≤ m) (m1 : m ≤ 9223372036854775807) (hn : (n : Int) ≤ 9223372036854775807) :
    Calls Tryd.prog 72 #[.int .i64 m, .slice ap n cap] w fun e w' => e = .returned (.int .i64 (refR m n)) ∧ w = w' := by
  have cM := fun W => badMode_any m W m0 m1
  obtain ⟨r, hr⟩ : ∃ r, refR m n = r := ⟨_, rfl⟩
  rw [hr]
  unfold refR at hr
  cases hm : isMode m with
  | false =>
    rw [if_pos hm] at hr
    subst hr
    rw [hm] at cM
    clear hm
    go_enter Tryd.func72, Tryd.ntmps72
    go_wp2_with fail
    refine (cM _).mono ?_
    rintro e w1 ⟨rfl, rfl⟩
    go_wp2_with fail
    go_ret
    exact ⟨rfl, rfl⟩
  | true =>
    rw [if_neg (by rw [hm]; decide)] at hr
    rw [hm] at cM
    clear hm
    by_cases h2 : (64 : Int) < n
    · rw [if_pos (.inr h2)] at hr
      subst hr
      go_enter Tryd.func72, Tryd.ntmps72
      go_wp2_with fail
      refine (cM _).mono ?_
      rintro e w1 ⟨rfl, rfl⟩
      go_wp2_with fail
      go_ret
      exact ⟨rfl, rfl⟩
    · rw [if_neg (by omega)] at hr
      subst hr
      go_enter Tryd.func72, Tryd.ntmps72
      go_wp2_with fail
      refine (cM _).mono ?_
      rintro e w1 ⟨rfl, rfl⟩
      go_wp2_with fail
      go_ret
      exact ⟨rfl, rfl⟩
theorem digPost_top {R : DR} {w : World} {e : Ending} {w' : World} (h : DigPost R w e w') : ∃ a n k, e = .returned (.tuple #[.slice a n k, .int .i64 (stD 0 R).2]) ∧ RowT w' (.slice a n k) (stD 0 R).1 ∧ Below w.heap.size w w' := by
  cases R with
  | err c => exact ⟨none, 0, 0, h.1, rowT_nil _, h.2⟩
  | ok x =>
    obtain ⟨v, h1, h2, h3⟩ := h
    obtain ⟨a, k, rfl, -⟩ := id h2
    exact ⟨_, _, _, h1, h2, h3⟩
theorem RollOf_any (m : Int) (l : List (List UInt8)) (ap : Option Addr) (cap : Nat) (w : World) (m0 : -9223372036854775808 ≤ m) (m1 : m ≤ 9223372036854775807) (hc : l.length ≤ cap) (hq : cap ≤ 9223372036854775807) (hB : ∀ x ∈ l, x.length ≤ 140737488351232) (hl : Lines w ap l) :
    Calls Tryd.prog 27 #[.int .i64 m, .slice ap l.length cap] w (TopPost (topR m l) w) := by
  have cF := fun W => rollFault_any m l.length ap cap W m0 m1 (by omega)
  have hBB := Below.refl w.heap.size w
  unfold topR
  obtain ⟨r, hr⟩ : ∃ r, refR m l.length = r := ⟨_, rfl⟩
  rw [hr] at cF ⊢
  by_cases h0 : r = 0
  · subst h0
    rw [if_neg (by decide)]
    obtain ⟨hm, _, h64⟩ := refR_zero hr
    have cR := rollOf_any m hm m0 m1 l ap cap w (by omega) hc hq hB hl
    generalize rollR m l = R at *
    generalize l.length = n at *
    clear hr hB hc hq h64 hl hm
    go_enter Tryd.func27, Tryd.ntmps27
    go_wp2_with fail
    refine (cF _).mono ?_
    rintro ex w1 ⟨rfl, rfl⟩
    clear cF
    go_wp2_with fail
    refine cR.mono ?_
    intro ex w2 hpost
    obtain ⟨a, n2, k, rfl, hr2, hb2⟩ := digPost_top hpost
    clear cR hpost
    go_wp2_with fail
    go_ret2
    exact ⟨_, rfl, hr2, hb2⟩
  · rw [if_pos h0]
    clear hr hB hl hc hq
    generalize l.length = n at *
    go_enter Tryd.func27, Tryd.ntmps27
    go_wp2_with fail
    refine (cF _).mono ?_
    rintro ex w1 ⟨rfl, rfl⟩
    clear cF
    go_wp2_with fail
    go_ret2
    exact ⟨_, rfl, rowT_nil _, hBB⟩
set_option maxHeartbeats 1000000 in
theorem rollRoots_walk (m : Int) (l : List (List UInt8)) (ap : Option Addr) (cap : Nat) (w : World) (hT : KW w) (m0 : -9223372036854775808 ≤ m) (m1 : m ≤ 9223372036854775807) (hc : l.length ≤ cap) (hq : cap ≤ 9223372036854775807) (hr : l.length ≤ 140737488351232 ∧ ∀ x ∈ l, x.length ≤ 140737488351232) (hl : Lines w ap l) :
    Calls Tryd.prog 7 #[.int .i64 m, .slice ap l.length cap] w fun e w' => e = .returned (.bool true) ∧ Below w.heap.size w w' := by
  have cA := rollTop_any m l ap cap w m0 m1 hc hq hr.2 hl hT
  have cB := fun W hl => RollOf_any m l ap cap W m0 m1 hc hq hr.2 hl
  have cS := fun l ao ao' cap cap' W => lawSameBytes_any l ao ao' cap cap' W
  clear hr hc hq hT
  generalize l.length = n at *
  generalize topR m l = X at *
  obtain ⟨b, q⟩ := X
  go_enter Tryd.func7, Tryd.ntmps7
  go_wp2_with fail
  refine cA.mono ?_
  rintro e w1 ⟨v1, rfl, hr1, hb1⟩
  have c := cB w1 (hl.keep hb1)
  clear cA cB
  obtain ⟨a0, k0, rfl, -⟩ := id hr1
  go_wp2_with fail
  refine c.mono ?_
  rintro e w2 ⟨v2, rfl, hr2, hb2⟩
  have hbb := below_step hb1 hb1.size hb2
  clear c
  obtain ⟨a1, k1, e1, _, _, _, hy1⟩ := (hr1.keep hb2).row
  obtain ⟨ea, -, eb⟩ := Value.slice.inj e1
  subst ea
  subst eb
  obtain ⟨a2, k2, rfl, _, _, _, hy2⟩ := hr2.row
  have c := cS b a0 a2 k0 k2 w2 hy1 hy2
  simp only at *
  generalize b.length = lb at *
  clear cS hr1 hr2 hy1 hy2 hl hb1 hb2 e1
  go_wp2_with fail
  refine c.mono ?_
  rintro e w3 ⟨rfl, rfl⟩
  go_wp2_with fail
  go_ret
  exact ⟨rfl, hbb⟩
end Go.Proofs.YtdpfjhhcgaeiiaaDoor
