/-
  THE WALK of the law 'chirographlaw.OracleSalts'.
  CONDITIONS: package sum's roundWords hold what their initialiser lays ('KW').
-/
import Derived.Test.YtmldhnghfdhjmaaDoorSaltB
import Derived.Test.YtmldhnghfdhjmaaDoorSame
namespace Go.Proofs.YtmldhnghfdhjmaaDoor
open Go.RowKit CodeMath Go.Proofs.YtmldhnghfdhjmaaDoor.FrameMath
set_option linter.unusedVariables false

set_option maxRecDepth 100000 in
set_option maxHeartbeats 2000000 in
theorem oracleSalts_walk (m : Int) (s : List UInt8) (ao : Option Addr) (cap : Nat) (step place : Int) (w : World) (hT : KW w) (m0 : -9223372036854775808 ≤ m) (m1 : m ≤ 9223372036854775807) (hc : s.length ≤ cap) (hq : cap ≤ 9223372036854775807) (hr : s.length ≤ 140737488351232) (hn : ao = none → cap = 0) (hb : Bytes w ao s) (s0 : -9223372036854775808 ≤ step) (s1 : step ≤ 9223372036854775807) (p0 : -9223372036854775808 ≤ place) (p1 : place ≤ 9223372036854775807) :
    Calls Tryd.prog 4 #[.int .i64 m, .slice ao s.length cap, .int .i64 step, .int .i64 place] w fun e w' => e = .returned (.bool true) ∧ Below w.heap.size w w' := by
  have cA := Salt_any m s ao cap step place w m0 m1 hc hq hn hb s0 s1 p0 p1 hT
  have cB := fun W h => SaltOf_any m s ao cap step place W m0 m1 hc hq hn h s0 s1 p0 p1
  have cS := fun l ao ao' cap cap' W => lawSameBytes_any l ao ao' cap cap' W
  have cS0 := fun W => lawSameBytes_any [] none none 0 0 W (.inl rfl) (.inl rfl)
  clear hr hc hT hn hq
  generalize s.length = n at *
  cases hR : saltR m s step place with
  | err q =>
    rw [hR] at cA cB
    clear hR cS
    go_enter Tryd.func4, Tryd.ntmps4
    go_wp2_with fail
    refine cA.mono ?_
    rintro e w1 ⟨rfl, hb1⟩
    have c := cB w1 (hb.keep hb1)
    clear cA cB
    go_wp2_with fail
    refine c.mono ?_
    rintro e w2 ⟨rfl, hb2⟩
    have hbb := below_step hb1 hb1.size hb2
    clear c
    go_wp2_with fail
    refine (cS0 _).mono ?_
    rintro e w3 ⟨rfl, rfl⟩
    go_wp2_with fail
    go_ret
    exact ⟨rfl, hbb⟩
  | ok b =>
    rw [hR] at cA cB
    clear hR cS0
    go_enter Tryd.func4, Tryd.ntmps4
    go_wp2_with fail
    refine cA.mono ?_
    rintro e w1 ⟨v1, rfl, hr1, hb1⟩
    have c := cB w1 (hb.keep hb1)
    clear cA cB
    go_wp2_with fail
    refine c.mono ?_
    rintro e w2 ⟨v2, rfl, hr2, hb2⟩
    have hbb := below_step hb1 hb1.size hb2
    clear c
    obtain ⟨a1, k1, rfl, _, _, _, hy1⟩ := (hr1.keep hb2).row
    obtain ⟨a2, k2, rfl, _, _, _, hy2⟩ := hr2.row
    have c := cS b a1 a2 k1 k2 w2 hy1 hy2
    clear cS hy1 hy2 hr1 hr2
    generalize b.length = bl at *
    go_wp2_with fail
    refine c.mono ?_
    rintro e w3 ⟨rfl, rfl⟩
    clear c
    go_wp2_with fail
    go_ret
    exact ⟨rfl, hbb⟩
end Go.Proofs.YtmldhnghfdhjmaaDoor
