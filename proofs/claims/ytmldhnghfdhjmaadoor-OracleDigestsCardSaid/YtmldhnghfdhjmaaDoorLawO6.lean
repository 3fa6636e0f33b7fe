/-
  THE WALK of the law 'chirographlaw.OracleDigests'.
  CONDITIONS: package sum's roundWords hold what their initialiser lays ('KW').
-/
import Derived.Test.YtmldhnghfdhjmaaDoorDigB
import Derived.Test.YtmldhnghfdhjmaaDoorSame
namespace Go.Proofs.YtmldhnghfdhjmaaDoor
open Go.RowKit CodeMath Go.Proofs.YtmldhnghfdhjmaaDoor.FrameMath
set_option linter.unusedVariables false

set_option maxRecDepth 100000 in
set_option maxHeartbeats 2000000 in
theorem oracleDigests_walk (m t : Int) (ps : List (List UInt8)) (ap : Option Addr) (cp : Nat) (w : World) (hT : KW w) (m0 : -9223372036854775808 ≤ m) (m1 : m ≤ 9223372036854775807) (t0 : -9223372036854775808 ≤ t) (t1 : t ≤ 9223372036854775807) (hc : ps.length ≤ cp) (hq : cp ≤ 9223372036854775807) (hr : ps.length ≤ 140737488351232 ∧ ∀ l ∈ ps, l.length ≤ 140737488351232) (hl : Lines w ap ps) :
    Calls Tryd.prog 3 #[.int .i64 m, .int .i64 t, .slice ap ps.length cp] w fun e w' => e = .returned (.bool true) ∧ Below w.heap.size w w' := by
  have cA := Digest_any m t ps ap cp w m0 m1 t0 t1 (by omega) hr.2 hl hT
  have cB := fun W h => DigestOf_any m t ps ap cp W m0 m1 t0 t1 (by omega) hr.2 h
  have cS := fun l ao ao' cap cap' W => lawSameBytes_any l ao ao' cap cap' W
  have cS0 := fun W => lawSameBytes_any [] none none 0 0 W (.inl rfl) (.inl rfl)
  clear hr hc hT
  generalize ps.length = n at *
  cases hR : digR m t ps with
  | err q =>
    rw [hR] at cA cB
    clear hR cS
    go_enter Tryd.func3, Tryd.ntmps3
    go_wp2_with fail
    refine cA.mono ?_
    rintro e w1 ⟨rfl, hb1⟩
    have c := cB w1 (hl.keep hb1)
    clear cA cB
    go_wp2_with fail
    refine c.mono ?_
    rintro e w2 ⟨rfl, hb2⟩
    have hbb := below_step hb1 hb1.size hb2
    clear c
    go_wp2_with fail
    refine (cS0 _).mono ?_
    rintro e w3 ⟨rfl, rfl⟩
    go_wp2_with fail
    go_ret
    exact ⟨rfl, hbb⟩
  | ok b =>
    rw [hR] at cA cB
    clear hR cS0
    go_enter Tryd.func3, Tryd.ntmps3
    go_wp2_with fail
    refine cA.mono ?_
    rintro e w1 ⟨v1, rfl, hr1, hb1⟩
    have c := cB w1 (hl.keep hb1)
    clear cA cB
    go_wp2_with fail
    refine c.mono ?_
    rintro e w2 ⟨v2, rfl, hr2, hb2⟩
    have hbb := below_step hb1 hb1.size hb2
    clear c
    obtain ⟨a1, k1, rfl, _, _, _, hy1⟩ := (hr1.keep hb2).row
    obtain ⟨a2, k2, rfl, _, _, _, hy2⟩ := hr2.row
    have c := cS b a1 a2 k1 k2 w2 hy1 hy2
    clear cS hy1 hy2 hr1 hr2
    generalize b.length = bl at *
    go_wp2_with fail
    refine c.mono ?_
    rintro e w3 ⟨rfl, rfl⟩
    clear c
    go_wp2_with fail
    go_ret
    exact ⟨rfl, hbb⟩
end Go.Proofs.YtmldhnghfdhjmaaDoor
