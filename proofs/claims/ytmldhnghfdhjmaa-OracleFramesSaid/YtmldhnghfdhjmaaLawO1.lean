/-
  THE WALK of the law 'chirographlaw.OracleFrames'.
  CONDITIONS: each theorem's own hypotheses.
-/
import Derived.Test.YtmldhnghfdhjmaaFrameQ
import Derived.Test.YtmldhnghfdhjmaaFrameS
import Derived.Test.YtmldhnghfdhjmaaSame
import Derived.Test.YtmldhnghfdhjmaaRowT
namespace Go.Proofs.Ytmldhnghfdhjmaa
open Go.RowKit CodeMath Go.Proofs.Ytmldhnghfdhjmaa.FrameMath
set_option linter.unusedVariables false

set_option maxRecDepth 100000 in
set_option maxHeartbeats 2000000 in
theorem oracleFrames_walk (t : Int) (rows : List (List UInt8)) (ap : Option Addr) (capp : Nat) (w : World) (t0 : -9223372036854775808 ≤ t) (t1 : t ≤ 9223372036854775807) (hc : rows.length ≤ capp) (hq : capp ≤ 9223372036854775807) (hr : rows.length ≤ 140737488351232 ∧ ∀ l ∈ rows, l.length ≤ 140737488351232) (hl : Lines w ap rows) :
    Calls Try.prog 3 #[.int .i64 t, .slice ap rows.length capp] w fun e w' => e = .returned (.bool true) ∧ Below w.heap.size w w' := by
  have cS0 := fun W => lawSameBytes_any [] none none 0 0 W (.inl rfl) (.inl rfl)
  by_cases ht : 1 ≤ t ∧ t ≤ 9
  · by_cases hn : rows.length ≤ 8
    · by_cases hW : 2 + total rows ≤ 16777216
      · obtain ⟨n, rfl⟩ : ∃ n : Nat, t = n := ⟨t.toNat, by omega⟩
        have cA := Frame_good n (by omega) (by omega) rows ap capp hn hW w hl
        have cB := fun W h => FrameOf_good n (by omega) (by omega) rows ap capp hn hW W h
        have cS := fun ao ao' cap cap' W => lawSameBytes_any (frame n rows) ao ao' cap cap' W
        generalize frame n rows = F at cA cB cS
        clear hn hW ht hr
        generalize rows.length = m at *
        go_enter Try.func3, Try.ntmps3
        go_wp2_with fail
        refine cA.mono ?_
        rintro e w1 ⟨v1, rfl, ho1, hb1⟩
        obtain ⟨a1, k1, rfl, _, _, _, hy1⟩ := ho1.rowT.row
        have c := cB w1 (hl.keep hb1)
        clear cA cB
        go_wp2_with fail
        refine c.mono ?_
        rintro e w2 ⟨g2, k2, rfl, hy2, _, _, hb2⟩
        have c := cS _ _ k1 k2 w2 (hy1.keep hb2) hy2
        have hbw := hb1.trans (hb2.mono hb1.size)
        clear cS hy1 hy2 ho1
        generalize F.length = N at c ⊢
        go_wp2_with fail
        refine c.mono ?_
        rintro e w3 ⟨rfl, rfl⟩
        clear c
        go_wp2_with fail
        go_ret
        exact ⟨rfl, hbw⟩
      · have cA := Frame_big t ht rows ap capp hn (by omega) w hl hr.2
        have cB := FrameOf_big t ht rows ap capp hn (by omega) w hl hr.2
        have hbw := Below.refl w.heap.size w
        clear hn hW ht hr
        generalize rows.length = m at *
        go_enter Try.func3, Try.ntmps3
        go_wp2_with fail
        refine cA.mono ?_
        rintro e w1 ⟨rfl, rfl⟩
        go_wp2_with fail
        refine cB.mono ?_
        rintro e w1 ⟨rfl, rfl⟩
        go_wp2_with fail
        refine (cS0 _).mono ?_
        rintro e w1 ⟨rfl, rfl⟩
        go_wp2_with fail
        go_ret
        exact ⟨rfl, hbw⟩
    · have cA := Frame_many t ht ap rows.length capp (by omega) (by omega) w
      have cB := FrameOf_many t ht ap rows.length capp (by omega) (by omega) w
      have hbw := Below.refl w.heap.size w
      clear hn ht hr
      generalize rows.length = m at *
      go_enter Try.func3, Try.ntmps3
      go_wp2_with fail
      refine cA.mono ?_
      rintro e w1 ⟨rfl, rfl⟩
      go_wp2_with fail
      refine cB.mono ?_
      rintro e w1 ⟨rfl, rfl⟩
      go_wp2_with fail
      refine (cS0 _).mono ?_
      rintro e w1 ⟨rfl, rfl⟩
      go_wp2_with fail
      go_ret
      exact ⟨rfl, hbw⟩
  · have cA := Frame_badTag t ht (.slice ap rows.length capp) w t0 t1
    have cB := FrameOf_badTag t ht (.slice ap rows.length capp) w t0 t1
    have hbw := Below.refl w.heap.size w
    clear ht hr
    generalize rows.length = m at *
    go_enter Try.func3, Try.ntmps3
    go_wp2_with fail
    refine cA.mono ?_
    rintro e w1 ⟨rfl, rfl⟩
    go_wp2_with fail
    refine cB.mono ?_
    rintro e w1 ⟨rfl, rfl⟩
    go_wp2_with fail
    refine (cS0 _).mono ?_
    rintro e w1 ⟨rfl, rfl⟩
    go_wp2_with fail
    go_ret
    exact ⟨rfl, hbw⟩
end Go.Proofs.Ytmldhnghfdhjmaa
