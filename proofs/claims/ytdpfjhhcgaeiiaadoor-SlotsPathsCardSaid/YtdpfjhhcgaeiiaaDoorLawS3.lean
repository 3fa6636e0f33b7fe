/-
  THE WALK of the law 'chirographlaw.SlotsPaths'.
  CONDITIONS: package sum's roundWords hold what their initialiser lays ('KW').
-/
import Derived.Test.YtdpfjhhcgaeiiaaDoorPathC
namespace Go.Proofs.YtdpfjhhcgaeiiaaDoor
open Go.RowKit CodeMath Go.Proofs.YtdpfjhhcgaeiiaaDoor.FrameMath
set_option linter.unusedVariables false
set_option maxRecDepth 100000

set_option maxHeartbeats 1500000 in
theorem slotsPaths_walk (m : Int) (l : List Sl) (ao : Option Addr) (cap : Nat) (i : Int) (w : World) (hT : KW w) (m0 : -9223372036854775808 ≤ m) (m1 : m ≤ 9223372036854775807) (hc : l.length ≤ cap) (hq : cap ≤ 9223372036854775807) (hr : l.length ≤ 140737488351232 ∧ ∀ x ∈ l, x.s.length ≤ 140737488351232 ∧ x.d.length ≤ 140737488351232) (hS : Slots w ao l) (i0 : -9223372036854775808 ≤ i) (i1 : i ≤ 9223372036854775807) :
    Calls Tryd.prog 3 #[.int .i64 m, .slice ao l.length cap, .int .i64 i] w fun e w' => e = .returned (.bool true) ∧ Below w.heap.size w w' := by
  obtain ⟨h, h6, hh⟩ := some_height l
  have cA := Path_any m l ao cap i w m0 m1 hc hq i0 i1 hS hT h h6 hh
  have cB := fun W hs => PathOf_any m l ao cap i W m0 m1 hc hq i0 i1 hs h h6 hh
  have hlen : ∀ rows, pathR m h l i = .ok rows → rows.length ≤ 9223372036854775807 := fun rows hx => by
    unfold pathR at hx
    split at hx
    · cases hx
    · split at hx
      · cases hx
        rw [wayB_length]; omega
      · cases hx
  clear hr hc hT hh
  generalize l.length = n at *
  cases hR : pathR m h l i with
  | err q =>
    rw [hR] at cA cB
    have cL := fun W => lawLists_any [] [] none none 0 0 W (.inl rfl) (.inl rfl) (by simp) (by simp)
    clear hR hlen
    go_enter Tryd.func3, Tryd.ntmps3
    go_wp2_with fail
    refine cA.mono ?_
    rintro e w1 ⟨rfl, hb1⟩
    have c := cB w1 (hS.keep hb1)
    clear cA cB
    go_wp2_with fail
    refine c.mono ?_
    rintro e w2 ⟨rfl, hb2⟩
    have hbb := below_step hb1 hb1.size hb2
    clear c
    go_wp2_with fail
    refine (cL _).mono ?_
    rintro e w3 ⟨rfl, hb3⟩
    have hbb3 := below_step hbb hbb.size hb3
    go_wp2_with fail
    go_ret
    exact ⟨rfl, hbb3⟩
  | ok rows =>
    rw [hR] at cA cB
    have hl := hlen rows hR
    clear hR hlen
    go_enter Tryd.func3, Tryd.ntmps3
    go_wp2_with fail
    refine cA.mono ?_
    rintro e w1 ⟨a1, k1, rfl, hl1, hb1⟩
    have c := cB w1 (hS.keep hb1)
    clear cA cB
    obtain ⟨rn, hrn⟩ : ∃ rn, rows.length = rn := ⟨_, rfl⟩
    have HRN := Lib.hid hrn
    rw [hrn]
    rw [hrn] at hl
    clear hrn
    go_wp2_with fail
    refine c.mono ?_
    rintro e w2 ⟨a2, k2, rfl, hl2, hb2⟩
    have hbb := below_step hb1 hb1.size hb2
    clear c
    have cL := lawLists_any rows rows a1 a2 k1 k2 w2 (hl1.keep hb2) hl2 (by rw [HRN.out]; exact hl) (by rw [HRN.out]; exact hl)
    rw [decide_eq_true rfl, HRN.out] at cL
    rw [HRN.out]
    clear hl1 hl2
    go_wp2_with fail
    refine cL.mono ?_
    rintro e w3 ⟨rfl, hb3⟩
    have hbb3 := below_step hbb hbb.size hb3
    go_wp2_with fail
    go_ret
    exact ⟨rfl, hbb3⟩
end Go.Proofs.YtdpfjhhcgaeiiaaDoor
