/-
  THE WALK of the law 'chirographlaw.SlotsRoots'.
  CONDITIONS: package sum's roundWords hold what their initialiser lays ('KW').
-/
import Derived.Test.YtmldhnghfdhjmaaDoorSlotI
import Derived.Test.YtmldhnghfdhjmaaDoorSame
namespace Go.Proofs.YtmldhnghfdhjmaaDoor
open Go.RowKit CodeMath Go.Proofs.YtmldhnghfdhjmaaDoor.FrameMath
set_option linter.unusedVariables false
set_option maxRecDepth 100000

set_option maxHeartbeats 2000000 in
theorem RootOf_any (m : Int) (l : List Sl) (ao : Option Addr) (cap : Nat) (w : World) (m0 : -9223372036854775808 ≤ m) (m1 : m ≤ 9223372036854775807) (hc : l.length ≤ cap) (hq : cap ≤ 9223372036854775807) (hS : Slots w ao l) (h : Nat) (h6 : h ≤ 6) (hh : isPow l.length = true → l.length = 2 ^ h) :
    Calls Tryd.prog 22 #[.int .i64 m, .slice ao l.length cap] w (DigPost (rootR m h l) w) := by
  have cF := slotsFault_any m l ao cap w m0 m1 hc hq hS
  unfold rootR
  cases hR : levelsR m l with
  | err q =>
    rw [hR] at cF
    have q0 := levelsR_ne hR
    rw [show faultOf (.err q) = q from rfl] at cF
    show Calls _ _ _ _ (DigPost (.err q) w)
    clear hh hc hR hS
    generalize l.length = n at *
    go_enter Tryd.func22, Tryd.ntmps22
    go_wp2_with fail
    refine cF.mono ?_
    rintro e w1 ⟨rfl, hb1⟩
    clear cF
    go_wp2_with fail
    go_ret2
    exact ⟨rfl, hb1⟩
  | ok rows =>
    rw [hR] at cF
    rw [show faultOf (.ok rows) = 0 from rfl] at cF
    obtain ⟨hm, hp, hlv⟩ := levelsR_ok hR
    have cR := fun W hs => rootOf_any m hm m0 m1 h h6 l rows ao cap W (hh hp) hlv hc hq hs
    have hS' : ∀ W, Below w.heap.size w W → Slots W ao l := fun W hW => hS.keep hW
    show Calls _ _ _ _ (DigPost (.ok (rootB m h rows)) w)
    generalize rootB m h rows = B at *
    clear hh hc hR hS hp hlv hm
    generalize l.length = n at *
    go_enter Tryd.func22, Tryd.ntmps22
    go_wp2_with fail
    refine cF.mono ?_
    rintro e w1 ⟨rfl, hb1⟩
    clear cF
    have c := cR w1 (hS' w1 hb1)
    clear cR hS'
    go_wp2_with fail
    refine c.mono ?_
    rintro e w2 ⟨v, rfl, hr, hb2⟩
    have hbb := below_step hb1 hb1.size hb2
    clear c
    go_wp2_with fail
    go_ret2
    exact ⟨_, rfl, hr, hbb⟩
theorem some_height (l : List Sl) : ∃ h, h ≤ 6 ∧ (isPow l.length = true → l.length = 2 ^ h) := by
  cases hp : isPow l.length with
  | false => exact ⟨0, by decide, fun h => by cases h⟩
  | true =>
    obtain ⟨k, hk6, hk⟩ := pow_of hp
    exact ⟨k, hk6, fun _ => hk⟩
set_option maxHeartbeats 2000000 in
theorem slotsRoots_walk (m : Int) (l : List Sl) (ao : Option Addr) (cap : Nat) (w : World) (hT : KW w) (m0 : -9223372036854775808 ≤ m) (m1 : m ≤ 9223372036854775807) (hc : l.length ≤ cap) (hq : cap ≤ 9223372036854775807) (hr : l.length ≤ 140737488351232 ∧ ∀ x ∈ l, x.s.length ≤ 140737488351232 ∧ x.d.length ≤ 140737488351232) (hS : Slots w ao l) :
    Calls Tryd.prog 8 #[.int .i64 m, .slice ao l.length cap] w fun e w' => e = .returned (.bool true) ∧ Below w.heap.size w w' := by
  obtain ⟨h, h6, hh⟩ := some_height l
  have cA := Root_any m l ao cap w m0 m1 hc hq hS hT h hh
  have cB := fun W hs => RootOf_any m l ao cap W m0 m1 hc hq hs h h6 hh
  have cS := fun l ao ao' cap cap' W => lawSameBytes_any l ao ao' cap cap' W
  have cS0 := fun W => lawSameBytes_any [] none none 0 0 W (.inl rfl) (.inl rfl)
  clear hr hc hT hh
  generalize l.length = n at *
  cases hR : rootR m h l with
  | err q =>
    rw [hR] at cA cB
    clear hR cS
    go_enter Tryd.func8, Tryd.ntmps8
    go_wp2_with fail
    refine cA.mono ?_
    rintro e w1 ⟨rfl, hb1⟩
    have c := cB w1 (hS.keep hb1)
    clear cA cB
    go_wp2_with fail
    refine c.mono ?_
    rintro e w2 ⟨rfl, hb2⟩
    have hbb := below_step hb1 hb1.size hb2
    clear c
    go_wp2_with fail
    refine (cS0 _).mono ?_
    rintro e w3 ⟨rfl, rfl⟩
    go_wp2_with fail
    go_ret
    exact ⟨rfl, hbb⟩
  | ok b =>
    rw [hR] at cA cB
    clear hR cS0
    go_enter Tryd.func8, Tryd.ntmps8
    go_wp2_with fail
    refine cA.mono ?_
    rintro e w1 ⟨v1, rfl, hr1, hb1⟩
    have c := cB w1 (hS.keep hb1)
    clear cA cB
    go_wp2_with fail
    refine c.mono ?_
    rintro e w2 ⟨v2, rfl, hr2, hb2⟩
    have hbb := below_step hb1 hb1.size hb2
    clear c
    obtain ⟨a1, k1, rfl, _, _, _, hy1⟩ := (hr1.keep hb2).row
    obtain ⟨a2, k2, rfl, _, _, _, hy2⟩ := hr2.row
    have c := cS b a1 a2 k1 k2 w2 hy1 hy2
    clear cS hy1 hy2 hr1 hr2
    generalize b.length = bl at *
    go_wp2_with fail
    refine c.mono ?_
    rintro e w3 ⟨rfl, rfl⟩
    clear c
    go_wp2_with fail
    go_ret
    exact ⟨rfl, hbb⟩
end Go.Proofs.YtmldhnghfdhjmaaDoor
