/-
  THE WALK of the law 'chirographlaw.SlotsLeaves'.
  CONDITIONS: package sum's roundWords hold what their initialiser lays ('KW').
-/
import Derived.Test.YtmldhnghfdhjmaaDoorLeafOf
import Derived.Test.YtmldhnghfdhjmaaDoorOpenS
import Derived.Test.YtmldhnghfdhjmaaDoorSame
namespace Go.Proofs.YtmldhnghfdhjmaaDoor
open Go.RowKit CodeMath Go.Proofs.YtmldhnghfdhjmaaDoor.FrameMath
set_option linter.unusedVariables false

set_option maxRecDepth 100000 in
set_option maxHeartbeats 2000000 in
theorem slotsLeaves_walk (m : Int) (f : Bool) (s d : List UInt8) (us ud : Value) (w : World) (hT : KW w) (m0 : -9223372036854775808 ≤ m) (m1 : m ≤ 9223372036854775807) (hr : s.length ≤ 140737488351232 ∧ d.length ≤ 140737488351232) (hs : RowV w us s) (hd : RowV w ud d) :
    Calls Tryd.prog 7 #[.int .i64 m, .agg #[.bool f, us, ud]] w fun e w' => e = .returned (.bool true) ∧ Below w.heap.size w w' := by
  have cA := fun W h1 h2 h3 => Leaf_any m f s d us ud W m0 m1 h1 h2 h3
  have cB := fun W h1 h2 => LeafOf_any m f s d us ud W m0 m1 h1 h2
  have cS := fun l ao ao' cap cap' W => lawSameBytes_any l ao ao' cap cap' W
  have cS0 := fun W => lawSameBytes_any [] none none 0 0 W (.inl rfl) (.inl rfl)
  have hba : ∀ o, Below w.heap.size w (w.alloc o) := fun o => (Below.refl _ _).alloc (Nat.le_refl _) o
  have hbx : ∀ W, Below w.heap.size w W → RowV W us s ∧ RowV W ud d ∧ KW W := fun W hW => ⟨hs.keep hW, hd.keep hW, hT.keep hW (Nat.le_refl _)⟩
  obtain ⟨a1, n1, k1, rfl⟩ : ∃ a n k, us = .slice a n k := by obtain ⟨a, k, e, _⟩ := hs; exact ⟨_, _, _, e⟩
  obtain ⟨ad, nd, kd, rfl⟩ : ∃ a n k, ud = .slice a n k := by obtain ⟨a, k, e, _⟩ := hd; exact ⟨_, _, _, e⟩
  have HBX := Lib.hid hbx
  clear hr hs hd hT hbx
  cases hR : leafR m f s d with
  | err q =>
    rw [hR] at cA cB
    clear hR cS
    go_enter Tryd.func7, Tryd.ntmps7
    go_wp2_with fail
    have hb0 := hba (.cells #[.bool f, .slice a1 n1 k1, .slice ad nd kd] 40)
    have z0 : (w.alloc (.cells #[.bool f, .slice a1 n1 k1, .slice ad nd kd] 40)).cell? ⟨w.heap.size, 0, none⟩ = some (.bool f) := by rw [World.cell?_alloc_new]; rfl
    have z1 : (w.alloc (.cells #[.bool f, .slice a1 n1 k1, .slice ad nd kd] 40)).cell? ⟨w.heap.size, 1, none⟩ = some (.slice a1 n1 k1) := by rw [World.cell?_alloc_new]; rfl
    have z2 : (w.alloc (.cells #[.bool f, .slice a1 n1 k1, .slice ad nd kd] 40)).cell? ⟨w.heap.size, 2, none⟩ = some (.slice ad nd kd) := by rw [World.cell?_alloc_new]; rfl
    have hlt : w.heap.size < (w.alloc (.cells #[.bool f, .slice a1 n1 k1, .slice ad nd kd] 40)).heap.size := by simp
    clear hba
    generalize w.alloc (.cells #[.bool f, .slice a1 n1 k1, .slice ad nd kd] 40) = W0 at *
    refine (cA _ (HBX.out _ hb0).1 (HBX.out _ hb0).2.1 (HBX.out _ hb0).2.2).mono ?_
    rintro e w1 ⟨rfl, hb1⟩
    have hb1' := below_step hb0 hb0.size hb1
    have c := cB w1 (HBX.out _ hb1').1 (HBX.out _ hb1').2.1
    have y0 := (hb1.cell (p := ⟨w.heap.size, 0, none⟩) hlt).trans z0
    have y1 := (hb1.cell (p := ⟨w.heap.size, 1, none⟩) hlt).trans z1
    have y2 := (hb1.cell (p := ⟨w.heap.size, 2, none⟩) hlt).trans z2
    clear cA cB z0 z1 z2 hlt
    go_wp2_with fail
    refine c.mono ?_
    rintro e w2 ⟨rfl, hb2⟩
    have hbb := below_step hb1' hb1'.size hb2
    clear c y0 y1 y2
    go_wp2_with fail
    refine (cS0 _).mono ?_
    rintro e w3 ⟨rfl, rfl⟩
    go_wp2_with fail
    go_ret
    exact ⟨rfl, hbb⟩
  | ok b =>
    rw [hR] at cA cB
    clear hR cS0
    go_enter Tryd.func7, Tryd.ntmps7
    go_wp2_with fail
    have hb0 := hba (.cells #[.bool f, .slice a1 n1 k1, .slice ad nd kd] 40)
    have z0 : (w.alloc (.cells #[.bool f, .slice a1 n1 k1, .slice ad nd kd] 40)).cell? ⟨w.heap.size, 0, none⟩ = some (.bool f) := by rw [World.cell?_alloc_new]; rfl
    have z1 : (w.alloc (.cells #[.bool f, .slice a1 n1 k1, .slice ad nd kd] 40)).cell? ⟨w.heap.size, 1, none⟩ = some (.slice a1 n1 k1) := by rw [World.cell?_alloc_new]; rfl
    have z2 : (w.alloc (.cells #[.bool f, .slice a1 n1 k1, .slice ad nd kd] 40)).cell? ⟨w.heap.size, 2, none⟩ = some (.slice ad nd kd) := by rw [World.cell?_alloc_new]; rfl
    have hlt : w.heap.size < (w.alloc (.cells #[.bool f, .slice a1 n1 k1, .slice ad nd kd] 40)).heap.size := by simp
    clear hba
    generalize w.alloc (.cells #[.bool f, .slice a1 n1 k1, .slice ad nd kd] 40) = W0 at *
    refine (cA _ (HBX.out _ hb0).1 (HBX.out _ hb0).2.1 (HBX.out _ hb0).2.2).mono ?_
    rintro e w1 ⟨v1, rfl, hr1, hb1⟩
    have hb1' := below_step hb0 hb0.size hb1
    have c := cB w1 (HBX.out _ hb1').1 (HBX.out _ hb1').2.1
    have y0 := (hb1.cell (p := ⟨w.heap.size, 0, none⟩) hlt).trans z0
    have y1 := (hb1.cell (p := ⟨w.heap.size, 1, none⟩) hlt).trans z1
    have y2 := (hb1.cell (p := ⟨w.heap.size, 2, none⟩) hlt).trans z2
    clear cA cB z0 z1 z2 hlt
    go_wp2_with fail
    refine c.mono ?_
    rintro e w2 ⟨v2, rfl, hr2, hb2⟩
    have hbb := below_step hb1' hb1'.size hb2
    clear c y0 y1 y2
    obtain ⟨b1, c1, rfl, _, _, _, hy1⟩ := (hr1.keep hb2).row
    obtain ⟨b2, c2, rfl, _, _, _, hy2⟩ := hr2.row
    have c := cS b b1 b2 c1 c2 w2 hy1 hy2
    clear cS hy1 hy2 hr1 hr2
    generalize b.length = bl at *
    go_wp2_with fail
    refine c.mono ?_
    rintro e w3 ⟨rfl, rfl⟩
    clear c
    go_wp2_with fail
    go_ret
    exact ⟨rfl, hbb⟩
end Go.Proofs.YtmldhnghfdhjmaaDoor
