/-
  THE WALK of the law 'chirographlaw.SlotsPathChecks'.
  CONDITIONS: package sum's roundWords hold what their initialiser lays ('KW').
-/
import Derived.Test.YtdpfjhhcgaeiiaaDoorFaultP
import Derived.Test.YtdpfjhhcgaeiiaaDoorSlotE
namespace Go.Proofs.YtdpfjhhcgaeiiaaDoor
open Go.RowKit CodeMath Go.Proofs.YtdpfjhhcgaeiiaaDoor.FrameMath
set_option linter.unusedVariables false
set_option maxRecDepth 100000

theorem some_heightI (n : Int) : ∃ h, h ≤ 6 ∧ (isPow n = true → n = (2 ^ h : Nat)) := by
  cases hp : isPow n with
  | false => exact ⟨0, by decide, fun h => by cases h⟩
  | true =>
    have h1 := of_decide_eq_true hp
    rcases h1 with rfl | rfl | rfl | rfl | rfl | rfl | rfl
    · exact ⟨0, by decide, fun _ => rfl⟩
    · exact ⟨1, by decide, fun _ => rfl⟩
    · exact ⟨2, by decide, fun _ => rfl⟩
    · exact ⟨3, by decide, fun _ => rfl⟩
    · exact ⟨4, by decide, fun _ => rfl⟩
    · exact ⟨5, by decide, fun _ => rfl⟩
    · exact ⟨6, by decide, fun _ => rfl⟩
set_option maxHeartbeats 2000000 in
theorem slotsPathChecks_walk (m : Int) (root : List UInt8) (ar : Option Addr) (cr : Nat) (n i : Int) (f : Bool) (s d : List UInt8) (us ud : Value) (rows : List (List UInt8)) (ap : Option Addr) (cp : Nat) (w : World) (hT : KW w) (m0 : -9223372036854775808 ≤ m) (m1 : m ≤ 9223372036854775807) (hc : root.length ≤ cr) (hq : cr ≤ 9223372036854775807) (hx : Bytes w ar root) (n0 : -9223372036854775808 ≤ n) (n1 : n ≤ 9223372036854775807) (i0 : -9223372036854775808 ≤ i) (i1 : i ≤ 9223372036854775807) (hrs : s.length ≤ 140737488351232 ∧ d.length ≤ 140737488351232) (hs : RowV w us s) (hd : RowV w ud d) (hcp : rows.length ≤ cp) (hqp : cp ≤ 9223372036854775807) (hrp : rows.length ≤ 140737488351232 ∧ ∀ l ∈ rows, l.length ≤ 140737488351232) (hl : Lines w ap rows) :
    Calls Tryd.prog 4 #[.int .i64 m, .slice ar root.length cr, .int .i64 n, .int .i64 i, .agg #[.bool f, us, ud], .slice ap rows.length cp] w fun e w' => e = .returned (.bool true) ∧ Below w.heap.size w w' := by
  obtain ⟨h, h6, hh⟩ := some_heightI n
  have hba : ∀ o, Below w.heap.size w (w.alloc o) := fun o => (Below.refl _ _).alloc (Nat.le_refl _) o
  have cA := fun W (hW : Below w.heap.size w W) => CheckPath_any m root ar cr n i f s d us ud rows ap cp h h6 hh W m0 m1 n0 n1 i0 i1 (hx.keep hW) (hs.keep hW) (hd.keep hW) (by omega) hrp.2 (hl.keep hW) (hT.keep hW (Nat.le_refl _))
  have cB := fun W (hW : Below w.heap.size w W) => PathFault_any m root ar cr n i f s d us ud rows ap cp h h6 hh W m0 m1 n0 n1 i0 i1 (hx.keep hW) (hs.keep hW) (hd.keep hW) hcp hqp hrp.2 (hl.keep hW)
  obtain ⟨A1, k1, rfl, -⟩ := id hs
  obtain ⟨A2, k2, rfl, -⟩ := id hd
  generalize checkR m root n i f s d rows h = R at *
  clear hh hrs hrp hl hs hd hcp hqp hc hq hx hT
  generalize rows.length = ln at *
  generalize root.length = lr at *
  generalize s.length = ls at *
  generalize d.length = ld at *
  go_enter Tryd.func4, Tryd.ntmps4
  go_wp2_with fail
  refine (cA _ (hba _)).mono ?_
  rintro e w1 ⟨rfl, hb1⟩
  have hbb := below_step (hba (.cells #[.bool f, .slice A1 ls k1, .slice A2 ld k2] 31)) (hba _).size hb1
  have hgl : w.heap.size < (w.alloc (.cells #[.bool f, .slice A1 ls k1, .slice A2 ld k2] 31)).heap.size := by simp
  have hc0 : w1.cell? ⟨w.heap.size, 0, none⟩ = some (.bool f) := (hb1.cell (p := ⟨w.heap.size, 0, none⟩) hgl).trans (by rw [World.cell?_alloc_new]; rfl)
  have hc1 : w1.cell? ⟨w.heap.size, 1, none⟩ = some (.slice A1 ls k1) := (hb1.cell (p := ⟨w.heap.size, 1, none⟩) hgl).trans (by rw [World.cell?_alloc_new]; rfl)
  have hc2 : w1.cell? ⟨w.heap.size, 2, none⟩ = some (.slice A2 ld k2) := (hb1.cell (p := ⟨w.heap.size, 2, none⟩) hgl).trans (by rw [World.cell?_alloc_new]; rfl)
  have c := cB w1 hbb
  clear cA cB hba hb1 hgl
  go_wp2_with fail
  refine c.mono ?_
  rintro e w2 ⟨rfl, hb2⟩
  have hbb2 := below_step hbb hbb.size hb2
  clear c
  go_wp2_with fail
  go_ret
  exact ⟨by first | rfl | simp, hbb2⟩
end Go.Proofs.YtdpfjhhcgaeiiaaDoor
