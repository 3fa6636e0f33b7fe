/-
  THE WALK of the law 'chirographlaw.TreeLists'.
  CONDITIONS: each theorem's own hypotheses.
-/
import Derived.Test.YtopgakdgifmecaaTList
namespace Go.Proofs.Ytopgakdgifmecaa
open Go.RowKit
set_option linter.unusedVariables false
set_option maxRecDepth 100000

set_option maxHeartbeats 4000000 in
/-- Rows of the same pairs are the same. -/
theorem samePairs_any (m : List En) (a1 a2 : Option Addr) (c1 c2 B1 B2 : Nat) (w : World) (hl : m.length ≤ 1000) (h1 : OwnPr w B1 (.slice a1 m.length c1) m) (h2 : OwnPr w B2 (.slice a2 m.length c2) m) :
    Calls Try.prog 19 #[.slice a1 m.length c1, .slice a2 m.length c2] w fun e w' => e = .returned (.bool true) ∧ ∃ q, w' = w.drewN q := by
  have hc : ∀ j, j < m.length → ∃ key x b b', m[j]? = some (key, x) ∧ a1 = some ⟨b, 0, none⟩ ∧ a2 = some ⟨b', 0, none⟩ ∧ w.cell? ⟨b, j * 2, none⟩ = some (.string (str key)) ∧ w.cell? ⟨b, j * 2 + 1, none⟩ = some (.int .i64 x) ∧ w.cell? ⟨b', j * 2, none⟩ = some (.string (str key)) ∧ w.cell? ⟨b', j * 2 + 1, none⟩ = some (.int .i64 x) := fun j hj => by
    have hx : m[j]? = some m[j] := List.getElem?_eq_getElem hj
    obtain ⟨b, g1, -, -, g2, g3⟩ := h1.cell hx
    obtain ⟨b', k1, -, -, k2, k3⟩ := h2.cell hx
    exact ⟨_, _, b, b', hx, g1, k1, g2, g3, k2, k3⟩
  obtain ⟨M, hM⟩ : ∃ M, m.length = M := ⟨_, rfl⟩
  rw [hM] at hc hl ⊢
  have HC := Lib.hid hc
  clear hc h1 h2 hM
  go_enter Try.func19, Try.ntmps19
  have e0 : ((M : Int) != (M : Int)) = false := by simp
  go_wp2_with fail
  go_loopw [5, 13] (fun _ ix wr => ∃ (j : Nat), j ≤ M ∧ ix = .int .i64 j ∧ ∃ nd, wr = w.drewN nd) (fun _ ix _ => M - (intOf ix).toNat)
  case atStart => exact ⟨0, Nat.zero_le _, rfl, 0, rfl⟩
  case round =>
    obtain ⟨j, hj, rfl, nd, rfl⟩ := hrel
    by_cases hlt : j < M
    · have iI : (j : Int) < (M : Int) := by omega
      obtain ⟨key, x, b, b', hmj, rfl, rfl, x0, x1, y0, y1⟩ := HC.out j hlt
      generalize str key = S at *
      clear hmj
      go_wp2_with fail
      go_upto_region 6 with fail
      go_quiet (fail)
      go_wp2_with fail
      go_roundw
      case rel => exact ⟨j + 1, by omega, by go_num, _, (by first | rfl | (simp only [World.drewN_drewN]; rfl))⟩
      case measure => simp [intOf]; omega
    · have iI : ¬ (j : Int) < (M : Int) := by omega
      go_wp2_with fail
      go_ret
      exact ⟨rfl, nd, rfl⟩
set_option maxHeartbeats 4000000 in
theorem treeLists_walk (ns : List Nq) (ao : Option Addr) (cap : Nat) (f t : ByteArray) (w : World) (hr : ns.length ≤ 9223372036854775806 ∧ FewKeys ns) (hS : Nodes w ao ns) (hf : f.size ≤ 9223372036854775807) (ht : t.size ≤ 9223372036854775807) :
    Calls Try.prog 7 #[.agg #[.slice ao ns.length cap], .string f, .string t] w fun e w' => e = .returned (.bool true) ∧ Below w.heap.size w w' := by
  obtain ⟨A, rfl⟩ : ∃ s, f = str s := ⟨_, str_eq f⟩
  obtain ⟨B, rfl⟩ : ∃ s, t = str s := ⟨_, str_eq t⟩
  rw [str_size] at hf ht
  have cA := fun W (hW : Below w.heap.size w W) => list_any ns ao cap A B W hr.1 hr.2 (hS.keep hW)
  have cB := fun W (hW : Below w.heap.size w W) => listed_any ns ao cap A B W hr.1 hr.2 (hS.keep hW) hf ht
  have hfew : readC ns = 0 → (listR (flatT (rootQ ns)) A B).length ≤ 1000 := fun h => by
    have := (flat_few ns h).1
    have h2 := List.length_filter_le (fun e : En => !lessS e.1 A && !lessS B e.1) (flatT (rootQ ns))
    unfold listR
    omega
  obtain ⟨m, hm⟩ : ∃ m, listR (flatT (rootQ ns)) A B = m := ⟨_, rfl⟩
  rw [hm] at hfew
  have HM := Lib.hid hm
  have HFEW := Lib.hid hfew
  obtain ⟨R, hR⟩ : ∃ R, readC ns = R := ⟨_, rfl⟩
  rw [hR] at cA cB HFEW
  have HR := Lib.hid hR
  generalize ns.length = L at *
  have z0 := Blk.new w #[.slice ao L cap] 24
  have hb0 := (Below.refl w.heap.size w).alloc (Nat.le_refl _) (.cells #[.slice ao L cap] 24)
  generalize hw0 : w.alloc (.cells #[.slice ao L cap] 24) = w0 at z0 hb0
  have HW0 := Lib.hid hw0
  have p0 := z0.cell (j := 0) rfl
  have c0 := cA w0 hb0
  have HB0 := Lib.hid hb0
  have HCB := Lib.hid cB
  have HZ0 := Lib.hid z0
  have hbR : R = 0 ∨ R ≠ 0 := by omega
  clear cA cB hw0 z0 hb0 hS hr hfew hm hR hf ht
  go_enter Try.func7, Try.ntmps7
  go_upto_region 1 with fail
  rw [HW0.out]
  clear HW0
  go_wp2_with fail
  refine c0.mono ?_
  rintro e w1 ⟨v1, rfl, hp1⟩
  have HP1 := Lib.hid hp1
  have p1 := (HZ0.out.call hp1.low).cell (j := 0) rfl
  have HB1 := Lib.hid (below_stepE HB0.out HB0.out.size hp1.low)
  have c1 := HCB.out w1 HB1.out
  clear c0 p0 hp1
  go_wp2_with fail
  refine c1.mono ?_
  rintro e w2 ⟨v2, rfl, hp2⟩
  have HP2 := Lib.hid hp2
  have HB2 := Lib.hid (below_stepE HB1.out HB1.out.size hp2.low)
  have e1 : (R == R) = true := by simp
  clear c1 p1 hp2
  rcases hbR with h0 | h0
  · have r1 := (HP1.out.row (by rw [HR.out]; exact h0)).keep HP2.out.low
    have r2 := HP2.out.row (by rw [HR.out]; exact h0)
    rw [HM.out] at r1 r2
    obtain ⟨a1, k1, ev1, -⟩ := owns_shape r1
    obtain ⟨a2, k2, ev2, -⟩ := owns_shape r2
    subst ev1 ev2
    have cS := samePairs_any m a1 a2 k1 k2 _ _ w2 (HFEW.out h0) r1 r2
    generalize m.length = M at *
    clear r1 r2 h0
    go_wp2_with fail
    refine cS.mono ?_
    rintro e w3 ⟨rfl, q, rfl⟩
    have HB3 := Lib.hid (below_dqT HB2.out q)
    clear cS
    go_wp2_with fail
    go_ret
    exact ⟨rfl, HB3.out⟩
  · have r1 := HP1.out.bad (by rw [HR.out]; exact h0)
    have r2 := HP2.out.bad (by rw [HR.out]; exact h0)
    subst r1 r2
    have cS := samePairs_any [] none none 0 0 0 0 w2 (by simp) (OwnPr.nil _ _) (OwnPr.nil _ _)
    have cS2 : Calls Try.prog 19 #[.slice none 0 0, .slice none 0 0] w2 fun e w' => e = .returned (.bool true) ∧ ∃ q, w' = w2.drewN q := cS
    clear cS h0
    go_wp2_with fail
    refine cS2.mono ?_
    rintro e w3 ⟨rfl, q, rfl⟩
    have HB3 := Lib.hid (below_dqT HB2.out q)
    clear cS2
    go_wp2_with fail
    go_ret
    exact ⟨rfl, HB3.out⟩
end Go.Proofs.Ytopgakdgifmecaa
