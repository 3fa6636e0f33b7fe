/-
  THE WALKS of the laws 'chirographlaw.TreeChecks' and 'chirographlaw.TreeFinds'.
  CONDITIONS: each theorem's own hypotheses.
-/
import Derived.Test.YtbkpjcadlfkceaaTListR
import Derived.Test.YtbkpjcadlfkceaaTFindQ
namespace Go.Proofs.Ytbkpjcadlfkceaa
open Go.RowKit
set_option linter.unusedVariables false
set_option maxRecDepth 100000

set_option maxHeartbeats 4000000 in
theorem treeChecks_walk (ns : List Nq) (ao : Option Addr) (cap : Nat) (w : World) (hr : ns.length ≤ 9223372036854775806 ∧ FewKeys ns) (hS : Nodes w ao ns) :
    Calls Try.prog 3 #[.agg #[.slice ao ns.length cap]] w fun e w' => e = .returned (.bool true) ∧ Below w.heap.size w w' := by
  have cA := fun W (hW : Below w.heap.size w W) => check_any ns ao cap W hr.1 hr.2 (hS.keep hW)
  have cB := fun W (hW : Below w.heap.size w W) => pairs_any ns ao cap W hr.1 hr.2 (hS.keep hW)
  generalize readC ns = R at *
  generalize ns.length = L at *
  have z0 := Blk.new w #[.slice ao L cap] 24
  have hb0 := (Below.refl w.heap.size w).alloc (Nat.le_refl _) (.cells #[.slice ao L cap] 24)
  generalize hw0 : w.alloc (.cells #[.slice ao L cap] 24) = w0 at z0 hb0
  have HW0 := Lib.hid hw0
  have p0 := z0.cell (j := 0) rfl
  have c0 := cA w0 hb0
  have HB0 := Lib.hid hb0
  have HCB := Lib.hid cB
  have HZ0 := Lib.hid z0
  clear cA cB hw0 z0 hb0 hS hr
  go_enter Try.func3, Try.ntmps3
  go_upto_region 1 with fail
  rw [HW0.out]
  clear HW0
  go_wp2_with fail
  refine c0.mono ?_
  rintro e w1 ⟨rfl, hb1⟩
  have p1 := (HZ0.out.call hb1).cell (j := 0) rfl
  have HB1 := Lib.hid (below_stepE HB0.out HB0.out.size hb1)
  have c1 := HCB.out w1 HB1.out
  clear c0 p0 hb1
  go_wp2_with fail
  refine c1.mono ?_
  rintro e w2 ⟨v, rfl, hp⟩
  have HB2 := Lib.hid (below_stepE HB1.out HB1.out.size hp.low)
  clear c1 p1 hp
  go_wp2_with fail
  go_ret
  exact ⟨by simp, HB2.out⟩
set_option maxHeartbeats 4000000 in
theorem treeFinds_walk (ns : List Nq) (ao : Option Addr) (cap : Nat) (key : ByteArray) (w : World) (hr : ns.length ≤ 9223372036854775806 ∧ FewKeys ns) (hS : Nodes w ao ns) (hk : key.size ≤ 9223372036854775807) :
    Calls Try.prog 4 #[.agg #[.slice ao ns.length cap], .string key] w fun e w' => e = .returned (.bool true) ∧ Below w.heap.size w w' := by
  obtain ⟨s, rfl⟩ : ∃ s, key = str s := ⟨_, str_eq key⟩
  rw [str_size] at hk
  have cA := fun W (hW : Below w.heap.size w W) => treeFind_any ns ao cap s W hr.1 hr.2 (hS.keep hW) (root_ord ns)
  have cB := fun W (hW : Below w.heap.size w W) => found_any ns ao cap s W hr.1 hr.2 (hS.keep hW) hk
  have hroot := fun (v : Int) (ok : Bool) (h : readC ns = 0) (hf : FindR s (rootQ ns) v ok) => find_root ns s v ok h (by
    obtain ⟨h1, -⟩ := root_rise ns h
    unfold smallQ at h1
    simp only [Bool.and_eq_true, decide_eq_true_eq] at h1
    exact h1.2.1) hf
  have hsame : ∀ v c v2 c2 : Int, ((readC ns ≠ 0 → v = 0 ∧ c = readC ns) ∧ (readC ns = 0 → ∃ u ok, FindR s (rootQ ns) u ok ∧ v = (if ok = true then u else 0) ∧ c = (if ok = true then 0 else 5))) → ((readC ns ≠ 0 → v2 = 0 ∧ c2 = readC ns) ∧ (readC ns = 0 → v2 = foundV (listR (flatT (rootQ ns)) s s) ∧ c2 = foundC (listR (flatT (rootQ ns)) s s))) → v = v2 ∧ c = c2 := by
    rintro v c v2 c2 ⟨h1, h2⟩ ⟨h3, h4⟩
    by_cases h : readC ns = 0
    · obtain ⟨u, ok, hf, rfl, rfl⟩ := h2 h
      obtain ⟨rfl, rfl⟩ := h4 h
      obtain ⟨g1, g2⟩ := hroot u ok h hf
      cases ok with
      | true => rw [g1 rfl]; exact ⟨rfl, rfl⟩
      | false => rw [(g2 rfl).2]; exact ⟨rfl, rfl⟩
    · obtain ⟨rfl, rfl⟩ := h1 h
      obtain ⟨rfl, rfl⟩ := h3 h
      exact ⟨rfl, rfl⟩
  have HSAME := Lib.hid hsame
  generalize ns.length = L at *
  generalize str s = S at *
  have z0 := Blk.new w #[.slice ao L cap] 24
  have hb0 := (Below.refl w.heap.size w).alloc (Nat.le_refl _) (.cells #[.slice ao L cap] 24)
  generalize hw0 : w.alloc (.cells #[.slice ao L cap] 24) = w0 at z0 hb0
  have HW0 := Lib.hid hw0
  have p0 := z0.cell (j := 0) rfl
  have c0 := cA w0 hb0
  have HB0 := Lib.hid hb0
  have HCB := Lib.hid cB
  have HZ0 := Lib.hid z0
  clear cA cB hw0 z0 hb0 hS hr hroot hsame hk
  go_enter Try.func4, Try.ntmps4
  go_upto_region 1 with fail
  rw [HW0.out]
  clear HW0
  go_wp2_with fail
  refine c0.mono ?_
  rintro e w1 ⟨v, c, rfl, h1, h2, hb1⟩
  have H1 := Lib.hid (And.intro h1 h2)
  have p1 := (HZ0.out.call hb1).cell (j := 0) rfl
  have HB1 := Lib.hid (below_stepE HB0.out HB0.out.size hb1)
  have c1 := HCB.out w1 HB1.out
  clear c0 p0 hb1 h1 h2
  go_wp2_with fail
  refine c1.mono ?_
  rintro e w2 ⟨v2, c2, rfl, h3, h4, hb2⟩
  obtain ⟨rfl, rfl⟩ := HSAME.out v c v2 c2 H1.out ⟨h3, h4⟩
  have HB2 := Lib.hid (below_stepE HB1.out HB1.out.size hb2)
  clear c1 p1 hb2 h3 h4 H1
  have e1 : (c == c) = true := by simp
  have e2 : (v == v) = true := by simp
  go_wp2_with fail
  go_ret
  exact ⟨by simp, HB2.out⟩
end Go.Proofs.Ytbkpjcadlfkceaa
