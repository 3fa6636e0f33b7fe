/-
  CONTRACT of package tree's Find, where the entries of each node stand in order.
  CONDITIONS: each theorem's own hypotheses.
-/
import Derived.Test.YtopgakdgifmecaaTFind
import Derived.Test.YtopgakdgifmecaaTRead
namespace Go.Proofs.Ytopgakdgifmecaa
open Go.RowKit
set_option linter.unusedVariables false
set_option maxRecDepth 100000

set_option maxHeartbeats 8000000 in
theorem treeFind_any (ns : List Nq) (ao : Option Addr) (cap : Nat) (s : List UInt8) (w : World) (hl : ns.length ≤ 9223372036854775806) (hF : FewKeys ns) (hS : Nodes w ao ns) (hord : readC ns = 0 → ordT (rootQ ns)) :
    Calls Try.prog 15 #[.agg #[.slice ao ns.length cap], .string (str s)] w fun e w' => ∃ (v c : Int), e = .returned (.tuple #[.int .i64 v, .int .i64 c]) ∧ (readC ns ≠ 0 → v = 0 ∧ c = readC ns) ∧ (readC ns = 0 → ∃ u ok, FindR s (rootQ ns) u ok ∧ v = (if ok = true then u else 0) ∧ c = (if ok = true then 0 else 5)) ∧ Below w.heap.size w w' := by
  have cR := fun W (hW : Below w.heap.size w W) => read_any ns ao cap W hl hF (hS.keep hW)
  have z0 := Blk.new w #[.slice ao ns.length cap] 24
  have hb0 := (Below.refl w.heap.size w).alloc (Nat.le_refl _) (.cells #[.slice ao ns.length cap] 24)
  generalize hw0 : w.alloc (.cells #[.slice ao ns.length cap] 24) = w0 at z0 hb0
  have HW0 := Lib.hid hw0
  have p0 := z0.cell (j := 0) rfl
  have c0 := cR w0 hb0
  have HB0 := Lib.hid hb0
  have HORD := Lib.hid hord
  have HCF : Hid (∀ W p F, NdT W (rootQ ns) p F → linkR ns.length 0 ns (List.replicate ns.length false) = true → ns.length ≤ 100 → readC ns = 0 → Calls Try.prog 31 #[.pointer (some ⟨p, 0, none⟩), .string (str s)] W fun e w' => ∃ (v : Int) (ok : Bool), e = .returned (.tuple #[.int .i64 v, .bool ok]) ∧ FindR s (rootQ ns) v ok ∧ Below W.heap.size W w') := Lib.hid (fun W p F h1 h2 h3 h4 => find_any s 101 _ p F W h1 (hord h4) (root_good ns h2 h3).1 (root_good ns h2 h3).2.1)
  obtain ⟨R, hR⟩ : ∃ R, readC ns = R := ⟨_, rfl⟩
  rw [hR] at c0 ⊢
  have HR := Lib.hid hR
  generalize str s = S at *
  obtain ⟨L, hL⟩ : ∃ L, ns.length = L := ⟨_, rfl⟩
  rw [hL] at p0 c0 ⊢
  have hbR : R = 0 ∨ R ≠ 0 := by omega
  clear cR hS hF hl hw0 z0 hb0 hord hR
  rw [hL] at HW0
  clear hL
  go_enter Try.func15, Try.ntmps15
  go_upto_region 1 with fail
  rw [HW0.out]
  clear HW0
  go_wp2_with fail
  refine c0.mono ?_
  rintro e w1 ⟨po, rfl, hr⟩
  have HRD := Lib.hid hr
  have HB1 := Lib.hid (below_stepE HB0.out HB0.out.size hr.low)
  clear c0 p0 hr HB0
  rcases hbR with h0 | h0
  · obtain ⟨p, F, rfl, hnd, _, _, hlk, hle⟩ := HRD.out.root (by rw [HR.out]; exact h0)
    have cf := HCF.out w1 p F hnd hlk hle (by rw [HR.out]; exact h0)
    subst h0
    clear hnd hlk hle
    go_wp2_with fail
    refine cf.mono ?_
    rintro e w2 ⟨u, ok, rfl, hfr, hb2⟩
    have HFR := Lib.hid hfr
    have HB2 := Lib.hid (below_stepE HB1.out HB1.out.size hb2)
    clear cf hfr hb2
    cases ok
    · go_wp2_with fail
      go_ret2
      exact ⟨0, 5, rfl, ⟨u, .inl ⟨HFR.out, rfl, rfl⟩⟩, HB2.out⟩
    · go_wp2_with fail
      go_ret2
      exact ⟨u, 0, rfl, ⟨u, .inr ⟨HFR.out, rfl, rfl⟩⟩, HB2.out⟩
  · have iR : (R != 0) = true := by simpa using h0
    have HN := Lib.hid h0
    clear h0
    go_wp2_with fail
    go_ret2
    exact ⟨0, R, rfl, fun _ => ⟨rfl, rfl⟩, fun h => absurd h HN.out, HB1.out⟩
end Go.Proofs.Ytopgakdgifmecaa
