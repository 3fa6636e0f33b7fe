/-
  THE WALK of the law 'chirographlaw.RollIncludeChecks'.
  CONDITIONS: package sum's roundWords hold what their initialiser lays ('KW').
-/
import Derived.Test.YtdpfjhhcgaeiiaaDoorRollG
namespace Go.Proofs.YtdpfjhhcgaeiiaaDoor
open Go.RowKit CodeMath Go.Proofs.YtdpfjhhcgaeiiaaDoor.FrameMath
set_option linter.unusedVariables false
set_option maxRecDepth 100000

set_option maxHeartbeats 2000000 in
theorem rollIncludeChecks_walk (m : Int) (t : List UInt8) (at_ : Option Addr) (ct : Nat) (n i : Int) (x : List UInt8) (ax : Option Addr) (cx : Nat) (p : List (List UInt8)) (ap : Option Addr) (cp : Nat) (w : World) (hT : KW w) (m0 : -9223372036854775808 ≤ m) (m1 : m ≤ 9223372036854775807) (hct : t.length ≤ ct) (hqt : ct ≤ 9223372036854775807) (ht : Bytes w at_ t) (n0 : -9223372036854775808 ≤ n) (n1 : n ≤ 9223372036854775807) (i0 : -9223372036854775808 ≤ i) (i1 : i ≤ 9223372036854775807) (hcx : x.length ≤ cx) (hqx : cx ≤ 9223372036854775807) (hrx : x.length ≤ 140737488351232) (hnx : ax = none → cx = 0) (hx : Bytes w ax x) (hcp : p.length ≤ cp) (hqp : cp ≤ 9223372036854775807) (hrp : p.length ≤ 140737488351232 ∧ ∀ l ∈ p, l.length ≤ 140737488351232) (hl : Lines w ap p) :
    Calls Tryd.prog 9 #[.int .i64 m, .slice at_ t.length ct, .int .i64 n, .int .i64 i, .slice ax x.length cx, .slice ap p.length cp] w fun e w' => e = .returned (.bool true) ∧ Below w.heap.size w w' := by
  have hrv : RowV w (.slice ax x.length cx) x := ⟨ax, cx, rfl, hcx, hqx, hnx, hx⟩
  have cA := fun W (hW : Below w.heap.size w W) => CheckInclude_any m t at_ ct n i x ax cx p ap cp W m0 m1 n0 n1 i0 i1 (ht.keep hW) (hrv.keep hW) hrx hcp hqp hrp.2 (hl.keep hW) (hT.keep hW (Nat.le_refl _))
  have cB := fun W (hW : Below w.heap.size w W) => IncludeFault_any m t at_ ct n i x ax cx p ap cp W m0 m1 n0 n1 i0 i1 (ht.keep hW) (hrv.keep hW) hrx hcp hqp hrp.2 (hl.keep hW)
  have hBB := Below.refl w.heap.size w
  generalize incFaultR m t n i x p = R at *
  clear hrv hct hqt hcx hqx hrx hnx hcp hqp hrp hl hx ht hT
  generalize p.length = lp at *
  generalize t.length = lt at *
  generalize x.length = lx at *
  go_enter Tryd.func9, Tryd.ntmps9
  go_wp2_with fail
  refine (cA _ hBB).mono ?_
  rintro e w1 ⟨rfl, hb1⟩
  have c := cB w1 hb1
  clear cA cB
  go_wp2_with fail
  refine c.mono ?_
  rintro e w2 ⟨rfl, hb2⟩
  have hbb2 := below_step hb1 hb1.size hb2
  clear c
  go_wp2_with fail
  go_ret
  exact ⟨by first | rfl | simp, hbb2⟩
end Go.Proofs.YtdpfjhhcgaeiiaaDoor
