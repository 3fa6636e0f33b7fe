/-
  THE WALK of the law 'chirographlaw.RollExtendChecks'.
  CONDITIONS: package sum's roundWords hold what their initialiser lays ('KW').
-/
import Derived.Test.YtdpfjhhcgaeiiaaDoorRollO
namespace Go.Proofs.YtdpfjhhcgaeiiaaDoor
open Go.RowKit CodeMath Go.Proofs.YtdpfjhhcgaeiiaaDoor.FrameMath
set_option linter.unusedVariables false
set_option maxRecDepth 100000

set_option maxHeartbeats 2000000 in
theorem rollExtendChecks_walk (m : Int) (o : List UInt8) (ao : Option Addr) (co : Nat) (k : Int) (t : List UInt8) (at_ : Option Addr) (ct : Nat) (n : Int) (p : List (List UInt8)) (ap : Option Addr) (cp : Nat) (w : World) (hT : KW w) (m0 : -9223372036854775808 ≤ m) (m1 : m ≤ 9223372036854775807) (hco : o.length ≤ co) (hqo : co ≤ 9223372036854775807) (hro : o.length ≤ 140737488351232) (hno : ao = none → co = 0) (ho : Bytes w ao o) (k0 : -9223372036854775808 ≤ k) (k1 : k ≤ 9223372036854775807) (hct : t.length ≤ ct) (hqt : ct ≤ 9223372036854775807) (ht : Bytes w at_ t) (n0 : -9223372036854775808 ≤ n) (n1 : n ≤ 9223372036854775807) (hcp : p.length ≤ cp) (hqp : cp ≤ 9223372036854775807) (hrp : p.length ≤ 140737488351232 ∧ ∀ l ∈ p, l.length ≤ 140737488351232) (hl : Lines w ap p) (hpn : p.length ≤ 5864062014634) :
    Calls Tryd.prog 11 #[.int .i64 m, .slice ao o.length co, .int .i64 k, .slice at_ t.length ct, .int .i64 n, .slice ap p.length cp] w fun e w' => e = .returned (.bool true) ∧ Below w.heap.size w w' := by
  have hrv : RowV w (.slice ao o.length co) o := ⟨ao, co, rfl, hco, hqo, hno, ho⟩
  have cA := fun W (hW : Below w.heap.size w W) => CheckExtend_any m o ao co k t at_ ct n p ap cp W m0 m1 k0 k1 n0 n1 (hrv.keep hW) hro (ht.keep hW) hcp hqp hrp.2 (hl.keep hW) (hT.keep hW (Nat.le_refl _))
  have cB := fun W (hW : Below w.heap.size w W) => ExtendFault_any m o ao co k t at_ ct n p ap cp W m0 m1 k0 k1 n0 n1 (hrv.keep hW) hro (ht.keep hW) hcp hqp hpn hrp.2 (hl.keep hW)
  have hBB := Below.refl w.heap.size w
  generalize extFaultR m o k t n p = R at *
  clear hrv hco hqo hro hno hct hqt hcp hqp hrp hl ho ht hT hpn
  generalize p.length = lp at *
  generalize t.length = lt at *
  generalize o.length = lo at *
  go_enter Tryd.func11, Tryd.ntmps11
  go_wp2_with fail
  refine (cA _ hBB).mono ?_
  rintro e w1 ⟨rfl, hb1⟩
  have c := cB w1 hb1
  clear cA cB
  go_wp2_with fail
  refine c.mono ?_
  rintro e w2 ⟨rfl, hb2⟩
  have hbb2 := below_step hb1 hb1.size hb2
  clear c
  go_wp2_with fail
  go_ret
  exact ⟨by first | rfl | simp, hbb2⟩
end Go.Proofs.YtdpfjhhcgaeiiaaDoor
