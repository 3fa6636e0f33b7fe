/-
  CONTRACT of package tree's List.
  CONDITIONS: each theorem's own hypotheses.
-/
import Derived.Test.YtopgakdgifmecaaTEachM
import Derived.Test.YtopgakdgifmecaaTListR
import Derived.Test.YtopgakdgifmecaaTRead
namespace Go.Proofs.Ytopgakdgifmecaa
open Go.RowKit
set_option linter.unusedVariables false
set_option maxRecDepth 100000

theorem three_new (w : World) (a b c : Array Value) (A B C : TypeId) : Blk (((w.alloc (.cells a A)).alloc (.cells b B)).alloc (.cells c C)) w.heap.size A a.toList ∧ Blk (((w.alloc (.cells a A)).alloc (.cells b B)).alloc (.cells c C)) (w.heap.size + 1) B b.toList ∧ Blk (((w.alloc (.cells a A)).alloc (.cells b B)).alloc (.cells c C)) (w.heap.size + 1 + 1) C c.toList ∧ Below w.heap.size w (((w.alloc (.cells a A)).alloc (.cells b B)).alloc (.cells c C)) := by
  obtain ⟨h1, h2, h3⟩ := two_new w a b A B
  exact ⟨h1.alloc _, h2.alloc _, Blk.atNew c C (by simp), h3.alloc (by simp; omega) _⟩
set_option maxHeartbeats 8000000 in
theorem list_any (ns : List Nq) (ao : Option Addr) (cap : Nat) (A B : List UInt8) (w : World) (hl : ns.length ≤ 9223372036854775806) (hF : FewKeys ns) (hS : Nodes w ao ns) :
    Calls Try.prog 22 #[.agg #[.slice ao ns.length cap], .string (str A), .string (str B)] w fun e w' => ∃ v, e = .returned (.tuple #[v, .int .i64 (readC ns)]) ∧ LstR ns A B w w' v := by
  have cR := fun W (hW : Below w.heap.size w W) => read_any ns ao cap W hl hF (hS.keep hW)
  obtain ⟨z0, z1, z2, hb0⟩ := three_new w #[.slice ao ns.length cap] #[.string (str A)] #[.string (str B)] 24 9 9
  generalize hw0 : ((w.alloc (.cells #[.slice ao ns.length cap] 24)).alloc (.cells #[.string (str A)] 9)).alloc (.cells #[.string (str B)] 9) = w0 at z0 z1 z2 hb0
  have HW0 := Lib.hid hw0
  have p0 := z0.cell (j := 0) rfl
  have c0 := cR w0 hb0
  have HB0 := Lib.hid hb0
  have HZ1 := Lib.hid z1
  have HZ2 := Lib.hid z2
  have HCE : Hid (∀ W, Below w0.heap.size w0 W → ∀ p F, NdT W (rootQ ns) p F → readC ns = 0 → Calls Try.prog 36 #[.pointer (some ⟨p, 0, none⟩), .func (.func 37) #[] #[.pointer (some ⟨w.heap.size + 1, 0, none⟩), .pointer (some ⟨w.heap.size + 1 + 1, 0, none⟩), .pointer (some ⟨W.heap.size, 0, none⟩)]] (W.alloc (.cells #[.slice none 0 0] 27)) fun x w' => x = .returned (.tuple #[]) ∧ PrSt A B W w' W.heap.size (flatT (rootQ ns)) ∧ Mov W.heap.size (W.alloc (.cells #[.slice none 0 0] 27)) w') := Lib.hid (fun W hW p F hnd h => by
    obtain ⟨h1, h2, _, _⟩ := root_rise ns h
    have hl : ns.length ≤ 100 := by
      unfold smallQ at h1
      simp only [Bool.and_eq_true, decide_eq_true_eq] at h1
      exact h1.2.1
    have hg := root_good ns h2 hl
    have hf := flat_few ns h
    have hS0 : PrSt A B W (W.alloc (.cells #[.slice none 0 0] 27)) W.heap.size [] := ⟨(Below.refl _ _).alloc (Nat.le_refl _) _, by simp, .slice none 0 0, Blk.new W _ _, OwnPr.nil _ _⟩
    have := each_list W A B (w.heap.size + 1) (w.heap.size + 1 + 1) (z1.call hW) (z2.call hW) 101 (rootQ ns) p F hnd hg.1 (fun e he => by have := hf.2 e he; omega) hg.2.1 [] _ hS0 (by have := hf.1; simp; omega)
    rw [List.nil_append] at this
    exact this)
  obtain ⟨R, hR⟩ : ∃ R, readC ns = R := ⟨_, rfl⟩
  rw [hR] at c0 HCE ⊢
  have HR := Lib.hid hR
  obtain ⟨L, hL⟩ : ∃ L, ns.length = L := ⟨_, rfl⟩
  rw [hL] at p0 c0 HW0 ⊢
  have hbR : R = 0 ∨ R ≠ 0 := by omega
  clear cR hS hF hl hw0 z0 z1 z2 hb0 hR hL
  go_enter Try.func22, Try.ntmps22
  go_upto_region 1 with fail
  rw [HW0.out]
  clear HW0
  go_wp2_with fail
  refine c0.mono ?_
  rintro e w1 ⟨po, rfl, hr⟩
  have HRD := Lib.hid hr
  have HB1 := Lib.hid (below_stepE HB0.out HB0.out.size hr.low)
  clear c0 p0 hr
  rcases hbR with h0 | h0
  · obtain ⟨p, F, rfl, hnd, _, _, hlk, hle⟩ := HRD.out.root (by rw [HR.out]; exact h0)
    have ce := HCE.out w1 HRD.out.low p F hnd h0
    have HR0 : Hid (readC ns = 0) := Lib.hid (by rw [HR.out]; exact h0)
    subst h0
    have hb2 := (Below.refl w1.heap.size w1).alloc (Nat.le_refl _) (.cells #[.slice none 0 0] 27)
    generalize hw2 : w1.alloc (.cells #[.slice none 0 0] 27) = w2 at ce hb2
    have HW2 := Lib.hid hw2
    clear hnd hlk hle hw2 hb2
    go_upto_region 5 with fail
    rw [HW2.out]
    go_wp2_with fail
    refine ce.mono ?_
    rintro e w3 ⟨rfl, hS3, -⟩
    clear ce
    obtain ⟨v, r1, r2⟩ := hS3.row
    have q0 := r1.cell (j := 0) rfl
    have HO := Lib.hid (owns_base r2 (Nat.le_trans HB1.out.size (Nat.le_succ _)))
    have HB3 := Lib.hid (below_stepE HB1.out HB1.out.size hS3.low)
    obtain ⟨av, cv, ev, -⟩ := owns_shape r2
    subst ev
    obtain ⟨ll, hll⟩ : ∃ ll, (listR (flatT (rootQ ns)) A B).length = ll := ⟨_, rfl⟩
    rw [hll] at q0 HO
    have HLL := Lib.hid hll
    clear r1 r2 hS3 hll
    go_wp2_with fail
    go_ret2
    exact ⟨_, rfl, HB3.out, fun _ => by unfold OwnPr; rw [HLL.out]; exact HO.out, fun h => absurd HR0.out h⟩
  · have iR : (R != 0) = true := by simpa using h0
    have HN := Lib.hid h0
    clear h0
    go_wp2_with fail
    go_ret2
    exact ⟨_, rfl, HB1.out, fun h => absurd (HR.out.symm.trans h) HN.out, fun _ => rfl⟩
end Go.Proofs.Ytopgakdgifmecaa
