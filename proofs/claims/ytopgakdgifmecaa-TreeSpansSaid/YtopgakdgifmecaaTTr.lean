/-
  A TREE VALUE WITH ITS PAIRS: what Put, Find, Check answer of it.
  CONDITIONS: each theorem's own hypotheses.
-/
import Derived.Test.YtopgakdgifmecaaGTPutX
import Derived.Test.YtopgakdgifmecaaLawTr3
namespace Go.Proofs.Ytopgakdgifmecaa
open Go.RowKit
set_option linter.unusedVariables false
set_option maxRecDepth 100000

/-- A tree that may be, whose pairs are these. -/
def TrV (W : World) (au : Option Addr) (nu cu : Nat) (l : List En) : Prop := ∃ ns : List Nq, nu = ns.length ∧ Nodes W au ns ∧ FewKeys ns ∧ ns.length ≤ 1000 ∧ readC ns = 0 ∧ flatT (rootQ ns) = l
theorem TrV.nil (W : World) : TrV W none 0 0 [] := ⟨[], rfl, .inl rfl, (fun n hn => by cases hn), by simp, by decide, rfl⟩
theorem TrV.keep {w w1 : World} {au : Option Addr} {nu cu : Nat} {l : List En} (h : TrV w au nu cu l) (hb : Below w.heap.size w w1) : TrV w1 au nu cu l := by
  obtain ⟨ns, h1, h2, h3⟩ := h
  exact ⟨ns, h1, h2.keep hb, h3⟩
theorem TrV.rise {w : World} {au : Option Addr} {nu cu : Nat} {l : List En} (h : TrV w au nu cu l) : RiseE l ∧ l.length ≤ 100 := by
  obtain ⟨ns, h1, h2, h3, h4, h5, h6⟩ := h
  obtain ⟨g1, g2, g3, g4⟩ := root_rise ns h5
  unfold smallQ at g1
  simp only [Bool.and_eq_true, decide_eq_true_eq] at g1
  have := flat_sum ns h5
  rw [h6] at g4 this
  exact ⟨g4, by omega⟩
theorem treePut_tr (au : Option Addr) (nu cu : Nat) (l : List En) (s : List UInt8) (v : Int) (w : World) (h : TrV w au nu cu l) (hs : s.length ≤ 60) (hv : I64 v) :
    Calls Try.prog 17 #[.agg #[.slice au nu cu], .string (str s), .int .i64 v] w fun e w' => ∃ a n c, e = .returned (.tuple #[.agg #[.slice a n c], .int .i64 (if 100 < (putR s v l).length then 9 else 0)]) ∧ (¬ 100 < (putR s v l).length → ∀ W' : World, (∀ b, w.heap.size ≤ b → b < w'.heap.size → W'.heap[b]? = w'.heap[b]?) → TrV W' a n c (putR s v l)) ∧ Below w.heap.size w w' := by
  obtain ⟨ns, rfl, h2, h3, h4, h5, rfl⟩ := h
  have hc : putC ns s v = if 100 < (putR s v (flatT (rootQ ns))).length then 9 else 0 := by
    unfold putC
    rw [if_neg (by rw [h5]; decide), if_neg (by omega)]
  obtain ⟨q1, q2, q3, q4, q5, d, q6, q7, q8, q9⟩ := put_plain ns s v h5
  refine (treePut_any ns au cu s v w (by omega) h3 h2 (by omega)).mono ?_
  rintro e w' ⟨u, rfl, hp⟩
  by_cases hk : 100 < (putR s v (flatT (rootQ ns))).length
  · rw [if_pos hk] at hc ⊢
    have eu := hp.bad (by rw [hc]; decide)
    subst eu
    exact ⟨_, _, _, by rw [hc], fun h => absurd hk h, hp.low⟩
  · rw [if_neg hk] at hc ⊢
    obtain ⟨F', hL, hF'⟩ := hp.good hc
    obtain ⟨rs, hrow, -, -⟩ := id hL
    obtain ⟨a, c, rfl, -⟩ := owns_shape hrow
    refine ⟨a, _, c, by rw [hc], fun _ W' hW' => ?_, hp.low⟩
    obtain ⟨n1, n2, n3, n4⟩ := lay_nodes (hL.same (w1 := W') (fun b hb => hW' b (hF' b hb) (hL.lt b hb))) q7 (fun e he => by
      rw [q8] at he
      rcases putR_mem s v _ e he with rfl | he
      · exact hv
      · obtain ⟨n, hn, hx⟩ := flat_vals ns e _ _ he
        exact nodes_vals h2 n hn _ hx) q9
    obtain ⟨l1, l2⟩ := lay_ok _ d q7 (by rw [q8]; exact putR_rise s v _ q2) (by rw [q8]; omega) (fun e he => by
      rw [q8] at he
      rcases q4 e he with h | h
      · exact h
      · rw [h]; exact hs)
    exact ⟨_, rfl, n2, n3, n4, l1, by rw [l2]; exact q8⟩
theorem treeFind_tr (au : Option Addr) (nu cu : Nat) (l : List En) (s : List UInt8) (v : Int) (w : World) (h : TrV w au nu cu l) (hm : (s, v) ∈ l) :
    Calls Try.prog 15 #[.agg #[.slice au nu cu], .string (str s)] w fun e w' => e = .returned (.tuple #[.int .i64 v, .int .i64 0]) ∧ Below w.heap.size w w' := by
  obtain ⟨ns, rfl, h2, h3, h4, h5, rfl⟩ := h
  refine (treeFind_any ns au cu s w (by omega) h3 h2 (fun h => root_ord ns h)).mono ?_
  rintro e w' ⟨u, c, rfl, -, hg, hb⟩
  obtain ⟨x, ok, hf, hu, hc⟩ := hg h5
  obtain ⟨g1, g2, g3, g4⟩ := root_rise ns h5
  unfold smallQ at g1
  simp only [Bool.and_eq_true, decide_eq_true_eq] at g1
  obtain ⟨f1, f2⟩ := find_flat s hf (root_good ns g2 g1.2.1).1 g4
  cases ok with
  | false => exact absurd rfl ((f2 rfl).2 _ hm)
  | true =>
    have h1 := f1 rfl
    have hone := rise_one _ s x g4 h1
    have hone2 := rise_one _ s v g4 hm
    rw [hone] at hone2
    have : x = v := by simpa using hone2
    subst this
    simp only [if_true] at hu hc
    subst hu hc
    exact ⟨rfl, hb⟩
theorem treeCheck_tr (au : Option Addr) (nu cu : Nat) (l : List En) (w : World) (h : TrV w au nu cu l) :
    Calls Try.prog 13 #[.agg #[.slice au nu cu]] w fun e w' => e = .returned (.int .i64 0) ∧ Below w.heap.size w w' := by
  obtain ⟨ns, rfl, h2, h3, h4, h5, rfl⟩ := h
  refine (check_any ns au cu w (by omega) h3 h2).mono ?_
  rintro e w' ⟨rfl, hb⟩
  exact ⟨by rw [h5], hb⟩
end Go.Proofs.Ytopgakdgifmecaa
