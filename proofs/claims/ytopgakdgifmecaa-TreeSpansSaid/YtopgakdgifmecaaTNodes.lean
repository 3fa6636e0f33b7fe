/-
  A list of nodes that came in: where it lies; CONTRACTS of package tree's whole, keysOf, leaf.
  CONDITIONS: each theorem's own hypotheses.
-/
import Derived.Test.YtopgakdgifmecaaTBase
import Derived.Test.YtopgakdgifmecaaTreeP
namespace Go.Proofs.Ytopgakdgifmecaa
open Go.RowKit
set_option linter.unusedVariables false
set_option maxRecDepth 100000

/-- A slice of texts. -/
def Strs (W : World) (ao : Option Addr) (l : List (List UInt8)) : Prop := l = [] ∨ ∃ a o, ao = some ⟨a, o, none⟩ ∧ a < W.heap.size ∧ ∀ j s, l[j]? = some s → W.cell? ⟨a, o + j, none⟩ = some (.string (str s))
theorem Strs.keep {w w1 : World} {ao : Option Addr} {l : List (List UInt8)} (h : Strs w ao l) (hb : Below w.heap.size w w1) : Strs w1 ao l := by
  rcases h with h | ⟨a, o, h1, h2, h3⟩
  · exact .inl h
  · exact .inr ⟨a, o, h1, Nat.lt_of_lt_of_le h2 hb.size, fun j v hv => (hb.cell (p := ⟨a, _, none⟩) h2).trans (h3 j v hv)⟩
/-- Where a node's three slices lie. -/
structure NqS where
  ak : Option Addr
  ck : Nat
  av : Option Addr
  cv : Nat
  ac : Option Addr
  cc : Nat
structure NqIn (W : World) (n : Nq) (s : NqS) : Prop where
  K : Strs W s.ak n.keys
  k1 : n.keys.length ≤ s.ck
  k2 : s.ck ≤ 9223372036854775807
  V : Ints W s.av n.vals
  v1 : n.vals.length ≤ s.cv
  v2 : s.cv ≤ 9223372036854775807
  C : Ints W s.ac n.kids
  c1 : n.kids.length ≤ s.cc
  c2 : s.cc ≤ 9223372036854775807
theorem NqIn.keep {w w1 : World} {n : Nq} {s : NqS} (h : NqIn w n s) (hb : Below w.heap.size w w1) : NqIn w1 n s := ⟨h.K.keep hb, h.k1, h.k2, h.V.keep hb, h.v1, h.v2, h.C.keep hb, h.c1, h.c2⟩
def nqL (n : Nq) (s : NqS) : List Value := [.slice s.ak n.keys.length s.ck, .slice s.av n.vals.length s.cv, .slice s.ac n.kids.length s.cc]
def nqV (n : Nq) (s : NqS) : Value := .agg #[.slice s.ak n.keys.length s.ck, .slice s.av n.vals.length s.cv, .slice s.ac n.kids.length s.cc]
/-- A slice of nodes. -/
def Nodes (W : World) (ao : Option Addr) (ns : List Nq) : Prop := ns = [] ∨ ∃ a o, ao = some ⟨a, o, none⟩ ∧ a < W.heap.size ∧ ∀ j n, ns[j]? = some n → ∃ s, NqIn W n s ∧ W.cell? ⟨a, o + j * 3, none⟩ = some (.slice s.ak n.keys.length s.ck) ∧ W.cell? ⟨a, o + j * 3 + 1, none⟩ = some (.slice s.av n.vals.length s.cv) ∧ W.cell? ⟨a, o + j * 3 + 2, none⟩ = some (.slice s.ac n.kids.length s.cc)
theorem Nodes.keep {w w1 : World} {ao : Option Addr} {ns : List Nq} (h : Nodes w ao ns) (hb : Below w.heap.size w w1) : Nodes w1 ao ns := by
  rcases h with h | ⟨a, o, h1, h2, h3⟩
  · exact .inl h
  · refine .inr ⟨a, o, h1, Nat.lt_of_lt_of_le h2 hb.size, fun j n hn => ?_⟩
    obtain ⟨s, g1, g2, g3, g4⟩ := h3 j n hn
    exact ⟨s, g1.keep hb, (hb.cell (p := ⟨a, _, none⟩) h2).trans g2, (hb.cell (p := ⟨a, _, none⟩) h2).trans g3, (hb.cell (p := ⟨a, _, none⟩) h2).trans g4⟩
theorem Nodes.at {w : World} {ao : Option Addr} {ns : List Nq} (h : Nodes w ao ns) {j : Nat} {n : Nq} (hj : ns[j]? = some n) : ∃ a o s, ao = some ⟨a, o, none⟩ ∧ a < w.heap.size ∧ NqIn w n s ∧ w.cell? ⟨a, o + j * 3, none⟩ = some (.slice s.ak n.keys.length s.ck) ∧ w.cell? ⟨a, o + j * 3 + 1, none⟩ = some (.slice s.av n.vals.length s.cv) ∧ w.cell? ⟨a, o + j * 3 + 2, none⟩ = some (.slice s.ac n.kids.length s.cc) := by
  rcases h with h | ⟨a, o, h1, h2, h3⟩
  · rw [h] at hj; simp at hj
  · obtain ⟨s, g1, g2, g3, g4⟩ := h3 j n hj
    exact ⟨a, o, s, h1, h2, g1, g2, g3, g4⟩
set_option maxHeartbeats 8000000 in
theorem whole_any (n : Nq) (s : NqS) (w : World) (hk : n.keys.length ≤ 9223372036854775806) (hv : n.vals.length ≤ 9223372036854775807) (hc : n.kids.length ≤ 9223372036854775807) :
    Calls Try.prog 55 #[nqV n s] w fun e w' => e = .returned (.bool (wholeQ n)) ∧ Below w.heap.size w w' := by
  obtain ⟨R, hR⟩ : ∃ R, wholeQ n = R := ⟨_, rfl⟩
  rw [hR]
  unfold wholeQ at hR
  unfold nqV
  generalize n.keys.length = K at *
  generalize n.vals.length = V at *
  generalize n.kids.length = C at *
  obtain ⟨ak, ck, av, cv, ac, cc⟩ := s
  simp only
  obtain ⟨b1, e1⟩ : ∃ b, decide (1 ≤ K) = b := ⟨_, rfl⟩
  obtain ⟨b2, e2⟩ : ∃ b, decide (K ≤ 3) = b := ⟨_, rfl⟩
  obtain ⟨b3, e3⟩ : ∃ b, (V == K) = b := ⟨_, rfl⟩
  obtain ⟨b4, e4⟩ : ∃ b, (C == 0) = b := ⟨_, rfl⟩
  obtain ⟨b5, e5⟩ : ∃ b, (C == K + 1) = b := ⟨_, rfl⟩
  rw [e1, e2, e3, e4, e5] at hR
  obtain ⟨k, hkI⟩ : ∃ k : Int, (K : Int) = k := ⟨_, rfl⟩
  obtain ⟨v, hvI⟩ : ∃ v : Int, (V : Int) = v := ⟨_, rfl⟩
  obtain ⟨c, hcI⟩ : ∃ c : Int, (C : Int) = c := ⟨_, rfl⟩
  have f1 : decide (0 < k) = b1 := by rw [← e1, ← hkI]; congr 1; simp; omega
  have f2 : decide (k ≤ 3) = b2 := by rw [← e2, ← hkI]; congr 1; simp; omega
  have f3 : (v == k) = b3 := by rw [← e3, ← hkI, ← hvI]; cases h : (V == K) <;> simp at h ⊢ <;> omega
  have f4 : (c == 0) = b4 := by rw [← e4, ← hcI]; cases h : (C == 0) <;> simp at h ⊢ <;> omega
  have f5 : (c == k + 1) = b5 := by rw [← e5, ← hcI, ← hkI]; cases h : (C == K + 1) <;> simp at h ⊢ <;> omega
  have wk : IntKind.i64.wrap (k + 1) = k + 1 := by rw [IntKind.wrap_i64]; omega
  have hz : Blk _ _ _ [_, _, _] := Blk.new w #[.slice ak K ck, .slice av V cv, .slice ac C cc] 51
  have hb := (Below.refl w.heap.size w).alloc (Nat.le_refl _) (.cells #[.slice ak K ck, .slice av V cv, .slice ac C cc] 51)
  generalize hw1 : w.alloc (.cells #[.slice ak K ck, .slice av V cv, .slice ac C cc] 51) = w1 at hz hb
  have p0 := hz.cell (j := 0) rfl
  have p1 := hz.cell (j := 1) rfl
  have p2 := hz.cell (j := 2) rfl
  clear e1 e2 e3 e4 e5 hk hv hc
  go_enter Try.func55, Try.ntmps55
  go_upto_region 1 with fail
  try rw [hw1]
  clear hw1
  go_quiet (fail)
  have hbq := below_dqT hb nq
  clear hb hz
  cases b1
  · simp only [Bool.false_and] at hR
    subst hR
    go_wp2_with fail
    go_ret
    exact ⟨rfl, hbq⟩
  · cases b2
    · simp only [Bool.and_false, Bool.false_and] at hR
      subst hR
      go_wp2_with fail
      go_ret
      exact ⟨rfl, hbq⟩
    · cases b3
      · simp only [Bool.and_false, Bool.false_and] at hR
        subst hR
        go_wp2_with fail
        go_ret
        exact ⟨rfl, hbq⟩
      · cases b4
        · simp only [Bool.true_and, Bool.false_or] at hR
          subst hR
          go_wp2_with fail
          go_ret
          exact ⟨rfl, hbq⟩
        · simp only [Bool.true_and, Bool.true_or] at hR
          subst hR
          go_wp2_with fail
          go_ret
          exact ⟨rfl, hbq⟩
set_option maxHeartbeats 4000000 in
theorem leaf_any (p : Nat) (ae ak : Option Addr) (n m ce ck : Nat) (w : World) (hB : Blk w p 83 [.slice ae n ce, .slice ak m ck]) :
    Calls Try.prog 47 #[.pointer (some ⟨p, 0, none⟩)] w fun e w' => e = .returned (.bool (m == 0)) ∧ w' = w := by
  have p1 := hB.cell (j := 1) rfl
  obtain ⟨b, hb⟩ : ∃ b, (m == 0) = b := ⟨_, rfl⟩
  have hbI : ((m : Int) == 0) = b := by rw [← hb]; cases h : (m == 0) <;> simp at h ⊢ <;> omega
  rw [hb]
  clear hb hB
  go_enter Try.func47, Try.ntmps47
  obtain ⟨mi, hmi⟩ : ∃ mi : Int, (m : Int) = mi := ⟨_, rfl⟩
  rw [hmi] at hbI
  go_wp2_with fail
  go_ret
  exact ⟨rfl, rfl⟩
end Go.Proofs.Ytopgakdgifmecaa
