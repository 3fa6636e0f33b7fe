/-
  MERGED: TKeepA, RawsB, TKeepP, TKeepQ, TKeepR, TGrown.
  CONDITIONS: each theorem's own hypotheses.
-/
import Derived.Test.YtopgakdgifmecaaGTCut
import Derived.Test.YtopgakdgifmecaaTTr
import Derived.Test.YtopgakdgifmecaaTList
import Derived.Test.YtopgakdgifmecaaGOpen
import Derived.ArgAppend
import Derived.Test.YtopgakdgifmecaaRegG
import Derived.Test.YtopgakdgifmecaaPicked

/-! WHAT Cut AND List ANSWER of a tree value with its pairs; the keep laws' small helpers (samePairs, treeTells, some). CONDITIONS: each theorem's own hypotheses. -/
namespace Go.Proofs.Ytopgakdgifmecaa
open Go.RowKit
set_option linter.unusedVariables false
set_option maxRecDepth 100000

theorem treeCut_tr (au : Option Addr) (nu cu : Nat) (l : List En) (s : List UInt8) (w : World) (h : TrV w au nu cu l) :
    Calls Try.prog 20 #[.agg #[.slice au nu cu], .string (str s)] w fun e w' => ∃ a n c, e = .returned (.tuple #[.agg #[.slice a n c], .int .i64 (if l.any (fun e => e.1 == s) = true then 0 else 5)]) ∧ (l.any (fun e => e.1 == s) = true → ∀ W' : World, (∀ b, w.heap.size ≤ b → b < w'.heap.size → W'.heap[b]? = w'.heap[b]?) → TrV W' a n c (cutR s l)) ∧ Below w.heap.size w w' := by
  obtain ⟨ns, rfl, h2, h3, h4, h5, rfl⟩ := h
  have hc : cutC ns s = if (flatT (rootQ ns)).any (fun e => e.1 == s) = true then 0 else 5 := by
    unfold cutC
    rw [if_neg (by rw [h5]; decide)]
    rfl
  obtain ⟨q1, q2, q3, -, q5⟩ := cut_plain ns s h5
  refine (treeCut_any ns au cu s w (by omega) h3 h2).mono ?_
  rintro e w' ⟨u, rfl, hp⟩
  by_cases hk : (flatT (rootQ ns)).any (fun e => e.1 == s) = true
  · rw [if_pos hk] at hc ⊢
    obtain ⟨d0, -, -, q8, -⟩ := q5 hk
    rcases hp.good hc with ⟨hT, rfl⟩ | ⟨d, -, q7, q9, F', hL, hF'⟩
    · refine ⟨none, 0, 0, by rw [hc], fun _ W' hW' => ?_, hp.low⟩
      rw [hT] at q8
      have q8 : cutR s (flatT (rootQ ns)) = [] := by rw [← q8]; simp [flat_mk, flatL, inter_nil]
      rw [q8]
      exact TrV.nil W'
    · obtain ⟨rs, hrow, -, -⟩ := id hL
      obtain ⟨a, c, rfl, -⟩ := owns_shape hrow
      refine ⟨a, _, c, by rw [hc], fun _ W' hW' => ?_, hp.low⟩
      obtain ⟨n1, n2, n3, n4⟩ := lay_nodes (hL.same (w1 := W') (fun b hb => hW' b (hF' b hb) (hL.lt b hb))) q7 (fun e he => by
        rw [q8] at he
        obtain ⟨n, hn, hx⟩ := flat_vals ns e _ _ ((cutR_sub s _).subset he)
        exact nodes_vals h2 n hn _ hx) q9
      obtain ⟨l1, l2⟩ := lay_ok _ d q7 (by rw [q8]; exact List.Pairwise.sublist (cutR_sub s _) q1) (by rw [q8]; exact Nat.le_trans (cutR_sub s _).length_le q2) (fun e he => by rw [q8] at he; exact q3 e ((cutR_sub s _).subset he))
      exact ⟨_, rfl, n2, n3, n4, l1, by rw [l2]; exact q8⟩
  · rw [if_neg hk] at hc ⊢
    have eu := hp.bad (by rw [hc]; decide)
    subst eu
    exact ⟨_, _, _, by rw [hc], fun h => absurd h hk, hp.low⟩
theorem treeList_tr (au : Option Addr) (nu cu : Nat) (l : List En) (A B : List UInt8) (w : World) (h : TrV w au nu cu l) :
    Calls Try.prog 22 #[.agg #[.slice au nu cu], .string (str A), .string (str B)] w fun e w' => ∃ v, e = .returned (.tuple #[v, .int .i64 0]) ∧ OwnPr w' w.heap.size v (listR l A B) ∧ Below w.heap.size w w' := by
  obtain ⟨ns, rfl, h2, h3, h4, h5, rfl⟩ := h
  refine (list_any ns au cu A B w (by omega) h3 h2).mono ?_
  rintro e w' ⟨v, rfl, hp⟩
  exact ⟨v, by rw [h5], hp.row h5, hp.low⟩
set_option maxHeartbeats 4000000 in
/-- Rows of the same pairs are the same. -/
theorem keepPairs_any (m : List En) (a1 a2 : Option Addr) (c1 c2 B1 B2 : Nat) (w : World) (hl : m.length ≤ 1000) (h1 : OwnPr w B1 (.slice a1 m.length c1) m) (h2 : OwnPr w B2 (.slice a2 m.length c2) m) :
    Calls Try.prog 26 #[.slice a1 m.length c1, .slice a2 m.length c2] w fun e w' => e = .returned (.bool true) ∧ ∃ q, w' = w.drewN q := by
  have hc : ∀ j, j < m.length → ∃ key x b b', m[j]? = some (key, x) ∧ a1 = some ⟨b, 0, none⟩ ∧ a2 = some ⟨b', 0, none⟩ ∧ w.cell? ⟨b, j * 2, none⟩ = some (.string (str key)) ∧ w.cell? ⟨b, j * 2 + 1, none⟩ = some (.int .i64 x) ∧ w.cell? ⟨b', j * 2, none⟩ = some (.string (str key)) ∧ w.cell? ⟨b', j * 2 + 1, none⟩ = some (.int .i64 x) := fun j hj => by
    have hx : m[j]? = some m[j] := List.getElem?_eq_getElem hj
    obtain ⟨b, g1, -, -, g2, g3⟩ := h1.cell hx
    obtain ⟨b', k1, -, -, k2, k3⟩ := h2.cell hx
    exact ⟨_, _, b, b', hx, g1, k1, g2, g3, k2, k3⟩
  obtain ⟨M, hM⟩ : ∃ M, m.length = M := ⟨_, rfl⟩
  rw [hM] at hc hl ⊢
  have HC := Lib.hid hc
  clear hc h1 h2 hM
  go_enter Try.func26, Try.ntmps26
  have e0 : ((M : Int) != (M : Int)) = false := by simp
  go_wp2_with fail
  go_loopw [5, 13] (fun _ ix wr => ∃ (j : Nat), j ≤ M ∧ ix = .int .i64 j ∧ ∃ nd, wr = w.drewN nd) (fun _ ix _ => M - (intOf ix).toNat)
  case atStart => exact ⟨0, Nat.zero_le _, rfl, 0, rfl⟩
  case round =>
    obtain ⟨j, hj, rfl, nd, rfl⟩ := hrel
    by_cases hlt : j < M
    · have iI : (j : Int) < (M : Int) := by omega
      obtain ⟨key, x, b, b', hmj, rfl, rfl, x0, x1, y0, y1⟩ := HC.out j hlt
      generalize str key = S at *
      clear hmj
      go_wp2_with fail
      go_upto_region 6 with fail
      go_quiet (fail)
      go_wp2_with fail
      go_roundw
      case rel => exact ⟨j + 1, by omega, by go_num, _, (by first | rfl | (simp only [World.drewN_drewN]; rfl))⟩
      case measure => simp [intOf]; omega
    · have iI : ¬ (j : Int) < (M : Int) := by omega
      go_wp2_with fail
      go_ret
      exact ⟨rfl, nd, rfl⟩
theorem someT_any (ao : Option Addr) (n cap m : Nat) (M : Int) (hM : M = m) (w : World) (hn : n ≤ cap) (hc : n ≤ 9223372036854775807) (hm : m ≤ 1000000) :
    Calls Try.prog 39 #[.slice ao n cap, .int .i64 M] w fun e w' => e = .returned (.slice ao (min n m) cap) ∧ w = w' := by
  have e : min n m = (min (n : Int) M).toNat := by omega
  rw [e]
  have h0 : 0 ≤ M := by omega
  have h1 : M ≤ 1000000 := by omega
  clear e hM
  go_enter Try.func39, Try.ntmps39
  go_wp2
  go_ret
  exact ⟨rfl, rfl⟩
set_option maxHeartbeats 4000000 in
theorem treeTells_any (w : World) : Calls Try.prog 25 #[] w fun e w' => e = .returned (.bool true) ∧ Below w.heap.size w w' := by
  have c0 := treePut_tr none 0 0 [] [120] 5 w (TrV.nil w) (by decide) ⟨by omega, by omega⟩
  have c0 : Calls Try.prog 17 #[.agg #[.slice none 0 0], .string ⟨#[120]⟩, .int .i64 5] w fun e w' => ∃ a n c, e = .returned (.tuple #[.agg #[.slice a n c], .int .i64 0]) ∧ (∀ W' : World, (∀ b, w.heap.size ≤ b → b < w'.heap.size → W'.heap[b]? = w'.heap[b]?) → TrV W' a n c [([120], 5)]) ∧ Below w.heap.size w w' := by
    refine c0.mono ?_
    rintro e w' ⟨a, n, c, rfl, h1, h2⟩
    exact ⟨a, n, c, rfl, fun W' hW' => h1 (by decide) W' hW', h2⟩
  go_enter Try.func25, Try.ntmps25
  go_wp2_with fail
  refine c0.mono ?_
  rintro e w1 ⟨a, n, c, rfl, h1, hb1⟩
  have z1 : Blk _ _ _ [_] := Blk.new w1 #[.slice a n c] 24
  have hb2 := (Below.refl w1.heap.size w1).alloc (Nat.le_refl _) (.cells #[.slice a n c] 24)
  have hT := h1 (w1.alloc (.cells #[.slice a n c] 24)) (fun b _ hb => hb2.block b hb)
  have c2 := treeFind_tr a n c _ [120] 5 _ hT (by simp)
  have c2 : Calls Try.prog 15 #[.agg #[.slice a n c], .string ⟨#[120]⟩] (w1.alloc (.cells #[.slice a n c] 24)) fun e w' => e = .returned (.tuple #[.int .i64 5, .int .i64 0]) ∧ Below (w1.alloc (.cells #[.slice a n c] 24)).heap.size (w1.alloc (.cells #[.slice a n c] 24)) w' := c2
  have HB2 := Lib.hid (below_stepE hb1 hb1.size hb2)
  obtain ⟨w2, hw2⟩ : ∃ W, w1.alloc (.cells #[.slice a n c] 24) = W := ⟨_, rfl⟩
  have HW2 := Lib.hid hw2
  rw [hw2] at z1 c2 HB2
  have p0 := z1.cell (j := 0) rfl
  clear c0 h1 hb1 hb2 hT hw2
  go_upto_region 2 with fail
  rw [HW2.out]
  go_wp2_with fail
  refine c2.mono ?_
  rintro e w3 ⟨rfl, hb3⟩
  have HB3 := Lib.hid (below_stepE HB2.out HB2.out.size hb3)
  clear c2 hb3
  go_wp2_with fail
  go_ret
  exact ⟨rfl, HB3.out⟩
end Go.Proofs.Ytopgakdgifmecaa

/-! OPENING ARGUMENTS that are slices of raw things, with the bounds of all three numbers (the same names as in Raws, CodeR and Open: never two of them in one seat). CONDITIONS: each theorem's own hypotheses. -/
namespace Go.Proofs.Ytopgakdgifmecaa
open Go.ChangeShapes Go.WideShapes Go.RowKit Go.Deep Go.Joins CodeMath
open Go.ChangeMaps (open_string shut_string)
set_option linter.unusedVariables false

structure R where
  k : Int
  a : Int
  b : Int
  s : ByteArray
structure R.Fits (r : R) : Prop where
  k0 : -9223372036854775808 ≤ r.k
  k1 : r.k ≤ 9223372036854775807
  a0 : -9223372036854775808 ≤ r.a
  a1 : r.a ≤ 9223372036854775807
  b0 : -9223372036854775808 ≤ r.b
  b1 : r.b ≤ 9223372036854775807
def LiesR (w : World) (a : Nat) (o : Nat) (l : List R) : Prop :=
  ∀ j v, l[j]? = some v → w.cell? ⟨a, o + j * 4, none⟩ = some (.int .i64 v.k) ∧ w.cell? ⟨a, o + j * 4 + 1, none⟩ = some (.int .i64 v.a) ∧ w.cell? ⟨a, o + j * 4 + 2, none⟩ = some (.int .i64 v.b) ∧ w.cell? ⟨a, o + j * 4 + 3, none⟩ = some (.string v.s)
def Raws (w : World) (ao : Option Addr) (l : List R) : Prop := (∀ r ∈ l, r.Fits) ∧ (l = [] ∨ ∃ a o, ao = some ⟨a, o, none⟩ ∧ a < w.heap.size ∧ LiesR w a o l)

theorem Raws.keep {w w1 : World} {ao : Option Addr} {l : List R} (h : Raws w ao l) (hb : Below w.heap.size w w1) : Raws w1 ao l := by
  refine ⟨h.1, ?_⟩
  rcases h.2 with h | ⟨a, o, h1, h2, h3⟩
  · exact .inl h
  · refine .inr ⟨a, o, h1, Nat.lt_of_lt_of_le h2 hb.size, fun j v hv => ?_⟩
    obtain ⟨c0, c1, c2, c3⟩ := h3 j v hv
    exact ⟨(hb.cell (p := ⟨a, _, none⟩) h2).trans c0, (hb.cell (p := ⟨a, _, none⟩) h2).trans c1, (hb.cell (p := ⟨a, _, none⟩) h2).trans c2, (hb.cell (p := ⟨a, _, none⟩) h2).trans c3⟩
set_option maxRecDepth 100000
theorem list_of {α : Type} : ∀ {n : Nat} {p : Nat → α → Prop} (h : ∀ i, i < n → ∃ x, p i x), ∃ l : List α, l.length = n ∧ ∀ j x, l[j]? = some x → p j x
  | 0, p, h => ⟨[], rfl, fun j x hx => by simp at hx⟩
  | n + 1, p, h => by
    obtain ⟨l, hl, hp⟩ := list_of (n := n) (p := p) (fun i hi => h i (by omega))
    obtain ⟨x, hx⟩ := h n (by omega)
    refine ⟨l ++ [x], by simp [hl], fun j y hy => ?_⟩
    by_cases hj : j < l.length
    · rw [List.getElem?_append_left hj] at hy; exact hp j y hy
    · rw [List.getElem?_append_right (by omega)] at hy
      have : j - l.length = 0 := by
        rcases Nat.eq_zero_or_pos (j - l.length) with h0 | h0
        · exact h0
        · rw [List.getElem?_eq_none (by simp; omega)] at hy; cases hy
      rw [this] at hy
      simp only [List.getElem?_cons_zero, Option.some.injEq] at hy
      rw [← hy, show j = n by omega]; exact hx
section
variable {H : Type} {enc : TypeId × Value → H} {W : World} {base : Nat} {v : Value} {d : DataW H} {p : List MemPlace}
/-- A slice of structs of four one-cell fields. -/
theorem open4 {t e : TypeId} {f0 f1 f2 f3 : Field} (ht : Try.prog.underlying t = some (.slice e)) (he : Try.prog.underlying e = some (.struct #[f0, f1, f2, f3])) (hone : oneCellFields Try.prog #[f0, f1, f2, f3] = true) (hC : Try.prog.cellsOf e = 4)
    (hval : Value.okWide Try.prog W .any base t v) (h : DataW.Trod enc Try.prog W 0 (fun _ => true) true t v d p) :
    ∃ ao len cap, v = .slice ao len cap ∧ len ≤ cap ∧ cap ≤ 9223372036854775807 ∧ (len = 0 ∨ ∃ a o, ao = some ⟨a, o, none⟩ ∧ a < W.heap.size ∧ ∀ i, i < len → ∃ q : Value × Value × Value × Value,
      W.cell? ⟨a, o + i * 4, none⟩ = some q.1 ∧ W.cell? ⟨a, o + i * 4 + 1, none⟩ = some q.2.1 ∧ W.cell? ⟨a, o + i * 4 + 2, none⟩ = some q.2.2.1 ∧ W.cell? ⟨a, o + i * 4 + 3, none⟩ = some q.2.2.2 ∧
      ∃ n y0 y1 y2 y3, DataW.trod enc Try.prog W 0 (fun _ => true) true n f0.type [q.1] = some y0 ∧ DataW.trod enc Try.prog W 0 (fun _ => true) true n f1.type [q.2.1] = some y1 ∧ DataW.trod enc Try.prog W 0 (fun _ => true) true n f2.type [q.2.2.1] = some y2 ∧ DataW.trod enc Try.prog W 0 (fun _ => true) true n f3.type [q.2.2.2] = some y3) := by
  obtain ⟨ao, len, cap, rfl⟩ := okWide_slice ht hval
  obtain ⟨fuel, hf⟩ := h
  rcases open_slice ht hf with ⟨hcs, _⟩ | ⟨a, len', cap', m, n, D, Pl, hcs, _, hl, hm, hmm, _, hel⟩
  · simp [Value.cells] at hcs
    obtain ⟨rfl, rfl, rfl⟩ := hcs
    exact ⟨none, 0, 0, rfl, Nat.le_refl _, Nat.zero_le _, .inl rfl⟩
  · simp [Value.cells] at hcs
    obtain ⟨rfl, rfl, rfl⟩ := hcs
    refine ⟨_, _, _, rfl, hl, by unfold maxLen at hm; omega, ?_⟩
    rcases Nat.eq_zero_or_pos len with h0 | h0
    · exact .inl h0
    · right
      have hml : len ≤ m := by rw [hmm]; simp; exact hl
      rw [hC] at hel
      obtain ⟨cs0, g0, _⟩ := hel 0 (by omega)
      have hlen0 := (World.cells?_some g0)
      have hs := hlen0.2.2 0 (by decide)
      have hc0 : ∃ x, W.cell? ((a.add (0 * 4)).add 0) = some x := by
        rw [hs]
        have : 0 < cs0.length := by rw [hlen0.2.1]; decide
        exact ⟨cs0[0], List.getElem?_eq_getElem this⟩
      obtain ⟨x0, hx0⟩ := hc0
      have hx1 : W.cell? (a.add 0) = some x0 := by rw [Nat.zero_mul] at hx0; simpa [Addr.add] using hx0
      have hsp := add_spot hx1
      have hlt : a.block < W.heap.size := by
        have := cell_lt hx1
        simpa [Addr.add] using this
      obtain ⟨b, o, s⟩ := a
      simp only [Addr.mk.injEq, true_and] at hsp
      subst hsp
      refine ⟨b, o, rfl, hlt, fun i hi => ?_⟩
      obtain ⟨cs, g1, g2⟩ := hel i (by omega)
      obtain ⟨_, hlen, hcell⟩ := World.cells?_some g1
      match cs, hlen with
      | [c0, c1, c2, c3], _ =>
        obtain ⟨y0, y1, y2, y3, n', _, _, t0, t1, t2, t3⟩ := trod_struct4 he g2
        obtain ⟨o0, k0⟩ := hone_of hone 0 f0 rfl
        obtain ⟨o1, k1⟩ := hone_of hone 1 f1 rfl
        obtain ⟨o2, k2⟩ := hone_of hone 2 f2 rfl
        obtain ⟨o3, k3⟩ := hone_of hone 3 f3 rfl
        have q0 := hcell 0 (by decide)
        have q1 := hcell 1 (by decide)
        have q2 := hcell 2 (by decide)
        have q3 := hcell 3 (by decide)
        rw [add_none, add_none] at q0 q1 q2 q3
        exact ⟨(c0, c1, c2, c3), q0, q1, q2, q3, n', y0, y1, y2, y3, by simpa [o0, k0] using t0, by simpa [o1, k1] using t1, by simpa [o2, k2] using t2, by simpa [o3, k3] using t3⟩
theorem open_raws (hval : Value.okWide Try.prog W .any base 43 v) (h : DataW.Trod enc Try.prog W 0 (fun _ => true) true 43 v d p) :
    ∃ (l : List R) (ao : Option Addr) (cap : Nat), v = .slice ao l.length cap ∧ l.length ≤ cap ∧ cap ≤ 9223372036854775807 ∧ Raws W ao l := by
  obtain ⟨ao, len, cap, rfl, h1, h2, h3⟩ := open4 Try.underlying43 Try.underlying53 (by kernel_rfl) (by kernel_rfl) hval h
  rcases h3 with rfl | ⟨a, o, rfl, ha, hel⟩
  · exact ⟨[], ao, cap, rfl, h1, h2, by simp, .inl rfl⟩
  · obtain ⟨l, hl, hp⟩ := list_of (n := len) (p := fun i (r : R) => r.Fits ∧ W.cell? ⟨a, o + i * 4, none⟩ = some (.int .i64 r.k) ∧ W.cell? ⟨a, o + i * 4 + 1, none⟩ = some (.int .i64 r.a) ∧ W.cell? ⟨a, o + i * 4 + 2, none⟩ = some (.int .i64 r.b) ∧ W.cell? ⟨a, o + i * 4 + 3, none⟩ = some (.string r.s)) (fun i hi => by
      obtain ⟨⟨q0, q1, q2, q3⟩, c0, c1, c2, c3, n, y0, y1, y2, y3, t0, t1, t2, t3⟩ := hel i hi
      obtain ⟨k, e0, _, w0⟩ := DataW.trod_int Try.underlying3 t0
      obtain ⟨x, e1, _, w1⟩ := DataW.trod_int Try.underlying3 t1
      obtain ⟨y, e2, _, w2⟩ := DataW.trod_int Try.underlying3 t2
      obtain ⟨s, e3, _, w3⟩ := DataW.trod_string Try.underlying9 t3
      simp at e0 e1 e2 e3
      subst e0 e1 e2 e3
      have b0 := bounds_i64 w0
      have b1 := bounds_i64 w1
      have b2 := bounds_i64 w2
      exact ⟨⟨k, x, y, s⟩, ⟨b0.1, b0.2, b1.1, b1.2, b2.1, b2.2⟩, c0, c1, c2, c3⟩)
    subst hl
    refine ⟨l, _, cap, rfl, h1, h2, fun r hr => ?_, .inr ⟨a, o, rfl, ha, fun j r hr => (hp j r hr).2⟩⟩
    obtain ⟨j, hj⟩ := List.mem_iff_getElem?.1 hr
    exact (hp j r hj).1
end
theorem Raws.take {w : World} {ao : Option Addr} {l : List R} (h : Raws w ao l) (q : Nat) : Raws w ao (l.take q) := by
  refine ⟨fun r hr => h.1 r (List.mem_of_mem_take hr), ?_⟩
  rcases h.2 with h | ⟨a, o, h1, h2, h3⟩
  · left; rw [h]; simp
  · refine .inr ⟨a, o, h1, h2, fun j v hv => h3 j v ?_⟩
    rw [List.getElem?_take] at hv
    split at hv
    · exact hv
    · cases hv
end Go.Proofs.Ytopgakdgifmecaa

/-! PLAIN: the keep laws' own row of pairs, kept by where a key stands: what is cut out of it, what is put into it. CONDITIONS: none. -/
namespace Go.Proofs.Ytopgakdgifmecaa
open Go.RowKit
set_option linter.unusedVariables false

theorem take_lo {es : List En} {s : List UInt8} (hr : RiseE es) : ∀ e ∈ es.take (plI es s), lessS e.1 s = true := fun e he => by
  obtain ⟨j, hj⟩ := List.getElem?_of_mem he
  rw [List.getElem?_take] at hj
  split at hj
  · exact (is_place es s hr).lo j e (by assumption) hj
  · cases hj
theorem drop_hi {es : List En} {s : List UInt8} (hr : RiseE es) (q : Nat) (hq : plI es s ≤ q) (hne : ∀ e, es[plI es s]? = some e → q = plI es s → e.1 ≠ s) : ∀ e ∈ es.drop q, lessS s e.1 = true := fun e he => by
  obtain ⟨j, hj⟩ := List.getElem?_of_mem he
  rw [List.getElem?_drop] at hj
  have h1 := (is_place es s hr).hi (q + j) e (by omega) hj
  cases hz : lessS s e.1 with
  | true => rfl
  | false =>
    have heq : e.1 = s := by rw [lessS_tot _ _ hz h1]
    by_cases h0 : q + j = plI es s
    · rw [h0] at hj
      exact absurd heq (hne e hj (by omega))
    · have hlt := (List.getElem?_eq_some_iff.1 hj).1
      have hil : plI es s < es.length := by omega
      have h3 := (is_place es s hr).hi (plI es s) es[plI es s] (Nat.le_refl _) (List.getElem?_eq_getElem hil)
      have h4 := List.pairwise_iff_getElem.1 hr (plI es s) (q + j) hil hlt (by omega)
      rw [(List.getElem?_eq_some_iff.1 hj).2, heq] at h4
      rw [h4] at h3; cases h3
theorem plF_some {es : List En} {s : List UInt8} (h : plF es s = true) : ∃ e, es[plI es s]? = some e ∧ e.1 = s := by
  unfold plF at h
  cases hq : es[plI es s]? with
  | none => rw [hq] at h; cases h
  | some e => rw [hq] at h; exact ⟨e, rfl, by simpa using h⟩
theorem plF_none {es : List En} {s : List UInt8} (h : plF es s = false) : ∀ e, es[plI es s]? = some e → e.1 ≠ s := fun e he hs => by
  unfold plF at h
  rw [he] at h
  simp [hs] at h
theorem split_some {es : List En} {j : Nat} {e : En} (h : es[j]? = some e) : es = es.take j ++ e :: es.drop (j + 1) := by
  rw [← (List.getElem?_eq_some_iff.1 h).2, List.getElem_cons_drop, List.take_append_drop]
theorem putR_place (es : List En) (s : List UInt8) (v : Int) (hr : RiseE es) : putR s v es = es.take (plI es s) ++ (s, v) :: es.drop (if plF es s = true then plI es s + 1 else plI es s) := by
  cases hf : plF es s with
  | true =>
    obtain ⟨e, he, hes⟩ := plF_some hf
    have h := putR_mid s v (es.take (plI es s)) [e] (es.drop (plI es s + 1)) (take_lo hr) (drop_hi hr _ (by omega) (fun _ _ h => by omega))
    rw [show es.take (plI es s) ++ [e] ++ es.drop (plI es s + 1) = es by rw [List.append_assoc]; exact (split_some he).symm] at h
    rw [h]
    simp [putR, hes, lessS_irr]
  | false =>
    have h := putR_mid s v (es.take (plI es s)) [] (es.drop (plI es s)) (take_lo hr) (drop_hi hr _ (Nat.le_refl _) (fun e he _ => plF_none hf e he))
    rw [List.append_nil, List.take_append_drop] at h
    rw [h]
    simp [putR]
theorem less_ne {a s : List UInt8} (h : lessS a s = true) : a ≠ s := fun e => by rw [e, lessS_irr] at h; cases h
theorem less_ne2 {a s : List UInt8} (h : lessS s a = true) : a ≠ s := fun e => by rw [e, lessS_irr] at h; cases h
theorem cutR_place (es : List En) (s : List UInt8) (hr : RiseE es) : cutR s es = if plF es s = true then delL (plI es s) es else es := by
  cases hf : plF es s with
  | true =>
    obtain ⟨e, he, hes⟩ := plF_some hf
    have h1 := split_some he
    have hr2 := hr
    rw [h1] at hr2
    conv => lhs; rw [h1]
    rw [cutR_at s _ _ e hes hr2]
    rfl
  | false =>
    rw [if_neg (by decide)]
    refine cutR_none s es (fun e he => ?_)
    rw [← List.take_append_drop (plI es s) es] at he
    rcases List.mem_append.1 he with he | he
    · exact less_ne (take_lo hr e he)
    · exact less_ne2 (drop_hi hr _ (Nat.le_refl _) (fun e he _ => plF_none hf e he) e he)
theorem any_place (es : List En) (s : List UInt8) (hr : RiseE es) : es.any (fun e => e.1 == s) = plF es s := by
  cases hf : plF es s with
  | true =>
    obtain ⟨e, he, hes⟩ := plF_some hf
    exact List.any_eq_true.2 ⟨e, List.mem_of_getElem? he, by simpa using hes⟩
  | false =>
    rw [List.any_eq_false]
    intro e he
    rw [← List.take_append_drop (plI es s) es] at he
    rcases List.mem_append.1 he with he | he
    · simpa using less_ne (take_lo hr e he)
    · simpa using less_ne2 (drop_hi hr _ (Nat.le_refl _) (fun e he _ => plF_none hf e he) e he)
/-- The key that a raw thing names. -/
def keyR (r : R) : List UInt8 := [(97 + (r.a % 5).toNat).toUInt8, (97 + (r.b % 6).toNat).toUInt8]
def growS (l : List En) (r : R) : List En := if r.k % 4 = 0 then cutR (keyR r) l else putR (keyR r) r.a l
/-- The pairs that raw things leave. -/
def growL (rs : List R) : List En := rs.foldl growS []
theorem growL_snoc (rs : List R) (j : Nat) (r : R) (h : rs[j]? = some r) : growL (rs.take (j + 1)) = growS (growL (rs.take j)) r := by
  unfold growL
  rw [take_snocI rs j r h, List.foldl_append]; rfl
theorem growS_rise {l : List En} (h : RiseE l) (r : R) : RiseE (growS l r) := by
  unfold growS
  split
  · exact List.Pairwise.sublist (cutR_sub _ l) h
  · exact putR_rise _ _ _ h
theorem growL_rise (rs : List R) : RiseE (growL rs) := by
  unfold growL
  have : ∀ (rs : List R) (l : List En), RiseE l → RiseE (rs.foldl growS l) := by
    intro rs
    induction rs with
    | nil => intro l h; exact h
    | cons r rs ih => intro l h; exact ih _ (growS_rise h r)
  exact this rs [] (by simp [RiseE])
theorem growL_len (rs : List R) : (growL rs).length ≤ rs.length := by
  unfold growL
  have : ∀ (rs : List R) (l : List En), RiseE l → (rs.foldl growS l).length ≤ l.length + rs.length := by
    intro rs
    induction rs with
    | nil => intro l h; simp
    | cons r rs ih =>
      intro l h
      have h1 := ih _ (growS_rise h r)
      have h2 : (growS l r).length ≤ l.length + 1 := by
        unfold growS
        split
        · have := (cutR_sub (keyR r) l).length_le; omega
        · rw [putR_len _ _ _ h]; split <;> omega
      simp only [List.foldl_cons, List.length_cons]
      omega
  simpa using this rs [] (by simp [RiseE])
theorem growL_keys (rs : List R) : ∀ e ∈ growL rs, e.1.length ≤ 60 := by
  unfold growL
  have : ∀ (rs : List R) (l : List En), (∀ e ∈ l, e.1.length ≤ 60) → ∀ e ∈ rs.foldl growS l, e.1.length ≤ 60 := by
    intro rs
    induction rs with
    | nil => intro l h; exact h
    | cons r rs ih =>
      intro l h
      refine ih _ (fun e he => ?_)
      unfold growS at he
      split at he
      · exact h e ((cutR_sub _ l).subset he)
      · rcases putR_mem _ _ _ e he with rfl | he
        · simp [keyR]
        · exact h e he
  exact this rs [] (by simp)
end Go.Proofs.Ytopgakdgifmecaa

/-! APPENDS to rows of pairs, an operation of a drawn region at a time: a row that is read behind a row of the call's own; a pair behind a row without room. CONDITIONS: each theorem's own hypotheses. -/
namespace Go.Proofs.Ytopgakdgifmecaa
open Go.RowKit
set_option linter.unusedVariables false
set_option maxRecDepth 100000

/-- A row of pairs that may be read, wherever it stands. -/
def VwPr (w : World) (v : Value) (l : List En) : Prop := (v = .slice none 0 0 ∧ l = []) ∨ ∃ g o cap, v = .slice (some ⟨g, o, none⟩) l.length cap ∧ g < w.heap.size ∧ ∀ j u, (cellsE l)[j]? = some u → w.cell? ⟨g, o + j, none⟩ = some u
theorem VwPr.keep {w w1 : World} {v : Value} {l : List En} (h : VwPr w v l) (hb : Below w.heap.size w w1) : VwPr w1 v l := by
  rcases h with h | ⟨g, o, cap, h1, h2, h3⟩
  · exact .inl h
  · exact .inr ⟨g, o, cap, h1, Nat.lt_of_lt_of_le h2 hb.size, fun j u hj => (hb.cell (p := ⟨g, o + j, none⟩) h2).trans (h3 j u hj)⟩
theorem OwnPr.cells {w : World} {base g n cap : Nat} {l : List En} (h : OwnPr w base (.slice (some ⟨g, 0, none⟩) n cap) l) : ∀ j u, (cellsE l)[j]? = some u → w.cell? ⟨g, j, none⟩ = some u := fun j u hj => by
  have := World.ownsRow.cells h (g := g) rfl j u hj
  rw [addr_addT, Nat.zero_add] at this
  exact this
/-- append of a row that is read. -/
theorem wp_append_vw {o : Oper} {a : Act} {K : Act → World → Prop} {Q : Exit → Act → World → Prop} {w : World} (s x : Operand)
    (ho : o.op = .call { callee := .builtin .append, args := #[s, x], argTypes := #[27, 27] }) (base : Nat) (v : Value) (l : List En) (hs : a.eval s = v) (hown : OwnPr w base v l)
    (vx : Value) (m : List En) (hx : a.eval x = vx) (hv : VwPr w vx m) (hl : l.length + m.length ≤ 1000000) (hb : base ≤ w.heap.size)
    (h : ∀ v' w', OwnPr w' base v' (l ++ m) → w.grownBy w' v.ownBlock → (v'.ownBlock = v.ownBlock ∨ v'.ownBlock = some w.heap.size) → K (a.put o.dst v') w') : o.wp Try.prog a w K Q := by
  obtain ⟨i0, hi, hz0, hz1, hz2⟩ := info_parts infoPr
  rcases hv with ⟨rfl, rfl⟩ | ⟨g, f, cap, rfl, hg, hc⟩
  · have hr := run_append_owned_none (P := Try.prog) (w := w) base 27 o.type 57 i0 2 Try.underlying27 hi v l.length (cellsE l) hown
    unfold Oper.wp execOp
    simp only [ho, resolve, invoke, builtin, Sem.run_bind, Sem.run_pure, Result.andThen_ok, List.map_toArray, List.map_cons, List.map_nil, hs, hx, hr]
    exact h v w (by rw [List.append_nil]; exact hown) ⟨rfl, rfl, rfl, Nat.le_refl _, fun _ _ _ => rfl⟩ (.inl rfl)
  · obtain ⟨v', w', hr, r1, r2, _, r5⟩ := run_append_own_at (P := Try.prog) w base 27 o.type 57 i0 _ 2 24 Try.underlying27 hi hz0 hz1 hz2 rfl (by decide) v l.length (cellsE l) hown ⟨g, f, none⟩ m.length cap (cellsE m) (cellsE_length m) (fun j u hj => by rw [Addr.add_lit]; exact hc j u hj) (cellsE_one _) (by unfold maxLen; omega) (by omega) hb
    unfold Oper.wp execOp
    simp only [ho, resolve, invoke, builtin, Sem.run_bind, Sem.run_pure, Result.andThen_ok, List.map_toArray, List.map_cons, List.map_nil, hs, hx, hr]
    refine h v' w' ?_ r2 r5
    unfold OwnPr
    rw [cellsE_append, List.length_append]
    exact r1
/-- append of one pair behind a row without room. -/
theorem wp_append_full {o : Oper} {a : Act} {K : Act → World → Prop} {Q : Exit → Act → World → Prop} {w : World} (s x : Operand)
    (ho : o.op = .call { callee := .builtin .append, args := #[s, x], argTypes := #[27, 27] }) (g i : Nat) (l : List En) (hs : a.eval s = .slice (some ⟨g, 0, none⟩) i i) (hli : l.length = i) (hc : ∀ j u, (cellsE l)[j]? = some u → w.cell? ⟨g, j, none⟩ = some u)
    (y : En) (gx : Nat) (hx : a.eval x = .slice (some ⟨gx, 0, none⟩) 1 1) (h2 : Blk w gx 57 (cellsE1 y)) (hl : i ≤ 1000)
    (h : ∀ v' w', OwnPr w' w.heap.size v' (l ++ [y]) → Below w.heap.size w w' → K (a.put o.dst v') w') : o.wp Try.prog a w K Q := by
  obtain ⟨i0, hi, hz0, hz1, hz2⟩ := info_parts infoPr
  obtain ⟨v', w', hr, k1, k2⟩ := run_append_arg_grows (P := Try.prog) w 27 o.type 57 i0 _ 2 24 Try.underlying27 hi hz0 hz1 hz2 rfl (by decide) ⟨g, 0, none⟩ i i (cellsE l) (by rw [cellsE_length, hli]) (fun j u hj => by rw [addr_addT, Nat.zero_add]; exact hc j u hj) ⟨gx, 0, none⟩ 1 1 (cellsE [y]) (by rw [cellsE_length]; rfl) (fun j u hj => by
    rw [addr_addT, Nat.zero_add]
    refine h2.cell ?_
    simpa [cellsE] using hj) (by omega) (by unfold maxLen; omega) (by omega)
  unfold Oper.wp execOp
  simp only [ho, resolve, invoke, builtin, Sem.run_bind, Sem.run_pure, Result.andThen_ok, List.map_toArray, List.map_cons, List.map_nil, hs, hx, hr]
  refine h v' w' ?_ ⟨k2.os, k2.tape, k2.output, k2.size, fun k hk => k2.block k hk (by simp)⟩
  unfold OwnPr
  rw [cellsE_append, List.length_append, hli]
  exact k1
end Go.Proofs.Ytopgakdgifmecaa

/-! SLICES AND APPENDS of rows of pairs, one operation at a time; the state of the loop of chirographkeep's grown. CONDITIONS: each theorem's own hypotheses. -/
namespace Go.Proofs.Ytopgakdgifmecaa
open Go.RowKit
set_option linter.unusedVariables false
set_option maxRecDepth 100000

theorem undP : Try.prog.underlying 27 = some (.slice (Try.prog.elem 27)) := by kernel_rfl
theorem szP (W : World) : (sizeOf (Try.prog.elem 27)).run Try.prog W = .ok 2 W := by kernel_rfl
theorem runP_lo (av : Option Addr) (N cv i : Nat) (hi : i ≤ N) (W : World) : (Instr.sliceAt 27 (.slice av N cv) (some (.int .i64 (i : Int))) none none).run Try.prog W = .ok (sliced av i N cv 2) W := by
  rw [run_sliceAt_slice _ _ _ _ _ _ undP, run_slice_l _ _ _ _ _ undP .i64 (i : Int) (by omega) (by omega), szP, Int.toNat_natCast]; rfl
theorem runP_hi (av : Option Addr) (N cv i : Nat) (hi : i ≤ cv) (W : World) : (Instr.sliceAt 27 (.slice av N cv) none (some (.int .i64 (i : Int))) none).run Try.prog W = .ok (sliced av 0 i cv 2) W := by
  rw [run_sliceAt_slice _ _ _ _ _ _ undP, run_slice_h _ _ _ _ _ undP .i64 (i : Int) (by omega) (by omega), szP, Int.toNat_natCast]; rfl
theorem runP_hm (av : Option Addr) (N cv i : Nat) (hi : i ≤ cv) (W : World) : (Instr.sliceAt 27 (.slice av N cv) none (some (.int .i64 (i : Int))) (some (.int .i64 (i : Int)))).run Try.prog W = .ok (sliced av 0 i i 2) W := by
  rw [run_sliceAt_slice _ _ _ _ _ _ undP, run_slice_hm _ _ _ _ _ undP .i64 .i64 (i : Int) (i : Int) (by omega) (by omega) (by omega), szP, Int.toNat_natCast]; rfl
theorem wp_slice_lo {o : Oper} {a : Act} {K : Act → World → Prop} {Q : Exit → Act → World → Prop} {w : World} (s x : Operand) (ho : o.op = .slice 27 s (some x) none none) (av : Option Addr) (N cv i : Nat) (hs : a.eval s = .slice av N cv) (hx : a.eval x = .int .i64 (i : Int)) (hi : i ≤ N)
    (h : K (a.put o.dst (sliced av i N cv 2)) w) : o.wp Try.prog a w K Q := by
  unfold Oper.wp execOp
  simp only [ho, Option.map_some, Option.map_none, hs, hx, Sem.run_bind, Sem.run_pure, Result.andThen_ok, runP_lo av N cv i hi]
  exact h
theorem wp_slice_hi {o : Oper} {a : Act} {K : Act → World → Prop} {Q : Exit → Act → World → Prop} {w : World} (s x : Operand) (ho : o.op = .slice 27 s none (some x) none) (av : Option Addr) (N cv i : Nat) (hs : a.eval s = .slice av N cv) (hx : a.eval x = .int .i64 (i : Int)) (hi : i ≤ cv)
    (h : K (a.put o.dst (sliced av 0 i cv 2)) w) : o.wp Try.prog a w K Q := by
  unfold Oper.wp execOp
  simp only [ho, Option.map_some, Option.map_none, hs, hx, Sem.run_bind, Sem.run_pure, Result.andThen_ok, runP_hi av N cv i hi]
  exact h
theorem wp_slice_hm {o : Oper} {a : Act} {K : Act → World → Prop} {Q : Exit → Act → World → Prop} {w : World} (s x y : Operand) (ho : o.op = .slice 27 s none (some x) (some y)) (av : Option Addr) (N cv i : Nat) (hs : a.eval s = .slice av N cv) (hx : a.eval x = .int .i64 (i : Int)) (hy : a.eval y = .int .i64 (i : Int)) (hi : i ≤ cv)
    (h : K (a.put o.dst (sliced av 0 i i 2)) w) : o.wp Try.prog a w K Q := by
  unfold Oper.wp execOp
  simp only [ho, Option.map_some, Option.map_none, hs, hx, hy, Sem.run_bind, Sem.run_pure, Result.andThen_ok, runP_hm av N cv i hi]
  exact h
theorem wpList_slice_lo {ops : Array Oper} {rest : List Oper} {o : Oper} {a : Act} {Q : Exit → Act → World → Prop} {w : World} (hgd : o.guard = none) (s x : Operand) (ho : o.op = .slice 27 s (some x) none none) (av : Option Addr) (N cv i : Nat) (hs : a.eval s = .slice av N cv) (hx : a.eval x = .int .i64 (i : Int)) (hi : i ≤ N)
    (h : wpList Try.prog ops Q rest (a.put o.dst (sliced av i N cv 2)) w) : wpList Try.prog ops Q (o :: rest) a w :=
  wpList_plain hgd fun K hK => wp_slice_lo s x ho av N cv i hs hx hi (hK _ _ h)
theorem wpList_append_vw {ops : Array Oper} {rest : List Oper} {o : Oper} {a : Act} {Q : Exit → Act → World → Prop} {w : World} (hgd : o.guard = none) (s x : Operand)
    (ho : o.op = .call { callee := .builtin .append, args := #[s, x], argTypes := #[27, 27] }) (base : Nat) (v : Value) (l : List En) (hs : a.eval s = v) (hown : OwnPr w base v l)
    (vx : Value) (m : List En) (hx : a.eval x = vx) (hv : VwPr w vx m) (hl : l.length + m.length ≤ 1000000) (hb : base ≤ w.heap.size)
    (h : ∀ v' w', OwnPr w' base v' (l ++ m) → w.grownBy w' v.ownBlock → wpList Try.prog ops Q rest (a.put o.dst v') w') : wpList Try.prog ops Q (o :: rest) a w :=
  wpList_plain hgd fun K hK => wp_append_vw s x ho base v l hs hown vx m hx hv hl hb (fun v' w' h1 h2 _ => hK _ _ (h v' w' h1 h2))
/-- What is sliced off a row. -/
theorem OwnPr.sl {w : World} {base N cv : Nat} {av : Option Addr} {l : List En} (h : OwnPr w base (.slice av N cv) l) (lo hi : Nat) (h1 : lo ≤ hi) (h2 : hi ≤ N) : VwPr w (sliced av lo hi cv 2) ((l.take hi).drop lo) := by
  rcases id h.2 with ⟨e, hz⟩ | ⟨g, cap, cur, e, q1, q2, q3, q4, q5, q6⟩
  · simp only [Value.slice.injEq] at e
    obtain ⟨rfl, rfl, rfl⟩ := e
    obtain rfl : l = [] := List.eq_nil_of_length_eq_zero hz
    obtain rfl : hi = 0 := by omega
    obtain rfl : lo = 0 := by omega
    exact .inl ⟨rfl, rfl⟩
  · simp only [Value.slice.injEq] at e
    obtain ⟨rfl, rfl, rfl⟩ := e
    have hlt := (Array.getElem?_eq_some_iff.1 q2).1
    have hlen : ((l.take hi).drop lo).length = hi - lo := by rw [List.length_drop, List.length_take]; omega
    have hc : ∀ j u, (cellsE ((l.take hi).drop lo))[j]? = some u → w.cell? ⟨g, lo * 2 + j, none⟩ = some u := fun j u hj => by
      have e1 : cellsE ((l.take hi).drop lo) = ((cellsE l).take (hi * 2)).drop (lo * 2) := by rw [cellsE_take, cellsE_drop]
      rw [e1, List.getElem?_drop] at hj
      have hjlt : lo * 2 + j < hi * 2 := by
        have := (List.getElem?_eq_some_iff.1 hj).1
        rw [List.length_take] at this
        omega
      rw [List.getElem?_take_of_lt hjlt] at hj
      have := World.ownsRow.cells h (g := g) rfl _ u hj
      rw [addr_addT, Nat.zero_add] at this
      exact this
    by_cases hcv : cv = lo
    · have hn : (l.take hi).drop lo = [] := List.eq_nil_of_length_eq_zero (by rw [hlen]; omega)
      refine .inr ⟨g, 0, cv - lo, ?_, hlt, fun j u hj => ?_⟩
      · unfold sliced
        rw [if_pos hcv, hlen]
      · rw [hn] at hj; simp [cellsE] at hj
    · refine .inr ⟨g, lo * 2, cv - lo, ?_, hlt, hc⟩
      unfold sliced
      rw [if_neg hcv, hlen]
      simp only [Option.map_some, addr_addT, Nat.zero_add]
theorem OwnPr.vw {w : World} {base : Nat} {v : Value} {l : List En} (h : OwnPr w base v l) : VwPr w v l := by
  rcases id h.2 with ⟨rfl, hz⟩ | ⟨g, cap, cur, rfl, q1, q2, q3, q4, q5, q6⟩
  · exact .inl ⟨rfl, List.eq_nil_of_length_eq_zero hz⟩
  · exact .inr ⟨g, 0, cap, rfl, (Array.getElem?_eq_some_iff.1 q2).1, fun j u hj => by rw [Nat.zero_add]; exact h.cells j u hj⟩
/-- append of one pair behind the first of a row, sliced off without room. -/
theorem wp_append_hm {o : Oper} {a : Act} {K : Act → World → Prop} {Q : Exit → Act → World → Prop} {w : World} (s x : Operand)
    (ho : o.op = .call { callee := .builtin .append, args := #[s, x], argTypes := #[27, 27] }) (base : Nat) (av : Option Addr) (N cv i : Nat) (l : List En) (hs : a.eval s = sliced av 0 i i 2) (hown : OwnPr w base (.slice av N cv) l) (hlN : l.length = N) (hi : i ≤ N)
    (y : En) (gx : Nat) (hx : a.eval x = .slice (some ⟨gx, 0, none⟩) 1 1) (h2 : Blk w gx 57 (cellsE1 y)) (hN : N ≤ 1000)
    (h : ∀ v' w', OwnPr w' w.heap.size v' (l.take i ++ [y]) → Below w.heap.size w w' → K (a.put o.dst v') w') : o.wp Try.prog a w K Q := by
  rcases id hown.2 with ⟨e, hz⟩ | ⟨g, cap, cur, e, q1, q2, q3, q4, q5, q6⟩
  · simp only [Value.slice.injEq] at e
    obtain ⟨rfl, rfl, rfl⟩ := e
    obtain rfl : l = [] := List.eq_nil_of_length_eq_zero hz
    obtain rfl : i = 0 := by simp at hlN; omega
    refine wp_append_pr s x ho w.heap.size _ [] hs (OwnPr.nil _ _) y gx hx h2 (by simp) (Nat.le_refl _) ?_
    intro v' w' h1 h3 _
    exact h v' w' h1 ((Below.refl _ w).grown h3 (Nat.le_refl _) (fun k e => by cases e))
  · simp only [Value.slice.injEq] at e
    obtain ⟨rfl, -, rfl⟩ := e
    have he : sliced (some ⟨g, 0, none⟩) 0 i i 2 = .slice (some ⟨g, 0, none⟩) i i := by
      unfold sliced
      split <;> simp [addr_addT]
    rw [he] at hs
    refine wp_append_full s x ho g i (l.take i) hs (by rw [List.length_take]; omega) (fun j u hj => ?_) y gx hx h2 (by omega) h
    rw [← cellsE_take] at hj
    have hj2 : j < i * 2 := by
      have := (List.getElem?_eq_some_iff.1 hj).1
      rw [List.length_take] at this; omega
    rw [List.getElem?_take_of_lt hj2] at hj
    exact hown.cells j u hj
theorem OwnPr.empty (w : World) (base : Nat) (hb : base ≤ w.heap.size) : OwnPr (w.alloc (.cells #[] 57)) base (.slice (some ⟨w.heap.size, 0, none⟩) 0 0) [] := World.ownsRow_lit w #[] 0 hb (by unfold maxLen; omega) (by simp)
/-- Results: a struct in a cell and two slots. -/
theorem results_row_two {fn : Func} {p u v : Tmp} {T : TypeId} {d : TypeDesc} (h : fn.results = #[.cell p T, .tmp u, .tmp v]) (tmps : Array Value) (w : World) (g : Nat) (cs : List Value) (hp : tmps.getD p undef = .pointer (some ⟨g, 0, none⟩)) (hg : Blk w g T cs)
    (hu : Try.prog.underlying T = some d) (hd : d.isRow = true) (hi : (Try.prog.info? T).map (·.size) = some cs.length) :
    (results fn tmps).run Try.prog w = .ok (.tuple #[.agg cs.toArray, tmps.getD u undef, tmps.getD v undef]) w := by
  have hl := run_loadVar_row w g T T cs.toArray (0, 0) d hg hu (by cases d <;> simp_all) (by simpa using hi)
  have hp' : tmps[p]?.getD undef = .pointer (some ⟨g, 0, none⟩) := by simpa using hp
  simp [results, h, hp', asAddr, hl]
/-- The loop's state. -/
structure GrS (w : World) (base m4 m7 : Nat) (l : List En) (v : Value) (W : World) : Prop where
  low : Below w.heap.size w W
  big : base ≤ W.heap.size
  res : Blk W m4 24 [.slice none 0 0]
  row : OwnPr W base v l
  tree : ∃ au nu cu, Blk W m7 24 [.slice au nu cu] ∧ ∀ Wf : World, (∀ b, base ≤ b → b < W.heap.size → Wf.heap[b]? = W.heap[b]?) → TrV Wf au nu cu l
theorem GrS.keep {w W W' : World} {base m4 m7 : Nat} {l : List En} {v : Value} (h : GrS w base m4 m7 l v W) (hb : Below W.heap.size W W') : GrS w base m4 m7 l v W' :=
  ⟨below_stepE h.low h.low.size hb, Nat.le_trans h.big hb.size, h.res.call hb, h.row.keep hb, by
    obtain ⟨au, nu, cu, h1, h2⟩ := h.tree
    exact ⟨au, nu, cu, h1.call hb, fun Wf hWf => h2 Wf (fun b g1 g2 => (hWf b g1 (Nat.lt_of_lt_of_le g2 hb.size)).trans (hb.block b g2))⟩⟩
/-- The tree's variable is written anew. -/
theorem GrS.next {w Wr : World} {m4 n0 : Nat} {l l' : List En} {v v' : Value} (h : GrS w (m4 + 2) m4 (m4 + 1) l v Wr) (hw : w.heap.size = m4) (hn : m4 + 2 ≤ n0) (ho : OwnPr Wr n0 v' l') (a : Option Addr) (n c : Nat) (ht : ∀ Wf : World, (∀ b, m4 + 2 ≤ b → b < Wr.heap.size → Wf.heap[b]? = Wr.heap[b]?) → TrV Wf a n c l') :
    GrS w (m4 + 2) m4 (m4 + 1) l' v' (Wr.setCell ⟨m4 + 1, 0, none⟩ (.slice a n c)) := by
  obtain ⟨au, nu, cu, h1, -⟩ := h.tree
  have hsz : (Wr.setCell ⟨m4 + 1, 0, none⟩ (.slice a n c)).heap.size = Wr.heap.size := by simp [World.setCell]
  refine ⟨h.low.setCell (p := ⟨m4 + 1, 0, none⟩) (by rw [hw]; exact Nat.le_succ _) _, by rw [hsz]; exact h.big, h.res.other _ _ (by show m4 ≠ m4 + 1; omega), owns_same (owns_base ho hn) (fun b e => heap_setCell_other Wr _ b _ ?_), a, n, c, h1.set 0 _, fun Wf hWf => ht Wf (fun b g1 g2 => ?_)⟩
  · have := (ho.lt b e).1
    show b ≠ m4 + 1
    omega
  · rw [hWf b g1 (by rw [hsz]; exact g2), heap_setCell_other Wr ⟨m4 + 1, 0, none⟩ b _ (by show b ≠ m4 + 1; omega)]
/-- The result's variable is written. -/
theorem GrS.done {w Wr : World} {m4 : Nat} {l : List En} {v : Value} (h : GrS w (m4 + 2) m4 (m4 + 1) l v Wr) (hw : w.heap.size = m4) (a : Option Addr) (n c : Nat) (ht : ∀ Wf : World, (∀ b, m4 + 2 ≤ b → b < Wr.heap.size → Wf.heap[b]? = Wr.heap[b]?) → TrV Wf a n c l) :
    TrV (Wr.setCell ⟨m4, 0, none⟩ (.slice a n c)) a n c l ∧ OwnPr (Wr.setCell ⟨m4, 0, none⟩ (.slice a n c)) w.heap.size v l ∧ Blk (Wr.setCell ⟨m4, 0, none⟩ (.slice a n c)) m4 24 [.slice a n c] ∧ Below w.heap.size w (Wr.setCell ⟨m4, 0, none⟩ (.slice a n c)) := by
  refine ⟨ht _ (fun b g1 g2 => heap_setCell_other Wr ⟨m4, 0, none⟩ b _ (by show b ≠ m4; omega)), owns_same (owns_base h.row (by omega)) (fun b e => heap_setCell_other Wr _ b _ ?_), h.res.set 0 _, h.low.setCell (p := ⟨m4, 0, none⟩) (by rw [hw]; exact Nat.le_refl _) _⟩
  have := (h.row.lt b e).1
  show b ≠ m4
  omega
end Go.Proofs.Ytopgakdgifmecaa

/-! CONTRACT of chirographkeep's grown. CONDITIONS: each theorem's own hypotheses. -/
namespace Go.Proofs.Ytopgakdgifmecaa
open Go.RowKit
set_option linter.unusedVariables false
set_option maxRecDepth 100000

/-- The bytes of a raw thing's key. -/
theorem keyR_bytes (r : R) : ∃ c5 c6 : Int, IntKind.u8.wrap (r.a % 5) = r.a % 5 ∧ IntKind.u8.wrap (r.b % 6) = r.b % 6 ∧ IntKind.u8.wrap (97 + r.a % 5) = c5 ∧ IntKind.u8.wrap (97 + r.b % 6) = c6 ∧
    ∀ (W : World) (k : Nat), Blk W k 5 [.int .u8 c5, .int .u8 c6] → (convert 55 9 (.slice (some ⟨k, 0, none⟩) 2 2)).run Try.prog W = .ok (.string (str (keyR r))) W := by
  have hw : ∀ z : Int, 0 ≤ z → z ≤ 255 → IntKind.u8.wrap z = z := fun z h0 h9 => by
    unfold IntKind.wrap
    simp [IntKind.bits, IntKind.signed]
    omega
  refine ⟨((97 + (r.a % 5).toNat).toUInt8.toNat : Int), ((97 + (r.b % 6).toNat).toUInt8.toNat : Int), hw _ (by omega) (by omega), hw _ (by omega) (by omega), ?_, ?_, fun W k h => ?_⟩
  · rw [hw _ (by omega) (by omega)]
    simp; omega
  · rw [hw _ (by omega) (by omega)]
    simp; omega
  · exact run_convert_bytes_back (P := Try.prog) _ 55 9 5 ⟨k, 0, none⟩ 2 (keyR r) Try.underlying55 Try.underlying5 Try.underlying9 (fun j hj => by
      rcases (show j = 0 ∨ j = 1 by simp [keyR] at hj; omega) with rfl | rfl
      · exact h.cell (j := 0) rfl
      · exact h.cell (j := 1) rfl)
def KyF (m11 : Nat) (ra rb x5 x6 c5 c6 : Int) (key : List UInt8) : Nat → Value → World → Prop
  | 0, v, _ => v = .pointer (some ⟨m11, 1, none⟩)
  | 1, v, _ => v = .int .i64 ra
  | 2, v, _ => v = .int .i64 x5
  | 3, v, _ => v = .int .u8 x5
  | 4, v, _ => v = .int .u8 c5
  | 5, v, _ => v = .pointer (some ⟨m11, 2, none⟩)
  | 6, v, _ => v = .int .i64 rb
  | 7, v, _ => v = .int .i64 x6
  | 8, v, _ => v = .int .u8 x6
  | 9, v, _ => v = .int .u8 c6
  | 10, v, w => ∃ k : Nat, v = .slice (some ⟨k, 0, none⟩) 2 2 ∧ Blk w k 5 [.int .u8 c5, .int .u8 c6]
  | 11, v, _ => v = .string (str key)
  | _, _, _ => True
theorem kyF_keep {m11 : Nat} {ra rb x5 x6 c5 c6 : Int} {key : List UInt8} (i : Nat) (v : Value) (w w' : World) (h : KyF m11 ra rb x5 x6 c5 c6 key i v w) (he : Below w.heap.size w w') : KyF m11 ra rb x5 x6 c5 c6 key i v w' := by
  unfold KyF at *
  split at h <;> (try exact h) <;> (try exact trivial)
  · obtain ⟨k, h1, h2⟩ := h; exact ⟨k, h1, h2.call he⟩
def Gr16F (base : Nat) (av : Option Addr) (LQ cv i : Nat) (lq : List En) : Nat → Nat → Value → World → Prop
  | s, 0, v, w => s = 1 → OwnPr w base v []
  | _, 1, v, _ => v = .slice av LQ cv
  | _, 2, v, _ => v = .int .i64 (i : Int)
  | _, 3, v, _ => v = sliced av 0 i cv 2
  | s, 4, v, w => s = 2 → OwnPr w base v (lq.take i)
  | _, 5, v, _ => v = .slice av LQ cv
  | _, 6, v, _ => v = .int .i64 (i : Int)
  | _, 7, v, _ => v = .int .i64 ((i + 1 : Nat) : Int)
  | _, 8, v, _ => v = sliced av (i + 1) LQ cv 2
  | s, 9, v, w => s = 3 → OwnPr w base v (lq.take i ++ lq.drop (i + 1))
  | _, _, _, _ => True
def Gr22F (base : Nat) (av : Option Addr) (LQ cv i m11 : Nat) (lq : List En) (key : List UInt8) (ra : Int) (v17 : Value) (R : List En) : Nat → Nat → Value → World → Prop
  | _, 0, v, _ => v = .slice av LQ cv
  | _, 1, v, _ => v = .int .i64 (i : Int)
  | _, 2, v, _ => v = .int .i64 (i : Int)
  | _, 3, v, _ => v = sliced av 0 i i 2
  | _, 4, v, _ => v = .string (str key)
  | _, 5, v, _ => v = .pointer (some ⟨m11, 1, none⟩)
  | _, 6, v, _ => v = .int .i64 ra
  | _, 7, v, _ => v = .agg #[.string (str key), .int .i64 ra]
  | s, 8, v, w => s = 1 → ∃ g, v = .slice (some ⟨g, 0, none⟩) 1 1 ∧ Blk w g 57 (cellsE1 (key, ra))
  | s, 9, v, w => s = 2 → OwnPr w base v (lq.take i ++ [(key, ra)])
  | _, 10, v, _ => v = v17
  | s, 11, v, w => s = 3 → OwnPr w base v ((lq.take i ++ [(key, ra)]) ++ R)
  | _, _, _, _ => True
set_option maxHeartbeats 16000000 in
theorem grown_any (rs : List R) (ao : Option Addr) (cap m : Nat) (M : Int) (hM : M = m) (w : World) (hn : rs.length ≤ cap) (hc : cap ≤ 9223372036854775807) (hm : m ≤ 60) (hR : Raws w ao rs) :
    Calls Try.prog 24 #[.slice ao rs.length cap, .int .i64 M] w fun e w' => ∃ au nu cu v, e = .returned (.tuple #[.agg #[.slice au nu cu], v, .bool true]) ∧ TrV w' au nu cu (growL (rs.take m)) ∧ OwnPr w' w.heap.size v (growL (rs.take m)) ∧ Below w.heap.size w w' := by
  have cS := fun W => someT_any ao rs.length cap m M hM W hn (by omega) (by omega)
  obtain ⟨qs, hqs⟩ : ∃ l, rs.take m = l := ⟨_, rfl⟩
  have hRq := hR.take m
  rw [hqs] at hRq ⊢
  obtain ⟨N, hN⟩ : ∃ N, qs.length = N := ⟨_, rfl⟩
  have hNm : min rs.length m = N := by rw [← hN, ← hqs, List.length_take, Nat.min_comm]
  rw [hNm] at cS
  have hN60 : N ≤ 60 := by omega
  have hNc : N ≤ cap := by omega
  have z0 : Blk _ _ _ [_] := Blk.new w #[.slice none 0 0] 24
  have hb0 := (Below.refl w.heap.size w).alloc (Nat.le_refl _) (.cells #[.slice none 0 0] 24)
  have hs0 : (w.alloc (.cells #[.slice none 0 0] 24)).heap.size = w.heap.size + 1 := by simp
  obtain ⟨w0, hw0⟩ : ∃ W, w.alloc (.cells #[.slice none 0 0] 24) = W := ⟨_, rfl⟩
  rw [hw0] at z0 hb0 hs0
  obtain ⟨m4, hm4⟩ : ∃ x, w.heap.size = x := ⟨_, rfl⟩
  have z1 : Blk _ _ _ [_] := Blk.new w0 #[.slice none 0 0] 24
  have hb1 := (Below.refl w0.heap.size w0).alloc (Nat.le_refl _) (.cells #[.slice none 0 0] 24)
  have hs1 : (w0.alloc (.cells #[.slice none 0 0] 24)).heap.size = w0.heap.size + 1 := by simp
  obtain ⟨w1, hw1⟩ : ∃ W, w0.alloc (.cells #[.slice none 0 0] 24) = W := ⟨_, rfl⟩
  rw [hw1] at z1 hb1 hs1
  have hm7 : w0.heap.size = m4 + 1 := by omega
  rw [hm4] at z0
  rw [hm7] at z1
  have HS0 : Hid (GrS w (m4 + 2) m4 (m4 + 1) (growL (qs.take 0)) (.slice none 0 0) w1) := Lib.hid ⟨below_stepE hb0 hb0.size hb1, by omega, z0.call hb1, OwnPr.nil _ _, none, 0, 0, z1, fun _ _ => TrV.nil _⟩
  have HW0 := Lib.hid hw0
  have HW1 := Lib.hid hw1
  have HM4 := Lib.hid hm4
  have HM7 := Lib.hid hm7
  have HQ : Hid (qs.length = N ∧ N ≤ 60) := Lib.hid ⟨hN, hN60⟩
  have HRC : Hid (∀ j, j < N → ∃ r g o, qs[j]? = some r ∧ r.Fits ∧ ao = some ⟨g, o, none⟩ ∧ g < w.heap.size ∧ w.cell? ⟨g, o + j * 4, none⟩ = some (.int .i64 r.k) ∧ w.cell? ⟨g, o + j * 4 + 1, none⟩ = some (.int .i64 r.a) ∧ w.cell? ⟨g, o + j * 4 + 2, none⟩ = some (.int .i64 r.b) ∧ w.cell? ⟨g, o + j * 4 + 3, none⟩ = some (.string r.s)) := Lib.hid (fun j hj => by
    have hx : qs[j]? = some (qs[j]'(by omega)) := List.getElem?_eq_getElem _
    rcases hRq.2 with h | ⟨g, o, e, h1, h2⟩
    · rw [h] at hN; simp at hN; omega
    · exact ⟨_, g, o, hx, hRq.1 _ (List.mem_of_getElem? hx), e, h1, h2 j _ hx⟩)
  clear hqs hRq hNm hR z0 hb0 hs0 hw0 hm4 z1 hb1 hs1 hw1 hm7 hN hn hM
  generalize rs.length = RN at *
  go_enter Try.func24, Try.ntmps24
  go_upto_region 1 with fail
  rw [HM4.out, HW0.out]
  go_upto_region 2 with fail
  rw [HM7.out, HW1.out]
  go_wp2_with fail
  refine (cS _).mono ?_
  rintro e w1 ⟨rfl, rfl⟩
  clear cS
  go_wp2_with fail
  go_loopw [8, 9, 23] (fun v8 v9 ix wr => ∃ (j : Nat), j ≤ N ∧ ix = .int .i64 j ∧ v9 = .bool true ∧ Hid (GrS w (m4 + 2) m4 (m4 + 1) (growL (qs.take j)) v8 wr)) (fun _ _ ix _ => N - (intOf ix).toNat)
  case atStart => exact ⟨0, Nat.zero_le _, rfl, rfl, HS0⟩
  case round =>
    obtain ⟨j, hj, rfl, rfl, hS⟩ := hrel
    by_cases hlt : j < N
    · have iI : (j : Int) < (N : Int) := by omega
      obtain ⟨r, g, o, hmj, hfit, rfl, hgl, x0, x1, x2, x3⟩ := HRC.out j hlt
      have hlow := hS.out.low
      have d0 := (hlow.cell (p := ⟨g, _, none⟩) hgl).trans x0
      have d1 := (hlow.cell (p := ⟨g, _, none⟩) hgl).trans x1
      have d2 := (hlow.cell (p := ⟨g, _, none⟩) hgl).trans x2
      have d3 := (hlow.cell (p := ⟨g, _, none⟩) hgl).trans x3
      have z11 : Blk _ _ _ [_, _, _, _] := Blk.new wr #[.int .i64 r.k, .int .i64 r.a, .int .i64 r.b, .string r.s] 53
      have hb11 := (Below.refl wr.heap.size wr).alloc (Nat.le_refl _) (.cells #[.int .i64 r.k, .int .i64 r.a, .int .i64 r.b, .string r.s] 53)
      obtain ⟨wa, hwa⟩ : ∃ W, wr.alloc (.cells #[.int .i64 r.k, .int .i64 r.a, .int .i64 r.b, .string r.s] 53) = W := ⟨_, rfl⟩
      rw [hwa] at z11 hb11
      obtain ⟨m11, hm11⟩ : ∃ x, wr.heap.size = x := ⟨_, rfl⟩
      rw [hm11] at z11
      obtain ⟨c5, c6, t1, t2, t3, t4, hcv⟩ := keyR_bytes r
      have hkey : growL (qs.take (j + 1)) = growS (growL (qs.take j)) r := growL_snoc qs j r hmj
      have CP5 := fun W => picked_any r.a 5 W (by decide) (by decide) hfit.a0 hfit.a1
      have CP6 := fun W => picked_any r.b 6 W (by decide) (by decide) hfit.b0 hfit.b1
      have CP4 := fun W => picked_any r.k 4 W (by decide) (by decide) hfit.k0 hfit.k1
      obtain ⟨x5, hx5⟩ : ∃ x, r.a % 5 = x := ⟨_, rfl⟩
      obtain ⟨x6, hx6⟩ : ∃ x, r.b % 6 = x := ⟨_, rfl⟩
      obtain ⟨x4, hx4⟩ : ∃ x, r.k % 4 = x := ⟨_, rfl⟩
      rw [hx5] at t1 t3 CP5
      rw [hx6] at t2 t4 CP6
      rw [hx4] at CP4
      have b5 : 0 ≤ x5 ∧ x5 < 5 := by omega
      have b6 : 0 ≤ x6 ∧ x6 < 6 := by omega
      obtain ⟨key, hky⟩ : ∃ k, keyR r = k := ⟨_, rfl⟩
      rw [hky] at hcv
      unfold growS at hkey
      rw [hky, hx4] at hkey
      have HKEY := Lib.hid hkey
      have HKL : Hid (key.length ≤ 60) := Lib.hid (by rw [← hky]; simp [keyR])
      have HFA : Hid (I64 r.a) := Lib.hid ⟨hfit.a0, hfit.a1⟩
      have HCV := Lib.hid hcv
      have HZ11 := Lib.hid z11
      have HB11 := Lib.hid hb11
      have HWA := Lib.hid hwa
      have HM11 := Lib.hid hm11
      have HC11 : Hid (∀ W, Below wa.heap.size wa W → W.cell? ⟨m11, 0, none⟩ = some (.int .i64 r.k) ∧ W.cell? ⟨m11, 1, none⟩ = some (.int .i64 r.a) ∧ W.cell? ⟨m11, 2, none⟩ = some (.int .i64 r.b) ∧ W.cell? ⟨m11, 3, none⟩ = some (.string r.s)) := Lib.hid (fun W hW => by
        have := z11.call hW
        exact ⟨this.cell (j := 0) rfl, this.cell (j := 1) rfl, this.cell (j := 2) rfl, this.cell (j := 3) rfl⟩)
      clear hlow x0 x1 x2 x3 z11 hb11 hwa hm11 hcv hkey hx5 hx6 hx4 hky hfit hmj
      generalize r.a = ra at *
      generalize r.b = rb at *
      generalize r.k = rk at *
      go_upto_region 5 with fail
      rw [HWA.out, HM11.out]
      clear d0 d1 d2 d3
      refine wp_region_facts' 12 (by kernel_rfl) (by kernel_rfl) (KyF m11 ra rb x5 x6 c5 c6 key) (fun W => Below wa.heap.size wa W) (fun W W' => Below W.heap.size W W') ?hC ?hF ?h0 ?hstep ?hdone
      case hC => exact fun W W' hc he => below_stepE hc hc.size he
      case hF => exact kyF_keep
      case h0 => exact (Below.refl _ _).drew
      case hstep =>
        intro i hi vs act W K ha' hc hd hu hK
        simp only [fillF, Act.put, List.take_succ_cons, List.take_zero, List.setIfInBounds_toArray, List.set_cons_zero, List.set_cons_succ] at ha'
        subst ha'
        clear hu
        rcases (show i = 0 ∨ i = 1 ∨ i = 2 ∨ i = 3 ∨ i = 4 ∨ i = 5 ∨ i = 6 ∨ i = 7 ∨ i = 8 ∨ i = 9 ∨ i = 10 ∨ i = 11 by omega) with rfl | rfl | rfl | rfl | rfl | rfl | rfl | rfl | rfl | rfl | rfl | rfl
        · refine wpOp_step rfl (fun K' hK' => ?_)
          go_simp
          exact hK' _ _ (hK _ _ rfl (Below.refl _ _))
        · have e0 : vs 0 = .pointer (some ⟨m11, 1, none⟩) := hd 0 (by kernel_rfl)
          simp only [e0] at hK ⊢
          obtain ⟨q0, q1, q2, q3⟩ := HC11.out W hc
          refine wpOp_step rfl (fun K' hK' => ?_)
          go_simp
          exact hK' _ _ (hK _ _ rfl (Below.refl _ _))
        · have e1 : vs 1 = .int .i64 ra := hd 1 (by kernel_rfl)
          simp only [e1] at hK ⊢
          refine wpOp_step rfl (fun K' hK' => ?_)
          go_simp
          refine (CP5 _).mono ?_
          rintro e w' ⟨rfl, rfl⟩
          exact hK' _ _ (hK _ _ rfl (Below.refl _ _))
        · have e2 : vs 2 = .int .i64 x5 := hd 2 (by kernel_rfl)
          simp only [e2] at hK ⊢
          refine wpOp_step rfl (fun K' hK' => ?_)
          go_simp
          exact hK' _ _ (hK _ _ rfl (Below.refl _ _))
        · have e3 : vs 3 = .int .u8 x5 := hd 3 (by kernel_rfl)
          simp only [e3] at hK ⊢
          refine wpOp_step rfl (fun K' hK' => ?_)
          go_simp
          exact hK' _ _ (hK _ _ rfl (Below.refl _ _))
        · refine wpOp_step rfl (fun K' hK' => ?_)
          go_simp
          exact hK' _ _ (hK _ _ rfl (Below.refl _ _))
        · have e5 : vs 5 = .pointer (some ⟨m11, 2, none⟩) := hd 5 (by kernel_rfl)
          simp only [e5] at hK ⊢
          obtain ⟨q0, q1, q2, q3⟩ := HC11.out W hc
          refine wpOp_step rfl (fun K' hK' => ?_)
          go_simp
          exact hK' _ _ (hK _ _ rfl (Below.refl _ _))
        · have e6 : vs 6 = .int .i64 rb := hd 6 (by kernel_rfl)
          simp only [e6] at hK ⊢
          refine wpOp_step rfl (fun K' hK' => ?_)
          go_simp
          refine (CP6 _).mono ?_
          rintro e w' ⟨rfl, rfl⟩
          exact hK' _ _ (hK _ _ rfl (Below.refl _ _))
        · have e7 : vs 7 = .int .i64 x6 := hd 7 (by kernel_rfl)
          simp only [e7] at hK ⊢
          refine wpOp_step rfl (fun K' hK' => ?_)
          go_simp
          exact hK' _ _ (hK _ _ rfl (Below.refl _ _))
        · have e8 : vs 8 = .int .u8 x6 := hd 8 (by kernel_rfl)
          simp only [e8] at hK ⊢
          refine wpOp_step rfl (fun K' hK' => ?_)
          go_simp
          exact hK' _ _ (hK _ _ rfl (Below.refl _ _))
        · have e4 : vs 4 = .int .u8 c5 := hd 4 (by kernel_rfl)
          have e9 : vs 9 = .int .u8 c6 := hd 9 (by kernel_rfl)
          simp only [e4, e9] at hK ⊢
          refine wpOp_step rfl (fun K' hK' => ?_)
          go_simp
          exact hK' _ _ (hK _ _ ⟨_, rfl, Blk.new W _ _⟩ ((Below.refl _ _).alloc (Nat.le_refl _) _))
        · obtain ⟨k10, e10, y10⟩ := hd 10 (by kernel_rfl)
          simp only [e10] at hK ⊢
          have hcv := HCV.out W k10 y10
          refine wpOp_step rfl (fun K' hK' => ?_)
          go_simp
          exact hK' _ _ (hK _ _ rfl (Below.refl _ _))
      case hdone =>
        intro vs act W4 ha' hst hfs
        simp only [fillF, Act.put, List.take_succ_cons, List.take_zero, List.drop_succ_cons, List.drop_zero, List.setIfInBounds_toArray, List.set_cons_zero, List.set_cons_succ] at ha' ⊢
        subst ha'
        have f11 : vs 11 = .string (str key) := hfs 11 (by decide)
        simp only [Nat.zero_add, Nat.reduceAdd, f11]
        clear hfs f11
        have HS4 := Lib.hid (hS.out.keep (below_stepE HB11.out HB11.out.size hst))
        have HZ4 := Lib.hid (HZ11.out.call hst)
        obtain ⟨lq, hlq⟩ : ∃ l, growL (qs.take j) = l := ⟨_, rfl⟩
        rw [hlq] at HS4 HKEY
        have hrise : RiseE lq := by rw [← hlq]; exact growL_rise _
        have hlen : lq.length ≤ 60 := by
          rw [← hlq]
          have h1 := growL_len (qs.take j)
          rw [List.length_take] at h1
          have := HQ.out
          omega
        obtain ⟨av, cv, ev, -⟩ := owns_shape HS4.out.row
        obtain ⟨LQ, hLQ⟩ : ∃ x, lq.length = x := ⟨_, rfl⟩
        rw [hLQ] at ev hlen
        subst ev
        have hpl := is_place lq key hrise
        obtain ⟨ip, hip⟩ : ∃ x, plI lq key = x := ⟨_, rfl⟩
        obtain ⟨fp, hfp⟩ : ∃ x, plF lq key = x := ⟨_, rfl⟩
        rw [hip, hfp] at hpl
        have hiL : ip ≤ LQ := by rw [← hLQ]; exact hpl.le
        have HCL : Hid (∀ i, i < LQ → ∃ ki xi gv, lq[i]? = some (ki, xi) ∧ av = some ⟨gv, 0, none⟩ ∧ W4.cell? ⟨gv, i * 2, none⟩ = some (.string (str ki)) ∧ W4.cell? ⟨gv, i * 2 + 1, none⟩ = some (.int .i64 xi)) := Lib.hid (fun i hi => by
          have h1 : lq[i]? = some (lq[i]'(by omega)) := List.getElem?_eq_getElem _
          have hr := HS4.out.row
          rw [← hLQ] at hr
          obtain ⟨gv, h2, -, -, h4, h5⟩ := hr.cell h1
          exact ⟨_, _, gv, h1, h2, h4, h5⟩)
        have HPL := Lib.hid hpl
        have HRI := Lib.hid (And.intro hrise (And.intro hLQ (And.intro hip hfp)))
        have HC1 : Hid (∀ W, Below W4.heap.size W4 W → W.cell? ⟨m11, 1, none⟩ = some (.int .i64 ra)) := Lib.hid (fun W h => (HC11.out W (below_stepE hst hst.size h)).2.1)
        clear hst hS hlq hrise hLQ hpl hip hfp HB11 HWA HM11 HC11 HZ11
        go_wp2_with fail
        go_loopw [13] (fun ix wq => ∃ (i : Nat), i ≤ ip ∧ ix = .int .i64 i ∧ wq = W4) (fun ix _ => 100 - (intOf ix).toNat)
        case atStart => exact ⟨0, Nat.zero_le _, rfl, rfl⟩
        case round =>
          obtain ⟨i, hi, rfl, hwr⟩ := hrel
          obtain rfl := hwr.symm
          by_cases hlt2 : i < ip
          · have iL : (i : Int) < (LQ : Int) := by omega
            have i0 : (0 : Int) ≤ (i : Int) := by omega
            obtain ⟨ki, xi, gv, g1, rfl, g2, g3⟩ := HCL.out i (by omega)
            have g4 : Op.bytesLess (str ki).toList (str key).toList = true := HPL.out.lo i _ hlt2 g1
            clear g1
            go_wp2_with fail
            go_roundw
            case rel => exact ⟨i + 1, by omega, by go_num, by first | rfl | trivial⟩
            case measure => simp [intOf]; omega
          · obtain rfl : i = ip := by omega
            by_cases hq : i < LQ
            · have iL : (i : Int) < (LQ : Int) := by omega
              have i0 : (0 : Int) ≤ (i : Int) := by omega
              obtain ⟨ki, xi, gv, g1, rfl, g2, g3⟩ := HCL.out i hq
              have g4 : Op.bytesLess (str ki).toList (str key).toList = false := HPL.out.hi i _ (Nat.le_refl _) g1
              have g5 : ((str ki).toList == (str key).toList) = fp := by
                have := HPL.out.fd
                rw [g1] at this
                simp only [cmpS_zero] at this
                rw [str_ne, this]
              have HKI := Lib.hid g1
              clear g1
              go_upto_region 10 with fail
              obtain ⟨au, nu, cu, hz7, hT7⟩ := HS4.out.tree
              have q7 := hz7.cell (j := 0) rfl
              have z15 : Blk _ _ _ [_] := Blk.new W4 #[.slice au nu cu] 24
              have hb15 := (Below.refl W4.heap.size W4).alloc (Nat.le_refl _) (.cells #[.slice au nu cu] 24)
              obtain ⟨W5, hW5⟩ : ∃ W, W4.alloc (.cells #[.slice au nu cu] 24) = W := ⟨_, rfl⟩
              rw [hW5] at z15 hb15
              obtain ⟨m15, hm15⟩ : ∃ x, W4.heap.size = x := ⟨_, rfl⟩
              rw [hm15] at z15
              have cCut := treeCut_tr au nu cu lq key W5 (hT7 W5 (fun b _ h => hb15.block b h))
              have hany : lq.any (fun e => e.1 == key) = fp := by rw [any_place lq key HRI.out.1]; exact HRI.out.2.2.2
              rw [hany] at cCut
              have q8 := (HZ4.out.call hb15).cell (j := 0) rfl
              have q9 := (hz7.call hb15).cell (j := 0) rfl
              have hpl0 : ¬ 100 < (putR key ra lq).length := by
                rw [putR_len key ra lq HRI.out.1, HRI.out.2.1]
                split <;> omega
              have cPut := treePut_tr au nu cu lq key ra W5 (hT7 W5 (fun b _ h => hb15.block b h)) HKL.out HFA.out
              rw [if_neg hpl0] at cPut
              have HPL0 := Lib.hid hpl0
              have y11 := HC1.out W5 hb15
              have HW5 := Lib.hid hW5
              have HM15 := Lib.hid hm15
              have HZ15 := Lib.hid z15
              have HB15 := Lib.hid hb15
              have HZ7 := Lib.hid hz7
              clear hz7 hT7 z15 hb15 hW5 hm15 hany hpl0
              go_upto_region 11 with fail
              rw [HW5.out, HM15.out]
              clear q7
              by_cases hx4 : x4 = 0
              · subst hx4
                clear cPut y11
                go_wp2_with fail
                refine (CP4 _).mono ?_
                rintro e w8 ⟨rfl, rfl⟩
                go_wp2_with fail
                refine cCut.mono ?_
                rintro e W6 ⟨a6, n6, c6', rfl, hg6, hb6⟩
                have hb46 := below_stepE HB15.out HB15.out.size hb6
                have hz6 := HZ15.out.call hb6
                have q0 := hz6.cell (j := 0) rfl
                have q1 := hz6.free 0
                have HB47 : Hid (Below W4.heap.size W4 (W6.setCell ⟨m15, 0, none⟩ (.slice a6 n6 c6'))) := Lib.hid (hb46.setCell (p := ⟨m15, 0, none⟩) (by rw [HM15.out]; exact Nat.le_refl _) _)
                have HZ16 : Hid (Blk (W6.setCell ⟨m15, 0, none⟩ (.slice a6 n6 c6')) m15 24 [.slice a6 n6 c6']) := Lib.hid (hz6.set 0 (.slice a6 n6 c6'))
                have HG6 := Lib.hid hg6
                have HB6 := Lib.hid hb6
                clear cCut hb46 hz6 hg6 hb6
                cases fp
                · have HN : Hid (GrS w (m4 + 2) m4 (m4 + 1) (growL (qs.take (j + 1))) (.slice (some ⟨gv, 0, none⟩) LQ cv) (W6.setCell ⟨m15, 0, none⟩ (.slice a6 n6 c6'))) := Lib.hid (by
                    rw [HKEY.out, if_pos (by first | rfl | trivial), cutR_place lq key HRI.out.1, HRI.out.2.2.2]
                    exact HS4.out.keep HB47.out)
                  go_wp2_with fail
                  go_roundw
                  case rel => exact ⟨j + 1, by omega, by go_num, rfl, HN⟩
                  case measure => simp [intOf]; omega
                · have hT6 : Hid (∀ Wf : World, (∀ b, m15 < b → b < W6.heap.size → Wf.heap[b]? = W6.heap[b]?) → TrV Wf a6 n6 c6' (cutR key lq)) := Lib.hid (fun Wf h => HG6.out rfl Wf (fun b h1 h2 => h b (by rw [← HW5.out] at h1; simp at h1; rw [HM15.out] at h1; omega) h2))
                  have HSX := Lib.hid (HS4.out.keep HB47.out)
                  have hX1 : (W6.setCell ⟨m15, 0, none⟩ (.slice a6 n6 c6')).heap.size = W6.heap.size := by simp [World.setCell]
                  have hX2 : ∀ b, m15 < b → (W6.setCell ⟨m15, 0, none⟩ (.slice a6 n6 c6')).heap[b]? = W6.heap[b]? := fun b hb => heap_setCell_other W6 ⟨m15, 0, none⟩ b _ (by show b ≠ m15; omega)
                  have HX1 := Lib.hid hX1
                  have HX2 := Lib.hid hX2
                  clear hX1 hX2
                  go_upto_region 16 with fail
                  obtain ⟨WX, hWX⟩ : ∃ W, W6.setCell ⟨m15, 0, none⟩ (.slice a6 n6 c6') = W := ⟨_, rfl⟩
                  rw [hWX] at HSX HZ16 HX1 HX2 ⊢
                  clear hWX HB47 HG6 HB6
                  have HROW := Lib.hid HSX.out.row
                  obtain ⟨n0, hn0⟩ : ∃ n, WX.heap.size = n := ⟨_, rfl⟩
                  have HN0 : Hid (n0 = WX.heap.size) := Lib.hid hn0.symm
                  clear hn0
                  obtain ⟨av, hav⟩ : ∃ a : Option Addr, some ⟨gv, 0, none⟩ = a := ⟨_, rfl⟩
                  have hsh := owns_shape HROW.out
                  obtain ⟨ao', cap', hv', hlc, -⟩ := hsh
                  simp only [Value.slice.injEq] at hv'
                  obtain ⟨-, -, rfl⟩ := hv'
                  rw [HRI.out.2.1] at hlc
                  have hicv : i ≤ cv := by omega
                  have hi1 : i + 1 ≤ LQ := by omega
                  have HWI : Hid (IntKind.i64.wrap ((i : Int) + 1) = ((i + 1 : Nat) : Int)) := Lib.hid (by rw [IntKind.wrap_i64]; omega)
                  rw [hav] at HROW HSX ⊢
                  refine wp_region_chain2 10 [0, 4, 9] (by kernel_rfl) (by kernel_rfl) (by kernel_rfl) (Gr16F n0 av LQ cv i lq) (fun _ W => Below WX.heap.size WX W) (fun _ W W' => Below n0 W W') ?hF ?h0 ?hstep ?hcall ?hdone
                  case hF =>
                    intro s i hs j v W W' hjn hne hpb h he
                    rcases (show j = 0 ∨ j = 1 ∨ j = 2 ∨ j = 3 ∨ j = 4 ∨ j = 5 ∨ j = 6 ∨ j = 7 ∨ j = 8 ∨ j = 9 by omega) with rfl | rfl | rfl | rfl | rfl | rfl | rfl | rfl | rfl | rfl
                    · intro e
                      obtain rfl : s = 0 := by omega
                      exact absurd (by simpa using hs) hne
                    · exact h
                    · exact h
                    · exact h
                    · intro e
                      obtain rfl : s = 1 := by omega
                      exact absurd (by simpa using hs) hne
                    · exact h
                    · exact h
                    · exact h
                    · exact h
                    · intro e
                      obtain rfl : s = 2 := by omega
                      exact absurd (by simpa using hs) hne
                  case h0 => exact Below.drew (Below.refl _ _)
                  case hstep =>
                    intro j hj hni s vs act W K ha' hst hd hu hK
                    simp only [fillF, Act.put, List.take_succ_cons, List.take_zero, List.setIfInBounds_toArray, List.set_cons_zero, List.set_cons_succ] at ha'
                    subst ha'
                    clear hu
                    rcases (show j = 0 ∨ j = 1 ∨ j = 2 ∨ j = 3 ∨ j = 4 ∨ j = 5 ∨ j = 6 ∨ j = 7 ∨ j = 8 ∨ j = 9 by omega) with rfl | rfl | rfl | rfl | rfl | rfl | rfl | rfl | rfl | rfl
                    · exact (hni (by decide)).elim
                    · refine wpOp_step rfl (fun K' hK' => ?_)
                      go_simp
                      exact hK' _ _ (hK _ rfl)
                    · refine wpOp_step rfl (fun K' hK' => ?_)
                      go_simp
                      exact hK' _ _ (hK _ rfl)
                    · have e1 : vs 1 = .slice av LQ cv := hd 1 (by kernel_rfl)
                      have e2 : vs 2 = .int .i64 (i : Int) := hd 2 (by kernel_rfl)
                      simp only [e1, e2] at hK ⊢
                      refine wpOp_step rfl (fun K' hK' => ?_)
                      simp only [Region.wanted]
                      exact wp_slice_hi (.tmp 84) (.tmp 85) rfl _ LQ cv i rfl rfl hicv (hK' _ _ (hK _ rfl))
                    · exact (hni (by decide)).elim
                    · refine wpOp_step rfl (fun K' hK' => ?_)
                      go_simp
                      exact hK' _ _ (hK _ rfl)
                    · refine wpOp_step rfl (fun K' hK' => ?_)
                      go_simp
                      exact hK' _ _ (hK _ rfl)
                    · have e6 : vs 6 = .int .i64 (i : Int) := hd 6 (by kernel_rfl)
                      simp only [e6] at hK ⊢
                      refine wpOp_step rfl (fun K' hK' => ?_)
                      go_simp
                      exact hK' _ _ (hK _ (by show _ = _; exact congrArg _ HWI.out))
                    · have e5 : vs 5 = .slice av LQ cv := hd 5 (by kernel_rfl)
                      have e7 : vs 7 = .int .i64 ((i + 1 : Nat) : Int) := hd 7 (by kernel_rfl)
                      simp only [e5, e7] at hK ⊢
                      refine wpOp_step rfl (fun K' hK' => ?_)
                      simp only [Region.wanted]
                      exact wp_slice_lo (.tmp 88) (.tmp 90) rfl _ LQ cv (i + 1) rfl rfl hi1 (hK' _ _ (hK _ rfl))
                    · exact (hni (by decide)).elim
                  case hcall =>
                    intro s j hs vs act W K ha' hst hd hK
                    simp only [fillF, Act.put, List.take_succ_cons, List.take_zero, List.setIfInBounds_toArray, List.set_cons_zero, List.set_cons_succ] at ha'
                    subst ha'
                    rcases s with _ | _ | _ | s
                    · obtain rfl : 0 = j := by simpa using hs
                      refine wpOp_step rfl (fun K' hK' => ?_)
                      go_simp
                      exact hK' _ _ (hK _ _ (fun _ => OwnPr.empty W n0 (by rw [HN0.out]; exact hst.size)) ((Below.refl n0 W).alloc (by rw [HN0.out]; exact hst.size) _) (hst.alloc hst.size _))
                    · obtain rfl : 4 = j := by simpa using hs
                      have c0 := hd 0 (by kernel_rfl)
                      have e3 : vs 3 = sliced av 0 i cv 2 := hd 3 (by kernel_rfl)
                      simp only [e3] at hK ⊢
                      refine wpOp_step rfl (fun K' hK' => ?_)
                      simp only [Region.wanted]
                      refine wp_append_vw (.tmp 83) (.tmp 86) rfl n0 _ [] rfl (c0 rfl) _ (lq.take i) rfl (by have := (HROW.out.keep hst).sl 0 i (Nat.zero_le _) (by omega); rw [List.drop_zero] at this; exact this) (by have := HRI.out.2.1; rw [List.length_take]; show 0 + _ ≤ _; omega) (by rw [HN0.out]; exact hst.size) ?_
                      intro v' w' h1 h2 h3
                      have hbb := (Below.refl n0 W).grown h2 (by rw [HN0.out]; exact hst.size) (fun b e => ((c0 rfl).lt b e).1)
                      refine hK' _ _ (hK _ _ (fun _ => h1) hbb ?_)
                      rw [HN0.out] at hbb
                      exact hst.trans hbb
                    · obtain rfl : 9 = j := by simpa using hs
                      have c4 := hd 4 (by kernel_rfl)
                      have e8 : vs 8 = sliced av (i + 1) LQ cv 2 := hd 8 (by kernel_rfl)
                      simp only [e8] at hK ⊢
                      refine wpOp_step rfl (fun K' hK' => ?_)
                      simp only [Region.wanted]
                      refine wp_append_vw (.tmp 87) (.tmp 91) rfl n0 _ (lq.take i) rfl (c4 rfl) _ (lq.drop (i + 1)) rfl (by have := (HROW.out.keep hst).sl (i + 1) LQ (by omega) (Nat.le_refl _); rw [List.take_of_length_le (by rw [HRI.out.2.1]; exact Nat.le_refl _)] at this; exact this) (by have := HRI.out.2.1; rw [List.length_take, List.length_drop]; omega) (by rw [HN0.out]; exact hst.size) ?_
                      intro v' w' h1 h2 h3
                      have hbb := (Below.refl n0 W).grown h2 (by rw [HN0.out]; exact hst.size) (fun b e => ((c4 rfl).lt b e).1)
                      refine hK' _ _ (hK _ _ (fun _ => h1) hbb ?_)
                      rw [HN0.out] at hbb
                      exact hst.trans hbb
                    · simp at hs
                  case hdone =>
                    intro vs act W ha' hst hf
                    simp only [fillF, Act.put, List.take_succ_cons, List.take_zero, List.drop_succ_cons, List.drop_zero, List.setIfInBounds_toArray, List.set_cons_zero, List.set_cons_succ] at ha' ⊢
                    subst ha'
                    have f9 := hf 9 (by decide) rfl
                    generalize vs 9 = v9 at f9 ⊢
                    clear hf
                    have HSW := HSX.out.keep hst
                    have y15 := HZ16.out.call hst
                    have y0 := y15.cell (j := 0) rfl
                    have y1 := hst.size
                    have hm415 : m4 + 1 < m15 := by have := HS4.out.big; rw [HM15.out] at this; omega
                    have HNX : Hid (GrS w (m4 + 2) m4 (m4 + 1) (growL (qs.take (j + 1))) v9 (W.setCell ⟨m4 + 1, 0, none⟩ (.slice a6 n6 c6'))) := Lib.hid (by
                      have hg : growL (qs.take (j + 1)) = lq.take i ++ lq.drop (i + 1) := by
                        rw [HKEY.out, if_pos (by first | rfl | trivial), cutR_place lq key HRI.out.1, HRI.out.2.2.2, if_pos rfl, HRI.out.2.2.1]
                        rfl
                      rw [hg]
                      refine HSW.next HM4.out (by rw [HN0.out]; exact HSX.out.big) f9 _ _ _ ?_
                      rw [← hg, HKEY.out, if_pos (by first | rfl | trivial)]
                      exact fun Wf hWf => hT6.out Wf (fun b h1 h2 => by
                        rw [hWf b (by omega) (Nat.lt_of_lt_of_le (by rw [HX1.out]; exact h2) hst.size), hst.block b (by rw [HX1.out]; exact h2), HX2.out b h1]))
                    obtain ⟨au7, nu7, cu7, z7, -⟩ := HSW.tree
                    have y7 := z7.cell (j := 0) rfl
                    have y8 := z7.free 0
                    clear HSW y15 z7 f9 hst y1
                    go_wp2_with fail
                    go_roundw
                    case rel => exact ⟨j + 1, by omega, by go_num, rfl, HNX⟩
                    case measure => simp [intOf]; omega
              · clear cCut
                cases fp
                · go_wp2_with fail
                  refine (CP4 _).mono ?_
                  rintro e w8 ⟨rfl, rfl⟩
                  go_wp2_with fail
                  refine cPut.mono ?_
                  rintro e W6 ⟨a6, n6, c6', rfl, hg6, hb6⟩
                  have hb46 := below_stepE HB15.out HB15.out.size hb6
                  have hz6 := HZ15.out.call hb6
                  have q0 := hz6.cell (j := 0) rfl
                  have q1 := hz6.free 0
                  have HB47 : Hid (Below W4.heap.size W4 (W6.setCell ⟨m15, 0, none⟩ (.slice a6 n6 c6'))) := Lib.hid (hb46.setCell (p := ⟨m15, 0, none⟩) (by rw [HM15.out]; exact Nat.le_refl _) _)
                  have HZ16 : Hid (Blk (W6.setCell ⟨m15, 0, none⟩ (.slice a6 n6 c6')) m15 24 [.slice a6 n6 c6']) := Lib.hid (hz6.set 0 (.slice a6 n6 c6'))
                  have HG6 := Lib.hid hg6
                  have HB6 := Lib.hid hb6
                  clear cPut hb46 hz6 hg6 hb6
                  clear q8 q9 y11
                  have hT6 : Hid (∀ Wf : World, (∀ b, m15 < b → b < W6.heap.size → Wf.heap[b]? = W6.heap[b]?) → TrV Wf a6 n6 c6' (putR key ra lq)) := Lib.hid (fun Wf h => HG6.out HPL0.out Wf (fun b h1 h2 => h b (by rw [← HW5.out] at h1; simp at h1; rw [HM15.out] at h1; omega) h2))
                  have HSX := Lib.hid (HS4.out.keep HB47.out)
                  have hX1 : (W6.setCell ⟨m15, 0, none⟩ (.slice a6 n6 c6')).heap.size = W6.heap.size := by simp [World.setCell]
                  have hX2 : ∀ b, m15 < b → (W6.setCell ⟨m15, 0, none⟩ (.slice a6 n6 c6')).heap[b]? = W6.heap[b]? := fun b hb => heap_setCell_other W6 ⟨m15, 0, none⟩ b _ (by show b ≠ m15; omega)
                  have HX1 := Lib.hid hX1
                  have HX2 := Lib.hid hX2
                  clear hX1 hX2
                  go_upto_region 19 with fail
                  obtain ⟨WX, hWX⟩ : ∃ W, W6.setCell ⟨m15, 0, none⟩ (.slice a6 n6 c6') = W := ⟨_, rfl⟩
                  rw [hWX] at HSX HZ16 HX1 HX2 HB47 ⊢
                  clear hWX HG6 HB6 q0 q1
                  have HROW := Lib.hid HSX.out.row
                  obtain ⟨n0, hn0⟩ : ∃ n, WX.heap.size = n := ⟨_, rfl⟩
                  have HN0 : Hid (n0 = WX.heap.size) := Lib.hid hn0.symm
                  clear hn0
                  have hsh := owns_shape HROW.out
                  obtain ⟨ao', cap', hv', hlc, -⟩ := hsh
                  simp only [Value.slice.injEq] at hv'
                  obtain ⟨-, -, rfl⟩ := hv'
                  rw [HRI.out.2.1] at hlc
                  have hiLQ : i ≤ LQ := by omega
                  have hicv : i ≤ cv := by omega
                  obtain ⟨vsl, hvsl⟩ : ∃ v, sliced (some ⟨gv, 0, none⟩) i LQ cv 2 = v := ⟨_, rfl⟩
                  have hsl : ∀ W, (Instr.sliceAt 27 (.slice (some ⟨gv, 0, none⟩) LQ cv) (some (.int .i64 (i : Int))) none none).run Try.prog W = .ok vsl W := fun W => by rw [← hvsl]; exact runP_lo _ LQ cv i hiLQ W
                  have hvw : VwPr WX vsl (lq.drop i) := by
                    have := HROW.out.sl i LQ hiLQ (Nat.le_refl _)
                    rw [List.take_of_length_le (by rw [HRI.out.2.1]; exact Nat.le_refl _), hvsl] at this
                    exact this
                  have hE0 := OwnPr.empty WX n0 (by rw [HN0.out]; exact Nat.le_refl _)
                  have hVe := hvw.keep ((Below.refl WX.heap.size WX).alloc (Nat.le_refl _) (.cells #[] 57))
                  have hl0 : ([] : List En).length + (lq.drop i).length ≤ 1000000 := by have := HRI.out.2.1; rw [List.length_drop]; show 0 + _ ≤ _; omega
                  have hb0 : n0 ≤ (WX.alloc (.cells #[] 57)).heap.size := by rw [HN0.out]; simp
                  have HE0 := Lib.hid (And.intro hE0 (And.intro hVe (And.intro hl0 hb0)))
                  clear hvsl hvw hE0 hVe hl0 hb0
                  go_upto_region 20 with (at_builtin; refine wpList_append_vw rfl (.tmp 106) (.tmp 109) rfl n0 _ [] rfl HE0.out.1 _ (lq.drop i) rfl HE0.out.2.1 HE0.out.2.2.1 HE0.out.2.2.2 ?_; intro v17 WY ho17 hg17)
                  rw [List.nil_append] at ho17
                  have hXY : Below WX.heap.size WX WY := ((Below.refl WX.heap.size WX).alloc (Nat.le_refl _) (.cells #[] 57)).grown hg17 (by simp) (fun b e => by have := (HE0.out.1.lt b e).1; rw [HN0.out] at this; exact this)
                  have HXY := Lib.hid hXY
                  clear HE0 hsl hg17 hXY
                  have HREST : Hid (VwPr WY v17 (lq.drop i) ∧ (lq.drop i).length ≤ 60) := Lib.hid ⟨ho17.vw, by have := HRI.out.2.1; rw [List.length_drop]; omega⟩
                  clear ho17
                  obtain ⟨R, hR⟩ : ∃ R, lq.drop i = R := ⟨_, rfl⟩
                  rw [hR] at HREST
                  have HRR := Lib.hid hR
                  clear hR
                  have HROWY := Lib.hid (HROW.out.keep HXY.out)
                  have HC1Y : Hid (∀ W, Below WY.heap.size WY W → W.cell? ⟨m11, 1, none⟩ = some (.int .i64 ra)) := Lib.hid (fun W h => HC1.out W (below_stepE (below_stepE HB47.out HB47.out.size HXY.out) (Nat.le_trans HB47.out.size HXY.out.size) h))
                  obtain ⟨n1, hn1⟩ : ∃ n, WY.heap.size = n := ⟨_, rfl⟩
                  have HN1 : Hid (n1 = WY.heap.size) := Lib.hid hn1.symm
                  clear hn1
                  go_upto_region 22 with fail
                  obtain ⟨av, hav⟩ : ∃ a : Option Addr, (some ⟨gv, 0, none⟩) = a := ⟨_, rfl⟩
                  rw [hav] at HROWY HSX ⊢
                  refine wp_region_chain2 12 [8, 9, 11] (by kernel_rfl) (by kernel_rfl) (by kernel_rfl) (Gr22F n1 av LQ cv i m11 lq key ra v17 R) (fun _ W => Below WY.heap.size WY W) (fun _ W W' => Below n1 W W') ?hF ?h0 ?hstep ?hcall ?hdone
                  case hF =>
                    intro s i hs j v W W' hjn hne hpb h he
                    rcases (show j = 0 ∨ j = 1 ∨ j = 2 ∨ j = 3 ∨ j = 4 ∨ j = 5 ∨ j = 6 ∨ j = 7 ∨ j = 8 ∨ j = 9 ∨ j = 10 ∨ j = 11 by omega) with rfl | rfl | rfl | rfl | rfl | rfl | rfl | rfl | rfl | rfl | rfl | rfl
                    · exact h
                    · exact h
                    · exact h
                    · exact h
                    · exact h
                    · exact h
                    · exact h
                    · exact h
                    · intro e
                      obtain rfl : s = 0 := by omega
                      exact absurd (by simpa using hs) hne
                    · intro e
                      obtain rfl : s = 1 := by omega
                      exact absurd (by simpa using hs) hne
                    · exact h
                    · intro e
                      obtain rfl : s = 2 := by omega
                      exact absurd (by simpa using hs) hne
                  case h0 => exact Below.drew (Below.refl _ _)
                  case hstep =>
                    intro j hj hni s vs act W K ha' hst hd hu hK
                    simp only [fillF, Act.put, List.take_succ_cons, List.take_zero, List.setIfInBounds_toArray, List.set_cons_zero, List.set_cons_succ] at ha'
                    subst ha'
                    clear hu
                    rcases (show j = 0 ∨ j = 1 ∨ j = 2 ∨ j = 3 ∨ j = 4 ∨ j = 5 ∨ j = 6 ∨ j = 7 ∨ j = 8 ∨ j = 9 ∨ j = 10 ∨ j = 11 by omega) with rfl | rfl | rfl | rfl | rfl | rfl | rfl | rfl | rfl | rfl | rfl | rfl
                    · refine wpOp_step rfl (fun K' hK' => ?_)
                      go_simp
                      exact hK' _ _ (hK _ rfl)
                    · refine wpOp_step rfl (fun K' hK' => ?_)
                      go_simp
                      exact hK' _ _ (hK _ rfl)
                    · refine wpOp_step rfl (fun K' hK' => ?_)
                      go_simp
                      exact hK' _ _ (hK _ rfl)
                    · have e0 : vs 0 = .slice av LQ cv := hd 0 (by kernel_rfl)
                      have e1 : vs 1 = .int .i64 (i : Int) := hd 1 (by kernel_rfl)
                      have e2 : vs 2 = .int .i64 (i : Int) := hd 2 (by kernel_rfl)
                      simp only [e0, e1, e2] at hK ⊢
                      refine wpOp_step rfl (fun K' hK' => ?_)
                      simp only [Region.wanted]
                      exact wp_slice_hm (.tmp 114) (.tmp 115) (.tmp 116) rfl _ LQ cv i rfl rfl rfl hicv (hK' _ _ (hK _ rfl))
                    · refine wpOp_step rfl (fun K' hK' => ?_)
                      go_simp
                      exact hK' _ _ (hK _ rfl)
                    · refine wpOp_step rfl (fun K' hK' => ?_)
                      go_simp
                      exact hK' _ _ (hK _ rfl)
                    · have e5 : vs 5 = .pointer (some ⟨m11, 1, none⟩) := hd 5 (by kernel_rfl)
                      simp only [e5] at hK ⊢
                      have y61 := HC1Y.out W hst
                      refine wpOp_step rfl (fun K' hK' => ?_)
                      go_simp
                      exact hK' _ _ (hK _ rfl)
                    · have e4 : vs 4 = .string (str key) := hd 4 (by kernel_rfl)
                      have e6 : vs 6 = .int .i64 ra := hd 6 (by kernel_rfl)
                      simp only [e4, e6] at hK ⊢
                      refine wpOp_step rfl (fun K' hK' => ?_)
                      go_simp
                      exact hK' _ _ (hK _ rfl)
                    · exact (hni (by decide)).elim
                    · exact (hni (by decide)).elim
                    · refine wpOp_step rfl (fun K' hK' => ?_)
                      go_simp
                      exact hK' _ _ (hK _ rfl)
                    · exact (hni (by decide)).elim
                  case hcall =>
                    intro s j hs vs act W K ha' hst hd hK
                    simp only [fillF, Act.put, List.take_succ_cons, List.take_zero, List.setIfInBounds_toArray, List.set_cons_zero, List.set_cons_succ] at ha'
                    subst ha'
                    rcases s with _ | _ | _ | s
                    · obtain rfl : 8 = j := by simpa using hs
                      have e7 : vs 7 = .agg #[.string (str key), .int .i64 ra] := hd 7 (by kernel_rfl)
                      simp only [e7] at hK ⊢
                      refine wpOp_step rfl (fun K' hK' => ?_)
                      go_simp
                      exact hK' _ _ (hK _ _ (fun _ => ⟨_, rfl, Blk.new W _ _⟩) ((Below.refl n1 W).alloc (by rw [HN1.out]; exact hst.size) _) (hst.alloc hst.size _))
                    · obtain rfl : 9 = j := by simpa using hs
                      have e3 : vs 3 = sliced av 0 i i 2 := hd 3 (by kernel_rfl)
                      have c8 := hd 8 (by kernel_rfl)
                      simp only [e3] at hK ⊢
                      obtain ⟨g8, e8, z8⟩ := c8 rfl
                      simp only [e8] at hK ⊢
                      refine wpOp_step rfl (fun K' hK' => ?_)
                      simp only [Region.wanted]
                      refine wp_append_hm (.tmp 117) (.tmp 122) rfl _ av LQ cv i lq rfl (HROWY.out.keep hst) HRI.out.2.1 hiLQ (key, ra) g8 rfl z8 (by omega) ?_
                      intro v' w' h1 h2
                      have hn1 : n1 ≤ W.heap.size := by rw [HN1.out]; exact hst.size
                      refine hK' _ _ (hK _ _ (fun _ => owns_base h1 hn1) (h2.mono hn1) (hst.trans (h2.mono hst.size)))
                    · obtain rfl : 11 = j := by simpa using hs
                      have c9 := hd 9 (by kernel_rfl)
                      have e10 : vs 10 = v17 := hd 10 (by kernel_rfl)
                      simp only [e10] at hK ⊢
                      refine wpOp_step rfl (fun K' hK' => ?_)
                      simp only [Region.wanted]
                      have hn1 : n1 ≤ W.heap.size := by rw [HN1.out]; exact hst.size
                      refine wp_append_vw (.tmp 123) (.tmp 124) rfl n1 _ (lq.take i ++ [(key, ra)]) rfl (c9 rfl) _ R rfl (HREST.out.1.keep hst) (by have := HRI.out.2.1; have := HREST.out.2; rw [List.length_append, List.length_take]; simp only [List.length_cons, List.length_nil]; omega) hn1 ?_
                      intro v' w' h1 h2 h3
                      have hbb := (Below.refl n1 W).grown h2 hn1 (fun b e => ((c9 rfl).lt b e).1)
                      refine hK' _ _ (hK _ _ (fun _ => h1) hbb ?_)
                      rw [HN1.out] at hbb
                      exact hst.trans hbb
                    · simp at hs
                  case hdone =>
                    intro vs act W ha' hst hf
                    simp only [fillF, Act.put, List.take_succ_cons, List.take_zero, List.drop_succ_cons, List.drop_zero, List.setIfInBounds_toArray, List.set_cons_zero, List.set_cons_succ] at ha' ⊢
                    subst ha'
                    have f11 := hf 11 (by decide) rfl
                    generalize vs 11 = v11 at f11 ⊢
                    clear hf
                    have hXW := below_stepE HXY.out HXY.out.size hst
                    have HSW := HSX.out.keep hXW
                    have y15 := HZ16.out.call hXW
                    have y0 := y15.cell (j := 0) rfl
                    have hm415 : m4 + 1 < m15 := by have := HS4.out.big; rw [HM15.out] at this; omega
                    have HNX : Hid (GrS w (m4 + 2) m4 (m4 + 1) (growL (qs.take (j + 1))) v11 (W.setCell ⟨m4 + 1, 0, none⟩ (.slice a6 n6 c6'))) := Lib.hid (by
                      have hg : growL (qs.take (j + 1)) = (lq.take i ++ [(key, ra)]) ++ R := by
                        rw [HKEY.out, if_neg hx4, putR_place lq key ra HRI.out.1, HRI.out.2.2.2, HRI.out.2.2.1, ← HRR.out]
                        simp
                      rw [hg]
                      refine HSW.next HM4.out (by rw [HN1.out]; exact Nat.le_trans HSX.out.big HXY.out.size) f11 _ _ _ ?_
                      rw [← hg, HKEY.out, if_neg hx4]
                      exact fun Wf hWf => hT6.out Wf (fun b h1 h2 => by
                        rw [hWf b (by omega) (Nat.lt_of_lt_of_le (by rw [HX1.out]; exact h2) hXW.size), hXW.block b (by rw [HX1.out]; exact h2), HX2.out b h1]))
                    obtain ⟨au7, nu7, cu7, z7, -⟩ := HSW.tree
                    have y7 := z7.cell (j := 0) rfl
                    have y8 := z7.free 0
                    clear HSW y15 z7 f11 hst hXW
                    go_wp2_with fail
                    go_roundw
                    case rel => exact ⟨j + 1, by omega, by go_num, rfl, HNX⟩
                    case measure => simp [intOf]; omega
                · go_wp2_with fail
                  refine (CP4 _).mono ?_
                  rintro e w8 ⟨rfl, rfl⟩
                  go_wp2_with fail
                  refine cPut.mono ?_
                  rintro e W6 ⟨a6, n6, c6', rfl, hg6, hb6⟩
                  have hb46 := below_stepE HB15.out HB15.out.size hb6
                  have hz6 := HZ15.out.call hb6
                  have q0 := hz6.cell (j := 0) rfl
                  have q1 := hz6.free 0
                  have HB47 : Hid (Below W4.heap.size W4 (W6.setCell ⟨m15, 0, none⟩ (.slice a6 n6 c6'))) := Lib.hid (hb46.setCell (p := ⟨m15, 0, none⟩) (by rw [HM15.out]; exact Nat.le_refl _) _)
                  have HZ16 : Hid (Blk (W6.setCell ⟨m15, 0, none⟩ (.slice a6 n6 c6')) m15 24 [.slice a6 n6 c6']) := Lib.hid (hz6.set 0 (.slice a6 n6 c6'))
                  have HG6 := Lib.hid hg6
                  have HB6 := Lib.hid hb6
                  clear cPut hb46 hz6 hg6 hb6
                  clear q8 q9 y11
                  have hT6 : Hid (∀ Wf : World, (∀ b, m15 < b → b < W6.heap.size → Wf.heap[b]? = W6.heap[b]?) → TrV Wf a6 n6 c6' (putR key ra lq)) := Lib.hid (fun Wf h => HG6.out HPL0.out Wf (fun b h1 h2 => h b (by rw [← HW5.out] at h1; simp at h1; rw [HM15.out] at h1; omega) h2))
                  have HSX := Lib.hid (HS4.out.keep HB47.out)
                  have hX1 : (W6.setCell ⟨m15, 0, none⟩ (.slice a6 n6 c6')).heap.size = W6.heap.size := by simp [World.setCell]
                  have hX2 : ∀ b, m15 < b → (W6.setCell ⟨m15, 0, none⟩ (.slice a6 n6 c6')).heap[b]? = W6.heap[b]? := fun b hb => heap_setCell_other W6 ⟨m15, 0, none⟩ b _ (by show b ≠ m15; omega)
                  have HX1 := Lib.hid hX1
                  have HX2 := Lib.hid hX2
                  clear hX1 hX2
                  go_upto_region 19 with fail
                  obtain ⟨WX, hWX⟩ : ∃ W, W6.setCell ⟨m15, 0, none⟩ (.slice a6 n6 c6') = W := ⟨_, rfl⟩
                  rw [hWX] at HSX HZ16 HX1 HX2 HB47 ⊢
                  clear hWX HG6 HB6 q0 q1
                  have HROW := Lib.hid HSX.out.row
                  obtain ⟨n0, hn0⟩ : ∃ n, WX.heap.size = n := ⟨_, rfl⟩
                  have HN0 : Hid (n0 = WX.heap.size) := Lib.hid hn0.symm
                  clear hn0
                  have hsh := owns_shape HROW.out
                  obtain ⟨ao', cap', hv', hlc, -⟩ := hsh
                  simp only [Value.slice.injEq] at hv'
                  obtain ⟨-, -, rfl⟩ := hv'
                  rw [HRI.out.2.1] at hlc
                  have hiLQ : i ≤ LQ := by omega
                  have hicv : i ≤ cv := by omega
                  obtain ⟨vsl, hvsl⟩ : ∃ v, sliced (some ⟨gv, 0, none⟩) i LQ cv 2 = v := ⟨_, rfl⟩
                  have hsl : ∀ W, (Instr.sliceAt 27 (.slice (some ⟨gv, 0, none⟩) LQ cv) (some (.int .i64 (i : Int))) none none).run Try.prog W = .ok vsl W := fun W => by rw [← hvsl]; exact runP_lo _ LQ cv i hiLQ W
                  have hvw : VwPr WX vsl (lq.drop i) := by
                    have := HROW.out.sl i LQ hiLQ (Nat.le_refl _)
                    rw [List.take_of_length_le (by rw [HRI.out.2.1]; exact Nat.le_refl _), hvsl] at this
                    exact this
                  have hE0 := OwnPr.empty WX n0 (by rw [HN0.out]; exact Nat.le_refl _)
                  have hVe := hvw.keep ((Below.refl WX.heap.size WX).alloc (Nat.le_refl _) (.cells #[] 57))
                  have hl0 : ([] : List En).length + (lq.drop i).length ≤ 1000000 := by have := HRI.out.2.1; rw [List.length_drop]; show 0 + _ ≤ _; omega
                  have hb0 : n0 ≤ (WX.alloc (.cells #[] 57)).heap.size := by rw [HN0.out]; simp
                  have HE0 := Lib.hid (And.intro hE0 (And.intro hVe (And.intro hl0 hb0)))
                  clear hvsl hvw hE0 hVe hl0 hb0
                  go_upto_region 20 with (at_builtin; refine wpList_append_vw rfl (.tmp 106) (.tmp 109) rfl n0 _ [] rfl HE0.out.1 _ (lq.drop i) rfl HE0.out.2.1 HE0.out.2.2.1 HE0.out.2.2.2 ?_; intro v17 WY ho17 hg17)
                  rw [List.nil_append] at ho17
                  have hXY : Below WX.heap.size WX WY := ((Below.refl WX.heap.size WX).alloc (Nat.le_refl _) (.cells #[] 57)).grown hg17 (by simp) (fun b e => by have := (HE0.out.1.lt b e).1; rw [HN0.out] at this; exact this)
                  have HXY := Lib.hid hXY
                  clear HE0 hsl hg17 hXY
                  obtain ⟨a17, c17, rfl, hc17, -, -, -⟩ := owns_shape ho17
                  obtain ⟨K17, hK17⟩ : ∃ K, (lq.drop i).length = K := ⟨_, rfl⟩
                  rw [hK17] at hc17 ho17 ⊢
                  have hK1 : 1 ≤ K17 := by have := HRI.out.2.1; rw [List.length_drop] at hK17; omega
                  obtain ⟨v17, hv17⟩ : ∃ v, sliced a17 1 K17 c17 2 = v := ⟨_, rfl⟩
                  have hsl2 : ∀ W, (Instr.sliceAt 27 (.slice a17 K17 c17) (some (.int .i64 1)) none none).run Try.prog W = .ok v17 W := fun W => by rw [← hv17]; exact runP_lo _ K17 c17 1 hK1 W
                  have HREST : Hid (VwPr WY v17 (lq.drop (i + 1)) ∧ (lq.drop (i + 1)).length ≤ 60) := Lib.hid ⟨by
                    have := ho17.sl 1 K17 hK1 (Nat.le_refl _)
                    rw [List.take_of_length_le (by rw [hK17]; exact Nat.le_refl _), hv17, List.drop_drop] at this
                    exact this, by have := HRI.out.2.1; rw [List.length_drop]; omega⟩
                  obtain ⟨R, hR⟩ : ∃ R, lq.drop (i + 1) = R := ⟨_, rfl⟩
                  rw [hR] at HREST
                  have HRR := Lib.hid hR
                  clear hR ho17 hc17 hK17 hv17
                  have HROWY := Lib.hid (HROW.out.keep HXY.out)
                  have HC1Y : Hid (∀ W, Below WY.heap.size WY W → W.cell? ⟨m11, 1, none⟩ = some (.int .i64 ra)) := Lib.hid (fun W h => HC1.out W (below_stepE (below_stepE HB47.out HB47.out.size HXY.out) (Nat.le_trans HB47.out.size HXY.out.size) h))
                  obtain ⟨n1, hn1⟩ : ∃ n, WY.heap.size = n := ⟨_, rfl⟩
                  have HN1 : Hid (n1 = WY.heap.size) := Lib.hid hn1.symm
                  clear hn1
                  go_upto_region 22 with fail
                  obtain ⟨av, hav⟩ : ∃ a : Option Addr, (some ⟨gv, 0, none⟩) = a := ⟨_, rfl⟩
                  rw [hav] at HROWY HSX ⊢
                  refine wp_region_chain2 12 [8, 9, 11] (by kernel_rfl) (by kernel_rfl) (by kernel_rfl) (Gr22F n1 av LQ cv i m11 lq key ra v17 R) (fun _ W => Below WY.heap.size WY W) (fun _ W W' => Below n1 W W') ?hF ?h0 ?hstep ?hcall ?hdone
                  case hF =>
                    intro s i hs j v W W' hjn hne hpb h he
                    rcases (show j = 0 ∨ j = 1 ∨ j = 2 ∨ j = 3 ∨ j = 4 ∨ j = 5 ∨ j = 6 ∨ j = 7 ∨ j = 8 ∨ j = 9 ∨ j = 10 ∨ j = 11 by omega) with rfl | rfl | rfl | rfl | rfl | rfl | rfl | rfl | rfl | rfl | rfl | rfl
                    · exact h
                    · exact h
                    · exact h
                    · exact h
                    · exact h
                    · exact h
                    · exact h
                    · exact h
                    · intro e
                      obtain rfl : s = 0 := by omega
                      exact absurd (by simpa using hs) hne
                    · intro e
                      obtain rfl : s = 1 := by omega
                      exact absurd (by simpa using hs) hne
                    · exact h
                    · intro e
                      obtain rfl : s = 2 := by omega
                      exact absurd (by simpa using hs) hne
                  case h0 => exact Below.drew (Below.refl _ _)
                  case hstep =>
                    intro j hj hni s vs act W K ha' hst hd hu hK
                    simp only [fillF, Act.put, List.take_succ_cons, List.take_zero, List.setIfInBounds_toArray, List.set_cons_zero, List.set_cons_succ] at ha'
                    subst ha'
                    clear hu
                    rcases (show j = 0 ∨ j = 1 ∨ j = 2 ∨ j = 3 ∨ j = 4 ∨ j = 5 ∨ j = 6 ∨ j = 7 ∨ j = 8 ∨ j = 9 ∨ j = 10 ∨ j = 11 by omega) with rfl | rfl | rfl | rfl | rfl | rfl | rfl | rfl | rfl | rfl | rfl | rfl
                    · refine wpOp_step rfl (fun K' hK' => ?_)
                      go_simp
                      exact hK' _ _ (hK _ rfl)
                    · refine wpOp_step rfl (fun K' hK' => ?_)
                      go_simp
                      exact hK' _ _ (hK _ rfl)
                    · refine wpOp_step rfl (fun K' hK' => ?_)
                      go_simp
                      exact hK' _ _ (hK _ rfl)
                    · have e0 : vs 0 = .slice av LQ cv := hd 0 (by kernel_rfl)
                      have e1 : vs 1 = .int .i64 (i : Int) := hd 1 (by kernel_rfl)
                      have e2 : vs 2 = .int .i64 (i : Int) := hd 2 (by kernel_rfl)
                      simp only [e0, e1, e2] at hK ⊢
                      refine wpOp_step rfl (fun K' hK' => ?_)
                      simp only [Region.wanted]
                      exact wp_slice_hm (.tmp 114) (.tmp 115) (.tmp 116) rfl _ LQ cv i rfl rfl rfl hicv (hK' _ _ (hK _ rfl))
                    · refine wpOp_step rfl (fun K' hK' => ?_)
                      go_simp
                      exact hK' _ _ (hK _ rfl)
                    · refine wpOp_step rfl (fun K' hK' => ?_)
                      go_simp
                      exact hK' _ _ (hK _ rfl)
                    · have e5 : vs 5 = .pointer (some ⟨m11, 1, none⟩) := hd 5 (by kernel_rfl)
                      simp only [e5] at hK ⊢
                      have y61 := HC1Y.out W hst
                      refine wpOp_step rfl (fun K' hK' => ?_)
                      go_simp
                      exact hK' _ _ (hK _ rfl)
                    · have e4 : vs 4 = .string (str key) := hd 4 (by kernel_rfl)
                      have e6 : vs 6 = .int .i64 ra := hd 6 (by kernel_rfl)
                      simp only [e4, e6] at hK ⊢
                      refine wpOp_step rfl (fun K' hK' => ?_)
                      go_simp
                      exact hK' _ _ (hK _ rfl)
                    · exact (hni (by decide)).elim
                    · exact (hni (by decide)).elim
                    · refine wpOp_step rfl (fun K' hK' => ?_)
                      go_simp
                      exact hK' _ _ (hK _ rfl)
                    · exact (hni (by decide)).elim
                  case hcall =>
                    intro s j hs vs act W K ha' hst hd hK
                    simp only [fillF, Act.put, List.take_succ_cons, List.take_zero, List.setIfInBounds_toArray, List.set_cons_zero, List.set_cons_succ] at ha'
                    subst ha'
                    rcases s with _ | _ | _ | s
                    · obtain rfl : 8 = j := by simpa using hs
                      have e7 : vs 7 = .agg #[.string (str key), .int .i64 ra] := hd 7 (by kernel_rfl)
                      simp only [e7] at hK ⊢
                      refine wpOp_step rfl (fun K' hK' => ?_)
                      go_simp
                      exact hK' _ _ (hK _ _ (fun _ => ⟨_, rfl, Blk.new W _ _⟩) ((Below.refl n1 W).alloc (by rw [HN1.out]; exact hst.size) _) (hst.alloc hst.size _))
                    · obtain rfl : 9 = j := by simpa using hs
                      have e3 : vs 3 = sliced av 0 i i 2 := hd 3 (by kernel_rfl)
                      have c8 := hd 8 (by kernel_rfl)
                      simp only [e3] at hK ⊢
                      obtain ⟨g8, e8, z8⟩ := c8 rfl
                      simp only [e8] at hK ⊢
                      refine wpOp_step rfl (fun K' hK' => ?_)
                      simp only [Region.wanted]
                      refine wp_append_hm (.tmp 117) (.tmp 122) rfl _ av LQ cv i lq rfl (HROWY.out.keep hst) HRI.out.2.1 hiLQ (key, ra) g8 rfl z8 (by omega) ?_
                      intro v' w' h1 h2
                      have hn1 : n1 ≤ W.heap.size := by rw [HN1.out]; exact hst.size
                      refine hK' _ _ (hK _ _ (fun _ => owns_base h1 hn1) (h2.mono hn1) (hst.trans (h2.mono hst.size)))
                    · obtain rfl : 11 = j := by simpa using hs
                      have c9 := hd 9 (by kernel_rfl)
                      have e10 : vs 10 = v17 := hd 10 (by kernel_rfl)
                      simp only [e10] at hK ⊢
                      refine wpOp_step rfl (fun K' hK' => ?_)
                      simp only [Region.wanted]
                      have hn1 : n1 ≤ W.heap.size := by rw [HN1.out]; exact hst.size
                      refine wp_append_vw (.tmp 123) (.tmp 124) rfl n1 _ (lq.take i ++ [(key, ra)]) rfl (c9 rfl) _ R rfl (HREST.out.1.keep hst) (by have := HRI.out.2.1; have := HREST.out.2; rw [List.length_append, List.length_take]; simp only [List.length_cons, List.length_nil]; omega) hn1 ?_
                      intro v' w' h1 h2 h3
                      have hbb := (Below.refl n1 W).grown h2 hn1 (fun b e => ((c9 rfl).lt b e).1)
                      refine hK' _ _ (hK _ _ (fun _ => h1) hbb ?_)
                      rw [HN1.out] at hbb
                      exact hst.trans hbb
                    · simp at hs
                  case hdone =>
                    intro vs act W ha' hst hf
                    simp only [fillF, Act.put, List.take_succ_cons, List.take_zero, List.drop_succ_cons, List.drop_zero, List.setIfInBounds_toArray, List.set_cons_zero, List.set_cons_succ] at ha' ⊢
                    subst ha'
                    have f11 := hf 11 (by decide) rfl
                    generalize vs 11 = v11 at f11 ⊢
                    clear hf
                    have hXW := below_stepE HXY.out HXY.out.size hst
                    have HSW := HSX.out.keep hXW
                    have y15 := HZ16.out.call hXW
                    have y0 := y15.cell (j := 0) rfl
                    have hm415 : m4 + 1 < m15 := by have := HS4.out.big; rw [HM15.out] at this; omega
                    have HNX : Hid (GrS w (m4 + 2) m4 (m4 + 1) (growL (qs.take (j + 1))) v11 (W.setCell ⟨m4 + 1, 0, none⟩ (.slice a6 n6 c6'))) := Lib.hid (by
                      have hg : growL (qs.take (j + 1)) = (lq.take i ++ [(key, ra)]) ++ R := by
                        rw [HKEY.out, if_neg hx4, putR_place lq key ra HRI.out.1, HRI.out.2.2.2, HRI.out.2.2.1, ← HRR.out]
                        simp
                      rw [hg]
                      refine HSW.next HM4.out (by rw [HN1.out]; exact Nat.le_trans HSX.out.big HXY.out.size) f11 _ _ _ ?_
                      rw [← hg, HKEY.out, if_neg hx4]
                      exact fun Wf hWf => hT6.out Wf (fun b h1 h2 => by
                        rw [hWf b (by omega) (Nat.lt_of_lt_of_le (by rw [HX1.out]; exact h2) hXW.size), hXW.block b (by rw [HX1.out]; exact h2), HX2.out b h1]))
                    obtain ⟨au7, nu7, cu7, z7, -⟩ := HSW.tree
                    have y7 := z7.cell (j := 0) rfl
                    have y8 := z7.free 0
                    clear HSW y15 z7 f11 hst hXW
                    go_wp2_with fail
                    go_roundw
                    case rel => exact ⟨j + 1, by omega, by go_num, rfl, HNX⟩
                    case measure => simp [intOf]; omega
            · have iL : ¬ (i : Int) < (LQ : Int) := by omega
              have hf : fp = false := by
                have := HPL.out.fd
                rw [List.getElem?_eq_none (by have := HRI.out.2.1; omega)] at this
                exact this
              subst hf
              go_upto_region 10 with fail
              obtain ⟨au, nu, cu, hz7, hT7⟩ := HS4.out.tree
              have q7 := hz7.cell (j := 0) rfl
              have z15 : Blk _ _ _ [_] := Blk.new W4 #[.slice au nu cu] 24
              have hb15 := (Below.refl W4.heap.size W4).alloc (Nat.le_refl _) (.cells #[.slice au nu cu] 24)
              obtain ⟨W5, hW5⟩ : ∃ W, W4.alloc (.cells #[.slice au nu cu] 24) = W := ⟨_, rfl⟩
              rw [hW5] at z15 hb15
              obtain ⟨m15, hm15⟩ : ∃ x, W4.heap.size = x := ⟨_, rfl⟩
              rw [hm15] at z15
              have cCut := treeCut_tr au nu cu lq key W5 (hT7 W5 (fun b _ h => hb15.block b h))
              have hany : lq.any (fun e => e.1 == key) = false := by rw [any_place lq key HRI.out.1]; exact HRI.out.2.2.2
              rw [hany] at cCut
              have q8 := (HZ4.out.call hb15).cell (j := 0) rfl
              have q9 := (hz7.call hb15).cell (j := 0) rfl
              have hpl0 : ¬ 100 < (putR key ra lq).length := by
                rw [putR_len key ra lq HRI.out.1, HRI.out.2.1]
                split <;> omega
              have cPut := treePut_tr au nu cu lq key ra W5 (hT7 W5 (fun b _ h => hb15.block b h)) HKL.out HFA.out
              rw [if_neg hpl0] at cPut
              have HPL0 := Lib.hid hpl0
              have y11 := HC1.out W5 hb15
              have HW5 := Lib.hid hW5
              have HM15 := Lib.hid hm15
              have HZ15 := Lib.hid z15
              have HB15 := Lib.hid hb15
              have HZ7 := Lib.hid hz7
              clear hz7 hT7 z15 hb15 hW5 hm15 hany hpl0
              go_upto_region 11 with fail
              rw [HW5.out, HM15.out]
              clear q7
              by_cases hx4 : x4 = 0
              · subst hx4
                clear cPut y11
                go_wp2_with fail
                refine (CP4 _).mono ?_
                rintro e w8 ⟨rfl, rfl⟩
                go_wp2_with fail
                refine cCut.mono ?_
                rintro e W6 ⟨a6, n6, c6', rfl, hg6, hb6⟩
                have hb46 := below_stepE HB15.out HB15.out.size hb6
                have hz6 := HZ15.out.call hb6
                have q0 := hz6.cell (j := 0) rfl
                have q1 := hz6.free 0
                have HB47 : Hid (Below W4.heap.size W4 (W6.setCell ⟨m15, 0, none⟩ (.slice a6 n6 c6'))) := Lib.hid (hb46.setCell (p := ⟨m15, 0, none⟩) (by rw [HM15.out]; exact Nat.le_refl _) _)
                have HZ16 : Hid (Blk (W6.setCell ⟨m15, 0, none⟩ (.slice a6 n6 c6')) m15 24 [.slice a6 n6 c6']) := Lib.hid (hz6.set 0 (.slice a6 n6 c6'))
                have HG6 := Lib.hid hg6
                have HB6 := Lib.hid hb6
                clear cCut hb46 hz6 hg6 hb6
                have HN : Hid (GrS w (m4 + 2) m4 (m4 + 1) (growL (qs.take (j + 1))) (.slice av LQ cv) (W6.setCell ⟨m15, 0, none⟩ (.slice a6 n6 c6'))) := Lib.hid (by
                  rw [HKEY.out, if_pos (by first | rfl | trivial), cutR_place lq key HRI.out.1, HRI.out.2.2.2]
                  exact HS4.out.keep HB47.out)
                go_wp2_with fail
                go_roundw
                case rel => exact ⟨j + 1, by omega, by go_num, rfl, HN⟩
                case measure => simp [intOf]; omega
              · clear cCut
                go_wp2_with fail
                refine (CP4 _).mono ?_
                rintro e w8 ⟨rfl, rfl⟩
                go_wp2_with fail
                refine cPut.mono ?_
                rintro e W6 ⟨a6, n6, c6', rfl, hg6, hb6⟩
                have hb46 := below_stepE HB15.out HB15.out.size hb6
                have hz6 := HZ15.out.call hb6
                have q0 := hz6.cell (j := 0) rfl
                have q1 := hz6.free 0
                have HB47 : Hid (Below W4.heap.size W4 (W6.setCell ⟨m15, 0, none⟩ (.slice a6 n6 c6'))) := Lib.hid (hb46.setCell (p := ⟨m15, 0, none⟩) (by rw [HM15.out]; exact Nat.le_refl _) _)
                have HZ16 : Hid (Blk (W6.setCell ⟨m15, 0, none⟩ (.slice a6 n6 c6')) m15 24 [.slice a6 n6 c6']) := Lib.hid (hz6.set 0 (.slice a6 n6 c6'))
                have HG6 := Lib.hid hg6
                have HB6 := Lib.hid hb6
                clear cPut hb46 hz6 hg6 hb6
                clear q8 q9 y11
                have hT6 : Hid (∀ Wf : World, (∀ b, m15 < b → b < W6.heap.size → Wf.heap[b]? = W6.heap[b]?) → TrV Wf a6 n6 c6' (putR key ra lq)) := Lib.hid (fun Wf h => HG6.out HPL0.out Wf (fun b h1 h2 => h b (by rw [← HW5.out] at h1; simp at h1; rw [HM15.out] at h1; omega) h2))
                have HSX := Lib.hid (HS4.out.keep HB47.out)
                have hX1 : (W6.setCell ⟨m15, 0, none⟩ (.slice a6 n6 c6')).heap.size = W6.heap.size := by simp [World.setCell]
                have hX2 : ∀ b, m15 < b → (W6.setCell ⟨m15, 0, none⟩ (.slice a6 n6 c6')).heap[b]? = W6.heap[b]? := fun b hb => heap_setCell_other W6 ⟨m15, 0, none⟩ b _ (by show b ≠ m15; omega)
                have HX1 := Lib.hid hX1
                have HX2 := Lib.hid hX2
                clear hX1 hX2
                go_upto_region 19 with fail
                obtain ⟨WX, hWX⟩ : ∃ W, W6.setCell ⟨m15, 0, none⟩ (.slice a6 n6 c6') = W := ⟨_, rfl⟩
                rw [hWX] at HSX HZ16 HX1 HX2 HB47 ⊢
                clear hWX HG6 HB6 q0 q1
                have HROW := Lib.hid HSX.out.row
                obtain ⟨n0, hn0⟩ : ∃ n, WX.heap.size = n := ⟨_, rfl⟩
                have HN0 : Hid (n0 = WX.heap.size) := Lib.hid hn0.symm
                clear hn0
                have hsh := owns_shape HROW.out
                obtain ⟨ao', cap', hv', hlc, -⟩ := hsh
                simp only [Value.slice.injEq] at hv'
                obtain ⟨-, -, rfl⟩ := hv'
                rw [HRI.out.2.1] at hlc
                have hiLQ : i ≤ LQ := by omega
                have hicv : i ≤ cv := by omega
                obtain ⟨vsl, hvsl⟩ : ∃ v, sliced av i LQ cv 2 = v := ⟨_, rfl⟩
                have hsl : ∀ W, (Instr.sliceAt 27 (.slice av LQ cv) (some (.int .i64 (i : Int))) none none).run Try.prog W = .ok vsl W := fun W => by rw [← hvsl]; exact runP_lo _ LQ cv i hiLQ W
                have hvw : VwPr WX vsl (lq.drop i) := by
                  have := HROW.out.sl i LQ hiLQ (Nat.le_refl _)
                  rw [List.take_of_length_le (by rw [HRI.out.2.1]; exact Nat.le_refl _), hvsl] at this
                  exact this
                have hE0 := OwnPr.empty WX n0 (by rw [HN0.out]; exact Nat.le_refl _)
                have hVe := hvw.keep ((Below.refl WX.heap.size WX).alloc (Nat.le_refl _) (.cells #[] 57))
                have hl0 : ([] : List En).length + (lq.drop i).length ≤ 1000000 := by have := HRI.out.2.1; rw [List.length_drop]; show 0 + _ ≤ _; omega
                have hb0 : n0 ≤ (WX.alloc (.cells #[] 57)).heap.size := by rw [HN0.out]; simp
                have HE0 := Lib.hid (And.intro hE0 (And.intro hVe (And.intro hl0 hb0)))
                clear hvsl hvw hE0 hVe hl0 hb0
                go_upto_region 20 with (at_builtin; refine wpList_append_vw rfl (.tmp 106) (.tmp 109) rfl n0 _ [] rfl HE0.out.1 _ (lq.drop i) rfl HE0.out.2.1 HE0.out.2.2.1 HE0.out.2.2.2 ?_; intro v17 WY ho17 hg17)
                rw [List.nil_append] at ho17
                have hXY : Below WX.heap.size WX WY := ((Below.refl WX.heap.size WX).alloc (Nat.le_refl _) (.cells #[] 57)).grown hg17 (by simp) (fun b e => by have := (HE0.out.1.lt b e).1; rw [HN0.out] at this; exact this)
                have HXY := Lib.hid hXY
                clear HE0 hsl hg17 hXY
                have HREST : Hid (VwPr WY v17 (lq.drop i) ∧ (lq.drop i).length ≤ 60) := Lib.hid ⟨ho17.vw, by have := HRI.out.2.1; rw [List.length_drop]; omega⟩
                clear ho17
                obtain ⟨R, hR⟩ : ∃ R, lq.drop i = R := ⟨_, rfl⟩
                rw [hR] at HREST
                have HRR := Lib.hid hR
                clear hR
                have HROWY := Lib.hid (HROW.out.keep HXY.out)
                have HC1Y : Hid (∀ W, Below WY.heap.size WY W → W.cell? ⟨m11, 1, none⟩ = some (.int .i64 ra)) := Lib.hid (fun W h => HC1.out W (below_stepE (below_stepE HB47.out HB47.out.size HXY.out) (Nat.le_trans HB47.out.size HXY.out.size) h))
                obtain ⟨n1, hn1⟩ : ∃ n, WY.heap.size = n := ⟨_, rfl⟩
                have HN1 : Hid (n1 = WY.heap.size) := Lib.hid hn1.symm
                clear hn1
                go_upto_region 22 with fail
                obtain ⟨av, hav⟩ : ∃ a : Option Addr, av = a := ⟨_, rfl⟩
                rw [hav] at HROWY HSX ⊢
                refine wp_region_chain2 12 [8, 9, 11] (by kernel_rfl) (by kernel_rfl) (by kernel_rfl) (Gr22F n1 av LQ cv i m11 lq key ra v17 R) (fun _ W => Below WY.heap.size WY W) (fun _ W W' => Below n1 W W') ?hF ?h0 ?hstep ?hcall ?hdone
                case hF =>
                  intro s i hs j v W W' hjn hne hpb h he
                  rcases (show j = 0 ∨ j = 1 ∨ j = 2 ∨ j = 3 ∨ j = 4 ∨ j = 5 ∨ j = 6 ∨ j = 7 ∨ j = 8 ∨ j = 9 ∨ j = 10 ∨ j = 11 by omega) with rfl | rfl | rfl | rfl | rfl | rfl | rfl | rfl | rfl | rfl | rfl | rfl
                  · exact h
                  · exact h
                  · exact h
                  · exact h
                  · exact h
                  · exact h
                  · exact h
                  · exact h
                  · intro e
                    obtain rfl : s = 0 := by omega
                    exact absurd (by simpa using hs) hne
                  · intro e
                    obtain rfl : s = 1 := by omega
                    exact absurd (by simpa using hs) hne
                  · exact h
                  · intro e
                    obtain rfl : s = 2 := by omega
                    exact absurd (by simpa using hs) hne
                case h0 => exact Below.drew (Below.refl _ _)
                case hstep =>
                  intro j hj hni s vs act W K ha' hst hd hu hK
                  simp only [fillF, Act.put, List.take_succ_cons, List.take_zero, List.setIfInBounds_toArray, List.set_cons_zero, List.set_cons_succ] at ha'
                  subst ha'
                  clear hu
                  rcases (show j = 0 ∨ j = 1 ∨ j = 2 ∨ j = 3 ∨ j = 4 ∨ j = 5 ∨ j = 6 ∨ j = 7 ∨ j = 8 ∨ j = 9 ∨ j = 10 ∨ j = 11 by omega) with rfl | rfl | rfl | rfl | rfl | rfl | rfl | rfl | rfl | rfl | rfl | rfl
                  · refine wpOp_step rfl (fun K' hK' => ?_)
                    go_simp
                    exact hK' _ _ (hK _ rfl)
                  · refine wpOp_step rfl (fun K' hK' => ?_)
                    go_simp
                    exact hK' _ _ (hK _ rfl)
                  · refine wpOp_step rfl (fun K' hK' => ?_)
                    go_simp
                    exact hK' _ _ (hK _ rfl)
                  · have e0 : vs 0 = .slice av LQ cv := hd 0 (by kernel_rfl)
                    have e1 : vs 1 = .int .i64 (i : Int) := hd 1 (by kernel_rfl)
                    have e2 : vs 2 = .int .i64 (i : Int) := hd 2 (by kernel_rfl)
                    simp only [e0, e1, e2] at hK ⊢
                    refine wpOp_step rfl (fun K' hK' => ?_)
                    simp only [Region.wanted]
                    exact wp_slice_hm (.tmp 114) (.tmp 115) (.tmp 116) rfl _ LQ cv i rfl rfl rfl hicv (hK' _ _ (hK _ rfl))
                  · refine wpOp_step rfl (fun K' hK' => ?_)
                    go_simp
                    exact hK' _ _ (hK _ rfl)
                  · refine wpOp_step rfl (fun K' hK' => ?_)
                    go_simp
                    exact hK' _ _ (hK _ rfl)
                  · have e5 : vs 5 = .pointer (some ⟨m11, 1, none⟩) := hd 5 (by kernel_rfl)
                    simp only [e5] at hK ⊢
                    have y61 := HC1Y.out W hst
                    refine wpOp_step rfl (fun K' hK' => ?_)
                    go_simp
                    exact hK' _ _ (hK _ rfl)
                  · have e4 : vs 4 = .string (str key) := hd 4 (by kernel_rfl)
                    have e6 : vs 6 = .int .i64 ra := hd 6 (by kernel_rfl)
                    simp only [e4, e6] at hK ⊢
                    refine wpOp_step rfl (fun K' hK' => ?_)
                    go_simp
                    exact hK' _ _ (hK _ rfl)
                  · exact (hni (by decide)).elim
                  · exact (hni (by decide)).elim
                  · refine wpOp_step rfl (fun K' hK' => ?_)
                    go_simp
                    exact hK' _ _ (hK _ rfl)
                  · exact (hni (by decide)).elim
                case hcall =>
                  intro s j hs vs act W K ha' hst hd hK
                  simp only [fillF, Act.put, List.take_succ_cons, List.take_zero, List.setIfInBounds_toArray, List.set_cons_zero, List.set_cons_succ] at ha'
                  subst ha'
                  rcases s with _ | _ | _ | s
                  · obtain rfl : 8 = j := by simpa using hs
                    have e7 : vs 7 = .agg #[.string (str key), .int .i64 ra] := hd 7 (by kernel_rfl)
                    simp only [e7] at hK ⊢
                    refine wpOp_step rfl (fun K' hK' => ?_)
                    go_simp
                    exact hK' _ _ (hK _ _ (fun _ => ⟨_, rfl, Blk.new W _ _⟩) ((Below.refl n1 W).alloc (by rw [HN1.out]; exact hst.size) _) (hst.alloc hst.size _))
                  · obtain rfl : 9 = j := by simpa using hs
                    have e3 : vs 3 = sliced av 0 i i 2 := hd 3 (by kernel_rfl)
                    have c8 := hd 8 (by kernel_rfl)
                    simp only [e3] at hK ⊢
                    obtain ⟨g8, e8, z8⟩ := c8 rfl
                    simp only [e8] at hK ⊢
                    refine wpOp_step rfl (fun K' hK' => ?_)
                    simp only [Region.wanted]
                    refine wp_append_hm (.tmp 117) (.tmp 122) rfl _ av LQ cv i lq rfl (HROWY.out.keep hst) HRI.out.2.1 hiLQ (key, ra) g8 rfl z8 (by omega) ?_
                    intro v' w' h1 h2
                    have hn1 : n1 ≤ W.heap.size := by rw [HN1.out]; exact hst.size
                    refine hK' _ _ (hK _ _ (fun _ => owns_base h1 hn1) (h2.mono hn1) (hst.trans (h2.mono hst.size)))
                  · obtain rfl : 11 = j := by simpa using hs
                    have c9 := hd 9 (by kernel_rfl)
                    have e10 : vs 10 = v17 := hd 10 (by kernel_rfl)
                    simp only [e10] at hK ⊢
                    refine wpOp_step rfl (fun K' hK' => ?_)
                    simp only [Region.wanted]
                    have hn1 : n1 ≤ W.heap.size := by rw [HN1.out]; exact hst.size
                    refine wp_append_vw (.tmp 123) (.tmp 124) rfl n1 _ (lq.take i ++ [(key, ra)]) rfl (c9 rfl) _ R rfl (HREST.out.1.keep hst) (by have := HRI.out.2.1; have := HREST.out.2; rw [List.length_append, List.length_take]; simp only [List.length_cons, List.length_nil]; omega) hn1 ?_
                    intro v' w' h1 h2 h3
                    have hbb := (Below.refl n1 W).grown h2 hn1 (fun b e => ((c9 rfl).lt b e).1)
                    refine hK' _ _ (hK _ _ (fun _ => h1) hbb ?_)
                    rw [HN1.out] at hbb
                    exact hst.trans hbb
                  · simp at hs
                case hdone =>
                  intro vs act W ha' hst hf
                  simp only [fillF, Act.put, List.take_succ_cons, List.take_zero, List.drop_succ_cons, List.drop_zero, List.setIfInBounds_toArray, List.set_cons_zero, List.set_cons_succ] at ha' ⊢
                  subst ha'
                  have f11 := hf 11 (by decide) rfl
                  generalize vs 11 = v11 at f11 ⊢
                  clear hf
                  have hXW := below_stepE HXY.out HXY.out.size hst
                  have HSW := HSX.out.keep hXW
                  have y15 := HZ16.out.call hXW
                  have y0 := y15.cell (j := 0) rfl
                  have hm415 : m4 + 1 < m15 := by have := HS4.out.big; rw [HM15.out] at this; omega
                  have HNX : Hid (GrS w (m4 + 2) m4 (m4 + 1) (growL (qs.take (j + 1))) v11 (W.setCell ⟨m4 + 1, 0, none⟩ (.slice a6 n6 c6'))) := Lib.hid (by
                    have hg : growL (qs.take (j + 1)) = (lq.take i ++ [(key, ra)]) ++ R := by
                      rw [HKEY.out, if_neg hx4, putR_place lq key ra HRI.out.1, HRI.out.2.2.2, HRI.out.2.2.1, ← HRR.out]
                      simp
                    rw [hg]
                    refine HSW.next HM4.out (by rw [HN1.out]; exact Nat.le_trans HSX.out.big HXY.out.size) f11 _ _ _ ?_
                    rw [← hg, HKEY.out, if_neg hx4]
                    exact fun Wf hWf => hT6.out Wf (fun b h1 h2 => by
                      rw [hWf b (by omega) (Nat.lt_of_lt_of_le (by rw [HX1.out]; exact h2) hXW.size), hXW.block b (by rw [HX1.out]; exact h2), HX2.out b h1]))
                  obtain ⟨au7, nu7, cu7, z7, -⟩ := HSW.tree
                  have y7 := z7.cell (j := 0) rfl
                  have y8 := z7.free 0
                  clear HSW y15 z7 f11 hst hXW
                  go_wp2_with fail
                  go_roundw
                  case rel => exact ⟨j + 1, by omega, by go_num, rfl, HNX⟩
                  case measure => simp [intOf]; omega
    · have iI : ¬ (j : Int) < (N : Int) := by omega
      obtain rfl : j = N := by omega
      have hq : qs.take j = qs := List.take_of_length_le (by have := HQ.out; omega)
      rw [hq] at hS
      have HS := hS.out
      obtain ⟨au, nu, cu, z7, hT7⟩ := HS.tree
      have y7 := z7.cell (j := 0) rfl
      have y4 := HS.res.cell (j := 0) rfl
      have y5 := HS.res.free 0
      obtain ⟨HT4, HO4, HR4, HB4⟩ := HS.done HM4.out au nu cu hT7
      clear hq hS HS0
      go_wp2_with fail
      refine bodyPost_ret (results_row_two rfl _ _ m4 [.slice au nu cu] rfl HR4 rfl rfl (by kernel_rfl)) rfl ?_
      exact ⟨au, nu, cu, _, rfl, HT4, HO4, HB4⟩
end Go.Proofs.Ytopgakdgifmecaa
