/-
  Package kinds' Row: plain words, the opening of rows, the contracts of checkCell and Row.
  CONDITIONS: each theorem's own hypotheses; the tables 'Tabs' and package lex's signs 'SW' hold what their initialisers lay.
-/
import Derived.Test.YtpneoaehkibdeaaDoorGKindC
namespace Go.Proofs.YtpneoaehkibdeaaDoor
open Go.ChangeShapes Go.WideShapes Go.RowKit Go.Deep Go.Joins
open Go.ChangeMaps (open_string shut_string)
set_option linter.unusedVariables false
set_option maxRecDepth 100000

structure Vl where
  k : Int
  i : Int
  b : Int
  s : List UInt8
def chkV (v : Vl) : Int := chk v.k v.i v.b (str v.s)
def cellF (v : Vl) (c : Cl) : Int := if chkV v ≠ 0 then chkV v else if v.k = c.k then 0 else if v.k = 0 then (if c.nl = true then 0 else 12) else 2
def cellsF : List Vl → List Cl → Int
  | v :: r, c :: l => if cellF v c ≠ 0 then cellF v c else cellsF r l
  | _, _ => 0
def rowR (row : List Vl) (cols : List Cl) : Int := if colsR cols ≠ 0 then colsR cols else if row.length ≠ cols.length then 1 else cellsF row cols
theorem cellsF_bad : ∀ (r : List Vl) (l : List Cl) (j : Nat) (v : Vl) (c : Cl), r[j]? = some v → l[j]? = some c → (∀ (i : Nat) (x : Vl) (y : Cl), r[i]? = some x → l[i]? = some y → i < j → cellF x y = 0) → cellF v c ≠ 0 → cellsF r l = cellF v c
  | [], l, j, v, c, h, _, _, _ => by simp at h
  | x :: r, [], j, v, c, _, h, _, _ => by simp at h
  | x :: r, y :: l, 0, v, c, h1, h2, _, hb => by
    simp only [List.getElem?_cons_zero, Option.some.injEq] at h1 h2
    subst h1 h2
    simp only [cellsF]; rw [if_pos hb]
  | x :: r, y :: l, j + 1, v, c, h1, h2, hg, hb => by
    have h0 := hg 0 x y rfl rfl (by omega)
    simp only [cellsF]
    rw [if_neg (by rw [h0]; decide)]
    exact cellsF_bad r l j v c (by simpa using h1) (by simpa using h2) (fun i a b ha hb2 hi => hg (i + 1) a b (by simpa using ha) (by simpa using hb2) (by omega)) hb
theorem cellsF_good : ∀ (r : List Vl) (l : List Cl), (∀ (i : Nat) (x : Vl) (y : Cl), r[i]? = some x → l[i]? = some y → cellF x y = 0) → cellsF r l = 0
  | [], l, _ => by simp [cellsF]
  | x :: r, [], _ => by simp [cellsF]
  | x :: r, y :: l, hg => by
    have h0 := hg 0 x y rfl rfl
    simp only [cellsF]
    rw [if_neg (by rw [h0]; decide)]
    exact cellsF_good r l (fun i a b ha hb => hg (i + 1) a b (by simpa using ha) (by simpa using hb))
theorem colsG_zero : ∀ (l a : List Cl), colsG a l = 0 → ∀ (j : Nat) (c : Cl), l[j]? = some c → 1 ≤ c.k
  | [], a, _, j, c, h => by simp at h
  | x :: l, a, hz, j, c, h => by
    simp only [colsG] at hz
    by_cases h0 : colF x a = 0
    · rw [if_pos h0] at hz
      cases j with
      | zero =>
        simp only [List.getElem?_cons_zero, Option.some.injEq] at h
        subst h
        unfold colF at h0
        split at h0
        · cases h0
        · split at h0
          · cases h0
          · omega
      | succ j => exact colsG_zero l _ hz j c (by simpa using h)
    · rw [if_neg h0] at hz; exact absurd hz h0
theorem colsR_kinds {l : List Cl} (h : colsR l = 0) (j : Nat) (c : Cl) (hc : l[j]? = some c) : 1 ≤ c.k := by
  unfold colsR at h
  split at h
  · cases h
  · exact colsG_zero l [] h j c hc
structure FitV (v : Vl) : Prop where
  i0 : -9223372036854775808 ≤ v.i
  i1 : v.i ≤ 9223372036854775807
  b0 : 0 ≤ v.b
  b1 : v.b ≤ 18446744073709551615
  s1 : v.s.length ≤ 9223372036854775807
def LiesV (W : World) (a o : Nat) (l : List Vl) : Prop := ∀ j v, l[j]? = some v → W.cell? ⟨a, o + j * 4, none⟩ = some (.int .i64 v.k) ∧ W.cell? ⟨a, o + j * 4 + 1, none⟩ = some (.int .i64 v.i) ∧ W.cell? ⟨a, o + j * 4 + 2, none⟩ = some (.int .u64 v.b) ∧ W.cell? ⟨a, o + j * 4 + 3, none⟩ = some (.string (str v.s))
def Vals (W : World) (ao : Option Addr) (l : List Vl) : Prop := (∀ v ∈ l, FitV v) ∧ (l = [] ∨ ∃ a o, ao = some ⟨a, o, none⟩ ∧ a < W.heap.size ∧ LiesV W a o l)
theorem Vals.keep {w w1 : World} {ao : Option Addr} {l : List Vl} (h : Vals w ao l) (hb : Below w.heap.size w w1) : Vals w1 ao l := by
  refine ⟨h.1, ?_⟩
  rcases h.2 with h | ⟨a, o, h1, h2, h3⟩
  · exact .inl h
  · refine .inr ⟨a, o, h1, Nat.lt_of_lt_of_le h2 hb.size, fun j v hv => ?_⟩
    obtain ⟨c0, c1, c2, c3⟩ := h3 j v hv
    exact ⟨(hb.cell (p := ⟨a, _, none⟩) h2).trans c0, (hb.cell (p := ⟨a, _, none⟩) h2).trans c1, (hb.cell (p := ⟨a, _, none⟩) h2).trans c2, (hb.cell (p := ⟨a, _, none⟩) h2).trans c3⟩
section
variable {H : Type} {enc : TypeId × Value → H} {W : World} {base : Nat} {v : Value} {d : DataW H} {p : List MemPlace}
theorem open_vals (hval : Value.okWide Tryd.prog W .any base 23 v) (h : DataW.Trod enc Tryd.prog W 0 (fun _ => true) true 23 v d p) :
    ∃ (l : List Vl) (ao : Option Addr) (cap : Nat), v = .slice ao l.length cap ∧ l.length ≤ cap ∧ cap ≤ 9223372036854775807 ∧ Vals W ao l := by
  obtain ⟨ao, len, cap, rfl, h1, h2, h3⟩ := open4 Tryd.underlying23 Tryd.underlying39 (by kernel_rfl) (by kernel_rfl) hval h
  rcases h3 with rfl | ⟨a, o, rfl, ha, hel⟩
  · exact ⟨[], ao, cap, rfl, h1, h2, by simp, .inl rfl⟩
  · obtain ⟨l, hl, hp⟩ := list_of (n := len) (p := fun i (r : Vl) => FitV r ∧ W.cell? ⟨a, o + i * 4, none⟩ = some (.int .i64 r.k) ∧ W.cell? ⟨a, o + i * 4 + 1, none⟩ = some (.int .i64 r.i) ∧ W.cell? ⟨a, o + i * 4 + 2, none⟩ = some (.int .u64 r.b) ∧ W.cell? ⟨a, o + i * 4 + 3, none⟩ = some (.string (str r.s))) (fun i hi => by
      obtain ⟨⟨q0, q1, q2, q3⟩, c0, c1, c2, c3, n, y0, y1, y2, y3, t0, t1, t2, t3⟩ := hel i hi
      obtain ⟨k, e0, _, w0⟩ := DataW.trod_int Tryd.underlying3 t0
      obtain ⟨x, e1, _, w1⟩ := DataW.trod_int Tryd.underlying3 t1
      obtain ⟨y, e2, _, w2⟩ := DataW.trod_int Tryd.underlying37 t2
      obtain ⟨s, e3, _, w3⟩ := DataW.trod_string Tryd.underlying9 t3
      simp at e0 e1 e2 e3
      subst e0 e1 e2 e3
      have b1 := bounds_i64 w1
      have b2 := bounds_u64 w2
      have z1 : s.size ≤ 9223372036854775807 := by have := w3; unfold maxLen at this; omega
      refine ⟨⟨k, x, y, s.data.toList⟩, ⟨b1.1, b1.2, b2.1, b2.2, by rw [← Lib.size_eq]; exact z1⟩, c0, c1, c2, ?_⟩
      show _ = some (Value.string (str s.data.toList))
      rw [← str_eq s]; exact c3)
    subst hl
    refine ⟨l, _, cap, rfl, h1, h2, fun r hr => ?_, .inr ⟨a, o, rfl, ha, fun j r hr => (hp j r hr).2⟩⟩
    obtain ⟨j, hj⟩ := List.mem_iff_getElem?.1 hr
    exact (hp j r hj).1
end
end Go.Proofs.YtpneoaehkibdeaaDoor
