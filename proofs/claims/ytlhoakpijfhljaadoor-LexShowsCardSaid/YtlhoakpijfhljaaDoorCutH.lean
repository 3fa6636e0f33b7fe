/-
  TOKENS OF THE CALL's OWN; CONTRACT of package lex's Cut.
  CONDITIONS: each theorem's own hypotheses; what 'Env' says.
-/
import Derived.Test.YtlhoakpijfhljaaDoorCutG
import Derived.Test.YtlhoakpijfhljaaDoorCutA
import Derived.OwnWalk
import Derived.Laws.OwnMore
import Derived.Laws.AppendOwnNone
namespace Go.Proofs.YtlhoakpijfhljaaDoor
open Go.RowKit
set_option linter.unusedVariables false
set_option maxRecDepth 100000

def cellsT1 (t : Tok) : List Value := [.int .i64 t.k, .string (str t.s), .int .i64 t.i, .int .u64 t.b]
def cellsTk (l : List Tok) : List Value := l.flatMap cellsT1
theorem cellsTk_length : ∀ l : List Tok, (cellsTk l).length = l.length * 4
  | [] => rfl
  | t :: l => by
    show ((cellsT1 t) ++ cellsTk l).length = _
    rw [List.length_append, cellsTk_length l]
    simp [cellsT1]; omega
theorem cellsTk_append (l m : List Tok) : cellsTk (l ++ m) = cellsTk l ++ cellsTk m := by simp [cellsTk]
theorem cellsTk_at : ∀ (l : List Tok) (j q : Nat) (t : Tok), l[j]? = some t → q < 4 → (cellsTk l)[j * 4 + q]? = (cellsT1 t)[q]?
  | [], j, q, v, h, hq => by simp at h
  | u :: l, 0, q, v, h, hq => by
    simp only [List.getElem?_cons_zero, Option.some.injEq] at h
    subst h
    show ((cellsT1 u) ++ cellsTk l)[0 * 4 + q]? = _
    rw [List.getElem?_append_left (by simp [cellsT1]; omega)]
    simp
  | u :: l, j + 1, q, v, h, hq => by
    simp only [List.getElem?_cons_succ] at h
    show ((cellsT1 u) ++ cellsTk l)[(j + 1) * 4 + q]? = _
    rw [List.getElem?_append_right (by simp [cellsT1]; omega)]
    rw [show (j + 1) * 4 + q - (cellsT1 u).length = j * 4 + q by simp [cellsT1]; omega]
    exact cellsTk_at l j q v h hq
/-- A slice of tokens of the call's own. -/
def OwnTk (w : World) (base : Nat) (v : Value) (l : List Tok) : Prop := w.ownsRow base 33 4 v l.length (cellsTk l)
theorem infoTk : (Tryd.prog.info? 33).map (fun i => (i.zero, i.size, i.bytes)) = some (some (.agg #[.int .i64 0, .string ⟨#[]⟩, .int .i64 0, .int .u64 0]), 4, 40) := by kernel_rfl
theorem OwnTk.nil (w : World) (base : Nat) : OwnTk w base (.slice none 0 0) [] := World.ownsRow_nil _ _ _ _
theorem OwnTk.keep {w w1 : World} {base : Nat} {v : Value} {l : List Tok} (h : OwnTk w base v l) (hb : Below w.heap.size w w1) : OwnTk w1 base v l :=
  World.ownsRow.kept (row := none) h ⟨hb.os, hb.tape, hb.output, hb.size, fun k hk _ => hb.block k hk⟩ (by cases v.ownBlock <;> simp)
theorem OwnTk.shape {w : World} {base : Nat} {v : Value} {l : List Tok} (h : OwnTk w base v l) : ∃ a n k, v = .slice a n k ∧ n = l.length := by
  rcases h.2 with ⟨rfl, h0⟩ | ⟨g, cap, cur, rfl, hbg, hg, h1, h2, _⟩
  · exact ⟨_, _, _, rfl, by omega⟩
  · exact ⟨_, _, _, rfl, rfl⟩
/-- Tokens somewhere. -/
def Toks (w : World) (ao : Option Addr) (l : List Tok) : Prop := l = [] ∨ ∃ a o, ao = some ⟨a, o, none⟩ ∧ a < w.heap.size ∧ ∀ j t, l[j]? = some t → w.cell? ⟨a, o + j * 4, none⟩ = some (.int .i64 t.k) ∧ w.cell? ⟨a, o + j * 4 + 1, none⟩ = some (.string (str t.s)) ∧ w.cell? ⟨a, o + j * 4 + 2, none⟩ = some (.int .i64 t.i) ∧ w.cell? ⟨a, o + j * 4 + 3, none⟩ = some (.int .u64 t.b)
theorem Toks.keep {w w1 : World} {ao : Option Addr} {l : List Tok} (h : Toks w ao l) (hb : Below w.heap.size w w1) : Toks w1 ao l := by
  rcases h with h | ⟨a, o, h1, h2, h3⟩
  · exact .inl h
  · refine .inr ⟨a, o, h1, Nat.lt_of_lt_of_le h2 hb.size, fun j t ht => ?_⟩
    obtain ⟨q0, q1, q2, q3⟩ := h3 j t ht
    exact ⟨(hb.cell (p := ⟨a, _, none⟩) h2).trans q0, (hb.cell (p := ⟨a, _, none⟩) h2).trans q1, (hb.cell (p := ⟨a, _, none⟩) h2).trans q2, (hb.cell (p := ⟨a, _, none⟩) h2).trans q3⟩
theorem OwnTk.toks {w : World} {base : Nat} {v : Value} {l : List Tok} (h : OwnTk w base v l) : ∃ ao cap, v = .slice ao l.length cap ∧ l.length ≤ cap ∧ cap ≤ 9223372036854775807 ∧ Toks w ao l := by
  rcases h.2 with ⟨rfl, h0⟩ | ⟨g, cap, cur, rfl, hbg, hg, h1, h2, _⟩
  · exact ⟨none, 0, by rw [h0], by omega, by omega, .inl (List.eq_nil_of_length_eq_zero h0)⟩
  · refine ⟨_, _, rfl, h1, by unfold maxLen at h2; omega, .inr ⟨g, 0, rfl, (Array.getElem?_eq_some_iff.1 hg).1, fun j t ht => ?_⟩⟩
    have hj : j < l.length := (List.getElem?_eq_some_iff.1 ht).1
    have hc : ∀ q, q < 4 → w.cell? ⟨g, j * 4 + q, none⟩ = (cellsT1 t)[q]? := fun q hq => by
      rw [World.ownsRow.cellAt h (j * 4 + q) (by omega), cellsTk_at l j q t ht hq]
    rw [Nat.zero_add]
    exact ⟨hc 0 (by decide), hc 1 (by decide), hc 2 (by decide), hc 3 (by decide)⟩
theorem addr_addT (b j : Nat) : (⟨b, 0, none⟩ : Addr).add j = ⟨b, j, none⟩ := by unfold Addr.add; split <;> simp_all
theorem grown_transT {a b c : World} {row : Option Nat} (h : a.grownBy b row) (k : b.grownBy c row) : a.grownBy c row :=
  ⟨k.os.trans h.os, k.tape.trans h.tape, k.output.trans h.output, Nat.le_trans h.size k.size, fun i hi hn => (k.block i (Nat.lt_of_lt_of_le hi h.size) hn).trans (h.block i hi hn)⟩
/-- append(l, t), one token. -/
theorem wpList_append_tok {ops : Array Oper} {rest : List Oper} {o : Oper} {a : Act} {Q : Exit → Act → World → Prop} {w : World} (hgd : o.guard = none) (s x : Operand)
    (ho : o.op = .call { callee := .builtin .append, args := #[s, x], argTypes := #[22, 22] }) (base : Nat) (v : Value) (l : List Tok) (hs : a.eval s = v) (hown : OwnTk w base v l)
    (u : Tok) (S : ByteArray) (hS : S = str u.s) (k i b : Int) (hk : k = u.k) (hi' : i = u.i) (hb' : b = u.b) (m : Nat) (hx : a.eval x = .slice (some ⟨m, 0, none⟩) 1 1) (hm : m = w.heap.size) (hl : l.length ≤ 1000000) (hb : base ≤ w.heap.size)
    (h : ∀ v' w', OwnTk w' base v' (l ++ [u]) → Below base w w' → wpList Tryd.prog ops Q rest (a.put o.dst v') w') : wpList Tryd.prog ops Q (o :: rest) a (w.alloc (.cells #[.int .i64 k, .string S, .int .i64 i, .int .u64 b] 33)) := by
  subst hm hS hk hi' hb'
  obtain ⟨i0, hi, hz0, hz1, hz2⟩ := info_parts infoTk
  refine wpList_append_own _ hgd s x 22 ho base 33 i0 _ 4 40 Tryd.underlying22 hi hz0 hz1 hz2 rfl (by decide) v l.length (cellsTk l) hs (World.ownsRow.alloc hown _) ⟨w.heap.size, 0, none⟩ 1 1 (cellsT1 u) hx rfl ?_ ?_ (by unfold maxLen; omega) (by omega) (by simp; omega) ?_
  · intro j y hj
    have hj4 : j < 4 := by have := (List.getElem?_eq_some_iff.1 hj).1; simpa [cellsT1] using this
    rw [addr_addT, World.cell?_alloc_new]
    rcases (show j = 0 ∨ j = 1 ∨ j = 2 ∨ j = 3 by omega) with rfl | rfl | rfl | rfl <;> exact hj
  · intro y hy
    simp [cellsT1] at hy
    rcases hy with rfl | rfl | rfl | rfl <;> rfl
  · intro v' w' h1 h2 _
    refine h v' w' ?_ ?_
    · unfold OwnTk
      rw [cellsTk_append, List.length_append]
      have e : cellsTk [u] = cellsT1 u := by simp [cellsTk]
      rw [e]; exact h1
    · exact ((Below.refl base w).alloc hb _).grown h2 (by simp; omega) (fun k hk => (hown.lt k hk).1)
/-- What the variables of the library and package lex hold. -/
structure Env (w : World) : Prop where
  er : ER w
  ml : MaxL w
  sw : SW w
  tabs : Tabs w
theorem Env.keep {w w1 : World} (h : Env w) (hb : Below w.heap.size w w1) : Env w1 := ⟨h.er.keep hb, h.ml.keep hb, h.sw.keep hb (Nat.le_refl _), tabs_below h.tabs hb⟩
def CutOk (R : CR) (w : World) (base : Nat) (v : Value) (p c : Int) : Prop := match R with
  | .err q e => v = .slice none 0 0 ∧ p = q ∧ c = e ∧ e ≠ 0
  | .ok l => OwnTk w base v l ∧ p = 0 ∧ c = 0
def CutPost (R : CR) (w : World) (e : Ending) (w' : World) : Prop := ∃ a n k p c, e = .returned (.tuple #[.slice a n k, .int .i64 p, .int .i64 c]) ∧ Hid (CutOk R w' w.heap.size (.slice a n k) p c) ∧ Below w.heap.size w w'
theorem cutF_end (f : Nat) (l : List UInt8) (p : Nat) (acc : List Tok) (h : l.length ≤ p) : cutF f l p acc = .ok acc := by
  cases f with
  | zero => rfl
  | succ f => simp only [cutF]; rw [if_neg (by omega)]
theorem cutF_full (f : Nat) (l : List UInt8) (p : Nat) (acc : List Tok) (h : p < l.length) (hf : l.length < f + p) (ha : 100 ≤ acc.length) : cutF f l p acc = .err p 1 := by
  cases f with
  | zero => omega
  | succ f => simp only [cutF]; rw [if_pos h, if_pos ha]
theorem cutF_more (f : Nat) (l : List UInt8) (p : Nat) (acc : List Tok) (h : p < l.length) (hf : l.length < f + p) (ha : ¬ 100 ≤ acc.length) : (∀ e, firstR (l.drop p) = .err e → cutF f l p acc = .err p e) ∧ ∀ t n, firstR (l.drop p) = .ok t n → ∃ f', l.length < f' + (p + n + gapR (l.drop (p + n))) ∧ cutF f l p acc = cutF f' l (p + n + gapR (l.drop (p + n))) (acc ++ [t]) ∧ p + n + gapR (l.drop (p + n)) ≤ l.length ∧ 1 ≤ n := by
  cases f with
  | zero => omega
  | succ f =>
    simp only [cutF]
    rw [if_pos h, if_neg ha]
    refine ⟨fun e he => by rw [he], fun t n he => ?_⟩
    have hp := first_pos _ _ _ he
    have hg := gap_le (l.drop (p + n))
    rw [List.length_drop] at hp hg
    exact ⟨f, by omega, by rw [he], by omega, hp.1⟩
end Go.Proofs.YtlhoakpijfhljaaDoor
