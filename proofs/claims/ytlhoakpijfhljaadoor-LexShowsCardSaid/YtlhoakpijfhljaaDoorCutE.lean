/-
  CONTRACTS of package lex's inQuote and readQuote.
  CONDITIONS: each theorem's own hypotheses; package bytealg's MaxLen holds some number ('MaxL').
-/
import Derived.Test.YtlhoakpijfhljaaDoorCutC
import Derived.Test.YtlhoakpijfhljaaDoorShelfR
import Derived.Laws.RangeString
import Derived.Laws.RangeAny
import Derived.Laws.Runes
import Derived.BigQuiet
namespace Go.Proofs.YtlhoakpijfhljaaDoor
open Go.RowKit
set_option linter.unusedVariables false
set_option maxRecDepth 1000000

/-- Package bytealg's variable MaxLen holds some number. -/
def MaxL (w : World) : Prop := ∃ m, w.cell? ⟨Tryd.laysRep_ren.g 1, 0, none⟩ = some (.int .i64 m)
theorem MaxL.keep {w w1 : World} (h : MaxL w) (hb : Below w.heap.size w w1) : MaxL w1 := by
  obtain ⟨m, hm⟩ := h
  exact ⟨m, (hb.cell (p := ⟨Tryd.laysRep_ren.g 1, 0, none⟩) (World.block_lt_of_cell? _ _ hm)).trans hm⟩
theorem repX : Builder.Extra Tryd.prog Tryd.laysRep_ren := {
  sizeBuilder := by kernel_rfl
  liesBuilder := by kernel_rfl
  t5 := Tryd.underlying5
  a5 := Tryd.isAgg5
  z5 := Tryd.sizeOf5
  v5 := Tryd.zeroValue5
  infoByte := by kernel_rfl
  cellsByte := by kernel_rfl
  sizeByte := by kernel_rfl
  neB5 := by decide }
theorem below_iter (w : World) (s : ByteArray) (p : Nat) : Below w.heap.size w (w.iter s p) := (Below.refl _ _).alloc (Nat.le_refl _) _
/-- What a rune at a place tells. -/
theorem rune_at (l : List UInt8) (pos : Nat) (h : pos < l.length) : 1 ≤ (Utf8.decode (str l) pos).2 ∧ pos + (Utf8.decode (str l) pos).2 ≤ l.length ∧ (l[pos] = 39 → Utf8.decode (str l) pos = (39, 1)) ∧ (l[pos] ≠ 39 → (Utf8.decode (str l) pos).1 ≠ 39 ∧ ∀ p, endQ (l.drop pos) p = endQ (l.drop (pos + (Utf8.decode (str l) pos).2)) (p + (Utf8.decode (str l) pos).2)) := by
  have e := Lib.decodeL_drop (str l) pos
  rw [str_data] at e
  rw [← e]
  have hw := Lib.decodeL_width (l.drop pos)
  have hle := Lib.decodeL_le (l.drop pos) (by rw [← List.length_pos_iff, List.length_drop]; omega)
  rw [List.length_drop] at hle
  have hd := List.drop_eq_getElem_cons h
  obtain ⟨f1, f2⟩ := dec_facts l[pos] (l.drop (pos + 1))
  rw [← hd] at f1 f2
  refine ⟨hw, by omega, f1, fun hc => ⟨(f2 hc).1, fun p => ?_⟩⟩
  rw [endQ_skip _ _ p (by rw [List.length_drop]; omega) (f2 hc).2, List.drop_drop]
/-- Where the loop stands. -/
def QSt (l : List UInt8) (E : Option Nat) (pos e : Nat) : Prop := (pos = 0 ∧ e = 0) ∨ (1 ≤ pos ∧ e = 0 ∧ E = endQ (l.drop pos) pos) ∨ (1 ≤ e ∧ pos = e + 1 ∧ l[e]? = some 39 ∧ E = endQ (l.drop e) e)
theorem lone_mark {l : List UInt8} {e : Nat} (h : l[e]? = some 39) (h2 : ∀ x, l[e + 1]? = some x → x ≠ 39) : endQ (l.drop e) e = some e := by
  obtain ⟨he, hx⟩ := List.getElem?_eq_some_iff.1 h
  rw [List.drop_eq_getElem_cons he, hx]
  refine endQ_lone _ _ (fun hh => ?_)
  have : (l.drop (e + 1))[0]? = some 39 := by rw [← List.head?_eq_getElem?]; exact hh
  rw [List.getElem?_drop] at this
  exact h2 39 this rfl
theorem pair_mark {l : List UInt8} {e : Nat} (h : l[e]? = some 39) (h2 : l[e + 1]? = some 39) : endQ (l.drop e) e = endQ (l.drop (e + 2)) (e + 2) := by
  obtain ⟨he, hx⟩ := List.getElem?_eq_some_iff.1 h
  obtain ⟨he2, hx2⟩ := List.getElem?_eq_some_iff.1 h2
  rw [List.drop_eq_getElem_cons he, hx, List.drop_eq_getElem_cons he2, hx2, endQ_pair]
def QOk (l : List UInt8) (E : Option Nat) (s : ByteArray) (b : Bool) : Prop := match E with
  | none => b = false
  | some p => b = true ∧ s = str ((l.drop 1).take (p - 1)) ∧ p < l.length
def QOut (l : List UInt8) (E : Option Nat) (w : World) (e : Ending) (w' : World) : Prop := ∃ s b, e = .returned (.tuple #[.string s, .bool b]) ∧ Hid (QOk l E s b) ∧ Below w.heap.size w w'
def quoteP (l : List UInt8) : TR := match endQ (l.drop 1) 1 with
  | none => .err 4
  | some p => .ok ⟨4, unQ ((l.drop 1).take (p - 1)), 0, 0⟩ (p + 1)
end Go.Proofs.YtlhoakpijfhljaaDoor
