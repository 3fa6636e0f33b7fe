/-
  SLICES OF WORDS of a call's own, and the contract of the reference's schedule.
  CONDITIONS: each theorem's own hypotheses.
-/
import Derived.Test.YtmldhnghfdhjmaaDoorShaA
import Derived.OwnWalk
import Derived.Laws.OwnMore
import Derived.Laws.AppendOwn
namespace Go.Proofs.YtmldhnghfdhjmaaDoor
open Go.RowKit CodeMath
set_option linter.unusedVariables false

def cellsW (l : List Nat) : List Value := l.map fun x => .int .u32 (x : Nat)
theorem cellsW_append (l m : List Nat) : cellsW (l ++ m) = cellsW l ++ cellsW m := by simp [cellsW]
/-- A slice of words of the call's own. -/
def OwnW (w : World) (base : Nat) (v : Value) (l : List Nat) : Prop := w.ownsRow base 74 1 v l.length (cellsW l)
theorem infoW : (Tryd.prog.info? 74).map (fun i => (i.zero, i.size, i.bytes)) = some (some (.int .u32 0), 1, 4) := by kernel_rfl
theorem OwnW.keep {w w1 : World} {base : Nat} {v : Value} {l : List Nat} (h : OwnW w base v l) (hb : Below w.heap.size w w1) : OwnW w1 base v l :=
  World.ownsRow.kept (row := none) h ⟨hb.os, hb.tape, hb.output, hb.size, fun k hk _ => hb.block k hk⟩ (by cases v.ownBlock <;> simp)
theorem OwnW.shape {w : World} {base : Nat} {v : Value} {l : List Nat} (h : OwnW w base v l) : ∃ ao cap, v = .slice ao l.length cap := by
  rcases h.2 with ⟨rfl, h0⟩ | ⟨g, cap, cur, rfl, _⟩
  · exact ⟨none, 0, by rw [h0]⟩
  · exact ⟨_, _, rfl⟩
theorem OwnW.shape1 {w : World} {base : Nat} {v : Value} {l : List Nat} (h : OwnW w base v l) (hl : 0 < l.length) : ∃ g cap, v = .slice (some ⟨g, 0, none⟩) l.length cap ∧ l.length ≤ cap ∧ cap ≤ 9223372036854775807 := by
  rcases h.2 with ⟨rfl, h0⟩ | ⟨g, cap, cur, rfl, _, _, h1, h2, _⟩
  · omega
  · exact ⟨g, cap, rfl, h1, by unfold maxLen at h2; omega⟩
theorem OwnW.cell {w : World} {base g cap : Nat} {l : List Nat} (h : OwnW w base (.slice (some ⟨g, 0, none⟩) l.length cap) l) (j : Nat) (hj : j < l.length) : w.cell? ⟨g, j, none⟩ = some (.int .u32 (l.getD j 0 : Nat)) := by
  have := World.ownsRow.cellAt h j (by omega)
  rw [this]
  unfold cellsW
  rw [List.getElem?_map, List.getElem?_eq_getElem hj, List.getD_eq_getElem?_getD, List.getElem?_eq_getElem hj]
  rfl
theorem OwnW.nil (w : World) (base : Nat) : OwnW w base (.slice none 0 0) [] := World.ownsRow_nil _ _ _ _
theorem grown_trans' {a b c : World} {row : Option Nat} (h : a.grownBy b row) (k : b.grownBy c row) : a.grownBy c row :=
  ⟨k.os.trans h.os, k.tape.trans h.tape, k.output.trans h.output, Nat.le_trans h.size k.size, fun i hi hn => (k.block i (Nat.lt_of_lt_of_le hi h.size) hn).trans (h.block i hi hn)⟩
theorem addr_zero' (b : Nat) : (⟨b, 0, none⟩ : Addr).add 0 = ⟨b, 0, none⟩ := by simp [Addr.add]
/-- append(w, x), one word. -/
theorem wpList_append_word {ops : Array Oper} {rest : List Oper} {o : Oper} {a : Act} {Q : Exit → Act → World → Prop} {w : World} (hgd : o.guard = none) (s x : Operand)
    (ho : o.op = .call { callee := .builtin .append, args := #[s, x], argTypes := #[111, 111] }) (base : Nat) (v : Value) (l : List Nat) (hs : a.eval s = v) (hown : OwnW w base v l)
    (c : Int) (b : Nat) (m : Nat) (hx : a.eval x = .slice (some ⟨m, 0, none⟩) 1 1) (hm : m = w.heap.size) (hc : c = b) (hl : l.length ≤ 1000000) (hb : base ≤ w.heap.size)
    (h : ∀ v' w', OwnW w' base v' (l ++ [b]) → Below base w w' → w.grownBy w' v.ownBlock → wpList Tryd.prog ops Q rest (a.put o.dst v') w') : wpList Tryd.prog ops Q (o :: rest) a (w.alloc (.cells #[.int .u32 c] 74)) := by
  subst hm
  obtain ⟨i0, hi, hz0, hz1, hz2⟩ := info_parts infoW
  refine wpList_append_own _ hgd s x 111 ho base 74 i0 (.int .u32 0) 1 4 Tryd.underlying111 hi hz0 hz1 hz2 rfl (by decide) v l.length (cellsW l) hs (World.ownsRow.alloc hown _) ⟨w.heap.size, 0, none⟩ 1 1 [.int .u32 c] hx rfl ?_ ?_ (by unfold maxLen; omega) (by omega) (by simp; omega) ?_
  · intro j u hj
    match j, hj with
    | 0, hj =>
      simp at hj; subst hj
      rw [addr_zero', World.cell?_alloc_new]
      rfl
  · intro u hu
    simp at hu; subst hu; rfl
  · intro v' w' h1 h2 _
    refine h v' w' ?_ ?_ (grown_trans' (World.grownBy_alloc w _ _) h2)
    · unfold OwnW
      rw [cellsW_append, List.length_append]
      show w'.ownsRow base 74 1 v' (l.length + 1) (cellsW l ++ [.int .u32 (b : Nat)])
      rw [← hc]; exact h1
    · exact ((Below.refl base w).alloc hb _).grown h2 (by simp; omega) (fun k hk => (hown.lt k hk).1)

/-! ### the first sixteen words -/
theorem words_snoc : ∀ (n : Nat) (l : List UInt8), ShaMath.words (n + 1) l = ShaMath.words n l ++ [ShaMath.word4 ((l.drop (4 * n)).take 4)]
  | 0, l => rfl
  | n + 1, l => by
    show _ :: ShaMath.words (n + 1) (l.drop 4) = _ :: ShaMath.words n (l.drop 4) ++ _
    rw [words_snoc n (l.drop 4), List.drop_drop, show 4 + 4 * n = 4 * (n + 1) by omega]
    rfl
theorem words_length : ∀ (n : Nat) (l : List UInt8), (ShaMath.words n l).length = n
  | 0, _ => rfl
  | n + 1, l => by simp [ShaMath.words, words_length n]
theorem num_word4 (l : List UInt8) : num l 0 = (ShaMath.word4 l : Int) := by
  have h : ∀ (l : List UInt8) (n : Nat), num l (n : Int) = ((l.foldl (fun n c => n * 256 + c.toNat) n : Nat) : Int) := by
    intro l
    induction l with
    | nil => intro n; rfl
    | cons c l ih =>
      intro n
      show num l ((n : Int) * 256 + c.toNat) = _
      rw [show (n : Int) * 256 + (c.toNat : Int) = ((n * 256 + c.toNat : Nat) : Int) by simp]
      exact ih _
  exact h l 0
theorem word4_lt (l : List UInt8) (h : l.length = 4) : ShaMath.word4 l < 4294967296 := by
  have h1 := num_range l 0
  rw [num_word4, h] at h1
  have : (256 : Int) ^ 4 = 4294967296 := by decide
  omega
end Go.Proofs.YtmldhnghfdhjmaaDoor
