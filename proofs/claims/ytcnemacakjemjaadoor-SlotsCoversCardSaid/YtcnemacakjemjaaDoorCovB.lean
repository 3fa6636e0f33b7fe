/-
  CONTRACTS of package slots' take, at lines and at slots.
  CONDITIONS: each theorem's own hypotheses.
-/
import Derived.Test.YtcnemacakjemjaaDoorCovA
import Derived.Test.YtcnemacakjemjaaDoorRegE
import Derived.Test.YtcnemacakjemjaaDoorClimbQ
namespace Go.Proofs.YtcnemacakjemjaaDoor
open Go.RowKit CodeMath Go.Proofs.YtcnemacakjemjaaDoor.FrameMath
set_option linter.unusedVariables false
set_option maxRecDepth 100000

/-- A cover in memory: its two slices. -/
def CovB (w : World) (g : Nat) (s r : Value) : Prop := Blk w g 26 [s, r]
theorem CovB.keep {w w' : World} {g : Nat} {s r : Value} (h : CovB w g s r) (hb : Below w.heap.size w w') : CovB w' g s r := Blk.call h hb
theorem CovB.lt {w : World} {g : Nat} {s r : Value} (h : CovB w g s r) : g < w.heap.size := Blk.lt h
theorem CovB.setR {w : World} {g : Nat} {s r : Value} (h : CovB w g s r) (r' : Value) : CovB (w.setCell ⟨g, 1, none⟩ r') g s r' := Blk.set h 1 r'
theorem CovB.setS {w : World} {g : Nat} {s r : Value} (h : CovB w g s r) (s' : Value) : CovB (w.setCell ⟨g, 0, none⟩ s') g s' r := Blk.set h 0 s'
theorem mv_cell (w : World) (g j : Nat) (v : Value) : w.grownBy (w.setCell ⟨g, j, none⟩ v) (some g) := ⟨rfl, rfl, rfl, by simp, fun k _ hk => heap_setCell_other w ⟨g, j, none⟩ k v (fun e => hk (by rw [e]))⟩
theorem mv_b {w w1 : World} {P : Nat} (hb : Below w.heap.size w w1) : w.grownBy w1 (some P) := ⟨hb.os, hb.tape, hb.output, hb.size, fun k hk _ => hb.block k hk⟩
theorem mv_refl1 (w : World) (P : Nat) : w.grownBy w.drew (some P) := ⟨rfl, rfl, rfl, Nat.le_refl _, fun _ _ _ => rfl⟩
theorem mv_drew {w w' : World} {r : Option Nat} (h : w.drew.grownBy w' r) : w.grownBy w' r := ⟨h.os, h.tape, h.output, h.size, fun k hk hn => h.block k hk hn⟩
theorem moved_belowN {w w1 w2 : World} {P : Nat} (h : w.grownBy w1 (some P)) (hb : Below w.heap.size w1 w2) : w.grownBy w2 (some P) :=
  ⟨hb.os.trans h.os, hb.tape.trans h.tape, hb.output.trans h.output, Nat.le_trans h.size hb.size, fun k hk hn => (hb.block k hk).trans (h.block k hk hn)⟩
theorem moved_new {w w1 : World} {P : Nat} (hg : w.grownBy w1 (some P)) (j : Nat) (y : Value) : w.grownBy (w1.setCell ⟨w.heap.size, j, none⟩ y) (some P) := moved_belowN hg ((Below.refl w.heap.size w1).setCell (p := ⟨w.heap.size, j, none⟩) (Nat.le_refl _) y)
def pieceL1 (ao : Option Addr) (cap : Nat) : Option Addr := if cap = 1 then ao else ao.map (·.add (1 * 1))
theorem sliceL_one (ao : Option Addr) (n cap : Nat) (h1 : 1 ≤ n) (W : World) : (Instr.slice 24 (.slice ao n cap) (some (.int .i64 1)) none none).run Tryd.prog W = .ok (.slice (pieceL1 ao cap) (n - 1) (cap - 1)) W := by
  have hs : (sizeOf (Tryd.prog.elem 24)).run Tryd.prog W = .ok 1 W := by kernel_rfl
  have h := run_slice_l (P := Tryd.prog) W 24 ao n cap (by kernel_rfl) .i64 1 (by omega) (by omega)
  rw [h, hs, show (1 : Int).toNat = 1 from rfl]
  rfl
theorem sliceS_one (ao : Option Addr) (n cap : Nat) (h1 : 1 ≤ n) (W : World) : (Instr.slice 22 (.slice ao n cap) (some (.int .i64 1)) none none).run Tryd.prog W = .ok (.slice (pieceS ao 1 cap) (n - 1) (cap - 1)) W := by
  have hs : (sizeOf (Tryd.prog.elem 22)).run Tryd.prog W = .ok 3 W := by kernel_rfl
  have h := run_slice_l (P := Tryd.prog) W 22 ao n cap (by kernel_rfl) .i64 1 (by omega) (by omega)
  rw [h, hs, show (1 : Int).toNat = 1 from rfl]
  rfl
theorem Lines.drop1 {w : World} {ap : Option Addr} {x : List UInt8} {rows : List (List UInt8)} (h : Lines w ap (x :: rows)) (cap : Nat) (hc : rows.length + 1 ≤ cap) : Lines w (pieceL1 ap cap) rows := by
  unfold pieceL1
  split
  · left; exact List.eq_nil_of_length_eq_zero (by omega)
  · rcases h with h | ⟨a, o, h1, h2, h3⟩
    · cases h
    · subst h1
      refine .inr ⟨a, o + 1 * 1, ?_, h2, fun i y hy => ?_⟩
      · simp [Addr.add]
      · have := h3 (i + 1) y (by simpa using hy)
        rw [show o + 1 * 1 + i = o + (i + 1) by omega]
        exact this
def TakeSF (g N n c C : Nat) (b off : Nat) (f : Bool) (a1 : Option Addr) (n1 k1 : Nat) (a2 : Option Addr) (n2 k2 : Nat) (A : Option Addr) : Nat → Value → World → Prop
  | 0, v, _ => v = .pointer (some ⟨g, 0, none⟩)
  | 1, v, _ => v = .pointer (some ⟨g, 0, none⟩)
  | 2, v, _ => v = .pointer (some ⟨g, 0, none⟩)
  | 3, v, _ => v = .slice (some ⟨b, off, none⟩) N c
  | 4, v, _ => v = .pointer (some ⟨b, off, none⟩)
  | 5, v, _ => v = .agg #[.bool f, .slice a1 n1 k1, .slice a2 n2 k2]
  | 6, v, _ => v = .pointer (some ⟨g, 0, none⟩)
  | 7, v, _ => v = .pointer (some ⟨g, 0, none⟩)
  | 8, v, _ => v = .slice (some ⟨b, off, none⟩) N c
  | 9, v, _ => v = .slice A n C
  | 10, _, _ => True
  | _, _, _ => True
end Go.Proofs.YtcnemacakjemjaaDoor
