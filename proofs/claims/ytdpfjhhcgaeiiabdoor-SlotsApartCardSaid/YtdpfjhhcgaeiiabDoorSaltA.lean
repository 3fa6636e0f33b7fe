/-
  CONTRACTS of oracle.word and oracle.Salt.
  CONDITIONS: package sum's roundWords hold what their initialiser lays ('KW').
-/
import Derived.Test.YtdpfjhhcgaeiiabDoorDigA
import Derived.Test.YtdpfjhhcgaeiiabDoorGMac
namespace Go.Proofs.YtdpfjhhcgaeiiabDoor
open Go.RowKit CodeMath Go.Proofs.YtdpfjhhcgaeiiabDoor.FrameMath
set_option linter.unusedVariables false
set_option maxRecDepth 100000

/-- A number as a part. -/
def wd (x : Int) : List UInt8 := be (x % 18446744073709551616) 8
theorem wd_length (x : Int) : (wd x).length = 8 := be_length _ _
/-- Lines that a literal lays. -/
theorem lines_new (w : World) (us : List Value) (T : TypeId) (rows : List (List UInt8)) (hlen : us.length = rows.length) (h : ∀ (i : Nat) (l : List UInt8), rows[i]? = some l → ∃ u : Value, us[i]? = some u ∧ RowV w u l) : Lines (w.alloc (.cells us.toArray T)) (some ⟨w.heap.size, 0, none⟩) rows := by
  refine LinesV.lines (.inr ⟨w.heap.size, 0, rfl, by simp, fun i l hi => ?_⟩)
  obtain ⟨u, h1, h2⟩ := h i l hi
  refine ⟨u, ?_, h2.keep ((Below.refl _ _).alloc (Nat.le_refl _) _)⟩
  rw [Nat.zero_add, World.cell?_alloc_new]
  simpa using h1
theorem lines_two (w : World) (u1 u2 : Value) (T : TypeId) (l1 l2 : List UInt8) (h1 : RowV w u1 l1) (h2 : RowV w u2 l2) : Lines (w.alloc (.cells #[u1, u2] T)) (some ⟨w.heap.size, 0, none⟩) [l1, l2] :=
  lines_new w [u1, u2] T [l1, l2] rfl (fun i l hi => by
    match i, hi with
    | 0, hi => simp at hi; subst hi; exact ⟨u1, rfl, h1⟩
    | 1, hi => simp at hi; subst hi; exact ⟨u2, rfl, h2⟩)
theorem lines_three (w : World) (u1 u2 u3 : Value) (T : TypeId) (l1 l2 l3 : List UInt8) (h1 : RowV w u1 l1) (h2 : RowV w u2 l2) (h3 : RowV w u3 l3) : Lines (w.alloc (.cells #[u1, u2, u3] T)) (some ⟨w.heap.size, 0, none⟩) [l1, l2, l3] :=
  lines_new w [u1, u2, u3] T [l1, l2, l3] rfl (fun i l hi => by
    match i, hi with
    | 0, hi => simp at hi; subst hi; exact ⟨u1, rfl, h1⟩
    | 1, hi => simp at hi; subst hi; exact ⟨u2, rfl, h2⟩
    | 2, hi => simp at hi; subst hi; exact ⟨u3, rfl, h3⟩)
def saltB (m : Int) (s : List UInt8) (step place : Int) : List UInt8 := if m = 2 then frame 3 [s, wd step, wd place] else ShaMath.hmac s (frame 3 [wd step, wd place])
def saltR (m : Int) (s : List UInt8) (step place : Int) : DR := if isMode m = false then .err 2 else if 16 < s.length then .err 1 else .ok (saltB m s step place)
end Go.Proofs.YtdpfjhhcgaeiiabDoor
