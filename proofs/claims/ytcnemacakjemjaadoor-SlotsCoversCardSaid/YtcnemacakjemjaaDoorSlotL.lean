/-
  CONTRACTS of the laws' slotOf and slotsOf: raw things as slots.
  CONDITIONS: each theorem's own hypotheses.
-/
import Derived.Test.YtcnemacakjemjaaDoorSlotK
import Derived.Test.YtcnemacakjemjaaDoorPartsK
import Derived.Test.YtcnemacakjemjaaDoorPicked
import Derived.Test.YtcnemacakjemjaaDoorGReg
import Derived.Test.YtcnemacakjemjaaDoorGSha
import Derived.Test.YtcnemacakjemjaaDoorGLev
namespace Go.Proofs.YtcnemacakjemjaaDoor
open Go.RowKit CodeMath
set_option linter.unusedVariables false
set_option maxRecDepth 100000

def by8 (n : Int) : UInt8 := UInt8.ofNat (n % 256).toNat
theorem by8_toNat (n : Int) : ((by8 n).toNat : Int) = n % 256 := by
  unfold by8
  have h1 := Int.emod_nonneg n (show (256 : Int) ≠ 0 by decide)
  have h2 := Int.emod_lt_of_pos n (show (0 : Int) < 256 by decide)
  rw [UInt8.toNat_ofNat']
  omega
theorem wrap_by8 (n : Int) : IntKind.u8.wrap n = ((by8 n).toNat : Int) := by
  rw [by8_toNat]
  simp [IntKind.wrap, IntKind.bits, IntKind.signed]
def zSl : List Value := [.bool false, .slice none 0 0, .slice none 0 0]
/-- A raw thing as a slot. -/
def R.slot (r : R) : Sl := ⟨decide (0 < r.k % 3), [by8 r.a, by8 (r.a / 256), by8 r.b], if 0 < r.k % 3 then r.cut 20 else []⟩
theorem rowU_lit3 (w : World) (x y z : Int) (S : List UInt8) (hS : ∃ a b c : UInt8, S = [a, b, c] ∧ x = a.toNat ∧ y = b.toNat ∧ z = c.toNat) : RowU (w.alloc (.cells #[.int .u8 x, .int .u8 y, .int .u8 z] 5)) (.slice (some ⟨w.heap.size, 0, none⟩) 3 3) S := by
  obtain ⟨a, b, c, rfl, rfl, rfl, rfl⟩ := hS
  refine ⟨_, 3, rfl, Nat.le_refl _, by decide, (fun h => by cases h), .inr ⟨w.heap.size, #[.int .u8 (a.toNat : Int), .int .u8 (b.toNat : Int), .int .u8 (c.toNat : Int)], (0, 0), rfl, ?_, fun j y hy => ?_⟩⟩
  · show (w.heap.push _)[w.heap.size]? = _
    simp
  · match j, hy with
    | 0, hy => simp at hy; subst hy; rfl
    | 1, hy => simp at hy; subst hy; rfl
    | 2, hy => simp at hy; subst hy; rfl
def SlotOfF (g0 B : Nat) (k km a b x y z : Int) (S : List UInt8) : Nat → Value → World → Prop
  | 0, v, _ => v = .pointer (some ⟨g0, 0, none⟩)
  | 1, v, _ => v = .int .i64 k
  | 2, v, _ => v = .int .i64 km
  | 3, v, _ => v = .bool (decide (0 < km))
  | 4, v, _ => v = .pointer (some ⟨g0, 1, none⟩)
  | 5, v, _ => v = .int .i64 a
  | 6, v, _ => v = .int .u8 x
  | 7, v, _ => v = .pointer (some ⟨g0, 1, none⟩)
  | 8, v, _ => v = .int .i64 a
  | 9, v, _ => v = .int .i64 (a / 256)
  | 10, v, _ => v = .int .u8 y
  | 11, v, _ => v = .pointer (some ⟨g0, 2, none⟩)
  | 12, v, _ => v = .int .i64 b
  | 13, v, _ => v = .int .u8 z
  | 14, v, w => ∃ h, v = .slice (some ⟨h, 0, none⟩) 3 3 ∧ RowU w (.slice (some ⟨h, 0, none⟩) 3 3) S
  | 15, v, w => ∃ h, v = .agg #[.bool (decide (0 < km)), .slice (some ⟨h, 0, none⟩) 3 3, .slice none 0 0] ∧ RowU w (.slice (some ⟨h, 0, none⟩) 3 3) S
  | 16, v, w => ∃ g, v = .pointer (some ⟨g, 0, none⟩) ∧ B ≤ g ∧ Blk w g 39 zSl
  | _, _, _ => True
theorem slotOfF_keep {g0 B : Nat} {k km a b x y z : Int} {S : List UInt8} (i : Nat) (v : Value) (w w' : World) (h : SlotOfF g0 B k km a b x y z S i v w) (he : Below w.heap.size w w') : SlotOfF g0 B k km a b x y z S i v w' := by
  unfold SlotOfF at *
  split at h <;> (try exact h) <;> (try exact trivial)
  · obtain ⟨q, h1, h2⟩ := h; exact ⟨q, h1, h2.keep he⟩
  · obtain ⟨q, h1, h2⟩ := h; exact ⟨q, h1, h2.keep he⟩
  · obtain ⟨q, h1, h2, h3⟩ := h; exact ⟨q, h1, h2, h3.call he⟩
end Go.Proofs.YtcnemacakjemjaaDoor
