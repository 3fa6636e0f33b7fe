/-
  CONTRACT of package slots' content; slots as values.
  CONDITIONS: each theorem's own hypotheses.
-/
import Derived.Test.YtdpfjhhcgaeiiabDoorDigA
import Derived.Test.YtdpfjhhcgaeiiabDoorGParse
namespace Go.Proofs.YtdpfjhhcgaeiiabDoor
open Go.RowKit CodeMath Go.Proofs.YtdpfjhhcgaeiiabDoor.FrameMath
set_option linter.unusedVariables false
set_option maxRecDepth 100000

/-- A slot's content: its data behind a byte. -/
def contB (f : Bool) (d : List UInt8) : List UInt8 := if f then 1 :: d else [0]
theorem contB_length (f : Bool) (d : List UInt8) : (contB f d).length ≤ d.length + 1 := by
  unfold contB; cases f <;> simp
theorem rowT_lit (w : World) (x : Int) (c : UInt8) (hx : x = c.toNat) : RowT (w.alloc (.cells #[.int .u8 x] 5)) (.slice (some ⟨w.heap.size, 0, none⟩) 1 1) [c] := by
  subst hx
  refine ⟨_, 1, rfl, Nat.le_refl _, by decide, (fun h => by cases h), .inr ⟨w.heap.size, #[.int .u8 (c.toNat : Int)], 5, (0, 0), rfl, ?_, ⟨by decide, by decide⟩, fun j y hy => ?_⟩⟩
  · show (w.heap.push _)[w.heap.size]? = _
    simp
  · obtain rfl : j = 0 := by have := (List.getElem?_eq_some_iff.1 hy).1; simp at this; exact this
    simp at hy; subst hy; rfl
set_option maxHeartbeats 1000000 in
theorem content_any (f : Bool) (sv : Value) (a1 : Option Addr) (n1 k1 : Nat) (hsv : sv = .slice a1 n1 k1) (d : List UInt8) (ad : Option Addr) (cd : Nat) (w : World) (hc : d.length ≤ cd) (hn : ad = none → cd = 0) (hd : Bytes w ad d) (hl : d.length ≤ 1000) :
    Calls Tryd.prog 59 #[.agg #[.bool f, sv, .slice ad d.length cd]] w fun e w' => ∃ v, e = .returned v ∧ RowT w' v (contB f d) ∧ Below w.heap.size w w' := by
  subst hsv
  have hba : ∀ o, Below w.heap.size w (w.alloc o) := fun o => (Below.refl _ _).alloc (Nat.le_refl _) o
  have hz : ∀ o, (w.alloc o).heap.size = w.heap.size + 1 := fun o => by simp
  cases f with
  | false =>
    have hr : ∀ o, RowT ((w.alloc o).alloc (.cells #[.int .u8 0] 5)) (.slice (some ⟨w.heap.size + 1, 0, none⟩) 1 1) [0] := fun o => by
      have h := rowT_lit (w.alloc o) 0 0 rfl
      rw [hz o] at h
      exact h
    have hb2 : ∀ o o', Below w.heap.size w ((w.alloc o).alloc o') := fun o o' => (hba o).alloc (hba o).size o'
    clear hd hc hz
    generalize d.length = n
    go_enter Tryd.func59, Tryd.ntmps59
    go_wp2_with fail
    go_ret
    exact ⟨_, rfl, hr _, hb2 _ _⟩
  | true =>
    have ho : ∀ o, OwnB ((w.alloc o).alloc (.cells #[.int .u8 1] 5)) w.heap.size (.slice (some ⟨w.heap.size + 1, 0, none⟩) 1 1) [1] := fun o => by
      have h : OwnB _ w.heap.size _ [1] := World.ownsRow_lit (w.alloc o) #[.int .u8 1] 1 (hba o).size (by unfold maxLen; omega) rfl
      rw [hz o] at h
      exact h
    have hb2 : ∀ o o', Below w.heap.size w ((w.alloc o).alloc o') := fun o o' => (hba o).alloc (hba o).size o'
    have hd2 : ∀ o o', Bytes ((w.alloc o).alloc o') ad d := fun o o' => hd.keep (hb2 o o')
    clear hd hz
    obtain ⟨n, hnn⟩ : ∃ n, d.length = n := ⟨_, rfl⟩
    have hll : ([1] : List UInt8).length + d.length ≤ 140737488351232 := by simp; omega
    have HL := Lib.hid hll
    have HN := Lib.hid hnn
    rw [hnn] at hc ⊢
    clear hnn hl hll
    go_enter Tryd.func59, Tryd.ntmps59
    go_wp2_with (first
      | (at_builtin; refine wpList_append_came rfl _ _ rfl w.heap.size _ _ rfl (ho _) d ad cd (by rw [HN.out]; rfl) (hd2 _ _) hn HL.out (hb2 _ _).size ?_; intro v5 w5 ho5 hb5)
      | fail)
    go_ret
    exact ⟨_, rfl, ho5.rowT, (hb2 _ _).trans hb5⟩
end Go.Proofs.YtdpfjhhcgaeiiabDoor
