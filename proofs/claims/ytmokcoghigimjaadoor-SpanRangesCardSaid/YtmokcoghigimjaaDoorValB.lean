/-
  CONTRACTS of package value's Check and of the reference's ValueFault: each returns chk of the value's four fields.
  CONDITIONS: each theorem's own hypotheses; the two tables of package unicode/utf8 hold what their initialisers lay ('Tabs').
-/
import Derived.Test.YtmokcoghigimjaaDoorValOwn
import Derived.Test.YtmokcoghigimjaaDoorShelf
import Derived.Shelf.Unicode.ValidAny
import Derived.Outline
namespace Go.Proofs.YtmokcoghigimjaaDoor
open Go.RowKit
set_option linter.unusedVariables false

def Tabs (w : World) : Prop := Lib.Utf8Tabs (Tryd.laysValid_ren.g 3) (Tryd.laysValid_ren.g 4) w
theorem tabs_below {w w' : World} (h : Tabs w) (hb : Below w.heap.size w w') : Tabs w' := Utf8Tabs_below h hb

theorem valid_any (s : ByteArray) (w : World) (hs : s.size ≤ 9223372036854775807) (hT : Tabs w) :
    Calls Tryd.prog 33 #[.string s] w fun e w' => e = .returned (.bool (Lib.validD s.data.toList)) ∧ Below w.heap.size w w' :=
  Any.utf8_ValidString Tryd.laysValid s w hs hT

set_option maxHeartbeats 2000000 in
theorem good_any (k i b : Int) (s : ByteArray) (w : World) (h0 : 0 ≤ b) (h1 : b ≤ 18446744073709551615) (hs : s.size ≤ 9223372036854775807) (hT : Tabs w) :
    Calls Tryd.prog 40 #[.agg #[.int .i64 k, .int .i64 i, .int .u64 b, .string s]] w fun e w' => e = .returned (.bool (good k i b s)) ∧ Below w.heap.size w w' := by
  unfold good
  rcases kcase k with (rfl | rfl | rfl | rfl | rfl) | ⟨_, k1, k2, k3, k4⟩
  · go_enter Tryd.func40, Tryd.ntmps40
    go_wp2
    go_ret
    exact ⟨rfl, (Below.refl _ _).alloc (Nat.le_refl _) _⟩
  · cases i0 : (i == 0) <;> cases i1 : (i == 1) <;>
    (go_enter Tryd.func40, Tryd.ntmps40
     go_wp2
     go_ret
     exact ⟨rfl, (Below.refl _ _).alloc (Nat.le_refl _) _⟩)
  · go_enter Tryd.func40, Tryd.ntmps40
    go_wp2
    go_ret
    exact ⟨rfl, (Below.refl _ _).alloc (Nat.le_refl _) _⟩
  · have hn : (FloatKind.f64.format.order b.toNat b.toNat != some .eq) = nan b := FloatOrd.self_eq b.toNat (by omega)
    have HN := Lib.hid hn
    cases nn : nan b
    · rw [nn] at hn
      cases b2 : (b == 9223372036854775808) <;>
      (go_enter Tryd.func40, Tryd.ntmps40
       go_wp2
       go_ret
       exact ⟨rb (by simp [bne, b2]), ((Below.refl _ _).alloc (Nat.le_refl _) _).alloc (by simp) _⟩)
    · rw [nn] at hn
      go_enter Tryd.func40, Tryd.ntmps40
      go_wp2
      go_ret
      exact ⟨rfl, ((Below.refl _ _).alloc (Nat.le_refl _) _).alloc (by simp) _⟩
  · have hT1 : ∀ o, Tabs (w.alloc o) := fun o => tabs_below hT ((Below.refl _ _).alloc (Nat.le_refl _) o)
    have cV := fun o => valid_any s (w.alloc o) hs (hT1 o)
    clear hT1 hT
    generalize Lib.validD s.data.toList = V at cV ⊢
    go_enter Tryd.func40, Tryd.ntmps40
    go_wp2_with fail
    refine (cV _).mono ?_
    rintro e w' ⟨rfl, hb⟩
    clear cV
    go_wp2
    go_ret
    exact ⟨rfl, ((Below.refl _ _).alloc (Nat.le_refl _) _).trans (hb.mono (by simp))⟩
  · have e1 : ¬ k = 1 := by simpa using k1
    have e3 : ¬ k = 3 := by simpa using k3
    have e4 : ¬ k = 4 := by simpa using k4
    rw [if_neg e1, if_neg e3, if_neg e4]
    clear e1 e3 e4
    go_enter Tryd.func40, Tryd.ntmps40
    go_wp2
    go_ret
    exact ⟨rfl, (Below.refl _ _).alloc (Nat.le_refl _) _⟩

set_option maxHeartbeats 2000000 in
theorem check_any (k i b : Int) (s : ByteArray) (w : World) (h0 : 0 ≤ b) (h1 : b ≤ 18446744073709551615) (hs : s.size ≤ 9223372036854775807) (hT : Tabs w) :
    Calls Tryd.prog 29 #[.agg #[.int .i64 k, .int .i64 i, .int .u64 b, .string s]] w fun e w' => e = .returned (.int .i64 (chk k i b s)) ∧ Below w.heap.size w w' := by
  unfold chk
  by_cases c0 : k < 0
  · rw [if_pos (Or.inl c0)]
    go_enter Tryd.func29, Tryd.ntmps29
    go_wp2_with fail
    go_ret
    exact ⟨rfl, (Below.refl _ _).alloc (Nat.le_refl _) _⟩
  by_cases c4 : 4 < k
  · rw [if_pos (Or.inr c4)]
    go_enter Tryd.func29, Tryd.ntmps29
    go_wp2_with fail
    go_ret
    exact ⟨rfl, (Below.refl _ _).alloc (Nat.le_refl _) _⟩
  rw [if_neg (by omega)]
  by_cases cs : 40 < s.size
  · rw [if_pos cs]
    go_enter Tryd.func29, Tryd.ntmps29
    go_wp2_with fail
    go_ret
    exact ⟨rfl, (Below.refl _ _).alloc (Nat.le_refl _) _⟩
  rw [if_neg cs]
  have hT1 : ∀ o, Tabs (w.alloc o) := fun o => tabs_below hT ((Below.refl _ _).alloc (Nat.le_refl _) o)
  have cO := fun w => own_any k i b s w
  have cG := fun w => good_any k i b s w h0 h1 hs
  generalize own k i b s = O at cO ⊢
  generalize good k i b s = G at cG ⊢
  clear hT
  cases O
  · go_enter Tryd.func29, Tryd.ntmps29
    go_wp2_with fail
    refine (cO _).mono ?_
    rintro e w' ⟨rfl, hb⟩
    clear cO cG
    go_wp2_with fail
    go_ret
    exact ⟨rfl, ((Below.refl _ _).alloc (Nat.le_refl _) _).trans (hb.mono (by simp))⟩
  · cases G
    · go_enter Tryd.func29, Tryd.ntmps29
      go_wp2_with fail
      refine (cO _).mono ?_
      rintro e w1 ⟨rfl, hb⟩
      have hc := hb.cell (p := ⟨w.heap.size, 0, none⟩) (by simp)
      have hc1 := hb.cell (p := ⟨w.heap.size, 1, none⟩) (by simp)
      have hc2 := hb.cell (p := ⟨w.heap.size, 2, none⟩) (by simp)
      have hc3 := hb.cell (p := ⟨w.heap.size, 3, none⟩) (by simp)
      have hTb := tabs_below (hT1 _) hb
      clear cO hT1
      go_wp2_with fail
      refine (cG _ hTb).mono ?_
      rintro e w2 ⟨rfl, hb2⟩
      clear cG
      go_wp2_with fail
      go_ret
      exact ⟨rfl, ((Below.refl _ _).alloc (Nat.le_refl _) _).trans ((hb.mono (by simp)).trans (hb2.mono (by have := hb.size; simp at this; omega)))⟩
    · go_enter Tryd.func29, Tryd.ntmps29
      go_wp2_with fail
      refine (cO _).mono ?_
      rintro e w1 ⟨rfl, hb⟩
      have hc := hb.cell (p := ⟨w.heap.size, 0, none⟩) (by simp)
      have hc1 := hb.cell (p := ⟨w.heap.size, 1, none⟩) (by simp)
      have hc2 := hb.cell (p := ⟨w.heap.size, 2, none⟩) (by simp)
      have hc3 := hb.cell (p := ⟨w.heap.size, 3, none⟩) (by simp)
      have hTb := tabs_below (hT1 _) hb
      clear cO hT1
      go_wp2_with fail
      refine (cG _ hTb).mono ?_
      rintro e w2 ⟨rfl, hb2⟩
      clear cG
      go_wp2_with fail
      go_ret
      exact ⟨rfl, ((Below.refl _ _).alloc (Nat.le_refl _) _).trans ((hb.mono (by simp)).trans (hb2.mono (by have := hb.size; simp at this; omega)))⟩
end Go.Proofs.YtmokcoghigimjaaDoor
