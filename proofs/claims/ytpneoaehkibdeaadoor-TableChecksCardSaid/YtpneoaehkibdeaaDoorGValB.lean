/-
  MERGED: ValOwn, ValB, ValC.
  CONDITIONS: each theorem's own hypotheses.
-/
import Derived.Test.YtpneoaehkibdeaaDoorValA
import Derived.Test.YtpneoaehkibdeaaDoorShelf
import Derived.Shelf.Unicode.ValidAny
import Derived.Outline

/-! CONTRACT of package value's onlyOwnFields: it returns own of the value's four fields. CONDITIONS: none. -/
namespace Go.Proofs.YtpneoaehkibdeaaDoor
open Go.RowKit
set_option linter.unusedVariables false

set_option maxHeartbeats 4000000 in
theorem own_any (k i b : Int) (s : ByteArray) (w : World) :
    Calls Tryd.prog 111 #[.agg #[.int .i64 k, .int .i64 i, .int .u64 b, .string s]] w fun e w' => e = .returned (.bool (own k i b s)) ∧ Below w.heap.size w w' := by
  unfold own
  rcases kcase k with (rfl | rfl | rfl | rfl | rfl) | ⟨_, h1, h2, h3, h4⟩ <;> cases hi : (i == 0) <;> cases hb : (b == 0) <;> cases hs : s.toList.isEmpty <;>
   (go_enter Tryd.func111, Tryd.ntmps111
    go_wp2
    go_ret
    refine ⟨?_, (Below.refl _ _).alloc (Nat.le_refl _) _⟩
    first | rfl | simp [*])

end Go.Proofs.YtpneoaehkibdeaaDoor

/-! CONTRACTS of package value's Check and of the reference's ValueFault: each returns chk of the value's four fields. CONDITIONS: each theorem's own hypotheses; the two tables of package unicode/utf8 hold what their initialisers lay ('Tabs'). -/
namespace Go.Proofs.YtpneoaehkibdeaaDoor
open Go.RowKit
set_option linter.unusedVariables false

def Tabs (w : World) : Prop := Lib.Utf8Tabs (Tryd.laysValid_ren.g 3) (Tryd.laysValid_ren.g 4) w
theorem tabs_below {w w' : World} (h : Tabs w) (hb : Below w.heap.size w w') : Tabs w' := Utf8Tabs_below h hb

theorem valid_any (s : ByteArray) (w : World) (hs : s.size ≤ 9223372036854775807) (hT : Tabs w) :
    Calls Tryd.prog 89 #[.string s] w fun e w' => e = .returned (.bool (Lib.validD s.data.toList)) ∧ Below w.heap.size w w' :=
  Any.utf8_ValidString Tryd.laysValid s w hs hT

set_option maxHeartbeats 2000000 in
theorem good_any (k i b : Int) (s : ByteArray) (w : World) (h0 : 0 ≤ b) (h1 : b ≤ 18446744073709551615) (hs : s.size ≤ 9223372036854775807) (hT : Tabs w) :
    Calls Tryd.prog 112 #[.agg #[.int .i64 k, .int .i64 i, .int .u64 b, .string s]] w fun e w' => e = .returned (.bool (good k i b s)) ∧ Below w.heap.size w w' := by
  unfold good
  rcases kcase k with (rfl | rfl | rfl | rfl | rfl) | ⟨_, k1, k2, k3, k4⟩
  · go_enter Tryd.func112, Tryd.ntmps112
    go_wp2
    go_ret
    exact ⟨rfl, (Below.refl _ _).alloc (Nat.le_refl _) _⟩
  · cases i0 : (i == 0) <;> cases i1 : (i == 1) <;>
    (go_enter Tryd.func112, Tryd.ntmps112
     go_wp2
     go_ret
     exact ⟨rfl, (Below.refl _ _).alloc (Nat.le_refl _) _⟩)
  · go_enter Tryd.func112, Tryd.ntmps112
    go_wp2
    go_ret
    exact ⟨rfl, (Below.refl _ _).alloc (Nat.le_refl _) _⟩
  · have hn : (FloatKind.f64.format.order b.toNat b.toNat != some .eq) = nan b := FloatOrd.self_eq b.toNat (by omega)
    have HN := Lib.hid hn
    cases nn : nan b
    · rw [nn] at hn
      cases b2 : (b == 9223372036854775808) <;>
      (go_enter Tryd.func112, Tryd.ntmps112
       go_wp2
       go_ret
       exact ⟨rb (by simp [bne, b2]), ((Below.refl _ _).alloc (Nat.le_refl _) _).alloc (by simp) _⟩)
    · rw [nn] at hn
      go_enter Tryd.func112, Tryd.ntmps112
      go_wp2
      go_ret
      exact ⟨rfl, ((Below.refl _ _).alloc (Nat.le_refl _) _).alloc (by simp) _⟩
  · have hT1 : ∀ o, Tabs (w.alloc o) := fun o => tabs_below hT ((Below.refl _ _).alloc (Nat.le_refl _) o)
    have cV := fun o => valid_any s (w.alloc o) hs (hT1 o)
    clear hT1 hT
    generalize Lib.validD s.data.toList = V at cV ⊢
    go_enter Tryd.func112, Tryd.ntmps112
    go_wp2_with fail
    refine (cV _).mono ?_
    rintro e w' ⟨rfl, hb⟩
    clear cV
    go_wp2
    go_ret
    exact ⟨rfl, ((Below.refl _ _).alloc (Nat.le_refl _) _).trans (hb.mono (by simp))⟩
  · have e1 : ¬ k = 1 := by simpa using k1
    have e3 : ¬ k = 3 := by simpa using k3
    have e4 : ¬ k = 4 := by simpa using k4
    rw [if_neg e1, if_neg e3, if_neg e4]
    clear e1 e3 e4
    go_enter Tryd.func112, Tryd.ntmps112
    go_wp2
    go_ret
    exact ⟨rfl, (Below.refl _ _).alloc (Nat.le_refl _) _⟩

set_option maxHeartbeats 2000000 in
theorem check_any (k i b : Int) (s : ByteArray) (w : World) (h0 : 0 ≤ b) (h1 : b ≤ 18446744073709551615) (hs : s.size ≤ 9223372036854775807) (hT : Tabs w) :
    Calls Tryd.prog 90 #[.agg #[.int .i64 k, .int .i64 i, .int .u64 b, .string s]] w fun e w' => e = .returned (.int .i64 (chk k i b s)) ∧ Below w.heap.size w w' := by
  unfold chk
  by_cases c0 : k < 0
  · rw [if_pos (Or.inl c0)]
    go_enter Tryd.func90, Tryd.ntmps90
    go_wp2_with fail
    go_ret
    exact ⟨rfl, (Below.refl _ _).alloc (Nat.le_refl _) _⟩
  by_cases c4 : 4 < k
  · rw [if_pos (Or.inr c4)]
    go_enter Tryd.func90, Tryd.ntmps90
    go_wp2_with fail
    go_ret
    exact ⟨rfl, (Below.refl _ _).alloc (Nat.le_refl _) _⟩
  rw [if_neg (by omega)]
  by_cases cs : 40 < s.size
  · rw [if_pos cs]
    go_enter Tryd.func90, Tryd.ntmps90
    go_wp2_with fail
    go_ret
    exact ⟨rfl, (Below.refl _ _).alloc (Nat.le_refl _) _⟩
  rw [if_neg cs]
  have hT1 : ∀ o, Tabs (w.alloc o) := fun o => tabs_below hT ((Below.refl _ _).alloc (Nat.le_refl _) o)
  have cO := fun w => own_any k i b s w
  have cG := fun w => good_any k i b s w h0 h1 hs
  generalize own k i b s = O at cO ⊢
  generalize good k i b s = G at cG ⊢
  clear hT
  cases O
  · go_enter Tryd.func90, Tryd.ntmps90
    go_wp2_with fail
    refine (cO _).mono ?_
    rintro e w' ⟨rfl, hb⟩
    clear cO cG
    go_wp2_with fail
    go_ret
    exact ⟨rfl, ((Below.refl _ _).alloc (Nat.le_refl _) _).trans (hb.mono (by simp))⟩
  · cases G
    · go_enter Tryd.func90, Tryd.ntmps90
      go_wp2_with fail
      refine (cO _).mono ?_
      rintro e w1 ⟨rfl, hb⟩
      have hc := hb.cell (p := ⟨w.heap.size, 0, none⟩) (by simp)
      have hc1 := hb.cell (p := ⟨w.heap.size, 1, none⟩) (by simp)
      have hc2 := hb.cell (p := ⟨w.heap.size, 2, none⟩) (by simp)
      have hc3 := hb.cell (p := ⟨w.heap.size, 3, none⟩) (by simp)
      have hTb := tabs_below (hT1 _) hb
      clear cO hT1
      go_wp2_with fail
      refine (cG _ hTb).mono ?_
      rintro e w2 ⟨rfl, hb2⟩
      clear cG
      go_wp2_with fail
      go_ret
      exact ⟨rfl, ((Below.refl _ _).alloc (Nat.le_refl _) _).trans ((hb.mono (by simp)).trans (hb2.mono (by have := hb.size; simp at this; omega)))⟩
    · go_enter Tryd.func90, Tryd.ntmps90
      go_wp2_with fail
      refine (cO _).mono ?_
      rintro e w1 ⟨rfl, hb⟩
      have hc := hb.cell (p := ⟨w.heap.size, 0, none⟩) (by simp)
      have hc1 := hb.cell (p := ⟨w.heap.size, 1, none⟩) (by simp)
      have hc2 := hb.cell (p := ⟨w.heap.size, 2, none⟩) (by simp)
      have hc3 := hb.cell (p := ⟨w.heap.size, 3, none⟩) (by simp)
      have hTb := tabs_below (hT1 _) hb
      clear cO hT1
      go_wp2_with fail
      refine (cG _ hTb).mono ?_
      rintro e w2 ⟨rfl, hb2⟩
      clear cG
      go_wp2_with fail
      go_ret
      exact ⟨rfl, ((Below.refl _ _).alloc (Nat.le_refl _) _).trans ((hb.mono (by simp)).trans (hb2.mono (by have := hb.size; simp at this; omega)))⟩
end Go.Proofs.YtpneoaehkibdeaaDoor

/-! CONTRACT of the reference's ValueFault: it returns chk of the value's four fields, as package value's Check does. CONDITIONS: each theorem's own hypotheses; the two tables of package unicode/utf8 hold what their initialisers lay ('Tabs'). -/
namespace Go.Proofs.YtpneoaehkibdeaaDoor
open Go.RowKit
set_option linter.unusedVariables false

theorem valid_nil : Lib.validD [] = true := by decide
theorem empty_iff (s : ByteArray) : s.toList.isEmpty = true ↔ s.toList = [] := by simp

theorem two_below {w w2 : World} {o1 o2 : Obj} (hb : Below ((w.alloc o1).alloc o2).heap.size ((w.alloc o1).alloc o2) w2) : Below w.heap.size w w2 :=
  (((Below.refl _ _).alloc (Nat.le_refl _) _).alloc (by simp) _).trans (hb.mono (by simp; omega))

theorem fault_kind (k i b : Int) (s : ByteArray) (w : World) (k0 : (k == 0) = false) (k1 : (k == 1) = false) (k2 : (k == 2) = false) (k3 : (k == 3) = false) (k4 : (k == 4) = false) :
    Calls Tryd.prog 61 #[.agg #[.int .i64 k, .int .i64 i, .int .u64 b, .string s]] w fun e w' => e = .returned (.int .i64 2) ∧ Below w.heap.size w w' := by
  go_enter Tryd.func61, Tryd.ntmps61
  go_wp2_with fail
  go_ret
  exact ⟨rfl, ((Below.refl _ _).alloc (Nat.le_refl _) _).alloc (by simp) _⟩

theorem fault_size (k i b : Int) (s : ByteArray) (w : World) (hk : k = 0 ∨ k = 1 ∨ k = 2 ∨ k = 3 ∨ k = 4) (cs : 40 < s.size) :
    Calls Tryd.prog 61 #[.agg #[.int .i64 k, .int .i64 i, .int .u64 b, .string s]] w fun e w' => e = .returned (.int .i64 1) ∧ Below w.heap.size w w' := by
  rcases hk with rfl | rfl | rfl | rfl | rfl <;>
  (go_enter Tryd.func61, Tryd.ntmps61
   go_wp2_with fail
   go_ret
   exact ⟨rfl, ((Below.refl _ _).alloc (Nat.le_refl _) _).alloc (by simp) _⟩)

set_option maxHeartbeats 4000000 in
/-- What is not of its kind. -/
theorem fault_own (k i b : Int) (s : ByteArray) (w : World) (hk : k = 0 ∨ k = 1 ∨ k = 2 ∨ k = 3 ∨ k = 4) (cs : s.size ≤ 40) (ho : own k i b s = false) :
    Calls Tryd.prog 61 #[.agg #[.int .i64 k, .int .i64 i, .int .u64 b, .string s]] w fun e w' => e = .returned (.int .i64 3) ∧ Below w.heap.size w w' := by
  unfold own at ho
  rcases hk with rfl | rfl | rfl | rfl | rfl
  · cases hi : (i == 0)
    · clear ho
      go_enter Tryd.func61, Tryd.ntmps61
      go_wp2_with fail
      go_ret
      exact ⟨rfl, ((Below.refl _ _).alloc (Nat.le_refl _) _).alloc (by simp) _⟩
    · cases hb : (b == 0)
      · clear ho
        go_enter Tryd.func61, Tryd.ntmps61
        go_wp2_with fail
        go_ret
        exact ⟨rfl, ((Below.refl _ _).alloc (Nat.le_refl _) _).alloc (by simp) _⟩
      · have he : ¬ s.toList = [] := by simp [hi, hb] at ho; exact ho
        clear ho
        go_enter Tryd.func61, Tryd.ntmps61
        go_wp2_with fail
        go_ret
        exact ⟨rfl, ((Below.refl _ _).alloc (Nat.le_refl _) _).alloc (by simp) _⟩
  all_goals
   cases hi : (i == 0) <;> cases hb : (b == 0) <;> cases he : s.toList.isEmpty <;>
   first
    | (exfalso; simp [hi, hb, he] at ho; done)
    | (have he1 : s.toList = [] := (empty_iff s).1 he
       clear ho
       go_enter Tryd.func61, Tryd.ntmps61
       go_wp2_with fail
       go_ret
       exact ⟨rfl, ((Below.refl _ _).alloc (Nat.le_refl _) _).alloc (by simp) _⟩)
    | (have he1 : ¬ s.toList = [] := fun e => by rw [(empty_iff s).2 e] at he; cases he
       clear ho
       go_enter Tryd.func61, Tryd.ntmps61
       go_wp2_with fail
       go_ret
       exact ⟨rfl, ((Below.refl _ _).alloc (Nat.le_refl _) _).alloc (by simp) _⟩)

/-- A null. -/
theorem fault_null (w : World) (s : ByteArray) (hs : s.toList = []) (cs : s.size ≤ 40) (hT : Tabs w) :
    Calls Tryd.prog 61 #[.agg #[.int .i64 0, .int .i64 0, .int .u64 0, .string s]] w fun e w' => e = .returned (.int .i64 0) ∧ Below w.heap.size w w' := by
  have hT2 : ∀ o1 o2, Tabs ((w.alloc o1).alloc o2) := fun o1 o2 => tabs_below hT (((Below.refl _ _).alloc (Nat.le_refl _) _).alloc (by simp) _)
  have cV := fun o1 o2 => valid_any s ((w.alloc o1).alloc o2) (by omega) (hT2 o1 o2)
  rw [← Lib.toList_data, hs, valid_nil] at cV
  clear hT hT2
  go_enter Tryd.func61, Tryd.ntmps61
  go_wp2_with fail
  refine (cV _ _).mono ?_
  rintro e w2 ⟨rfl, hb⟩
  clear cV
  go_wp2_with fail
  go_ret
  exact ⟨rfl, two_below hb⟩

/-- A bool. -/
theorem fault_bool (i : Int) (w : World) (s : ByteArray) (hs : s.toList = []) (cs : s.size ≤ 40) (hT : Tabs w) (hi0 : -9223372036854775808 ≤ i) (hi1 : i ≤ 9223372036854775807) :
    Calls Tryd.prog 61 #[.agg #[.int .i64 1, .int .i64 i, .int .u64 0, .string s]] w fun e w' => e = .returned (.int .i64 (if (i == 0 || i == 1) = true then 0 else 3)) ∧ Below w.heap.size w w' := by
  have hT2 : ∀ o1 o2, Tabs ((w.alloc o1).alloc o2) := fun o1 o2 => tabs_below hT (((Below.refl _ _).alloc (Nat.le_refl _) _).alloc (by simp) _)
  have cV := fun o1 o2 => valid_any s ((w.alloc o1).alloc o2) (by omega) (hT2 o1 o2)
  rw [← Lib.toList_data, hs, valid_nil] at cV
  clear hT hT2
  have hw : IntKind.u64.wrap i = i % 18446744073709551616 := rfl
  by_cases hr : i = 0 ∨ i = 1
  · have ht : decide ((1 : Int) < IntKind.u64.wrap i) = false := decide_eq_false (by omega)
    rw [if_pos (by rcases hr with rfl | rfl <;> rfl)]
    clear hw hr
    go_enter Tryd.func61, Tryd.ntmps61
    go_wp2_with fail
    refine (cV _ _).mono ?_
    rintro e w2 ⟨rfl, hb⟩
    clear cV
    go_wp2_with fail
    go_ret
    exact ⟨rfl, two_below hb⟩
  · have ht : decide ((1 : Int) < IntKind.u64.wrap i) = true := decide_eq_true (by omega)
    rw [if_neg (by simp; omega)]
    clear hw hr cV
    go_enter Tryd.func61, Tryd.ntmps61
    go_wp2_with fail
    go_ret
    exact ⟨rfl, ((Below.refl _ _).alloc (Nat.le_refl _) _).alloc (by simp) _⟩

/-- A number. -/
theorem fault_int (i : Int) (w : World) (s : ByteArray) (hs : s.toList = []) (cs : s.size ≤ 40) (hT : Tabs w) :
    Calls Tryd.prog 61 #[.agg #[.int .i64 2, .int .i64 i, .int .u64 0, .string s]] w fun e w' => e = .returned (.int .i64 0) ∧ Below w.heap.size w w' := by
  have hT2 : ∀ o1 o2, Tabs ((w.alloc o1).alloc o2) := fun o1 o2 => tabs_below hT (((Below.refl _ _).alloc (Nat.le_refl _) _).alloc (by simp) _)
  have cV := fun o1 o2 => valid_any s ((w.alloc o1).alloc o2) (by omega) (hT2 o1 o2)
  rw [← Lib.toList_data, hs, valid_nil] at cV
  clear hT hT2
  go_enter Tryd.func61, Tryd.ntmps61
  go_wp2_with fail
  refine (cV _ _).mono ?_
  rintro e w2 ⟨rfl, hb⟩
  clear cV
  go_wp2_with fail
  go_ret
  exact ⟨rfl, two_below hb⟩

/-- A real. -/
theorem fault_real (b : Int) (w : World) (s : ByteArray) (hs : s.toList = []) (cs : s.size ≤ 40) (hT : Tabs w) (h0 : 0 ≤ b) (h1 : b ≤ 18446744073709551615) :
    Calls Tryd.prog 61 #[.agg #[.int .i64 3, .int .i64 0, .int .u64 b, .string s]] w fun e w' => e = .returned (.int .i64 (if (nan b || b == 9223372036854775808) = true then 3 else 0)) ∧ Below w.heap.size w w' := by
  have hT2 : ∀ o1 o2, Tabs ((w.alloc o1).alloc o2) := fun o1 o2 => tabs_below hT (((Below.refl _ _).alloc (Nat.le_refl _) _).alloc (by simp) _)
  have cV := fun o1 o2 => valid_any s ((w.alloc o1).alloc o2) (by omega) (hT2 o1 o2)
  have cB := fun w => badReal_any b w h0 h1
  rw [← Lib.toList_data, hs, valid_nil] at cV
  clear hT hT2
  generalize (nan b || b == 9223372036854775808) = V at cB ⊢
  cases V
  · go_enter Tryd.func61, Tryd.ntmps61
    go_wp2_with fail
    refine (cB _).mono ?_
    rintro e w2 ⟨rfl, rfl⟩
    go_wp2_with fail
    refine (cV _ _).mono ?_
    rintro e w2 ⟨rfl, hb⟩
    clear cV
    go_wp2_with fail
    go_ret
    exact ⟨rfl, two_below hb⟩
  · go_enter Tryd.func61, Tryd.ntmps61
    go_wp2_with fail
    refine (cB _).mono ?_
    rintro e w2 ⟨rfl, rfl⟩
    go_wp2_with fail
    go_ret
    exact ⟨rfl, ((Below.refl _ _).alloc (Nat.le_refl _) _).alloc (by simp) _⟩

/-- A text. -/
theorem fault_text (w : World) (s : ByteArray) (cs : s.size ≤ 40) (hT : Tabs w) :
    Calls Tryd.prog 61 #[.agg #[.int .i64 4, .int .i64 0, .int .u64 0, .string s]] w fun e w' => e = .returned (.int .i64 (if Lib.validD s.data.toList = true then 0 else 3)) ∧ Below w.heap.size w w' := by
  have hT2 : ∀ o1 o2, Tabs ((w.alloc o1).alloc o2) := fun o1 o2 => tabs_below hT (((Below.refl _ _).alloc (Nat.le_refl _) _).alloc (by simp) _)
  have cV := fun o1 o2 => valid_any s ((w.alloc o1).alloc o2) (by omega) (hT2 o1 o2)
  clear hT hT2
  generalize Lib.validD s.data.toList = V at cV ⊢
  cases V <;>
  (go_enter Tryd.func61, Tryd.ntmps61
   go_wp2_with fail
   refine (cV _ _).mono ?_
   rintro e w2 ⟨rfl, hb⟩
   clear cV
   go_wp2_with fail
   go_ret
   exact ⟨rfl, two_below hb⟩)

/-- ████ ValueFault is chk. -/
theorem fault_any (k i b : Int) (s : ByteArray) (w : World) (hi0 : -9223372036854775808 ≤ i) (hi1 : i ≤ 9223372036854775807) (h0 : 0 ≤ b) (h1 : b ≤ 18446744073709551615) (hT : Tabs w) :
    Calls Tryd.prog 61 #[.agg #[.int .i64 k, .int .i64 i, .int .u64 b, .string s]] w fun e w' => e = .returned (.int .i64 (chk k i b s)) ∧ Below w.heap.size w w' := by
  unfold chk
  rcases kcase k with hk | ⟨k0, k1, k2, k3, k4⟩
  · rw [if_neg (by omega)]
    by_cases cs : 40 < s.size
    · rw [if_pos cs]; exact fault_size k i b s w hk cs
    rw [if_neg cs]
    have cs' : s.size ≤ 40 := by omega
    cases ho : own k i b s
    · simp only [Bool.false_and, Bool.false_eq_true, if_false]
      exact fault_own k i b s w hk cs' ho
    · simp only [Bool.true_and]
      unfold own at ho
      unfold good
      rcases hk with rfl | rfl | rfl | rfl | rfl
      · simp at ho
        obtain ⟨rfl, rfl, hs⟩ := ho
        exact fault_null w s hs cs' hT
      · simp at ho
        obtain ⟨rfl, hs⟩ := ho
        exact fault_bool i w s hs cs' hT hi0 hi1
      · simp at ho
        obtain ⟨rfl, hs⟩ := ho
        exact fault_int i w s hs cs' hT
      · simp at ho
        obtain ⟨rfl, hs⟩ := ho
        have := fault_real b w s hs cs' hT h0 h1
        have e : (if (nan b || b == 9223372036854775808) = true then (3 : Int) else 0) = if (!nan b && !(b == 9223372036854775808)) = true then 0 else 3 := by
          cases nan b <;> cases (b == 9223372036854775808) <;> rfl
        rw [e] at this
        exact this
      · simp at ho
        obtain ⟨rfl, rfl⟩ := ho
        exact fault_text w s cs' hT
  · have e0 : ¬ k = 0 := by simpa using k0
    have e1 : ¬ k = 1 := by simpa using k1
    have e2 : ¬ k = 2 := by simpa using k2
    have e3 : ¬ k = 3 := by simpa using k3
    have e4 : ¬ k = 4 := by simpa using k4
    rw [if_pos (by omega)]
    exact fault_kind k i b s w k0 k1 k2 k3 k4
end Go.Proofs.YtpneoaehkibdeaaDoor
