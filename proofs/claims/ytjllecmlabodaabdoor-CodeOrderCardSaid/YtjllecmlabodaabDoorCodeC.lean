/-
  CONTRACTS of package code's appendValue and Encode.
  CONDITIONS: each theorem's own hypotheses.
-/
import Derived.Test.YtjllecmlabodaabDoorCodeB
import Derived.Test.YtjllecmlabodaabDoorOrdMath
import Derived.Deep.QuietTactic
import Derived.BigQuiet
namespace Go.Proofs.YtjllecmlabodaabDoor
open Go.RowKit CodeMath
set_option linter.unusedVariables false

/-- A value's fields, its text a list. -/
def V.val (v : V) : CodeMath.Val := ⟨v.k, v.i, v.b, v.s.data.toList⟩
theorem chk_zero (v : V) (h : v.chk = 0) : (0 ≤ v.k ∧ v.k ≤ 4) ∧ v.s.size ≤ 40 ∧ own v.k v.i v.b v.s = true ∧ good v.k v.i v.b v.s = true := by
  unfold V.chk chk at h
  split at h
  · cases h
  · split at h
    · cases h
    · split at h
      · rename_i h1 h2 h3
        simp only [Bool.and_eq_true] at h3
        exact ⟨by omega, by omega, h3.1, h3.2⟩
      · cases h
theorem facts_of (v : V) (hv : v.Fits) (h : v.chk = 0) : Facts v.val := by
  obtain ⟨hk, hs, ho, hg⟩ := chk_zero v h
  unfold own at ho
  simp only [Bool.and_eq_true, Bool.or_eq_true, beq_iff_eq] at ho
  obtain ⟨o1, o2, o3⟩ := ho
  refine ⟨hk.1, hk.2, ?_, hv.i0, hv.i1, hv.b0, hv.b1, ?_, ?_, ?_, ?_⟩
  · intro e
    unfold good at hg
    rw [if_pos (show v.k = 1 from e)] at hg
    show v.i = 0 ∨ v.i = 1
    simpa using hg
  · intro e1 e2
    rcases o1 with (h1 | h1) | h1
    · exact absurd h1 e1
    · exact absurd h1 e2
    · exact h1
  · intro e
    rcases o2 with h1 | h1
    · exact absurd h1 e
    · exact h1
  · intro e
    rcases o3 with h1 | h1
    · exact absurd h1 e
    · show v.s.data.toList = []
      have := (empty_iff v.s).1 h1
      rwa [Lib.toList_data] at this
  · show v.s.data.toList.length ≤ 40
    rw [← Lib.size_eq]; exact hs

/-- The block of a boxed value behind an append to another one. -/
theorem box_kept {w w1 : World} {base : Nat} {v : Value} {l : List UInt8} {o : Obj} (hown : OwnB w base v l) (hg : (w.alloc o).grownBy w1 v.ownBlock) (j : Nat) {c : Value} (h : (w.alloc o).cell? ⟨w.heap.size, j, none⟩ = some c) : w1.cell? ⟨w.heap.size, j, none⟩ = some c :=
  hg.cell h (fun e => by have := (hown.lt _ e.symm).2; simp at this)

theorem i64_top (i : Int) (h0 : -9223372036854775808 ≤ i) (h1 : i ≤ 9223372036854775807) : bits .xor .u64 (IntKind.u64.wrap i) 9223372036854775808 = i + two63 := by
  rw [IntKind.wrap_u64, xor_top _ (by omega) (by omega)]
  unfold two63
  split <;> omega

set_option maxRecDepth 100000 in
set_option maxHeartbeats 2000000 in
theorem appendValue_null (i b : Int) (s : ByteArray) (base : Nat) (v : Value) (l : List UInt8) (w : World) (hown : OwnB w base v l) (hb : base ≤ w.heap.size) (hl : l.length ≤ 900000) :
    Calls Tryd.prog 23 #[v, .agg #[.int .i64 0, .int .i64 i, .int .u64 b, .string s]] w fun e w' => ∃ v', e = .returned v' ∧ OwnB w' base v' (l ++ [1]) ∧ Below base w w' := by
  have hl1 : l.length ≤ 1000000 := by omega
  have ho : ∀ o, OwnB (w.alloc o) base v l := fun o => World.ownsRow.alloc hown o
  have hbb : ∀ o, base ≤ (w.alloc o).heap.size := fun o => by simp; omega
  go_enter Tryd.func23, Tryd.ntmps23
  go_wp2_with (first | (at_builtin; refine wpList_append_byte rfl (.tmp 5) (.tmp 10) rfl base _ _ rfl (ho _) _ 1 _ rfl (by first | rfl | simp) rfl hl1 (hbb _) ?_; intro v1 w1 ho1 hb1 hg1; have hx0 := box_kept (c := .int .i64 0) hown hg1 0 (by rw [World.cell?_alloc_new]; rfl)) | go_in)
  go_ret
  exact ⟨_, rfl, ho1, ((Below.refl base w).alloc hb _).trans hb1⟩
set_option maxRecDepth 100000 in
set_option maxHeartbeats 2000000 in
theorem appendValue_bool (i b : Int) (s : ByteArray) (base : Nat) (v : Value) (l : List UInt8) (w : World) (hown : OwnB w base v l) (hb : base ≤ w.heap.size) (hl : l.length ≤ 900000) (hi : i = 0 ∨ i = 1) :
    Calls Tryd.prog 23 #[v, .agg #[.int .i64 1, .int .i64 i, .int .u64 b, .string s]] w fun e w' => ∃ v', e = .returned v' ∧ OwnB w' base v' (l ++ [2, lowB i]) ∧ Below base w w' := by
  have hl1 : l.length ≤ 1000000 := by omega
  have hl2 : (l ++ [(2 : UInt8)]).length ≤ 1000000 := by simp; omega
  have ho : ∀ o, OwnB (w.alloc o) base v l := fun o => World.ownsRow.alloc hown o
  have hbb : ∀ o, base ≤ (w.alloc o).heap.size := fun o => by simp; omega
  have hi0 : i % 256 = ((lowB i).toNat : Int) := (lowB_toNat i).symm
  have hI := Lib.hid hi0
  have b0 : 0 ≤ i := by omega
  have b1 : i ≤ 1 := by omega
  have hI2 : Hid (i = ((lowB i).toNat : Int)) := by have := hi0; rw [Int.emod_eq_of_lt (by omega) (by omega)] at this; exact this
  clear hi hi0
  go_enter Tryd.func23, Tryd.ntmps23
  go_wp2_with (first | (at_builtin; refine wpList_append_byte rfl (.tmp 5) (.tmp 10) rfl base _ _ rfl (ho _) _ 2 _ rfl (by first | rfl | simp) rfl hl1 (hbb _) ?_; intro v1 w1 ho1 hb1 hg1; have hx0 := box_kept (c := .int .i64 1) hown hg1 0 (by rw [World.cell?_alloc_new]; rfl); have hx1 := box_kept (c := .int .i64 i) hown hg1 1 (by rw [World.cell?_alloc_new]; rfl); have hbb1 : base ≤ w1.heap.size := Nat.le_trans (hbb _) hb1.size) | (at_builtin; refine wpList_append_byte rfl (.tmp 16) (.tmp 20) rfl base _ _ rfl ho1 _ (lowB i) _ rfl (by first | rfl | simp) (by first | exact hI.out | exact hI2.out) hl2 hbb1 ?_; intro v2 w2 ho2 hb2 hg2) | go_in)
  go_ret
  exact ⟨_, rfl, by simpa using ho2, (((Below.refl base w).alloc hb _).trans hb1).trans hb2⟩

set_option maxRecDepth 100000 in
set_option maxHeartbeats 2000000 in
theorem appendValue_int (i b : Int) (s : ByteArray) (base : Nat) (v : Value) (l : List UInt8) (w : World) (hown : OwnB w base v l) (hb : base ≤ w.heap.size) (hl : l.length ≤ 900000) (i0 : -9223372036854775808 ≤ i) (i1 : i ≤ 9223372036854775807) :
    Calls Tryd.prog 23 #[v, .agg #[.int .i64 2, .int .i64 i, .int .u64 b, .string s]] w fun e w' => ∃ v', e = .returned v' ∧ OwnB w' base v' (l ++ 3 :: be (i + two63) 8) ∧ Below base w w' := by
  have hl1 : l.length ≤ 1000000 := by omega
  have hl2 : (l ++ [(3 : UInt8)]).length ≤ 999990 := by simp; omega
  have ho : ∀ o, OwnB (w.alloc o) base v l := fun o => World.ownsRow.alloc hown o
  have hbb : ∀ o, base ≤ (w.alloc o).heap.size := fun o => by simp; omega
  have hI := Lib.hid (i64_top i i0 i1)
  have hn0 : 0 ≤ bits .xor .u64 (IntKind.u64.wrap i) 9223372036854775808 := by rw [hI.out]; unfold two63; omega
  have hn1 : bits .xor .u64 (IntKind.u64.wrap i) 9223372036854775808 ≤ 18446744073709551615 := by rw [hI.out]; unfold two63; omega
  have c40 := fun v1 w1 ho1 hb1 => appendNumber_any _ hn0 hn1 base v1 (l ++ [3]) w1 ho1 hb1 hl2
  rw [hI.out] at c40
  clear hn0 hn1
  go_enter Tryd.func23, Tryd.ntmps23
  go_wp2_with (first | (at_builtin; refine wpList_append_byte rfl (.tmp 5) (.tmp 10) rfl base _ _ rfl (ho _) _ 3 _ rfl (by first | rfl | simp) rfl hl1 (hbb _) ?_; intro v1 w1 ho1 hb1 hg1; have hx0 := box_kept (c := .int .i64 2) hown hg1 0 (by rw [World.cell?_alloc_new]; rfl); have hx1 := box_kept (c := .int .i64 i) hown hg1 1 (by rw [World.cell?_alloc_new]; rfl); have hbb1 : base ≤ w1.heap.size := Nat.le_trans (hbb _) hb1.size) | fail)
  rw [hI.out]
  refine (c40 _ _ ho1 hbb1).mono ?_
  rintro e w2 ⟨v2, rfl, ho2, hb2⟩
  go_wp2_with fail
  go_ret
  exact ⟨_, rfl, by simpa using ho2, (((Below.refl base w).alloc hb _).trans hb1).trans hb2⟩
set_option maxRecDepth 100000 in
set_option maxHeartbeats 2000000 in
theorem appendValue_real (i b : Int) (s : ByteArray) (base : Nat) (v : Value) (l : List UInt8) (w : World) (hown : OwnB w base v l) (hb : base ≤ w.heap.size) (hl : l.length ≤ 900000) (b0 : 0 ≤ b) (b1 : b ≤ 18446744073709551615) :
    Calls Tryd.prog 23 #[v, .agg #[.int .i64 3, .int .i64 i, .int .u64 b, .string s]] w fun e w' => ∃ v', e = .returned v' ∧ OwnB w' base v' (l ++ 4 :: be (up64 b) 8) ∧ Below base w w' := by
  have hl1 : l.length ≤ 1000000 := by omega
  have hl2 : (l ++ [(4 : UInt8)]).length ≤ 999990 := by simp; omega
  have ho : ∀ o, OwnB (w.alloc o) base v l := fun o => World.ownsRow.alloc hown o
  have hbb : ∀ o, base ≤ (w.alloc o).heap.size := fun o => by simp; omega
  have hr := up64_range b b0 b1
  have c40 := fun v1 w1 ho1 hb1 => appendNumber_any _ hr.1 (by have := hr.2; unfold two64 at this; omega) base v1 (l ++ [4]) w1 ho1 hb1 hl2
  have c41 := fun w => rankOfReal_any b w b0 b1
  clear hr
  go_enter Tryd.func23, Tryd.ntmps23
  go_wp2_with (first | (at_builtin; refine wpList_append_byte rfl (.tmp 5) (.tmp 10) rfl base _ _ rfl (ho _) _ 4 _ rfl (by first | rfl | simp) rfl hl1 (hbb _) ?_; intro v1 w1 ho1 hb1 hg1; have hx0 := box_kept (c := .int .i64 3) hown hg1 0 (by rw [World.cell?_alloc_new]; rfl); have hx1 := box_kept (c := .int .u64 b) hown hg1 2 (by rw [World.cell?_alloc_new]; rfl); have hbb1 : base ≤ w1.heap.size := Nat.le_trans (hbb _) hb1.size) | fail)
  refine (c41 _).mono ?_
  rintro e w2 ⟨rfl, rfl⟩
  go_wp2_with fail
  refine (c40 _ _ ho1 hbb1).mono ?_
  rintro e w2 ⟨v2, rfl, ho2, hb2⟩
  go_wp2_with fail
  go_ret
  exact ⟨_, rfl, by simpa using ho2, (((Below.refl base w).alloc hb _).trans hb1).trans hb2⟩
set_option maxRecDepth 100000 in
set_option maxHeartbeats 2000000 in
theorem appendValue_text (i b : Int) (s : ByteArray) (base : Nat) (v : Value) (l : List UInt8) (w : World) (hown : OwnB w base v l) (hb : base ≤ w.heap.size) (hl : l.length ≤ 900000) (hs : s.size ≤ 40) :
    Calls Tryd.prog 23 #[v, .agg #[.int .i64 4, .int .i64 i, .int .u64 b, .string s]] w fun e w' => ∃ v', e = .returned v' ∧ OwnB w' base v' (l ++ 5 :: (esc s.data.toList ++ [0, 1])) ∧ Below base w w' := by
  have hl1 : l.length ≤ 1000000 := by omega
  have hl2 : (l ++ [(5 : UInt8)]).length + 2 * s.size ≤ 999990 := by simp; omega
  have ho : ∀ o, OwnB (w.alloc o) base v l := fun o => World.ownsRow.alloc hown o
  have hbb : ∀ o, base ≤ (w.alloc o).heap.size := fun o => by simp; omega
  have c42 := fun v1 w1 ho1 hb1 => appendText_any s base v1 (l ++ [5]) w1 ho1 hb1 hl2
  clear hs
  go_enter Tryd.func23, Tryd.ntmps23
  go_wp2_with (first | (at_builtin; refine wpList_append_byte rfl (.tmp 5) (.tmp 10) rfl base _ _ rfl (ho _) _ 5 _ rfl (by first | rfl | simp) rfl hl1 (hbb _) ?_; intro v1 w1 ho1 hb1 hg1; have hx0 := box_kept (c := .int .i64 4) hown hg1 0 (by rw [World.cell?_alloc_new]; rfl); have hx1 := box_kept (c := .string s) hown hg1 3 (by rw [World.cell?_alloc_new]; rfl); have hbb1 : base ≤ w1.heap.size := Nat.le_trans (hbb _) hb1.size) | fail)
  refine (c42 _ _ ho1 hbb1).mono ?_
  rintro e w2 ⟨v2, rfl, ho2, hb2⟩
  go_wp2_with fail
  go_ret
  exact ⟨_, rfl, by simpa using ho2, (((Below.refl base w).alloc hb _).trans hb1).trans hb2⟩

/-- The value v's four cells. -/
abbrev V.agg (v : V) : Value := .agg #[.int .i64 v.k, .int .i64 v.i, .int .u64 v.b, .string v.s]
theorem appendValue_any (u : V) (hu : u.Fits) (hc : u.chk = 0) (base : Nat) (v : Value) (l : List UInt8) (w : World) (hown : OwnB w base v l) (hb : base ≤ w.heap.size) (hl : l.length ≤ 900000) :
    Calls Tryd.prog 23 #[v, u.agg] w fun e w' => ∃ v', e = .returned v' ∧ OwnB w' base v' (l ++ enc u.val) ∧ Below base w w' := by
  have hf := facts_of u hu hc
  obtain ⟨k, i, b, s⟩ := u
  rcases kinds _ hf with hk | hk | hk | hk | hk
  · rw [enc0 _ hk]
    obtain rfl : k = 0 := hk
    exact appendValue_null i b s base v l w hown hb hl
  · rw [enc1 _ hk]
    obtain rfl : k = 1 := hk
    exact appendValue_bool i b s base v l w hown hb hl (hf.bool rfl)
  · rw [enc2 _ hk]
    obtain rfl : k = 2 := hk
    exact appendValue_int i b s base v l w hown hb hl hu.i0 hu.i1
  · rw [enc3 _ hk]
    obtain rfl : k = 3 := hk
    exact appendValue_real i b s base v l w hown hb hl hu.b0 hu.b1
  · rw [enc4 _ hk]
    obtain rfl : k = 4 := hk
    exact appendValue_text i b s base v l w hown hb hl (chk_zero _ hc).2.1
end Go.Proofs.YtjllecmlabodaabDoor
