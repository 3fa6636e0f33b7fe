/-
  CONTRACTS of ValOf and Val: each hands back a value that may be (of the kind that is asked).
  CONDITIONS: each theorem's own hypotheses.
-/
import Derived.Test.YtablacloabpjfabGreatDoorRawA
import Derived.Test.YtablacloabpjfabGreatDoorGValD
import Derived.Deep.RegionWith
namespace Go.Proofs.YtablacloabpjfabGreatDoor
open Go.RowKit
set_option linter.unusedVariables false

def V0 : ByteArray := { data := #[] }
theorem rchk_null : chk 0 0 0 { data := #[] } = 0 := by
  unfold chk own good
  rw [if_neg (by omega), if_neg (by decide), if_pos]
  simp
theorem rchk_bool (i : Int) (h : i = 0 ∨ i = 1) : chk 1 i 0 { data := #[] } = 0 := by
  unfold chk own good
  rw [if_neg (by omega), if_neg (by decide), if_pos]
  rcases h with rfl | rfl <;> simp
theorem rchk_int (i : Int) : chk 2 i 0 { data := #[] } = 0 := by
  unfold chk own good
  rw [if_neg (by omega), if_neg (by decide), if_pos]
  simp
theorem rchk_real (b : Int) (h1 : nan b = false) (h2 : (b == 9223372036854775808) = false) : chk 3 0 b { data := #[] } = 0 := by
  unfold chk own good
  rw [if_neg (by omega), if_neg (by decide), if_pos]
  simp [h1, h2]
theorem rchk_text (s : ByteArray) (h1 : s.size ≤ 20) (h2 : Lib.validD s.data.toList = true) : chk 4 0 0 s = 0 := by
  unfold chk own good
  rw [if_neg (by omega), if_neg (by omega), if_pos]
  simp [h2]

theorem fits4 (k i b : Int) (s : ByteArray) (k0 : -9223372036854775808 ≤ k) (k1 : k ≤ 9223372036854775807) (i0 : -9223372036854775808 ≤ i) (i1 : i ≤ 9223372036854775807) (b0 : 0 ≤ b) (b1 : b ≤ 18446744073709551615) (s1 : s.size ≤ 9223372036854775807) : (V.mk k i b s).Fits := ⟨k0, k1, i0, i1, b0, b1, s1⟩
def ValOk (k : Int) (w : World) (e : Ending) (w' : World) : Prop := ∃ v : V, v.k = k ∧ v.Fits ∧ v.chk = 0 ∧ e = .returned (.agg #[.int .i64 v.k, .int .i64 v.i, .int .u64 v.b, .string v.s]) ∧ Below w.heap.size w w'

theorem three_below {w w1 : World} {o1 o2 o3 : Obj} (hb : Below (((w.alloc o1).alloc o2).alloc o3).heap.size (((w.alloc o1).alloc o2).alloc o3) w1) : Below w.heap.size w w1 :=
  ((((Below.refl _ _).alloc (Nat.le_refl _) _).alloc (by simp) _).alloc (by simp; omega) _).trans (hb.mono (by simp; omega))


theorem three_fresh (w : World) (o1 o2 o3 : Obj) : Below w.heap.size w (((w.alloc o1).alloc o2).alloc o3) :=
  (((Below.refl _ _).alloc (Nat.le_refl _) _).alloc (by simp) _).alloc (by simp; omega) _

theorem valOf_null (ka a b : Int) (s : ByteArray) (w : World) :
    Calls Tryz.prog 28 #[.int .i64 0, .agg #[.int .i64 ka, .int .i64 a, .int .i64 b, .string s]] w (ValOk 0 w) := by
  go_enter Tryz.func28, Tryz.ntmps28
  go_wp2_with fail
  exact bodyPost_ret (v := .agg #[.int .i64 0, .int .i64 0, .int .u64 0, .string { data := #[] }]) (by simp [results, Tryz.results28, go_sem]) rfl ⟨⟨0, 0, 0, { data := #[] }⟩, rfl, fits4 0 0 0 _ (by decide) (by decide) (by decide) (by decide) (by decide) (by decide) (by decide), rchk_null, rfl, three_fresh _ _ _ _⟩

theorem valOf_bool (ka a b : Int) (s : ByteArray) (w : World) (ha : -9223372036854775808 ≤ a) (ha1 : a ≤ 9223372036854775807) :
    Calls Tryz.prog 28 #[.int .i64 1, .agg #[.int .i64 ka, .int .i64 a, .int .i64 b, .string s]] w (ValOk 1 w) := by
  have cP := fun w => picked_any a 2 w (by decide) (by decide) ha ha1
  have h2 : a % 2 = 0 ∨ a % 2 = 1 := by omega
  generalize a % 2 = r at cP h2
  have H2 := Lib.hid h2
  clear h2
  go_enter Tryz.func28, Tryz.ntmps28
  go_wp2_with fail
  refine (cP _).mono ?_
  rintro e w1 ⟨rfl, rfl⟩
  go_wp2_with fail
  exact bodyPost_ret (v := .agg #[.int .i64 1, .int .i64 r, .int .u64 0, .string { data := #[] }]) (by simp [results, Tryz.results28, go_sem]) rfl ⟨⟨1, r, 0, { data := #[] }⟩, rfl, fits4 1 r 0 _ (by decide) (by decide) (by have := H2.out; omega) (by have := H2.out; omega) (by decide) (by decide) (by decide), rchk_bool r H2.out, rfl, three_fresh _ _ _ _⟩

theorem valOf_int (ka a b : Int) (s : ByteArray) (w : World) (ha : -9223372036854775808 ≤ a) (ha1 : a ≤ 9223372036854775807) :
    Calls Tryz.prog 28 #[.int .i64 2, .agg #[.int .i64 ka, .int .i64 a, .int .i64 b, .string s]] w (ValOk 2 w) := by
  go_enter Tryz.func28, Tryz.ntmps28
  go_wp2_with fail
  exact bodyPost_ret (v := .agg #[.int .i64 2, .int .i64 a, .int .u64 0, .string { data := #[] }]) (by simp [results, Tryz.results28, go_sem]) rfl ⟨⟨2, a, 0, { data := #[] }⟩, rfl, fits4 2 a 0 _ (by decide) (by decide) ha ha1 (by decide) (by decide) (by decide), rchk_int a, rfl, three_fresh _ _ _ _⟩

theorem valOf_real (ka a b : Int) (s : ByteArray) (w : World) :
    Calls Tryz.prog 28 #[.int .i64 3, .agg #[.int .i64 ka, .int .i64 a, .int .i64 b, .string s]] w (ValOk 3 w) := by
  go_enter Tryz.func28, Tryz.ntmps28
  go_wp2_with fail
  refine (real_any a b _).mono ?_
  rintro e w1 ⟨r, rfl, rfl, hr0, hr1, hn, hm⟩
  have HN := Lib.hid hn
  have HM := Lib.hid hm
  clear hn hm
  go_wp2_with fail
  exact bodyPost_ret (v := .agg #[.int .i64 3, .int .i64 0, .int .u64 r, .string { data := #[] }]) (by simp [results, Tryz.results28, go_sem]) rfl ⟨⟨3, 0, r, { data := #[] }⟩, rfl, fits4 3 0 r _ (by decide) (by decide) (by decide) (by decide) hr0 hr1 (by decide), rchk_real r HN.out HM.out, rfl, three_fresh _ _ _ _⟩

theorem valOf_text (ka a b : Int) (s : ByteArray) (w : World) :
    Calls Tryz.prog 28 #[.int .i64 4, .agg #[.int .i64 ka, .int .i64 a, .int .i64 b, .string s]] w (ValOk 4 w) := by
  go_enter Tryz.func28, Tryz.ntmps28
  go_wp2_with fail
  refine (clean_any s _).mono ?_
  rintro e w1 ⟨t, rfl, ht, hv, hb⟩
  obtain ⟨hc, hf⟩ := bcell hb
  have HV := Lib.hid hv
  clear hv
  go_wp2_with fail
  exact bodyPost_ret (v := .agg #[.int .i64 4, .int .i64 0, .int .u64 0, .string t]) (by simp [results, Tryz.results28, go_sem, hc]) rfl ⟨⟨4, 0, 0, t⟩, rfl, fits4 4 0 0 t (by decide) (by decide) (by decide) (by decide) (by decide) (by decide) (by omega), rchk_text t ht HV.out, rfl, (((((three_below hb).setCell (by simp; omega) _).setCell (by simp) _).setCell (by simp) _).setCell (by simp) _).setCell (by simp) _⟩

theorem valOf_any (k ka a b : Int) (s : ByteArray) (w : World) (hk : 0 ≤ k) (hk4 : k ≤ 4) (ha : -9223372036854775808 ≤ a) (ha1 : a ≤ 9223372036854775807) :
    Calls Tryz.prog 28 #[.int .i64 k, .agg #[.int .i64 ka, .int .i64 a, .int .i64 b, .string s]] w (ValOk k w) := by
  rcases (show k = 0 ∨ k = 1 ∨ k = 2 ∨ k = 3 ∨ k = 4 by omega) with rfl | rfl | rfl | rfl | rfl
  · exact valOf_null ka a b s w
  · exact valOf_bool ka a b s w ha ha1
  · exact valOf_int ka a b s w ha ha1
  · exact valOf_real ka a b s w
  · exact valOf_text ka a b s w

theorem two_drew {w w1 : World} {o1 o2 : Obj} (hb : Below ((w.alloc o1).alloc o2).drew.heap.size ((w.alloc o1).alloc o2).drew w1) : Below w.heap.size w w1 :=
  (((Below.refl _ _).alloc (Nat.le_refl _) _).alloc (by simp) _).drew.trans (hb.mono (by simp; omega))
/-- A value that may be, in memory as it was but for new blocks. -/
def ValAny (w : World) (e : Ending) (w' : World) : Prop := ∃ v : V, v.Fits ∧ v.chk = 0 ∧ e = .returned (.agg #[.int .i64 v.k, .int .i64 v.i, .int .u64 v.b, .string v.s]) ∧ Below w.heap.size w w'

end Go.Proofs.YtablacloabpjfabGreatDoor
