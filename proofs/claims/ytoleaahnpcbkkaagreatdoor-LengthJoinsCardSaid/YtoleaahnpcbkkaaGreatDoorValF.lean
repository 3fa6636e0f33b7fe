/-
  CONTRACTS of package value's checkBoth and of the reference's faults (over a slice of values), Compare, Compared.
  CONDITIONS: each theorem's own hypotheses.
-/
import Derived.Test.YtoleaahnpcbkkaaGreatDoorValC
import Derived.Test.YtoleaahnpcbkkaaGreatDoorValE
namespace Go.Proofs.YtoleaahnpcbkkaaGreatDoor
open Go.RowKit
set_option linter.unusedVariables false

/-- A value's four fields. -/
structure V where
  k : Int
  i : Int
  b : Int
  s : ByteArray
/-- Its fields are numbers of 64 bits, its text is a string. -/
structure V.Fits (v : V) : Prop where
  k0 : -9223372036854775808 ≤ v.k
  k1 : v.k ≤ 9223372036854775807
  i0 : -9223372036854775808 ≤ v.i
  i1 : v.i ≤ 9223372036854775807
  b0 : 0 ≤ v.b
  b1 : v.b ≤ 18446744073709551615
  s1 : v.s.size ≤ 9223372036854775807
def V.chk (v : V) : Int := Go.Proofs.YtoleaahnpcbkkaaGreatDoor.chk v.k v.i v.b v.s
def firstFault : List V → Int
  | [] => 0
  | v :: l => if v.chk = 0 then firstFault l else v.chk

theorem firstFault_cons (v : V) (l : List V) : firstFault (v :: l) = if v.chk = 0 then firstFault l else v.chk := rfl

/-- The cells of a list of values from an address on. -/
def Lies (w : World) (a : Nat) (o : Nat) (l : List V) : Prop :=
  ∀ j v, l[j]? = some v → w.cell? ⟨a, o + j * 4, none⟩ = some (.int .i64 v.k) ∧ w.cell? ⟨a, o + j * 4 + 1, none⟩ = some (.int .i64 v.i) ∧ w.cell? ⟨a, o + j * 4 + 2, none⟩ = some (.int .u64 v.b) ∧ w.cell? ⟨a, o + j * 4 + 3, none⟩ = some (.string v.s)

/-- What is wrong with two values, with the first one first. -/
def chk2 (v u : V) : Int := if v.chk = 0 then u.chk else v.chk

theorem checkBoth_any (v u : V) (w : World) (hv : v.Fits) (hu : u.Fits) (hT : Tabs w) :
    Calls Tryz.prog 175 #[.agg #[.int .i64 v.k, .int .i64 v.i, .int .u64 v.b, .string v.s], .agg #[.int .i64 u.k, .int .i64 u.i, .int .u64 u.b, .string u.s]] w fun e w' => e = .returned (.int .i64 (chk2 v u)) ∧ Below w.heap.size w w' := by
  have cV := fun w => check_any v.k v.i v.b v.s w hv.b0 hv.b1 hv.s1
  have cU := fun w => check_any u.k u.i u.b u.s w hu.b0 hu.b1 hu.s1
  have e1 : chk v.k v.i v.b v.s = v.chk := rfl
  have e2 : chk u.k u.i u.b u.s = u.chk := rfl
  rw [e1] at cV
  rw [e2] at cU
  have hT2 : ∀ o1 o2, Tabs ((w.alloc o1).alloc o2) := fun o1 o2 => tabs_below hT (((Below.refl _ _).alloc (Nat.le_refl _) _).alloc (by simp) _)
  unfold chk2
  clear hv hu hT e1 e2
  cases hz : (v.chk == 0)
  · rw [if_neg (by simpa using hz)]
    clear cU
    go_enter Tryz.func175, Tryz.ntmps175
    go_wp2_with fail
    refine (cV _ (hT2 _ _)).mono ?_
    rintro e w1 ⟨rfl, hb⟩
    clear cV hT2
    go_wp2_with fail
    go_ret
    exact ⟨rfl, two_below hb⟩
  · have he : v.chk = 0 := by simpa using hz
    rw [if_pos he]
    rw [he] at cV
    clear he hz
    go_enter Tryz.func175, Tryz.ntmps175
    go_wp2_with fail
    refine (cV _ (hT2 _ _)).mono ?_
    rintro e w1 ⟨rfl, hb⟩
    have hTb := tabs_below (hT2 _ _) hb
    obtain ⟨hc, hf⟩ := bcell hb
    clear cV hT2
    go_wp2_with fail
    refine (cU _ hTb).mono ?_
    rintro e w2 ⟨rfl, hb2⟩
    clear cU hc hf
    go_wp2_with fail
    go_ret
    exact ⟨rfl, (two_below hb).trans (hb2.mono (by have := hb.size; simp at this; omega))⟩
end Go.Proofs.YtoleaahnpcbkkaaGreatDoor
