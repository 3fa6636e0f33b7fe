/-
  CONTRACTS of package value's checkBoth and of the reference's faults (over a slice of values), Compare, Compared.
  CONDITIONS: each theorem's own hypotheses.
-/
import Derived.Test.YtjllecmlabodaabDoorValC
import Derived.Test.YtjllecmlabodaabDoorValE
namespace Go.Proofs.YtjllecmlabodaabDoor
open Go.RowKit
set_option linter.unusedVariables false

/-- A value's four fields. -/
structure V where
  k : Int
  i : Int
  b : Int
  s : ByteArray
/-- Its fields are numbers of 64 bits, its text is a string. -/
structure V.Fits (v : V) : Prop where
  k0 : -9223372036854775808 ≤ v.k
  k1 : v.k ≤ 9223372036854775807
  i0 : -9223372036854775808 ≤ v.i
  i1 : v.i ≤ 9223372036854775807
  b0 : 0 ≤ v.b
  b1 : v.b ≤ 18446744073709551615
  s1 : v.s.size ≤ 9223372036854775807
def V.chk (v : V) : Int := Go.Proofs.YtjllecmlabodaabDoor.chk v.k v.i v.b v.s
def firstFault : List V → Int
  | [] => 0
  | v :: l => if v.chk = 0 then firstFault l else v.chk

theorem firstFault_cons (v : V) (l : List V) : firstFault (v :: l) = if v.chk = 0 then firstFault l else v.chk := rfl

/-- The cells of a list of values from an address on. -/
def Lies (w : World) (a : Nat) (o : Nat) (l : List V) : Prop :=
  ∀ j v, l[j]? = some v → w.cell? ⟨a, o + j * 4, none⟩ = some (.int .i64 v.k) ∧ w.cell? ⟨a, o + j * 4 + 1, none⟩ = some (.int .i64 v.i) ∧ w.cell? ⟨a, o + j * 4 + 2, none⟩ = some (.int .u64 v.b) ∧ w.cell? ⟨a, o + j * 4 + 3, none⟩ = some (.string v.s)

set_option maxHeartbeats 2000000 in
theorem faults_any (l : List V) (a o : Nat) (cap : Nat) (w : World) (hw : ∀ v ∈ l, v.Fits) (hl : l.length ≤ 9223372036854775807) (ha : a < w.heap.size) (hc : Lies w a o l) (hT : Tabs w) :
    Calls Tryd.prog 26 #[.slice (some ⟨a, o, none⟩) l.length cap] w fun e w' => e = .returned (.int .i64 (firstFault l)) ∧ Below w.heap.size w w' := by
  obtain ⟨ANS, hANS⟩ : ∃ ANS, firstFault l = ANS := ⟨_, rfl⟩
  rw [hANS]
  obtain ⟨n, hn⟩ : ∃ n, l.length = n := ⟨_, rfl⟩
  rw [hn] at hl ⊢
  go_enter Tryd.func26, Tryd.ntmps26
  have HN := Lib.hid hn
  have HA : Hid (firstFault (l.drop 0) = ANS) := Lib.hid hANS
  have HC := Lib.hid hc
  have HT := Lib.hid hT
  have HW := Lib.hid hw
  clear hn hANS hc hT hw
  go_wp2
  go_loopw [8] (fun v wr => ∃ j : Nat, j ≤ n ∧ v = .int .i64 j ∧ Hid (firstFault (l.drop j) = ANS) ∧ Below w.heap.size w wr) (fun v _ => n - (intOf v).toNat)
  case atStart => exact ⟨0, Nat.zero_le _, rfl, HA, Below.refl _ _⟩
  case round =>
    obtain ⟨j, hj, rfl, hf, hbw⟩ := hrel
    by_cases h1 : j < n
    · have hlt : j < l.length := by rw [HN.out]; exact h1
      obtain ⟨v, hv⟩ : ∃ v, l[j]? = some v := ⟨l[j], List.getElem?_eq_getElem hlt⟩
      have hfit := HW.out v (List.mem_of_getElem? hv)
      have hff := hf.out
      rw [List.drop_eq_getElem_cons hlt] at hff
      have ev : l[j] = v := by rw [List.getElem?_eq_getElem hlt] at hv; exact Option.some.inj hv
      rw [ev, firstFault_cons] at hff
      obtain ⟨c0, c1, c2, c3⟩ := HC.out j v hv
      have d0 := (hbw.cell (p := ⟨a, o + j * 4, none⟩) ha).trans c0
      have d1 := (hbw.cell (p := ⟨a, o + j * 4 + 1, none⟩) ha).trans c1
      have d2 := (hbw.cell (p := ⟨a, o + j * 4 + 2, none⟩) ha).trans c2
      have d3 := (hbw.cell (p := ⟨a, o + j * 4 + 3, none⟩) ha).trans c3
      have hTr := tabs_below HT.out hbw
      have cF := fun w => fault_any v.k v.i v.b v.s w hfit.i0 hfit.i1 hfit.b0 hfit.b1
      have hT1 : ∀ o, Tabs (wr.alloc o) := fun o => tabs_below hTr ((Below.refl _ _).alloc (Nat.le_refl _) o)
      have hFF := Lib.hid hff
      have eC : Go.Proofs.YtjllecmlabodaabDoor.chk v.k v.i v.b v.s = v.chk := rfl
      rw [eC] at cF
      clear hf hv hfit hff ev c0 c1 c2 c3 HA hTr eC
      cases hz : (v.chk == 0)
      · have hne : ¬ v.chk = 0 := by simpa using hz
        rw [if_neg hne] at hFF
        clear hne
        go_wp2_with fail
        refine (cF _ (hT1 _)).mono ?_
        rintro e w1 ⟨rfl, hb⟩
        clear cF hT1
        go_wp2_with fail
        go_ret
        exact ⟨ri hFF.out, (hbw.alloc hbw.size _).trans (hb.mono (by have := hbw.size; simp; omega))⟩
      · have he : v.chk = 0 := by simpa using hz
        rw [if_pos he] at hFF
        rw [he] at cF
        clear hz he
        go_wp2_with fail
        refine (cF _ (hT1 _)).mono ?_
        rintro e w1 ⟨rfl, hb⟩
        clear cF hT1
        go_wp2_with fail
        go_roundw
        case rel => exact ⟨j + 1, by omega, by go_num, hFF, (hbw.alloc hbw.size _).trans (hb.mono (by have := hbw.size; simp; omega))⟩
        case measure => simp [intOf]; omega
    · have hff := hf.out
      rw [List.drop_of_length_le (by rw [HN.out]; omega)] at hff
      have hFF := Lib.hid hff
      clear hf hff HA
      go_wp2_with fail
      go_ret
      exact ⟨ri hFF.out, hbw⟩

/-- What is wrong with two values, with the first one first. -/
def chk2 (v u : V) : Int := if v.chk = 0 then u.chk else v.chk

theorem checkBoth_any (v u : V) (w : World) (hv : v.Fits) (hu : u.Fits) (hT : Tabs w) :
    Calls Tryd.prog 34 #[.agg #[.int .i64 v.k, .int .i64 v.i, .int .u64 v.b, .string v.s], .agg #[.int .i64 u.k, .int .i64 u.i, .int .u64 u.b, .string u.s]] w fun e w' => e = .returned (.int .i64 (chk2 v u)) ∧ Below w.heap.size w w' := by
  have cV := fun w => check_any v.k v.i v.b v.s w hv.b0 hv.b1 hv.s1
  have cU := fun w => check_any u.k u.i u.b u.s w hu.b0 hu.b1 hu.s1
  have e1 : chk v.k v.i v.b v.s = v.chk := rfl
  have e2 : chk u.k u.i u.b u.s = u.chk := rfl
  rw [e1] at cV
  rw [e2] at cU
  have hT2 : ∀ o1 o2, Tabs ((w.alloc o1).alloc o2) := fun o1 o2 => tabs_below hT (((Below.refl _ _).alloc (Nat.le_refl _) _).alloc (by simp) _)
  unfold chk2
  clear hv hu hT e1 e2
  cases hz : (v.chk == 0)
  · rw [if_neg (by simpa using hz)]
    clear cU
    go_enter Tryd.func34, Tryd.ntmps34
    go_wp2_with fail
    refine (cV _ (hT2 _ _)).mono ?_
    rintro e w1 ⟨rfl, hb⟩
    clear cV hT2
    go_wp2_with fail
    go_ret
    exact ⟨rfl, two_below hb⟩
  · have he : v.chk = 0 := by simpa using hz
    rw [if_pos he]
    rw [he] at cV
    clear he hz
    go_enter Tryd.func34, Tryd.ntmps34
    go_wp2_with fail
    refine (cV _ (hT2 _ _)).mono ?_
    rintro e w1 ⟨rfl, hb⟩
    have hTb := tabs_below (hT2 _ _) hb
    obtain ⟨hc, hf⟩ := bcell hb
    clear cV hT2
    go_wp2_with fail
    refine (cU _ hTb).mono ?_
    rintro e w2 ⟨rfl, hb2⟩
    clear cU hc hf
    go_wp2_with fail
    go_ret
    exact ⟨rfl, (two_below hb).trans (hb2.mono (by have := hb.size; simp at this; omega))⟩
end Go.Proofs.YtjllecmlabodaabDoor
