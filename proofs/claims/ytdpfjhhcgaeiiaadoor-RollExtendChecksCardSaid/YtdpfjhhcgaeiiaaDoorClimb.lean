/-
  CONTRACT of package slots' climb, and node's for rows of any length.
  CONDITIONS: package sum's roundWords hold what their initialiser lays ('KW').
-/
import Derived.Test.YtdpfjhhcgaeiiaaDoorGLev
namespace Go.Proofs.YtdpfjhhcgaeiiaaDoor
open Go.RowKit CodeMath Go.Proofs.YtdpfjhhcgaeiiaaDoor.FrameMath
set_option linter.unusedVariables false
set_option maxRecDepth 100000

theorem cast_tmod (q : Nat) : (q : Int).tmod 2 = ((q % 2 : Nat) : Int) := by rw [Int.tmod_eq_emod_of_nonneg (by omega)]; omega
theorem digR_ne {m t : Int} {ps : List (List UInt8)} {c : Int} (h : digR m t ps = .err c) : c ≠ 0 := by
  unfold digR at h
  split at h
  · cases h; decide
  · split at h
    · cases h; decide
    · split at h
      · cases h; decide
      · cases h
theorem digR_len {m t : Int} {ps : List (List UInt8)} {x : List UInt8} (h : digR m t ps = .ok x) : x.length ≤ 16777300 := by
  unfold digR at h
  split at h
  · cases h
  · split at h
    · cases h
    · split at h
      · cases h
      · rename_i h3
        cases h
        have := digB_length m t.toNat ps
        omega
set_option maxHeartbeats 2000000 in
theorem nodeD_any (m : Int) (m0 : -9223372036854775808 ≤ m) (m1 : m ≤ 9223372036854775807) (a b : List UInt8) (a1 a2 : Option Addr) (n1 k1 n2 k2 : Nat) (w : World) (ha : RowV w (.slice a1 n1 k1) a) (hb : RowV w (.slice a2 n2 k2) b) (h1 : a.length ≤ 140737488351232) (h2 : b.length ≤ 140737488351232) (hT : KW w) :
    Calls Tryd.prog 65 #[.int .i64 m, .slice a1 n1 k1, .slice a2 n2 k2] w (DigPost (digR m 2 [a, b]) w) := by
  have cD := fun ap W h hk => Digest_any m 2 [a, b] ap 2 W m0 m1 (by decide) (by decide) (by simp) (fun l hl => by simp at hl; rcases hl with rfl | rfl <;> omega) h hk
  rw [show [a, b].length = 2 from rfl] at cD
  generalize digR m 2 [a, b] = D at *
  have hlin := fun T => lines_two w _ _ T _ _ ha hb
  have hba : ∀ o, Below w.heap.size w (w.alloc o) := fun o => (Below.refl _ _).alloc (Nat.le_refl _) o
  clear ha hb h1 h2
  cases D with
  | err c =>
    go_enter Tryd.func65, Tryd.ntmps65
    go_wp2_with fail
    refine (cD _ _ (hlin _) (hT.keep (hba _) (Nat.le_refl _))).mono ?_
    rintro e w1 ⟨rfl, hb1⟩
    have hbb := below_step (hba _) (hba _).size hb1
    clear cD hlin hba
    go_wp2_with fail
    go_ret2
    exact ⟨rfl, hbb⟩
  | ok x =>
    go_enter Tryd.func65, Tryd.ntmps65
    go_wp2_with fail
    refine (cD _ _ (hlin _) (hT.keep (hba _) (Nat.le_refl _))).mono ?_
    rintro e w1 ⟨v, rfl, hr, hb1⟩
    have hbb := below_step (hba _) (hba _).size hb1
    clear cD hlin hba
    go_wp2_with fail
    go_ret2
    exact ⟨_, rfl, hr, hbb⟩
/-- What a path leads to. -/
def climbR (m : Int) (p : Nat) : Nat → List UInt8 → List (List UInt8) → DR
  | _, top, [] => .ok top
  | t, top, b :: r => match digR m 2 (if (p / 2 ^ t) % 2 = 1 then [b, top] else [top, b]) with
    | .err c => .err c
    | .ok x => climbR m p (t + 1) x r
theorem climbR_err {m : Int} {p t : Nat} {top b : List UInt8} {r : List (List UInt8)} {c : Int} (h : digR m 2 (if (p / 2 ^ t) % 2 = 1 then [b, top] else [top, b]) = .err c) : climbR m p t top (b :: r) = .err c := by
  simp only [climbR, h]
theorem climbR_ok {m : Int} {p t : Nat} {top b x : List UInt8} {r : List (List UInt8)} (h : digR m 2 (if (p / 2 ^ t) % 2 = 1 then [b, top] else [top, b]) = .ok x) : climbR m p t top (b :: r) = climbR m p (t + 1) x r := by
  simp only [climbR, h]
set_option maxHeartbeats 4000000 in
theorem climb_any (m : Int) (leaf : List UInt8) (v : Value) (rows : List (List UInt8)) (ap : Option Addr) (cp p : Nat) (w : World) (m0 : -9223372036854775808 ≤ m) (m1 : m ≤ 9223372036854775807) (hp : p < 64) (h6 : rows.length ≤ 6) (hL : ∀ b ∈ rows, b.length ≤ 140737488351232) (hlf : leaf.length ≤ 140737488351232) (hl : Lines w ap rows) (hv : RowT w v leaf) (hT : KW w) :
    Calls Tryd.prog 51 #[.int .i64 m, v, .int .i64 (p : Int), .slice ap rows.length cp] w (DigPost (climbR m p 0 leaf rows) w) := by
  obtain ⟨n, hn⟩ : ∃ n, rows.length = n := ⟨_, rfl⟩
  obtain ⟨R, hR⟩ : ∃ R, climbR m p 0 leaf rows = R := ⟨_, rfl⟩
  rw [hn, hR]
  have HN := Lib.hid hn
  have HR := Lib.hid hR
  rw [hn] at h6
  have nI : (n : Int) ≤ 6 := by omega
  have pI : (p : Int) < 64 := by omega
  have hBB := Below.refl w.heap.size w
  have HLF := Lib.hid hlf
  clear hn hR hlf
  go_enter Tryd.func51, Tryd.ntmps51
  go_wp2_with fail
  go_loopw [10, 20] (fun u ix wr => ∃ (t : Nat) (top : List UInt8), t ≤ n ∧ ix = .int .i64 t ∧ RowT wr u top ∧ Hid (top.length ≤ 140737488351232) ∧ Hid (climbR m p t top (rows.drop t) = R) ∧ Below w.heap.size w wr) (fun _ ix _ => n - (intOf ix).toNat)
  case atStart => exact ⟨0, leaf, Nat.zero_le _, rfl, hv, HLF, Lib.hid (by rw [List.drop_zero]; exact HR.out), hBB⟩
  case round =>
    obtain ⟨t, top, htn, rfl, hu, htl, htr, hbr⟩ := hrel
    clear hv hBB
    by_cases hlt : t < n
    · have tI : (t : Int) < n := by omega
      have htn' : t < rows.length := by have := HN.out; omega
      obtain ⟨b, hb⟩ : ∃ x, rows[t]? = some x := ⟨_, List.getElem?_eq_getElem htn'⟩
      have hdr : rows.drop t = b :: rows.drop (t + 1) := by
        rw [List.drop_eq_getElem_cons htn']
        congr 1
        exact (List.getElem?_eq_some_iff.1 hb).2
      have hlb := hL b (List.mem_of_getElem? hb)
      rcases hl with h0 | ⟨a, o, rfl, ha, h3⟩
      · rw [h0] at hb; simp at hb
      · obtain ⟨A1, k1, c1, q1, q2, q3, q4⟩ := h3 _ b hb
        have hcell := (hbr.cell (p := ⟨a, o + t, none⟩) ha).trans c1
        have hrb : RowV wr (.slice A1 b.length k1) b := ⟨A1, k1, rfl, q1, q2, q3, q4.keep hbr⟩
        obtain ⟨A2, n2, k2, rfl⟩ : ∃ a n k, u10 = .slice a n k := by obtain ⟨a, k, e, _⟩ := hu; exact ⟨_, _, _, e⟩
        have hrt := hu.row
        have hkw := hT.keep hbr (Nat.le_refl _)
        have hdv : (p : Int) / 2 ^ t = ((p / 2 ^ t : Nat) : Int) := by simp
        have HLT := Lib.hid hlt
        rw [hdr] at htr
        by_cases hodd : (p / 2 ^ t) % 2 = 1
        · have cN := nodeD_any m m0 m1 b top A1 A2 b.length k1 n2 k2 wr hrb hrt hlb htl.out hkw
          have htm : ((p / 2 ^ t : Nat) : Int).tmod 2 = 1 := by rw [cast_tmod, hodd]; rfl
          cases hD : digR m 2 [b, top] with
          | err c =>
            have c0 := digR_ne hD
            have hRc : R = .err c := by rw [← htr.out]; exact climbR_err (by rw [if_pos hodd]; exact hD)
            rw [hD] at cN
            subst hRc
            generalize p / 2 ^ t = pq at *
            generalize b.length = lb at *
            clear hodd hD htr htl hdr hlb hb h3 c1 q1 q2 q3 q4 hrb hrt hu HR
            go_wp2_with fail
            refine cN.mono ?_
            rintro e w1 ⟨rfl, hb1⟩
            have hbb := below_step hbr hbr.size hb1
            clear cN
            go_wp2_with fail
            go_ret2
            exact ⟨rfl, hbb⟩
          | ok x =>
            have hx := digR_len hD
            have htr2 : Hid (climbR m p (t + 1) x (rows.drop (t + 1)) = R) := Lib.hid (by rw [← htr.out]; exact (climbR_ok (by rw [if_pos hodd]; exact hD)).symm)
            have hx2 : Hid (x.length ≤ 140737488351232) := Lib.hid (by omega)
            rw [hD] at cN
            generalize p / 2 ^ t = pq at *
            generalize b.length = lb at *
            clear hodd hD htr htl hdr hlb hb h3 c1 q1 q2 q3 q4 hrb hrt hu hx
            go_wp2_with fail
            refine cN.mono ?_
            rintro e w1 ⟨v1, rfl, hr, hb1⟩
            have hbb := below_step hbr hbr.size hb1
            clear cN
            go_wp2_with fail
            go_roundw
            case rel => exact ⟨t + 1, x, HLT.out, by go_num, hr, hx2, htr2, hbb⟩
            case measure => have := HLT.out; simp [intOf]; omega
        · have cN := nodeD_any m m0 m1 top b A2 A1 n2 k2 b.length k1 wr hrt hrb htl.out hlb hkw
          have htm : ((p / 2 ^ t : Nat) : Int).tmod 2 = 0 := by rw [cast_tmod, (Nat.mod_two_eq_zero_or_one _).resolve_right hodd]; rfl
          cases hD : digR m 2 [top, b] with
          | err c =>
            have c0 := digR_ne hD
            have hRc : R = .err c := by rw [← htr.out]; exact climbR_err (by rw [if_neg hodd]; exact hD)
            rw [hD] at cN
            subst hRc
            generalize p / 2 ^ t = pq at *
            generalize b.length = lb at *
            clear hodd hD htr htl hdr hlb hb h3 c1 q1 q2 q3 q4 hrb hrt hu HR
            go_wp2_with fail
            refine cN.mono ?_
            rintro e w1 ⟨rfl, hb1⟩
            have hbb := below_step hbr hbr.size hb1
            clear cN
            go_wp2_with fail
            go_ret2
            exact ⟨rfl, hbb⟩
          | ok x =>
            have hx := digR_len hD
            have htr2 : Hid (climbR m p (t + 1) x (rows.drop (t + 1)) = R) := Lib.hid (by rw [← htr.out]; exact (climbR_ok (by rw [if_neg hodd]; exact hD)).symm)
            have hx2 : Hid (x.length ≤ 140737488351232) := Lib.hid (by omega)
            rw [hD] at cN
            generalize p / 2 ^ t = pq at *
            generalize b.length = lb at *
            clear hodd hD htr htl hdr hlb hb h3 c1 q1 q2 q3 q4 hrb hrt hu hx
            go_wp2_with fail
            refine cN.mono ?_
            rintro e w1 ⟨v1, rfl, hr, hb1⟩
            have hbb := below_step hbr hbr.size hb1
            clear cN
            go_wp2_with fail
            go_roundw
            case rel => exact ⟨t + 1, x, HLT.out, by go_num, hr, hx2, htr2, hbb⟩
            case measure => have := HLT.out; simp [intOf]; omega
    · have tI : ¬ (t : Int) < n := by omega
      have hie : t = n := by omega
      have hRt : R = .ok top := by
        rw [← htr.out, hie, ← HN.out, List.drop_length]
        rfl
      subst hRt
      clear hlt hie htr htl HR
      go_wp2_with fail
      go_ret2
      exact ⟨_, rfl, hu, hbr⟩
end Go.Proofs.YtdpfjhhcgaeiiaaDoor
