/-
  CONTRACT of the reference's PathFault.
  CONDITIONS: each theorem's own hypotheses.
-/
import Derived.Test.YtdpfjhhcgaeiiaaDoorClimbQ
import Derived.Test.YtdpfjhhcgaeiiaaDoorCheckB
import Derived.Test.YtdpfjhhcgaeiiaaDoorLeafOf
namespace Go.Proofs.YtdpfjhhcgaeiiaaDoor
open Go.RowKit CodeMath Go.Proofs.YtdpfjhhcgaeiiaaDoor.FrameMath
set_option linter.unusedVariables false
set_option maxRecDepth 100000

set_option maxHeartbeats 4000000 in
theorem PathFault_any (m : Int) (root : List UInt8) (ar : Option Addr) (cr : Nat) (n i : Int) (f : Bool) (s d : List UInt8) (us ud : Value) (rows : List (List UInt8)) (ap : Option Addr) (cp : Nat) (h : Nat) (h6 : h ≤ 6) (hh : isPow n = true → n = (2 ^ h : Nat)) (w : World) (m0 : -9223372036854775808 ≤ m) (m1 : m ≤ 9223372036854775807) (n0 : -9223372036854775808 ≤ n) (n1 : n ≤ 9223372036854775807) (i0 : -9223372036854775808 ≤ i) (i1 : i ≤ 9223372036854775807) (hr : Bytes w ar root) (hs : RowV w us s) (hd : RowV w ud d) (hn : rows.length ≤ cp) (hcp : cp ≤ 9223372036854775807) (hL : ∀ b ∈ rows, b.length ≤ 140737488351232) (hl : Lines w ap rows) :
    Calls Tryd.prog 19 #[.int .i64 m, .slice ar root.length cr, .int .i64 n, .int .i64 i, .agg #[.bool f, us, ud], .slice ap rows.length cp] w fun e w' => e = .returned (.int .i64 (checkR m root n i f s d rows h)) ∧ Below w.heap.size w w' := by
  have cM := fun W => badMode_any m W m0 m1
  have cN := fun W => whole_any n n0 n1 W
  have hba : ∀ o, Below w.heap.size w (w.alloc o) := fun o => (Below.refl _ _).alloc (Nat.le_refl _) o
  have cL := fun W (hW : Below w.heap.size w W) => LeafOf_any m f s d us ud W m0 m1 (hs.keep hW) (hd.keep hW)
  obtain ⟨R, hR⟩ : ∃ R, checkR m root n i f s d rows h = R := ⟨_, rfl⟩
  rw [hR]
  unfold checkR at hR
  obtain ⟨bm, hm⟩ : ∃ b, isMode m = b := ⟨_, rfl⟩
  obtain ⟨bn, hbn⟩ : ∃ b, isPow n = b := ⟨_, rfl⟩
  obtain ⟨A1, k1, rfl, -⟩ := id hs
  obtain ⟨A2, k2, rfl, -⟩ := id hd
  rw [hm] at cM hR
  rw [hbn] at cN hR
  clear hs hd
  generalize s.length = ls at *
  generalize d.length = ld at *
  have HR := Lib.hid hR
  have HBN := Lib.hid hbn
  have HH := Lib.hid hh
  clear hR hm hbn hh
  have cX0 := fun (N : Int) (p : Nat) (b : List UInt8) dv W hN hp hb hl hv => climbed_any m m0 m1 h h6 rows N p b dv ap cp W hN hp hn hcp hL hb hl hv
  clear hn hcp hL
  generalize rows.length = ln at cX0 ⊢
  obtain ⟨lr, hlr⟩ : ∃ k, root.length = k := ⟨_, rfl⟩
  have HLR := Lib.hid hlr
  rw [hlr]
  clear hlr
  cases bm with
  | false =>
    obtain rfl : R = 2 := by rw [← HR.out]; rfl
    clear HR HBN HH cN cL cX0
    go_enter Tryd.func19, Tryd.ntmps19
    go_wp2_with fail
    refine (cM _).mono ?_
    rintro e w1 ⟨rfl, rfl⟩
    go_wp2_with fail
    go_ret
    exact ⟨rfl, hba _⟩
  | true =>
    go_enter Tryd.func19, Tryd.ntmps19
    go_wp2_with fail
    refine (cM _).mono ?_
    rintro e w1 ⟨rfl, rfl⟩
    clear cM
    cases bn with
    | false =>
      obtain rfl : R = 1 := by rw [← HR.out]; rfl
      go_wp2_with fail
      refine (cN _).mono ?_
      rintro e w1 ⟨rfl, hb1⟩
      have hbb := below_step (hba _) (hba _).size hb1
      clear cN
      go_wp2_with fail
      go_ret
      exact ⟨rfl, hbb⟩
    | true =>
      go_wp2_with fail
      refine (cN _).mono ?_
      rintro e w1 ⟨rfl, hb1⟩
      have hbb := below_step (hba (.cells #[.bool f, .slice A1 ls k1, .slice A2 ld k2] 31)) (hba _).size hb1
      have hgl : w.heap.size < (w.alloc (.cells #[.bool f, .slice A1 ls k1, .slice A2 ld k2] 31)).heap.size := by simp
      have hc0 : w1.cell? ⟨w.heap.size, 0, none⟩ = some (.bool f) := (hb1.cell (p := ⟨w.heap.size, 0, none⟩) hgl).trans (by rw [World.cell?_alloc_new]; rfl)
      have hc1 : w1.cell? ⟨w.heap.size, 1, none⟩ = some (.slice A1 ls k1) := (hb1.cell (p := ⟨w.heap.size, 1, none⟩) hgl).trans (by rw [World.cell?_alloc_new]; rfl)
      have hc2 : w1.cell? ⟨w.heap.size, 2, none⟩ = some (.slice A2 ld k2) := (hb1.cell (p := ⟨w.heap.size, 2, none⟩) hgl).trans (by rw [World.cell?_alloc_new]; rfl)
      clear cN hba hb1 hgl
      have hBB := hbb
      by_cases hi : 0 ≤ i ∧ i < n
      · have hiI : ¬ i < 0 := by omega
        have hiJ : ¬ n ≤ i := by omega
        have HR2 := HR.out
        rw [if_neg (by decide), if_neg (by decide), if_neg (by simpa using hi)] at HR2
        have hnn := HH.out HBN.out
        obtain ⟨p, rfl⟩ : ∃ p : Nat, i = p := ⟨i.toNat, by omega⟩
        rw [Int.toNat_natCast] at HR2
        have HR3 := Lib.hid HR2
        have hp2 : p < 2 ^ h := by omega
        have cX := fun b dv W hb hl hv => cX0 n p b dv W hnn hp2 hb hl hv
        clear HR HR2 cX0 hnn hp2 hi
        cases hlf : leafR m f s d with
        | err c =>
          have c0 := leafR_ne m f s d c hlf
          obtain rfl : R = c := by rw [← HR3.out, hlf]
          have cL2 := cL w1 hbb
          rw [hlf] at cL2
          clear hlf cL cX HR3
          go_wp2_with fail
          refine cL2.mono ?_
          rintro e w2 ⟨rfl, hb2⟩
          have hbb2 := below_step hbb hbb.size hb2
          clear cL2
          go_wp2_with fail
          go_ret
          exact ⟨rfl, hbb2⟩
        | ok b =>
          have hlb := leafR_length m f s d b hlf
          have HR4 : Hid ((if rows.length ≠ h then 10 else match climbR m p 0 b rows with | .err _ => 10 | .ok x => if x = root then (0 : Int) else 10) = R) := by
            have := HR3.out
            rw [hlf] at this
            exact this
          have cL2 := cL w1 hbb
          rw [hlf] at cL2
          have cX2 := fun dv W hl hv => cX b dv W (by omega) hl hv
          clear hlf cL cX HR3 hlb
          go_wp2_with fail
          refine cL2.mono ?_
          rintro e w2 ⟨v2, rfl, hr2, hb2⟩
          have hbb2 := below_step hbb hbb.size hb2
          have cX3 := cX2 v2 w2 (hl.keep hbb2) hr2
          obtain ⟨a9, n9, k9, rfl⟩ : ∃ a n k, v2 = .slice a n k := by obtain ⟨a, k, e, _⟩ := id hr2; exact ⟨_, _, _, e⟩
          clear cL2 cX2 hr2
          go_wp2_with fail
          refine cX3.mono ?_
          rintro e w3 ⟨u3, rfl, hv3, hb3⟩
          have hbb3 := below_step hbb2 hbb2.size hb3
          clear cX3
          cases hcl : clR m p h b rows with
          | err c =>
            rw [show bR (.err c) = false from rfl]
            obtain rfl : R = 10 := by
              rw [← HR4.out]
              unfold clR at hcl
              split at hcl
              · rename_i hx
                rw [if_neg (by simpa using hx), hcl]
              · rename_i hx
                rw [if_pos hx]
            clear HR4 hcl hv3
            go_wp2_with fail
            go_ret
            exact ⟨rfl, hbb3⟩
          | ok x =>
            rw [show bR (.ok x) = true from rfl]
            have hrx := hv3 x hcl
            have HR5 : Hid ((if x = root then (0 : Int) else 10) = R) := by
              unfold clR at hcl
              split at hcl
              · rename_i hx
                have h1 := HR4.out
                rw [if_neg (show ¬ rows.length ≠ h by simpa using hx), hcl] at h1
                exact h1
              · cases hcl
            obtain ⟨a4, k4, rfl, j1, j2, j3, j4⟩ := hrx.row
            have q1 := bytes_string (cap := k4) j4
            have q2 := bytes_string (cap := cr) (hr.keep hbb3)
            rw [HLR.out] at q2
            have hse : (x == root) = decide (x = root) := by by_cases h : x = root <;> simp [h]
            clear hrx j1 j2 j3 j4 HR4 hcl
            generalize x.length = lx at *
            by_cases hx : x = root
            · obtain rfl : R = 0 := by rw [← HR5.out, if_pos hx]
              rw [decide_eq_true hx] at hse
              clear HR5 hx
              go_wp2_with fail
              go_ret
              exact ⟨rfl, hbb3⟩
            · obtain rfl : R = 10 := by rw [← HR5.out, if_neg hx]
              rw [decide_eq_false hx] at hse
              clear HR5 hx
              go_wp2_with fail
              go_ret
              exact ⟨rfl, hbb3⟩
      · have hiI : i < 0 ∨ (¬ i < 0 ∧ n ≤ i) := by omega
        obtain rfl : R = 6 := by rw [← HR.out, if_neg (by decide), if_neg (by decide), if_pos hi]
        clear hi HR cX0 cL HH
        rcases hiI with hiI | ⟨hiI, hiJ⟩
        all_goals
          go_wp2_with fail
          go_ret
          exact ⟨rfl, hbb⟩
end Go.Proofs.YtdpfjhhcgaeiiaaDoor
