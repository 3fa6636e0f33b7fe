/-
  CONTRACT of package slots' CheckPath.
  CONDITIONS: package sum's roundWords hold what their initialiser lays ('KW').
-/
import Derived.Test.YtdpfjhhcgaeiiaaDoorCheckA
namespace Go.Proofs.YtdpfjhhcgaeiiaaDoor
open Go.RowKit CodeMath Go.Proofs.YtdpfjhhcgaeiiaaDoor.FrameMath
set_option linter.unusedVariables false
set_option maxRecDepth 100000

theorem climbR_ne {m : Int} {p : Nat} : ∀ {r : List (List UInt8)} {t : Nat} {top : List UInt8} {c : Int}, climbR m p t top r = .err c → c ≠ 0
  | [], t, top, c, e => by cases e
  | a :: r, t, top, c, e => by
    simp only [climbR] at e
    cases hd : digR m 2 (if (p / 2 ^ t) % 2 = 1 then [a, top] else [top, a]) with
    | err q => rw [hd] at e; cases e; exact digR_ne hd
    | ok y => rw [hd] at e; exact climbR_ne e
set_option maxHeartbeats 4000000 in
theorem CheckPath_any (m : Int) (root : List UInt8) (ar : Option Addr) (cr : Nat) (n i : Int) (f : Bool) (s d : List UInt8) (us ud : Value) (rows : List (List UInt8)) (ap : Option Addr) (cp : Nat) (h : Nat) (h6 : h ≤ 6) (hh : isPow n = true → n = (2 ^ h : Nat)) (w : World) (m0 : -9223372036854775808 ≤ m) (m1 : m ≤ 9223372036854775807) (n0 : -9223372036854775808 ≤ n) (n1 : n ≤ 9223372036854775807) (i0 : -9223372036854775808 ≤ i) (i1 : i ≤ 9223372036854775807) (hr : Bytes w ar root) (hs : RowV w us s) (hd : RowV w ud d) (hn : rows.length ≤ 9223372036854775807) (hL : ∀ b ∈ rows, b.length ≤ 140737488351232) (hl : Lines w ap rows) (hT : KW w) :
    Calls Tryd.prog 18 #[.int .i64 m, .slice ar root.length cr, .int .i64 n, .int .i64 i, .agg #[.bool f, us, ud], .slice ap rows.length cp] w fun e w' => e = .returned (.int .i64 (checkR m root n i f s d rows h)) ∧ Below w.heap.size w w' := by
  have cM := fun W => mode_any m W m0 m1
  have cN := fun W => isNumber_any n n0 n1 W
  have cP := fun W => isPlace_any i n _ rfl W i0 i1
  have hba : ∀ o, Below w.heap.size w (w.alloc o) := fun o => (Below.refl _ _).alloc (Nat.le_refl _) o
  have cL := fun W (hW : Below w.heap.size w W) => Leaf_any m f s d us ud W m0 m1 (hs.keep hW) (hd.keep hW) (hT.keep hW (Nat.le_refl _))
  obtain ⟨R, hR⟩ : ∃ R, checkR m root n i f s d rows h = R := ⟨_, rfl⟩
  rw [hR]
  unfold checkR at hR
  obtain ⟨bm, hm⟩ : ∃ b, isMode m = b := ⟨_, rfl⟩
  obtain ⟨bn, hbn⟩ : ∃ b, isPow n = b := ⟨_, rfl⟩
  obtain ⟨bp, hbp⟩ : ∃ b, decide (0 ≤ i ∧ i < n) = b := ⟨_, rfl⟩
  obtain ⟨A1, k1, rfl, -⟩ := id hs
  obtain ⟨A2, k2, rfl, -⟩ := id hd
  rw [hm] at cM hR
  rw [hbn] at cN hR
  rw [hbp] at cP
  clear hs hd
  generalize s.length = ls at *
  generalize d.length = ld at *
  have HR := Lib.hid hR
  have HBN := Lib.hid hbn
  have HBP := Lib.hid hbp
  have HH := Lib.hid hh
  clear hR hm hbn hbp hh
  obtain ⟨ln, hln⟩ : ∃ k, rows.length = k := ⟨_, rfl⟩
  have HLN := Lib.hid hln
  rw [hln] at hn ⊢
  clear hln
  have hnI : (ln : Int) ≤ 9223372036854775807 := by omega
  obtain ⟨lr, hlr⟩ : ∃ k, root.length = k := ⟨_, rfl⟩
  have HLR := Lib.hid hlr
  rw [hlr]
  clear hlr
  go_enter Tryd.func18, Tryd.ntmps18
  go_wp2_with fail
  refine (cM _).mono ?_
  rintro e w1 ⟨rfl, rfl⟩
  clear cM
  cases bm with
  | false =>
    obtain rfl : R = 2 := by rw [← HR.out]; rfl
    go_wp2_with fail
    go_ret
    exact ⟨rfl, hba _⟩
  | true =>
    go_wp2_with fail
    refine (cN _).mono ?_
    rintro e w1 ⟨rfl, rfl⟩
    clear cN
    cases bn with
    | false =>
      obtain rfl : R = 1 := by rw [← HR.out]; rfl
      go_wp2_with fail
      go_ret
      exact ⟨rfl, hba _⟩
    | true =>
      go_wp2_with fail
      refine (cP _).mono ?_
      rintro e w1 ⟨rfl, rfl⟩
      clear cP
      cases bp with
      | false =>
        obtain rfl : R = 6 := by
          rw [← HR.out, if_neg (by decide), if_neg (by decide), if_pos (of_decide_eq_false HBP.out)]
        go_wp2_with fail
        go_ret
        exact ⟨rfl, hba _⟩
      | true =>
        have hi := of_decide_eq_true HBP.out
        have HR2 := HR.out
        rw [if_neg (by decide), if_neg (by decide), if_neg (by simpa using hi)] at HR2
        have hnn := HH.out HBN.out
        obtain ⟨p, rfl⟩ : ∃ p : Nat, i = p := ⟨i.toNat, by omega⟩
        rw [Int.toNat_natCast] at HR2
        have HR3 := Lib.hid HR2
        clear HR HR2 HBP
        have hp64 : p < 64 := by
          have h64 : 2 ^ h ≤ 2 ^ 6 := Nat.pow_le_pow_right (by decide) h6
          have e6 : 2 ^ 6 = 64 := by decide
          omega
        have cH := fun W => halvings_any h h6 n hnn W
        have HNN := Lib.hid hnn
        clear hnn
        have hI : (h : Int) ≤ 6 := by omega
        cases hlf : leafR m f s d with
        | err c =>
          have c0 := leafR_ne m f s d c hlf
          obtain rfl : R = c := by rw [← HR3.out, hlf]
          rw [hlf] at cL
          clear hlf cH
          go_wp2_with fail
          refine (cL _ (hba _)).mono ?_
          rintro e w2 ⟨rfl, hb2⟩
          have hbb := below_step (hba _) (hba _).size hb2
          clear cL
          go_wp2_with fail
          go_ret
          exact ⟨rfl, hbb⟩
        | ok b =>
          have hlb := leafR_length m f s d b hlf
          have HR4 : (if rows.length ≠ h then 10 else match climbR m p 0 b rows with | .err _ => 10 | .ok x => if x = root then (0 : Int) else 10) = R := by
            have := HR3.out
            rw [hlf] at this
            exact this
          rw [hlf] at cL
          clear HR3 hlf
          by_cases hlh : ln = h
          · have hleI : (ln : Int) = h := by omega
            have HR5 : Hid ((match climbR m p 0 b rows with | .err _ => 10 | .ok x => if x = root then (0 : Int) else 10) = R) := by
              show _ = _
              rw [← HR4, if_neg (by rw [HLN.out]; simpa using hlh)]
            have cC := fun v W hl hv hT => climb_any m b v rows ap cp p W m0 m1 hp64 (by rw [HLN.out, hlh]; exact h6) hL (by omega) hl hv hT
            rw [HLN.out] at cC
            clear HR4
            subst hlh
            go_wp2_with fail
            refine (cL _ (hba _)).mono ?_
            rintro e w2 ⟨v2, rfl, hr2, hb2⟩
            have hbb := below_step (hba _) (hba _).size hb2
            clear cL
            go_wp2_with fail
            refine (cH _).mono ?_
            rintro e w3 ⟨rfl, rfl⟩
            clear cH
            have cC2 := cC v2 w2 (hl.keep hbb) hr2 (hT.keep hbb (Nat.le_refl _))
            clear cC hr2
            cases hcl : climbR m p 0 b rows with
            | err c =>
              have c0 := climbR_ne hcl
              obtain rfl : R = 10 := by rw [← HR5.out, hcl]
              rw [hcl] at cC2
              clear HR5 hcl
              go_wp2_with fail
              refine cC2.mono ?_
              rintro e w4 ⟨rfl, hb4⟩
              have hbb4 := below_step hbb hbb.size hb4
              clear cC2
              go_wp2_with fail
              go_ret
              exact ⟨rfl, hbb4⟩
            | ok x =>
              have HR6 : Hid ((if x = root then (0 : Int) else 10) = R) := by
                have := HR5.out
                rw [hcl] at this
                exact this
              rw [hcl] at cC2
              clear HR5 hcl
              go_wp2_with fail
              refine cC2.mono ?_
              rintro e w4 ⟨v4, rfl, hr4, hb4⟩
              have hbb4 := below_step hbb hbb.size hb4
              clear cC2
              obtain ⟨a4, k4, rfl, j1, j2, j3, j4⟩ := hr4.row
              have cE := equal_any x root _ rfl a4 ar k4 cr w4 j4 (hr.keep hbb4)
              rw [HLR.out] at cE
              clear hr4 j1 j2 j3 j4
              generalize x.length = lx at *
              by_cases hx : x = root
              · obtain rfl : R = 0 := by rw [← HR6.out, if_pos hx]
                rw [decide_eq_true hx] at cE
                clear HR6 hx
                go_wp2_with fail
                refine cE.mono ?_
                rintro e w5 ⟨rfl, rfl⟩
                clear cE
                go_wp2_with fail
                go_ret
                exact ⟨rfl, hbb4⟩
              · obtain rfl : R = 10 := by rw [← HR6.out, if_neg hx]
                rw [decide_eq_false hx] at cE
                clear HR6 hx
                go_wp2_with fail
                refine cE.mono ?_
                rintro e w5 ⟨rfl, rfl⟩
                clear cE
                go_wp2_with fail
                go_ret
                exact ⟨rfl, hbb4⟩
          · have hleI : ¬ (ln : Int) = h := by omega
            obtain rfl : R = 10 := by rw [← HR4, if_pos (by rw [HLN.out]; simpa using hlh)]
            clear HR4 hlh
            go_wp2_with fail
            refine (cL _ (hba _)).mono ?_
            rintro e w2 ⟨v2, rfl, hr2, hb2⟩
            have hbb := below_step (hba _) (hba _).size hb2
            clear cL
            go_wp2_with fail
            refine (cH _).mono ?_
            rintro e w3 ⟨rfl, rfl⟩
            clear cH
            go_wp2_with fail
            go_ret
            exact ⟨rfl, hbb⟩
end Go.Proofs.YtdpfjhhcgaeiiaaDoor
