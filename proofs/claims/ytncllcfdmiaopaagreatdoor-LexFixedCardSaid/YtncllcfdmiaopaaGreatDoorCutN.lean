/-
  CONTRACT of the reference's digitsOf.
  CONDITIONS: each theorem's own hypotheses.
-/
import Derived.Test.YtncllcfdmiaopaaGreatDoorCutC
import Derived.Test.YtncllcfdmiaopaaGreatDoorValB
namespace Go.Proofs.YtncllcfdmiaopaaGreatDoor
open Go.RowKit
set_option linter.unusedVariables false
set_option maxRecDepth 100000

def pow10 : Nat → Nat
  | 0 => 1
  | n + 1 => pow10 n * 10
theorem numV_split : ∀ (l : List UInt8) (a : Nat), numV l a = a * pow10 l.length + numV l 0
  | [], a => by simp [numV, pow10]
  | c :: l, a => by
    have h1 := numV_split l (a * 10 + (c.toNat - 48))
    have h2 := numV_split l (0 * 10 + (c.toNat - 48))
    simp only [numV, List.length_cons, pow10]
    rw [h1, h2, Nat.zero_mul, Nat.zero_add, Nat.add_mul, Nat.mul_assoc, Nat.mul_comm 10 (pow10 l.length)]
    omega
theorem dig_range {c : UInt8} (h : isDi c = true) : 48 ≤ c.toNat ∧ c.toNat ≤ 57 := by
  have := all_bytes (P := fun c => !isDi c || (decide (48 ≤ c.toNat) && decide (c.toNat ≤ 57))) (by decide +kernel) c
  simpa [h] using this
theorem numV_lt : ∀ (l : List UInt8), l.all isDi = true → numV l 0 < pow10 l.length
  | [], _ => by decide
  | c :: l, h => by
    simp only [List.all_cons, Bool.and_eq_true] at h
    have hc := dig_range h.1
    have h2 := numV_lt l h.2
    simp only [numV, List.length_cons, pow10]
    rw [numV_split]
    have h9 : (0 * 10 + (c.toNat - 48)) * pow10 l.length ≤ 9 * pow10 l.length := Nat.mul_le_mul_right _ (by omega)
    omega
theorem pow10_mono : ∀ {a b : Nat}, a ≤ b → pow10 a ≤ pow10 b
  | a, 0, h => by obtain rfl : a = 0 := by omega
                  exact Nat.le_refl _
  | a, b + 1, h => by
    by_cases he : a = b + 1
    · rw [he]; exact Nat.le_refl _
    · have := pow10_mono (a := a) (b := b) (by omega)
      simp only [pow10]; omega
/-- Of digits as many, the greater text is the greater number. -/
theorem digits_cmp : ∀ (x y : List UInt8), x.length = y.length → x.all isDi = true → y.all isDi = true → (Op.bytesLess x y = decide (numV x 0 < numV y 0)) ∧ ((x == y) = decide (numV x 0 = numV y 0))
  | [], [], _, _, _ => by decide
  | [], b :: y, h, _, _ => by simp at h
  | a :: x, [], h, _, _ => by simp at h
  | a :: x, b :: y, h, hx, hy => by
    simp only [List.length_cons, Nat.add_right_cancel_iff] at h
    simp only [List.all_cons, Bool.and_eq_true] at hx hy
    obtain ⟨i1, i2⟩ := digits_cmp x y h hx.2 hy.2
    have ha := dig_range hx.1
    have hb := dig_range hy.1
    have l1 := numV_lt x hx.2
    have l2 := numV_lt y hy.2
    have e1 : numV (a :: x) 0 = (a.toNat - 48) * pow10 x.length + numV x 0 := by simp only [numV]; rw [numV_split]; simp
    have e2 : numV (b :: y) 0 = (b.toNat - 48) * pow10 x.length + numV y 0 := by simp only [numV]; rw [numV_split, h]; simp
    rw [e1, e2]
    rw [← h] at l2
    have key : ∀ p q : Nat, p < q → p * pow10 x.length + pow10 x.length ≤ q * pow10 x.length := fun p q hpq => by
      have := Nat.mul_le_mul_right (pow10 x.length) (show p + 1 ≤ q by omega)
      rw [Nat.add_mul, Nat.one_mul] at this
      exact this
    rcases Nat.lt_trichotomy a.toNat b.toNat with hlt | heq | hgt
    · have hab : a < b := by rw [UInt8.lt_iff_toNat_lt]; exact hlt
      have hne : (a == b) = false := by simp only [beq_eq_false_iff_ne, ne_eq]; rintro rfl; omega
      have hk := key (a.toNat - 48) (b.toNat - 48) (by omega)
      refine ⟨?_, ?_⟩
      · simp only [Op.bytesLess, hab, decide_true, Bool.true_or]
        symm; rw [decide_eq_true_eq]; omega
      · show ((a :: x) == (b :: y)) = _
        rw [List.cons_beq_cons, hne, Bool.false_and]
        symm; rw [decide_eq_false_iff_not]; omega
    · obtain rfl := UInt8.toNat_inj.1 heq
      have hab : ¬ a < a := by rw [UInt8.lt_iff_toNat_lt]; omega
      refine ⟨?_, ?_⟩
      · simp only [Op.bytesLess, hab, decide_false, Bool.false_or, beq_self_eq_true, Bool.true_and]
        rw [i1, decide_eq_decide]; omega
      · show ((a :: x) == (a :: y)) = _
        rw [List.cons_beq_cons, beq_self_eq_true, Bool.true_and, i2, decide_eq_decide]; omega
    · have hab : ¬ a < b := by rw [UInt8.lt_iff_toNat_lt]; omega
      have hne : (a == b) = false := by simp only [beq_eq_false_iff_ne, ne_eq]; rintro rfl; omega
      have hk := key (b.toNat - 48) (a.toNat - 48) (by omega)
      refine ⟨?_, ?_⟩
      · simp only [Op.bytesLess, hab, decide_false, Bool.false_or, hne, Bool.false_and]
        symm; rw [decide_eq_false_iff_not]; omega
      · show ((a :: x) == (b :: y)) = _
        rw [List.cons_beq_cons, hne, Bool.false_and]
        symm; rw [decide_eq_false_iff_not]; omega
def mostL : List UInt8 := [57, 50, 50, 51, 51, 55, 50, 48, 51, 54, 56, 53, 52, 55, 55, 53, 56, 48, 55]
theorem most_facts : mostL.length = 19 ∧ mostL.all isDi = true ∧ numV mostL 0 = 9223372036854775807 := by decide
theorem numV_take : ∀ (l : List UInt8) (i a : Nat) (h : i < l.length), numV (l.take (i + 1)) a = numV (l.take i) a * 10 + (l[i].toNat - 48)
  | c :: l, 0, a, h => by simp [numV]
  | c :: l, i + 1, a, h => by
    simp only [List.take_succ_cons, numV, List.getElem_cons_succ]
    exact numV_take l i _ (by simpa using h)
theorem numV_take_le : ∀ (l : List UInt8) (i a : Nat), numV (l.take i) a ≤ numV l a
  | [], i, a => by simp
  | c :: l, 0, a => by
    simp only [List.take_zero]
    exact numV_ge (c :: l) a
  | c :: l, i + 1, a => by
    simp only [List.take_succ_cons, numV]
    exact numV_take_le l i _
def DgOk (R : TR) (k x : Int) : Prop := match R with
  | .err e => x = e ∧ e ≠ 0
  | .ok t _ => t = ⟨3, [], k, 0⟩ ∧ x = 0
set_option maxHeartbeats 4000000 in
theorem digitsOf_any (c : UInt8) (d : List UInt8) (w : World) (hA : (c :: d).all isDi = true) (hl : (c :: d).length ≤ 1000000) :
    Calls Tryz.prog 40 #[.string (str (c :: d))] w fun e w' => (∃ k x, e = .returned (.tuple #[.int .i64 k, .int .i64 x]) ∧ Hid (DgOk (numR (c :: d)) k x)) ∧ w = w' := by
  have hsz := str_size (c :: d)
  have hg : ∀ h : 0 < (str (c :: d)).size, (str (c :: d))[0] = c := fun h => rfl
  have hcd := dig_range (by simp only [List.all_cons, Bool.and_eq_true] at hA; exact hA.1 : isDi c = true)
  obtain ⟨L, hL⟩ : ∃ L, c :: d = L := ⟨_, rfl⟩
  have hLd : L.length = d.length + 1 := by rw [← hL]; simp
  have hnum : numV L 0 = (c.toNat - 48) * pow10 d.length + numV d 0 := by rw [← hL]; simp only [numV]; rw [numV_split]; simp
  have hR0 : numR L = if c = 48 ∧ 1 < L.length then .err 3 else if 9223372036854775807 < numV L 0 then .err 6 else .ok ⟨3, [], numV L 0, 0⟩ L.length := by
    unfold numR; rw [← hL]; simp
  rw [hL] at hsz hg hA hl ⊢
  have hLt := numV_lt L hA
  obtain ⟨R, hR⟩ : ∃ R, numR L = R := ⟨_, rfl⟩
  rw [hR] at hR0 ⊢
  have HR := Lib.hid hR0
  obtain ⟨s, hs⟩ : ∃ s, str L = s := ⟨_, rfl⟩
  rw [hs] at hsz hg ⊢
  have hget : ∀ j (h : j < s.size) (h' : j < L.length), s[j] = L[j] := by subst hs; exact fun j h h' => rfl
  have htl : s.toList = L := by rw [← hs, str_toList]
  have h0 : 0 < s.size := by rw [hsz]; omega
  have hg0 := hg h0
  have h0I : (0 : Int) < (s.size : Int) := by omega
  obtain ⟨n, hn⟩ : ∃ n, L.length = n := ⟨_, rfl⟩
  have h10 : pow10 19 = 10000000000000000000 := by decide
  have h10b : pow10 18 = 1000000000000000000 := by decide
  have hmost : (str mostL).size = 19 := by rw [str_size]; rfl
  have hmt : (str mostL).toList = mostL := str_toList _
  obtain ⟨M, hM⟩ : ∃ M, str mostL = M := ⟨_, rfl⟩
  rw [hM] at hmost hmt
  have hMI : (M.size : Int) = 19 := by omega
  by_cases hz : 1 < n ∧ c = 48
  · have i1 : (1 : Int) < (s.size : Int) := by omega
    have q1 : ((s[0].toNat : Int) == 48) = true := by rw [hg0, hz.2]; rfl
    have HRR : Hid (R = .err 3) := by show _ = _; rw [HR.out, if_pos ⟨hz.2, by omega⟩]
    clear HR hR0 hR hg hg0 hget hLt hnum hcd hs htl hz hsz hA hM hmt hMI
    go_enter Tryz.func40, Tryz.ntmps40
    go_wp2_with fail
    go_ret2
    exact ⟨⟨_, _, rfl, Lib.hid (by rw [HRR.out]; exact ⟨rfl, by decide⟩)⟩, rfl⟩
  · have hR1 : R = if 9223372036854775807 < numV L 0 then .err 6 else .ok ⟨3, [], numV L 0, 0⟩ L.length := by rw [hR0, if_neg (fun h => hz ⟨by omega, h.1⟩)]
    have hone : Hid ((decide ((1 : Int) < (s.size : Int)) && ((s[0].toNat : Int) == 48)) = false) := by
      show _ = _
      rw [Bool.and_eq_false_iff]
      by_cases h1 : 1 < n
      · right
        simp only [beq_eq_false_iff_ne, ne_eq]
        intro e
        refine hz ⟨h1, ?_⟩
        rw [← hg0]
        exact UInt8.toNat_inj.1 (by simpa using (by omega : s[0].toNat = 48))
      · left; simp; omega
    by_cases hbig : 9223372036854775807 < numV L 0
    · have HRR : Hid (R = .err 6) := by show _ = _; rw [hR1, if_pos hbig]
      have h19 : 19 ≤ n := by
        refine Classical.byContradiction fun h => ?_
        have := pow10_mono (show L.length ≤ 18 by omega)
        omega
      have hcmp := digits_cmp L mostL
      rw [most_facts.1, most_facts.2.2] at hcmp
      have hgt : n = 19 → Op.bytesLess s.toList [57, 50, 50, 51, 51, 55, 50, 48, 51, 54, 56, 53, 52, 55, 55, 53, 56, 48, 55] = false ∧ (s.toList == [57, 50, 50, 51, 51, 55, 50, 48, 51, 54, 56, 53, 52, 55, 55, 53, 56, 48, 55]) = false := fun h => by
        obtain ⟨c1, c2⟩ := hcmp (by omega) hA most_facts.2.1
        rw [htl]
        exact ⟨c1.trans (by rw [decide_eq_false_iff_not]; omega), c2.trans (by rw [decide_eq_false_iff_not]; omega)⟩
      clear HR hR0 hR hR1 hg hget hLt hnum hcd hs hA hmt hcmp hbig hg0 htl hL hLd
      by_cases hone1 : n = 1
      · omega
      · have i1 : (1 : Int) < (s.size : Int) := by omega
        have q1 : ((s[0].toNat : Int) == 48) = false := by have := hone.out; simpa [i1] using this
        by_cases hE : n = 19
        · have i2 : ¬ (19 : Int) < (s.size : Int) := by omega
          have i3 : ((s.size : Int) == 19) = true := by simp; omega
          obtain ⟨g1, g2⟩ := hgt hE
          clear hgt
          clear hone hz hsz hM
          go_enter Tryz.func40, Tryz.ntmps40
          go_wp2_with fail
          go_ret2
          exact ⟨⟨_, _, rfl, Lib.hid (by rw [HRR.out]; exact ⟨rfl, by decide⟩)⟩, rfl⟩
        · have i2 : (19 : Int) < (s.size : Int) := by omega
          clear hone hz hsz hM hgt
          go_enter Tryz.func40, Tryz.ntmps40
          go_wp2_with fail
          go_ret2
          exact ⟨⟨_, _, rfl, Lib.hid (by rw [HRR.out]; exact ⟨rfl, by decide⟩)⟩, rfl⟩
    · have HRR : Hid (R = .ok ⟨3, [], numV L 0, 0⟩ L.length) := by show _ = _; rw [hR1, if_neg hbig]
      have h19 : n ≤ 19 := by
        refine Classical.byContradiction fun h => ?_
        have := pow10_mono (show 19 ≤ d.length by omega)
        have hc1 : 1 ≤ c.toNat - 48 := by
          refine Classical.byContradiction fun h2 => hz ⟨by omega, UInt8.toNat_inj.1 (by simpa using (by omega : c.toNat = 48))⟩
        have := Nat.mul_le_mul_right (pow10 d.length) hc1
        omega
      have hcmp := digits_cmp L mostL
      rw [most_facts.1, most_facts.2.2] at hcmp
      have hgt : n = 19 → Op.bytesLess s.toList [57, 50, 50, 51, 51, 55, 50, 48, 51, 54, 56, 53, 52, 55, 55, 53, 56, 48, 55] = true ∨ (Op.bytesLess s.toList [57, 50, 50, 51, 51, 55, 50, 48, 51, 54, 56, 53, 52, 55, 55, 53, 56, 48, 55] = false ∧ (s.toList == [57, 50, 50, 51, 51, 55, 50, 48, 51, 54, 56, 53, 52, 55, 55, 53, 56, 48, 55]) = true) := fun h => by
        obtain ⟨c1, c2⟩ := hcmp (by omega) hA most_facts.2.1
        rw [htl]
        by_cases hq : numV L 0 = 9223372036854775807
        · exact .inr ⟨c1.trans (by rw [decide_eq_false_iff_not]; omega), c2.trans (by rw [decide_eq_true_eq]; exact hq)⟩
        · exact .inl (c1.trans (by rw [decide_eq_true_eq]; omega))
      clear HR hR0 hR hR1 hg hLt hcd hs hmt hcmp hg0 htl hL hLd hnum
      have HA := Lib.hid hA
      have HG := Lib.hid hget
      have hpre : ∀ i, numV (L.take i) 0 ≤ numV L 0 := fun i => numV_take_le L i 0
      have hstep : ∀ i (h : i < L.length), numV (L.take (i + 1)) 0 = numV (L.take i) 0 * 10 + (L[i].toNat - 48) ∧ 48 ≤ L[i].toNat ∧ L[i].toNat ≤ 57 := fun i h => ⟨numV_take L i 0 h, dig_range (List.all_eq_true.1 hA _ (List.getElem_mem h))⟩
      obtain ⟨V, hV⟩ : ∃ V, numV L 0 = V := ⟨_, rfl⟩
      rw [hV] at hpre hbig HRR
      have HP := Lib.hid hpre
      have HS := Lib.hid hstep
      have HV := Lib.hid hV
      have HN := Lib.hid hn
      have hsn : s.size = n := by omega
      have hn1 : n = 1 ∨ n ≠ 1 := by omega
      have i2 : ¬ (19 : Int) < (s.size : Int) := by omega
      have i3 : n ≠ 19 → ((s.size : Int) == 19) = false := fun h => by simp; omega
      have i4 : n = 19 → ((s.size : Int) == 19) = true := fun h => by simp; omega
      have q1 : ¬ (1 : Int) < (s.size : Int) ∨ ((1 : Int) < (s.size : Int) ∧ ((s[0].toNat : Int) == 48) = false) := by
        by_cases h : (1 : Int) < (s.size : Int)
        · right; refine ⟨h, ?_⟩; have := hone.out; simpa [h] using this
        · left; exact h
      have hgn : (¬ n = 19) ∨ (n = 19 ∧ (Op.bytesLess s.toList [57, 50, 50, 51, 51, 55, 50, 48, 51, 54, 56, 53, 52, 55, 55, 53, 56, 48, 55] = true ∨ (Op.bytesLess s.toList [57, 50, 50, 51, 51, 55, 50, 48, 51, 54, 56, 53, 52, 55, 55, 53, 56, 48, 55] = false ∧ (s.toList == [57, 50, 50, 51, 51, 55, 50, 48, 51, 54, 56, 53, 52, 55, 55, 53, 56, 48, 55]) = true))) := by
        by_cases h : n = 19
        · exact .inr ⟨h, hgt h⟩
        · exact .inl h
      clear hget hA hpre hstep hV hn hone hz hM hgt hsz hn1
      rcases q1 with q1 | ⟨q1, q2⟩
      · have hn1 : n ≠ 19 := by omega
        have i3 := i3 hn1
        clear i4 hgn
        go_enter Tryz.func40, Tryz.ntmps40
        go_wp2_with fail
        go_loopw [5, 6] (fun bv ix wr => ∃ i : Nat, i ≤ n ∧ ix = .int .i64 i ∧ bv = .int .i64 (numV (L.take i) 0 : Nat) ∧ wr = w) (fun _ ix _ => n - (intOf ix).toNat)
        case atStart => exact ⟨0, Nat.zero_le _, rfl, rfl, rfl⟩
        case round =>
          obtain ⟨i, hi, rfl, rfl, rfl⟩ := hrel
          by_cases hlt : i < n
          · have iI : (i : Int) < (s.size : Int) := by omega
            have his : i < s.size := by omega
            have hil : i < L.length := by rw [HN.out]; exact hlt
            have hg := HG.out i his hil
            obtain ⟨e1, e2, e3⟩ := HS.out i hil
            have e4 := HP.out (i + 1)
            rw [← hg] at e1 e2 e3
            generalize numV (L.take i) 0 = x at *
            have wA : IntKind.i64.wrap ((x : Int) * 10) = (x : Int) * 10 := by rw [IntKind.wrap_i64] <;> omega
            have wB : IntKind.u8.wrap ((s[i].toNat : Int) - 48) = (s[i].toNat : Int) - 48 := by show ((s[i].toNat : Int) - 48) % 256 = _; omega
            have wD : IntKind.i64.wrap ((s[i].toNat : Int) - 48) = (s[i].toNat : Int) - 48 := by rw [IntKind.wrap_i64] <;> omega
            have wC : IntKind.i64.wrap ((x : Int) * 10 + ((s[i].toNat : Int) - 48)) = (x : Int) * 10 + ((s[i].toNat : Int) - 48) := by rw [IntKind.wrap_i64] <;> omega
            have HY : Hid (((numV (L.take (i + 1)) 0 : Nat) : Int) = (x : Int) * 10 + ((s[i].toNat : Int) - 48)) := Lib.hid (by omega)
            clear hg e1 e4
            go_wp2_with fail
            go_roundw
            case rel => exact ⟨i + 1, by omega, by go_num, by show Value.int _ _ = Value.int _ _; rw [HY.out], by first | rfl | trivial⟩
            case measure => simp [intOf]; omega
          · have iI : ¬ (i : Int) < (s.size : Int) := by omega
            obtain rfl : i = n := by omega
            have HE : Hid (numV (L.take i) 0 = V) := by show numV (L.take i) 0 = V; rw [List.take_of_length_le (by rw [HN.out]; exact Nat.le_refl _)]; exact HV.out
            generalize numV (L.take i) 0 = x at *
            go_wp2_with fail
            go_ret2
            exact ⟨⟨_, _, rfl, Lib.hid (by rw [HRR.out, HE.out]; exact ⟨rfl, rfl⟩)⟩, rfl⟩
      · rcases hgn with hg | ⟨hg, hg2⟩
        · have i3 := i3 hg
          clear i4
          go_enter Tryz.func40, Tryz.ntmps40
          go_wp2_with fail
          go_loopw [5, 6] (fun bv ix wr => ∃ i : Nat, i ≤ n ∧ ix = .int .i64 i ∧ bv = .int .i64 (numV (L.take i) 0 : Nat) ∧ wr = w) (fun _ ix _ => n - (intOf ix).toNat)
          case atStart => exact ⟨0, Nat.zero_le _, rfl, rfl, rfl⟩
          case round =>
            obtain ⟨i, hi, rfl, rfl, rfl⟩ := hrel
            by_cases hlt : i < n
            · have iI : (i : Int) < (s.size : Int) := by omega
              have his : i < s.size := by omega
              have hil : i < L.length := by rw [HN.out]; exact hlt
              have hg := HG.out i his hil
              obtain ⟨e1, e2, e3⟩ := HS.out i hil
              have e4 := HP.out (i + 1)
              rw [← hg] at e1 e2 e3
              generalize numV (L.take i) 0 = x at *
              have wA : IntKind.i64.wrap ((x : Int) * 10) = (x : Int) * 10 := by rw [IntKind.wrap_i64] <;> omega
              have wB : IntKind.u8.wrap ((s[i].toNat : Int) - 48) = (s[i].toNat : Int) - 48 := by show ((s[i].toNat : Int) - 48) % 256 = _; omega
              have wD : IntKind.i64.wrap ((s[i].toNat : Int) - 48) = (s[i].toNat : Int) - 48 := by rw [IntKind.wrap_i64] <;> omega
              have wC : IntKind.i64.wrap ((x : Int) * 10 + ((s[i].toNat : Int) - 48)) = (x : Int) * 10 + ((s[i].toNat : Int) - 48) := by rw [IntKind.wrap_i64] <;> omega
              have HY : Hid (((numV (L.take (i + 1)) 0 : Nat) : Int) = (x : Int) * 10 + ((s[i].toNat : Int) - 48)) := Lib.hid (by omega)
              clear hg e1 e4
              go_wp2_with fail
              go_roundw
              case rel => exact ⟨i + 1, by omega, by go_num, by show Value.int _ _ = Value.int _ _; rw [HY.out], by first | rfl | trivial⟩
              case measure => simp [intOf]; omega
            · have iI : ¬ (i : Int) < (s.size : Int) := by omega
              obtain rfl : i = n := by omega
              have HE : Hid (numV (L.take i) 0 = V) := by show numV (L.take i) 0 = V; rw [List.take_of_length_le (by rw [HN.out]; exact Nat.le_refl _)]; exact HV.out
              generalize numV (L.take i) 0 = x at *
              go_wp2_with fail
              go_ret2
              exact ⟨⟨_, _, rfl, Lib.hid (by rw [HRR.out, HE.out]; exact ⟨rfl, rfl⟩)⟩, rfl⟩
        · have i4 := i4 hg
          clear i3
          rcases hg2 with g1 | ⟨g1, g2⟩
          · go_enter Tryz.func40, Tryz.ntmps40
            go_wp2_with fail
            go_loopw [5, 6] (fun bv ix wr => ∃ i : Nat, i ≤ n ∧ ix = .int .i64 i ∧ bv = .int .i64 (numV (L.take i) 0 : Nat) ∧ wr = w) (fun _ ix _ => n - (intOf ix).toNat)
            case atStart => exact ⟨0, Nat.zero_le _, rfl, rfl, rfl⟩
            case round =>
              obtain ⟨i, hi, rfl, rfl, rfl⟩ := hrel
              by_cases hlt : i < n
              · have iI : (i : Int) < (s.size : Int) := by omega
                have his : i < s.size := by omega
                have hil : i < L.length := by rw [HN.out]; exact hlt
                have hg := HG.out i his hil
                obtain ⟨e1, e2, e3⟩ := HS.out i hil
                have e4 := HP.out (i + 1)
                rw [← hg] at e1 e2 e3
                generalize numV (L.take i) 0 = x at *
                have wA : IntKind.i64.wrap ((x : Int) * 10) = (x : Int) * 10 := by rw [IntKind.wrap_i64] <;> omega
                have wB : IntKind.u8.wrap ((s[i].toNat : Int) - 48) = (s[i].toNat : Int) - 48 := by show ((s[i].toNat : Int) - 48) % 256 = _; omega
                have wD : IntKind.i64.wrap ((s[i].toNat : Int) - 48) = (s[i].toNat : Int) - 48 := by rw [IntKind.wrap_i64] <;> omega
                have wC : IntKind.i64.wrap ((x : Int) * 10 + ((s[i].toNat : Int) - 48)) = (x : Int) * 10 + ((s[i].toNat : Int) - 48) := by rw [IntKind.wrap_i64] <;> omega
                have HY : Hid (((numV (L.take (i + 1)) 0 : Nat) : Int) = (x : Int) * 10 + ((s[i].toNat : Int) - 48)) := Lib.hid (by omega)
                clear hg e1 e4
                go_wp2_with fail
                go_roundw
                case rel => exact ⟨i + 1, by omega, by go_num, by show Value.int _ _ = Value.int _ _; rw [HY.out], by first | rfl | trivial⟩
                case measure => simp [intOf]; omega
              · have iI : ¬ (i : Int) < (s.size : Int) := by omega
                obtain rfl : i = n := by omega
                have HE : Hid (numV (L.take i) 0 = V) := by show numV (L.take i) 0 = V; rw [List.take_of_length_le (by rw [HN.out]; exact Nat.le_refl _)]; exact HV.out
                generalize numV (L.take i) 0 = x at *
                go_wp2_with fail
                go_ret2
                exact ⟨⟨_, _, rfl, Lib.hid (by rw [HRR.out, HE.out]; exact ⟨rfl, rfl⟩)⟩, rfl⟩
          · go_enter Tryz.func40, Tryz.ntmps40
            go_wp2_with fail
            go_loopw [5, 6] (fun bv ix wr => ∃ i : Nat, i ≤ n ∧ ix = .int .i64 i ∧ bv = .int .i64 (numV (L.take i) 0 : Nat) ∧ wr = w) (fun _ ix _ => n - (intOf ix).toNat)
            case atStart => exact ⟨0, Nat.zero_le _, rfl, rfl, rfl⟩
            case round =>
              obtain ⟨i, hi, rfl, rfl, rfl⟩ := hrel
              by_cases hlt : i < n
              · have iI : (i : Int) < (s.size : Int) := by omega
                have his : i < s.size := by omega
                have hil : i < L.length := by rw [HN.out]; exact hlt
                have hg := HG.out i his hil
                obtain ⟨e1, e2, e3⟩ := HS.out i hil
                have e4 := HP.out (i + 1)
                rw [← hg] at e1 e2 e3
                generalize numV (L.take i) 0 = x at *
                have wA : IntKind.i64.wrap ((x : Int) * 10) = (x : Int) * 10 := by rw [IntKind.wrap_i64] <;> omega
                have wB : IntKind.u8.wrap ((s[i].toNat : Int) - 48) = (s[i].toNat : Int) - 48 := by show ((s[i].toNat : Int) - 48) % 256 = _; omega
                have wD : IntKind.i64.wrap ((s[i].toNat : Int) - 48) = (s[i].toNat : Int) - 48 := by rw [IntKind.wrap_i64] <;> omega
                have wC : IntKind.i64.wrap ((x : Int) * 10 + ((s[i].toNat : Int) - 48)) = (x : Int) * 10 + ((s[i].toNat : Int) - 48) := by rw [IntKind.wrap_i64] <;> omega
                have HY : Hid (((numV (L.take (i + 1)) 0 : Nat) : Int) = (x : Int) * 10 + ((s[i].toNat : Int) - 48)) := Lib.hid (by omega)
                clear hg e1 e4
                go_wp2_with fail
                go_roundw
                case rel => exact ⟨i + 1, by omega, by go_num, by show Value.int _ _ = Value.int _ _; rw [HY.out], by first | rfl | trivial⟩
                case measure => simp [intOf]; omega
              · have iI : ¬ (i : Int) < (s.size : Int) := by omega
                obtain rfl : i = n := by omega
                have HE : Hid (numV (L.take i) 0 = V) := by show numV (L.take i) 0 = V; rw [List.take_of_length_le (by rw [HN.out]; exact Nat.le_refl _)]; exact HV.out
                generalize numV (L.take i) 0 = x at *
                go_wp2_with fail
                go_ret2
                exact ⟨⟨_, _, rfl, Lib.hid (by rw [HRR.out, HE.out]; exact ⟨rfl, rfl⟩)⟩, rfl⟩
end Go.Proofs.YtncllcfdmiaopaaGreatDoor
