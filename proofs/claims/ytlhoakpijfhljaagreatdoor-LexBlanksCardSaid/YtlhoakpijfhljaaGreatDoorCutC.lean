/-
  CONTRACTS of package lex's whole, readNumber, readReal.
  CONDITIONS: each theorem's own hypotheses.
-/
import Derived.Test.YtlhoakpijfhljaaGreatDoorBlk
import Derived.Test.YtlhoakpijfhljaaGreatDoorCutQ
import Derived.Test.YtlhoakpijfhljaaGreatDoorShelfA
import Derived.Test.YtlhoakpijfhljaaGreatDoorShelfI
import Derived.Shelf.Strconv.AtoiAll
import Derived.Shelf.Small.Strs
import Derived.Lib.AtoiAllCases
namespace Go.Proofs.YtlhoakpijfhljaaGreatDoor
open Go.RowKit
set_option linter.unusedVariables false
set_option maxRecDepth 100000

/-- What reading leaves. -/
def ReadOk (R : TR) (k : Int) (s : ByteArray) (i b n c : Int) : Prop := match R with
  | .err e => c = e ∧ e ≠ 0
  | .ok t m => k = t.k ∧ s = str t.s ∧ i = t.i ∧ b = t.b ∧ n = m ∧ c = 0
def ReadPost (R : TR) (w : World) (e : Ending) (w' : World) : Prop := ∃ k s i b n c, e = .returned (.tuple #[.agg #[.int .i64 k, .string s, .int .i64 i, .int .u64 b], .int .i64 n, .int .i64 c]) ∧ Hid (ReadOk R k s i b n c) ∧ Below w.heap.size w w'
theorem whole_any (k : Int) (l : List UInt8) (w : World) :
    Calls Tryz.prog 48 #[.int .i64 k, .string (str l)] w fun e w' => e = .returned (.tuple #[.agg #[.int .i64 k, .string (str l), .int .i64 0, .int .u64 0], .int .i64 (l.length : Nat), .int .i64 0]) ∧ Below w.heap.size w w' := by
  have hsz := str_size l
  generalize str l = s at *
  generalize l.length = n at *
  obtain ⟨w2, hw2⟩ : ∃ w2, w.alloc (.cells #[.int .i64 0, .string ⟨#[]⟩, .int .i64 0, .int .u64 0] 32) = w2 := ⟨_, rfl⟩
  have hb2 : Below w.heap.size w w2 := by rw [← hw2]; exact (Below.refl _ _).alloc (Nat.le_refl _) _
  have z2 : Blk w2 w.heap.size 32 [.int .i64 0, .string ⟨#[]⟩, .int .i64 0, .int .u64 0] := by rw [← hw2]; exact Blk.new w #[.int .i64 0, .string ⟨#[]⟩, .int .i64 0, .int .u64 0] _
  have c0 := z2.cell (j := 0) rfl
  have c1 := z2.cell (j := 1) rfl
  have c2 := z2.cell (j := 2) rfl
  have c3 := z2.cell (j := 3) rfl
  have y0 := z2.free 0
  have y1 := z2.free 1
  have y2 := z2.free 2
  have y3 := z2.free 3
  go_enter Tryz.func48, Tryz.ntmps48
  go_upto_region 1 with fail
  try rw [hw2]
  clear hw2
  have hE := Lib.hid (below_set4 (a := .int .i64 k) (b := .string s) (c := .int .i64 0) (d := .int .u64 0) hb2 (Nat.le_refl _))
  have hN : Hid ((s.size : Int) = (n : Int)) := Lib.hid (by omega)
  clear hb2 hsz
  go_wp2_with fail
  refine bodyPost_ret (results_tok rfl _ _ w.heap.size _ _ _ _ rfl z2.set4) rfl ⟨by rw [← hN.out]; rfl, hE.out⟩
/-! ### numbers -/
theorem numV_ge : ∀ (l : List UInt8) (a : Nat), a ≤ numV l a
  | [], a => Nat.le_refl _
  | c :: l, a => by
    have := numV_ge l (a * 10 + (c.toNat - 48))
    simp only [numV]; omega
theorem parse_digits : ∀ (l : List UInt8) (a : Nat), l.all isDi = true → a < 18446744073709551616 → Lib.parseUint10 a l = if 18446744073709551616 ≤ numV l a then .range else .ok (numV l a)
  | [], a, _, ha => by
    show Lib.NumEnd.ok a = if 18446744073709551616 ≤ a then _ else Lib.NumEnd.ok a
    rw [if_neg (by omega)]
  | c :: l, a, h, ha => by
    simp only [List.all_cons, Bool.and_eq_true] at h
    have hc := h.1
    unfold isDi at hc
    simp only [Bool.and_eq_true, decide_eq_true_eq] at hc
    have e : numV (c :: l) a = numV l (a * 10 + (c.toNat - 48)) := rfl
    rw [e]
    simp only [Lib.parseUint10]
    rw [if_pos hc]
    have hge := numV_ge l (a * 10 + (c.toNat - 48))
    by_cases h1 : 1844674407370955162 ≤ a
    · rw [if_pos h1, if_pos (by omega)]
    · rw [if_neg h1]
      by_cases h2 : 18446744073709551616 ≤ a * 10 + (c.toNat - 48)
      · rw [if_pos h2, if_pos (by omega)]
      · rw [if_neg h2, parse_digits l _ h.2 (by omega)]
theorem atoi_digits (c : UInt8) (r : List UInt8) (h : (c :: r).all isDi = true) : Lib.atoiAll (c :: r) = if 9223372036854775807 < numV (c :: r) 0 then .range else .ok ((numV (c :: r) 0 : Nat) : Int) := by
  have hc : isDi c = true := by simp only [List.all_cons, Bool.and_eq_true] at h; exact h.1
  unfold isDi at hc
  simp only [Bool.and_eq_true, decide_eq_true_eq] at hc
  rw [Lib.atoiAll_plain c r (by omega) (by omega)]
  unfold Lib.parseMag
  rw [if_neg (by simp), parse_digits _ 0 h (by decide)]
  generalize numV (c :: r) 0 = v
  by_cases h1 : 18446744073709551616 ≤ v
  · rw [if_pos h1, if_pos (by omega)]; rfl
  · rw [if_neg h1]
    simp only [Lib.signless]
    by_cases h2 : 9223372036854775808 ≤ v
    · rw [if_pos h2, if_pos (by omega)]
    · rw [if_neg h2, if_neg (by omega)]
/-- strconv's ErrRange holds an error. -/
def ER (w : World) : Prop := ∃ tp p, w.cell? ⟨Tryz.laysAtoi_ren.g 16, 0, none⟩ = some (.iface tp p)
theorem ER.keep {w w1 : World} (h : ER w) (hb : Below w.heap.size w w1) : ER w1 := by
  obtain ⟨tp, p, hm⟩ := h
  exact ⟨tp, p, (hb.cell (p := ⟨Tryz.laysAtoi_ren.g 16, 0, none⟩) (World.block_lt_of_cell? _ _ hm)).trans hm⟩
def AtoiPost (v : Nat) (w : World) (e : Ending) (w' : World) : Prop := ∃ i x, e = .returned (.tuple #[.int .i64 i, x]) ∧ (if 9223372036854775807 < v then (∃ t p, x = .iface t p) else x = .nilIface ∧ i = (v : Int)) ∧ Below w.heap.size w w'
theorem atoi_any (c : UInt8) (r : List UInt8) (w : World) (h : (c :: r).all isDi = true) (hl : (c :: r).length ≤ 1000000) (hE : ER w) :
    Calls Tryz.prog 61 #[.string (str (c :: r))] w (AtoiPost (numV (c :: r) 0) w) := by
  have ha := atoi_digits c r h
  have hsz := str_size (c :: r)
  unfold AtoiPost
  by_cases h1 : 9223372036854775807 < numV (c :: r) 0
  · rw [if_pos h1] at ha
    simp only [if_pos h1]
    obtain ⟨tp, p, hm⟩ := hE
    refine (Any.strconv_Atoi_range Tryz.laysAtoi (str (c :: r)) (by omega) (by rw [str_data]; exact ha) (.iface tp p) w hm (.inr ⟨_, _, rfl⟩)).mono ?_
    rintro e w' ⟨N, rfl, h2, h3, h4⟩
    exact ⟨_, _, rfl, ⟨_, _, rfl⟩, h4⟩
  · rw [if_neg h1] at ha
    simp only [if_neg h1]
    refine (Any.strconv_Atoi_ok Tryz.laysAtoi (str (c :: r)) (by omega) _ (by rw [str_data]; exact ha) w).mono ?_
    rintro e w' ⟨rfl, h2⟩
    refine ⟨_, _, rfl, ⟨rfl, rfl⟩, ?_⟩
    rcases h2 with rfl | ⟨t, rfl⟩
    · exact Below.refl _ _
    · exact Lib.bytesWorld_below _ _ _
theorem takeWhile_allP (p : UInt8 → Bool) (l : List UInt8) : (l.takeWhile p).all p = true := by
  rw [List.all_eq_true]
  induction l with
  | nil => intro x h; cases h
  | cons c l ih =>
    intro x hx
    cases hc : p c with
    | true =>
      rw [List.takeWhile_cons_of_pos hc] at hx
      rcases List.mem_cons.1 hx with rfl | hx
      · exact hc
      · exact ih x hx
    | false => rw [List.takeWhile_cons_of_neg (by simp [hc])] at hx; cases hx
set_option maxHeartbeats 4000000 in
theorem readNumber_any (c : UInt8) (r : List UInt8) (w : World) (hc : isDi c = true) (hl : (c :: r).length ≤ 1000000) (hE : ER w) :
    Calls Tryz.prog 50 #[.string (str (c :: r))] w (ReadPost (numR ((c :: r).takeWhile isDi)) w) := by
  have cR := fun W => run_isDigit (c :: r) W (by omega)
  have hA := takeWhile_allP isDi (c :: r)
  have hlen := takeWhile_le isDi (c :: r)
  rw [List.takeWhile_cons_of_pos hc] at *
  generalize r.takeWhile isDi = d at *
  have cA := fun W hW => atoi_any c d W hA (by omega) hW
  have hsz := str_size (c :: d)
  have hg : ∀ h : 0 < (str (c :: d)).size, (str (c :: d))[0] = c := fun h => rfl
  unfold ReadPost
  generalize str (c :: r) = s at *
  obtain ⟨D, hD⟩ : ∃ D, str (c :: d) = D := ⟨_, rfl⟩
  rw [hD] at hsz hg cR cA
  have h0 : 0 < D.size := by rw [hsz]; simp
  have hg0 := hg h0
  have h0I : (0 : Int) < (D.size : Int) := by omega
  have hR0 : numR (c :: d) = if c = 48 ∧ 1 < D.size then .err 3 else if 9223372036854775807 < numV (c :: d) 0 then .err 6 else .ok ⟨3, [], numV (c :: d) 0, 0⟩ D.size := by
    unfold numR; rw [hsz]; simp
  obtain ⟨R, hR⟩ : ∃ R, numR (c :: d) = R := ⟨_, rfl⟩
  rw [hR] at hR0 ⊢
  have HR := Lib.hid hR0
  generalize numV (c :: d) 0 = v at *
  have hszI : (D.size : Int) ≤ 1000000 := by omega
  obtain ⟨w2, hw2⟩ : ∃ w2, w.alloc (.cells #[.int .i64 0, .string ⟨#[]⟩, .int .i64 0, .int .u64 0] 32) = w2 := ⟨_, rfl⟩
  have hb2 : Below w.heap.size w w2 := by rw [← hw2]; exact (Below.refl _ _).alloc (Nat.le_refl _) _
  have z2 : Blk w2 w.heap.size 32 [.int .i64 0, .string ⟨#[]⟩, .int .i64 0, .int .u64 0] := by rw [← hw2]; exact Blk.new w #[.int .i64 0, .string ⟨#[]⟩, .int .i64 0, .int .u64 0] _
  have c0 := z2.cell (j := 0) rfl
  have c1 := z2.cell (j := 1) rfl
  have c2 := z2.cell (j := 2) rfl
  have c3 := z2.cell (j := 3) rfl
  have y0 := z2.free 0
  have y1 := z2.free 1
  have y2 := z2.free 2
  have y3 := z2.free 3
  have hER2 := hE.keep hb2
  clear hc hl hE hA hlen hsz hg hD hR hR0
  by_cases h48 : c = 48
  · have q1 : ((D[0].toNat : Int) == 48) = true := by rw [hg0, h48]; rfl
    by_cases h1 : 1 < D.size
    · have i1 : (1 : Int) < (D.size : Int) := by omega
      have HRR : Hid (R = .err 3) := by show _ = _; rw [HR.out, if_pos ⟨h48, h1⟩]
      clear cA hER2 hg0 HR h48 h1
      go_enter Tryz.func50, Tryz.ntmps50
      go_upto_region 1 with fail
      try rw [hw2]
      clear hw2
      go_wp2_with fail
      refine (cR _).mono ?_
      rintro e w3 ⟨rfl, rfl⟩
      clear cR
      have hE := Lib.hid (below_set4 (a := .int .i64 0) (b := .string ⟨#[]⟩) (c := .int .i64 0) (d := .int .u64 0) hb2 (Nat.le_refl _))
      go_wp2_with fail
      refine bodyPost_ret (results_tok rfl _ _ w.heap.size _ _ _ _ rfl z2.set4) rfl ⟨_, _, _, _, _, _, rfl, ?_, hE.out⟩
      rw [HRR.out]; exact Lib.hid ⟨rfl, by decide⟩
    · have i1 : ¬ (1 : Int) < (D.size : Int) := by omega
      have HRR : Hid (R = if 9223372036854775807 < v then .err 6 else .ok ⟨3, [], v, 0⟩ D.size) := by show _ = _; rw [HR.out, if_neg (fun h => h1 h.2)]
      clear hg0 HR h48 h1
      go_enter Tryz.func50, Tryz.ntmps50
      go_upto_region 1 with fail
      try rw [hw2]
      clear hw2
      go_wp2_with fail
      refine (cR _).mono ?_
      rintro e w3 ⟨rfl, rfl⟩
      clear cR c0 c1 c2 c3 y0 y1 y2 y3
      go_wp2_with fail
      refine (cA _ hER2).mono ?_
      rintro e w4 ⟨i, x, rfl, hx, hb4⟩
      have hb04 := below_stepL hb2 hb2.size hb4
      have z4 := z2.call hb4
      have c0 := z4.cell (j := 0) rfl
      have c1 := z4.cell (j := 1) rfl
      have c2 := z4.cell (j := 2) rfl
      have c3 := z4.cell (j := 3) rfl
      have y0 := z4.free 0
      have y1 := z4.free 1
      have y2 := z4.free 2
      have y3 := z4.free 3
      clear cA hER2 hb2 hb4 z2
      by_cases hv : 9223372036854775807 < v
      · rw [if_pos hv] at hx
        obtain ⟨tp, p, rfl⟩ := hx
        have HR2 : Hid (R = .err 6) := by show _ = _; rw [HRR.out, if_pos hv]
        have hE := Lib.hid (below_set4 (a := .int .i64 0) (b := .string ⟨#[]⟩) (c := .int .i64 0) (d := .int .u64 0) hb04 (Nat.le_refl _))
        clear HRR hv hb04
        go_wp2_with fail
        refine bodyPost_ret (results_tok rfl _ _ w.heap.size _ _ _ _ rfl z4.set4) rfl ⟨_, _, _, _, _, _, rfl, ?_, hE.out⟩
        rw [HR2.out]; exact Lib.hid ⟨rfl, by decide⟩
      · rw [if_neg hv] at hx
        obtain ⟨rfl, rfl⟩ := hx
        have HR2 : Hid (R = .ok ⟨3, [], v, 0⟩ D.size) := by show _ = _; rw [HRR.out, if_neg hv]
        have hE := Lib.hid (below_set4 (a := .int .i64 3) (b := .string ⟨#[]⟩) (c := .int .i64 v) (d := .int .u64 0) hb04 (Nat.le_refl _))
        clear HRR hv hb04
        go_wp2_with fail
        refine bodyPost_ret (results_tok rfl _ _ w.heap.size _ _ _ _ rfl z4.set4) rfl ⟨_, _, _, _, _, _, rfl, ?_, hE.out⟩
        rw [HR2.out]; exact Lib.hid ⟨rfl, rfl, rfl, rfl, rfl, rfl⟩
  · have q1 : ((D[0].toNat : Int) == 48) = false := by
      simp only [beq_eq_false_iff_ne, ne_eq]
      intro e
      rw [hg0] at e
      exact h48 (UInt8.toNat_inj.1 (by simpa using (by omega : c.toNat = 48)))
    have HRR : Hid (R = if 9223372036854775807 < v then .err 6 else .ok ⟨3, [], v, 0⟩ D.size) := by show _ = _; rw [HR.out, if_neg (fun h => h48 h.1)]
    clear hg0 HR h48
    go_enter Tryz.func50, Tryz.ntmps50
    go_upto_region 1 with fail
    try rw [hw2]
    clear hw2
    go_wp2_with fail
    refine (cR _).mono ?_
    rintro e w3 ⟨rfl, rfl⟩
    clear cR c0 c1 c2 c3 y0 y1 y2 y3
    go_wp2_with fail
    refine (cA _ hER2).mono ?_
    rintro e w4 ⟨i, x, rfl, hx, hb4⟩
    have hb04 := below_stepL hb2 hb2.size hb4
    have z4 := z2.call hb4
    have c0 := z4.cell (j := 0) rfl
    have c1 := z4.cell (j := 1) rfl
    have c2 := z4.cell (j := 2) rfl
    have c3 := z4.cell (j := 3) rfl
    have y0 := z4.free 0
    have y1 := z4.free 1
    have y2 := z4.free 2
    have y3 := z4.free 3
    clear cA hER2 hb2 hb4 z2
    by_cases hv : 9223372036854775807 < v
    · rw [if_pos hv] at hx
      obtain ⟨tp, p, rfl⟩ := hx
      have HR2 : Hid (R = .err 6) := by show _ = _; rw [HRR.out, if_pos hv]
      have hE := Lib.hid (below_set4 (a := .int .i64 0) (b := .string ⟨#[]⟩) (c := .int .i64 0) (d := .int .u64 0) hb04 (Nat.le_refl _))
      clear HRR hv hb04
      go_wp2_with fail
      refine bodyPost_ret (results_tok rfl _ _ w.heap.size _ _ _ _ rfl z4.set4) rfl ⟨_, _, _, _, _, _, rfl, ?_, hE.out⟩
      rw [HR2.out]; exact Lib.hid ⟨rfl, by decide⟩
    · rw [if_neg hv] at hx
      obtain ⟨rfl, rfl⟩ := hx
      have HR2 : Hid (R = .ok ⟨3, [], v, 0⟩ D.size) := by show _ = _; rw [HRR.out, if_neg hv]
      have hE := Lib.hid (below_set4 (a := .int .i64 3) (b := .string ⟨#[]⟩) (c := .int .i64 v) (d := .int .u64 0) hb04 (Nat.le_refl _))
      clear HRR hv hb04
      go_wp2_with fail
      refine bodyPost_ret (results_tok rfl _ _ w.heap.size _ _ _ _ rfl z4.set4) rfl ⟨_, _, _, _, _, _, rfl, ?_, hE.out⟩
      rw [HR2.out]; exact Lib.hid ⟨rfl, rfl, rfl, rfl, rfl, rfl⟩
end Go.Proofs.YtlhoakpijfhljaaGreatDoor
