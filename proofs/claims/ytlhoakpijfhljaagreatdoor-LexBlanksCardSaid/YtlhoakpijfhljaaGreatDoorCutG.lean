/-
  CONTRACT of package lex's first.
  CONDITIONS: each theorem's own hypotheses; package lex's signs, unicode/utf8's tables, strconv's ErrRange and bytealg's MaxLen hold what they hold ('SW', 'Tabs', 'ER', 'MaxL').
-/
import Derived.Test.YtlhoakpijfhljaaGreatDoorCutF
namespace Go.Proofs.YtlhoakpijfhljaaGreatDoor
open Go.RowKit
set_option linter.unusedVariables false
set_option maxRecDepth 100000

theorem unQ_len : ∀ (m : Nat) (l : List UInt8), l.length ≤ m → (unQ l).length ≤ l.length
  | 0, l, h => by
    obtain rfl : l = [] := List.eq_nil_of_length_eq_zero (by omega)
    rw [unQ_nil]; simp
  | m + 1, l, h => by
    cases l with
    | nil => rw [unQ_nil]; simp
    | cons c r =>
      simp only [List.length_cons] at h ⊢
      by_cases hh : c = 39 ∧ r.head? = some 39
      · obtain ⟨rfl, h2⟩ := hh
        have hr := head_split h2
        have e : unQ (39 :: r) = 39 :: unQ (r.drop 1) := by rw [hr, unQ_pair]; simp
        have := unQ_len m (r.drop 1) (by rw [List.length_drop]; omega)
        rw [e, List.length_cons]
        rw [List.length_drop] at this
        omega
      · rw [unQ_other c r hh]
        have := unQ_len m r (by omega)
        simp; omega
theorem hexF_lt : ∀ (k : Nat) (l : List UInt8) (a b : Nat), hexF k l a = .ok b → b < (a + 1) * 16 ^ k
  | 0, l, a, b, h => by
    simp only [hexF] at h
    cases h; simp
  | k + 1, [], a, b, h => by cases h
  | k + 1, c :: r, a, b, h => by
    simp only [hexF] at h
    split at h
    · cases h
    · have hr := hexI_range c
      have := hexF_lt k r _ b h
      have h2 : (a * 16 + (Lib.indexByte hexL16 c).toNat + 1) * 16 ^ k ≤ ((a + 1) * 16) * 16 ^ k := Nat.mul_le_mul_right _ (by omega)
      rw [Nat.pow_succ, Nat.mul_comm (16 ^ k) 16, ← Nat.mul_assoc]
      omega
theorem prefix_len {l s : List UInt8} (h : Lib.hasPrefix l s = true) : s.length ≤ l.length := by
  rw [← Lib.hasPrefix_of_take] at h
  simp only [Bool.and_eq_true, decide_eq_true_eq] at h
  exact h.1
theorem signR_len (l : List UInt8) : (signR l).length ≤ l.length := by
  by_cases h : signR l = []
  · rw [h]; simp
  · exact prefix_len (signR_mem l h)
/-- What a token that was read is like. -/
theorem read_fits (l : List UInt8) (t : Tok) (n : Nat) (h : readR l = .ok t n) : 0 ≤ t.b ∧ t.b ≤ 18446744073709551615 ∧ t.s.length ≤ l.length := by
  cases l with
  | nil => cases h
  | cons c r =>
    simp only [readR] at h
    split at h
    · cases h; exact ⟨by simp, by simp, takeWhile_le _ _⟩
    split at h
    · cases h; exact ⟨by simp, by simp, takeWhile_le _ _⟩
    split at h
    · unfold numR at h
      split at h
      · cases h
      · split at h
        · cases h
        · cases h; exact ⟨by simp, by simp, by simp⟩
    split at h
    · unfold quoteP at h
      cases he : endQ ((c :: r).drop 1) 1 with
      | none => rw [he] at h; cases h
      | some p =>
        rw [he] at h
        cases h
        have := unQ_len _ (((c :: r).drop 1).take (p - 1)) (Nat.le_refl _)
        simp only [List.length_take, List.length_drop] at this
        exact ⟨by simp, by simp, by simp only; omega⟩
    split at h
    · unfold realP at h
      cases he : hexF 16 ((c :: r).drop 1) 0 with
      | err e => rw [he] at h; cases h
      | ok b =>
        rw [he] at h
        cases h
        have := hexF_lt _ _ _ _ he
        have e5 : (0 + 1) * 16 ^ 16 = 18446744073709551616 := by decide
        exact ⟨by simp only; omega, by simp only; omega, by simp⟩
    · cases h; exact ⟨by simp, by simp, signR_len _⟩
theorem tokC_name (l : List UInt8) (h : nameB l = true) : tokC 1 l 0 0 = if 8 < l.length then 1 else 0 := by
  have h1 : tooL 1 l = decide (8 < l.length) := by unfold tooL; rw [if_pos (by decide)]
  have h2 : ownT 1 l 0 0 = true := by unfold ownT; rfl
  have h3 : goodT 1 l 0 0 = true := by unfold goodT; rw [if_pos rfl]; exact h
  unfold tokC
  rw [if_neg (by decide), h1, h2, h3]
  by_cases h8 : 8 < l.length <;> simp [h8]
theorem tokC_word (l : List UInt8) (h : wordB l = true) : tokC 2 l 0 0 = if 8 < l.length then 1 else 0 := by
  have h1 : tooL 2 l = decide (8 < l.length) := by unfold tooL; rw [if_pos (by decide)]
  have h2 : ownT 2 l 0 0 = true := by unfold ownT; rfl
  have h3 : goodT 2 l 0 0 = true := by unfold goodT; rw [if_neg (by decide), if_pos rfl]; exact h
  unfold tokC
  rw [if_neg (by decide), h1, h2, h3]
  by_cases h8 : 8 < l.length <;> simp [h8]
theorem tokC_num (v : Nat) : tokC 3 [] v 0 = 0 := by
  have h1 : tooL 3 [] = false := by decide
  have h2 : ownT 3 [] v 0 = true := by unfold ownT; rfl
  have h3 : goodT 3 [] v 0 = true := by unfold goodT; rw [if_neg (by decide), if_neg (by decide), if_pos rfl]; simp
  unfold tokC
  rw [if_neg (by decide), h1, h2, h3]; rfl
theorem tokC_quote (l : List UInt8) : tokC 4 l 0 0 = if 40 < l.length then 1 else if Lib.validD l = false then 3 else 0 := by
  have h1 : tooL 4 l = decide (40 < l.length) := by unfold tooL; rw [if_neg (by decide), if_pos rfl]
  have h2 : ownT 4 l 0 0 = true := by unfold ownT; rfl
  have h3 : goodT 4 l 0 0 = Lib.validD l := by unfold goodT; rw [if_neg (by decide), if_neg (by decide), if_neg (by decide), if_pos rfl]
  unfold tokC
  rw [if_neg (by decide), h1, h2, h3]
  by_cases h8 : 40 < l.length <;> cases Lib.validD l <;> simp [h8]
theorem tokC_real (b : Int) : tokC 5 [] 0 b = if (nan b || b == 9223372036854775808) = true then 3 else 0 := by
  have h1 : tooL 5 [] = false := by decide
  have h2 : ownT 5 [] 0 b = true := by unfold ownT; rfl
  have h3 : goodT 5 [] 0 b = (!nan b && !(b == 9223372036854775808)) := by unfold goodT; rw [if_neg (by decide), if_neg (by decide), if_neg (by decide), if_neg (by decide), if_pos rfl]
  unfold tokC
  rw [if_neg (by decide), h1, h2, h3]
  cases nan b <;> cases (b == 9223372036854775808) <;> rfl
theorem tokC_sign (l : List UInt8) : tokC 6 l 0 0 = if signB l = true then 0 else 3 := by
  have h1 : tooL 6 l = false := by unfold tooL; rw [if_neg (by decide), if_neg (by decide)]
  have h2 : ownT 6 l 0 0 = true := by unfold ownT; rfl
  have h3 : goodT 6 l 0 0 = signB l := by unfold goodT; rw [if_neg (by decide), if_neg (by decide), if_neg (by decide), if_neg (by decide), if_neg (by decide)]
  unfold tokC
  rw [if_neg (by decide), h1, h2, h3]
  cases signB l <;> rfl
/-- Reading and checking is what a token at the beginning is. -/
theorem first_eq (l : List UInt8) (hl : l ≠ []) : firstR l = match readR l with
    | .err e => .err e
    | .ok t n => if tokC t.k t.s t.i t.b = 0 then .ok t n else .err (tokC t.k t.s t.i t.b) := by
  cases l with
  | nil => exact absurd rfl hl
  | cons c r =>
    simp only [firstR, readR]
    by_cases h1 : isSm c = true
    · rw [if_pos h1, if_pos h1]
      have hn : nameB ((c :: r).takeWhile stays) = true := by
        have ha := takeWhile_allP stays (c :: r)
        rw [List.takeWhile_cons_of_pos (stays_sm h1)] at ha ⊢
        simp only [nameB, h1, Bool.true_and]; exact ha
      simp only [tokC_name _ hn, wholeR]
      by_cases h8 : 8 < ((c :: r).takeWhile stays).length <;> simp [h8]
    rw [if_neg h1, if_neg h1]
    by_cases h2 : isGr c = true
    · rw [if_pos h2, if_pos h2]
      have hn : wordB ((c :: r).takeWhile isGr) = true := by
        have ha := takeWhile_allP isGr (c :: r)
        rw [List.takeWhile_cons_of_pos h2] at ha ⊢
        unfold wordB; rw [ha]; rfl
      simp only [tokC_word _ hn, wholeR]
      by_cases h8 : 8 < ((c :: r).takeWhile isGr).length <;> simp [h8]
    rw [if_neg h2, if_neg h2]
    by_cases h3 : isDi c = true
    · rw [if_pos h3, if_pos h3]
      unfold numR
      split
      · rfl
      · split
        · rfl
        · simp only [tokC_num]; rfl
    rw [if_neg h3, if_neg h3]
    by_cases h4 : c = 39
    · rw [if_pos h4, if_pos h4]
      unfold quoteR quoteP
      rw [scan_end _ _ _ _ (Nat.le_refl _)]
      cases endQ ((c :: r).drop 1) 1 with
      | none => rfl
      | some p =>
        simp only [Option.map_some, List.nil_append, tokC_quote]
        generalize unQ (((c :: r).drop 1).take (p - 1)) = U
        by_cases h8 : 40 < U.length
        · simp [h8]
        · cases Lib.validD U <;> simp [h8]
    rw [if_neg h4, if_neg h4]
    by_cases h5 : c = 35
    · rw [if_pos h5, if_pos h5]
      unfold realR realP
      cases hexF 16 ((c :: r).drop 1) 0 with
      | err e => rfl
      | ok b =>
        simp only [tokC_real]
        by_cases h8 : (nan (b : Int) || (b : Int) == 9223372036854775808) = true
        · rw [if_pos h8, if_pos h8]; rfl
        · rw [if_neg h8, if_neg h8]; rfl
    rw [if_neg h5, if_neg h5]
    unfold signT
    by_cases h6 : signR (c :: r) = []
    · rw [if_pos h6, h6]; rfl
    · rw [if_neg h6]
      have hs : signB (signR (c :: r)) = true := by
        unfold signR at h6 ⊢
        cases hf : signsL.find? (fun s => Lib.hasPrefix (c :: r) s) with
        | none => rw [hf] at h6; exact absurd rfl h6
        | some s =>
          have := List.mem_of_find?_eq_some hf
          unfold signB
          exact List.contains_iff_mem.2 this
      simp only [tokC_sign, hs, if_true]
theorem clone_any (l : List UInt8) (w : World) (hl : l.length ≤ 1000000) :
    Calls Tryz.prog 35 #[.string (str l)] w fun e w' => e = .returned (.string (str l)) ∧ Below w.heap.size w w' := by
  have hsz := str_size l
  have cC := fun W => Any.stringslite_Clone Tryz.laysClone (str l) W (by omega)
  generalize str l = s at *
  clear hsz
  go_enter Tryz.func35, Tryz.ntmps35
  go_wp2_with fail
  refine (cC _).mono ?_
  rintro e w1 ⟨rfl, hb⟩
  clear cC
  go_wp2_with fail
  go_ret
  exact ⟨rfl, hb⟩
set_option maxHeartbeats 4000000 in
theorem first_any (c : UInt8) (r : List UInt8) (w : World) (hl : (c :: r).length ≤ 1000000) (hE : ER w) (hM : MaxL w) (hS : SW w) (hT : Tabs w) :
    Calls Tryz.prog 22 #[.string (str (c :: r))] w (ReadPost (firstR (c :: r)) w) := by
  have cR := fun W h1 h2 h3 => read_any c r W hl h1 h2 h3
  have hF := first_eq (c :: r) (by simp)
  have hfit := read_fits (c :: r)
  generalize firstR (c :: r) = R at *
  generalize readR (c :: r) = Q at *
  generalize str (c :: r) = s at *
  unfold ReadPost at *
  obtain ⟨w2, hw2⟩ : ∃ w2, w.alloc (.cells #[.int .i64 0, .string ⟨#[]⟩, .int .i64 0, .int .u64 0] 32) = w2 := ⟨_, rfl⟩
  have hb2 : Below w.heap.size w w2 := by rw [← hw2]; exact (Below.refl _ _).alloc (Nat.le_refl _) _
  have z2 : Blk w2 w.heap.size 32 [.int .i64 0, .string ⟨#[]⟩, .int .i64 0, .int .u64 0] := by rw [← hw2]; exact Blk.new w #[.int .i64 0, .string ⟨#[]⟩, .int .i64 0, .int .u64 0] _
  have hbT : ∀ W, Below w.heap.size w W → Tabs W ∧ SW W := fun W hW => ⟨tabs_below hT hW, hS.keep hW (Nat.le_refl _)⟩
  have cR2 := cR w2 (hE.keep hb2) (hM.keep hb2) (hS.keep hb2 (Nat.le_refl _))
  have HT := Lib.hid hbT
  have HF := Lib.hid hF
  have HB2 := Lib.hid hb2
  have HZ2 := Lib.hid z2
  clear cR hbT hF hb2 z2 hE hM hS hT
  go_enter Tryz.func22, Tryz.ntmps22
  go_upto_region 1 with fail
  try rw [hw2]
  clear hw2
  go_wp2_with fail
  refine cR2.mono ?_
  rintro e w3 ⟨k, ss, i, b, n, cc, rfl, hok, hb3⟩
  clear cR2
  have hb03 := below_stepL HB2.out HB2.out.size hb3
  obtain ⟨w4, hw4⟩ : ∃ w4, w3.alloc (.cells #[.int .i64 k, .string ss, .int .i64 i, .int .u64 b] 32) = w4 := ⟨_, rfl⟩
  have zT : Blk w4 w3.heap.size 32 [.int .i64 k, .string ss, .int .i64 i, .int .u64 b] := by rw [← hw4]; exact Blk.new w3 #[.int .i64 k, .string ss, .int .i64 i, .int .u64 b] _
  have hb34 : Below w3.heap.size w3 w4 := by rw [← hw4]; exact (Below.refl _ _).alloc (Nat.le_refl _) _
  have zR := (HZ2.out.call hb3).call hb34
  have hb04 := below_stepL hb03 hb03.size hb34
  have hgne : w.heap.size ≠ w3.heap.size := by have := HZ2.out.lt; have := hb3.size; omega
  have hgge : w.heap.size ≤ w3.heap.size := hb03.size
  go_upto_region 2 with fail
  try rw [hw4]
  clear hw4 hb34 hb3 hb03
  generalize w3.heap.size = g at *
  cases Q with
  | err x =>
    obtain ⟨rfl, hx⟩ := hok.out
    have hx0 : (cc == 0) = false := by simpa using hx
    have hx1 : (cc != 0) = true := by simpa using hx
    have HRR : Hid (R = .err cc) := HF.out
    have HX := Lib.hid hx
    clear hx
    have c0 := zR.cell (j := 0) rfl
    have c1 := zR.cell (j := 1) rfl
    have c2 := zR.cell (j := 2) rfl
    have c3 := zR.cell (j := 3) rfl
    have y0 := zR.free 0
    have y1 := zR.free 1
    have y2 := zR.free 2
    have y3 := zR.free 3
    have hEE := Lib.hid (below_set4 (a := .int .i64 0) (b := .string ⟨#[]⟩) (c := .int .i64 0) (d := .int .u64 0) hb04 (Nat.le_refl _))
    clear hok HF hb04
    go_wp2_with fail
    refine bodyPost_ret (results_tok rfl _ _ w.heap.size _ _ _ _ rfl zR.set4) rfl ⟨_, _, _, _, _, _, rfl, ?_, hEE.out⟩
    rw [HRR.out]; exact Lib.hid ⟨rfl, HX.out⟩
  | ok t m =>
    obtain ⟨rfl, rfl, rfl, rfl, rfl, rfl⟩ := hok.out
    obtain ⟨f1, f2, f3⟩ := hfit t m rfl
    have cC := fun W (hW : Below w.heap.size w W) => lexCheck_any t.k t.i t.b t.s W f1 f2 (by omega) (HT.out W hW).1 (HT.out W hW).2
    have cL := fun W => clone_any t.s W (by omega)
    have hFF : R = if tokC t.k t.s t.i t.b = 0 then .ok t m else .err (tokC t.k t.s t.i t.b) := HF.out
    obtain ⟨C, hC⟩ : ∃ C, tokC t.k t.s t.i t.b = C := ⟨_, rfl⟩
    rw [hC] at hFF
    simp only [hC] at cC
    have HFF := Lib.hid hFF
    have cc4 := cC w4 hb04
    have p0 := zT.cell (j := 0) rfl
    have p1 := zT.cell (j := 1) rfl
    have p2 := zT.cell (j := 2) rfl
    have p3 := zT.cell (j := 3) rfl
    obtain ⟨tk, ts, ti, tb⟩ := t
    simp only at cc4 cL p0 p1 p2 p3 zT
    obtain ⟨S, hS⟩ : ∃ S, str ts = S := ⟨_, rfl⟩
    rw [hS] at cc4 cL p1 zT
    have HS := Lib.hid hS
    clear hok HF hFF hC cC hS f1 f2 f3 hfit HT
    by_cases h0 : C = 0
    · subst h0
      have HRR : Hid (R = .ok ⟨tk, ts, ti, tb⟩ m) := by show _ = _; rw [HFF.out, if_pos rfl]
      clear HFF
      go_wp2_with fail
      refine cc4.mono ?_
      rintro e w5 ⟨rfl, hb5⟩
      have zT5 := zT.call hb5
      have zR5 := zR.call hb5
      have hb05 := below_stepL hb04 hb04.size hb5
      clear cc4 p0 p1 p2 p3 zT zR hb04 hb5
      have p1 := zT5.cell (j := 1) rfl
      go_wp2_with fail
      refine (cL _).mono ?_
      rintro e w6 ⟨rfl, hb6⟩
      have zT6 := zT5.call hb6
      have zR6 := zR5.call hb6
      have hb06 := below_stepL hb05 hb05.size hb6
      clear cL p1 zT5 zR5 hb05 hb6
      have zT7 := zT6.set 1 (.string S)
      have zR7 := zR6.other ⟨g, 1, none⟩ (.string S) hgne
      have hb07 := hb06.setCell (p := ⟨g, 1, none⟩) hgge (.string S)
      have p1 := zT6.cell (j := 1) rfl
      have f1 := zT6.free 1
      obtain ⟨w7, hw7⟩ : ∃ w7, w6.setCell ⟨g, 1, none⟩ (.string S) = w7 := ⟨_, rfl⟩
      rw [hw7] at zT7 zR7 hb07
      go_upto_region 7 with fail
      try rw [hw7]
      clear hw7 p1 f1 zT6 zR6 hb06
      have p0 := zT7.cell (j := 0) rfl
      have p1 := zT7.cell (j := 1) rfl
      have p2 := zT7.cell (j := 2) rfl
      have p3 := zT7.cell (j := 3) rfl
      have c0 := zR7.cell (j := 0) rfl
      have c1 := zR7.cell (j := 1) rfl
      have c2 := zR7.cell (j := 2) rfl
      have c3 := zR7.cell (j := 3) rfl
      have y0 := zR7.free 0
      have y1 := zR7.free 1
      have y2 := zR7.free 2
      have y3 := zR7.free 3
      have hEE := Lib.hid (below_set4 (a := .int .i64 tk) (b := .string S) (c := .int .i64 ti) (d := .int .u64 tb) hb07 (Nat.le_refl _))
      go_wp2_with fail
      refine bodyPost_ret (results_tok rfl _ _ w.heap.size _ _ _ _ rfl zR7.set4) rfl ⟨_, _, _, _, _, _, rfl, ?_, hEE.out⟩
      rw [HRR.out]; exact Lib.hid ⟨rfl, HS.out.symm, rfl, rfl, rfl, rfl⟩
    · have hx0 : (C == 0) = false := by simpa using h0
      have hx1 : (C != 0) = true := by simpa using h0
      have HRR : Hid (R = .err C) := by show _ = _; rw [HFF.out, if_neg h0]
      have HX := Lib.hid h0
      clear HFF h0
      go_wp2_with fail
      refine cc4.mono ?_
      rintro e w5 ⟨rfl, hb5⟩
      have zR5 := zR.call hb5
      have hb05 := below_stepL hb04 hb04.size hb5
      clear cc4 cL p0 p1 p2 p3 zT zR hb04 hb5
      have c0 := zR5.cell (j := 0) rfl
      have c1 := zR5.cell (j := 1) rfl
      have c2 := zR5.cell (j := 2) rfl
      have c3 := zR5.cell (j := 3) rfl
      have y0 := zR5.free 0
      have y1 := zR5.free 1
      have y2 := zR5.free 2
      have y3 := zR5.free 3
      have hEE := Lib.hid (below_set4 (a := .int .i64 0) (b := .string ⟨#[]⟩) (c := .int .i64 0) (d := .int .u64 0) hb05 (Nat.le_refl _))
      go_wp2_with fail
      refine bodyPost_ret (results_tok rfl _ _ w.heap.size _ _ _ _ rfl zR5.set4) rfl ⟨_, _, _, _, _, _, rfl, ?_, hEE.out⟩
      rw [HRR.out]; exact Lib.hid ⟨rfl, HX.out⟩
end Go.Proofs.YtlhoakpijfhljaaGreatDoor
