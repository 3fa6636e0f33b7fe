/-
  CONTRACTS of package lex's read and first.
  CONDITIONS: each theorem's own hypotheses; package lex's signs, unicode/utf8's tables, strconv's ErrRange and bytealg's MaxLen hold what they hold ('SW', 'Tabs', 'ER', 'MaxL').
-/
import Derived.Test.YtlhoakpijfhljaaGreatDoorCutD
import Derived.Test.YtlhoakpijfhljaaGreatDoorCutE
import Derived.Test.YtlhoakpijfhljaaGreatDoorLexC
import Derived.Test.YtlhoakpijfhljaaGreatDoorShelfC
import Derived.Shelf.Strconv.Clone
namespace Go.Proofs.YtlhoakpijfhljaaGreatDoor
open Go.RowKit
set_option linter.unusedVariables false
set_option maxRecDepth 100000

def readR : List UInt8 → TR
  | [] => .err 3
  | c :: r => if isSm c = true then .ok ⟨1, (c :: r).takeWhile stays, 0, 0⟩ ((c :: r).takeWhile stays).length else if isGr c = true then .ok ⟨2, (c :: r).takeWhile isGr, 0, 0⟩ ((c :: r).takeWhile isGr).length
    else if isDi c = true then numR ((c :: r).takeWhile isDi) else if c = 39 then quoteP (c :: r) else if c = 35 then realP (c :: r) else .ok ⟨6, signR (c :: r), 0, 0⟩ (signR (c :: r)).length
theorem wholeP_any (k : Int) (l : List UInt8) (w : World) : Calls Tryz.prog 48 #[.int .i64 k, .string (str l)] w (ReadPost (.ok ⟨k, l, 0, 0⟩ l.length) w) :=
  (whole_any k l w).mono fun e w' ⟨h, hb⟩ => ⟨_, _, _, _, _, _, h, Lib.hid ⟨rfl, rfl, rfl, rfl, rfl, rfl⟩, hb⟩
set_option maxHeartbeats 8000000 in
theorem read_any (c : UInt8) (r : List UInt8) (w : World) (hl : (c :: r).length ≤ 1000000) (hE : ER w) (hM : MaxL w) (hS : SW w) :
    Calls Tryz.prog 34 #[.string (str (c :: r))] w (ReadPost (readR (c :: r)) w) := by
  have a1 := fun W => isSmall_any c W
  have a2 := fun W => isGreat_any c W
  have a3 := fun W => isDigit_any c W
  have r1 := fun W => run_staysInName (c :: r) W (by omega)
  have r2 := fun W => run_isGreat (c :: r) W (by omega)
  have x1 := fun W => wholeP_any 1 ((c :: r).takeWhile stays) W
  have x2 := fun W => wholeP_any 2 ((c :: r).takeWhile isGr) W
  have x3 := fun (h : isDi c = true) W hW => readNumber_any c r W h hl hW
  have x4 := fun (h : c = 39) W hW => readQuote_any (c :: r) W hl (by rw [h]; rfl) hW
  have x5 := fun W => readReal_any (c :: r) W hl (by simp)
  have x6 := fun W => wholeP_any 6 (signR (c :: r)) W
  have r6 := fun W hW => signOf_any (c :: r) W (by omega) hW
  have hsz := str_size (c :: r)
  have hg : ∀ h : 0 < (str (c :: r)).size, (str (c :: r))[0] = c := fun h => rfl
  obtain ⟨R, hR⟩ : ∃ R, readR (c :: r) = R := ⟨_, rfl⟩
  rw [hR]
  simp only [readR] at hR
  have HR := Lib.hid hR
  obtain ⟨s, hs⟩ : ∃ s, str (c :: r) = s := ⟨_, rfl⟩
  rw [hs] at r1 r2 x3 x4 x5 r6 hsz hg ⊢
  have h0 : 0 < s.size := by rw [hsz]; simp
  have hg0 := hg h0
  have h0I : (0 : Int) < (s.size : Int) := by omega
  generalize (c :: r).takeWhile stays = t1 at *
  generalize (c :: r).takeWhile isGr = t2 at *
  generalize (c :: r).takeWhile isDi = t3 at *
  generalize signR (c :: r) = t6 at *
  generalize quoteP (c :: r) = t4 at *
  generalize realP (c :: r) = t5 at *
  unfold ReadPost at *
  obtain ⟨w2, hw2⟩ : ∃ w2, w.alloc (.cells #[.int .i64 0, .string ⟨#[]⟩, .int .i64 0, .int .u64 0] 32) = w2 := ⟨_, rfl⟩
  have hb2 : Below w.heap.size w w2 := by rw [← hw2]; exact (Below.refl _ _).alloc (Nat.le_refl _) _
  have z2 : Blk w2 w.heap.size 32 [.int .i64 0, .string ⟨#[]⟩, .int .i64 0, .int .u64 0] := by rw [← hw2]; exact Blk.new w #[.int .i64 0, .string ⟨#[]⟩, .int .i64 0, .int .u64 0] _
  have c0 := z2.cell (j := 0) rfl
  have c1 := z2.cell (j := 1) rfl
  have c2 := z2.cell (j := 2) rfl
  have c3 := z2.cell (j := 3) rfl
  have y0 := z2.free 0
  have y1 := z2.free 1
  have y2 := z2.free 2
  have y3 := z2.free 3
  have hE2 := hE.keep hb2
  have hM2 := hM.keep hb2
  have hS2 := hS.keep hb2 (Nat.le_refl _)
  have A1 := Lib.hid a1
  have A2 := Lib.hid a2
  have A3 := Lib.hid a3
  have Q1 := Lib.hid r1
  have Q2 := Lib.hid r2
  have Q6 := Lib.hid r6
  have X1 := Lib.hid x1
  have X2 := Lib.hid x2
  have X3 := Lib.hid x3
  have X4 := Lib.hid x4
  have X5 := Lib.hid x5
  have X6 := Lib.hid x6
  have HE2 := Lib.hid hE2
  have HM2 := Lib.hid hM2
  have HS2 := Lib.hid hS2
  have HB2 := Lib.hid hb2
  have HZ2 := Lib.hid z2
  clear hR hs hg hsz hE hM hS hl a1 a2 a3 r1 r2 r6 x1 x2 x3 x4 x5 x6 hE2 hM2 hS2 hb2 z2
  cases h1 : isSm c with
  | true =>
    have b1 := A1.out
    rw [h1] at b1
    have HRR : Hid (.ok ⟨1, t1, 0, 0⟩ t1.length = R) := by show _ = _; rw [← HR.out]; simp [h1]
    clear HR
    go_enter Tryz.func34, Tryz.ntmps34
    go_upto_region 1 with fail
    try rw [hw2]
    clear hw2
    go_wp2_with fail
    refine (b1 _).mono ?_
    rintro e w1 ⟨rfl, rfl⟩
    go_wp2_with fail
    refine (Q1.out _).mono ?_
    rintro e w1 ⟨rfl, rfl⟩
    go_wp2_with fail
    refine (X1.out _).mono ?_
    rintro e w3 ⟨k, ss, i, b, n, cc, rfl, hok, hb3⟩
    have z3 := HZ2.out.call hb3
    clear c0 c1 c2 c3 y0 y1 y2 y3
    have c0 := z3.cell (j := 0) rfl
    have c1 := z3.cell (j := 1) rfl
    have c2 := z3.cell (j := 2) rfl
    have c3 := z3.cell (j := 3) rfl
    have y0 := z3.free 0
    have y1 := z3.free 1
    have y2 := z3.free 2
    have y3 := z3.free 3
    have hbb := below_stepL HB2.out HB2.out.size hb3
    have hF := Lib.hid (below_set4 (a := .int .i64 k) (b := .string ss) (c := .int .i64 i) (d := .int .u64 b) hbb (Nat.le_refl _))
    rw [HRR.out] at hok
    clear hbb hb3
    go_wp2_with fail
    refine bodyPost_ret (results_tok rfl _ _ w.heap.size _ _ _ _ rfl z3.set4) rfl ⟨_, _, _, _, _, _, rfl, hok, hF.out⟩
  | false =>
    have b1 := A1.out
    rw [h1] at b1
    cases h2 : isGr c with
    | true =>
      have b2 := A2.out
      rw [h2] at b2
      have HRR : Hid (.ok ⟨2, t2, 0, 0⟩ t2.length = R) := by show _ = _; rw [← HR.out]; simp [h1, h2]
      clear HR
      go_enter Tryz.func34, Tryz.ntmps34
      go_upto_region 1 with fail
      try rw [hw2]
      clear hw2
      go_wp2_with fail
      refine (b1 _).mono ?_
      rintro e w1 ⟨rfl, rfl⟩
      go_wp2_with fail
      refine (b2 _).mono ?_
      rintro e w1 ⟨rfl, rfl⟩
      go_wp2_with fail
      refine (Q2.out _).mono ?_
      rintro e w1 ⟨rfl, rfl⟩
      go_wp2_with fail
      refine (X2.out _).mono ?_
      rintro e w3 ⟨k, ss, i, b, n, cc, rfl, hok, hb3⟩
      have z3 := HZ2.out.call hb3
      clear c0 c1 c2 c3 y0 y1 y2 y3
      have c0 := z3.cell (j := 0) rfl
      have c1 := z3.cell (j := 1) rfl
      have c2 := z3.cell (j := 2) rfl
      have c3 := z3.cell (j := 3) rfl
      have y0 := z3.free 0
      have y1 := z3.free 1
      have y2 := z3.free 2
      have y3 := z3.free 3
      have hbb := below_stepL HB2.out HB2.out.size hb3
      have hF := Lib.hid (below_set4 (a := .int .i64 k) (b := .string ss) (c := .int .i64 i) (d := .int .u64 b) hbb (Nat.le_refl _))
      rw [HRR.out] at hok
      clear hbb hb3
      go_wp2_with fail
      refine bodyPost_ret (results_tok rfl _ _ w.heap.size _ _ _ _ rfl z3.set4) rfl ⟨_, _, _, _, _, _, rfl, hok, hF.out⟩
    | false =>
      have b2 := A2.out
      rw [h2] at b2
      cases h3 : isDi c with
      | true =>
        have b3 := A3.out
        rw [h3] at b3
        have HRR : Hid (numR t3 = R) := by show _ = _; rw [← HR.out]; simp [h1, h2, h3]
        clear HR
        go_enter Tryz.func34, Tryz.ntmps34
        go_upto_region 1 with fail
        try rw [hw2]
        clear hw2
        go_wp2_with fail
        refine (b1 _).mono ?_
        rintro e w1 ⟨rfl, rfl⟩
        go_wp2_with fail
        refine (b2 _).mono ?_
        rintro e w1 ⟨rfl, rfl⟩
        go_wp2_with fail
        refine (b3 _).mono ?_
        rintro e w1 ⟨rfl, rfl⟩
        go_wp2_with fail
        refine (X3.out h3 _ HE2.out).mono ?_
        rintro e w3 ⟨k, ss, i, b, n, cc, rfl, hok, hb3⟩
        have z3 := HZ2.out.call hb3
        clear c0 c1 c2 c3 y0 y1 y2 y3
        have c0 := z3.cell (j := 0) rfl
        have c1 := z3.cell (j := 1) rfl
        have c2 := z3.cell (j := 2) rfl
        have c3 := z3.cell (j := 3) rfl
        have y0 := z3.free 0
        have y1 := z3.free 1
        have y2 := z3.free 2
        have y3 := z3.free 3
        have hbb := below_stepL HB2.out HB2.out.size hb3
        have hF := Lib.hid (below_set4 (a := .int .i64 k) (b := .string ss) (c := .int .i64 i) (d := .int .u64 b) hbb (Nat.le_refl _))
        rw [HRR.out] at hok
        clear hbb hb3
        go_wp2_with fail
        refine bodyPost_ret (results_tok rfl _ _ w.heap.size _ _ _ _ rfl z3.set4) rfl ⟨_, _, _, _, _, _, rfl, hok, hF.out⟩
      | false =>
        have b3 := A3.out
        rw [h3] at b3
        by_cases h4 : c = 39
        · have H4 := Lib.hid h4
          have q4 : ((c.toNat : Int) == 39) = true := by rw [h4]; rfl
          have HRR : Hid (t4 = R) := by show _ = _; rw [← HR.out]; rw [if_neg (by simp [h1]), if_neg (by simp [h2]), if_neg (by simp [h3]), if_pos h4]
          clear HR h4
          go_enter Tryz.func34, Tryz.ntmps34
          go_upto_region 1 with fail
          try rw [hw2]
          clear hw2
          go_wp2_with fail
          refine (b1 _).mono ?_
          rintro e w1 ⟨rfl, rfl⟩
          go_wp2_with fail
          refine (b2 _).mono ?_
          rintro e w1 ⟨rfl, rfl⟩
          go_wp2_with fail
          refine (b3 _).mono ?_
          rintro e w1 ⟨rfl, rfl⟩
          go_wp2_with fail
          refine (X4.out H4.out _ HM2.out).mono ?_
          rintro e w3 ⟨k, ss, i, b, n, cc, rfl, hok, hb3⟩
          have z3 := HZ2.out.call hb3
          clear c0 c1 c2 c3 y0 y1 y2 y3
          have c0 := z3.cell (j := 0) rfl
          have c1 := z3.cell (j := 1) rfl
          have c2 := z3.cell (j := 2) rfl
          have c3 := z3.cell (j := 3) rfl
          have y0 := z3.free 0
          have y1 := z3.free 1
          have y2 := z3.free 2
          have y3 := z3.free 3
          have hbb := below_stepL HB2.out HB2.out.size hb3
          have hF := Lib.hid (below_set4 (a := .int .i64 k) (b := .string ss) (c := .int .i64 i) (d := .int .u64 b) hbb (Nat.le_refl _))
          rw [HRR.out] at hok
          clear hbb hb3
          go_wp2_with fail
          refine bodyPost_ret (results_tok rfl _ _ w.heap.size _ _ _ _ rfl z3.set4) rfl ⟨_, _, _, _, _, _, rfl, hok, hF.out⟩
        · have q4 : ((c.toNat : Int) == 39) = false := by
            simp only [beq_eq_false_iff_ne, ne_eq]
            intro e
            exact h4 (UInt8.toNat_inj.1 (by simpa using (by omega : c.toNat = 39)))
          by_cases h5 : c = 35
          · have q5 : ((c.toNat : Int) == 35) = true := by rw [h5]; rfl
            have HRR : Hid (t5 = R) := by show _ = _; rw [← HR.out]; rw [if_neg (by simp [h1]), if_neg (by simp [h2]), if_neg (by simp [h3]), if_neg h4, if_pos h5]
            clear HR h5
            go_enter Tryz.func34, Tryz.ntmps34
            go_upto_region 1 with fail
            try rw [hw2]
            clear hw2
            go_wp2_with fail
            refine (b1 _).mono ?_
            rintro e w1 ⟨rfl, rfl⟩
            go_wp2_with fail
            refine (b2 _).mono ?_
            rintro e w1 ⟨rfl, rfl⟩
            go_wp2_with fail
            refine (b3 _).mono ?_
            rintro e w1 ⟨rfl, rfl⟩
            go_wp2_with fail
            refine (X5.out _).mono ?_
            rintro e w3 ⟨k, ss, i, b, n, cc, rfl, hok, hb3⟩
            have z3 := HZ2.out.call hb3
            clear c0 c1 c2 c3 y0 y1 y2 y3
            have c0 := z3.cell (j := 0) rfl
            have c1 := z3.cell (j := 1) rfl
            have c2 := z3.cell (j := 2) rfl
            have c3 := z3.cell (j := 3) rfl
            have y0 := z3.free 0
            have y1 := z3.free 1
            have y2 := z3.free 2
            have y3 := z3.free 3
            have hbb := below_stepL HB2.out HB2.out.size hb3
            have hF := Lib.hid (below_set4 (a := .int .i64 k) (b := .string ss) (c := .int .i64 i) (d := .int .u64 b) hbb (Nat.le_refl _))
            rw [HRR.out] at hok
            clear hbb hb3
            go_wp2_with fail
            refine bodyPost_ret (results_tok rfl _ _ w.heap.size _ _ _ _ rfl z3.set4) rfl ⟨_, _, _, _, _, _, rfl, hok, hF.out⟩
          · have q5 : ((c.toNat : Int) == 35) = false := by
              simp only [beq_eq_false_iff_ne, ne_eq]
              intro e
              exact h5 (UInt8.toNat_inj.1 (by simpa using (by omega : c.toNat = 35)))
            have HRR : Hid (.ok ⟨6, t6, 0, 0⟩ t6.length = R) := by show _ = _; rw [← HR.out]; rw [if_neg (by simp [h1]), if_neg (by simp [h2]), if_neg (by simp [h3]), if_neg h4, if_neg h5]
            clear HR
            go_enter Tryz.func34, Tryz.ntmps34
            go_upto_region 1 with fail
            try rw [hw2]
            clear hw2
            go_wp2_with fail
            refine (b1 _).mono ?_
            rintro e w1 ⟨rfl, rfl⟩
            go_wp2_with fail
            refine (b2 _).mono ?_
            rintro e w1 ⟨rfl, rfl⟩
            go_wp2_with fail
            refine (b3 _).mono ?_
            rintro e w1 ⟨rfl, rfl⟩
            go_wp2_with fail
            refine (Q6.out _ HS2.out).mono ?_
            rintro e w1 ⟨rfl, rfl⟩
            go_wp2_with fail
            refine (X6.out _).mono ?_
            rintro e w3 ⟨k, ss, i, b, n, cc, rfl, hok, hb3⟩
            have z3 := HZ2.out.call hb3
            clear c0 c1 c2 c3 y0 y1 y2 y3
            have c0 := z3.cell (j := 0) rfl
            have c1 := z3.cell (j := 1) rfl
            have c2 := z3.cell (j := 2) rfl
            have c3 := z3.cell (j := 3) rfl
            have y0 := z3.free 0
            have y1 := z3.free 1
            have y2 := z3.free 2
            have y3 := z3.free 3
            have hbb := below_stepL HB2.out HB2.out.size hb3
            have hF := Lib.hid (below_set4 (a := .int .i64 k) (b := .string ss) (c := .int .i64 i) (d := .int .u64 b) hbb (Nat.le_refl _))
            rw [HRR.out] at hok
            clear hbb hb3
            go_wp2_with fail
            refine bodyPost_ret (results_tok rfl _ _ w.heap.size _ _ _ _ rfl z3.set4) rfl ⟨_, _, _, _, _, _, rfl, hok, hF.out⟩
end Go.Proofs.YtlhoakpijfhljaaGreatDoor
