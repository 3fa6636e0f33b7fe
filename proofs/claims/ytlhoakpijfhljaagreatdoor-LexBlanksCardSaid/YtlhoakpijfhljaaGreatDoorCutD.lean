/-
  CONTRACT of package lex's readReal.
  CONDITIONS: each theorem's own hypotheses.
-/
import Derived.Test.YtlhoakpijfhljaaGreatDoorCutC
namespace Go.Proofs.YtlhoakpijfhljaaGreatDoor
open Go.RowKit
set_option linter.unusedVariables false
set_option maxRecDepth 100000

theorem hexI_range (c : UInt8) : -1 ≤ Lib.indexByte hexL16 c ∧ Lib.indexByte hexL16 c < 16 := by
  have := all_bytes (P := fun c => decide (-1 ≤ Lib.indexByte hexL16 c ∧ Lib.indexByte hexL16 c < 16)) (by decide +kernel) c
  simpa using this
theorem hexIdx_any (c : UInt8) (w : World) : Calls Tryz.prog 64 #[.string (str hexL16), .int .u8 (c.toNat : Int)] w fun e w' => e = .returned (.int .i64 (Lib.indexByte hexL16 c)) ∧ w = w' := by
  refine (Any.strings_IndexByte Tryz.laysIdx (str hexL16) (c.toNat : Int) w).mono ?_
  rintro e w' ⟨rfl, rfl⟩
  refine ⟨?_, rfl⟩
  rw [str_data]
  simp
theorem or_hex (B d : Nat) (hd : d < 16) (hB : B < 1152921504606846976) : bits .or .u64 ((B : Int) * 16) (d : Int) = ((B * 16 + d : Nat) : Int) := by
  rw [u64_or _ _ (by omega) (by omega) (by omega) (by omega)]
  have e1 : ((B : Int) * 16).toNat = B * 2 ^ 4 := by omega
  have e2 : (d : Int).toNat = d := by omega
  rw [e1, e2, Nat.mul_comm, ← Nat.two_pow_add_eq_or_of_lt (i := 4) (by omega)]
def realP (l : List UInt8) : TR := match hexF 16 (l.drop 1) 0 with
  | .err e => .err e
  | .ok b => .ok ⟨5, [], 0, b⟩ 17
set_option maxHeartbeats 4000000 in
theorem readReal_any (l : List UInt8) (w : World) (hl : l.length ≤ 1000000) (h1 : 1 ≤ l.length) :
    Calls Tryz.prog 52 #[.string (str l)] w (ReadPost (realP l) w) := by
  obtain ⟨R, hR⟩ : ∃ R, realP l = R := ⟨_, rfl⟩
  rw [hR]
  unfold realP at hR
  have HR := Lib.hid hR
  obtain ⟨n, hn⟩ : ∃ n, l.length = n := ⟨_, rfl⟩
  have hcut := fun (t : Nat) (x : Int) (hx : x = (t : Int)) (h : t ≤ l.length) W => drop_str l t x hx h W
  rw [hn] at hcut hl h1
  have HC := Lib.hid hcut
  have HN := Lib.hid hn
  have cI := fun c W => hexIdx_any c W
  have HI := Lib.hid cI
  obtain ⟨HX, hHX⟩ : ∃ HX, str hexL16 = HX := ⟨_, rfl⟩
  generalize str l = s at *
  unfold ReadPost
  obtain ⟨w2, hw2⟩ : ∃ w2, w.alloc (.cells #[.int .i64 0, .string ⟨#[]⟩, .int .i64 0, .int .u64 0] 32) = w2 := ⟨_, rfl⟩
  have hb2 : Below w.heap.size w w2 := by rw [← hw2]; exact (Below.refl _ _).alloc (Nat.le_refl _) _
  have z2 : Blk w2 w.heap.size 32 [.int .i64 0, .string ⟨#[]⟩, .int .i64 0, .int .u64 0] := by rw [← hw2]; exact Blk.new w #[.int .i64 0, .string ⟨#[]⟩, .int .i64 0, .int .u64 0] _
  have HZ := Lib.hid z2
  have HB := Lib.hid hb2
  clear hcut hn hR cI
  go_enter Tryz.func52, Tryz.ntmps52
  go_upto_region 1 with fail
  try rw [hw2]
  clear hw2
  clear hb2 z2
  go_wp2_with fail
  go_loopw [5, 9] (fun bv ix wr => ∃ i b : Nat, i ≤ 16 ∧ 1 + i ≤ n ∧ ix = .int .i64 i ∧ bv = .int .u64 b ∧ Hid (hexF 16 (l.drop 1) 0 = hexF (16 - i) (l.drop (1 + i)) b) ∧ Hid (b < 16 ^ i) ∧ wr = w2) (fun _ ix _ => 16 - (intOf ix).toNat)
  case atStart => exact ⟨0, 0, by omega, by omega, rfl, rfl, Lib.hid rfl, Lib.hid (by decide), rfl⟩
  case round =>
    obtain ⟨i, b, hi, hin, rfl, rfl, hH, hb, rfl⟩ := hrel
    by_cases hlt : i < 16
    · have iI : (i : Int) < 16 := by omega
      have iI2 : IntKind.i64.wrap (1 + (i : Int)) = 1 + (i : Int) := by rw [IntKind.wrap_i64] <;> omega
      have q1 := HC.out (1 + i) (1 + (i : Int)) (by omega) hin
      have hH2 := hH.out
      rw [show 16 - i = 15 - i + 1 by omega] at hH2
      cases hd : l.drop (1 + i) with
      | nil =>
        rw [hd] at q1 hH2
        have he : (str []).toList.isEmpty = true := by rw [str_toList]; rfl
        have he2 : (str []).toList = [] := by rw [str_toList]
        have HRR : Hid (R = .err 4) := by
          show _ = _
          rw [← HR.out, hH2]; rfl
        have z3 := HZ.out
        have c0 := z3.cell (j := 0) rfl
        have c1 := z3.cell (j := 1) rfl
        have c2 := z3.cell (j := 2) rfl
        have c3 := z3.cell (j := 3) rfl
        have y0 := z3.free 0
        have y1 := z3.free 1
        have y2 := z3.free 2
        have y3 := z3.free 3
        have hE := Lib.hid (below_set4 (a := .int .i64 0) (b := .string ⟨#[]⟩) (c := .int .i64 0) (d := .int .u64 0) HB.out (Nat.le_refl _))
        generalize str [] = s1 at *
        clear hd hH2 hH hb HR HI
        go_wp2_with fail
        refine bodyPost_ret (results_tok rfl _ _ w.heap.size _ _ _ _ rfl z3.set4) rfl ⟨_, _, _, _, _, _, rfl, ?_, hE.out⟩
        rw [HRR.out]; exact Lib.hid ⟨rfl, by decide⟩
      | cons c r =>
        rw [hd] at q1 hH2
        have he : (str (c :: r)).toList.isEmpty = false := by rw [str_toList]; rfl
        have he2 : (str (c :: r)).toList ≠ [] := by rw [str_toList]; simp
        have hsz := str_size (c :: r)
        have hg : ∀ h : 0 < (str (c :: r)).size, (str (c :: r))[0] = c := fun h => rfl
        obtain ⟨s1, hs1⟩ : ∃ s1, str (c :: r) = s1 := ⟨_, rfl⟩
        rw [hs1] at q1 he he2 hsz hg
        have h0 : 0 < s1.size := by rw [hsz]; simp
        have hg0 := hg h0
        have h0I : (0 : Int) < (s1.size : Int) := by omega
        have ci := HI.out c wr
        have hrg := hexI_range c
        have hlen : 1 + i < n := by
          have h3 : (l.drop (1 + i)).length = (c :: r).length := by rw [hd]
          rw [List.length_drop, HN.out] at h3
          simp at h3
          omega
        simp only [hexF] at hH2
        rw [← hg0] at ci hrg hH2
        generalize Lib.indexByte hexL16 s1[0] = d at *
        by_cases hdn : d < 0
        · rw [if_pos hdn] at hH2
          have HRR : Hid (R = .err 3) := by
            show _ = _
            rw [← HR.out, hH2]
          have z3 := HZ.out
          have c0 := z3.cell (j := 0) rfl
          have c1 := z3.cell (j := 1) rfl
          have c2 := z3.cell (j := 2) rfl
          have c3 := z3.cell (j := 3) rfl
          have y0 := z3.free 0
          have y1 := z3.free 1
          have y2 := z3.free 2
          have y3 := z3.free 3
          have hE := Lib.hid (below_set4 (a := .int .i64 0) (b := .string ⟨#[]⟩) (c := .int .i64 0) (d := .int .u64 0) HB.out (Nat.le_refl _))
          clear hd hH2 hH hb HR HI hg hs1 hsz hg0
          rw [hHX] at ci
          go_wp2_with fail
          refine Calls.mono (show Calls _ _ #[.string (str hexL16), .int .u8 (s1[0].toNat : Int)] _ _ by rw [hHX]; exact ci) ?_
          rintro e w3 ⟨rfl, rfl⟩
          clear ci
          go_wp2_with fail
          refine bodyPost_ret (results_tok rfl _ _ w.heap.size _ _ _ _ rfl z3.set4) rfl ⟨_, _, _, _, _, _, rfl, ?_, hE.out⟩
          rw [HRR.out]; exact Lib.hid ⟨rfl, by decide⟩
        · rw [if_neg hdn] at hH2
          obtain ⟨dn, rfl⟩ : ∃ k : Nat, d = (k : Int) := ⟨d.toNat, by omega⟩
          have hdn16 : dn < 16 := by omega
          have hb15 : b < 1152921504606846976 := by
            have h5 : 16 ^ i ≤ 16 ^ 15 := Nat.pow_le_pow_right (by decide) (by omega)
            have e5 : 16 ^ 15 = 1152921504606846976 := by decide
            have := hb.out
            omega
          have ho := or_hex b dn hdn16 hb15
          have wA : IntKind.u64.wrap ((b : Int) * 16) = (b : Int) * 16 := by show (b : Int) * 16 % 18446744073709551616 = _; omega
          have wB : IntKind.u64.wrap (dn : Int) = (dn : Int) := by show (dn : Int) % 18446744073709551616 = _; omega
          have HH : Hid (hexF 16 (l.drop 1) 0 = hexF (16 - (i + 1)) (l.drop (1 + (i + 1))) (b * 16 + dn)) := by
            show _ = _
            have e6 : l.drop (1 + (i + 1)) = r := by
              have := congrArg (List.drop 1) hd
              rw [List.drop_drop] at this
              simpa [show 1 + (i + 1) = 1 + i + 1 by omega] using this
            rw [e6, hH2, show 16 - (i + 1) = 15 - i by omega]
            simp
          have HBB : Hid (b * 16 + dn < 16 ^ (i + 1)) := by
            show _ < _
            have := hb.out
            rw [Nat.pow_succ]; omega
          clear hd hH2 hH hb HR HI hg hs1 hsz hg0 hrg
          rw [hHX] at ci
          go_wp2_with fail
          refine Calls.mono (show Calls _ _ #[.string (str hexL16), .int .u8 (s1[0].toNat : Int)] _ _ by rw [hHX]; exact ci) ?_
          rintro e w3 ⟨rfl, rfl⟩
          clear ci
          go_wp2_with fail
          go_roundw
          case rel => exact ⟨i + 1, b * 16 + dn, by omega, by omega, by go_num, by go_num, HH, HBB, by first | rfl | trivial⟩
          case measure => simp [intOf]; omega
    · have iI : ¬ (i : Int) < 16 := by omega
      obtain rfl : i = 16 := by omega
      have HRR : Hid (R = .ok ⟨5, [], 0, b⟩ 17) := by
        show _ = _
        have hH2 := hH.out
        rw [← HR.out, hH2]; rfl
      have z3 := HZ.out
      have c0 := z3.cell (j := 0) rfl
      have c1 := z3.cell (j := 1) rfl
      have c2 := z3.cell (j := 2) rfl
      have c3 := z3.cell (j := 3) rfl
      have y0 := z3.free 0
      have y1 := z3.free 1
      have y2 := z3.free 2
      have y3 := z3.free 3
      have hE := Lib.hid (below_set4 (a := .int .i64 5) (b := .string ⟨#[]⟩) (c := .int .i64 0) (d := .int .u64 b) HB.out (Nat.le_refl _))
      clear hH hb HR HI
      go_wp2_with fail
      refine bodyPost_ret (results_tok rfl _ _ w.heap.size _ _ _ _ rfl z3.set4) rfl ⟨_, _, _, _, _, _, rfl, ?_, hE.out⟩
      rw [HRR.out]; exact Lib.hid ⟨rfl, rfl, rfl, rfl, rfl, rfl⟩
end Go.Proofs.YtlhoakpijfhljaaGreatDoor
