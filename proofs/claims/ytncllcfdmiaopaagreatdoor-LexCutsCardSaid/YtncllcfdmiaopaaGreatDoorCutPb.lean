/-
  The reference's first: a word.
  CONDITIONS: each theorem's own hypotheses; unicode/utf8's two tables hold what their initialisers lay ('Tabs').
-/
import Derived.Test.YtncllcfdmiaopaaGreatDoorCutP
namespace Go.Proofs.YtncllcfdmiaopaaGreatDoor
open Go.RowKit
set_option linter.unusedVariables false
set_option maxRecDepth 100000

set_option maxHeartbeats 4000000 in
theorem fr_great (c : UInt8) (r : List UInt8) (w : World) (hl : (c :: r).length ≤ 1000000) (hT : Tabs w) (hSm : isSm c = false) (hGr : isGr c = true) :
    Calls Tryz.prog 23 #[.string (str (c :: r))] w (ReadPost (wholeR 2 ((c :: r).takeWhile isGr)) w) := by
  have hsz := str_size (c :: r)
  have hg : ∀ h : 0 < (str (c :: r)).size, (str (c :: r))[0] = c := fun h => rfl
  have hhd := fun (j : Nat) (h2 : j ≤ (c :: r).length) W => head_str (c :: r) j (j : Int) rfl h2 W
  have cA1 := fun W => among_any c smallsL W (by decide)
  have cA2 := fun W => among_any c greatsL W (by decide)
  have cA3 := fun W => among_any c digitsL W (by decide)
  rw [smalls_has] at cA1
  rw [greats_has] at cA2
  rw [digits_has] at cA3
  have cR := fun W => reach_any (c :: r) greatsL W (by omega) (by decide)
  rw [show greatsL.contains = isGr from funext greats_has] at cR
  have hq := hhd _ (takeWhile_le isGr (c :: r))
  rw [take_run] at hq
  rw [hSm] at cA1
  rw [hGr] at cA2
  have hle := takeWhile_le isGr (c :: r)
  generalize (c :: r).takeWhile isGr = T at *
  unfold ReadPost
  generalize str (c :: r) = s at *
  have h0 : 0 < s.size := by rw [hsz]; simp
  have hg0 := hg h0
  have h0I : (0 : Int) < (s.size : Int) := by omega
  have hsI : (s.size : Int) ≤ 1000000 := by omega
  obtain ⟨R, hR⟩ : ∃ R, wholeR 2 T = R := ⟨_, rfl⟩
  rw [hR]
  unfold wholeR at hR
  have HR := Lib.hid hR
  obtain ⟨S, hS⟩ : ∃ S, str T = S := ⟨_, rfl⟩
  rw [hS] at hq
  have HS := Lib.hid hS
  obtain ⟨m, hm⟩ : ∃ m, T.length = m := ⟨_, rfl⟩
  rw [hm] at hq cR hle HR
  rw [← hg0] at cA1 cA2
  have hmI : (m : Int) ≤ (s.size : Int) := by omega
  clear hg hg0 hhd hS hR hm hsz cA3 hSm hGr
  obtain ⟨w2, hw2⟩ : ∃ w2, w.alloc (.cells #[.int .i64 0, .string ⟨#[]⟩, .int .i64 0, .int .u64 0] 34) = w2 := ⟨_, rfl⟩
  have hb2 : Below w.heap.size w w2 := by rw [← hw2]; exact (Below.refl _ _).alloc (Nat.le_refl _) _
  have z2 : Blk w2 w.heap.size 34 [.int .i64 0, .string ⟨#[]⟩, .int .i64 0, .int .u64 0] := by rw [← hw2]; exact Blk.new w #[.int .i64 0, .string ⟨#[]⟩, .int .i64 0, .int .u64 0] _
  by_cases h8 : 8 < m
  · have i8 : (8 : Int) < (m : Int) := by omega
    have HRR : Hid (R = .err 1) := by show _ = _; rw [← HR.out, if_pos h8]
    have c0 := z2.cell (j := 0) rfl
    have c1 := z2.cell (j := 1) rfl
    have c2 := z2.cell (j := 2) rfl
    have c3 := z2.cell (j := 3) rfl
    have y0 := z2.free 0
    have y1 := z2.free 1
    have y2 := z2.free 2
    have y3 := z2.free 3
    have hE := Lib.hid (below_set4 (a := .int .i64 0) (b := .string ⟨#[]⟩) (c := .int .i64 0) (d := .int .u64 0) hb2 (Nat.le_refl _))
    clear HR h8 hq HS
    go_enter Tryz.func23, Tryz.ntmps23
    go_upto_region 1 with fail
    try rw [hw2]
    clear hw2
    go_wp2_with fail
    refine (cA1 _).mono ?_
    rintro e w3 ⟨rfl, rfl⟩
    clear cA1
    go_wp2_with fail
    refine (cA2 _).mono ?_
    rintro e w3 ⟨rfl, rfl⟩
    clear cA2
    go_wp2_with fail
    refine (cR _).mono ?_
    rintro e w3 ⟨rfl, rfl⟩
    clear cR
    go_wp2_with fail
    refine bodyPost_ret (results_tok rfl _ _ w.heap.size _ _ _ _ rfl z2.set4) rfl ⟨_, _, _, _, _, _, rfl, ?_, hE.out⟩
    rw [HRR.out]; exact Lib.hid ⟨rfl, by decide⟩
  · have i8 : ¬ (8 : Int) < (m : Int) := by omega
    have HRR : Hid (R = .ok ⟨2, T, 0, 0⟩ m) := by show _ = _; rw [← HR.out, if_neg h8]
    have c0 := z2.cell (j := 0) rfl
    have c1 := z2.cell (j := 1) rfl
    have c2 := z2.cell (j := 2) rfl
    have c3 := z2.cell (j := 3) rfl
    have y0 := z2.free 0
    have y1 := z2.free 1
    have y2 := z2.free 2
    have y3 := z2.free 3
    have hE := Lib.hid (below_set4 (a := .int .i64 2) (b := .string S) (c := .int .i64 0) (d := .int .u64 0) hb2 (Nat.le_refl _))
    clear HR h8
    go_enter Tryz.func23, Tryz.ntmps23
    go_upto_region 1 with fail
    try rw [hw2]
    clear hw2
    go_wp2_with fail
    refine (cA1 _).mono ?_
    rintro e w3 ⟨rfl, rfl⟩
    clear cA1
    go_wp2_with fail
    refine (cA2 _).mono ?_
    rintro e w3 ⟨rfl, rfl⟩
    clear cA2
    go_wp2_with fail
    refine (cR _).mono ?_
    rintro e w3 ⟨rfl, rfl⟩
    clear cR
    have hq := hq w2
    go_wp2_with fail
    refine bodyPost_ret (results_tok rfl _ _ w.heap.size _ _ _ _ rfl z2.set4) rfl ⟨_, _, _, _, _, _, rfl, ?_, hE.out⟩
    rw [HRR.out]; exact Lib.hid ⟨rfl, HS.out.symm, rfl, rfl, rfl, rfl⟩
end Go.Proofs.YtncllcfdmiaopaaGreatDoor
