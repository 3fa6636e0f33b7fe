/-
  The reference's first: a quote, a real.
  CONDITIONS: each theorem's own hypotheses; unicode/utf8's two tables hold what their initialisers lay ('Tabs').
-/
import Derived.Test.YtncllcfdmiaopaaGreatDoorCutP
namespace Go.Proofs.YtncllcfdmiaopaaGreatDoor
open Go.RowKit
set_option linter.unusedVariables false
set_option maxRecDepth 100000

set_option maxHeartbeats 4000000 in
theorem fr_quote (c : UInt8) (r : List UInt8) (w : World) (hl : (c :: r).length ≤ 1000000) (hT : Tabs w) (hSm : isSm c = false) (hGr : isGr c = false) (hDi : isDi c = false) (h39 : c = 39) :
    Calls Tryz.prog 23 #[.string (str (c :: r))] w (ReadPost (quoteR (c :: r)) w) := by
  have hsz := str_size (c :: r)
  have hg : ∀ h : 0 < (str (c :: r)).size, (str (c :: r))[0] = c := fun h => rfl
  have hhd := fun (j : Nat) (h2 : j ≤ (c :: r).length) W => head_str (c :: r) j (j : Int) rfl h2 W
  have cA1 := fun W => among_any c smallsL W (by decide)
  have cA2 := fun W => among_any c greatsL W (by decide)
  have cA3 := fun W => among_any c digitsL W (by decide)
  rw [smalls_has] at cA1
  rw [greats_has] at cA2
  rw [digits_has] at cA3
  rw [hSm] at cA1
  rw [hGr] at cA2
  rw [hDi] at cA3
  have cQ := fun W hT => quotedRef_any (c :: r) W hl (by simp) hT
  unfold ReadPost
  generalize str (c :: r) = s at *
  have h0 : 0 < s.size := by rw [hsz]; simp
  have hg0 := hg h0
  have h0I : (0 : Int) < (s.size : Int) := by omega
  have hsI : (s.size : Int) ≤ 1000000 := by omega
  generalize quoteR (c :: r) = R at *
  rw [← hg0] at cA1 cA2 cA3
  have q39 : ((s[0].toNat : Int) == 39) = true := by rw [hg0, h39]; rfl
  clear hg hg0 hhd hsz hSm hGr hDi h39
  obtain ⟨w2, hw2⟩ : ∃ w2, w.alloc (.cells #[.int .i64 0, .string ⟨#[]⟩, .int .i64 0, .int .u64 0] 34) = w2 := ⟨_, rfl⟩
  have hb2 : Below w.heap.size w w2 := by rw [← hw2]; exact (Below.refl _ _).alloc (Nat.le_refl _) _
  have z2 : Blk w2 w.heap.size 34 [.int .i64 0, .string ⟨#[]⟩, .int .i64 0, .int .u64 0] := by rw [← hw2]; exact Blk.new w #[.int .i64 0, .string ⟨#[]⟩, .int .i64 0, .int .u64 0] _
  have cQ := cQ w2 (tabs_below hT hb2)
  go_enter Tryz.func23, Tryz.ntmps23
  go_upto_region 1 with fail
  try rw [hw2]
  clear hw2
  go_wp2_with fail
  refine (cA1 _).mono ?_
  rintro e w3 ⟨rfl, rfl⟩
  clear cA1
  go_wp2_with fail
  refine (cA2 _).mono ?_
  rintro e w3 ⟨rfl, rfl⟩
  clear cA2
  go_wp2_with fail
  refine (cA3 _).mono ?_
  rintro e w3 ⟨rfl, rfl⟩
  clear cA3
  go_wp2_with fail
  refine cQ.mono ?_
  rintro e w3 ⟨⟨S, k, x, rfl, hok⟩, hb3⟩
  clear cQ
  have z3 := z2.call hb3
  have hb03 := below_stepL hb2 hb2.size hb3
  clear z2 hb2
  have c0 := z3.cell (j := 0) rfl
  have c1 := z3.cell (j := 1) rfl
  have c2 := z3.cell (j := 2) rfl
  have c3 := z3.cell (j := 3) rfl
  have y0 := z3.free 0
  have y1 := z3.free 1
  have y2 := z3.free 2
  have y3 := z3.free 3
  have hE := Lib.hid (below_set4 (a := .int .i64 4) (b := .string S) (c := .int .i64 0) (d := .int .u64 0) hb03 (Nat.le_refl _))
  clear hb03 hb3
  go_wp2_with fail
  refine bodyPost_ret (results_tok rfl _ _ w.heap.size _ _ _ _ rfl z3.set4) rfl ⟨_, _, _, _, _, _, rfl, ?_, hE.out⟩
  cases R with
  | err q => exact Lib.hid hok.out
  | ok t n =>
    obtain ⟨T, rfl, rfl, rfl, rfl⟩ := hok.out
    exact Lib.hid ⟨rfl, rfl, rfl, rfl, rfl, rfl⟩
set_option maxHeartbeats 4000000 in
theorem fr_hash (c : UInt8) (r : List UInt8) (w : World) (hl : (c :: r).length ≤ 1000000) (hT : Tabs w) (hSm : isSm c = false) (hGr : isGr c = false) (hDi : isDi c = false) (h39 : c ≠ 39) (h35 : c = 35) :
    Calls Tryz.prog 23 #[.string (str (c :: r))] w (ReadPost (realR (c :: r)) w) := by
  have hsz := str_size (c :: r)
  have hg : ∀ h : 0 < (str (c :: r)).size, (str (c :: r))[0] = c := fun h => rfl
  have hhd := fun (j : Nat) (h2 : j ≤ (c :: r).length) W => head_str (c :: r) j (j : Int) rfl h2 W
  have cA1 := fun W => among_any c smallsL W (by decide)
  have cA2 := fun W => among_any c greatsL W (by decide)
  have cA3 := fun W => among_any c digitsL W (by decide)
  rw [smalls_has] at cA1
  rw [greats_has] at cA2
  rw [digits_has] at cA3
  rw [hSm] at cA1
  rw [hGr] at cA2
  rw [hDi] at cA3
  have cQ := fun W => hexed_any (c :: r) W hl (by simp)
  have hlen := fun t m => realR_len (l := c :: r) (t := t) (m := m)
  unfold ReadPost
  generalize str (c :: r) = s at *
  have h0 : 0 < s.size := by rw [hsz]; simp
  have hg0 := hg h0
  have h0I : (0 : Int) < (s.size : Int) := by omega
  have hsI : (s.size : Int) ≤ 1000000 := by omega
  generalize realR (c :: r) = R at *
  have HL := Lib.hid hlen
  rw [← hg0] at cA1 cA2 cA3
  have q39 : ((s[0].toNat : Int) == 39) = false := by rw [hg0]; exact u8_ne (by decide) h39
  have q35 : ((s[0].toNat : Int) == 35) = true := by rw [hg0, h35]; rfl
  clear hg hg0 hhd hsz hSm hGr hDi h39 h35 hlen
  obtain ⟨w2, hw2⟩ : ∃ w2, w.alloc (.cells #[.int .i64 0, .string ⟨#[]⟩, .int .i64 0, .int .u64 0] 34) = w2 := ⟨_, rfl⟩
  have hb2 : Below w.heap.size w w2 := by rw [← hw2]; exact (Below.refl _ _).alloc (Nat.le_refl _) _
  have z2 : Blk w2 w.heap.size 34 [.int .i64 0, .string ⟨#[]⟩, .int .i64 0, .int .u64 0] := by rw [← hw2]; exact Blk.new w #[.int .i64 0, .string ⟨#[]⟩, .int .i64 0, .int .u64 0] _
  have c0 := z2.cell (j := 0) rfl
  have c1 := z2.cell (j := 1) rfl
  have c2 := z2.cell (j := 2) rfl
  have c3 := z2.cell (j := 3) rfl
  have y0 := z2.free 0
  have y1 := z2.free 1
  have y2 := z2.free 2
  have y3 := z2.free 3
  go_enter Tryz.func23, Tryz.ntmps23
  go_upto_region 1 with fail
  try rw [hw2]
  clear hw2
  go_wp2_with fail
  refine (cA1 _).mono ?_
  rintro e w3 ⟨rfl, rfl⟩
  clear cA1
  go_wp2_with fail
  refine (cA2 _).mono ?_
  rintro e w3 ⟨rfl, rfl⟩
  clear cA2
  go_wp2_with fail
  refine (cA3 _).mono ?_
  rintro e w3 ⟨rfl, rfl⟩
  clear cA3
  go_wp2_with fail
  refine (cQ _).mono ?_
  rintro e w3 ⟨⟨b, x, rfl, hok⟩, rfl⟩
  clear cQ
  have hE := Lib.hid (below_set4 (a := .int .i64 5) (b := .string ⟨#[]⟩) (c := .int .i64 0) (d := .int .u64 b) hb2 (Nat.le_refl _))
  go_wp2_with fail
  refine bodyPost_ret (results_tok rfl _ _ w.heap.size _ _ _ _ rfl z2.set4) rfl ⟨_, _, _, _, _, _, rfl, ?_, hE.out⟩
  cases R with
  | err q => exact Lib.hid hok.out
  | ok t n =>
    obtain ⟨rfl, rfl⟩ := hok.out
    exact Lib.hid ⟨rfl, rfl, rfl, rfl, by have := HL.out _ _ rfl; omega, rfl⟩
end Go.Proofs.YtncllcfdmiaopaaGreatDoor
