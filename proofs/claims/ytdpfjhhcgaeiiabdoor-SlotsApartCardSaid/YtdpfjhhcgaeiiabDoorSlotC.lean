/-
  CONTRACT of package slots' leaves.
  CONDITIONS: package sum's roundWords hold what their initialiser lays ('KW').
-/
import Derived.Test.YtdpfjhhcgaeiiabDoorSlotB
namespace Go.Proofs.YtdpfjhhcgaeiiabDoor
open Go.RowKit CodeMath Go.Proofs.YtdpfjhhcgaeiiabDoor.FrameMath
set_option linter.unusedVariables false
set_option maxRecDepth 100000

theorem fill_next (rows : List (List UInt8)) (n i : Nat) (b : List UInt8) (hr : rows.length = i) (hi : i < n) : (rows ++ List.replicate (n - i) []).set i b = (rows ++ [b]) ++ List.replicate (n - (i + 1)) [] := by
  obtain ⟨k, hk⟩ : ∃ k, n - i = k + 1 := ⟨n - i - 1, by omega⟩
  have hk' : n - (i + 1) = k := by omega
  rw [hk, hk', List.replicate_succ, ← hr]
  simp
set_option maxHeartbeats 4000000 in
theorem leaves_any (m : Int) (l : List Sl) (ao : Option Addr) (cap : Nat) (w : World) (m0 : -9223372036854775808 ≤ m) (m1 : m ≤ 9223372036854775807) (hc : l.length ≤ cap) (hq : cap ≤ 9223372036854775807) (hl : l.length ≤ 64) (hS : Slots w ao l) (hT : KW w) :
    Calls Tryd.prog 54 #[.int .i64 m, .slice ao l.length cap] w (LevPost (leavesR m l) l.length w) := by
  obtain ⟨R, hR⟩ : ∃ R, leavesR m l = R := ⟨_, rfl⟩
  rw [hR]
  obtain ⟨n, hn⟩ : ∃ n, l.length = n := ⟨_, rfl⟩
  have hget : ∀ i x, l[i]? = some x → ∃ a o, ao = some ⟨a, o, none⟩ ∧ a < w.heap.size ∧ SlotAt w a (o + i * 3) x := fun i x hx => by
    rcases hS with h | ⟨a, o, h1, h2, h3⟩
    · rw [h] at hx; simp at hx
    · exact ⟨a, o, h1, h2, h3 i x hx⟩
  have HG := Lib.hid hget
  have HR := Lib.hid hR
  have HN := Lib.hid hn
  rw [hn] at hc hl ⊢
  have nI : (n : Int) ≤ 64 := by omega
  obtain ⟨i0, hi, hz0, hz1, hz2⟩ := info_parts infoL
  clear hget hR hn hS
  go_enter Tryd.func54, Tryd.ntmps54
  go_wp2_with (first
    | (with_reducible refine wpList_make_full _ rfl (.tmp 12) (.tmp 12) 23 rfl w.heap.size 28 i0 (.slice none 0 0) 1 Tryd.underlying23 hi hz0 hz1 .i64 .i64 (n : Int) (n : Int) n rfl rfl rfl rfl (by rw [hz2]; omega) (by unfold maxLen; omega) (Nat.le_refl _) ?_; intro w1 ho1 hg1)
    | fail)
  have hB1 : Below w.heap.size w w1 := (Below.refl _ _).grown hg1 (Nat.le_refl _) (fun k h => by cases h)
  have hL1 := LevB.fresh ho1
  clear ho1 hg1 hi hz0 hz1 hz2
  go_loopw [16] (fun ix wr => ∃ (i : Nat) (rows : List (List UInt8)), i ≤ n ∧ ix = .int .i64 i ∧ Hid (leavesR m (l.take i) = .ok rows) ∧ Hid (rows.length = i) ∧ LevB wr w.heap.size (rows ++ List.replicate (n - i) []) ∧ Below w.heap.size w wr) (fun ix _ => n - (intOf ix).toNat)
  case atStart => exact ⟨0, [], Nat.zero_le _, rfl, Lib.hid rfl, Lib.hid rfl, by simpa using hL1, hB1⟩
  case round =>
    obtain ⟨i, rows, hin, rfl, hrw, hrl, hlv, hbr⟩ := hrel
    clear hL1 hB1
    by_cases hlt : i < n
    · have iI : (i : Int) < n := by omega
      obtain ⟨x, hx⟩ : ∃ x, l[i]? = some x := ⟨_, List.getElem?_eq_getElem (by rw [HN.out]; exact hlt)⟩
      obtain ⟨a, o, rfl, ha, us, ud, c0, c1, c2, r1, r2⟩ := HG.out i x hx
      obtain ⟨hE, hO⟩ := leavesR_next m l i x rows hrw.out hx
      have d0 := (hbr.cell (p := ⟨a, o + i * 3, none⟩) ha).trans c0
      have d1 := (hbr.cell (p := ⟨a, o + i * 3 + 1, none⟩) ha).trans c1
      have d2 := (hbr.cell (p := ⟨a, o + i * 3 + 2, none⟩) ha).trans c2
      have cL := fun W h1 h2 h3 => Leaf_any m x.f x.s x.d us ud W m0 m1 h1 h2 h3
      have hbx : Hid (∀ W, Below w.heap.size w W → RowV W us x.s ∧ RowV W ud x.d ∧ KW W) := fun W hW => ⟨r1.keep hW, r2.keep hW, hT.keep hW (Nat.le_refl _)⟩
      obtain ⟨au, nu, ku, rfl⟩ : ∃ a n k, us = .slice a n k := by obtain ⟨a, k, e, _⟩ := r1; exact ⟨_, _, _, e⟩
      obtain ⟨av, nv, kv, rfl⟩ : ∃ a n k, ud = .slice a n k := by obtain ⟨a, k, e, _⟩ := r2; exact ⟨_, _, _, e⟩
      have hba : ∀ o, Below w.heap.size w (wr.alloc o) := fun o => hbr.alloc hbr.size o
      have hlv1 : ∀ o, LevB (wr.alloc o) w.heap.size (rows ++ List.replicate (n - i) []) := fun o => hlv.keep ((Below.refl _ _).alloc (Nat.le_refl _) o)
      have hfill : ∀ b, Hid ((rows ++ List.replicate (n - i) []).set i b = (rows ++ [b]) ++ List.replicate (n - (i + 1)) []) := fun b => fill_next rows n i b hrl.out hlt
      have hlen : (rows ++ List.replicate (n - i) []).length = n := by have := hrl.out; simp; omega
      have HLEN := Lib.hid hlen
      have HLT := Lib.hid hlt
      generalize rows ++ List.replicate (n - i) [] = RS at *
      cases hlf : leafR m x.f x.s x.d with
      | err q =>
        have hRe : Hid (R = .err q) := by have := HR.out; show _ = _; rw [← this, hE q hlf]
        have q0 := leafR_ne _ _ _ _ _ hlf
        rw [hlf] at cL
        clear hE hO hlf c0 c1 c2 r1 r2 hx hrw hlt hlv hlv1 hfill hlen
        go_wp2_with fail
        refine (cL _ (hbx.out _ (hba _)).1 (hbx.out _ (hba _)).2.1 (hbx.out _ (hba _)).2.2).mono ?_
        rintro e w2 ⟨rfl, hb2⟩
        have hbb := below_step (hba _) (hba _).size hb2
        clear cL hba
        go_wp2_with fail
        go_ret2
        rw [hRe.out]
        exact ⟨rfl, hbb⟩
      | ok b =>
        have hnx := Lib.hid (hO b hlf)
        have hln : Hid ((rows ++ [b]).length = i + 1) := by have := hrl.out; show _ = _; rw [List.length_append, this]; rfl
        rw [hlf] at cL
        clear hE hO hlf c0 c1 c2 r1 r2 hx hrw hlt hlv hlen
        go_wp2_with fail
        refine (cL _ (hbx.out _ (hba _)).1 (hbx.out _ (hba _)).2.1 (hbx.out _ (hba _)).2.2).mono ?_
        rintro e w2 ⟨v2, rfl, hr2, hb2⟩
        have hbb := below_step (hba _) (hba _).size hb2
        have hlv2 := (hlv1 _).keep hb2
        obtain ⟨⟨u0, hu0⟩, hf0⟩ := hlv2.cell i (by rw [HLEN.out]; exact HLT.out)
        obtain ⟨a2, n2, k2, rfl⟩ : ∃ a n k, v2 = .slice a n k := by obtain ⟨a, k, e, _⟩ := hr2; exact ⟨_, _, _, e⟩
        have hlv3 := hlv2.set i _ b hr2
        rw [(hfill b).out] at hlv3
        have hbb3 := hbb.grown (grown_set w2 ⟨w.heap.size, i, none⟩ (.slice a2 n2 k2)) hbb.size (fun k h => by cases h; exact Nat.le_refl _)
        clear cL hba hlv1 hfill hlv2 hr2 hb2 hbb
        go_wp2_with fail
        go_roundw
        case rel => exact ⟨i + 1, _, HLT.out, by go_num, hnx, hln, hlv3, hbb3⟩
        case measure => have := HLT.out; simp [intOf]; omega
    · have iI : ¬ (i : Int) < n := by omega
      have hie : i = n := by omega
      have hRe : Hid (R = .ok rows) := by
        have := HR.out
        have h2 := hrw.out
        show _ = _
        rw [List.take_of_length_le (by rw [HN.out]; omega)] at h2
        rw [← this, h2]
      have hlv2 : LevB wr w.heap.size rows := by
        rw [hie, Nat.sub_self] at hlv
        simpa using hlv
      clear hlt hie hrw hrl hlv
      go_wp2_with fail
      go_ret2
      rw [hRe.out]
      exact ⟨_, rfl, Nat.le_refl _, hlv2, hbr⟩
end Go.Proofs.YtdpfjhhcgaeiiabDoor
