/-
  THE WALKS of the laws 'chirographkeep.TreeMap' and 'chirographkeep.TreeSwaps'.
  CONDITIONS: each theorem's own hypotheses.
-/
import Derived.Test.YtopgakdgifmecaaGTGrow
namespace Go.Proofs.Ytopgakdgifmecaa
open Go.RowKit
set_option linter.unusedVariables false
set_option maxRecDepth 100000

theorem growL_from (rs : List R) : ∀ e ∈ growL rs, ∃ r : R, e.1 = keyR r := by
  unfold growL
  have : ∀ (rs : List R) (l : List En), (∀ e ∈ l, ∃ r : R, e.1 = keyR r) → ∀ e ∈ rs.foldl growS l, ∃ r : R, e.1 = keyR r := by
    intro rs
    induction rs with
    | nil => intro l h; exact h
    | cons r rs ih =>
      intro l h
      refine ih _ (fun e he => ?_)
      unfold growS at he
      split at he
      · exact h e ((cutR_sub _ l).subset he)
      · rcases putR_mem _ _ _ e he with rfl | he
        · exact ⟨r, rfl⟩
        · exact h e he
  exact this rs [] (fun e he => by cases he)
theorem key_two : ∀ x, x < 5 → ∀ y, y < 6 → lessS [(97 + x).toUInt8, (97 + y).toUInt8] [] = false ∧ lessS [122, 122] [(97 + x).toUInt8, (97 + y).toUInt8] = false ∧ lessS [120] [(97 + x).toUInt8, (97 + y).toUInt8] = false ∧ lessS [121] [(97 + x).toUInt8, (97 + y).toUInt8] = false ∧ lessS [(97 + x).toUInt8, (97 + y).toUInt8] [120] = true ∧ lessS [(97 + x).toUInt8, (97 + y).toUInt8] [121] = true := by
  have h : (List.range 5).all (fun x => (List.range 6).all (fun y => !lessS [(97 + x).toUInt8, (97 + y).toUInt8] [] && !lessS [122, 122] [(97 + x).toUInt8, (97 + y).toUInt8] && !lessS [120] [(97 + x).toUInt8, (97 + y).toUInt8] && !lessS [121] [(97 + x).toUInt8, (97 + y).toUInt8] && lessS [(97 + x).toUInt8, (97 + y).toUInt8] [120] && lessS [(97 + x).toUInt8, (97 + y).toUInt8] [121])) = true := by decide +kernel
  intro x hx y hy
  rw [List.all_eq_true] at h
  have h1 := h x (List.mem_range.2 hx)
  rw [List.all_eq_true] at h1
  have h2 := h1 y (List.mem_range.2 hy)
  simp only [Bool.and_eq_true, Bool.not_eq_true'] at h2
  exact ⟨h2.1.1.1.1.1, h2.1.1.1.1.2, h2.1.1.1.2, h2.1.1.2, h2.1.2, h2.2⟩
theorem grow_two (rs : List R) (e : En) (he : e ∈ growL rs) : lessS e.1 [] = false ∧ lessS [122, 122] e.1 = false ∧ lessS [120] e.1 = false ∧ lessS [121] e.1 = false ∧ lessS e.1 [120] = true ∧ lessS e.1 [121] = true := by
  obtain ⟨r, h⟩ := growL_from rs e he
  rw [h]
  exact key_two _ (by omega) _ (by omega)
theorem listR_all (l : List En) (h : ∀ e ∈ l, lessS e.1 [] = false ∧ lessS [122, 122] e.1 = false) : listR l [] [122, 122] = l := by
  unfold listR
  rw [List.filter_eq_self]
  intro e he
  rw [(h e he).1, (h e he).2]; rfl
set_option maxHeartbeats 16000000 in
theorem treeMap_walk (l : List R) (ao : Option Addr) (cap : Nat) (w : World) (hc : l.length ≤ cap) (hm : cap ≤ 9223372036854775807) (hR : Raws w ao l) :
    Calls Try.prog 8 #[.slice ao l.length cap] w fun e w' => e = .returned (.bool true) ∧ Below w.heap.size w w' := by
  have c1 := grown_any l ao cap 60 60 rfl w hc hm (by omega) hR
  obtain ⟨m, hg⟩ : ∃ m, growL (l.take 60) = m := ⟨_, rfl⟩
  have hin : listR m [] [122, 122] = m := by
    rw [← hg]
    exact listR_all _ (fun e he => ⟨(grow_two _ e he).1, (grow_two _ e he).2.1⟩)
  have hlen : m.length ≤ 60 := by
    rw [← hg]
    have := growL_len (l.take 60)
    rw [List.length_take] at this; omega
  rw [hg] at c1
  have HIN := Lib.hid hin
  clear hg hin
  generalize l.length = RN at *
  go_enter Try.func8, Try.ntmps8
  go_wp2_with fail
  refine c1.mono ?_
  rintro e w1 ⟨au, nu, cu, v, rfl, hT, hO, hB⟩
  clear c1
  have z3 : Blk _ _ _ [_] := Blk.new w1 #[.slice au nu cu] 24
  have hb3 := (Below.refl w1.heap.size w1).alloc (Nat.le_refl _) (.cells #[.slice au nu cu] 24)
  obtain ⟨w2, hw2⟩ : ∃ W, w1.alloc (.cells #[.slice au nu cu] 24) = W := ⟨_, rfl⟩
  rw [hw2] at z3 hb3
  obtain ⟨m3, hm3⟩ : ∃ x, w1.heap.size = x := ⟨_, rfl⟩
  rw [hm3] at z3
  have hT2 := hT.keep hb3
  have hO2 := hO.keep hb3
  have hB2 := below_stepE hB hB.size hb3
  have HW2 := Lib.hid hw2
  have HM3 := Lib.hid hm3
  have HZ3 := Lib.hid z3
  clear hT hO hB z3 hb3 hw2 hm3
  obtain ⟨av, cv, rfl, -⟩ := owns_shape hO2
  go_upto_region 2 with fail
  rw [HW2.out, HM3.out]
  have c2 := treeList_tr au nu cu m [] [122, 122] w2 hT2
  rw [HIN.out] at c2
  have q3 := HZ3.out.cell (j := 0) rfl
  go_wp2_with fail
  refine c2.mono ?_
  rintro e w3 ⟨u, rfl, hO3, hB3⟩
  obtain ⟨a3, k3, rfl, -⟩ := owns_shape hO3
  have hO2' := hO2.keep hB3
  have hT3 := hT2.keep hB3
  have hB3' := below_stepE hB2 hB2.size hB3
  have z4 := HZ3.out.call hB3
  clear c2 q3 hO2 hT2 hB2 hB3
  go_upto_region 3 with fail
  go_wp2_with (first
    | (go_at_call 25; refine (treeTells_any _).mono ?_; rintro e w4 ⟨rfl, b4⟩; have q4 := (z4.call b4).cell (j := 0) rfl)
    | (go_at_call 13; refine (treeCheck_tr au nu cu m _ (hT3.keep b4)).mono ?_; rintro e w5 ⟨rfl, b5⟩)
    | (go_at_call 26; refine (keepPairs_any m a3 av k3 cv _ _ _ (by omega) ((hO3.keep b4).keep b5) ((hO2'.keep b4).keep b5)).mono ?_; rintro e w6 ⟨rfl, q, rfl⟩))
  go_ret
  exact ⟨rfl, below_dqT (below_stepE (below_stepE hB3' hB3'.size b4) (Nat.le_trans hB3'.size b4.size) b5) q⟩
end Go.Proofs.Ytopgakdgifmecaa
