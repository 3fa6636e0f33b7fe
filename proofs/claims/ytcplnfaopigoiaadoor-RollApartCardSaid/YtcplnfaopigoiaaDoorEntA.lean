/-
  CONTRACT of the laws' entriesOf; entries that are short have roots.
  CONDITIONS: each theorem's own hypotheses.
-/
import Derived.Test.YtcplnfaopigoiaaDoorPartsK
import Derived.Test.YtcplnfaopigoiaaDoorRollC
import Derived.Test.YtcplnfaopigoiaaDoorRollQ
namespace Go.Proofs.YtcplnfaopigoiaaDoor
open Go.RowKit CodeMath Go.Proofs.YtcplnfaopigoiaaDoor.FrameMath
set_option linter.unusedVariables false
set_option maxRecDepth 100000

def entL (l : List R) : List (List UInt8) := (l.take 20).map (R.cut · 12)
theorem entL_length (l : List R) : (entL l).length ≤ 20 := by unfold entL; simp; omega
theorem entL_each (l : List R) : ∀ p ∈ entL l, p.length ≤ 12 := by
  intro p hp
  obtain ⟨r, _, rfl⟩ := List.mem_map.1 hp
  unfold R.cut; rw [List.length_take]; omega
theorem digB_pos (m : Int) (t : Nat) (ps : List (List UInt8)) : 0 < (digB m t ps).length := by
  unfold digB
  split
  · rw [frame_length]; omega
  · rw [ShaMath.sha_length]; decide
theorem digR_fits (m : Int) (hm : isMode m = true) (t : Int) (ht : 1 ≤ t ∧ t ≤ 9) (ps : List (List UInt8)) (h8 : ps.length ≤ 8) (hs : total ps ≤ 1000000) : digR m t ps = .ok (digB m t.toNat ps) ∧ 0 < (digB m t.toNat ps).length ∧ (digB m t.toNat ps).length ≤ 34 + total ps := by
  refine ⟨?_, digB_pos _ _ _, by have := digB_length m t.toNat ps; omega⟩
  unfold digR
  rw [if_neg (by rw [hm]; decide), if_neg (by simpa using ht), if_neg (by omega)]
theorem roll_fits (m : Int) (hm : isMode m = true) : ∀ (n : Nat) (l : List (List UInt8)), l.length ≤ n → n ≤ 64 → (∀ x ∈ l, x.length ≤ 12) → ∃ z, rollR m l = .ok z ∧ 0 < z.length ∧ z.length ≤ 92 * l.length + 34 ∧ (1 ≤ l.length → z.length + 42 ≤ 92 * l.length)
  | 0, l, hn, h64, hx => by
    obtain rfl := List.eq_nil_of_length_eq_zero (Nat.le_zero.1 hn)
    obtain ⟨h1, h2, h3⟩ := digR_fits m hm 4 ⟨by decide, by decide⟩ [] (by simp) (by simp [total])
    exact ⟨_, by rw [rollR_nil]; exact h1, h2, by simp [total] at h3; simp; omega, by simp⟩
  | n + 1, l, hn, h64, hx => by
    match l with
    | [] =>
      obtain ⟨h1, h2, h3⟩ := digR_fits m hm 4 ⟨by decide, by decide⟩ [] (by simp) (by simp [total])
      exact ⟨_, by rw [rollR_nil]; exact h1, h2, by simp [total] at h3; simp; omega, by simp⟩
    | [x] =>
      have hxl := hx x (by simp)
      have ht : total [x] = 4 + x.length := by simp [total]
      obtain ⟨h1, h2, h3⟩ := digR_fits m hm 5 ⟨by decide, by decide⟩ [x] (by simp) (by omega)
      exact ⟨_, by rw [rollR_one]; exact h1, h2, by rw [ht] at h3; show _ ≤ 92 * 1 + 34; omega, fun _ => by rw [ht] at h3; show _ + 42 ≤ 92 * 1; omega⟩
    | a :: b :: r =>
      have h2 : 2 ≤ (a :: b :: r).length := by simp
      obtain ⟨k0, k1, k2⟩ := hf_lt h2
      generalize a :: b :: r = l at *
      have l1 : (l.take (hf l.length)).length = hf l.length := by rw [List.length_take]; omega
      have l2 : (l.drop (hf l.length)).length = l.length - hf l.length := by rw [List.length_drop]
      obtain ⟨x, hx1, hx2, hx3, hx4⟩ := roll_fits m hm n (l.take (hf l.length)) (by omega) (by omega) (fun y hy => hx y (List.mem_of_mem_take hy))
      obtain ⟨y, hy1, hy2, hy3, hy4⟩ := roll_fits m hm n (l.drop (hf l.length)) (by omega) (by omega) (fun y hy => hx y (List.mem_of_mem_drop hy))
      have hx5 := hx4 (by omega)
      have hy5 := hy4 (by omega)
      rw [l1] at hx5
      rw [l2] at hy5
      have ht : total [x, y] = 4 + x.length + (4 + y.length) := by simp [total]
      obtain ⟨g1, g2, g3⟩ := digR_fits m hm 6 ⟨by decide, by decide⟩ [x, y] (by simp) (by omega)
      exact ⟨_, by rw [rollR_two m l h2, hx1, hy1]; exact g1, g2, by omega, fun _ => by omega⟩
set_option maxRecDepth 100000 in
set_option maxHeartbeats 2000000 in
theorem entK_any (l : List R) (ao : Option Addr) (cap : Nat) (w : World) (hcap : l.length ≤ cap) (hq : cap ≤ 9223372036854775807) (hR : Raws w ao l) :
    Calls Tryd.prog 26 #[.slice ao l.length cap] w fun e w' => ∃ v, e = .returned v ∧ OwnL w' w.heap.size v (entL l) ∧ Below w.heap.size w w' := by
  have cS := fun W => someK_any ao l.length cap 20 20 rfl (by decide) W hcap (by omega)
  obtain ⟨n, hn⟩ : ∃ n, l.length = n := ⟨_, rfl⟩
  obtain ⟨m, hm⟩ : ∃ m, min n 20 = m := ⟨_, rfl⟩
  have hml : m ≤ l.length := by omega
  have hm8 : m ≤ 20 := by omega
  rw [hn] at cS ⊢
  rw [hm] at cS
  have hpl : entL l = (l.take m).map (R.cut · 12) := by
    unfold entL
    rw [← hm, ← hn]
    congr 1
    rw [List.take_eq_take_iff]; omega
  rw [hpl]
  obtain ⟨PL, hPL⟩ : ∃ PL, (l.take m).map (R.cut · 12) = PL := ⟨_, rfl⟩
  rw [hPL]
  have HPL := Lib.hid hPL
  clear hPL
  have HML := Lib.hid hml
  have hget : ∀ j r, l[j]? = some r → ∃ a o, ao = some ⟨a, o, none⟩ ∧ a < w.heap.size ∧ w.cell? ⟨a, o + j * 4, none⟩ = some (.int .i64 r.k) ∧ w.cell? ⟨a, o + j * 4 + 1, none⟩ = some (.int .i64 r.a) ∧ w.cell? ⟨a, o + j * 4 + 2, none⟩ = some (.int .i64 r.b) ∧ w.cell? ⟨a, o + j * 4 + 3, none⟩ = some (.string r.s) := fun j r hj => by
    rcases hR.2 with h | ⟨a, o, h1, h2, h3⟩
    · rw [h] at hj; simp at hj
    · exact ⟨a, o, h1, h2, h3 j r hj⟩
  have HG := Lib.hid hget
  have mI : (m : Int) ≤ 20 := by omega
  clear hn hm hml hpl hR hget hcap
  go_enter Tryd.func26, Tryd.ntmps26
  go_wp2_with fail
  refine (cS _).mono ?_
  rintro e w1 ⟨rfl, rfl⟩
  clear cS
  go_wp2_with fail
  go_loopw [3, 9] (fun u i wr => ∃ (j : Nat) (acc : List (List UInt8)), j ≤ m ∧ i = .int .i64 j ∧ Hid (acc = (l.take j).map (R.cut · 12)) ∧ Hid (acc.length = j) ∧ OwnL wr w.heap.size u acc ∧ Below w.heap.size w wr) (fun _ i _ => m - (intOf i).toNat)
  case atStart => exact ⟨0, [], Nat.zero_le _, rfl, Lib.hid (by simp), Lib.hid rfl, OwnL.nil _ _, Below.refl _ _⟩
  case round =>
    obtain ⟨j, acc, hj, rfl, hv, hvl, ho, hbw⟩ := hrel
    by_cases h1 : j < m
    · have h1I : (j : Int) < m := by omega
      obtain ⟨r, hr⟩ : ∃ r, l[j]? = some r := ⟨_, List.getElem?_eq_getElem (Nat.lt_of_lt_of_le h1 HML.out)⟩
      obtain ⟨a, o, rfl, ha, c0, c1, c2, c3⟩ := HG.out j r hr
      have d0 := (hbw.cell (p := ⟨a, o + j * 4, none⟩) ha).trans c0
      have d1 := (hbw.cell (p := ⟨a, o + j * 4 + 1, none⟩) ha).trans c1
      have d2 := (hbw.cell (p := ⟨a, o + j * 4 + 2, none⟩) ha).trans c2
      have d3 := (hbw.cell (p := ⟨a, o + j * 4 + 3, none⟩) ha).trans c3
      have hac : acc.length ≤ 1000000 := by rw [hvl.out]; omega
      have HN : Hid (acc ++ [r.cut 12] = (l.take (j + 1)).map (R.cut · 12)) := by
        show _ = _
        rw [List.take_succ_eq_append_getElem (Nat.lt_of_lt_of_le h1 HML.out), List.map_append, ← hv.out, (List.getElem?_eq_some_iff.1 hr).2]
        rfl
      have HL : Hid ((acc ++ [r.cut 12]).length = j + 1) := by have := hvl.out; show _ = _; rw [List.length_append, this]; rfl
      obtain ⟨q, hq'⟩ : ∃ q, min r.s.size 12 = q := ⟨_, rfl⟩
      have hqs : q ≤ r.s.size := by omega
      have hcut : ∀ (x : Int), x = (q : Int) → ∀ W, (Instr.slice 9 (.string r.s) none (some (.int .i64 x)) none).run Tryd.prog W = .ok (.string (str (r.cut 12))) W := fun x hx W => by
        rw [cut_head r.s q x hx hqs W]
        have : r.s.data.toList.take q = r.cut 12 := by
          unfold R.cut
          rw [List.take_eq_take_iff]
          have : r.s.data.toList.length = r.s.size := Array.length_toList
          omega
        rw [this]
      have hmin : ∀ (ts : Array TypeId) (t : TypeId) (W : World), (Builtin.min_ ts t #[.int .i64 (r.s.size : Int), .int .i64 12]).run Tryd.prog W = .ok (.int .i64 (q : Int)) W := fun ts t W => by
        rw [run_min_int2, ← hq']
        congr 2
        split <;> omega
      have hcutq := hcut (q : Int) rfl
      have hpl : (r.cut 12).length ≤ 9223372036854775807 := by unfold R.cut; rw [List.length_take]; omega
      have cv := fun W => bytesOf_T (r.cut 12) W hpl
      generalize r.cut 12 = p at *
      generalize str p = SP at *
      have H1 := Lib.hid h1
      have hs := hbw.size
      have ho1 : ∀ o, OwnL (wr.alloc o) w.heap.size _ acc := fun ob => ho.keep ((Below.refl _ _).alloc (Nat.le_refl _) ob)
      have hba : ∀ o, Below w.heap.size w (wr.alloc o) := fun ob => hbw.alloc hs ob
      clear c0 c1 c2 c3 hr hv hvl ho hq' hcut hqs h1 hbw hpl
      go_upto_region 5 with fail
      obtain ⟨g, cg, W1, hcv, hrow, hbw1⟩ := cv (wr.alloc (.cells #[.int .i64 r.k, .int .i64 r.a, .int .i64 r.b, .string r.s] 48))
      have ho2 := (ho1 (.cells #[.int .i64 r.k, .int .i64 r.a, .int .i64 r.b, .string r.s] 48)).keep hbw1
      have hb2 := below_step (hba (.cells #[.int .i64 r.k, .int .i64 r.a, .int .i64 r.b, .string r.s] 48)) (hba _).size hbw1
      have hs2 := hb2.size
      generalize p.length = np at hcv hrow
      clear ho1 hba cv hbw1
      go_wp2_with (first
        | (at_builtin; refine wpList_append_line rfl _ _ rfl w.heap.size _ _ rfl ho2 _ p _ rfl rfl hrow hac hs2 ?_; intro v5 w5 ho5 hb5)
        | fail)
      go_roundw
      case rel => exact ⟨j + 1, _, H1.out, by go_num, HN, HL, ho5, hb2.trans hb5⟩
      case measure => have := H1.out; simp [intOf]; omega
    · have h1I : ¬ (j : Int) < m := by omega
      have hjm : j = m := by omega
      have HE : Hid (PL = acc) := by have := hv.out; rw [hjm] at this; show _ = _; rw [this, HPL.out]
      clear hjm hv hvl
      go_wp2_with fail
      go_ret
      rw [HE.out]
      exact ⟨_, rfl, ho, hbw⟩
end Go.Proofs.YtcplnfaopigoiaaDoor
