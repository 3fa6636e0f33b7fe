/-
  CONTRACT of sameLists (of the laws with the answer).
  CONDITIONS: each theorem's own hypotheses.
-/
import Derived.Test.YtcnemacakjemjaaDoorRowT
import Derived.Test.YtcnemacakjemjaaDoorGBase
import Derived.Test.YtcnemacakjemjaaDoorGReg
import Derived.Deep.Cut
namespace Go.Proofs.YtcnemacakjemjaaDoor
open Go.RowKit CodeMath
set_option linter.unusedVariables false

set_option maxRecDepth 100000 in
set_option maxHeartbeats 2000000 in
theorem lawLists_any (rows rows' : List (List UInt8)) (ap ap' : Option Addr) (cp cp' : Nat) (w : World) (hl : Lines w ap rows) (hl' : Lines w ap' rows') (hm : rows.length ≤ 9223372036854775807) (hm' : rows'.length ≤ 9223372036854775807) :
    Calls Tryd.prog 14 #[.slice ap rows.length cp, .slice ap' rows'.length cp'] w fun e w' => e = .returned (.bool (decide (rows = rows'))) ∧ Below w.heap.size w w' := by
  have hB := Below.refl w.heap.size w
  obtain ⟨B, hBd⟩ : ∃ B, decide (rows = rows') = B := ⟨_, rfl⟩
  rw [hBd]
  have HD := Lib.hid hBd
  clear hBd
  by_cases hlen : rows.length = rows'.length
  · obtain ⟨n, hn⟩ : ∃ n, rows.length = n := ⟨_, rfl⟩
    have hn' : rows'.length = n := by omega
    rw [hn, hn']
    rw [hn] at hm
    have HN := Lib.hid hn
    have HN' := Lib.hid hn'
    have nI : (n : Int) ≤ 9223372036854775807 := by omega
    clear hlen hn hn' hm'
    go_enter Tryd.func14, Tryd.ntmps14
    go_wp2_with fail
    go_loopw [13] (fun ix wr => ∃ i : Nat, i ≤ n ∧ ix = .int .i64 i ∧ Hid (rows.take i = rows'.take i) ∧ Below w.heap.size w wr) (fun ix _ => n - (intOf ix).toNat)
    case atStart => exact ⟨0, Nat.zero_le _, rfl, Lib.hid rfl, hB⟩
    case round =>
      obtain ⟨i, hi, rfl, ht, hbr⟩ := hrel
      by_cases hlt : i < n
      · have iI : (i : Int) < n := by omega
        obtain ⟨l, hli⟩ : ∃ l, rows[i]? = some l := ⟨_, List.getElem?_eq_getElem (by rw [HN.out]; exact hlt)⟩
        obtain ⟨l', hli'⟩ : ∃ l, rows'[i]? = some l := ⟨_, List.getElem?_eq_getElem (by rw [HN'.out]; exact hlt)⟩
        rcases hl with h0 | ⟨a, o, rfl, h2, h3⟩
        · rw [h0] at hli; simp at hli
        · rcases hl' with h0 | ⟨a', o', rfl, h2', h3'⟩
          · rw [h0] at hli'; simp at hli'
          · obtain ⟨al, cl, k1, k2, k3, k4, k5⟩ := h3 i l hli
            obtain ⟨al', cl', k1', k2', k3', k4', k5'⟩ := h3' i l' hli'
            have q1 : ∀ W, Below wr.heap.size wr W → W.cell? ⟨a, o + i, none⟩ = some (.slice al l.length cl) := fun W hW => ((below_step hbr hbr.size hW).cell (p := ⟨a, o + i, none⟩) h2).trans k1
            have q1' : ∀ W, Below wr.heap.size wr W → W.cell? ⟨a', o' + i, none⟩ = some (.slice al' l'.length cl') := fun W hW => ((below_step hbr hbr.size hW).cell (p := ⟨a', o' + i, none⟩) h2').trans k1'
            have c1 : ∀ W, Below wr.heap.size wr W → (convert 37 9 (.slice al l.length cl)).run Tryd.prog W = .ok (.string (str l)) W := fun W hW => bytes_string (k5.keep (below_step hbr hbr.size hW))
            have c1' : ∀ W, Below wr.heap.size wr W → (convert 37 9 (.slice al' l'.length cl')).run Tryd.prog W = .ok (.string (str l')) W := fun W hW => bytes_string (k5'.keep (below_step hbr hbr.size hW))
            have hst : ((str l).toList == (str l').toList) = decide (l = l') := by rw [str_toList, str_toList]; by_cases h : l = l' <;> simp [h]
            obtain ⟨S, hS⟩ : ∃ S, str l = S := ⟨_, rfl⟩
            obtain ⟨S', hS'⟩ : ∃ S, str l' = S := ⟨_, rfl⟩
            obtain ⟨bq, hbq⟩ : ∃ bq, decide (l = l') = bq := ⟨_, rfl⟩
            rw [hS] at c1 hst
            rw [hS'] at c1' hst
            rw [hbq] at hst
            have HB := Lib.hid hbq
            have hnl : Hid (l = l' → rows.take (i + 1) = rows'.take (i + 1)) := fun h => by rw [take_next rows i l hli, take_next rows' i l' hli', ht.out, h]
            have hne : Hid (¬ l = l' → B = false) := fun h => by
              rw [← HD.out]
              refine decide_eq_false (fun hh => h ?_)
              rw [hh, hli'] at hli
              exact (Option.some.inj hli).symm
            have HI := Lib.hid hlt
            generalize l.length = ll at *
            generalize l'.length = ll' at *
            have Q1 := Lib.hid q1
            have Q1' := Lib.hid q1'
            have C1 := Lib.hid c1
            have C1' := Lib.hid c1'
            clear hS hS' hbq hli hli' h3 h3' k1 k1' k5 k5' ht hlt q1 q1' c1 c1' h2 h2' k2 k2' k3 k3' k4 k4'
            go_upto_region 6 with fail
            refine wp_region_det 11 (by kernel_rfl) (by kernel_rfl) (by kernel_rfl) ?_
            simp only [List.take_succ_cons, List.take_zero, List.drop_succ_cons, List.drop_zero]
            repeat (apply wpDet_plain _ rfl; (focus (intro W hW; have q2 := Q1.out W hW; have q3 := Q1'.out W hW; have q4 := C1.out W hW; have q5 := C1'.out W hW; go_simp; exact ⟨rfl, Below.refl _ _⟩)); simp only [Act.put, List.setIfInBounds_toArray, List.set_cons_zero, List.set_cons_succ])
            refine wpDet_nil ?_
            intro W9 hW9
            have hbr9 := below_step hbr hbr.size hW9
            clear hbr hW9 Q1 Q1' C1 C1'
            cases bq with
            | true =>
              have hll := of_decide_eq_true HB.out
              go_wp2_with fail
              go_roundw
              case rel => exact ⟨i + 1, HI.out, by go_num, Lib.hid (hnl.out hll), hbr9⟩
              case measure => have := HI.out; simp [intOf]; omega
            | false =>
              have hll := hne.out (of_decide_eq_false HB.out)
              subst hll
              go_wp2_with fail
              go_ret
              exact ⟨rfl, hbr9⟩
      · have iI : ¬ (i : Int) < n := by omega
        have hBt : B = true := by
          rw [← HD.out]
          refine decide_eq_true ?_
          have h1 := ht.out
          rw [List.take_of_length_le (by rw [HN.out]; omega), List.take_of_length_le (by rw [HN'.out]; omega)] at h1
          exact h1
        subst hBt
        clear ht hlt
        go_wp2_with fail
        go_ret
        exact ⟨rfl, hbr⟩
  · have hBf : B = false := by
      rw [← HD.out]
      exact decide_eq_false (fun h => hlen (by rw [h]))
    subst hBf
    have hI : ¬ (rows.length : Int) = rows'.length := by omega
    clear hl hl'
    generalize rows.length = n at *
    generalize rows'.length = n' at *
    go_enter Tryd.func14, Tryd.ntmps14
    go_wp2_with fail
    go_ret
    exact ⟨rfl, hB⟩
end Go.Proofs.YtcnemacakjemjaaDoor
