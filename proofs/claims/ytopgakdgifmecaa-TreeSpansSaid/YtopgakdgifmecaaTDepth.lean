/-
  CONTRACT of package tree's depth.
  CONDITIONS: each theorem's own hypotheses.
-/
import Derived.Test.YtopgakdgifmecaaTRows
namespace Go.Proofs.Ytopgakdgifmecaa
open Go.RowKit
set_option linter.unusedVariables false
set_option maxRecDepth 100000

mutual
def htT : Tr → Nat
  | .mk _ ks => htL ks
def htL : List Tr → Nat
  | [] => 0
  | t :: ts => max (htT t + 1) (htL ts)
end
theorem ht_mem : ∀ {ks : List Tr} {t : Tr}, t ∈ ks → htT t + 1 ≤ htL ks
  | [], t, h => by cases h
  | x :: ks, t, h => by
    simp only [htL]
    rcases List.mem_cons.1 h with rfl | h
    · omega
    · have := ht_mem h; omega
theorem htL_le (n : Nat) : ∀ ks : List Tr, (∀ t ∈ ks, htT t + 1 ≤ n) → htL ks ≤ n
  | [], _ => Nat.zero_le _
  | x :: ks, h => by
    simp only [htL]
    have := h x (List.mem_cons_self ..)
    have := htL_le n ks (fun t ht => h t (List.mem_cons_of_mem _ ht))
    omega
theorem deT_ht : ∀ t : Tr, (deT t).d ≤ htT t
  | .mk es [] => by simp [deT]
  | .mk es (k :: ks) => by
    have := deT_ht k
    simp only [deT, htT, htL]
    omega
theorem branch_ht (ns : List Nq) : ∀ f i, htT (branchQ ns f i) ≤ f
  | 0, i => by simp [branchQ, htT, htL]
  | f + 1, i => by
    simp only [branchQ, htT]
    refine htL_le _ _ (fun t ht => ?_)
    obtain ⟨k, _, rfl⟩ := List.mem_map.1 ht
    have := branch_ht ns f k
    omega
mutual
theorem NdT.lt {w : World} : ∀ {t : Tr} {p : Nat} {F : List Nat}, NdT w t p F → ∀ b ∈ F, b < w.heap.size
  | .mk es ks, p, F, h, b, hb => by
    simp only [NdT] at h
    obtain ⟨vE, vK, ps, Fk, h1, h2, h3, h4, rfl⟩ := h
    rcases List.mem_cons.1 hb with rfl | hb
    · exact h1.lt
    · rcases List.mem_append.1 hb with hb | hb
      · exact (h2.lt b (Option.mem_toList.1 hb)).2
      · rcases List.mem_append.1 hb with hb | hb
        · exact (h3.lt b (Option.mem_toList.1 hb)).2
        · exact NdL.lt h4 b hb
theorem NdL.lt {w : World} : ∀ {ts : List Tr} {ps F : List Nat}, NdL w ts ps F → ∀ b ∈ F, b < w.heap.size
  | [], ps, F, h, b, hb => by simp only [NdL] at h; rw [h.2] at hb; cases hb
  | t :: ts, ps, F, h, b, hb => by
    simp only [NdL] at h
    obtain ⟨p, ps', F1, F2, rfl, rfl, h1, h2⟩ := h
    rcases List.mem_append.1 hb with hb | hb
    · exact NdT.lt h1 b hb
    · exact NdL.lt h2 b hb
end
theorem NdT.below {w w1 : World} {t : Tr} {p : Nat} {F : List Nat} (h : NdT w t p F) (hb : Below w.heap.size w w1) : NdT w1 t p F := h.same (fun b hF => hb.block b (h.lt b hF))
/-- A node, opened. -/
theorem NdT.open {w : World} {es : List En} {ks : List Tr} {p : Nat} {F : List Nat} (h : NdT w (.mk es ks) p F) : ∃ (ae ak : Option Addr) (ce ck : Nat), Blk w p 83 [.slice ae es.length ce, .slice ak ks.length ck] ∧ p < w.heap.size ∧ ks.length ≤ ck ∧ ck ≤ 9223372036854775807 ∧ OwnE w 0 (.slice ae es.length ce) es ∧
    (∀ j t, ks[j]? = some t → ∃ b q G, ak = some ⟨b, 0, none⟩ ∧ b < w.heap.size ∧ w.cell? ⟨b, j, none⟩ = some (.pointer (some ⟨q, 0, none⟩)) ∧ NdT w t q G) := by
  simp only [NdT] at h
  obtain ⟨vE, vK, ps, Fk, h1, h2, h3, h4, rfl⟩ := h
  obtain ⟨ae, ce, rfl, -⟩ := owns_shape h2
  obtain ⟨ak, ck, rfl, hc1, hc2, -⟩ := owns_shape h3
  have hl := h4.len
  rw [hl] at h1 h3 hc1
  refine ⟨ae, ak, ce, ck, h1, h1.lt, hc1, hc2, h2, fun j t hj => ?_⟩
  obtain ⟨q, G, g1, g2, -⟩ := h4.at hj
  obtain ⟨b, e1, e2, -, e3⟩ := h3.cell g1
  exact ⟨b, q, G, e1, e2, e3, g2⟩
theorem deL_cons (d : Nat) (t : Tr) (l : List Tr) : deL d (t :: l) = (((deT t).e && (deT t).d == d) && deL d l) := by simp only [deL]
set_option maxHeartbeats 16000000 in
theorem depth_any : ∀ (n : Nat), n ≤ 1000 → ∀ (t : Tr) (p : Nat) (F : List Nat) (w : World), NdT w t p F → htT t < n →
    Calls Try.prog 43 #[.pointer (some ⟨p, 0, none⟩)] w fun e w' => e = .returned (.tuple #[.int .i64 ((deT t).d : Int), .bool (deT t).e]) ∧ Below w.heap.size w w' := by
  intro n
  induction n with
  | zero => intro _ t p F w _ h; omega
  | succ n ih =>
    intro hn t p F w h ht
    cases t with
    | mk es ks =>
    obtain ⟨ae, ak, ce, ck, hB, hp, hc1, hc2, hE, hK⟩ := h.open
    have cLeaf := leaf_any p ae ak es.length ks.length ce ck w hB
    cases ks with
    | nil =>
      simp only [deT]
      rw [show (([] : List Tr).length == 0) = true from rfl] at cLeaf
      clear hB hE hK h ht ih hc1 hc2
      go_enter Try.func43, Try.ntmps43
      go_wp2_with fail
      refine cLeaf.mono ?_
      rintro e w ⟨rfl, rfl⟩
      clear cLeaf
      go_wp2_with fail
      go_ret2
      exact ⟨rfl, Below.refl _ _⟩
    | cons k0 rest =>
      have hkid : ∀ j t, (k0 :: rest)[j]? = some t → ∃ b q, ak = some ⟨b, 0, none⟩ ∧ b < w.heap.size ∧ w.cell? ⟨b, j, none⟩ = some (.pointer (some ⟨q, 0, none⟩)) ∧ ∀ W, Below w.heap.size w W → Calls Try.prog 43 #[.pointer (some ⟨q, 0, none⟩)] W fun e w' => e = .returned (.tuple #[.int .i64 ((deT t).d : Int), .bool (deT t).e]) ∧ Below W.heap.size W w' := fun j t hj => by
        obtain ⟨b, q, G, h1, h2, h3, h4⟩ := hK j t hj
        refine ⟨b, q, h1, h2, h3, fun W hW => ih (by omega) t q G W (h4.below hW) ?_⟩
        have := ht_mem (List.mem_of_getElem? hj)
        simp only [htT] at ht
        omega
      have hd0 : (deT k0).d ≤ 1000 := by
        have := deT_ht k0
        simp only [htT, htL] at ht
        omega
      have hD : deT (.mk es (k0 :: rest)) = ⟨(deT k0).d + 1, (deT k0).e && deL (deT k0).d rest⟩ := by simp only [deT]
      rw [hD]
      simp only
      rw [show ((k0 :: rest).length == 0) = false from rfl] at cLeaf
      obtain ⟨b, q0, rfl, hb, x0, c0⟩ := hkid 0 k0 rfl
      have hrest : ∀ j, j < rest.length → ∃ t q, rest.drop j = t :: rest.drop (j + 1) ∧ w.cell? ⟨b, 1 + j, none⟩ = some (.pointer (some ⟨q, 0, none⟩)) ∧ ∀ W, Below w.heap.size w W → Calls Try.prog 43 #[.pointer (some ⟨q, 0, none⟩)] W fun e w' => e = .returned (.tuple #[.int .i64 ((deT t).d : Int), .bool (deT t).e]) ∧ Below W.heap.size W w' := fun j hj => by
        obtain ⟨b', q, h1, h2, h3, h4⟩ := hkid (j + 1) rest[j] (by simp [hj])
        cases h1
        exact ⟨rest[j], q, List.drop_eq_getElem_cons hj, by rw [Nat.add_comm]; exact h3, h4⟩
      have HR := Lib.hid hrest
      have hend : Hid (∀ j, ¬ j < rest.length → rest.drop j = []) := Lib.hid (fun j hj => List.drop_of_length_le (by omega))
      obtain ⟨d0, hdd⟩ : ∃ d, (deT k0).d = d := ⟨_, rfl⟩
      obtain ⟨R, hRR⟩ : ∃ R, ((deT k0).e && deL (deT k0).d rest) = R := ⟨_, rfl⟩
      rw [hRR]
      have hR0 : Hid (((deT k0).e && deL d0 (rest.drop 0)) = R) := Lib.hid (by rw [List.drop_zero, ← hdd]; exact hRR)
      rw [hdd] at hd0 c0 ⊢
      generalize (deT k0).e = e0 at *
      rw [List.length_cons] at hB hc1
      generalize rest.length = M at *
      have hm0 : (0 : Int) < ((M + 1 : Nat) : Int) := by omega
      have p0 := hB.cell (j := 1) rfl
      have HP : Hid (∀ W, Below w.heap.size w W → W.cell? ⟨p, 1, none⟩ = some (.slice (some ⟨b, 0, none⟩) (M + 1) ck)) := Lib.hid (fun W hW => (hW.cell (p := ⟨p, 1, none⟩) hp).trans p0)
      have HB := Lib.hid hb
      generalize es.length = el at *
      clear hB hE hK hkid hrest hD hRR hdd ih h ht hp hb
      go_enter Try.func43, Try.ntmps43
      go_wp2_with fail
      refine cLeaf.mono ?_
      rintro e w ⟨rfl, rfl⟩
      clear cLeaf
      go_wp2_with fail
      refine (c0 _ (Below.refl _ _)).mono ?_
      rintro e w2 ⟨rfl, hb2⟩
      clear c0 x0 p0
      have p2 := HP.out w2 hb2
      have HB2 := Lib.hid hb2
      clear hb2
      go_wp2_with fail
      all_goals
        go_loopw [3, 26] (fun ev ix wr => ∃ (j : Nat) (bb : Bool), j ≤ M ∧ ix = .int .i64 j ∧ ev = .bool bb ∧ Hid ((bb && deL d0 (rest.drop j)) = R) ∧ Hid (Below w.heap.size w wr)) (fun _ ix _ => M - (intOf ix).toNat)
        case atStart => exact ⟨0, e0, Nat.zero_le _, rfl, rfl, hR0, HB2⟩
        case round =>
          obtain ⟨j, bb, hj, rfl, rfl, hrr, hbw⟩ := hrel
          clear HB2 hR0 p2
          by_cases hlt : j < M
          · first
            | (exfalso; omega)
            | have iI : (j : Int) < (M : Int) := by omega
              obtain ⟨t, q, hdr, xq, cq⟩ := HR.out j hlt
              have xw := (hbw.out.cell (p := ⟨b, 1 + j, none⟩) HB.out).trans xq
              have cc := cq wr hbw.out
              have hr2 := hrr.out
              rw [hdr, deL_cons] at hr2
              obtain ⟨dt, hdt⟩ : ∃ d, (deT t).d = d := ⟨_, rfl⟩
              obtain ⟨et, het⟩ : ∃ d, (deT t).e = d := ⟨_, rfl⟩
              rw [hdt, het] at hr2 cc
              obtain ⟨z, hz⟩ : ∃ z, (dt == d0) = z := ⟨_, rfl⟩
              have hzI : ((dt : Int) == (d0 : Int)) = z := by rw [← hz]; cases h : (dt == d0) <;> simp at h ⊢ <;> omega
              rw [hz] at hr2
              have HR2 := Lib.hid hr2
              clear hz
              clear xq cq hr2 hdr hdt het hrr
              go_wp2_with fail
              refine cc.mono ?_
              rintro e w3 ⟨rfl, hb3⟩
              have HB3 := Lib.hid (below_stepE hbw.out hbw.out.size hb3)
              clear cc hb3 hbw xw
              cases bb
              · have HN : Hid ((false && deL d0 (rest.drop (j + 1))) = R) := Lib.hid (by rw [← HR2.out]; simp)
                clear HR2
                go_wp2_with fail
                go_roundw
                case rel => exact ⟨j + 1, false, by omega, by go_num, rfl, HN, HB3⟩
                case measure => simp [intOf]; omega
              · cases et
                · have HN : Hid ((false && deL d0 (rest.drop (j + 1))) = R) := Lib.hid (by rw [← HR2.out]; simp)
                  clear HR2
                  go_wp2_with fail
                  go_roundw
                  case rel => exact ⟨j + 1, false, by omega, by go_num, rfl, HN, HB3⟩
                  case measure => simp [intOf]; omega
                · have HN : Hid ((z && deL d0 (rest.drop (j + 1))) = R) := Lib.hid (by rw [← HR2.out]; simp)
                  clear HR2
                  go_wp2_with fail
                  go_roundw
                  case rel => exact ⟨j + 1, z, by omega, by go_num, rfl, HN, HB3⟩
                  case measure => simp [intOf]; omega
          · have iI : ¬ (j : Int) < (M : Int) := by omega
            have hr2 := hrr.out
            rw [hend.out j hlt] at hr2
            have hbR : bb = R := by rw [← hr2]; simp [deL]
            subst hbR
            clear hr2 hrr
            go_wp2_with fail
            go_ret2
            exact ⟨by push_cast; rfl, hbw.out⟩
end Go.Proofs.Ytopgakdgifmecaa
