/-
  MERGED: KindW, KindX, KindY, KindP, KindZ, KindE, KindG.
  CONDITIONS: each theorem's own hypotheses.
-/
import Derived.Test.YtfedlchncngafaaGreatDoorKindV
import Derived.Test.YtfedlchncngafaaGreatDoorExprC
import Derived.Test.YtfedlchncngafaaGreatDoorGKindC
import Derived.Test.YtfedlchncngafaaGreatDoorExprF

/-! CONTRACTS of package kinds' gives, and of what asks hands on. CONDITIONS: each theorem's own hypotheses. -/
namespace Go.Proofs.YtfedlchncngafaaGreatDoor
open Go.RowKit
set_option linter.unusedVariables false
set_option maxRecDepth 100000

set_option maxHeartbeats 8000000 in
theorem gives_any (op a b : Int) (w : World) :
    Calls Tryz.prog 170 #[.int .i64 op, .agg #[.int .i64 a, .int .i64 b]] w fun e w' => e = .returned (.int .i64 (givesK op a b)) ∧ Below w.heap.size w w' := by
  obtain ⟨G, hG⟩ : ∃ G, givesK op a b = G := ⟨_, rfl⟩
  rw [hG]
  unfold givesK at hG
  by_cases h1 : op = 3 ∨ op = 5 ∨ op = 6 ∨ op = 7 ∨ op = 8 ∨ op = 18
  · rw [if_pos h1] at hG
    subst hG
    rcases h1 with rfl | rfl | rfl | rfl | rfl | rfl
    all_goals
      go_enter Tryz.func170, Tryz.ntmps170
      go_wp2_with fail
      go_ret
      exact ⟨rfl, (Below.refl _ _).alloc (Nat.le_refl _) _⟩
  · rw [if_neg h1] at hG
    have o3 : (op == 3) = false := by simpa using (fun e => h1 (by omega))
    have o5 : (op == 5) = false := by simpa using (fun e => h1 (by omega))
    have o6 : (op == 6) = false := by simpa using (fun e => h1 (by omega))
    have o7 : (op == 7) = false := by simpa using (fun e => h1 (by omega))
    have o8 : (op == 8) = false := by simpa using (fun e => h1 (by omega))
    have o18 : (op == 18) = false := by simpa using (fun e => h1 (by omega))
    clear h1
    by_cases h2 : op = 19
    · rw [if_pos h2] at hG
      have o19 : (op == 19) = true := by simp [h2]
      subst hG
      clear h2
      go_enter Tryz.func170, Tryz.ntmps170
      go_wp2_with fail
      go_ret
      exact ⟨rfl, (Below.refl _ _).alloc (Nat.le_refl _) _⟩
    · rw [if_neg h2] at hG
      have o19 : (op == 19) = false := by simpa using h2
      clear h2
      by_cases h3 : op = 20
      · rw [if_pos h3] at hG
        have o20 : (op == 20) = true := by simp [h3]
        have hm : max a b = G := by rw [← hG]; split <;> omega
        clear h3 hG
        go_enter Tryz.func170, Tryz.ntmps170
        go_wp2_with fail
        go_ret
        exact ⟨by simp [*], (Below.refl _ _).alloc (Nat.le_refl _) _⟩
      · rw [if_neg h3] at hG
        have o20 : (op == 20) = false := by simpa using h3
        subst hG
        clear h3
        go_enter Tryz.func170, Tryz.ntmps170
        go_wp2_with fail
        go_ret
        exact ⟨rfl, (Below.refl _ _).alloc (Nat.le_refl _) _⟩
set_option maxHeartbeats 4000000 in
theorem asksAny_any (a b : Int) (w : World) :
    Calls Tryz.prog 181 #[.agg #[.int .i64 a, .int .i64 b]] w fun e w' => e = .returned (.bool true) ∧ Below w.heap.size w w' := by
  go_enter Tryz.func181, Tryz.ntmps181
  go_wp2_with fail
  go_ret
  exact ⟨rfl, (Below.refl _ _).alloc (Nat.le_refl _) _⟩
set_option maxHeartbeats 4000000 in
theorem asksFits_any (a b : Int) (w : World) :
    Calls Tryz.prog 182 #[.agg #[.int .i64 a, .int .i64 b]] w fun e w' => e = .returned (.bool (fitsK a b)) ∧ Below w.heap.size w w' := by
  have c1 := fits_any a b
  generalize fitsK a b = F at *
  go_enter Tryz.func182, Tryz.ntmps182
  go_wp2_with fail
  refine (c1 _).mono ?_
  rintro e w1 ⟨rfl, rfl⟩
  clear c1
  go_wp2_with fail
  go_ret
  exact ⟨rfl, (Below.refl _ _).alloc (Nat.le_refl _) _⟩
end Go.Proofs.YtfedlchncngafaaGreatDoor

/-! CONTRACTS of package kinds' each and asks: the functions that they hand on, and what those answer. CONDITIONS: each theorem's own hypotheses. -/
namespace Go.Proofs.YtfedlchncngafaaGreatDoor
open Go.RowKit
set_option linter.unusedVariables false
set_option maxRecDepth 100000

set_option maxHeartbeats 4000000 in
theorem eachFits_any (a b k : Int) (g : Nat) (w : World) (hg : g < w.heap.size) (hc : w.cell? ⟨g, 0, none⟩ = some (.int .i64 k)) :
    Calls Tryz.prog 186 #[.agg #[.int .i64 a, .int .i64 b], .pointer (some ⟨g, 0, none⟩)] w fun e w' => e = .returned (.bool (fitsK a k && fitsK b k)) ∧ Below w.heap.size w w' := by
  have c1 := fits_any a k
  have c2 := fits_any b k
  generalize fitsK a k = F at *
  generalize fitsK b k = G at *
  obtain ⟨w2, hw2⟩ : ∃ w2, w.alloc (.cells #[.int .i64 a, .int .i64 b] 240) = w2 := ⟨_, rfl⟩
  have hb : Below w.heap.size w w2 := by rw [← hw2]; exact (Below.refl _ _).alloc (Nat.le_refl _) _
  have d0 := (hb.cell (p := ⟨g, 0, none⟩) hg).trans hc
  have p0 : w2.cell? ⟨w.heap.size, 0, none⟩ = some (.int .i64 a) := by rw [← hw2]; simp
  have p1 : w2.cell? ⟨w.heap.size, 1, none⟩ = some (.int .i64 b) := by rw [← hw2]; simp
  clear hc
  cases F
  · go_enter Tryz.func186, Tryz.ntmps186
    go_upto_region 1 with fail
    try rw [hw2]
    clear hw2
    go_wp2_with fail
    refine (c1 _).mono ?_
    rintro e w1 ⟨rfl, rfl⟩
    clear c1 c2
    go_wp2_with fail
    go_ret
    exact ⟨rfl, hb⟩
  · go_enter Tryz.func186, Tryz.ntmps186
    go_upto_region 1 with fail
    try rw [hw2]
    clear hw2
    go_wp2_with fail
    refine (c1 _).mono ?_
    rintro e w1 ⟨rfl, rfl⟩
    clear c1
    go_wp2_with fail
    refine (c2 _).mono ?_
    rintro e w1 ⟨rfl, rfl⟩
    clear c2
    go_wp2_with fail
    go_ret
    exact ⟨by simp, hb⟩
set_option maxHeartbeats 4000000 in
theorem each_any (k : Int) (w : World) :
    Calls Tryz.prog 180 #[.int .i64 k] w fun e w' => e = .returned (.func (.func 186) #[] #[.pointer (some ⟨w.heap.size, 0, none⟩)]) ∧ Below w.heap.size w w' ∧ w.heap.size < w'.heap.size ∧ w'.cell? ⟨w.heap.size, 0, none⟩ = some (.int .i64 k) := by
  go_enter Tryz.func180, Tryz.ntmps180
  go_wp2_with fail
  go_ret
  exact ⟨rfl, (Below.refl _ _).alloc (Nat.le_refl _) _, by simp, by simp⟩
set_option maxHeartbeats 8000000 in
theorem asksEach_any (op : Int) (w : World) (h : op = 3 ∨ op = 5 ∨ op = 6 ∨ op = 7 ∨ op = 8 ∨ op = 4 ∨ op = 15 ∨ op = 16 ∨ op = 18 ∨ op = 19) :
    Calls Tryz.prog 169 #[.int .i64 op] w fun e w' => e = .returned (.func (.func 186) #[] #[.pointer (some ⟨w.heap.size, 0, none⟩)]) ∧ Below w.heap.size w w' ∧ w.heap.size < w'.heap.size ∧ w'.cell? ⟨w.heap.size, 0, none⟩ = some (.int .i64 (asks0 op)) := by
  have c1 := fun k => each_any k w
  rcases h with rfl | rfl | rfl | rfl | rfl | rfl | rfl | rfl | rfl | rfl
  all_goals
    go_enter Tryz.func169, Tryz.ntmps169
    go_wp2_with fail
    refine (c1 _).mono ?_
    rintro e w1 ⟨rfl, hb, hs, hc⟩
    clear c1
    go_wp2_with fail
    go_ret
    exact ⟨rfl, hb, hs, hc⟩
set_option maxHeartbeats 8000000 in
theorem asksNone_any (w : World) :
    Calls Tryz.prog 169 #[.int .i64 17] w fun e w' => e = .returned (.func (.func 181) #[] #[]) ∧ w' = w := by
  go_enter Tryz.func169, Tryz.ntmps169
  go_wp2_with fail
  go_ret
  exact ⟨rfl, rfl⟩
set_option maxHeartbeats 8000000 in
theorem asksOne_any (op : Int) (w : World) (h : op = 9 ∨ op = 10 ∨ op = 11 ∨ op = 12 ∨ op = 13 ∨ op = 14 ∨ op = 20) :
    Calls Tryz.prog 169 #[.int .i64 op] w fun e w' => e = .returned (.func (.func 182) #[] #[]) ∧ w' = w := by
  rcases h with rfl | rfl | rfl | rfl | rfl | rfl | rfl
  all_goals
    go_enter Tryz.func169, Tryz.ntmps169
    go_wp2_with fail
    go_ret
    exact ⟨rfl, rfl⟩
set_option maxHeartbeats 8000000 in
theorem asksFor_any (op : Int) (w : World) (h : 3 ≤ op ∧ op ≤ 20) :
    Calls Tryz.prog 109 #[.int .i64 op] w fun e w' => e = .returned (.tuple #[.int .i64 (asks0 op), .int .i64 (gives0 op)]) ∧ w' = w := by
  rcases (show op = 3 ∨ op = 4 ∨ op = 5 ∨ op = 6 ∨ op = 7 ∨ op = 8 ∨ op = 9 ∨ op = 10 ∨ op = 11 ∨ op = 12 ∨ op = 13 ∨ op = 14 ∨ op = 15 ∨ op = 16 ∨ op = 17 ∨ op = 18 ∨ op = 19 ∨ op = 20 by omega) with rfl | rfl | rfl | rfl | rfl | rfl | rfl | rfl | rfl | rfl | rfl | rfl | rfl | rfl | rfl | rfl | rfl | rfl
  all_goals
    go_enter Tryz.func109, Tryz.ntmps109
    go_wp2_with fail
    go_ret2
    exact ⟨rfl, rfl⟩
end Go.Proofs.YtfedlchncngafaaGreatDoor

/-! CONTRACT of package kinds' ofGood, over that of ofOperation at parts of less depth. CONDITIONS: each theorem's own hypotheses. -/
namespace Go.Proofs.YtfedlchncngafaaGreatDoor
open Go.RowKit
set_option linter.unusedVariables false
set_option maxRecDepth 100000

/-- What ofGood answers of trees that are no deeper than n. -/
def OfOk (n : Nat) : Prop := ∀ (t : T) (ao : Option Addr) (cap : Nat) (cs : List Cl) (aoc : Option Addr) (capc : Nat) (w : World), t.deep ≤ n → formT t = 0 → AtT w t ao → t.kids.length ≤ 9223372036854775807 → cs.length ≤ 9223372036854775807 → Cols w aoc cs →
    Calls Tryz.prog 97 #[exprV t ao cap, .slice aoc cs.length capc] w fun e w' => e = .returned (.tuple #[.int .i64 (kT cs t).k, .bool (kT cs t).n, .int .i64 (kT cs t).f]) ∧ Below w.heap.size w w'
/-- What ofOperation answers of such trees that are operations. -/
def OfOp (n : Nat) : Prop := ∀ (t : T) (ao : Option Addr) (cap : Nat) (cs : List Cl) (aoc : Option Addr) (capc : Nat) (w : World), t.deep ≤ n → formT t = 0 → t.nd.op ≠ 1 → t.nd.op ≠ 2 → AtT w t ao → t.kids.length ≤ 9223372036854775807 → cs.length ≤ 9223372036854775807 → Cols w aoc cs →
    Calls Tryz.prog 134 #[exprV t ao cap, .slice aoc cs.length capc] w fun e w' => e = .returned (.tuple #[.int .i64 (kT cs t).k, .bool (kT cs t).n, .int .i64 (kT cs t).f]) ∧ Below w.heap.size w w'
theorem kT_lit (cs : List Cl) (t : T) (h : t.nd.op = 1) : kT cs t = ⟨t.nd.k, t.nd.k == 0, 0⟩ := by
  obtain ⟨d, l⟩ := t
  simp only [T.nd] at h
  simp only [kT, T.nd]; rw [if_pos h]
theorem kT_col (cs : List Cl) (t : T) (h : t.nd.op = 2) : kT cs t = colK t.nd.n cs := by
  obtain ⟨d, l⟩ := t
  simp only [T.nd] at h
  simp only [kT, T.nd]; rw [if_neg (by omega), if_pos h]
set_option maxHeartbeats 8000000 in
theorem ofGood_of (n : Nat) (hop : OfOp n) : OfOk n := by
  intro t ao cap cs aoc capc w hd hf hA hl hcl hC
  by_cases h1 : t.nd.op = 1
  · rw [kT_lit cs t h1]
    simp only [exprV_cells]
    generalize t.kids.length = L at *
    generalize t.nd = nd at *
    obtain ⟨op, k, i, b, s, nm⟩ := nd
    simp only at h1 ⊢
    subst h1
    generalize str s = S
    generalize str nm = N
    clear hop hd hf hA hC
    go_enter Tryz.func97, Tryz.ntmps97
    go_upto_region 3 with fail
    go_quiet (fail)
    have hbq := below_dqK ((Below.refl w.heap.size w).alloc (Nat.le_refl _) (.cells #[.int .i64 1, .int .i64 k, .int .i64 i, .int .u64 b, .string S, .string N, .slice ao L cap] 27)) nq
    go_wp2_with fail
    go_ret3
    exact ⟨rfl, hbq⟩
  · by_cases h2 : t.nd.op = 2
    · rw [kT_col cs t h2]
      have c1 := fun W (hW : Below w.heap.size w W) => ofColumn_any cs aoc capc t.nd.n W hcl (hC.keep hW)
      simp only [exprV_cells]
      generalize colK t.nd.n cs = R at *
      generalize t.kids.length = L at *
      generalize t.nd = nd at *
      obtain ⟨op, k, i, b, s, nm⟩ := nd
      simp only at h2 c1 ⊢
      subst h2
      generalize str s = S at *
      generalize str nm = N at *
      generalize cs.length = m at *
      clear hop hd hf hA hC h1
      go_enter Tryz.func97, Tryz.ntmps97
      go_wp2_with fail
      refine (c1 _ ((Below.refl _ _).alloc (Nat.le_refl _) _)).mono ?_
      rintro e w1 ⟨rfl, hb⟩
      have hbb : Below w.heap.size w w1 := ((Below.refl _ _).alloc (Nat.le_refl _) _).trans (hb.mono (by simp))
      clear c1 hb
      go_wp2_with fail
      go_ret3
      exact ⟨rfl, hbb⟩
    · have c1 := fun W (hW : Below w.heap.size w W) => hop t ao cap cs aoc capc W hd hf h1 h2 (hA.keep hW) hl hcl (hC.keep hW)
      simp only [exprV_cells] at c1 ⊢
      generalize kT cs t = R at *
      generalize t.kids.length = L at *
      generalize t.nd = nd at *
      obtain ⟨op, k, i, b, s, nm⟩ := nd
      simp only at h1 h2 c1 ⊢
      generalize str s = S at *
      generalize str nm = N at *
      generalize cs.length = m at *
      have o1 : (op == 1) = false := by simpa using h1
      have o2 : (op == 2) = false := by simpa using h2
      clear hop hd hf hA hC h1 h2
      go_enter Tryz.func97, Tryz.ntmps97
      go_wp2_with fail
      refine (c1 _ ((Below.refl _ _).alloc (Nat.le_refl _) _)).mono ?_
      rintro e w1 ⟨rfl, hb⟩
      have hbb : Below w.heap.size w w1 := ((Below.refl _ _).alloc (Nat.le_refl _) _).trans (hb.mono (by simp))
      clear c1 hb
      go_wp2_with fail
      go_ret3
      exact ⟨rfl, hbb⟩
end Go.Proofs.YtfedlchncngafaaGreatDoor

/-! CONTRACT of package kinds' ofOperation, over that of ofGood at parts of less depth. CONDITIONS: each theorem's own hypotheses. -/
namespace Go.Proofs.YtfedlchncngafaaGreatDoor
open Go.RowKit
set_option linter.unusedVariables false
set_option maxRecDepth 100000

theorem kP_take (cs : List Cl) (l : List T) (j : Nat) (t : T) (h : l[j]? = some t) : kP cs (l.take (j + 1)) = kP cs (l.take j) ++ [((kT cs t).k, (kT cs t).n)] := by
  obtain ⟨hj, he⟩ := List.getElem?_eq_some_iff.1 h
  rw [kP_map, kP_map, List.take_succ_eq_append_getElem hj, List.map_append, he]; rfl
theorem kP_len (cs : List Cl) (l : List T) : (kP cs l).length = l.length := by rw [kP_map, List.length_map]
theorem fst_snoc0 (m : List (Int × Bool)) (p : Int × Bool) (h : m.length = 0) : fstK (m ++ [p]) 0 = p.1 ∧ fstK (m ++ [p]) 1 = 0 := by
  rw [List.eq_nil_of_length_eq_zero h]; exact ⟨rfl, rfl⟩
theorem fst_snoc1 (m : List (Int × Bool)) (p : Int × Bool) (h : m.length = 1) : fstK (m ++ [p]) 0 = fstK m 0 ∧ fstK (m ++ [p]) 1 = p.1 := by
  match m, h with
  | [x], _ => exact ⟨rfl, rfl⟩
theorem nulls_snoc (m : List (Int × Bool)) (k : Int) (b : Bool) : nullsK (m ++ [(k, b)]) = nullsK m + (if b = true then 1 else 0) := by
  unfold nullsK
  rw [List.filter_append, List.length_append]
  cases b <;> rfl
/-- What the parts' kinds and nulls are behind j of them. -/
structure PartsAt (cs : List Cl) (l : List T) (j : Nat) (x0 x1 : Int) (nn : Nat) : Prop where
  a : fstK (kP cs (l.take j)) 0 = x0
  b : fstK (kP cs (l.take j)) 1 = x1
  c : nullsK (kP cs (l.take j)) = nn
theorem PartsAt.zero (cs : List Cl) (l : List T) : PartsAt cs l 0 0 0 0 := ⟨rfl, rfl, rfl⟩
theorem PartsAt.step0 {cs : List Cl} {l : List T} {x0 x1 : Int} {nn : Nat} {t : T} (h : PartsAt cs l 0 x0 x1 nn) (ht : l[0]? = some t) : PartsAt cs l 1 (kT cs t).k x1 (nn + if (kT cs t).n = true then 1 else 0) := by
  have e := kP_take cs l 0 t ht
  have hl : (kP cs (l.take 0)).length = 0 := by rw [kP_len]; simp
  have h2 := fst_snoc0 _ ((kT cs t).k, (kT cs t).n) hl
  refine ⟨by rw [e]; exact h2.1, by rw [e, h2.2]; exact h.b, by rw [e, nulls_snoc, h.c]⟩
theorem PartsAt.step1 {cs : List Cl} {l : List T} {x0 x1 : Int} {nn : Nat} {t : T} (h : PartsAt cs l 1 x0 x1 nn) (ht : l[1]? = some t) : PartsAt cs l 2 x0 (kT cs t).k (nn + if (kT cs t).n = true then 1 else 0) := by
  have e := kP_take cs l 1 t ht
  have hl : (kP cs (l.take 1)).length = 1 := by rw [kP_len, List.length_take]; have := (List.getElem?_eq_some_iff.1 ht).1; omega
  have h2 := fst_snoc1 _ ((kT cs t).k, (kT cs t).n) hl
  refine ⟨by rw [e, h2.1]; exact h.a, by rw [e]; exact h2.2, by rw [e, nulls_snoc, h.c]⟩
set_option maxHeartbeats 16000000 in
theorem ofOperation_step (n : Nat) (IH : OfOk n) : OfOp (n + 1) := by
  rintro ⟨⟨op, k, i, b, s, nm⟩, l⟩ ao cap cs aoc capc w hdp hf ho1 ho2 hA hl hcl hC
  have hdl : deepL l ≤ n := by simp only [T.deep] at hdp; omega
  obtain ⟨hnF, hlF⟩ := formT_open _ l hf
  obtain ⟨⟨q1, q2⟩, hp, _, _⟩ := nodeF_open _ _ hnF
  simp only [T.nd] at ho1 ho2
  simp only at q1 q2 hp
  have hL2 : l.length ≤ 2 := by rw [hp]; unfold partsN; split <;> (try split) <;> omega
  have hK : kT cs (T.mk ⟨op, k, i, b, s, nm⟩ l) = if kF cs l ≠ 0 then ⟨0, false, kF cs l⟩ else opK op (kP cs l) := by simp only [kT]; rw [if_neg ho1, if_neg ho2]
  simp only [AtT] at hA
  rw [exprV_cells]
  simp only [T.nd, T.kids] at hl ⊢
  obtain ⟨R, hR⟩ : ∃ R, kT cs (T.mk ⟨op, k, i, b, s, nm⟩ l) = R := ⟨_, rfl⟩
  rw [hR]
  rw [hR] at hK
  have hlF2 : ∀ t ∈ l, formT t = 0 := formL_mem l hlF
  have hkf : ∀ (x0 x1 : Int) (nn : Nat), PartsAt cs l l.length x0 x1 nn → (∀ (i : Nat) (u : T), l[i]? = some u → i < l.length → (kT cs u).f = 0) → R = if asksK op x0 x1 = true then ⟨givesK op x0 x1, mayK op nn, 0⟩ else ⟨0, false, 2⟩ := by
    intro x0 x1 nn hpa hg
    have h0 := kF_good cs l (fun i u hu => hg i u hu (List.getElem?_eq_some_iff.1 hu).1)
    rw [hK, if_neg (by rw [h0]; decide)]
    unfold opK
    have := hpa.a; have h1 := hpa.b; have h2 := hpa.c
    rw [List.take_length] at this h1 h2
    rw [this, h1, h2]
  have hkb : ∀ (j : Nat) (t : T), l[j]? = some t → (∀ (i : Nat) (u : T), l[i]? = some u → i < j → (kT cs u).f = 0) → (kT cs t).f ≠ 0 → R = ⟨0, false, (kT cs t).f⟩ := by
    intro j t ht hg hb
    have h0 := kF_bad cs l j t ht hg hb
    rw [hK, if_pos (by rw [h0]; exact hb), h0]
  have HKF := Lib.hid hkf
  have HKB := Lib.hid hkb
  have HF2 := Lib.hid hlF2
  have HIH := Lib.hid IH
  have HDL := Lib.hid hdl
  have HA := Lib.hid hA.2
  have HC := Lib.hid hC
  have hop : 3 ≤ op := by omega
  clear hkf hkb hK hR IH hdl hA hlF hlF2 hnF hf hp hdp ho1 ho2 q1 hC
  obtain ⟨L, hL⟩ : ∃ L, l.length = L := ⟨_, rfl⟩
  rw [hL] at hl hL2 ⊢
  have HL := Lib.hid hL
  obtain ⟨m, hm⟩ : ∃ m, cs.length = m := ⟨_, rfl⟩
  rw [hm] at hcl ⊢
  have HM := Lib.hid hm
  clear hL hm
  generalize str s = S
  generalize str nm = N
  obtain ⟨w2, hw2⟩ : ∃ w2, (w.alloc (.cells #[.int .i64 op, .int .i64 k, .int .i64 i, .int .u64 b, .string S, .string N, .slice ao L cap] 27)).alloc (.cells #[.int .i64 0, .int .i64 0] 240) = w2 := ⟨_, rfl⟩
  have hb2 : Below w.heap.size w w2 := by rw [← hw2]; exact ((Below.refl _ _).alloc (Nat.le_refl _) _).alloc (by simp) _
  have p0 : w2.cell? ⟨w.heap.size, 0, none⟩ = some (.int .i64 op) := by rw [← hw2]; simp
  have p6 : w2.cell? ⟨w.heap.size, 6, none⟩ = some (.slice ao L cap) := by rw [← hw2]; simp
  have zP : Blk w2 (w.heap.size + 1) 240 [.int .i64 0, .int .i64 0] := by
    rw [← hw2]
    exact Blk.atNew #[.int .i64 0, .int .i64 0] _ (by simp)
  go_enter Tryz.func134, Tryz.ntmps134
  go_upto_region 2 with fail
  try rw [hw2]
  clear hw2
  go_wp2_with fail
  go_loopw [8, 14] (fun q i wr => ∃ (j nn : Nat) (x0 x1 : Int), j ≤ L ∧ nn ≤ j ∧ i = .int .i64 j ∧ q = .int .i64 nn ∧ Hid (∀ (i : Nat) (u : T), l[i]? = some u → i < j → (kT cs u).f = 0) ∧ Hid (PartsAt cs l j x0 x1 nn) ∧ Hid (Below w.heap.size w wr) ∧ wr.cell? ⟨w.heap.size, 0, none⟩ = some (.int .i64 op) ∧ Hid (w.heap.size + 1 < wr.heap.size) ∧ Blk wr (w.heap.size + 1) 240 [.int .i64 x0, .int .i64 x1]) (fun _ i _ => L - (intOf i).toNat)
  case atStart => exact ⟨0, 0, 0, 0, Nat.zero_le _, Nat.zero_le _, rfl, rfl, Lib.hid (fun i u _ h => absurd h (Nat.not_lt_zero _)), Lib.hid (PartsAt.zero cs l), Lib.hid hb2, p0, Lib.hid zP.lt, zP⟩
  case round =>
    clear p0 p6 zP hb2
    obtain ⟨j, nn, x0, x1, hj, hnn, rfl, rfl, hall, hpa, hbw, y0, hgs, zP⟩ := hrel
    by_cases hlt : j < L
    · have iI : (j : Int) < (L : Int) := by omega
      have hjl : j < l.length := by rw [HL.out]; exact hlt
      obtain ⟨t, htj⟩ : ∃ t, l[j]? = some t := ⟨l[j], List.getElem?_eq_getElem hjl⟩
      obtain ⟨a, o', rfl, ha, hnode⟩ := AtL.at HA.out j t htj
      rw [Nat.zero_add] at hnode
      obtain ⟨ao', cap', n1, n2, nA, z0, z1, z2, z3, z4, z5, z6⟩ := hnode.cells
      have d0 := (hbw.out.cell (p := ⟨a, o' + j * 7, none⟩) ha).trans z0
      have d1 := (hbw.out.cell (p := ⟨a, o' + j * 7 + 1, none⟩) ha).trans z1
      have d2 := (hbw.out.cell (p := ⟨a, o' + j * 7 + 2, none⟩) ha).trans z2
      have d3 := (hbw.out.cell (p := ⟨a, o' + j * 7 + 3, none⟩) ha).trans z3
      have d4 := (hbw.out.cell (p := ⟨a, o' + j * 7 + 4, none⟩) ha).trans z4
      have d5 := (hbw.out.cell (p := ⟨a, o' + j * 7 + 5, none⟩) ha).trans z5
      have d6 := (hbw.out.cell (p := ⟨a, o' + j * 7 + 6, none⟩) ha).trans z6
      have hdt : t.deep ≤ n := Nat.le_trans (deepK_mem htj) HDL.out
      have hft := HF2.out t (List.mem_of_getElem? htj)
      have cC := fun W (hW : Below w.heap.size w W) => HIH.out t ao' cap' cs aoc capc W hdt hft (nA.keep hW) (by omega) (by rw [HM.out]; exact hcl) (HC.out.keep hW)
      rw [HM.out] at cC
      simp only [exprV_cells] at cC
      have hbad := HKB.out j t htj hall.out
      have hnext : (kT cs t).f = 0 → ∀ (i : Nat) (u : T), l[i]? = some u → i < j + 1 → (kT cs u).f = 0 := by
        intro h i u hu hi
        rcases Nat.lt_or_ge i j with h1 | h1
        · exact hall.out i u hu h1
        · obtain rfl : i = j := by omega
          rw [htj] at hu; cases hu; exact h
      have hpn : ∃ x0' x1' : Int, PartsAt cs l (j + 1) x0' x1' (nn + if (kT cs t).n = true then 1 else 0) ∧ ((([.int .i64 x0, .int .i64 x1] : List Value)).set j (.int .i64 (kT cs t).k)) = [.int .i64 x0', .int .i64 x1'] := by
        rcases (show j = 0 ∨ j = 1 by omega) with rfl | rfl
        · exact ⟨_, _, hpa.out.step0 htj, rfl⟩
        · exact ⟨_, _, hpa.out.step1 htj, rfl⟩
      obtain ⟨x0', x1', hpn, hset⟩ := hpn
      have HPN := Lib.hid hpn
      have HBAD := Lib.hid hbad
      have HNEXT := Lib.hid hnext
      have HSET := Lib.hid hset
      obtain ⟨Rk, Rn, Rf⟩ : R3 := kT cs t
      generalize hKT : kT cs t = KT at *
      obtain ⟨Rk, Rn, Rf⟩ := KT
      simp only at cC HPN HBAD HNEXT HSET
      generalize t.kids.length = KL at *
      generalize t.nd = nd at *
      obtain ⟨op', k', i', b', s', nm'⟩ := nd
      simp only at d0 d1 d2 d3 d4 d5 d6 cC
      generalize str s' = S' at *
      generalize str nm' = N' at *
      obtain ⟨wa, hwa⟩ : ∃ wa, wr.alloc (.cells #[.int .i64 op', .int .i64 k', .int .i64 i', .int .u64 b', .string S', .string N', .slice ao' KL cap'] 27) = wa := ⟨_, rfl⟩
      have hbA : Below wr.heap.size wr wa := by rw [← hwa]; exact (Below.refl _ _).alloc (Nat.le_refl _) _
      have zT : Blk wa wr.heap.size 27 [.int .i64 op', .int .i64 k', .int .i64 i', .int .u64 b', .string S', .string N', .slice ao' KL cap'] := by rw [← hwa]; exact Blk.new wr #[.int .i64 op', .int .i64 k', .int .i64 i', .int .u64 b', .string S', .string N', .slice ao' KL cap'] _
      have hb0a := below_stepL hbw.out hbw.out.size hbA
      have zPa := zP.call hbA
      have y0a := (hbA.cell (p := ⟨w.heap.size, 0, none⟩) (by have := hgs.out; show w.heap.size < _; omega)).trans y0
      have hgsa : w.heap.size + 1 < wa.heap.size := Nat.lt_of_lt_of_le hgs.out hbA.size
      have cc := cC wa hb0a
      clear z0 z1 z2 z3 z4 z5 z6 hnode htj nA cC hjl n1 hdt hft hbad hnext hall hpn hset hpa hKT y0 zP hgs
      go_upto_region 6 with fail
      try rw [hwa]
      clear hwa d0 d1 d2 d3 d4 d5 d6 hbA hbw
      generalize wr.heap.size = g at *
      have p0 := zT.cell (j := 0) rfl
      have p1 := zT.cell (j := 1) rfl
      have p2 := zT.cell (j := 2) rfl
      have p3 := zT.cell (j := 3) rfl
      have p4 := zT.cell (j := 4) rfl
      have p5 := zT.cell (j := 5) rfl
      have p6 := zT.cell (j := 6) rfl
      go_wp2_with fail
      refine cc.mono ?_
      rintro e w3 ⟨rfl, hb3⟩
      have hb03 := below_stepL hb0a hb0a.size hb3
      have zP3 := zPa.call hb3
      have y03 := (hb3.cell (p := ⟨w.heap.size, 0, none⟩) (by show w.heap.size < _; omega)).trans y0a
      have hgs3 : w.heap.size + 1 < w3.heap.size := Nat.lt_of_lt_of_le hgsa hb3.size
      clear cc p0 p1 p2 p3 p4 p5 p6 zT hb3 hb0a zPa y0a hgsa
      have zS := zP3.set j (.int .i64 Rk)
      rw [HSET.out] at zS
      have hbS : Below w.heap.size w (w3.setCell ⟨w.heap.size + 1, j, none⟩ (.int .i64 Rk)) := hb03.setCell (p := ⟨w.heap.size + 1, j, none⟩) (by show w.heap.size ≤ w.heap.size + 1; omega) _
      have j2 : (j : Int) < 2 := by omega
      have hcl : ∃ v0, w3.cell? ⟨w.heap.size + 1, j, none⟩ = some v0 := by
        rcases (show j = 0 ∨ j = 1 by omega) with rfl | rfl
        · exact ⟨_, zP3.cell (j := 0) rfl⟩
        · exact ⟨_, zP3.cell (j := 1) rfl⟩
      obtain ⟨v0, hcl⟩ := hcl
      have hfr := zP3.free j
      have y0S : (w3.setCell ⟨w.heap.size + 1, j, none⟩ (.int .i64 Rk)).cell? ⟨w.heap.size, 0, none⟩ = some (.int .i64 op) := (((Below.refl (w.heap.size + 1) w3).setCell (p := ⟨w.heap.size + 1, j, none⟩) (Nat.le_refl _) (.int .i64 Rk)).cell (p := ⟨w.heap.size, 0, none⟩) (Nat.lt_succ_self _)).trans y03
      have hgsS : w.heap.size + 1 < (w3.setCell ⟨w.heap.size + 1, j, none⟩ (.int .i64 Rk)).heap.size := by simpa using hgs3
      obtain ⟨wS, hwS⟩ : ∃ wS, w3.setCell ⟨w.heap.size + 1, j, none⟩ (.int .i64 Rk) = wS := ⟨_, rfl⟩
      rw [hwS] at zS hbS y0S hgsS
      go_upto_region 7 with fail
      try rw [hwS]
      clear hwS hcl hfr zP3 y03 hgs3 hb03
      by_cases hz : Rf = 0
      · have z1 : (Rf != 0) = false := by rw [hz]; rfl
        have HN := Lib.hid (HNEXT.out hz)
        clear HBAD HNEXT hz
        cases Rn
        · have HP2 : Hid (PartsAt cs l (j + 1) x0' x1' nn) := HPN.out
          clear HPN
          go_wp2_with fail
          go_roundw
          case rel => exact ⟨j + 1, nn, x0', x1', by omega, by omega, by go_num, rfl, HN, HP2, Lib.hid hbS, y0S, Lib.hid hgsS, zS⟩
          case measure => simp [intOf]; omega
        · have HP2 : Hid (PartsAt cs l (j + 1) x0' x1' (nn + 1)) := HPN.out
          clear HPN
          go_wp2_with fail
          go_roundw
          case rel => exact ⟨j + 1, nn + 1, x0', x1', by omega, by omega, by go_num, by go_num, HN, HP2, Lib.hid hbS, y0S, Lib.hid hgsS, zS⟩
          case measure => simp [intOf]; omega
      · have z1 : (Rf != 0) = true := by simpa using hz
        have HN := Lib.hid (HBAD.out hz)
        clear HBAD HNEXT hz HPN
        go_wp2_with fail
        go_ret3
        exact ⟨by rw [HN.out]; rfl, hbS⟩
    · have iI : ¬ (j : Int) < (L : Int) := by omega
      have hjL : j = L := by omega
      subst hjL
      have HR : Hid (R = if asksK op x0 x1 = true then ⟨givesK op x0 x1, mayK op nn, 0⟩ else ⟨0, false, 2⟩) := Lib.hid (HKF.out x0 x1 nn (by rw [HL.out]; exact hpa.out) (fun i u hu _ => hall.out i u hu (by have := (List.getElem?_eq_some_iff.1 hu).1; rw [HL.out] at this; exact this)))
      have hbw1 := hbw.out
      clear hall hpa HKF HKB HF2 HIH HDL HA HC HL hbw
      have q0 := zP.cell (j := 0) rfl
      have q1 := zP.cell (j := 1) rfl
      have hgs1 := hgs.out
      obtain ⟨A, hA⟩ : ∃ A, asksK op x0 x1 = A := ⟨_, rfl⟩
      rw [hA] at HR
      have HA2 := Lib.hid hA
      clear hA
      go_upto_region 12 with fail
      go_cut [40] (fun x wx => x = .bool (!A) ∧ Hid (Below w.heap.size w wx) ∧ wx.cell? ⟨w.heap.size, 0, none⟩ = some (.int .i64 op) ∧ wx.cell? ⟨w.heap.size + 1, 0, none⟩ = some (.int .i64 x0) ∧ wx.cell? ⟨w.heap.size + 1, 1, none⟩ = some (.int .i64 x1))
      case first =>
        clear HR
        have hA := HA2.out
        clear HA2
        by_cases k1 : op = 3 ∨ op = 5 ∨ op = 6 ∨ op = 7 ∨ op = 8 ∨ op = 4 ∨ op = 15 ∨ op = 16 ∨ op = 18 ∨ op = 19
        · have cA := fun W => asksEach_any op W k1
          have hA2 : (fitsK x0 (asks0 op) && fitsK x1 (asks0 op)) = A := by
            rw [← hA]; unfold asksK asks0
            rcases k1 with rfl | rfl | rfl | rfl | rfl | rfl | rfl | rfl | rfl | rfl <;> rfl
          generalize asks0 op = AK at *
          have cE := fun g W h1 h2 => eachFits_any x0 x1 AK g W h1 h2
          rw [hA2] at cE
          clear hA hA2 k1
          go_region_with (first
            | (go_at_call 169; refine (cA _).mono ?_; rintro e w5 ⟨rfl, hb5, hs5, hc5⟩; have hbb5 : Below w.heap.size w w5 := below_stepL hbw1.drew hbw1.size hb5; have t0 := (hb5.cell (p := ⟨w.heap.size, 0, none⟩) (Nat.lt_of_succ_lt hgs1)).trans y0; have t1 := (hb5.cell (p := ⟨w.heap.size + 1, 0, none⟩) hgs1).trans q0; have t2 := (hb5.cell (p := ⟨w.heap.size + 1, 1, none⟩) hgs1).trans q1; have hgs5 := Nat.lt_of_lt_of_le hgs1 hb5.size; clear cA)
            | (go_at_call 186; refine (cE _ _ (by assumption) (by assumption)).mono ?_; rintro e w6 ⟨rfl, hb6⟩; have hbb6 : Below w.heap.size w w6 := below_stepL hbb5 hbb5.size hb6; have u0 := (hb6.cell (p := ⟨w.heap.size, 0, none⟩) (Nat.lt_of_succ_lt hgs5)).trans t0; have u1 := (hb6.cell (p := ⟨w.heap.size + 1, 0, none⟩) hgs5).trans t1; have u2 := (hb6.cell (p := ⟨w.heap.size + 1, 1, none⟩) hgs5).trans t2; clear cE))
          all_goals go_wp2_with fail
          all_goals go_meet
          all_goals exact ⟨rfl, Lib.hid hbb6, u0, u1, u2⟩
        · by_cases k2 : op = 17
          · subst k2
            have hA2 : A = true := by rw [← hA]; rfl
            subst hA2
            have cE := fun W => asksAny_any x0 x1 W
            have cA := fun W => asksNone_any W
            clear hA k1
            go_region_with (first
              | (go_at_call 169; refine (cA _).mono ?_; rintro e w5 ⟨rfl, rfl⟩; clear cA)
              | (go_at_call 181; refine (cE _).mono ?_; rintro e w6 ⟨rfl, hb6⟩; have hbb6 : Below w.heap.size w w6 := below_stepL hbw1.drew hbw1.size hb6; have u0 := (hb6.cell (p := ⟨w.heap.size, 0, none⟩) (Nat.lt_of_succ_lt hgs1)).trans y0; have u1 := (hb6.cell (p := ⟨w.heap.size + 1, 0, none⟩) hgs1).trans q0; have u2 := (hb6.cell (p := ⟨w.heap.size + 1, 1, none⟩) hgs1).trans q1; clear cE))
            all_goals go_wp2_with fail
            all_goals go_meet
            all_goals exact ⟨rfl, Lib.hid hbb6, u0, u1, u2⟩
          · have k3 : op = 9 ∨ op = 10 ∨ op = 11 ∨ op = 12 ∨ op = 13 ∨ op = 14 ∨ op = 20 := by omega
            have hA2 : fitsK x0 x1 = A := by
              rw [← hA]; unfold asksK
              rcases k3 with rfl | rfl | rfl | rfl | rfl | rfl | rfl <;> rfl
            have cE := fun W => asksFits_any x0 x1 W
            rw [hA2] at cE
            have cA := fun W => asksOne_any op W k3
            clear hA hA2 k1 k2 k3
            go_region_with (first
              | (go_at_call 169; refine (cA _).mono ?_; rintro e w5 ⟨rfl, rfl⟩; clear cA)
              | (go_at_call 182; refine (cE _).mono ?_; rintro e w6 ⟨rfl, hb6⟩; have hbb6 : Below w.heap.size w w6 := below_stepL hbw1.drew hbw1.size hb6; have u0 := (hb6.cell (p := ⟨w.heap.size, 0, none⟩) (Nat.lt_of_succ_lt hgs1)).trans y0; have u1 := (hb6.cell (p := ⟨w.heap.size + 1, 0, none⟩) hgs1).trans q0; have u2 := (hb6.cell (p := ⟨w.heap.size + 1, 1, none⟩) hgs1).trans q1; clear cE))
            all_goals go_wp2_with fail
            all_goals go_meet
            all_goals exact ⟨rfl, Lib.hid hbb6, u0, u1, u2⟩
      case rest =>
        clear y0 zP q0 q1 hbw1 hgs hgs1
        obtain ⟨rfl, hbx, y0, q0, q1⟩ := hcut
        have hbx1 := hbx.out
        cases A
        · have HR2 : Hid (R = ⟨0, false, 2⟩) := HR.out
          clear HR
          go_wp2_with fail
          go_ret3
          exact ⟨by rw [HR2.out]; rfl, hbx1⟩
        · have HR2 : Hid (R = ⟨givesK op x0 x1, mayK op nn, 0⟩) := HR.out
          have cG := fun W => gives_any op x0 x1 W
          have cM := fun W => mayBeNull_any op nn W
          have hsx : w.heap.size < wc.heap.size := World.block_lt_of_cell? wc ⟨w.heap.size, 0, none⟩ y0
          clear HR HA2
          generalize givesK op x0 x1 = GK at *
          generalize mayK op nn = MK at *
          go_upto_region 14 with fail
          go_region_with (first
            | (go_at_call 170; refine (cG _).mono ?_; rintro e w5 ⟨rfl, hb5⟩; have hbb5 : Below w.heap.size w w5 := below_stepL hbx1.drew hbx1.size hb5; have t0 := (hb5.cell (p := ⟨w.heap.size, 0, none⟩) hsx).trans y0; clear cG)
            | (go_at_call 171; refine (cM _).mono ?_; rintro e w6 ⟨rfl, rfl⟩; clear cM))
          all_goals go_wp2_with fail
          all_goals go_ret3
          all_goals exact ⟨by rw [HR2.out]; rfl, hbb5⟩
end Go.Proofs.YtfedlchncngafaaGreatDoor

/-! PLAIN: over columns that may be, the first and the last column of a name are one. CONDITIONS: none. -/
namespace Go.Proofs.YtfedlchncngafaaGreatDoor
open Go.RowKit
set_option linter.unusedVariables false

theorem colF_apart (c : Cl) (a : List Cl) (h : colF c a = 0) : ∀ x ∈ a, x.n ≠ c.n := by
  intro x hx he
  have : a.any (fun x => x.n == c.n) = true := List.any_eq_true.2 ⟨x, hx, by simp [he]⟩
  unfold colF at h
  rw [if_pos this] at h
  repeat' split at h
  all_goals exact absurd h (by decide)
theorem colsG_apart : ∀ (r a : List Cl), colsG a r = 0 → (∀ c ∈ r, ∀ x ∈ a, x.n ≠ c.n) ∧ r.Pairwise (fun x y => x.n ≠ y.n)
  | [], a, _ => ⟨fun c hc => (by cases hc), .nil⟩
  | c :: r, a, h => by
    simp only [colsG] at h
    by_cases hx : colF c a = 0
    · rw [if_pos hx] at h
      obtain ⟨h1, h2⟩ := colsG_apart r (a ++ [c]) h
      refine ⟨?_, .cons (fun y hy => h1 y hy c (by simp)) h2⟩
      intro y hy x hxa
      rcases List.mem_cons.1 hy with rfl | hm
      · exact colF_apart _ a hx x hxa
      · exact h1 y hm x (by simp [hxa])
    · rw [if_neg hx] at h; exact absurd h hx
theorem colsR_apart (l : List Cl) (h : colsR l = 0) : l.Pairwise (fun x y => x.n ≠ y.n) := by
  unfold colsR at h
  split at h
  · exact absurd h (by decide)
  · exact (colsG_apart l [] h).2
theorem placeL_at (n : List UInt8) (l : List Cl) : ∀ j, j ≤ l.length → (placeL n l j = -1 ∧ ∀ (i : Nat) (c : Cl), i < j → l[i]? = some c → c.n ≠ n) ∨ ∃ (i : Nat) (c : Cl), i < j ∧ l[i]? = some c ∧ c.n = n ∧ placeL n l j = (i : Int)
  | 0, _ => .inl ⟨rfl, fun i c h => absurd h (Nat.not_lt_zero _)⟩
  | j + 1, h => by
    have hj : j < l.length := h
    have hg : l[j]? = some l[j] := List.getElem?_eq_getElem hj
    have e : placeL n l (j + 1) = if (l[j]?.map (fun x => x.n == n)) = some true then (j : Int) else placeL n l j := rfl
    by_cases hn : l[j].n = n
    · rw [hg, if_pos (by simp [hn])] at e
      exact .inr ⟨j, l[j], by omega, hg, hn, e⟩
    · rw [hg, if_neg (by simp [hn])] at e
      rcases placeL_at n l j (by omega) with ⟨h1, h2⟩ | ⟨i, c, h1, h2, h3, h4⟩
      · refine .inl ⟨by rw [e, h1], fun i c hi hc => ?_⟩
        rcases Nat.lt_or_ge i j with h3 | h3
        · exact h2 i c h3 hc
        · obtain rfl : i = j := by omega
          rw [hg] at hc; cases hc; exact hn
      · exact .inr ⟨i, c, by omega, h2, h3, by rw [e, h4]⟩
theorem place_same (l : List Cl) (n : List UInt8) (h : colsR l = 0) : placeL n l l.length = placeN n l 0 := by
  rcases placeL_at n l l.length (Nat.le_refl _) with ⟨h1, h2⟩ | ⟨i, c, h1, h2, h3, h4⟩
  · rw [h1, placeN_none n l 0 (fun i x hx => h2 i x (List.getElem?_eq_some_iff.1 hx).1 hx)]
  · rw [h4, placeN_hit n l 0 i c h2 h3 (fun i' x hx hi he => ?_), Nat.zero_add]
    obtain ⟨p1, p2⟩ := List.getElem?_eq_some_iff.1 hx
    obtain ⟨q1, q2⟩ := List.getElem?_eq_some_iff.1 h2
    have := List.pairwise_iff_getElem.1 (colsR_apart l h) i' i p1 q1 hi
    rw [p2, q2] at this
    exact this (by rw [he, h3])
end Go.Proofs.YtfedlchncngafaaGreatDoor

/-! CONTRACT of the reference's kindOf, over columns that may be. CONDITIONS: each theorem's own hypotheses. -/
namespace Go.Proofs.YtfedlchncngafaaGreatDoor
open Go.RowKit
set_option linter.unusedVariables false
set_option maxRecDepth 100000

def KofOk (n : Nat) : Prop := ∀ (t : T) (ao : Option Addr) (cap : Nat) (cs : List Cl) (aoc : Option Addr) (capc : Nat) (w : World), t.deep ≤ n → formT t = 0 → colsR cs = 0 → AtT w t ao → t.kids.length ≤ 9223372036854775807 → cs.length ≤ 9223372036854775807 → Cols w aoc cs →
    Calls Tryz.prog 106 #[exprV t ao cap, .slice aoc cs.length capc] w fun e w' => e = .returned (.tuple #[.int .i64 (kT cs t).k, .bool (kT cs t).n, .int .i64 (kT cs t).f]) ∧ Below w.heap.size w w'
theorem kof_lit (n : Nat) (t : T) (ao : Option Addr) (cap : Nat) (cs : List Cl) (aoc : Option Addr) (capc : Nat) (w : World) (h1 : t.nd.op = 1) :
    Calls Tryz.prog 106 #[exprV t ao cap, .slice aoc cs.length capc] w fun e w' => e = .returned (.tuple #[.int .i64 (kT cs t).k, .bool (kT cs t).n, .int .i64 (kT cs t).f]) ∧ Below w.heap.size w w' := by
  rw [kT_lit cs t h1]
  simp only [exprV_cells]
  generalize t.kids.length = L at *
  generalize t.nd = nd at *
  obtain ⟨op, k, i, b, s, nm⟩ := nd
  simp only at h1 ⊢
  subst h1
  generalize str s = S
  generalize str nm = N
  go_enter Tryz.func106, Tryz.ntmps106
  go_upto_region 2 with fail
  go_quiet (fail)
  have hbq := below_dqK ((Below.refl w.heap.size w).alloc (Nat.le_refl _) (.cells #[.int .i64 1, .int .i64 k, .int .i64 i, .int .u64 b, .string S, .string N, .slice ao L cap] 27)) nq
  go_wp2_with fail
  go_ret3
  exact ⟨rfl, hbq⟩
set_option maxHeartbeats 8000000 in
theorem kof_col (t : T) (ao : Option Addr) (cap : Nat) (cs : List Cl) (aoc : Option Addr) (capc : Nat) (w : World) (h2 : t.nd.op = 2) (hc0 : colsR cs = 0) (hl : cs.length ≤ 9223372036854775807) (hC : Cols w aoc cs) :
    Calls Tryz.prog 106 #[exprV t ao cap, .slice aoc cs.length capc] w fun e w' => e = .returned (.tuple #[.int .i64 (kT cs t).k, .bool (kT cs t).n, .int .i64 (kT cs t).f]) ∧ Below w.heap.size w w' := by
  rw [kT_col cs t h2]
  simp only [exprV_cells]
  generalize t.kids.length = L at *
  generalize t.nd = nd at *
  obtain ⟨op, k, i, b, s, nm⟩ := nd
  simp only at h2 ⊢
  subst h2
  generalize str s = S
  obtain ⟨w1, hw1⟩ : ∃ w1, w.alloc (.cells #[.int .i64 2, .int .i64 k, .int .i64 i, .int .u64 b, .string S, .string (str nm), .slice ao L cap] 27) = w1 := ⟨_, rfl⟩
  have hb1 : Below w.heap.size w w1 := by rw [← hw1]; exact (Below.refl _ _).alloc (Nat.le_refl _) _
  have c1 := columnAt_any cs aoc capc nm w1 hl (hC.keep hb1)
  rw [place_same cs nm hc0] at c1
  have hz := Blk.new w #[.int .i64 2, .int .i64 k, .int .i64 i, .int .u64 b, .string S, .string (str nm), .slice ao L cap] 27
  rw [hw1] at hz
  have p0 := hz.cell (j := 0) rfl
  have p5 := hz.cell (j := 5) rfl
  clear hz
  unfold colK
  rcases placeN_at nm cs 0 with h1 | ⟨j, c, hj, h1⟩
  · rw [h1] at c1 ⊢
    rw [if_pos (by decide)]
    generalize cs.length = m at *
    generalize str nm = N at *
    clear hC h1 hc0
    go_enter Tryz.func106, Tryz.ntmps106
    go_upto_region 1 with fail
    try rw [hw1]
    clear hw1
    go_wp2_with fail
    refine c1.mono ?_
    rintro e w2 ⟨rfl, rfl⟩
    clear c1
    go_wp2_with fail
    go_ret3
    exact ⟨rfl, hb1⟩
  · rw [Nat.zero_add] at h1
    rw [h1] at c1 ⊢
    rw [if_neg (by omega), Int.toNat_natCast, hj]
    have hjl : j < cs.length := (List.getElem?_eq_some_iff.1 hj).1
    rcases hC.2 with hn | ⟨a, o, rfl, ha, hlies⟩
    · rw [hn] at hjl; exact absurd hjl (Nat.not_lt_zero _)
    obtain ⟨x0, x1, x2⟩ := hlies j c hj
    have d1 := (hb1.cell (p := ⟨a, o + j * 3 + 1, none⟩) ha).trans x1
    have d2 := (hb1.cell (p := ⟨a, o + j * 3 + 2, none⟩) ha).trans x2
    generalize cs.length = m at *
    generalize str nm = N at *
    clear hC h1 hlies hj x0 x1 x2 hc0
    obtain ⟨cn, ck, cl⟩ := c
    simp only at d1 d2 ⊢
    have hjI : (j : Int) < (m : Int) := by omega
    have hj0 : (0 : Int) ≤ (j : Int) := by omega
    have hng : decide ((j : Int) < 0) = false := decide_eq_false (by omega)
    go_enter Tryz.func106, Tryz.ntmps106
    go_upto_region 1 with fail
    try rw [hw1]
    clear hw1
    go_wp2_with fail
    refine c1.mono ?_
    rintro e w2 ⟨rfl, rfl⟩
    clear c1
    go_upto_region 7 with fail
    go_quiet (fail)
    have hbq := below_dqK hb1 nq
    go_wp2_with fail
    go_ret3
    exact ⟨rfl, hbq⟩
theorem foldK_take (op : Int) (cs : List Cl) (l : List T) (j : Nat) (t : T) (h : l[j]? = some t) : foldK op (kP cs (l.take (j + 1))) = stepK op (foldK op (kP cs (l.take j))) ((kT cs t).k, (kT cs t).n) := by
  rw [kP_take cs l j t h, foldK_snoc]
/-- What the reference's step leaves, by cases. -/
theorem stepK_cases (op : Int) (so al : Bool) (ak : Int) (cl : Bool) (k : Int) (n : Bool) :
    ((op = 17 ∨ k = 0) ∧ stepK op ⟨so, al, ak, cl⟩ (k, n) = ⟨so || n, al && n, ak, cl⟩) ∨
    ((op ≠ 17 ∧ k ≠ 0 ∧ ak = 0) ∧ stepK op ⟨so, al, ak, cl⟩ (k, n) = ⟨so || n, al && n, k, cl⟩) ∨
    ((op ≠ 17 ∧ k ≠ 0 ∧ ak ≠ 0) ∧ stepK op ⟨so, al, ak, cl⟩ (k, n) = ⟨so || n, al && n, ak, cl || (k != ak)⟩) := by
  by_cases h : op = 17 ∨ k = 0
  · left
    exact ⟨h, by unfold stepK; rw [if_pos h]⟩
  · right
    by_cases h0 : ak = 0
    · left
      refine ⟨⟨fun e => h (.inl e), fun e => h (.inr e), h0⟩, ?_⟩
      unfold stepK
      rw [if_neg h]
      simp [h0]
    · right
      refine ⟨⟨fun e => h (.inl e), fun e => h (.inr e), h0⟩, ?_⟩
      unfold stepK
      rw [if_neg h]
      simp [h0]
set_option maxHeartbeats 32000000 in
theorem kof_step (n : Nat) (IH : KofOk n) : KofOk (n + 1) := by
  rintro ⟨⟨op, k, i, b, s, nm⟩, l⟩ ao cap cs aoc capc w hdp hf hc0 hA hl hcl hC
  by_cases h1 : op = 1
  · exact kof_lit n _ ao cap cs aoc capc w h1
  by_cases h2 : op = 2
  · exact kof_col _ ao cap cs aoc capc w h2 hc0 hcl hC
  have hdl : deepL l ≤ n := by simp only [T.deep] at hdp; omega
  obtain ⟨hnF, hlF⟩ := formT_open _ l hf
  obtain ⟨⟨q1, q2⟩, hp, _, _⟩ := nodeF_open _ _ hnF
  simp only at q1 q2 hp
  have hK : kT cs (T.mk ⟨op, k, i, b, s, nm⟩ l) = if kF cs l ≠ 0 then ⟨0, false, kF cs l⟩ else opR op (kP cs l) := by
    have e := opR_kP cs (colsR_rng cs hc0) ⟨op, k, i, b, s, nm⟩ l hf h1 h2
    simp only at e
    rw [e]
    simp only [kT]; rw [if_neg h1, if_neg h2]
  simp only [AtT] at hA
  rw [exprV_cells]
  simp only [T.nd, T.kids] at hl ⊢
  obtain ⟨R, hR⟩ : ∃ R, kT cs (T.mk ⟨op, k, i, b, s, nm⟩ l) = R := ⟨_, rfl⟩
  rw [hR]
  rw [hR] at hK
  have hlF2 : ∀ t ∈ l, formT t = 0 := formL_mem l hlF
  have hkf : ∀ (S : S4), foldK op (kP cs (l.take l.length)) = S → (∀ (i : Nat) (u : T), l[i]? = some u → i < l.length → (kT cs u).f = 0) → R = if S.clash = true then ⟨0, false, 2⟩ else if op = 17 then ⟨1, false, 0⟩ else if op = 20 then ⟨S.asks, S.all, 0⟩ else ⟨gives0 op, S.some, 0⟩ := by
    intro S hS hg
    have h0 := kF_good cs l (fun i u hu => hg i u hu (List.getElem?_eq_some_iff.1 hu).1)
    rw [hK, if_neg (by rw [h0]; decide)]
    unfold opR
    rw [List.take_length] at hS
    rw [hS]
  have hkb : ∀ (j : Nat) (t : T), l[j]? = some t → (∀ (i : Nat) (u : T), l[i]? = some u → i < j → (kT cs u).f = 0) → (kT cs t).f ≠ 0 → R = ⟨0, false, (kT cs t).f⟩ := by
    intro j t ht hg hb
    have h0 := kF_bad cs l j t ht hg hb
    rw [hK, if_pos (by rw [h0]; exact hb), h0]
  have cA := asksFor_any op
  have h3 : 3 ≤ op ∧ op ≤ 20 := by omega
  have HKF := Lib.hid hkf
  have HKB := Lib.hid hkb
  have HF2 := Lib.hid hlF2
  have HIH := Lib.hid IH
  have HDL := Lib.hid hdl
  have HA := Lib.hid hA.2
  have HC := Lib.hid hC
  have HC0 := Lib.hid hc0
  have o1 : (op == 1) = false := by simpa using h1
  have o2 : (op == 2) = false := by simpa using h2
  clear hkf hkb hK hR IH hdl hA hlF hlF2 hnF hf hp hdp hC hc0 q1 q2
  have cA2 := fun W => cA W h3
  clear cA h3
  have HSK := fun so al ak cl kk nn => Lib.hid (stepK_cases op so al ak cl kk nn)
  have HFT := fun j t (h : l[j]? = some t) => Lib.hid (foldK_take op cs l j t h)
  have hA0 : Hid (foldK op (kP cs (l.take 0)) = ⟨false, true, asks0 op, false⟩) := Lib.hid rfl
  obtain ⟨A0, hA0e⟩ : ∃ A0, asks0 op = A0 := ⟨_, rfl⟩
  obtain ⟨G0, hG0e⟩ : ∃ G0, gives0 op = G0 := ⟨_, rfl⟩
  rw [hA0e] at cA2 hA0
  rw [hG0e] at cA2 HKF
  clear hA0e hG0e
  obtain ⟨L, hL⟩ : ∃ L, l.length = L := ⟨_, rfl⟩
  rw [hL] at hl ⊢
  have HL := Lib.hid hL
  obtain ⟨m, hm⟩ : ∃ m, cs.length = m := ⟨_, rfl⟩
  rw [hm] at hcl ⊢
  have HM := Lib.hid hm
  clear hL hm
  generalize str s = S
  generalize str nm = N
  obtain ⟨w2, hw2⟩ : ∃ w2, w.alloc (.cells #[.int .i64 op, .int .i64 k, .int .i64 i, .int .u64 b, .string S, .string N, .slice ao L cap] 27) = w2 := ⟨_, rfl⟩
  have hb2 : Below w.heap.size w w2 := by rw [← hw2]; exact (Below.refl _ _).alloc (Nat.le_refl _) _
  have hz2 := Blk.new w #[.int .i64 op, .int .i64 k, .int .i64 i, .int .u64 b, .string S, .string N, .slice ao L cap] 27
  rw [hw2] at hz2
  have p0 := hz2.cell (j := 0) rfl
  have p6 := hz2.cell (j := 6) rfl
  have hsz := hz2.lt
  clear hz2
  go_enter Tryz.func106, Tryz.ntmps106
  go_upto_region 1 with fail
  try rw [hw2]
  clear hw2
  go_wp2_with fail
  refine (cA2 _).mono ?_
  rintro e w5 ⟨rfl, rfl⟩
  clear cA2
  go_wp2_with fail
  go_loopw [8, 9, 10, 12, 56] (fun xs xa xk xc i wr => ∃ (j : Nat) (so al : Bool) (ak : Int) (cl : Bool), j ≤ L ∧ i = .int .i64 j ∧ xs = .bool so ∧ xa = .bool al ∧ xk = .int .i64 ak ∧ xc = .bool cl ∧ Hid (∀ (i : Nat) (u : T), l[i]? = some u → i < j → (kT cs u).f = 0) ∧ Hid (foldK op (kP cs (l.take j)) = ⟨so, al, ak, cl⟩) ∧ Hid (Below w.heap.size w wr) ∧ wr.cell? ⟨w.heap.size, 0, none⟩ = some (.int .i64 op) ∧ Hid (w.heap.size < wr.heap.size)) (fun _ _ _ _ i _ => L - (intOf i).toNat)
  case atStart => exact ⟨0, false, true, A0, false, Nat.zero_le _, rfl, rfl, rfl, rfl, rfl, Lib.hid (fun i u _ h => absurd h (Nat.not_lt_zero _)), hA0, Lib.hid hb2, p0, Lib.hid hsz⟩
  case round =>
    clear p0 p6 hb2 hsz
    obtain ⟨j, so, al, ak, cl, hj, rfl, rfl, rfl, rfl, rfl, hall, hfo, hbw, y0, hgs⟩ := hrel
    by_cases hlt : j < L
    · have iI : (j : Int) < (L : Int) := by omega
      have hjl : j < l.length := by rw [HL.out]; exact hlt
      obtain ⟨t, htj⟩ : ∃ t, l[j]? = some t := ⟨l[j], List.getElem?_eq_getElem hjl⟩
      obtain ⟨a, o', rfl, ha, hnode⟩ := AtL.at HA.out j t htj
      rw [Nat.zero_add] at hnode
      obtain ⟨ao', cap', n1, n2, nA, z0, z1, z2, z3, z4, z5, z6⟩ := hnode.cells
      have d0 := (hbw.out.cell (p := ⟨a, o' + j * 7, none⟩) ha).trans z0
      have d1 := (hbw.out.cell (p := ⟨a, o' + j * 7 + 1, none⟩) ha).trans z1
      have d2 := (hbw.out.cell (p := ⟨a, o' + j * 7 + 2, none⟩) ha).trans z2
      have d3 := (hbw.out.cell (p := ⟨a, o' + j * 7 + 3, none⟩) ha).trans z3
      have d4 := (hbw.out.cell (p := ⟨a, o' + j * 7 + 4, none⟩) ha).trans z4
      have d5 := (hbw.out.cell (p := ⟨a, o' + j * 7 + 5, none⟩) ha).trans z5
      have d6 := (hbw.out.cell (p := ⟨a, o' + j * 7 + 6, none⟩) ha).trans z6
      have hdt : t.deep ≤ n := Nat.le_trans (deepK_mem htj) HDL.out
      have hft := HF2.out t (List.mem_of_getElem? htj)
      have cC := fun W (hW : Below w.heap.size w W) => HIH.out t ao' cap' cs aoc capc W hdt hft HC0.out (nA.keep hW) (by omega) (by rw [HM.out]; exact hcl) (HC.out.keep hW)
      rw [HM.out] at cC
      simp only [exprV_cells] at cC
      have hbad := HKB.out j t htj hall.out
      have hnext : (kT cs t).f = 0 → ∀ (i : Nat) (u : T), l[i]? = some u → i < j + 1 → (kT cs u).f = 0 := by
        intro h i u hu hi
        rcases Nat.lt_or_ge i j with h1 | h1
        · exact hall.out i u hu h1
        · obtain rfl : i = j := by omega
          rw [htj] at hu; cases hu; exact h
      have hpn := (HFT j t htj).out
      rw [hfo.out] at hpn
      have HPN := Lib.hid hpn
      have HBAD := Lib.hid hbad
      have HNEXT := Lib.hid hnext
      generalize hKT : kT cs t = KT at *
      obtain ⟨Rk, Rn, Rf⟩ := KT
      simp only at cC HPN HBAD HNEXT
      have HSK2 := HSK so al ak cl Rk Rn
      generalize t.kids.length = KL at *
      generalize t.nd = nd at *
      obtain ⟨op', k', i', b', s', nm'⟩ := nd
      simp only at d0 d1 d2 d3 d4 d5 d6 cC
      generalize str s' = S' at *
      generalize str nm' = N' at *
      obtain ⟨wa, hwa⟩ : ∃ wa, wr.alloc (.cells #[.int .i64 op', .int .i64 k', .int .i64 i', .int .u64 b', .string S', .string N', .slice ao' KL cap'] 27) = wa := ⟨_, rfl⟩
      have hbA : Below wr.heap.size wr wa := by rw [← hwa]; exact (Below.refl _ _).alloc (Nat.le_refl _) _
      have zT : Blk wa wr.heap.size 27 [.int .i64 op', .int .i64 k', .int .i64 i', .int .u64 b', .string S', .string N', .slice ao' KL cap'] := by rw [← hwa]; exact Blk.new wr #[.int .i64 op', .int .i64 k', .int .i64 i', .int .u64 b', .string S', .string N', .slice ao' KL cap'] _
      have hb0a := below_stepL hbw.out hbw.out.size hbA
      have y0a := (hbA.cell (p := ⟨w.heap.size, 0, none⟩) hgs.out).trans y0
      have hgsa : w.heap.size < wa.heap.size := Nat.lt_of_lt_of_le hgs.out hbA.size
      have cc := cC wa hb0a
      clear z0 z1 z2 z3 z4 z5 z6 hnode htj nA cC hjl n1 hdt hft hbad hnext hall hpn hfo hKT y0 hgs HSK HFT
      go_upto_region 14 with fail
      try rw [hwa]
      clear hwa d0 d1 d2 d3 d4 d5 d6 hbA hbw
      generalize wr.heap.size = g at *
      have p0 := zT.cell (j := 0) rfl
      have p1 := zT.cell (j := 1) rfl
      have p2 := zT.cell (j := 2) rfl
      have p3 := zT.cell (j := 3) rfl
      have p4 := zT.cell (j := 4) rfl
      have p5 := zT.cell (j := 5) rfl
      have p6 := zT.cell (j := 6) rfl
      go_wp2_with fail
      refine cc.mono ?_
      rintro e w3 ⟨rfl, hb3⟩
      have hb03 := below_stepL hb0a hb0a.size hb3
      have y03 := (hb3.cell (p := ⟨w.heap.size, 0, none⟩) hgsa).trans y0a
      have hgs3 : w.heap.size < w3.heap.size := Nat.lt_of_lt_of_le hgsa hb3.size
      clear cc p0 p1 p2 p3 p4 p5 p6 zT hb3 hb0a y0a hgsa
      by_cases hz : Rf = 0
      · have z1 : (Rf != 0) = false := by rw [hz]; rfl
        have HN := Lib.hid (HNEXT.out hz)
        clear HBAD HNEXT hz
        rcases HSK2.out with ⟨hcc, hs⟩ | ⟨⟨hc1, hc2, hc3⟩, hs⟩ | ⟨⟨hc1, hc2, hc3⟩, hs⟩
        · have HP2 : Hid (foldK op (kP cs (l.take (j + 1))) = ⟨so || Rn, al && Rn, ak, cl⟩) := Lib.hid (HPN.out.trans hs)
          clear HPN hs HSK2
          by_cases h17 : op = 17
          · have e1 : (op == 17) = true := by simp [h17]
            clear hcc h17
            cases so <;> cases al
            all_goals go_wp2_with fail
            all_goals go_roundw
            all_goals first
              | exact ⟨j + 1, _, _, ak, cl, by omega, by go_num, rfl, rfl, rfl, rfl, HN, HP2, Lib.hid hb03, y03, Lib.hid hgs3⟩
              | (simp [intOf]; omega)
          · have e1 : (op == 17) = false := by simpa using h17
            have e2 : (Rk == 0) = true := by simp; omega
            clear hcc h17
            cases so <;> cases al
            all_goals go_wp2_with fail
            all_goals go_roundw
            all_goals first
              | exact ⟨j + 1, _, _, ak, cl, by omega, by go_num, rfl, rfl, rfl, rfl, HN, HP2, Lib.hid hb03, y03, Lib.hid hgs3⟩
              | (simp [intOf]; omega)
        · have HP2 : Hid (foldK op (kP cs (l.take (j + 1))) = ⟨so || Rn, al && Rn, Rk, cl⟩) := Lib.hid (HPN.out.trans hs)
          have e1 : (op == 17) = false := by simpa using hc1
          have e2 : (Rk == 0) = false := by simpa using hc2
          have e3 : (ak == 0) = true := by simpa using hc3
          have e4 : (Rk != Rk) = false := by simp
          clear HPN hs HSK2 hc1 hc2 hc3
          cases so <;> cases al <;> cases cl
          all_goals go_wp2_with fail
          all_goals go_roundw
          all_goals first
            | exact ⟨j + 1, _, _, Rk, _, by omega, by go_num, rfl, rfl, rfl, rfl, HN, HP2, Lib.hid hb03, y03, Lib.hid hgs3⟩
            | (simp [intOf]; omega)
        · have HP2 : Hid (foldK op (kP cs (l.take (j + 1))) = ⟨so || Rn, al && Rn, ak, cl || (Rk != ak)⟩) := Lib.hid (HPN.out.trans hs)
          have e1 : (op == 17) = false := by simpa using hc1
          have e2 : (Rk == 0) = false := by simpa using hc2
          have e3 : (ak == 0) = false := by simpa using hc3
          obtain ⟨B, hB⟩ : ∃ B, (Rk != ak) = B := ⟨_, rfl⟩
          rw [hB] at HP2
          clear HPN hs HSK2 hc1 hc2 hc3
          cases so <;> cases al <;> cases cl
          all_goals go_wp2_with fail
          all_goals go_roundw
          all_goals first
            | exact ⟨j + 1, _, _, ak, _, by omega, by go_num, rfl, rfl, rfl, rfl, HN, HP2, Lib.hid hb03, y03, Lib.hid hgs3⟩
            | (simp [intOf]; omega)
      · have z1 : (Rf != 0) = true := by simpa using hz
        have HN := Lib.hid (HBAD.out hz)
        clear HBAD HNEXT hz HPN HSK2
        go_wp2_with fail
        go_ret3
        exact ⟨by rw [HN.out]; rfl, hb03⟩
    · have iI : ¬ (j : Int) < (L : Int) := by omega
      have hjL : j = L := by omega
      subst hjL
      have hR := HKF.out ⟨so, al, ak, cl⟩ (by rw [HL.out]; exact hfo.out) (fun i u hu _ => hall.out i u hu (by have := (List.getElem?_eq_some_iff.1 hu).1; rw [HL.out] at this; exact this))
      simp only at hR
      have hbw1 := hbw.out
      clear hall hfo HKF HKB HF2 HIH HDL HA HC HL hbw HSK HFT HC0 hgs
      cases cl
      · rw [if_neg (by decide)] at hR
        by_cases h17 : op = 17
        · rw [if_pos h17] at hR
          have e1 : (op == 17) = true := by simp [h17]
          have HR := Lib.hid hR
          clear hR h17
          go_wp2_with fail
          go_ret3
          exact ⟨by rw [HR.out]; rfl, hbw1⟩
        · rw [if_neg h17] at hR
          have e1 : (op == 17) = false := by simpa using h17
          by_cases h20 : op = 20
          · rw [if_pos h20] at hR
            have e2 : (op == 20) = true := by simp [h20]
            have HR := Lib.hid hR
            clear hR h17 h20
            go_wp2_with fail
            go_ret3
            exact ⟨by rw [HR.out]; rfl, hbw1⟩
          · rw [if_neg h20] at hR
            have e2 : (op == 20) = false := by simpa using h20
            have HR := Lib.hid hR
            clear hR h17 h20
            go_wp2_with fail
            go_ret3
            exact ⟨by rw [HR.out]; rfl, hbw1⟩
      · rw [if_pos rfl] at hR
        have HR := Lib.hid hR
        clear hR
        go_wp2_with fail
        go_ret3
        exact ⟨by rw [HR.out]; rfl, hbw1⟩
theorem kof_any : ∀ n : Nat, KofOk n := by
  intro n
  induction n with
  | zero => intro t ao cap cs aoc capc w hd; have := T.deep_eq t; omega
  | succ n ih => exact kof_step n ih
theorem ofOk_any : ∀ n : Nat, OfOk n := by
  intro n
  induction n with
  | zero => intro t ao cap cs aoc capc w hd; have := T.deep_eq t; omega
  | succ n ih => exact ofGood_of (n + 1) (ofOperation_step n ih)
end Go.Proofs.YtfedlchncngafaaGreatDoor

/-! CONTRACT of package kinds' Of. CONDITIONS: each theorem's own hypotheses; the tables hold what their initialisers lay (XEnv). -/
namespace Go.Proofs.YtfedlchncngafaaGreatDoor
open Go.RowKit
set_option linter.unusedVariables false
set_option maxRecDepth 100000

theorem Blk.seven {w : World} {b : Nat} {T : TypeId} {v0 v1 v2 v3 v4 v5 v6 : Value} (h : Blk w b T [v0, v1, v2, v3, v4, v5, v6]) : w.cell? ⟨b, 0, none⟩ = some v0 ∧ w.cell? ⟨b, 1, none⟩ = some v1 ∧ w.cell? ⟨b, 2, none⟩ = some v2 ∧ w.cell? ⟨b, 3, none⟩ = some v3 ∧ w.cell? ⟨b, 4, none⟩ = some v4 ∧ w.cell? ⟨b, 5, none⟩ = some v5 ∧ w.cell? ⟨b, 6, none⟩ = some v6 :=
  ⟨h.cell (j := 0) rfl, h.cell (j := 1) rfl, h.cell (j := 2) rfl, h.cell (j := 3) rfl, h.cell (j := 4) rfl, h.cell (j := 5) rfl, h.cell (j := 6) rfl⟩
set_option maxHeartbeats 8000000 in
theorem of_any (t : T) (ao : Option Addr) (cap : Nat) (cs : List Cl) (aoc : Option Addr) (capc : Nat) (w : World) (hX : XEnv w) (hl : t.kids.length ≤ cap) (hm : cap ≤ 9223372036854775807 ∧ (ao = none → cap = 0)) (hA : AtT w t ao) (hlc : cs.length ≤ capc) (hmc : capc ≤ 9223372036854775807) (hC : Cols w aoc cs) :
    Calls Tryz.prog 64 #[exprV t ao cap, .slice aoc cs.length capc] w fun e w' => e = .returned (.tuple #[.int .i64 (kindsR cs t).k, .bool (kindsR cs t).n, .int .i64 (kindsR cs t).f]) ∧ Below w.heap.size w w' := by
  have c1 := fun W (hW : Below w.heap.size w W) => exprCheck_any t ao cap W (hA.keep hW) (by omega) (hX.keep hW)
  have c2 := fun W (hW : Below w.heap.size w W) => columns_any cs aoc capc W hlc hmc (hC.keep hW) (hX.keep hW).tabs (hX.keep hW).sw
  have c3 := fun W (hW : Below w.heap.size w W) (h1 : exprR t = 0) (h2 : colsR cs = 0) => ofOk_any t.deep t ao cap cs aoc capc W (Nat.le_refl _) (exprR_form t h1) (hA.keep hW) (by omega) (by omega) (hC.keep hW)
  have hR : kindsR cs t = if exprR t ≠ 0 then ⟨0, false, exprR t⟩ else if colsR cs ≠ 0 then ⟨0, false, colsR cs⟩ else kT cs t := rfl
  have HR := Lib.hid hR
  simp only [exprV_cells] at c1 c3 ⊢
  generalize kindsR cs t = R at *
  generalize kT cs t = KT at *
  generalize exprR t = F at *
  generalize colsR cs = G at *
  generalize t.kids.length = L at *
  generalize t.nd = nd at *
  generalize cs.length = m at *
  obtain ⟨op, k, i, b, s, nm⟩ := nd
  simp only at c1 c3 ⊢
  generalize str s = S at *
  generalize str nm = N at *
  have hz := Blk.new w #[.int .i64 op, .int .i64 k, .int .i64 i, .int .u64 b, .string S, .string N, .slice ao L cap] 27
  have hb0 : Below w.heap.size w (w.alloc (.cells #[.int .i64 op, .int .i64 k, .int .i64 i, .int .u64 b, .string S, .string N, .slice ao L cap] 27)) := (Below.refl _ _).alloc (Nat.le_refl _) _
  generalize hw1 : w.alloc (.cells #[.int .i64 op, .int .i64 k, .int .i64 i, .int .u64 b, .string S, .string N, .slice ao L cap] 27) = w1 at hz hb0
  have d1 := c1 w1 hb0
  obtain ⟨p0, p1, p2, p3, p4, p5, p6⟩ := hz.seven
  clear hA hX hl hm hlc hmc hC hR c1
  go_enter Tryz.func64, Tryz.ntmps64
  go_upto_region 1 with fail
  try rw [hw1]
  clear hw1
  go_wp2_with fail
  refine d1.mono ?_
  rintro e w2 ⟨rfl, hb2⟩
  have hb02 := below_two hb0 hb2
  have hz2 := hz.call hb2
  clear d1 hb2 hb0 p0 p1 p2 p3 p4 p5 p6 hz
  by_cases hF : F = 0
  · have z1 : (F != 0) = false := by rw [hF]; rfl
    have d2 := c2 w2 hb02
    have HR2 : Hid (R = if G ≠ 0 then ⟨0, false, G⟩ else KT) := by have := HR.out; rw [if_neg (by rw [hF]; decide)] at this; exact this
    have c4 := fun W hW h2 => c3 W hW hF h2
    clear c2 c3 HR
    go_wp2_with fail
    refine d2.mono ?_
    rintro e w3 ⟨rfl, hb3⟩
    have hb03 := below_two hb02 hb3
    have hz3 := hz2.call hb3
    clear d2 hb3 hb02 hz2
    by_cases hG : G = 0
    · have z2 : (G != 0) = false := by rw [hG]; rfl
      have d4 := c4 w3 hb03 hG
      have HR3 : Hid (R = KT) := by have := HR2.out; rw [if_neg (by rw [hG]; decide)] at this; exact this
      obtain ⟨q0, q1, q2, q3, q4, q5, q6⟩ := hz3.seven
      clear c4 HR2 hG hF
      go_wp2_with fail
      refine d4.mono ?_
      rintro e w4 ⟨rfl, hb4⟩
      have hb04 := below_two hb03 hb4
      clear d4 hb4 q0 q1 q2 q3 q4 q5 q6
      go_wp2_with fail
      go_ret3
      exact ⟨by rw [HR3.out]; rfl, hb04⟩
    · have z2 : (G != 0) = true := by simpa using hG
      have HR3 : Hid (R = ⟨0, false, G⟩) := by have := HR2.out; rw [if_pos hG] at this; exact this
      clear c4 HR2 hG hF
      go_wp2_with fail
      go_ret3
      exact ⟨by rw [HR3.out]; rfl, hb03⟩
  · have z1 : (F != 0) = true := by simpa using hF
    have HR3 : Hid (R = ⟨0, false, F⟩) := by have := HR.out; rw [if_pos hF] at this; exact this
    clear c2 c3 HR hF
    go_wp2_with fail
    go_ret3
    exact ⟨by rw [HR3.out]; rfl, hb02⟩
end Go.Proofs.YtfedlchncngafaaGreatDoor
