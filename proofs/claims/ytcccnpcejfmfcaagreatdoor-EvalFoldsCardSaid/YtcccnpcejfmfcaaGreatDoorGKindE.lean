/-
  MERGED: KindW, KindX, KindY, KindP, KindZ, KindE, KindG.
  CONDITIONS: each theorem's own hypotheses.
-/
import Derived.Test.YtcccnpcejfmfcaaGreatDoorKindV
import Derived.Test.YtcccnpcejfmfcaaGreatDoorExprC
import Derived.Test.YtcccnpcejfmfcaaGreatDoorGKindC
import Derived.Test.YtcccnpcejfmfcaaGreatDoorExprF

/-! CONTRACTS of package kinds' gives, and of what asks hands on. CONDITIONS: each theorem's own hypotheses. -/
namespace Go.Proofs.YtcccnpcejfmfcaaGreatDoor
open Go.RowKit
set_option linter.unusedVariables false
set_option maxRecDepth 100000

end Go.Proofs.YtcccnpcejfmfcaaGreatDoor

/-! CONTRACTS of package kinds' each and asks: the functions that they hand on, and what those answer. CONDITIONS: each theorem's own hypotheses. -/
namespace Go.Proofs.YtcccnpcejfmfcaaGreatDoor
open Go.RowKit
set_option linter.unusedVariables false
set_option maxRecDepth 100000

set_option maxHeartbeats 8000000 in
theorem asksFor_any (op : Int) (w : World) (h : 3 ≤ op ∧ op ≤ 20) :
    Calls Tryz.prog 42 #[.int .i64 op] w fun e w' => e = .returned (.tuple #[.int .i64 (asks0 op), .int .i64 (gives0 op)]) ∧ w' = w := by
  rcases (show op = 3 ∨ op = 4 ∨ op = 5 ∨ op = 6 ∨ op = 7 ∨ op = 8 ∨ op = 9 ∨ op = 10 ∨ op = 11 ∨ op = 12 ∨ op = 13 ∨ op = 14 ∨ op = 15 ∨ op = 16 ∨ op = 17 ∨ op = 18 ∨ op = 19 ∨ op = 20 by omega) with rfl | rfl | rfl | rfl | rfl | rfl | rfl | rfl | rfl | rfl | rfl | rfl | rfl | rfl | rfl | rfl | rfl | rfl
  all_goals
    go_enter Tryz.func42, Tryz.ntmps42
    go_wp2_with fail
    go_ret2
    exact ⟨rfl, rfl⟩
end Go.Proofs.YtcccnpcejfmfcaaGreatDoor

/-! CONTRACT of package kinds' ofGood, over that of ofOperation at parts of less depth. CONDITIONS: each theorem's own hypotheses. -/
namespace Go.Proofs.YtcccnpcejfmfcaaGreatDoor
open Go.RowKit
set_option linter.unusedVariables false
set_option maxRecDepth 100000

theorem kT_lit (cs : List Cl) (t : T) (h : t.nd.op = 1) : kT cs t = ⟨t.nd.k, t.nd.k == 0, 0⟩ := by
  obtain ⟨d, l⟩ := t
  simp only [T.nd] at h
  simp only [kT, T.nd]; rw [if_pos h]
theorem kT_col (cs : List Cl) (t : T) (h : t.nd.op = 2) : kT cs t = colK t.nd.n cs := by
  obtain ⟨d, l⟩ := t
  simp only [T.nd] at h
  simp only [kT, T.nd]; rw [if_neg (by omega), if_pos h]
end Go.Proofs.YtcccnpcejfmfcaaGreatDoor

/-! CONTRACT of package kinds' ofOperation, over that of ofGood at parts of less depth. CONDITIONS: each theorem's own hypotheses. -/
namespace Go.Proofs.YtcccnpcejfmfcaaGreatDoor
open Go.RowKit
set_option linter.unusedVariables false
set_option maxRecDepth 100000

theorem kP_take (cs : List Cl) (l : List T) (j : Nat) (t : T) (h : l[j]? = some t) : kP cs (l.take (j + 1)) = kP cs (l.take j) ++ [((kT cs t).k, (kT cs t).n)] := by
  obtain ⟨hj, he⟩ := List.getElem?_eq_some_iff.1 h
  rw [kP_map, kP_map, List.take_succ_eq_append_getElem hj, List.map_append, he]; rfl
theorem kP_len (cs : List Cl) (l : List T) : (kP cs l).length = l.length := by rw [kP_map, List.length_map]
theorem fst_snoc0 (m : List (Int × Bool)) (p : Int × Bool) (h : m.length = 0) : fstK (m ++ [p]) 0 = p.1 ∧ fstK (m ++ [p]) 1 = 0 := by
  rw [List.eq_nil_of_length_eq_zero h]; exact ⟨rfl, rfl⟩
theorem fst_snoc1 (m : List (Int × Bool)) (p : Int × Bool) (h : m.length = 1) : fstK (m ++ [p]) 0 = fstK m 0 ∧ fstK (m ++ [p]) 1 = p.1 := by
  match m, h with
  | [x], _ => exact ⟨rfl, rfl⟩
theorem nulls_snoc (m : List (Int × Bool)) (k : Int) (b : Bool) : nullsK (m ++ [(k, b)]) = nullsK m + (if b = true then 1 else 0) := by
  unfold nullsK
  rw [List.filter_append, List.length_append]
  cases b <;> rfl
/-- What the parts' kinds and nulls are behind j of them. -/
structure PartsAt (cs : List Cl) (l : List T) (j : Nat) (x0 x1 : Int) (nn : Nat) : Prop where
  a : fstK (kP cs (l.take j)) 0 = x0
  b : fstK (kP cs (l.take j)) 1 = x1
  c : nullsK (kP cs (l.take j)) = nn
theorem PartsAt.zero (cs : List Cl) (l : List T) : PartsAt cs l 0 0 0 0 := ⟨rfl, rfl, rfl⟩
theorem PartsAt.step0 {cs : List Cl} {l : List T} {x0 x1 : Int} {nn : Nat} {t : T} (h : PartsAt cs l 0 x0 x1 nn) (ht : l[0]? = some t) : PartsAt cs l 1 (kT cs t).k x1 (nn + if (kT cs t).n = true then 1 else 0) := by
  have e := kP_take cs l 0 t ht
  have hl : (kP cs (l.take 0)).length = 0 := by rw [kP_len]; simp
  have h2 := fst_snoc0 _ ((kT cs t).k, (kT cs t).n) hl
  refine ⟨by rw [e]; exact h2.1, by rw [e, h2.2]; exact h.b, by rw [e, nulls_snoc, h.c]⟩
theorem PartsAt.step1 {cs : List Cl} {l : List T} {x0 x1 : Int} {nn : Nat} {t : T} (h : PartsAt cs l 1 x0 x1 nn) (ht : l[1]? = some t) : PartsAt cs l 2 x0 (kT cs t).k (nn + if (kT cs t).n = true then 1 else 0) := by
  have e := kP_take cs l 1 t ht
  have hl : (kP cs (l.take 1)).length = 1 := by rw [kP_len, List.length_take]; have := (List.getElem?_eq_some_iff.1 ht).1; omega
  have h2 := fst_snoc1 _ ((kT cs t).k, (kT cs t).n) hl
  refine ⟨by rw [e, h2.1]; exact h.a, by rw [e]; exact h2.2, by rw [e, nulls_snoc, h.c]⟩
end Go.Proofs.YtcccnpcejfmfcaaGreatDoor

/-! PLAIN: over columns that may be, the first and the last column of a name are one. CONDITIONS: none. -/
namespace Go.Proofs.YtcccnpcejfmfcaaGreatDoor
open Go.RowKit
set_option linter.unusedVariables false

theorem colF_apart (c : Cl) (a : List Cl) (h : colF c a = 0) : ∀ x ∈ a, x.n ≠ c.n := by
  intro x hx he
  have : a.any (fun x => x.n == c.n) = true := List.any_eq_true.2 ⟨x, hx, by simp [he]⟩
  unfold colF at h
  rw [if_pos this] at h
  repeat' split at h
  all_goals exact absurd h (by decide)
theorem colsG_apart : ∀ (r a : List Cl), colsG a r = 0 → (∀ c ∈ r, ∀ x ∈ a, x.n ≠ c.n) ∧ r.Pairwise (fun x y => x.n ≠ y.n)
  | [], a, _ => ⟨fun c hc => (by cases hc), .nil⟩
  | c :: r, a, h => by
    simp only [colsG] at h
    by_cases hx : colF c a = 0
    · rw [if_pos hx] at h
      obtain ⟨h1, h2⟩ := colsG_apart r (a ++ [c]) h
      refine ⟨?_, .cons (fun y hy => h1 y hy c (by simp)) h2⟩
      intro y hy x hxa
      rcases List.mem_cons.1 hy with rfl | hm
      · exact colF_apart _ a hx x hxa
      · exact h1 y hm x (by simp [hxa])
    · rw [if_neg hx] at h; exact absurd h hx
theorem colsR_apart (l : List Cl) (h : colsR l = 0) : l.Pairwise (fun x y => x.n ≠ y.n) := by
  unfold colsR at h
  split at h
  · exact absurd h (by decide)
  · exact (colsG_apart l [] h).2
theorem placeL_at (n : List UInt8) (l : List Cl) : ∀ j, j ≤ l.length → (placeL n l j = -1 ∧ ∀ (i : Nat) (c : Cl), i < j → l[i]? = some c → c.n ≠ n) ∨ ∃ (i : Nat) (c : Cl), i < j ∧ l[i]? = some c ∧ c.n = n ∧ placeL n l j = (i : Int)
  | 0, _ => .inl ⟨rfl, fun i c h => absurd h (Nat.not_lt_zero _)⟩
  | j + 1, h => by
    have hj : j < l.length := h
    have hg : l[j]? = some l[j] := List.getElem?_eq_getElem hj
    have e : placeL n l (j + 1) = if (l[j]?.map (fun x => x.n == n)) = some true then (j : Int) else placeL n l j := rfl
    by_cases hn : l[j].n = n
    · rw [hg, if_pos (by simp [hn])] at e
      exact .inr ⟨j, l[j], by omega, hg, hn, e⟩
    · rw [hg, if_neg (by simp [hn])] at e
      rcases placeL_at n l j (by omega) with ⟨h1, h2⟩ | ⟨i, c, h1, h2, h3, h4⟩
      · refine .inl ⟨by rw [e, h1], fun i c hi hc => ?_⟩
        rcases Nat.lt_or_ge i j with h3 | h3
        · exact h2 i c h3 hc
        · obtain rfl : i = j := by omega
          rw [hg] at hc; cases hc; exact hn
      · exact .inr ⟨i, c, by omega, h2, h3, by rw [e, h4]⟩
theorem place_same (l : List Cl) (n : List UInt8) (h : colsR l = 0) : placeL n l l.length = placeN n l 0 := by
  rcases placeL_at n l l.length (Nat.le_refl _) with ⟨h1, h2⟩ | ⟨i, c, h1, h2, h3, h4⟩
  · rw [h1, placeN_none n l 0 (fun i x hx => h2 i x (List.getElem?_eq_some_iff.1 hx).1 hx)]
  · rw [h4, placeN_hit n l 0 i c h2 h3 (fun i' x hx hi he => ?_), Nat.zero_add]
    obtain ⟨p1, p2⟩ := List.getElem?_eq_some_iff.1 hx
    obtain ⟨q1, q2⟩ := List.getElem?_eq_some_iff.1 h2
    have := List.pairwise_iff_getElem.1 (colsR_apart l h) i' i p1 q1 hi
    rw [p2, q2] at this
    exact this (by rw [he, h3])
end Go.Proofs.YtcccnpcejfmfcaaGreatDoor

/-! CONTRACT of the reference's kindOf, over columns that may be. CONDITIONS: each theorem's own hypotheses. -/
namespace Go.Proofs.YtcccnpcejfmfcaaGreatDoor
open Go.RowKit
set_option linter.unusedVariables false
set_option maxRecDepth 100000

theorem foldK_take (op : Int) (cs : List Cl) (l : List T) (j : Nat) (t : T) (h : l[j]? = some t) : foldK op (kP cs (l.take (j + 1))) = stepK op (foldK op (kP cs (l.take j))) ((kT cs t).k, (kT cs t).n) := by
  rw [kP_take cs l j t h, foldK_snoc]
/-- What the reference's step leaves, by cases. -/
theorem stepK_cases (op : Int) (so al : Bool) (ak : Int) (cl : Bool) (k : Int) (n : Bool) :
    ((op = 17 ∨ k = 0) ∧ stepK op ⟨so, al, ak, cl⟩ (k, n) = ⟨so || n, al && n, ak, cl⟩) ∨
    ((op ≠ 17 ∧ k ≠ 0 ∧ ak = 0) ∧ stepK op ⟨so, al, ak, cl⟩ (k, n) = ⟨so || n, al && n, k, cl⟩) ∨
    ((op ≠ 17 ∧ k ≠ 0 ∧ ak ≠ 0) ∧ stepK op ⟨so, al, ak, cl⟩ (k, n) = ⟨so || n, al && n, ak, cl || (k != ak)⟩) := by
  by_cases h : op = 17 ∨ k = 0
  · left
    exact ⟨h, by unfold stepK; rw [if_pos h]⟩
  · right
    by_cases h0 : ak = 0
    · left
      refine ⟨⟨fun e => h (.inl e), fun e => h (.inr e), h0⟩, ?_⟩
      unfold stepK
      rw [if_neg h]
      simp [h0]
    · right
      refine ⟨⟨fun e => h (.inl e), fun e => h (.inr e), h0⟩, ?_⟩
      unfold stepK
      rw [if_neg h]
      simp [h0]
end Go.Proofs.YtcccnpcejfmfcaaGreatDoor

/-! CONTRACT of package kinds' Of. CONDITIONS: each theorem's own hypotheses; the tables hold what their initialisers lay (XEnv). -/
namespace Go.Proofs.YtcccnpcejfmfcaaGreatDoor
open Go.RowKit
set_option linter.unusedVariables false
set_option maxRecDepth 100000

theorem Blk.seven {w : World} {b : Nat} {T : TypeId} {v0 v1 v2 v3 v4 v5 v6 : Value} (h : Blk w b T [v0, v1, v2, v3, v4, v5, v6]) : w.cell? ⟨b, 0, none⟩ = some v0 ∧ w.cell? ⟨b, 1, none⟩ = some v1 ∧ w.cell? ⟨b, 2, none⟩ = some v2 ∧ w.cell? ⟨b, 3, none⟩ = some v3 ∧ w.cell? ⟨b, 4, none⟩ = some v4 ∧ w.cell? ⟨b, 5, none⟩ = some v5 ∧ w.cell? ⟨b, 6, none⟩ = some v6 :=
  ⟨h.cell (j := 0) rfl, h.cell (j := 1) rfl, h.cell (j := 2) rfl, h.cell (j := 3) rfl, h.cell (j := 4) rfl, h.cell (j := 5) rfl, h.cell (j := 6) rfl⟩
end Go.Proofs.YtcccnpcejfmfcaaGreatDoor
