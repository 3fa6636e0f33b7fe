/-
  PLAIN: the kind of an expression that raw things make.
  CONDITIONS: none.
-/
import Derived.Test.YtablacloabpjfabGreatDoorTyT
import Derived.Test.YtablacloabpjfabGreatDoorGKindE
namespace Go.Proofs.YtablacloabpjfabGreatDoor
open Go.RowKit
set_option linter.unusedVariables false

theorem leaf_kind {cs : List Cl} (hc : colsR cs = 0) {k : Int} {t : T} (h : Leaf cs k t) : KindOk (kT cs t) k := by
  rcases h with ⟨j, c, hj, hk, rfl⟩ | ⟨k', i, b, s, hk, hchk, h0, _, _, _, rfl⟩
  · have hp : placeN c.n cs 0 = (j : Int) := by
      rw [placeN_hit c.n cs 0 j c hj rfl (fun i' x hx hi he => ?_), Nat.zero_add]
      obtain ⟨p1, p2⟩ := List.getElem?_eq_some_iff.1 hx
      obtain ⟨q1, q2⟩ := List.getElem?_eq_some_iff.1 hj
      have := List.pairwise_iff_getElem.1 (colsR_apart cs hc) i' j p1 q1 hi
      rw [p2, q2] at this
      exact this he
    have e : kT cs (colT c.n) = colK c.n cs := by
      simp only [colT, kT]; rw [if_neg (by decide), if_pos trivial]
    rw [e]
    unfold colK
    rw [hp, if_neg (by omega), Int.toNat_natCast, hj]
    exact ⟨rfl, .inl hk⟩
  · have e : kT cs (litT k' i b s) = ⟨k', k' == 0, 0⟩ := by
      simp only [litT, kT]; rw [if_pos trivial]
    rw [e]
    exact ⟨rfl, hk⟩
theorem ty_kind {cs : List Cl} (hc : colsR cs = 0) : ∀ (n : Nat) (k : Int) (t : T), 1 ≤ k ∧ k ≤ 4 → Ty cs n k t → KindOk (kT cs t) k
  | 0, _, _, _, h => h.elim
  | n + 1, k, t, hk, h => by
    rcases h with h | ⟨op, k', a, h1, h2, rfl⟩ | ⟨op, k', a, b, h1, h2, h3, rfl⟩
    · exact leaf_kind hc h
    · obtain ⟨ho, hk'⟩ := mk1_rng h1
      have ha := ty_kind hc n k' a hk' h2
      have e : kT cs (opN op [a]) = opK op [((kT cs a).k, (kT cs a).n)] := by
        have hF : kF cs [a] = 0 := by simp [kF, ha.1]
        simp only [opN, kT]
        rw [if_neg (by omega), if_neg (by omega), if_neg (by rw [hF]; decide)]
        rfl
      rw [e]
      exact opK_ok1 h1 _ ha.2
    · obtain ⟨ho, hk'⟩ := mk2_rng h1 hk
      have ha := ty_kind hc n k' a hk' h2
      have hb := ty_kind hc n k' b hk' h3
      have e : kT cs (opN op [a, b]) = opK op [((kT cs a).k, (kT cs a).n), ((kT cs b).k, (kT cs b).n)] := by
        have hF : kF cs [a, b] = 0 := by simp [kF, ha.1, hb.1]
        simp only [opN, kT]
        rw [if_neg (by omega), if_neg (by omega), if_neg (by rw [hF]; decide)]
        rfl
      rw [e]
      exact opK_ok2 h1 hk _ _ ha.2 hb.2
end Go.Proofs.YtablacloabpjfabGreatDoor
