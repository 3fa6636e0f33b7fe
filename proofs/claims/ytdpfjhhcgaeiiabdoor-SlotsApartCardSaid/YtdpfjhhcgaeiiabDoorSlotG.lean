/-
  CONTRACT of package slots' Root; the root, plain.
  CONDITIONS: package sum's roundWords hold what their initialiser lays ('KW').
-/
import Derived.Test.YtdpfjhhcgaeiiabDoorSlotF
namespace Go.Proofs.YtdpfjhhcgaeiiabDoor
open Go.RowKit CodeMath Go.Proofs.YtdpfjhhcgaeiiabDoor.FrameMath
set_option linter.unusedVariables false
set_option maxRecDepth 100000

/-- The root of digests, half by half. -/
def rootB (m : Int) : Nat → List (List UInt8) → List UInt8
  | 0, rows => rows.headD []
  | h + 1, rows => nodeB m (rootB m h (rows.take (2 ^ h))) (rootB m h (rows.drop (2 ^ h)))
def topL (m : Int) : Nat → List (List UInt8) → List (List UInt8)
  | 0, rows => rows
  | h + 1, rows => topL m h (up m rows)
theorem up_take (m : Int) : ∀ (k : Nat) (rows : List (List UInt8)), (up m rows).take k = up m (rows.take (2 * k))
  | 0, rows => by simp [up]
  | k + 1, [] => by simp [up]
  | k + 1, [a] => by
    rw [show 2 * (k + 1) = 2 * k + 1 + 1 by omega]
    simp [up]
  | k + 1, a :: b :: r => by
    rw [show 2 * (k + 1) = 2 * k + 1 + 1 by omega]
    show nodeB m a b :: (up m r).take k = up m (a :: b :: r.take (2 * k))
    rw [up_take m k r]
    rfl
theorem up_drop (m : Int) : ∀ (k : Nat) (rows : List (List UInt8)), (up m rows).drop k = up m (rows.drop (2 * k))
  | 0, rows => by simp
  | k + 1, [] => by simp [up]
  | k + 1, [a] => by
    rw [show 2 * (k + 1) = 2 * k + 1 + 1 by omega]
    simp [up]
  | k + 1, a :: b :: r => by
    rw [show 2 * (k + 1) = 2 * k + 1 + 1 by omega]
    show (up m r).drop k = up m (r.drop (2 * k))
    exact up_drop m k r
theorem rootB_up (m : Int) : ∀ (h : Nat) (rows : List (List UInt8)), rows.length = 2 ^ (h + 1) → rootB m (h + 1) rows = rootB m h (up m rows)
  | 0, rows, hl => by
    match rows, hl with
    | [a, b], _ => rfl
  | h + 1, rows, hl => by
    have e1 : 2 ^ (h + 1) = 2 * 2 ^ h := by rw [Nat.pow_succ, Nat.mul_comm]
    have e2 : 2 ^ (h + 1 + 1) = 2 * 2 ^ (h + 1) := by rw [Nat.pow_succ, Nat.mul_comm]
    show nodeB m (rootB m (h + 1) (rows.take (2 ^ (h + 1)))) (rootB m (h + 1) (rows.drop (2 ^ (h + 1)))) = nodeB m (rootB m h ((up m rows).take (2 ^ h))) (rootB m h ((up m rows).drop (2 ^ h)))
    rw [rootB_up m h _ (by rw [List.length_take]; omega), rootB_up m h _ (by rw [List.length_drop]; omega), up_take, up_drop, ← e1]
theorem topL_root (m : Int) : ∀ (h : Nat) (rows : List (List UInt8)), rows.length = 2 ^ h → topL m h rows = [rootB m h rows]
  | 0, rows, hl => by
    match rows, hl with
    | [a], _ => rfl
  | h + 1, rows, hl => by
    show topL m h (up m rows) = _
    have e1 : 2 ^ (h + 1) = 2 * 2 ^ h := by rw [Nat.pow_succ, Nat.mul_comm]
    rw [topL_root m h (up m rows) (by rw [up_length]; omega), rootB_up m h rows hl]
theorem tower_top (m : Int) : ∀ (h : Nat) (rows : List (List UInt8)), (tower m h rows)[h]? = some (topL m h rows)
  | 0, rows => rfl
  | h + 1, rows => by
    show (rows :: tower m h (up m rows))[h + 1]? = _
    rw [List.getElem?_cons_succ]
    exact tower_top m h (up m rows)
def rootR (m : Int) (h : Nat) (l : List Sl) : DR := match levelsR m l with
  | .err e => .err e
  | .ok rows => .ok (rootB m h rows)
theorem levelsR_ok {m : Int} {l : List Sl} {rows : List (List UInt8)} (h : levelsR m l = .ok rows) : isMode m = true ∧ isPow l.length = true ∧ leavesR m l = .ok rows := by
  unfold levelsR at h
  split at h
  · cases h
  · split at h
    · cases h
    · rename_i h1 h2
      exact ⟨by simpa using h1, by simpa using h2, h⟩
theorem levelsR_ne {m : Int} {l : List Sl} {e : Int} (h : levelsR m l = .err e) : e ≠ 0 := by
  unfold levelsR at h
  split at h
  · cases h; decide
  · split at h
    · cases h; decide
    · exact leavesR_ne m l e h
set_option maxHeartbeats 4000000 in
theorem Root_any (m : Int) (l : List Sl) (ao : Option Addr) (cap : Nat) (w : World) (m0 : -9223372036854775808 ≤ m) (m1 : m ≤ 9223372036854775807) (hc : l.length ≤ cap) (hq : cap ≤ 9223372036854775807) (hS : Slots w ao l) (hT : KW w) (h : Nat) (hh : isPow l.length = true → l.length = 2 ^ h) :
    Calls Tryd.prog 14 #[.int .i64 m, .slice ao l.length cap] w (DigPost (rootR m h l) w) := by
  have cL := levels_any m l ao cap w m0 m1 hc hq hS hT h hh
  unfold rootR
  cases hR : levelsR m l with
  | err q =>
    rw [hR] at cL
    have q0 := levelsR_ne hR
    show Calls _ _ _ _ (DigPost (.err q) w)
    clear hh hc hR hS
    generalize l.length = n at *
    go_enter Tryd.func14, Tryd.ntmps14
    go_wp2_with fail
    refine cL.mono ?_
    rintro e w1 ⟨rfl, hb1⟩
    clear cL
    go_wp2_with fail
    go_ret2
    exact ⟨rfl, hb1⟩
  | ok rows =>
    rw [hR] at cL
    obtain ⟨_, hp, hlv⟩ := levelsR_ok hR
    have hrl := leavesR_length m l rows hlv
    have htop := tower_top m h rows
    rw [topL_root m h rows (by rw [hrl]; exact hh hp)] at htop
    have htl := tower_length m h rows
    show Calls _ _ _ _ (DigPost (.ok (rootB m h rows)) w)
    have h6 : h ≤ 6 := by
      obtain ⟨k, hk6, hk⟩ := pow_of hp
      have h1 := hh hp
      rw [hk] at h1
      rcases Nat.lt_or_ge 6 h with h7 | h7
      · exfalso
        have h8 : 2 ^ 7 ≤ 2 ^ h := Nat.pow_le_pow_right (by decide) h7
        have h9 : 2 ^ k ≤ 2 ^ 6 := Nat.pow_le_pow_right (by decide) hk6
        have e7 : 2 ^ 7 = 128 := by decide
        have e6 : 2 ^ 6 = 64 := by decide
        omega
      · exact h7
    generalize rootB m h rows = B at *
    have HTOP := Lib.hid htop
    have HTL := Lib.hid htl
    clear hh hc hR hS hp hlv hrl htop htl
    generalize l.length = n at *
    go_enter Tryd.func14, Tryd.ntmps14
    go_wp2_with fail
    refine cL.mono ?_
    rintro e w1 ⟨v1, rfl, hot, hb1⟩
    clear cL
    obtain ⟨us, hown, hlv⟩ := hot
    obtain ⟨g, hu1, hl1⟩ := hlv h _ HTOP.out
    rw [HTL.out] at hown
    rcases hown.2 with ⟨_, h0⟩ | ⟨gt, ct, cur, rfl, k1, k2, k3, k4, k5, k6⟩
    · omega
    · have hcell : w1.cell? ⟨gt, h, none⟩ = some (.slice (some ⟨g, 0, none⟩) 1 1) := by
        rw [cell_of_block k2]
        rw [← k6, List.getElem?_take_of_lt (by omega)] at hu1
        simpa using hu1
      obtain ⟨us2, b1, b2, b3⟩ := hl1
      obtain ⟨u, hu2, hr⟩ := b3 0 B rfl
      have hcell2 : w1.cell? ⟨g, 0, none⟩ = some u := b1.cell hu2
      have hI : ((h + 1 : Nat) : Int) - 1 = h := by omega
      have hI2 : (h : Int) + 1 - 1 = h := by omega
      have hb : (h : Int) ≤ 6 := by omega
      obtain ⟨a2, n2, c2, rfl⟩ : ∃ a n k, u = .slice a n k := by obtain ⟨a, k, e, _⟩ := hr; exact ⟨_, _, _, e⟩
      clear hown hlv hu1 k1 k2 k3 k4 k5 k6 b1 b2 b3 hu2
      go_wp2_with fail
      go_ret2
      exact ⟨_, rfl, hr, hb1⟩
end Go.Proofs.YtdpfjhhcgaeiiabDoor
