/-
  MERGED: LawS2, PathA, Place, PathB.
  CONDITIONS: each theorem's own hypotheses.
-/
import Derived.Test.YtcplnfaopigoiaaDoorGRefS
import Derived.Test.YtcplnfaopigoiaaDoorSame
import Derived.Test.YtcplnfaopigoiaaDoorGBase

/-! THE WALK of the law 'chirographlaw.SlotsRoots'. CONDITIONS: package sum's roundWords hold what their initialiser lays ('KW'). -/
namespace Go.Proofs.YtcplnfaopigoiaaDoor
open Go.RowKit CodeMath Go.Proofs.YtcplnfaopigoiaaDoor.FrameMath
set_option linter.unusedVariables false
set_option maxRecDepth 100000

theorem some_height (l : List Sl) : ∃ h, h ≤ 6 ∧ (isPow l.length = true → l.length = 2 ^ h) := by
  cases hp : isPow l.length with
  | false => exact ⟨0, by decide, fun h => by cases h⟩
  | true =>
    obtain ⟨k, hk6, hk⟩ := pow_of hp
    exact ⟨k, hk6, fun _ => hk⟩
end Go.Proofs.YtcplnfaopigoiaaDoor

/-! PATHS, plain: each entry is the root of a block. CONDITIONS: each theorem's own hypotheses. -/
namespace Go.Proofs.YtcplnfaopigoiaaDoor
open Go.RowKit CodeMath Go.Proofs.YtcplnfaopigoiaaDoor.FrameMath
set_option linter.unusedVariables false
set_option maxRecDepth 100000

theorem tower_at (m : Int) : ∀ (h t : Nat) (rows : List (List UInt8)), t ≤ h → (tower m h rows)[t]? = some (topL m t rows)
  | 0, t, rows, ht => by
    obtain rfl : t = 0 := by omega
    rfl
  | h + 1, 0, rows, _ => rfl
  | h + 1, t + 1, rows, ht => by
    show (rows :: tower m h (up m rows))[t + 1]? = _
    rw [List.getElem?_cons_succ]
    exact tower_at m h t (up m rows) (by omega)
theorem topL_length (m : Int) : ∀ (t q : Nat) (rows : List (List UInt8)), rows.length = q * 2 ^ t → (topL m t rows).length = q
  | 0, q, rows, h => by simpa [topL] using h
  | t + 1, q, rows, h => by
    have e1 : 2 ^ (t + 1) = 2 * 2 ^ t := by rw [Nat.pow_succ, Nat.mul_comm]
    show (topL m t (up m rows)).length = q
    refine topL_length m t q (up m rows) ?_
    rw [up_length, h, e1, ← Nat.mul_assoc, Nat.mul_comm q 2, Nat.mul_assoc]
    omega
def blockB (m : Int) (rows : List (List UInt8)) (t j : Nat) : List UInt8 := rootB m t ((rows.drop (j * 2 ^ t)).take (2 ^ t))
theorem topL_at (m : Int) : ∀ (t j : Nat) (rows : List (List UInt8)), (j + 1) * 2 ^ t ≤ rows.length → (topL m t rows)[j]? = some (blockB m rows t j)
  | 0, j, rows, h => by
    rw [Nat.pow_zero, Nat.mul_one] at h
    obtain ⟨x, hx⟩ : ∃ x, rows[j]? = some x := ⟨_, List.getElem?_eq_getElem (by omega)⟩
    show rows[j]? = some (((rows.drop (j * 1)).take 1).headD [])
    rw [hx, Nat.mul_one]
    have hj := (List.getElem?_eq_some_iff.1 hx)
    obtain ⟨h1, h2⟩ := hj
    rw [List.drop_eq_getElem_cons h1]
    simp [h2]
  | t + 1, j, rows, h => by
    have e1 : 2 ^ (t + 1) = 2 * 2 ^ t := by rw [Nat.pow_succ, Nat.mul_comm]
    have e2 : (j + 1) * 2 ^ (t + 1) = 2 * ((j + 1) * 2 ^ t) := by rw [e1, ← Nat.mul_assoc, Nat.mul_comm (j + 1) 2, Nat.mul_assoc]
    have e3 : j * 2 ^ (t + 1) = 2 * (j * 2 ^ t) := by rw [e1, ← Nat.mul_assoc, Nat.mul_comm j 2, Nat.mul_assoc]
    have e4 : (j + 1) * 2 ^ t = j * 2 ^ t + 2 ^ t := by rw [Nat.add_mul, Nat.one_mul]
    show (topL m t (up m rows))[j]? = _
    rw [topL_at m t j (up m rows) (by rw [up_length]; omega)]
    unfold blockB
    rw [up_drop, up_take, ← e3, ← e1, rootB_up]
    rw [List.length_take, List.length_drop]
    omega
/-- The other half's place. -/
def sib (i t : Nat) : Nat := (i / 2 ^ t) ^^^ 1
theorem sib_lt : ∀ (h t i : Nat), h ≤ 6 → t < h → i < 2 ^ h → sib i t < 2 ^ (h - t) := by
  have key : ∀ (h : Fin 7) (t : Fin 7) (i : Fin 64), t.1 < h.1 → i.1 < 2 ^ h.1 → sib i.1 t.1 < 2 ^ (h.1 - t.1) := by decide +kernel
  intro h t i h6 ht hi
  have h64 : 2 ^ h ≤ 2 ^ 6 := Nat.pow_le_pow_right (by decide) h6
  have e6 : 2 ^ 6 = 64 := by decide
  exact key ⟨h, by omega⟩ ⟨t, by omega⟩ ⟨i, by omega⟩ ht hi
theorem sib_small : ∀ (h t i : Nat), h ≤ 6 → i < 2 ^ h → sib i t ≤ 64 ∧ i / 2 ^ t < 65 := by
  intro h t i h6 hi
  have h64 : 2 ^ h ≤ 2 ^ 6 := Nat.pow_le_pow_right (by decide) h6
  have e6 : 2 ^ 6 = 64 := by decide
  have h1 : i / 2 ^ t ≤ i := Nat.div_le_self _ _
  have h2 : i / 2 ^ t < 65 := by omega
  have key : ∀ n : Fin 65, n.1 ≠ 64 → n.1 ^^^ 1 ≤ 64 := by decide +kernel
  exact ⟨key ⟨i / 2 ^ t, h2⟩ (by show i / 2 ^ t ≠ 64; omega), h2⟩
theorem xor_one : ∀ n : Nat, n < 65 → bits .xor .i64 (n : Int) 1 = ((n ^^^ 1 : Nat) : Int) := by
  refine bounded ?_
  decide +kernel
def wayB (m : Int) (rows : List (List UInt8)) (i h : Nat) : List (List UInt8) := (List.range h).map fun t => blockB m rows t (sib i t)
theorem wayB_length (m : Int) (rows : List (List UInt8)) (i h : Nat) : (wayB m rows i h).length = h := by simp [wayB]
theorem wayB_at (m : Int) (rows : List (List UInt8)) (i h t : Nat) (ht : t < h) : (wayB m rows i h)[t]? = some (blockB m rows t (sib i t)) := by simp [wayB, ht]
theorem tower_path (m : Int) (h t i : Nat) (rows : List (List UInt8)) (h6 : h ≤ 6) (ht : t < h) (hi : i < 2 ^ h) (hl : rows.length = 2 ^ h) :
    ∃ lev, (tower m h rows)[t]? = some lev ∧ lev.length = 2 ^ (h - t) ∧ lev[sib i t]? = some (blockB m rows t (sib i t)) := by
  have e : 2 ^ h = 2 ^ (h - t) * 2 ^ t := by rw [← Nat.pow_add]; congr 1; omega
  have hs := sib_lt h t i h6 ht hi
  refine ⟨topL m t rows, tower_at m h t rows (by omega), topL_length m t (2 ^ (h - t)) rows (by rw [hl, e]), topL_at m t _ rows ?_⟩
  rw [hl, e]
  exact Nat.mul_le_mul_right _ hs
def pathR (m : Int) (h : Nat) (l : List Sl) (i : Int) : LR := match levelsR m l with
  | .err e => .err e
  | .ok rows => if 0 ≤ i ∧ i < l.length then .ok (wayB m rows i.toNat h) else .err 6
def LinesPost (R : LR) (w : World) (e : Ending) (w' : World) : Prop := match R with
  | .err c => e = .returned (.tuple #[.slice none 0 0, .int .i64 c]) ∧ Below w.heap.size w w'
  | .ok rows => ∃ ap cp, e = .returned (.tuple #[.slice ap rows.length cp, .int .i64 0]) ∧ Lines w' ap rows ∧ Below w.heap.size w w'
end Go.Proofs.YtcplnfaopigoiaaDoor

/-! CONTRACT of known.Place. CONDITIONS: each theorem's own hypotheses. -/
namespace Go.Proofs.YtcplnfaopigoiaaDoor
open Go.RowKit CodeMath
set_option linter.unusedVariables false
set_option maxRecDepth 100000

theorem isPlace_any (i n : Int) (b : Bool) (hb : decide (0 ≤ i ∧ i < n) = b) (w : World) (i0 : -9223372036854775808 ≤ i) (i1 : i ≤ 9223372036854775807) :
    Calls Tryd.prog 49 #[.int .i64 i, .int .i64 n] w fun e w' => e = .returned (.bool b) ∧ w = w' := by
  by_cases h1 : 0 ≤ i
  · by_cases h2 : i < n
    · have hb' : b = true := by rw [← hb]; simp [h1, h2]
      clear hb
      subst hb'
      go_enter Tryd.func49, Tryd.ntmps49
      go_wp2_with fail
      go_ret
      exact ⟨rfl, rfl⟩
    · have hb' : b = false := by rw [← hb]; simp [h2]
      clear hb
      subst hb'
      go_enter Tryd.func49, Tryd.ntmps49
      go_wp2_with fail
      go_ret
      exact ⟨rfl, rfl⟩
  · have hb' : b = false := by rw [← hb]; simp [h1]
    clear hb
    subst hb'
    go_enter Tryd.func49, Tryd.ntmps49
    go_wp2_with fail
    go_ret
    exact ⟨rfl, rfl⟩
end Go.Proofs.YtcplnfaopigoiaaDoor

/-! CONTRACT of package slots' Path. CONDITIONS: package sum's roundWords hold what their initialiser lays ('KW'). -/
namespace Go.Proofs.YtcplnfaopigoiaaDoor
open Go.RowKit CodeMath Go.Proofs.YtcplnfaopigoiaaDoor.FrameMath
set_option linter.unusedVariables false
set_option maxRecDepth 100000

set_option maxHeartbeats 4000000 in
theorem Path_any (m : Int) (l : List Sl) (ao : Option Addr) (cap : Nat) (i : Int) (w : World) (m0 : -9223372036854775808 ≤ m) (m1 : m ≤ 9223372036854775807) (hc : l.length ≤ cap) (hq : cap ≤ 9223372036854775807) (i0 : -9223372036854775808 ≤ i) (i1 : i ≤ 9223372036854775807) (hS : Slots w ao l) (hT : KW w) (h : Nat) (h6 : h ≤ 6) (hh : isPow l.length = true → l.length = 2 ^ h) :
    Calls Tryd.prog 24 #[.int .i64 m, .slice ao l.length cap, .int .i64 i] w (LinesPost (pathR m h l i) w) := by
  have cL := levels_any m l ao cap w m0 m1 hc hq hS hT h hh
  have cP := fun b hb W => isPlace_any i (l.length : Int) b hb W i0 i1
  unfold pathR
  cases hR : levelsR m l with
  | err q =>
    rw [hR] at cL
    have q0 := levelsR_ne hR
    show Calls _ _ _ _ (LinesPost (.err q) w)
    clear hh hc hR hS cP
    generalize l.length = n at *
    go_enter Tryd.func24, Tryd.ntmps24
    go_wp2_with fail
    refine cL.mono ?_
    rintro e w1 ⟨rfl, hb1⟩
    clear cL
    go_wp2_with fail
    go_ret2
    exact ⟨rfl, hb1⟩
  | ok rows =>
    rw [hR] at cL
    obtain ⟨_, hp, hlv⟩ := levelsR_ok hR
    have hrl := leavesR_length m l rows hlv
    have hlh := hh hp
    by_cases hi : 0 ≤ i ∧ i < l.length
    · have cP' := cP true (decide_eq_true hi)
      show Calls _ _ _ _ (LinesPost (if 0 ≤ i ∧ i < l.length then .ok (wayB m rows i.toNat h) else .err 6) w)
      rw [if_pos hi]
      obtain ⟨p, rfl⟩ : ∃ p : Nat, i = p := ⟨i.toNat, by omega⟩
      rw [Int.toNat_natCast]
      have hp2 : p < 2 ^ h := by omega
      have hpt := fun t ht => tower_path m h t p rows h6 ht hp2 (by rw [hrl, hlh])
      have hsl := fun t ht => sib_lt h t p h6 ht hp2
      have hss := fun t => sib_small h t p h6 hp2
      have htl := tower_length m h rows
      have hwl := wayB_length m rows p h
      have hwa := wayB_at m rows p h
      have HPT := Lib.hid hpt
      have HSL := Lib.hid hsl
      have HSS := Lib.hid hss
      have HTL := Lib.hid htl
      have HWL := Lib.hid hwl
      have HWA := Lib.hid hwa
      have hI : (h : Int) ≤ 6 := by omega
      have p64 : (p : Int) < 64 := by
        have h64 : 2 ^ h ≤ 2 ^ 6 := Nat.pow_le_pow_right (by decide) h6
        have e6 : 2 ^ 6 = 64 := by decide
        omega
      generalize wayB m rows p h = PB at *
      obtain ⟨i0', hi', hz0, hz1, hz2⟩ := info_parts infoL
      clear hh hc hR hS hp hlv hrl hpt hsl hss htl hwl hwa cP hi hlh hp2
      generalize l.length = n at *
      go_enter Tryd.func24, Tryd.ntmps24
      go_wp2_with fail
      refine cL.mono ?_
      rintro e w1 ⟨v1, rfl, hot, hb1⟩
      clear cL
      go_wp2_with fail
      refine (cP' _).mono ?_
      rintro e w2 ⟨rfl, rfl⟩
      clear cP'
      obtain ⟨us, hown, hlev⟩ := hot
      rw [HTL.out] at hown
      rcases hown.2 with ⟨_, h0⟩ | ⟨gt, ct, cur, rfl, k1, k2, k3, k4, k5, k6⟩
      · omega
      · have hcellT : Hid (∀ t u, us[t]? = some u → t < h + 1 → w1.cell? ⟨gt, t, none⟩ = some u) := fun t u hu ht => by
          rw [cell_of_block k2]
          rw [← k6, List.getElem?_take_of_lt (by omega)] at hu
          simpa using hu
        have hgt : gt < w1.heap.size := (Array.getElem?_eq_some_iff.1 k2).1
        have hI1 : (h : Int) + 1 - 1 = h := by omega
        clear hown k1 k2 k3 k4 k5 k6
        go_wp2_with (first
          | (with_reducible refine wpList_make_full _ rfl (.tmp 29) (.tmp 29) 24 rfl w1.heap.size 32 i0' (.slice none 0 0) 1 Tryd.underlying24 hi' hz0 hz1 .i64 .i64 (h : Int) (h : Int) h rfl rfl rfl rfl (by rw [hz2]; omega) (by unfold maxLen; omega) (Nat.le_refl _) ?_; intro w2 ho2 hg2)
          | fail)
        have hB2 : Below w1.heap.size w1 w2 := (Below.refl _ _).grown hg2 (Nat.le_refl _) (fun k h => by cases h)
        have hL2 := LevB.fresh ho2
        clear ho2 hg2 hi' hz0 hz1 hz2
        go_loopw [33] (fun ix wr => ∃ t : Nat, t ≤ h ∧ ix = .int .i64 t ∧ LevB wr w1.heap.size (PB.take t ++ List.replicate (h - t) []) ∧ Below w1.heap.size w1 wr) (fun ix _ => h - (intOf ix).toNat)
        case atStart => exact ⟨0, Nat.zero_le _, rfl, by simpa using hL2, hB2⟩
        case round =>
          obtain ⟨t, htn, rfl, hlv, hbr⟩ := hrel
          clear hL2 hB2
          by_cases hlt : t < h
          · have tI : (t : Int) < h := by omega
            obtain ⟨lev, hl1, hl2, hl3⟩ := HPT.out t hlt
            obtain ⟨g3, hu3, us3, b1, b2, b3⟩ := hlev t lev hl1
            obtain ⟨u, hu4, hr4⟩ := b3 _ _ hl3
            have d1 := (hbr.cell (p := ⟨gt, t, none⟩) hgt).trans (hcellT.out t _ hu3 (by omega))
            have d2 := (hbr.cell (p := ⟨g3, sib p t, none⟩) b1.lt).trans (b1.cell hu4)
            have hr5 := hr4.keep hbr
            have hfill : Hid ((PB.take t ++ List.replicate (h - t) []).set t (blockB m rows t (sib p t)) = PB.take (t + 1) ++ List.replicate (h - (t + 1)) []) := by
              show _ = _
              rw [fill_next (PB.take t) h t _ (by rw [List.length_take]; have := HWL.out; omega) hlt, take_next PB t _ (HWA.out t hlt)]
            have hlen : (PB.take t ++ List.replicate (h - t) []).length = h := by rw [List.length_append, List.length_take, List.length_replicate]; have := HWL.out; omega
            have HLT := Lib.hid hlt
            obtain ⟨⟨u0, hu0⟩, hf0⟩ := hlv.cell t (by rw [hlen]; exact hlt)
            obtain ⟨a2, n2, c2, rfl⟩ : ∃ a n k, u = .slice a n k := by obtain ⟨a, k, e, _⟩ := hr4; exact ⟨_, _, _, e⟩
            have hlv3 := hlv.set t _ _ hr5
            rw [hfill.out] at hlv3
            have hbb3 := hbr.grown (grown_set wr ⟨w1.heap.size, t, none⟩ (.slice a2 n2 c2)) hbr.size (fun k h => by cases h; exact Nat.le_refl _)
            have hsx := xor_one (p / 2 ^ t) (HSS.out t).2
            have hsl' := HSL.out t hlt
            rw [← hl2] at hsl'
            have hsI : ((sib p t : Nat) : Int) < (lev.length : Int) := by omega
            rw [show (p / 2 ^ t) ^^^ 1 = sib p t from rfl] at hsx
            have hdv : (p : Int) / 2 ^ t = ((p / 2 ^ t : Nat) : Int) := by simp
            generalize sib p t = q at *
            generalize p / 2 ^ t = pq at *
            generalize lev.length = ll at *
            generalize PB.take t ++ List.replicate (h - t) [] = RS at *
            generalize blockB m rows t q = BB at *
            clear hl1 hl2 hl3 hu3 b1 b2 b3 hu4 hr4 hr5 hlv hfill hlen hlt hsl'
            go_wp2_with fail
            go_roundw
            case rel => exact ⟨t + 1, HLT.out, by go_num, hlv3, hbb3⟩
            case measure => have := HLT.out; simp [intOf]; omega
          · have tI : ¬ (t : Int) < h := by omega
            have hie : t = h := by omega
            have hlv2 : LevB wr w1.heap.size PB := by
              rw [hie, Nat.sub_self, List.take_of_length_le (by rw [HWL.out]; exact Nat.le_refl _)] at hlv
              simpa using hlv
            have hbb := below_step hb1 hb1.size hbr
            clear hlt hie hlv
            go_wp2_with fail
            go_ret2
            exact ⟨_, _, by rw [HWL.out]; rfl, hlv2.lines, hbb⟩
    · have cP' := cP false (decide_eq_false hi)
      show Calls _ _ _ _ (LinesPost (if 0 ≤ i ∧ i < l.length then .ok (wayB m rows i.toNat h) else .err 6) w)
      rw [if_neg hi]
      clear hh hc hR hS hp hlv hrl cP hi hlh
      generalize l.length = n at *
      go_enter Tryd.func24, Tryd.ntmps24
      go_wp2_with fail
      refine cL.mono ?_
      rintro e w1 ⟨v1, rfl, hot, hb1⟩
      clear cL
      go_wp2_with fail
      refine (cP' _).mono ?_
      rintro e w2 ⟨rfl, rfl⟩
      go_wp2_with fail
      go_ret2
      exact ⟨rfl, hb1⟩
end Go.Proofs.YtcplnfaopigoiaaDoor
