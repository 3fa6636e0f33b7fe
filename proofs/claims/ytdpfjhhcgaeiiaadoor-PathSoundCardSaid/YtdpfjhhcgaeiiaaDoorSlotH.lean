/-
  CONTRACTS of the reference's whole and slotsFault.
  CONDITIONS: each theorem's own hypotheses.
-/
import Derived.Test.YtdpfjhhcgaeiiaaDoorSlotG
import Derived.Test.YtdpfjhhcgaeiiaaDoorLeafOf
namespace Go.Proofs.YtdpfjhhcgaeiiaaDoor
open Go.RowKit CodeMath Go.Proofs.YtdpfjhhcgaeiiaaDoor.FrameMath
set_option linter.unusedVariables false
set_option maxRecDepth 100000

def pwI : Nat → Int
  | 0 => 1
  | 1 => 2
  | 2 => 4
  | 3 => 8
  | 4 => 16
  | 5 => 32
  | 6 => 64
  | _ => 0
theorem isPow_at (i : Nat) (hi : i < 7) : isPow (pwI i) = true := by
  match i, hi with
  | 0, _ => rfl
  | 1, _ => rfl
  | 2, _ => rfl
  | 3, _ => rfl
  | 4, _ => rfl
  | 5, _ => rfl
  | 6, _ => rfl
theorem isPow_none (n : Int) (h : ∀ j, j < 7 → n ≠ pwI j) : isPow n = false := by
  have h0 := h 0 (by decide)
  have h1 := h 1 (by decide)
  have h2 := h 2 (by decide)
  have h3 := h 3 (by decide)
  have h4 := h 4 (by decide)
  have h5 := h 5 (by decide)
  have h6 := h 6 (by decide)
  simp only [pwI] at h0 h1 h2 h3 h4 h5 h6
  unfold isPow
  simp only [decide_eq_false_iff_not]
  omega
theorem pw_range (i : Nat) : 0 ≤ pwI i ∧ pwI i ≤ 64 := by
  unfold pwI
  split <;> omega
set_option maxHeartbeats 1000000 in
theorem whole_any (n : Int) (n0 : -9223372036854775808 ≤ n) (n1 : n ≤ 9223372036854775807) (w : World) :
    Calls Tryd.prog 54 #[.int .i64 n] w fun e w' => e = .returned (.bool (isPow n)) ∧ Below w.heap.size w w' := by
  have hB : ∀ o, Below w.heap.size w (w.alloc o) := fun o => (Below.refl _ _).alloc (Nat.le_refl _) o
  obtain ⟨b, hb⟩ : ∃ b, isPow n = b := ⟨_, rfl⟩
  rw [hb]
  have HBB := Lib.hid hb
  have hcell : ∀ i, i < 7 → (w.alloc (.cells #[.int .i64 1, .int .i64 2, .int .i64 4, .int .i64 8, .int .i64 16, .int .i64 32, .int .i64 64] 3)).cell? ⟨w.heap.size, i, none⟩ = some (.int .i64 (pwI i)) := fun i hi => by
    rw [World.cell?_alloc_new]
    match i, hi with
    | 0, _ => rfl
    | 1, _ => rfl
    | 2, _ => rfl
    | 3, _ => rfl
    | 4, _ => rfl
    | 5, _ => rfl
    | 6, _ => rfl
  have HC := Lib.hid hcell
  clear hb hcell
  go_enter Tryd.func54, Tryd.ntmps54
  go_wp2_with fail
  have hB1 := hB (.cells #[.int .i64 1, .int .i64 2, .int .i64 4, .int .i64 8, .int .i64 16, .int .i64 32, .int .i64 64] 3)
  clear hB
  generalize w.alloc (.cells #[.int .i64 1, .int .i64 2, .int .i64 4, .int .i64 8, .int .i64 16, .int .i64 32, .int .i64 64] 3) = W0 at *
  go_loopw [7] (fun ix wr => ∃ i : Nat, i ≤ 7 ∧ ix = .int .i64 i ∧ Hid (∀ j, j < i → n ≠ pwI j) ∧ wr = W0) (fun ix _ => 7 - (intOf ix).toNat)
  case atStart => exact ⟨0, Nat.zero_le _, rfl, (fun j hj => by omega : ∀ j, j < 0 → n ≠ pwI j), rfl⟩
  case round =>
    obtain ⟨i, hi, rfl, hno, rfl⟩ := hrel
    by_cases hlt : i < 7
    · have iI : (i : Int) < 7 := by omega
      have hc := HC.out i hlt
      have hr := pw_range i
      by_cases hn : n = pwI i
      · have hbt : b = true := by rw [← HBB.out, hn]; exact isPow_at i hlt
        subst hbt
        generalize pwI i = p at *
        subst hn
        clear hno HC
        go_wp2_with fail
        go_ret
        exact ⟨rfl, hB1⟩
      · have hno2 : Hid (∀ j, j < i + 1 → n ≠ pwI j) := fun j hj => by
          by_cases hji : j < i
          · exact hno.out j hji
          · obtain rfl : j = i := by omega
            exact hn
        have HLT := Lib.hid hlt
        generalize pwI i = p at *
        clear hno hlt
        go_wp2_with fail
        go_roundw
        case rel => exact ⟨i + 1, HLT.out, by go_num, hno2, by first | rfl | trivial⟩
        case measure => have := HLT.out; simp [intOf]; omega
    · have iI : ¬ (i : Int) < 7 := by omega
      have hbf : b = false := by
        rw [← HBB.out]
        exact isPow_none n (fun j hj => hno.out j (by omega))
      subst hbf
      clear hno hlt
      go_wp2_with fail
      go_ret
      exact ⟨rfl, hB1⟩
def faultOf : LR → Int
  | .err e => e
  | .ok _ => 0
set_option maxHeartbeats 4000000 in
theorem slotsFault_any (m : Int) (l : List Sl) (ao : Option Addr) (cap : Nat) (w : World) (m0 : -9223372036854775808 ≤ m) (m1 : m ≤ 9223372036854775807) (hc : l.length ≤ cap) (hq : cap ≤ 9223372036854775807) (hS : Slots w ao l) :
    Calls Tryd.prog 45 #[.int .i64 m, .slice ao l.length cap] w fun e w' => e = .returned (.int .i64 (faultOf (levelsR m l))) ∧ Below w.heap.size w w' := by
  have cM := fun W => badMode_any m W m0 m1
  have cN := fun W => whole_any (l.length : Int) (by omega) (by omega) W
  have hBB := Below.refl w.heap.size w
  obtain ⟨F, hF⟩ : ∃ F, faultOf (levelsR m l) = F := ⟨_, rfl⟩
  rw [hF]
  unfold levelsR at hF
  cases hm : isMode m with
  | false =>
    rw [if_pos hm] at hF
    subst hF
    rw [hm] at cM
    clear hm cN hc
    generalize l.length = n
    go_enter Tryd.func45, Tryd.ntmps45
    go_wp2_with fail
    refine (cM _).mono ?_
    rintro e w1 ⟨rfl, rfl⟩
    go_wp2_with fail
    go_ret
    exact ⟨rfl, hBB⟩
  | true =>
    rw [if_neg (by rw [hm]; decide)] at hF
    rw [hm] at cM
    cases hp : isPow l.length with
    | false =>
      rw [if_pos hp] at hF
      subst hF
      rw [hp] at cN
      clear hm hc hp hBB
      generalize l.length = n at *
      go_enter Tryd.func45, Tryd.ntmps45
      go_wp2_with fail
      refine (cM _).mono ?_
      rintro e w1 ⟨rfl, rfl⟩
      go_wp2_with fail
      refine (cN _).mono ?_
      rintro e w1 ⟨rfl, hb1⟩
      go_wp2_with fail
      go_ret
      exact ⟨rfl, hb1⟩
    | true =>
      rw [if_neg (by rw [hp]; decide)] at hF
      rw [hp] at cN
      have hl : l.length ≤ 64 := by
        obtain ⟨k, hk6, hk⟩ := pow_of hp
        have h9 : 2 ^ k ≤ 2 ^ 6 := Nat.pow_le_pow_right (by decide) hk6
        have e6 : 2 ^ 6 = 64 := by decide
        omega
      obtain ⟨n, hn⟩ : ∃ n, l.length = n := ⟨_, rfl⟩
      have hget : ∀ i x, l[i]? = some x → ∃ a o, ao = some ⟨a, o, none⟩ ∧ a < w.heap.size ∧ SlotAt w a (o + i * 3) x := fun i x hx => by
        rcases hS with h | ⟨a, o, h1, h2, h3⟩
        · rw [h] at hx; simp at hx
        · exact ⟨a, o, h1, h2, h3 i x hx⟩
      have HG := Lib.hid hget
      have HF := Lib.hid hF
      have HN := Lib.hid hn
      rw [hn] at hc hl cN ⊢
      have nI : (n : Int) ≤ 64 := by omega
      clear hget hF hn hS hp hm hBB
      go_enter Tryd.func45, Tryd.ntmps45
      go_wp2_with fail
      refine (cM _).mono ?_
      rintro e w1 ⟨rfl, rfl⟩
      go_wp2_with fail
      refine (cN _).mono ?_
      rintro e w1 ⟨rfl, hb1⟩
      clear cM cN
      go_wp2_with fail
      go_loopw [17] (fun ix wr => ∃ (i : Nat) (rows : List (List UInt8)), i ≤ n ∧ ix = .int .i64 i ∧ Hid (leavesR m (l.take i) = .ok rows) ∧ Below w.heap.size w wr) (fun ix _ => n - (intOf ix).toNat)
      case atStart => exact ⟨0, [], Nat.zero_le _, rfl, Lib.hid rfl, hb1⟩
      case round =>
        obtain ⟨i, rows, hin, rfl, hrw, hbr⟩ := hrel
        clear hb1
        by_cases hlt : i < n
        · have iI : (i : Int) < n := by omega
          obtain ⟨x, hx⟩ : ∃ x, l[i]? = some x := ⟨_, List.getElem?_eq_getElem (by rw [HN.out]; exact hlt)⟩
          obtain ⟨a, o, rfl, ha, us, ud, c0, c1, c2, r1, r2⟩ := HG.out i x hx
          obtain ⟨hE, hO⟩ := leavesR_next m l i x rows hrw.out hx
          have d0 := (hbr.cell (p := ⟨a, o + i * 3, none⟩) ha).trans c0
          have d1 := (hbr.cell (p := ⟨a, o + i * 3 + 1, none⟩) ha).trans c1
          have d2 := (hbr.cell (p := ⟨a, o + i * 3 + 2, none⟩) ha).trans c2
          have cL := fun W h1 h2 => LeafOf_any m x.f x.s x.d us ud W m0 m1 h1 h2
          have hbx : Hid (∀ W, Below w.heap.size w W → RowV W us x.s ∧ RowV W ud x.d) := fun W hW => ⟨r1.keep hW, r2.keep hW⟩
          obtain ⟨au, nu, ku, rfl⟩ : ∃ a n k, us = .slice a n k := by obtain ⟨a, k, e, _⟩ := r1; exact ⟨_, _, _, e⟩
          obtain ⟨av, nv, kv, rfl⟩ : ∃ a n k, ud = .slice a n k := by obtain ⟨a, k, e, _⟩ := r2; exact ⟨_, _, _, e⟩
          have hba : ∀ o, Below w.heap.size w (wr.alloc o) := fun o => hbr.alloc hbr.size o
          have HLT := Lib.hid hlt
          cases hlf : leafR m x.f x.s x.d with
          | err q =>
            have hFe : Hid (F = q) := by have := HF.out; show _ = _; rw [← this, hE q hlf]; rfl
            have q0 := leafR_ne _ _ _ _ _ hlf
            rw [hlf] at cL
            clear hE hO hlf c0 c1 c2 r1 r2 hx hrw hlt
            go_wp2_with fail
            refine (cL _ (hbx.out _ (hba _)).1 (hbx.out _ (hba _)).2).mono ?_
            rintro e w2 ⟨rfl, hb2⟩
            have hbb := below_step (hba _) (hba _).size hb2
            clear cL hba
            go_wp2_with fail
            go_ret
            rw [hFe.out]
            exact ⟨rfl, hbb⟩
          | ok b =>
            have hnx := Lib.hid (hO b hlf)
            rw [hlf] at cL
            clear hE hO hlf c0 c1 c2 r1 r2 hx hrw hlt
            go_wp2_with fail
            refine (cL _ (hbx.out _ (hba _)).1 (hbx.out _ (hba _)).2).mono ?_
            rintro e w2 ⟨v2, rfl, hr2, hb2⟩
            have hbb := below_step (hba _) (hba _).size hb2
            obtain ⟨a2, n2, k2, rfl⟩ : ∃ a n k, v2 = .slice a n k := by obtain ⟨a, k, e, _⟩ := hr2; exact ⟨_, _, _, e⟩
            clear cL hba hr2 hb2
            go_wp2_with fail
            go_roundw
            case rel => exact ⟨i + 1, _, HLT.out, by go_num, hnx, hbb⟩
            case measure => have := HLT.out; simp [intOf]; omega
        · have iI : ¬ (i : Int) < n := by omega
          have hFe : Hid (F = 0) := by
            have := HF.out
            have h2 := hrw.out
            show _ = _
            rw [List.take_of_length_le (by rw [HN.out]; omega)] at h2
            rw [← this, h2]
            rfl
          clear hlt hrw
          go_wp2_with fail
          go_ret
          rw [hFe.out]
          exact ⟨rfl, hbr⟩
end Go.Proofs.YtdpfjhhcgaeiiaaDoor
