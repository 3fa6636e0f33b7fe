/-
  MERGED: SlotH, SlotI.
  CONDITIONS: each theorem's own hypotheses.
-/
import Derived.Test.YtcnemacakjemjaaDoorGLev
import Derived.Test.YtcnemacakjemjaaDoorGSlot

/-! CONTRACTS of the reference's whole and slotsFault. CONDITIONS: each theorem's own hypotheses. -/
namespace Go.Proofs.YtcnemacakjemjaaDoor
open Go.RowKit CodeMath Go.Proofs.YtcnemacakjemjaaDoor.FrameMath
set_option linter.unusedVariables false
set_option maxRecDepth 100000

def pwI : Nat → Int
  | 0 => 1
  | 1 => 2
  | 2 => 4
  | 3 => 8
  | 4 => 16
  | 5 => 32
  | 6 => 64
  | _ => 0
theorem isPow_at (i : Nat) (hi : i < 7) : isPow (pwI i) = true := by
  match i, hi with
  | 0, _ => rfl
  | 1, _ => rfl
  | 2, _ => rfl
  | 3, _ => rfl
  | 4, _ => rfl
  | 5, _ => rfl
  | 6, _ => rfl
theorem isPow_none (n : Int) (h : ∀ j, j < 7 → n ≠ pwI j) : isPow n = false := by
  have h0 := h 0 (by decide)
  have h1 := h 1 (by decide)
  have h2 := h 2 (by decide)
  have h3 := h 3 (by decide)
  have h4 := h 4 (by decide)
  have h5 := h 5 (by decide)
  have h6 := h 6 (by decide)
  simp only [pwI] at h0 h1 h2 h3 h4 h5 h6
  unfold isPow
  simp only [decide_eq_false_iff_not]
  omega
theorem pw_range (i : Nat) : 0 ≤ pwI i ∧ pwI i ≤ 64 := by
  unfold pwI
  split <;> omega
set_option maxHeartbeats 1000000 in
theorem whole_any (n : Int) (n0 : -9223372036854775808 ≤ n) (n1 : n ≤ 9223372036854775807) (w : World) :
    Calls Tryd.prog 22 #[.int .i64 n] w fun e w' => e = .returned (.bool (isPow n)) ∧ Below w.heap.size w w' := by
  have hB : ∀ o, Below w.heap.size w (w.alloc o) := fun o => (Below.refl _ _).alloc (Nat.le_refl _) o
  obtain ⟨b, hb⟩ : ∃ b, isPow n = b := ⟨_, rfl⟩
  rw [hb]
  have HBB := Lib.hid hb
  have hcell : ∀ i, i < 7 → (w.alloc (.cells #[.int .i64 1, .int .i64 2, .int .i64 4, .int .i64 8, .int .i64 16, .int .i64 32, .int .i64 64] 3)).cell? ⟨w.heap.size, i, none⟩ = some (.int .i64 (pwI i)) := fun i hi => by
    rw [World.cell?_alloc_new]
    match i, hi with
    | 0, _ => rfl
    | 1, _ => rfl
    | 2, _ => rfl
    | 3, _ => rfl
    | 4, _ => rfl
    | 5, _ => rfl
    | 6, _ => rfl
  have HC := Lib.hid hcell
  clear hb hcell
  go_enter Tryd.func22, Tryd.ntmps22
  go_wp2_with fail
  have hB1 := hB (.cells #[.int .i64 1, .int .i64 2, .int .i64 4, .int .i64 8, .int .i64 16, .int .i64 32, .int .i64 64] 3)
  clear hB
  generalize w.alloc (.cells #[.int .i64 1, .int .i64 2, .int .i64 4, .int .i64 8, .int .i64 16, .int .i64 32, .int .i64 64] 3) = W0 at *
  go_loopw [7] (fun ix wr => ∃ i : Nat, i ≤ 7 ∧ ix = .int .i64 i ∧ Hid (∀ j, j < i → n ≠ pwI j) ∧ wr = W0) (fun ix _ => 7 - (intOf ix).toNat)
  case atStart => exact ⟨0, Nat.zero_le _, rfl, (fun j hj => by omega : ∀ j, j < 0 → n ≠ pwI j), rfl⟩
  case round =>
    obtain ⟨i, hi, rfl, hno, rfl⟩ := hrel
    by_cases hlt : i < 7
    · have iI : (i : Int) < 7 := by omega
      have hc := HC.out i hlt
      have hr := pw_range i
      by_cases hn : n = pwI i
      · have hbt : b = true := by rw [← HBB.out, hn]; exact isPow_at i hlt
        subst hbt
        generalize pwI i = p at *
        subst hn
        clear hno HC
        go_wp2_with fail
        go_ret
        exact ⟨rfl, hB1⟩
      · have hno2 : Hid (∀ j, j < i + 1 → n ≠ pwI j) := fun j hj => by
          by_cases hji : j < i
          · exact hno.out j hji
          · obtain rfl : j = i := by omega
            exact hn
        have HLT := Lib.hid hlt
        generalize pwI i = p at *
        clear hno hlt
        go_wp2_with fail
        go_roundw
        case rel => exact ⟨i + 1, HLT.out, by go_num, hno2, by first | rfl | trivial⟩
        case measure => have := HLT.out; simp [intOf]; omega
    · have iI : ¬ (i : Int) < 7 := by omega
      have hbf : b = false := by
        rw [← HBB.out]
        exact isPow_none n (fun j hj => hno.out j (by omega))
      subst hbf
      clear hno hlt
      go_wp2_with fail
      go_ret
      exact ⟨rfl, hB1⟩
def faultOf : LR → Int
  | .err e => e
  | .ok _ => 0
set_option maxHeartbeats 4000000 in
theorem slotsFault_any (m : Int) (l : List Sl) (ao : Option Addr) (cap : Nat) (w : World) (m0 : -9223372036854775808 ≤ m) (m1 : m ≤ 9223372036854775807) (hc : l.length ≤ cap) (hq : cap ≤ 9223372036854775807) (hS : Slots w ao l) :
    Calls Tryd.prog 11 #[.int .i64 m, .slice ao l.length cap] w fun e w' => e = .returned (.int .i64 (faultOf (levelsR m l))) ∧ Below w.heap.size w w' := by
  have cM := fun W => badMode_any m W m0 m1
  have cN := fun W => whole_any (l.length : Int) (by omega) (by omega) W
  have hBB := Below.refl w.heap.size w
  obtain ⟨F, hF⟩ : ∃ F, faultOf (levelsR m l) = F := ⟨_, rfl⟩
  rw [hF]
  unfold levelsR at hF
  cases hm : isMode m with
  | false =>
    rw [if_pos hm] at hF
    subst hF
    rw [hm] at cM
    clear hm cN hc
    generalize l.length = n
    go_enter Tryd.func11, Tryd.ntmps11
    go_wp2_with fail
    refine (cM _).mono ?_
    rintro e w1 ⟨rfl, rfl⟩
    go_wp2_with fail
    go_ret
    exact ⟨rfl, hBB⟩
  | true =>
    rw [if_neg (by rw [hm]; decide)] at hF
    rw [hm] at cM
    cases hp : isPow l.length with
    | false =>
      rw [if_pos hp] at hF
      subst hF
      rw [hp] at cN
      clear hm hc hp hBB
      generalize l.length = n at *
      go_enter Tryd.func11, Tryd.ntmps11
      go_wp2_with fail
      refine (cM _).mono ?_
      rintro e w1 ⟨rfl, rfl⟩
      go_wp2_with fail
      refine (cN _).mono ?_
      rintro e w1 ⟨rfl, hb1⟩
      go_wp2_with fail
      go_ret
      exact ⟨rfl, hb1⟩
    | true =>
      rw [if_neg (by rw [hp]; decide)] at hF
      rw [hp] at cN
      have hl : l.length ≤ 64 := by
        obtain ⟨k, hk6, hk⟩ := pow_of hp
        have h9 : 2 ^ k ≤ 2 ^ 6 := Nat.pow_le_pow_right (by decide) hk6
        have e6 : 2 ^ 6 = 64 := by decide
        omega
      obtain ⟨n, hn⟩ : ∃ n, l.length = n := ⟨_, rfl⟩
      have hget : ∀ i x, l[i]? = some x → ∃ a o, ao = some ⟨a, o, none⟩ ∧ a < w.heap.size ∧ SlotAt w a (o + i * 3) x := fun i x hx => by
        rcases hS with h | ⟨a, o, h1, h2, h3⟩
        · rw [h] at hx; simp at hx
        · exact ⟨a, o, h1, h2, h3 i x hx⟩
      have HG := Lib.hid hget
      have HF := Lib.hid hF
      have HN := Lib.hid hn
      rw [hn] at hc hl cN ⊢
      have nI : (n : Int) ≤ 64 := by omega
      clear hget hF hn hS hp hm hBB
      go_enter Tryd.func11, Tryd.ntmps11
      go_wp2_with fail
      refine (cM _).mono ?_
      rintro e w1 ⟨rfl, rfl⟩
      go_wp2_with fail
      refine (cN _).mono ?_
      rintro e w1 ⟨rfl, hb1⟩
      clear cM cN
      go_wp2_with fail
      go_loopw [17] (fun ix wr => ∃ (i : Nat) (rows : List (List UInt8)), i ≤ n ∧ ix = .int .i64 i ∧ Hid (leavesR m (l.take i) = .ok rows) ∧ Below w.heap.size w wr) (fun ix _ => n - (intOf ix).toNat)
      case atStart => exact ⟨0, [], Nat.zero_le _, rfl, Lib.hid rfl, hb1⟩
      case round =>
        obtain ⟨i, rows, hin, rfl, hrw, hbr⟩ := hrel
        clear hb1
        by_cases hlt : i < n
        · have iI : (i : Int) < n := by omega
          obtain ⟨x, hx⟩ : ∃ x, l[i]? = some x := ⟨_, List.getElem?_eq_getElem (by rw [HN.out]; exact hlt)⟩
          obtain ⟨a, o, rfl, ha, us, ud, c0, c1, c2, r1, r2⟩ := HG.out i x hx
          obtain ⟨hE, hO⟩ := leavesR_next m l i x rows hrw.out hx
          have d0 := (hbr.cell (p := ⟨a, o + i * 3, none⟩) ha).trans c0
          have d1 := (hbr.cell (p := ⟨a, o + i * 3 + 1, none⟩) ha).trans c1
          have d2 := (hbr.cell (p := ⟨a, o + i * 3 + 2, none⟩) ha).trans c2
          have cL := fun W h1 h2 => LeafOf_any m x.f x.s x.d us ud W m0 m1 h1 h2
          have hbx : Hid (∀ W, Below w.heap.size w W → RowV W us x.s ∧ RowV W ud x.d) := fun W hW => ⟨r1.keep hW, r2.keep hW⟩
          obtain ⟨au, nu, ku, rfl⟩ : ∃ a n k, us = .slice a n k := by obtain ⟨a, k, e, _⟩ := r1; exact ⟨_, _, _, e⟩
          obtain ⟨av, nv, kv, rfl⟩ : ∃ a n k, ud = .slice a n k := by obtain ⟨a, k, e, _⟩ := r2; exact ⟨_, _, _, e⟩
          have hba : ∀ o, Below w.heap.size w (wr.alloc o) := fun o => hbr.alloc hbr.size o
          have HLT := Lib.hid hlt
          cases hlf : leafR m x.f x.s x.d with
          | err q =>
            have hFe : Hid (F = q) := by have := HF.out; show _ = _; rw [← this, hE q hlf]; rfl
            have q0 := leafR_ne _ _ _ _ _ hlf
            rw [hlf] at cL
            clear hE hO hlf c0 c1 c2 r1 r2 hx hrw hlt
            go_wp2_with fail
            refine (cL _ (hbx.out _ (hba _)).1 (hbx.out _ (hba _)).2).mono ?_
            rintro e w2 ⟨rfl, hb2⟩
            have hbb := below_step (hba _) (hba _).size hb2
            clear cL hba
            go_wp2_with fail
            go_ret
            rw [hFe.out]
            exact ⟨rfl, hbb⟩
          | ok b =>
            have hnx := Lib.hid (hO b hlf)
            rw [hlf] at cL
            clear hE hO hlf c0 c1 c2 r1 r2 hx hrw hlt
            go_wp2_with fail
            refine (cL _ (hbx.out _ (hba _)).1 (hbx.out _ (hba _)).2).mono ?_
            rintro e w2 ⟨v2, rfl, hr2, hb2⟩
            have hbb := below_step (hba _) (hba _).size hb2
            obtain ⟨a2, n2, k2, rfl⟩ : ∃ a n k, v2 = .slice a n k := by obtain ⟨a, k, e, _⟩ := hr2; exact ⟨_, _, _, e⟩
            clear cL hba hr2 hb2
            go_wp2_with fail
            go_roundw
            case rel => exact ⟨i + 1, _, HLT.out, by go_num, hnx, hbb⟩
            case measure => have := HLT.out; simp [intOf]; omega
        · have iI : ¬ (i : Int) < n := by omega
          have hFe : Hid (F = 0) := by
            have := HF.out
            have h2 := hrw.out
            show _ = _
            rw [List.take_of_length_le (by rw [HN.out]; omega)] at h2
            rw [← this, h2]
            rfl
          clear hlt hrw
          go_wp2_with fail
          go_ret
          rw [hFe.out]
          exact ⟨rfl, hbr⟩
end Go.Proofs.YtcnemacakjemjaaDoor

/-! CONTRACTS of the reference's joined, rootOf. CONDITIONS: each theorem's own hypotheses. -/
namespace Go.Proofs.YtcnemacakjemjaaDoor
open Go.RowKit CodeMath Go.Proofs.YtcnemacakjemjaaDoor.FrameMath
set_option linter.unusedVariables false
set_option maxRecDepth 100000

set_option maxHeartbeats 2000000 in
theorem joined_any (m : Int) (hm : isMode m = true) (m0 : -9223372036854775808 ≤ m) (m1 : m ≤ 9223372036854775807) (a b : List UInt8) (a1 a2 : Option Addr) (n1 k1 n2 k2 : Nat) (w : World) (ha : RowV w (.slice a1 n1 k1) a) (hb : RowV w (.slice a2 n2 k2) b) (h1 : a.length ≤ 1000000) (h2 : b.length ≤ 1000000) :
    Calls Tryd.prog 32 #[.int .i64 m, .int .i64 2, .slice a1 n1 k1, .slice a2 n2 k2] w fun e w' => ∃ v, e = .returned v ∧ RowT w' v (nodeB m a b) ∧ Below w.heap.size w w' := by
  have cD := fun ap W h => DigestOf_any m 2 [a, b] ap 2 W m0 m1 (by decide) (by decide) (by simp) (fun l hl => by simp at hl; rcases hl with rfl | rfl <;> omega) h
  rw [digR_node m hm a b h1 h2, show [a, b].length = 2 from rfl] at cD
  generalize nodeB m a b = D at *
  have hlin := fun T => lines_two w _ _ T _ _ ha hb
  have hba : ∀ o, Below w.heap.size w (w.alloc o) := fun o => (Below.refl _ _).alloc (Nat.le_refl _) o
  clear ha hb h1 h2 hm
  go_enter Tryd.func32, Tryd.ntmps32
  go_wp2_with fail
  refine (cD _ _ (hlin _)).mono ?_
  rintro e w1 ⟨v, rfl, hr, hb1⟩
  have hbb := below_step (hba _) (hba _).size hb1
  clear cD hlin hba
  go_wp2_with fail
  go_ret
  exact ⟨_, rfl, hr, hbb⟩
theorem leavesR_take (m : Int) : ∀ (k : Nat) (l : List Sl) (rows : List (List UInt8)), leavesR m l = .ok rows → leavesR m (l.take k) = .ok (rows.take k) ∧ leavesR m (l.drop k) = .ok (rows.drop k)
  | 0, l, rows, h => ⟨by simp [leavesR], by simpa using h⟩
  | k + 1, [], rows, h => by cases h; exact ⟨by simp [leavesR], by simp [leavesR]⟩
  | k + 1, y :: l, rows, h => by
    cases hy : leafR m y.f y.s y.d with
    | err q => simp [leavesR, hy] at h
    | ok b0 =>
      simp only [leavesR, hy] at h
      cases hr : leavesR m l with
      | err q => rw [hr] at h; cases h
      | ok r0 =>
        rw [hr] at h
        cases h
        obtain ⟨h1, h2⟩ := leavesR_take m k l r0 hr
        refine ⟨?_, by simpa using h2⟩
        rw [List.take_succ_cons]
        simp only [leavesR, hy, h1]
        rfl
theorem rootB_length (m : Int) : ∀ (h : Nat) (rows : List (List UInt8)), rows.length = 2 ^ h → (∀ b ∈ rows, b.length ≤ 600) → (rootB m h rows).length + 42 ≤ 2 ^ h * 642
  | 0, rows, hl, hb => by
    match rows, hl with
    | [a], _ =>
      have := hb a (by simp)
      show a.length + 42 ≤ _
      omega
  | h + 1, rows, hl, hb => by
    have e1 : 2 ^ (h + 1) = 2 * 2 ^ h := by rw [Nat.pow_succ, Nat.mul_comm]
    have h1 := rootB_length m h (rows.take (2 ^ h)) (by rw [List.length_take]; omega) (fun b hx => hb b (List.mem_of_mem_take hx))
    have h2 := rootB_length m h (rows.drop (2 ^ h)) (by rw [List.length_drop]; omega) (fun b hx => hb b (List.mem_of_mem_drop hx))
    have h3 := nodeB_length m (rootB m h (rows.take (2 ^ h))) (rootB m h (rows.drop (2 ^ h)))
    show (nodeB m _ _).length + 42 ≤ _
    rw [e1, Nat.mul_assoc]
    omega
/-! ### pieces of slices of slots -/
def pieceS (ao : Option Addr) (lo cap : Nat) : Option Addr := if cap = lo then ao else ao.map (·.add (lo * 3))
theorem sliceS_first (ao : Option Addr) (n cap m : Nat) (hm : m ≤ cap) (W : World) : (Instr.slice 22 (.slice ao n cap) none (some (.int .i64 (m : Int))) none).run Tryd.prog W = .ok (.slice ao m cap) W := by
  have hs : (sizeOf (Tryd.prog.elem 22)).run Tryd.prog W = .ok 3 W := by kernel_rfl
  have h := run_slice_h (P := Tryd.prog) W 22 ao n cap (by kernel_rfl) .i64 (m : Int) (by omega) (by omega)
  rw [h, hs, Int.toNat_natCast]
  simp only [Result.andThen, sliced, Nat.sub_zero]
  cases ao with
  | none => simp
  | some a => simp [Addr.add]
theorem sliceS_last (ao : Option Addr) (n cap lo : Nat) (h1 : lo ≤ n) (W : World) : (Instr.slice 22 (.slice ao n cap) (some (.int .i64 (lo : Int))) none none).run Tryd.prog W = .ok (.slice (pieceS ao lo cap) (n - lo) (cap - lo)) W := by
  have hs : (sizeOf (Tryd.prog.elem 22)).run Tryd.prog W = .ok 3 W := by kernel_rfl
  have h := run_slice_l (P := Tryd.prog) W 22 ao n cap (by kernel_rfl) .i64 (lo : Int) (by omega) (by omega)
  rw [h, hs, Int.toNat_natCast]
  rfl
theorem Slots.take {W : World} {ao : Option Addr} {l : List Sl} (h : Slots W ao l) (k : Nat) : Slots W ao (l.take k) := by
  rcases h with h | ⟨a, o, h1, h2, h3⟩
  · left; rw [h]; simp
  · exact .inr ⟨a, o, h1, h2, fun i x hx => h3 i x (by rw [List.getElem?_take] at hx; split at hx <;> simp_all)⟩
theorem Slots.drop {W : World} {ao : Option Addr} {l : List Sl} (h : Slots W ao l) (k cap : Nat) (hc : l.length ≤ cap) : Slots W (pieceS ao k cap) (l.drop k) := by
  unfold pieceS
  split
  · left; exact List.drop_of_length_le (by omega)
  · rcases h with h | ⟨a, o, h1, h2, h3⟩
    · left; rw [h]; simp
    · subst h1
      refine .inr ⟨a, o + k * 3, ?_, h2, fun i x hx => ?_⟩
      · by_cases hk : k = 0
        · subst hk; rfl
        · have hk3 : ¬ k * 3 = 0 := by omega
          simp [Addr.add, hk3]
      · rw [List.getElem?_drop] at hx
        have := h3 _ x hx
        rw [show o + k * 3 + i * 3 = o + (k + i) * 3 by omega]
        exact this
def RootF (m : Int) (L : Value) (k n : Nat) (A1 A2 : Option Addr) (c1 c2 : Nat) (X Y D : List UInt8) : Nat → Value → World → Prop
  | 0, v, _ => v = .int .i64 m
  | 1, v, _ => v = .int .i64 m
  | 2, v, _ => v = L
  | 3, v, _ => v = .int .i64 (k : Int)
  | 4, v, _ => v = .slice A1 k c1
  | 5, v, w => ∃ a n k, v = .slice a n k ∧ RowT w (.slice a n k) X
  | 6, v, _ => v = .int .i64 m
  | 7, v, _ => v = L
  | 8, v, _ => v = .int .i64 (k : Int)
  | 9, v, _ => v = .slice A2 n c2
  | 10, v, w => ∃ a n k, v = .slice a n k ∧ RowT w (.slice a n k) Y
  | 11, v, w => RowT w v D
  | _, _, _ => True
theorem rootF_keep {m : Int} {L : Value} {k n : Nat} {A1 A2 : Option Addr} {c1 c2 : Nat} {X Y D : List UInt8} (i : Nat) (v : Value) (w w' : World) (h : RootF m L k n A1 A2 c1 c2 X Y D i v w) (he : Below w.heap.size w w') : RootF m L k n A1 A2 c1 c2 X Y D i v w' := by
  unfold RootF at *
  split at h <;> (try exact h) <;> (try exact trivial)
  · obtain ⟨a, n, k, h1, h2⟩ := h; exact ⟨a, n, k, h1, h2.keep he⟩
  · obtain ⟨a, n, k, h1, h2⟩ := h; exact ⟨a, n, k, h1, h2.keep he⟩
  · exact h.keep he
set_option maxHeartbeats 4000000 in
theorem rootOf_any (m : Int) (hm : isMode m = true) (m0 : -9223372036854775808 ≤ m) (m1 : m ≤ 9223372036854775807) : ∀ (h : Nat), h ≤ 6 → ∀ (l : List Sl) (rows : List (List UInt8)) (ao : Option Addr) (cap : Nat) (w : World), l.length = 2 ^ h → leavesR m l = .ok rows → l.length ≤ cap → cap ≤ 9223372036854775807 → Slots w ao l →
    Calls Tryd.prog 25 #[.int .i64 m, .slice ao l.length cap] w fun e w' => ∃ v, e = .returned v ∧ RowT w' v (rootB m h rows) ∧ Below w.heap.size w w'
  | 0, h6, l, rows, ao, cap, w, hl, hR, hc, hq, hS => by
    match l, hl with
    | [x], _ =>
      cases hlf : leafR m x.f x.s x.d with
      | err q => simp [leavesR, hlf] at hR
      | ok b =>
        simp only [leavesR, hlf, consR] at hR
        cases hR
        rcases hS with hS | ⟨a, o, rfl, ha, h3⟩
        · cases hS
        · obtain ⟨us, ud, d0, d1, d2, r1, r2⟩ := h3 0 x rfl
          rw [Nat.zero_mul, Nat.add_zero] at d0 d1 d2
          have cL := LeafOf_any m x.f x.s x.d us ud w m0 m1 r1 r2
          rw [hlf] at cL
          obtain ⟨au, nu, ku, rfl⟩ : ∃ a n k, us = .slice a n k := by obtain ⟨a, k, e, _⟩ := r1; exact ⟨_, _, _, e⟩
          obtain ⟨av, nv, kv, rfl⟩ : ∃ a n k, ud = .slice a n k := by obtain ⟨a, k, e, _⟩ := r2; exact ⟨_, _, _, e⟩
          rw [show [x].length = 1 from rfl]
          show Calls _ _ _ _ fun e w' => ∃ v, e = .returned v ∧ RowT w' v b ∧ Below w.heap.size w w'
          clear h3 r1 r2 hlf hc hl
          go_enter Tryd.func25, Tryd.ntmps25
          go_wp2_with fail
          refine cL.mono ?_
          rintro e w1 ⟨v, rfl, hr, hb⟩
          clear cL
          go_wp2_with fail
          go_ret
          exact ⟨_, rfl, hr, hb⟩
  | h + 1, h6, l, rows, ao, cap, w, hl, hR, hc, hq, hS => by
    have e1 : 2 ^ (h + 1) = 2 * 2 ^ h := by rw [Nat.pow_succ, Nat.mul_comm]
    have hrl := leavesR_length m l rows hR
    have heach := leavesR_each m l rows hR
    obtain ⟨k, hk⟩ : ∃ k, 2 ^ h = k := ⟨_, rfl⟩
    have hk0 : 0 < k := by rw [← hk]; exact Nat.pow_pos (by decide)
    have hk32 : k ≤ 32 := by
      have h9 : 2 ^ h ≤ 2 ^ 5 := Nat.pow_le_pow_right (by decide) (by omega)
      have e5 : 2 ^ 5 = 32 := by decide
      omega
    obtain ⟨hR1, hR2⟩ := leavesR_take m k l rows hR
    have b1 := rootB_length m h (rows.take k) (by rw [List.length_take]; omega) (fun b hx => heach b (List.mem_of_mem_take hx))
    have b2 := rootB_length m h (rows.drop k) (by rw [List.length_drop]; omega) (fun b hx => heach b (List.mem_of_mem_drop hx))
    rw [hk] at b1 b2
    have b3 : k * 642 ≤ 32 * 642 := Nat.mul_le_mul_right _ hk32
    have lt1 : (l.take k).length = k := by rw [List.length_take]; omega
    have ld1 : (l.drop k).length = k := by rw [List.length_drop]; omega
    have cX0 := fun W hs => rootOf_any m hm m0 m1 h (by omega) (l.take k) (rows.take k) ao cap W (by rw [lt1, hk]) hR1 (by omega) hq hs
    have cY0 := fun W hs => rootOf_any m hm m0 m1 h (by omega) (l.drop k) (rows.drop k) (pieceS ao k cap) (cap - k) W (by rw [ld1, hk]) hR2 (by omega) (by omega) hs
    rw [lt1] at cX0
    rw [ld1] at cY0
    have cJ := fun W a1 n1 k1 a2 n2 k2 ha hb => joined_any m hm m0 m1 (rootB m h (rows.take k)) (rootB m h (rows.drop k)) a1 a2 n1 k1 n2 k2 W ha hb (by omega) (by omega)
    have s1 := fun W => sliceS_first ao (k + k) cap k (by omega) W
    have s2 := fun W => sliceS_last ao (k + k) cap k (by omega) W
    rw [show k + k - k = k by omega] at s2
    have hln : l.length = k + k := by omega
    show Calls _ _ _ _ fun e w' => ∃ v, e = .returned v ∧ RowT w' v (nodeB m (rootB m h (rows.take (2 ^ h))) (rootB m h (rows.drop (2 ^ h)))) ∧ Below w.heap.size w w'
    rw [hk]
    have cX : ∀ W, Below w.heap.size w W → _ := fun W hW => cX0 W ((hS.keep hW).take k)
    have cY : ∀ W, Below w.heap.size w W → _ := fun W hW => cY0 W ((hS.keep hW).drop k cap hc)
    generalize nodeB m (rootB m h (rows.take k)) (rootB m h (rows.drop k)) = D at *
    generalize rootB m h (rows.take k) = X at *
    generalize rootB m h (rows.drop k) = Y at *
    rw [hln]
    have hdiv : ((k + k : Nat) : Int).tdiv 2 = k := by rw [Int.tdiv_eq_ediv_of_nonneg (by omega)]; omega
    have hdiv2 : ((k : Int) + (k : Int)).tdiv 2 = k := by rw [Int.tdiv_eq_ediv_of_nonneg (by omega)]; omega
    have hne : ¬ ((k + k : Nat) : Int) = 1 := by omega
    have hne2 : ¬ ((k : Int) + (k : Int)) = 1 := by omega
    have hne3 : ¬ k + k = 1 := by omega
    generalize pieceS ao k cap = A2 at *
    generalize cap - k = c2 at *
    have hBB := Below.refl w.heap.size w
    clear cX0 cY0 hS hR hR1 hR2 b1 b2 b3 lt1 ld1 hrl heach hl hk e1 hm hln
    go_enter Tryd.func25, Tryd.ntmps25
    go_upto_region 5 with fail
    generalize ((k : Int) + (k : Int) == 1) = bq
    clear hne hne2 hne3 hdiv hdiv2
    refine wp_region_facts' 12 (by kernel_rfl) (by kernel_rfl) (RootF m (.slice ao (k + k) cap) k k ao A2 cap c2 X Y D) (fun W => Below w.heap.size w W) (fun W W' => Below W.heap.size W W') ?hC ?hF ?h0 ?hstep ?hdone
    case hC => exact fun W W' hc he => below_step hc hc.size he
    case hF => exact rootF_keep
    case h0 => exact (Below.refl _ _).drew
    case hstep =>
      intro i hi vs act W K ha' hc hd hu hK
      simp only [fillF, Act.put, List.take_succ_cons, List.take_zero, List.setIfInBounds_toArray, List.set_cons_zero, List.set_cons_succ] at ha'
      subst ha'
      clear hu
      rcases (show i = 0 ∨ i = 1 ∨ i = 2 ∨ i = 3 ∨ i = 4 ∨ i = 5 ∨ i = 6 ∨ i = 7 ∨ i = 8 ∨ i = 9 ∨ i = 10 ∨ i = 11 by omega) with rfl | rfl | rfl | rfl | rfl | rfl | rfl | rfl | rfl | rfl | rfl | rfl
      · refine wpOp_step rfl (fun K' hK' => ?_)
        go_simp
        exact hK' _ _ (hK _ _ rfl (Below.refl _ _))
      · refine wpOp_step rfl (fun K' hK' => ?_)
        go_simp
        exact hK' _ _ (hK _ _ rfl (Below.refl _ _))
      · refine wpOp_step rfl (fun K' hK' => ?_)
        go_simp
        exact hK' _ _ (hK _ _ rfl (Below.refl _ _))
      · refine wpOp_step rfl (fun K' hK' => ?_)
        go_simp
        exact hK' _ _ (hK _ _ rfl (Below.refl _ _))
      · have e2 : vs 2 = .slice ao (k + k) cap := hd 2 (by kernel_rfl)
        have e3 : vs 3 = .int .i64 (k : Int) := hd 3 (by kernel_rfl)
        simp only [e2, e3] at hK ⊢
        have q1 := s1 W
        refine wpOp_step rfl (fun K' hK' => ?_)
        go_simp
        exact hK' _ _ (hK _ _ rfl (Below.refl _ _))
      · have e1 : vs 1 = .int .i64 m := hd 1 (by kernel_rfl)
        have e4 : vs 4 = .slice ao k cap := hd 4 (by kernel_rfl)
        simp only [e1, e4] at hK ⊢
        refine wpOp_step rfl (fun K' hK' => ?_)
        go_simp
        with_reducible refine (cX W hc).mono ?_
        rintro e w' ⟨v', rfl, ho, hb⟩
        have ho' := ho
        obtain ⟨a, k, e, _⟩ := ho'
        exact hK' _ _ (hK _ _ ⟨_, _, _, e, by rw [← e]; exact ho⟩ hb)
      · refine wpOp_step rfl (fun K' hK' => ?_)
        go_simp
        exact hK' _ _ (hK _ _ rfl (Below.refl _ _))
      · refine wpOp_step rfl (fun K' hK' => ?_)
        go_simp
        exact hK' _ _ (hK _ _ rfl (Below.refl _ _))
      · refine wpOp_step rfl (fun K' hK' => ?_)
        go_simp
        exact hK' _ _ (hK _ _ rfl (Below.refl _ _))
      · have e7 : vs 7 = .slice ao (k + k) cap := hd 7 (by kernel_rfl)
        have e8 : vs 8 = .int .i64 (k : Int) := hd 8 (by kernel_rfl)
        simp only [e7, e8] at hK ⊢
        have q2 := s2 W
        refine wpOp_step rfl (fun K' hK' => ?_)
        go_simp
        exact hK' _ _ (hK _ _ rfl (Below.refl _ _))
      · have e6 : vs 6 = .int .i64 m := hd 6 (by kernel_rfl)
        have e9 : vs 9 = .slice A2 k c2 := hd 9 (by kernel_rfl)
        simp only [e6, e9] at hK ⊢
        refine wpOp_step rfl (fun K' hK' => ?_)
        go_simp
        with_reducible refine (cY W hc).mono ?_
        rintro e w' ⟨v', rfl, ho, hb⟩
        have ho' := ho
        obtain ⟨a, k, e, _⟩ := ho'
        exact hK' _ _ (hK _ _ ⟨_, _, _, e, by rw [← e]; exact ho⟩ hb)
      · have e0 : vs 0 = .int .i64 m := hd 0 (by kernel_rfl)
        obtain ⟨a5, n5, k5, e5, y5⟩ := hd 5 (by kernel_rfl)
        obtain ⟨a10, n10, k10, e10, y10⟩ := hd 10 (by kernel_rfl)
        simp only [e0, e5, e10] at hK ⊢
        refine wpOp_step rfl (fun K' hK' => ?_)
        go_simp
        with_reducible refine (cJ W _ _ _ _ _ _ y5.row y10.row).mono ?_
        rintro e w' ⟨v', rfl, ho, hb⟩
        exact hK' _ _ (hK _ _ ho hb)
    case hdone =>
      intro vs act W ha' hc hf
      simp only [fillF, Act.put, List.take_succ_cons, List.take_zero, List.setIfInBounds_toArray, List.set_cons_zero, List.set_cons_succ] at ha'
      subst ha'
      have f11 : RowT W (vs 11) D := hf 11 (by decide)
      simp only [Nat.zero_add, Nat.reduceAdd]
      clear hf cX cY cJ
      go_wp2_with fail
      go_ret
      exact ⟨_, rfl, f11, hc⟩
end Go.Proofs.YtcnemacakjemjaaDoor
