/-
  CONTRACT of package tree's rising.
  CONDITIONS: each theorem's own hypotheses.
-/
import Derived.Test.YtopgakdgifmecaaTEachK
namespace Go.Proofs.Ytopgakdgifmecaa
open Go.RowKit
set_option linter.unusedVariables false
set_option maxRecDepth 100000

def lessS (a b : List UInt8) : Bool := Op.bytesLess (str a).toList (str b).toList
/-- The keys rise. -/
def riseR : List (List UInt8) → Bool
  | [] => true
  | a :: l => match l with
    | [] => true
    | b :: _ => lessS a b && riseR l
theorem riseR_short : ∀ l : List (List UInt8), l.length ≤ 1 → riseR l = true
  | [], _ => rfl
  | [_], _ => rfl
  | _ :: _ :: _, h => by simp at h
theorem riseR_two (a b : List UInt8) (l : List (List UInt8)) : riseR (a :: b :: l) = (lessS a b && riseR (b :: l)) := rfl
theorem OwnSt.cell {w : World} {base : Nat} {ao : Option Addr} {n cap : Nat} {l : List (List UInt8)} (h : OwnSt w base (.slice ao n cap) l) {j : Nat} {s : List UInt8} (hj : l[j]? = some s) : ∃ b, ao = some ⟨b, 0, none⟩ ∧ b < w.heap.size ∧ base ≤ b ∧ w.cell? ⟨b, j, none⟩ = some (.string (str s)) := by
  rcases h.2 with ⟨_, hz⟩ | ⟨g, cp, cur, hv, hB, hh, _⟩
  · rw [List.eq_nil_of_length_eq_zero hz] at hj; simp at hj
  · simp only [Value.slice.injEq] at hv
    obtain ⟨rfl, _, rfl⟩ := hv
    have := World.ownsRow.cells h (g := g) rfl j (.string (str s)) (by unfold keysV; rw [List.getElem?_map, hj]; rfl)
    rw [addr_addT, Nat.zero_add] at this
    exact ⟨g, rfl, (h.lt g rfl).2, hB, this⟩
set_option maxHeartbeats 16000000 in
theorem rising_any (n : Nat) (t : Tr) (p : Nat) (F : List Nat) (w : World) (h : NdT w t p F) (hfit : fitT t) (ht : htT t < n) (hlen : (flatT t).length ≤ 1000) :
    Calls Try.prog 44 #[.pointer (some ⟨p, 0, none⟩)] w fun e w' => e = .returned (.bool (riseR ((flatT t).map Prod.fst))) ∧ Below w.heap.size w w' := by
  have z0 := Blk.new w #[.slice none 0 0] 48
  have hb0 := (Below.refl w.heap.size w).alloc (Nat.le_refl _) (.cells #[.slice none 0 0] 48)
  have hS0 : KeySt w (w.alloc (.cells #[.slice none 0 0] 48)) w.heap.size [] := ⟨hb0, by simp, .slice none 0 0, z0, OwnSt.nil _ _⟩
  have cE := each_any w n t p F h hfit ht [] _ hS0 (by simpa using hlen)
  rw [List.nil_append] at cE
  obtain ⟨ks, hks⟩ : ∃ l, (flatT t).map Prod.fst = l := ⟨_, rfl⟩
  have hkl : ks.length ≤ 1000 := by rw [← hks, List.length_map]; exact hlen
  rw [hks] at cE ⊢
  obtain ⟨R, hR⟩ : ∃ R, riseR ks = R := ⟨_, rfl⟩
  rw [hR]
  generalize hw0 : w.alloc (.cells #[.slice none 0 0] 48) = w0 at *
  have HW0 := Lib.hid hw0
  obtain ⟨M, hM⟩ : ∃ M, ks.length = M := ⟨_, rfl⟩
  rw [hM] at hkl
  clear h hfit ht hlen hks hw0 z0 hb0 hS0
  go_enter Try.func44, Try.ntmps44
  go_upto_region 2 with fail
  rw [HW0.out]
  clear HW0
  go_wp2_with fail
  refine cE.mono ?_
  rintro e w2 ⟨rfl, hS, -⟩
  clear cE
  obtain ⟨v, hv, hO⟩ := hS.row
  have hlow := hS.low
  have hg2 : w.heap.size < w2.heap.size := Nat.lt_of_succ_le hS.size
  obtain ⟨ao, cap, rfl, -⟩ := owns_shape hO
  rw [hM] at hv
  have HC : Hid (∀ j, j < M → ∃ s b, ks[j]? = some s ∧ ao = some ⟨b, 0, none⟩ ∧ b < w2.heap.size ∧ w2.cell? ⟨b, j, none⟩ = some (.string (str s))) := Lib.hid (fun j hj => by
    have hx : ks[j]? = some (ks[j]'(by omega)) := List.getElem?_eq_getElem (by omega)
    obtain ⟨b, h1, h2, -, h3⟩ := hO.cell hx
    exact ⟨_, b, hx, h1, h2, h3⟩)
  have p0 := hv.cell (j := 0) rfl
  have HP : Hid (∀ W, Below w2.heap.size w2 W → W.cell? ⟨w.heap.size, 0, none⟩ = some (.slice ao M cap)) := Lib.hid (fun W hW => (hW.cell (p := ⟨w.heap.size, 0, none⟩) hg2).trans p0)
  have HLOW : Hid (∀ W, Below w2.heap.size w2 W → Below w.heap.size w W) := Lib.hid (fun W hW => below_stepE hlow hlow.size hW)
  have HM := Lib.hid hM
  have hR0 : Hid (riseR (ks.drop 0) = R) := Lib.hid (by rw [List.drop_zero]; exact hR)
  have hB0 : Hid (Below w2.heap.size w2 w2) := Lib.hid (Below.refl _ _)
  clear hv hO hS hlow hg2 hM hR p0
  go_wp2_with fail
  go_loopw [4] (fun ix wr => ∃ q : Nat, (q = 0 ∨ q + 1 ≤ M) ∧ ix = .int .i64 ((q : Int) + 1) ∧ Hid (riseR (ks.drop q) = R) ∧ Hid (Below w2.heap.size w2 wr)) (fun ix _ => M - (intOf ix).toNat)
  case atStart => exact ⟨0, .inl rfl, rfl, hR0, hB0⟩
  case round =>
    obtain ⟨q, hq, rfl, hr, hbw⟩ := hrel
    clear hR0 hB0
    have p0 := HP.out wr hbw.out
    by_cases hlt : q + 1 < M
    · have iI : (q : Int) + 1 < (M : Int) := by omega
      obtain ⟨s0, b, hs0, rfl, hb, x0⟩ := HC.out q (by omega)
      obtain ⟨s1, b1, hs1, hbb, _, x1⟩ := HC.out (q + 1) hlt
      cases hbb
      have c0 := (hbw.out.cell (p := ⟨b, q, none⟩) hb).trans x0
      have c1 := (hbw.out.cell (p := ⟨b, q + 1, none⟩) hb).trans x1
      have hr2 := hr.out
      rw [drop_at ks q s0 hs0, drop_at ks (q + 1) s1 hs1, riseR_two, ← drop_at ks (q + 1) s1 hs1] at hr2
      obtain ⟨z, hz⟩ : ∃ z, lessS s0 s1 = z := ⟨_, rfl⟩
      rw [hz] at hr2
      unfold lessS at hz
      have HR2 := Lib.hid hr2
      clear hs0 hs1 x0 x1 hr2 hr hb
      generalize str s0 = S0 at *
      generalize str s1 = S1 at *
      have w1 : IntKind.i64.wrap ((q : Int) + 1 - 1) = (q : Int) := by rw [IntKind.wrap_i64]; omega
      have iq : (q : Int) < (M : Int) := by omega
      go_upto_region 6 with fail
      go_quiet (fail)
      have HB4 := Lib.hid (below_dqT hbw.out nq)
      clear hbw
      cases z
      · have hRf : R = false := by rw [← HR2.out]; rfl
        subst hRf
        have HB5 := Lib.hid (HLOW.out _ HB4.out)
        clear HR2 HB4
        go_wp2_with fail
        go_ret
        exact ⟨rfl, HB5.out⟩
      · have HR3 : Hid (riseR (ks.drop (q + 1)) = R) := Lib.hid (by rw [← HR2.out]; simp)
        clear HR2
        go_wp2_with fail
        go_roundw
        case rel => exact ⟨q + 1, .inr (by omega), by go_num, HR3, HB4⟩
        case measure => simp [intOf]; omega
    · have iI : ¬ (q : Int) + 1 < (M : Int) := by omega
      have hr2 := hr.out
      rw [riseR_short _ (by rw [List.length_drop, HM.out]; omega)] at hr2
      have HR2 := Lib.hid hr2
      have HB := Lib.hid (HLOW.out wr hbw.out)
      clear hr2 hr hbw
      go_wp2_with fail
      go_ret
      exact ⟨by rw [← HR2.out]; rfl, HB.out⟩
end Go.Proofs.Ytopgakdgifmecaa
