/-
  CONTRACTS of slices.BinarySearchFunc over entries and of place.
  CONDITIONS: each theorem's own hypotheses.
-/
import Derived.Test.YtopgakdgifmecaaTCmp
namespace Go.Proofs.Ytopgakdgifmecaa
open Go.RowKit
set_option linter.unusedVariables false
set_option maxRecDepth 100000

theorem cmpS_neg (a b : List UInt8) : decide (cmpS a b < 0) = lessS a b := by
  unfold cmpS
  cases lessS a b
  · simp only [Bool.false_eq_true, if_false]
    split <;> rfl
  · rfl
/-- Where a key stands among entries. -/
structure PlaceR (es : List En) (s : List UInt8) (i : Nat) (fd : Bool) : Prop where
  le : i ≤ es.length
  lo : ∀ j e, j < i → es[j]? = some e → lessS e.1 s = true
  hi : ∀ j e, i ≤ j → es[j]? = some e → lessS e.1 s = false
  fd : fd = match es[i]? with | some e => cmpS e.1 s == 0 | none => false
abbrev plc : Value := .func (.func 58) #[] #[]
set_option maxHeartbeats 16000000 in
theorem search_any (es : List En) (ao : Option Addr) (cap : Nat) (s : List UInt8) (w : World) (hl : es.length ≤ 1000) (hE : OwnE w 0 (.slice ao es.length cap) es)
    (hm : ∀ (a b : Nat) (ea eb : En), a ≤ b → es[a]? = some ea → es[b]? = some eb → lessS eb.1 s = true → lessS ea.1 s = true) :
    Calls Try.prog 57 #[.slice ao es.length cap, .string (str s), plc] w fun e w' => ∃ (i : Nat) (fd : Bool), e = .returned (.tuple #[.int .i64 (i : Int), .bool fd]) ∧ PlaceR es s i fd ∧ Below w.heap.size w w' := by
  have hat : ∀ j, j < es.length → ∃ key x b, es[j]? = some (key, x) ∧ ao = some ⟨b, 0, none⟩ ∧ b < w.heap.size ∧ w.cell? ⟨b, j * 2, none⟩ = some (.string (str key)) ∧ w.cell? ⟨b, j * 2 + 1, none⟩ = some (.int .i64 x) := fun j hj => by
    have hx : es[j]? = some es[j] := List.getElem?_eq_getElem hj
    obtain ⟨b, h1, h2, -, h3, h4⟩ := hE.cell hx
    exact ⟨es[j].1, es[j].2, b, hx, h1, h2, h3, h4⟩
  have cP := fun (key : List UInt8) (x : Int) W => place1_any (key, x) s W
  simp only at cP
  obtain ⟨E, hEl⟩ : ∃ E, es.length = E := ⟨_, rfl⟩
  have HPL : Hid (∀ i fd, i ≤ E → (∀ j e, j < i → es[j]? = some e → lessS e.1 s = true) → (∀ j e, i ≤ j → es[j]? = some e → lessS e.1 s = false) → (fd = match es[i]? with | some e => cmpS e.1 s == 0 | none => false) → PlaceR es s i fd) := Lib.hid (fun i fd h1 h2 h3 h4 => ⟨by omega, h2, h3, h4⟩)
  have HNONE : Hid (∀ i, ¬ i < E → es[i]? = none) := Lib.hid (fun i h => List.getElem?_eq_none (by omega))
  rw [hEl] at hl hat ⊢
  have HAT := Lib.hid hat
  have HM := Lib.hid hm
  have HCP := Lib.hid cP
  generalize str s = S at *
  clear hE hat hm cP hEl
  go_enter Try.func57, Try.ntmps57
  go_wp2_with fail
  go_loopw [9, 10] (fun iv jv wr => ∃ lo hi : Nat, lo ≤ hi ∧ hi ≤ E ∧ iv = .int .i64 lo ∧ jv = .int .i64 hi ∧ Hid (∀ j e, j < lo → es[j]? = some e → lessS e.1 s = true) ∧ Hid (∀ j e, hi ≤ j → es[j]? = some e → lessS e.1 s = false) ∧ Hid (Below w.heap.size w wr)) (fun iv jv _ => (intOf jv).toNat - (intOf iv).toNat)
  case atStart => exact ⟨0, E, Nat.zero_le _, Nat.le_refl _, rfl, rfl, Lib.hid (fun j e h => absurd h (Nat.not_lt_zero j)), Lib.hid (fun j e h1 h2 => by rw [HNONE.out j (by omega)] at h2; cases h2), Lib.hid (Below.refl _ _)⟩
  case round =>
    obtain ⟨lo, hi, hlh, hhE, rfl, rfl, hlo, hhi, hbw⟩ := hrel
    by_cases hlt : lo < hi
    · have iI : (lo : Int) < (hi : Int) := by omega
      obtain ⟨h, hh⟩ : ∃ h, (lo + hi) / 2 = h := ⟨_, rfl⟩
      have h1 : lo ≤ h := by omega
      have h2 : h < hi := by omega
      have wz : ((lo : Int) + (hi : Int)) / 2 = (h : Int) := by omega
      have iH : (h : Int) < (E : Int) := by omega
      obtain ⟨key, x, b, hkj, rfl, hb, x0, x1⟩ := HAT.out h (by omega)
      have c0 := (hbw.out.cell (p := ⟨b, h * 2, none⟩) hb).trans x0
      have c1 := (hbw.out.cell (p := ⟨b, h * 2 + 1, none⟩) hb).trans x1
      have cc := HCP.out key x wr
      have hng := cmpS_neg key s
      obtain ⟨z, hz⟩ : ∃ z, lessS key s = z := ⟨_, rfl⟩
      rw [hz] at hng
      have hup : z = true → ∀ (j : Nat) (e : En), j < h + 1 → es[j]? = some e → lessS e.1 s = true := fun e1 j e hj he => HM.out j h e (key, x) (by omega) he hkj (by rw [← e1]; exact hz)
      have hdn : z = false → ∀ (j : Nat) (e : En), h ≤ j → es[j]? = some e → lessS e.1 s = false := fun e1 j e hj he => by
        cases hq : lessS e.1 s
        · rfl
        · have := HM.out h j (key, x) e hj hkj he hq
          rw [e1] at hz
          simp only at this
          rw [hz] at this; cases this
      have HUP := Lib.hid hup
      have HDN := Lib.hid hdn
      generalize cmpS key s = R at *
      have whi : (lo : Int) + (hi : Int) ≤ 2000 := by omega
      clear hup hdn hz hkj x0 x1 hb hh
      go_wp2_with fail
      refine cc.mono ?_
      rintro e w1 ⟨rfl, hb1⟩
      have HB := Lib.hid (below_stepE hbw.out hbw.out.size hb1)
      clear cc c0 c1 hb1 hbw
      cases z
      · have HN := Lib.hid (HDN.out rfl)
        have iR : ¬ R < 0 := of_decide_eq_false hng
        clear HUP HDN hhi hng
        go_wp2_with fail
        go_roundw
        case rel => exact ⟨lo, h, h1, by omega, rfl, rfl, hlo, HN, HB⟩
        case measure => simp [intOf]; omega
      · have HN := Lib.hid (HUP.out rfl)
        have iR : R < 0 := of_decide_eq_true hng
        clear HUP HDN hlo hng
        go_wp2_with fail
        go_roundw
        case rel => exact ⟨h + 1, hi, h2, hhE, by go_num, rfl, HN, hhi, HB⟩
        case measure => simp [intOf]; omega
    · have iI : ¬ (lo : Int) < (hi : Int) := by omega
      obtain rfl : lo = hi := by omega
      by_cases hlE : lo < E
      · have iE : (lo : Int) < (E : Int) := by omega
        obtain ⟨key, x, b, hkj, rfl, hb, x0, x1⟩ := HAT.out lo hlE
        have c0 := (hbw.out.cell (p := ⟨b, lo * 2, none⟩) hb).trans x0
        have c1 := (hbw.out.cell (p := ⟨b, lo * 2 + 1, none⟩) hb).trans x1
        have cc := HCP.out key x wr
        have hpl := HPL.out lo (cmpS key s == 0) hhE hlo.out hhi.out (by rw [hkj])
        have HP := Lib.hid hpl
        generalize cmpS key s = R at *
        clear hpl x0 x1 hkj hb hlo hhi
        go_wp2_with fail
        refine cc.mono ?_
        rintro e w1 ⟨rfl, hb1⟩
        have HB := Lib.hid (below_stepE hbw.out hbw.out.size hb1)
        clear cc c0 c1 hb1 hbw
        go_wp2_with fail
        go_ret2
        exact ⟨lo, _, rfl, HP.out, HB.out⟩
      · have iE : ¬ (lo : Int) < (E : Int) := by omega
        have HP := Lib.hid (HPL.out lo false hhE hlo.out hhi.out (by rw [HNONE.out lo hlE]))
        clear hlo hhi
        go_wp2_with fail
        go_ret2
        exact ⟨lo, .inl ⟨rfl, HP.out, hbw.out⟩⟩
end Go.Proofs.Ytopgakdgifmecaa
