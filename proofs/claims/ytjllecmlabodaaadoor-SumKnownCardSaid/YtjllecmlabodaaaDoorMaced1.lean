/-
  CONTRACT of the reference's padding closure within Maced.
  CONDITIONS: where the string lies.
-/
import Derived.Test.YtjllecmlabodaaaDoorMac
namespace Go.Proofs.YtjllecmlabodaaaDoor
open Go.RowKit CodeMath
set_option linter.unusedVariables false

/-- Bytes of one's own from the start of a block. -/
def Pads (W : World) (g : Nat) (l : List UInt8) : Prop := g < W.heap.size ∧ ∀ j c, l[j]? = some c → W.cell? ⟨g, j, none⟩ = some (.int .u8 c.toNat) ∧ W.frozen? ⟨g, j, none⟩ = false
theorem Pads.set {W : World} {g : Nat} {l : List UInt8} (h : Pads W g l) (i : Nat) (c : UInt8) : Pads (W.setCell ⟨g, i, none⟩ (.int .u8 c.toNat)) g (l.set i c) := by
  refine ⟨by simpa using h.1, fun j x hx => ?_⟩
  by_cases hij : i = j
  · subst hij
    have hi : i < l.length := by have := (List.getElem?_eq_some_iff.1 hx).1; simpa using this
    rw [List.getElem?_set_self hi] at hx
    cases hx
    obtain ⟨h1, h2⟩ := h.2 i _ (List.getElem?_eq_getElem hi)
    exact ⟨World.cell?_setCell_same _ _ _ h1, by rw [World.frozen?_setCell]; exact h2⟩
  · rw [List.getElem?_set_ne hij] at hx
    obtain ⟨h1, h2⟩ := h.2 j x hx
    exact ⟨by rw [World.cell?_setCell_other _ _ _ _ (fun e => hij (by cases e; rfl))]; exact h1, by rw [World.frozen?_setCell]; exact h2⟩
theorem Pads.bytes {W : World} {g : Nat} {l : List UInt8} (h : Pads W g l) : Bytes W (some ⟨g, 0, none⟩) l :=
  .inr ⟨g, 0, rfl, h.1, fun j x hx => by rw [Nat.zero_add]; exact (h.2 j x hx).1⟩
theorem bytesOf_own (l : List UInt8) (w : World) : ∃ cap W1, (convert 9 27 (.string (str l))).run Tryd.prog w = .ok (.slice (some ⟨w.heap.size, 0, none⟩) l.length cap) W1 ∧ Pads W1 w.heap.size l ∧ Below w.heap.size w W1 ∧ l.length ≤ cap := by
  have hcv := run_bytes_of_string (P := Tryd.prog) w 9 27 5 (str l) Tryd.underlying9 Tryd.underlying27 Tryd.underlying5
  have hsz := str_size l
  have hge : l.length ≤ grownCap w (str l).size 0 5 := by rw [← hsz]; exact Nat.le_of_lt_succ (by have := grownCap_ge w (str l).size 0 5; omega)
  generalize hcap : grownCap w (str l).size 0 5 = cap at hcv hge
  refine ⟨_, _, hcv.trans (by rw [hsz]), ⟨by simp, fun j x hx => ?_⟩, (Below.refl w.heap.size w).drew.alloc (Nat.le_refl _) _, hge⟩
  have hj : j < l.length := (List.getElem?_eq_some_iff.1 hx).1
  have h := World.cell?_alloc_mark w.drew (bytesRow (str l) cap) 5 ((bytesRow (str l) cap).size, (bytesRow (str l) cap).size + 1) j
  have hf := World.frozen?_alloc_mark w.drew (bytesRow (str l) cap) 5 (bytesRow (str l) cap).size ((bytesRow (str l) cap).size + 1) j
  have e : w.drew.heap.size = w.heap.size := rfl
  rw [e] at h hf
  have hb : j < (bytesRow (str l) cap).size := by
    have := bytesRow_at (str l) cap j (by show j < (str l).size; rw [hsz]; exact hj)
    exact (Array.getElem?_eq_some_iff.1 this).1
  refine ⟨?_, ?_⟩
  · rw [h, bytesRow_at (str l) cap j (by show j < (str l).size; rw [hsz]; exact hj)]
    have : (str l).data[j]'(by show j < (str l).size; rw [hsz]; exact hj) = x := by
      have := (List.getElem?_eq_some_iff.1 hx).2
      rw [← this]; rfl
    rw [this]
  · rw [hf]; simp; omega
set_option maxRecDepth 100000 in
set_option maxHeartbeats 2000000 in
theorem padRef_any (l : List UInt8) (hl : l.length = 64) (p : UInt8) (pI : Int) (hp : pI = p.toNat) (P : Nat) (w : World) (hP : w.cell? ⟨P, 0, none⟩ = some (.string (str l))) (hPs : P < w.heap.size) :
    Calls Tryd.prog 45 #[.int .u8 pI, .pointer (some ⟨P, 0, none⟩)] w fun e w' => e = .returned (.string (str (l.map (· ^^^ p)))) ∧ Below w.heap.size w w' := by
  subst hp
  obtain ⟨cap, W1, hcv, hpd, hb1, hge⟩ := bytesOf_own l w
  rw [hl] at hcv hge
  have hgc : (64 : Int) ≤ cap := by omega
  obtain ⟨S, hS⟩ : ∃ S, str l = S := ⟨_, rfl⟩
  rw [hS] at hcv hP
  clear hS
  rw [← padded_zero l p] at hpd
  obtain ⟨R, hR⟩ : ∃ R, str (l.map (· ^^^ p)) = R := ⟨_, rfl⟩
  rw [hR]
  have HR := Lib.hid hR
  clear hR
  go_enter Tryd.func45, Tryd.ntmps45
  go_wp2_with fail
  go_loopw [10] (fun ix wr => ∃ i : Nat, i ≤ 64 ∧ ix = .int .i64 i ∧ Hid (Pads wr w.heap.size (padded l p i)) ∧ Below w.heap.size w wr) (fun ix _ => 64 - (intOf ix).toNat)
  case atStart => exact ⟨0, by omega, rfl, Lib.hid hpd, hb1⟩
  case round =>
    obtain ⟨i, hi, rfl, k1, hbr⟩ := hrel
    by_cases h64 : i < 64
    · have iI : (i : Int) < 64 := by omega
      obtain ⟨c, hc⟩ : ∃ c, l[i]? = some c := ⟨_, List.getElem?_eq_getElem (by omega)⟩
      obtain ⟨hu, fu⟩ := k1.out.2 i c (padded_get l p i c hc)
      have hx : bits .xor .u8 (c.toNat : Int) (p.toNat : Int) = (((c ^^^ p).toNat : Nat) : Int) := by
        rw [u8_xor_nat _ _ c.toNat_lt p.toNat_lt, UInt8.toNat_xor]
      have hst := k1.out.set i (c ^^^ p)
      rw [padded_set _ _ _ _ hc] at hst
      have hbs := hbr.setCell (p := ⟨w.heap.size, i, none⟩) (Nat.le_refl _) (.int .u8 ((c ^^^ p).toNat : Nat))
      have J1 := Lib.hid hst
      clear hst k1 hpd hb1 hc hcv
      go_wp2_with fail
      go_roundw
      case rel => exact ⟨i + 1, by omega, by go_num, J1, hbs⟩
      case measure => simp [intOf]; omega
    · have iI : ¬ ((i : Int) < 64) := by omega
      have hie : i = l.length := by omega
      rw [hie, padded_end] at k1
      have hst := bytes_string (cap := cap) k1.out.bytes
      rw [List.length_map, hl] at hst
      have hst' : (convert 27 9 (.slice (some ⟨w.heap.size, 0, none⟩) 64 cap)).run Tryd.prog wr = .ok (.string R) wr := by rw [← HR.out]; exact hst
      clear hie h64 k1 hpd hb1 hcv hst
      go_wp2_with fail
      go_ret
      exact ⟨rfl, hbr⟩
end Go.Proofs.YtjllecmlabodaaaDoor
