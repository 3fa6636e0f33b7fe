/-
  CONVERSIONS of strings to bytes: where what is new lies.
  CONDITIONS: each theorem's own hypotheses.
-/
import Derived.Test.YtmldhnghfdhjmaaDoorStrA
namespace Go.Proofs.YtmldhnghfdhjmaaDoor
open Go.RowKit CodeMath
set_option linter.unusedVariables false
set_option maxRecDepth 100000

/-- Bytes of one's own from the start of a block. -/
def Pads (W : World) (g : Nat) (l : List UInt8) : Prop := g < W.heap.size ∧ ∀ j c, l[j]? = some c → W.cell? ⟨g, j, none⟩ = some (.int .u8 c.toNat) ∧ W.frozen? ⟨g, j, none⟩ = false
theorem Pads.set {W : World} {g : Nat} {l : List UInt8} (h : Pads W g l) (i : Nat) (c : UInt8) : Pads (W.setCell ⟨g, i, none⟩ (.int .u8 c.toNat)) g (l.set i c) := by
  refine ⟨by simpa using h.1, fun j x hx => ?_⟩
  by_cases hij : i = j
  · subst hij
    have hi : i < l.length := by have := (List.getElem?_eq_some_iff.1 hx).1; simpa using this
    rw [List.getElem?_set_self hi] at hx
    cases hx
    obtain ⟨h1, h2⟩ := h.2 i _ (List.getElem?_eq_getElem hi)
    exact ⟨World.cell?_setCell_same _ _ _ h1, by rw [World.frozen?_setCell]; exact h2⟩
  · rw [List.getElem?_set_ne hij] at hx
    obtain ⟨h1, h2⟩ := h.2 j x hx
    exact ⟨by rw [World.cell?_setCell_other _ _ _ _ (fun e => hij (by cases e; rfl))]; exact h1, by rw [World.frozen?_setCell]; exact h2⟩
theorem Pads.bytes {W : World} {g : Nat} {l : List UInt8} (h : Pads W g l) : Bytes W (some ⟨g, 0, none⟩) l :=
  .inr ⟨g, 0, rfl, h.1, fun j x hx => by rw [Nat.zero_add]; exact (h.2 j x hx).1⟩
theorem bytesOf_own (l : List UInt8) (w : World) : ∃ cap W1, (convert 9 23 (.string (str l))).run Tryd.prog w = .ok (.slice (some ⟨w.heap.size, 0, none⟩) l.length cap) W1 ∧ Pads W1 w.heap.size l ∧ Below w.heap.size w W1 ∧ l.length ≤ cap := by
  have hcv := run_bytes_of_string (P := Tryd.prog) w 9 23 5 (str l) Tryd.underlying9 Tryd.underlying23 Tryd.underlying5
  have hsz := str_size l
  have hge : l.length ≤ grownCap w (str l).size 0 5 := by rw [← hsz]; exact Nat.le_of_lt_succ (by have := grownCap_ge w (str l).size 0 5; omega)
  generalize hcap : grownCap w (str l).size 0 5 = cap at hcv hge
  refine ⟨_, _, hcv.trans (by rw [hsz]), ⟨by simp, fun j x hx => ?_⟩, (Below.refl w.heap.size w).drew.alloc (Nat.le_refl _) _, hge⟩
  have hj : j < l.length := (List.getElem?_eq_some_iff.1 hx).1
  have h := World.cell?_alloc_mark w.drew (bytesRow (str l) cap) 5 ((bytesRow (str l) cap).size, (bytesRow (str l) cap).size + 1) j
  have hf := World.frozen?_alloc_mark w.drew (bytesRow (str l) cap) 5 (bytesRow (str l) cap).size ((bytesRow (str l) cap).size + 1) j
  have e : w.drew.heap.size = w.heap.size := rfl
  rw [e] at h hf
  have hb : j < (bytesRow (str l) cap).size := by
    have := bytesRow_at (str l) cap j (by show j < (str l).size; rw [hsz]; exact hj)
    exact (Array.getElem?_eq_some_iff.1 this).1
  refine ⟨?_, ?_⟩
  · rw [h, bytesRow_at (str l) cap j (by show j < (str l).size; rw [hsz]; exact hj)]
    have : (str l).data[j]'(by show j < (str l).size; rw [hsz]; exact hj) = x := by
      have := (List.getElem?_eq_some_iff.1 hx).2
      rw [← this]; rfl
    rw [this]
  · rw [hf]; simp; omega
theorem bytesOf_max (l : List UInt8) (w : World) (hl : l.length ≤ 9223372036854775807) : ∃ cap W1, (convert 9 23 (.string (str l))).run Tryd.prog w = .ok (.slice (some ⟨w.heap.size, 0, none⟩) l.length cap) W1 ∧ Bytes W1 (some ⟨w.heap.size, 0, none⟩) l ∧ Below w.heap.size w W1 ∧ l.length ≤ cap ∧ cap ≤ 9223372036854775807 := by
  obtain ⟨cap, W1, hcv, h1, h2, h3⟩ := bytesOf_own l w
  refine ⟨cap, W1, hcv, h1.bytes, h2, h3, ?_⟩
  have hcv' := run_bytes_of_string (P := Tryd.prog) w 9 23 5 (str l) Tryd.underlying9 Tryd.underlying23 Tryd.underlying5
  have hle := grownCap_le_maxLen w (str l).size 0 5 (by rw [str_size]; exact hl)
  rw [hcv] at hcv'
  have : cap = grownCap w (str l).size 0 5 := by
    injection hcv' with e1 e2
    injection e1 with e3 e4 e5
  rw [this]; exact hle
end Go.Proofs.YtmldhnghfdhjmaaDoor
