/-
  Worlds without what their low blocks hold; expressions that lie at high blocks.
  CONDITIONS: each theorem's own hypotheses.
-/
import Derived.Test.YtcccnpcejfmfcaaGreatDoorOps
namespace Go.Proofs.YtcccnpcejfmfcaaGreatDoor
open Go.RowKit
set_option linter.unusedVariables false
set_option maxRecDepth 100000

theorem AtT.subs {W W' : World} (hs : W.heap.size ≤ W'.heap.size) (hc : ∀ a v, W.cell? a = some v → W'.cell? a = some v) : ∀ (n : Nat) (t : T), t.deep ≤ n → ∀ ao, AtT W t ao → AtT W' t ao
  | 0, t, h, ao, hA => by have := T.deep_eq t; omega
  | n + 1, .mk d l, h, ao, hA => by
    simp only [AtT] at hA ⊢
    refine ⟨hA.1, ?_⟩
    have hdl : deepL l ≤ n := by simp only [T.deep] at h; omega
    have hl : ∀ (m : List T) (j : Nat), deepL m ≤ n → AtL W ao j m → AtL W' ao j m := by
      intro m
      induction m with
      | nil => intro j _ _; simp [AtL]
      | cons u m ih =>
        intro j hd hj
        simp only [AtL] at hj ⊢
        simp only [deepL] at hd
        obtain ⟨⟨a, o, ao', cap, e, h1, h2, h3, h4, h5, h6⟩, hr⟩ := hj
        exact ⟨⟨a, o, ao', cap, e, Nat.lt_of_lt_of_le h1 hs, fun q x hq => hc _ _ (h2 q x hq), hc _ _ h3, h4, h5, AtT.subs hs hc n u (by omega) _ h6⟩, ih (j + 1) (by omega) hr⟩
    exact hl l 0 hdl hA.2
theorem AtT.sub {W W' : World} {t : T} {ao : Option Addr} (h : AtT W t ao) (hs : W.heap.size ≤ W'.heap.size) (hc : ∀ a v, W.cell? a = some v → W'.cell? a = some v) : AtT W' t ao := AtT.subs hs hc t.deep t (Nat.le_refl _) ao h
/-- The world without what the blocks below b hold. -/
def lo (b : Nat) (w : World) : World := { w with heap := w.heap.mapIdx (fun i o => if i < b then .cells #[] 0 (0, 0) else o) }
theorem lo_size (b : Nat) (w : World) : (lo b w).heap.size = w.heap.size := by simp [lo]
theorem lo_at (b : Nat) (w : World) (k : Nat) (h : b ≤ k) : (lo b w).heap[k]? = w.heap[k]? := by
  show (w.heap.mapIdx _)[k]? = _
  rw [Array.getElem?_mapIdx]
  cases w.heap[k]? with
  | none => rfl
  | some o => simp; omega
theorem lo_low (b : Nat) (w : World) (k : Nat) (h : k < b) : (lo b w).heap[k]? = if k < w.heap.size then some (.cells #[] 0 (0, 0)) else none := by
  show (w.heap.mapIdx _)[k]? = _
  rw [Array.getElem?_mapIdx]
  by_cases hk : k < w.heap.size
  · rw [Array.getElem?_eq_getElem hk, if_pos hk]; simp [h]
  · rw [Array.getElem?_eq_none (by omega), if_neg hk]; rfl
theorem lo_cell (b : Nat) (w : World) (a : Addr) (h : b ≤ a.block) : (lo b w).cell? a = w.cell? a := by
  unfold World.cell?
  rw [lo_at b w _ h]
theorem lo_none (b : Nat) (w : World) (a : Addr) (h : a.block < b) : (lo b w).cell? a = none := by
  unfold World.cell?
  rw [lo_low b w _ h]
  by_cases hh : a.block < w.heap.size
  · rw [if_pos hh]; simp
  · rw [if_neg hh]
theorem lo_sub {b : Nat} {w : World} {a : Addr} {v : Value} (h : (lo b w).cell? a = some v) : b ≤ a.block ∧ w.cell? a = some v := by
  by_cases e : a.block < b
  · rw [lo_none b w a e] at h; cases h
  · exact ⟨by omega, by rw [lo_cell b w a (by omega)] at h; exact h⟩
theorem lo_below {b : Nat} {w w' : World} (h1 : w'.os = w.os) (h2 : w'.tape = w.tape) (h3 : w'.output = w.output) (h4 : w.heap.size ≤ w'.heap.size) (h5 : ∀ k, b ≤ k → k < w.heap.size → w'.heap[k]? = w.heap[k]?) : Below (lo b w).heap.size (lo b w) (lo b w') := by
  refine ⟨h1, h2, h3, by rw [lo_size, lo_size]; exact h4, fun k hk => ?_⟩
  rw [lo_size] at hk
  by_cases e : k < b
  · rw [lo_low b w' k e, lo_low b w k e, if_pos hk, if_pos (by omega)]
  · rw [lo_at b w' k (by omega), lo_at b w k (by omega)]; exact h5 k (by omega) hk
/-- An expression lies at blocks from b on. -/
def XTb (b : Nat) (w : World) (t : T) (ao : Option Addr) (cap : Nat) : Prop := XT (lo b w) t ao cap
theorem XTb.below {b : Nat} {w w' : World} {t : T} {ao : Option Addr} {cap : Nat} (h : XTb b w t ao cap) (k : Below w.heap.size w w') : XTb b w' t ao cap :=
  XT.keep h (lo_below k.os k.tape k.output k.size (fun q _ hs => k.block q hs))
theorem XTb.set {b : Nat} {w : World} {t : T} {ao : Option Addr} {cap : Nat} (h : XTb b w t ao cap) (a : Addr) (v : Value) (ha : a.block < b) : XTb b (w.setCell a v) t ao cap :=
  XT.keep h (lo_below rfl rfl rfl (by simp [World.setCell]) (fun q hq _ => Below.heap_setCell w a v q (by omega)))
theorem XTb.mono {b b' : Nat} {w : World} {t : T} {ao : Option Addr} {cap : Nat} (h : XTb b w t ao cap) (hb : b' ≤ b) : XTb b' w t ao cap :=
  ⟨h.A.sub (by rw [lo_size, lo_size]; exact Nat.le_refl _) (fun a v hv => by obtain ⟨h1, h2⟩ := lo_sub hv; rw [lo_cell b' w a (by omega)]; exact h2), h.n1, h.n2, h.n3⟩
theorem XTb.show {b : Nat} {w : World} {t : T} {ao : Option Addr} {cap : Nat} (h : XTb b w t ao cap) : XT w t ao cap :=
  ⟨h.A.sub (by rw [lo_size]; exact Nat.le_refl _) (fun a v hv => (lo_sub hv).2), h.n1, h.n2, h.n3⟩
theorem XTb.set7 {b : Nat} {w : World} {t : T} {ao : Option Addr} {cap : Nat} (h : XTb b w t ao cap) {g : Nat} (hg : g < b) {a0 a1 a2 a3 a4 a5 a6 : Value} : XTb b (((((((w.setCell ⟨g, 0, none⟩ a0).setCell ⟨g, 1, none⟩ a1).setCell ⟨g, 2, none⟩ a2).setCell ⟨g, 3, none⟩ a3).setCell ⟨g, 4, none⟩ a4).setCell ⟨g, 5, none⟩ a5).setCell ⟨g, 6, none⟩ a6) t ao cap :=
  ((((((h.set ⟨g, 0, none⟩ a0 hg).set ⟨g, 1, none⟩ a1 hg).set ⟨g, 2, none⟩ a2 hg).set ⟨g, 3, none⟩ a3 hg).set ⟨g, 4, none⟩ a4 hg).set ⟨g, 5, none⟩ a5 hg).set ⟨g, 6, none⟩ a6 hg
theorem Blk.lo {w : World} {g b : Nat} {T : TypeId} {cs : List Value} (h : Blk w g T cs) (hb : b ≤ g) : Blk (Go.Proofs.YtcccnpcejfmfcaaGreatDoor.lo b w) g T cs := (lo_at b w g hb).trans h
end Go.Proofs.YtcccnpcejfmfcaaGreatDoor
