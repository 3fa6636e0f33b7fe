/-
  A RULE for drawn regions in which one thing is made in any order to the others and filled by a store behind them: facts for each operation's slot, and the cell.
  CONDITIONS: the theorem's own hypotheses.
-/
import Derived.Test.YtablacloabpjfabGreatDoorRegI
import Derived.Test.YtablacloabpjfabGreatDoorBlk
namespace Go.Proofs.YtablacloabpjfabGreatDoor
open Go Go.RowKit
set_option linter.unusedVariables false

theorem getD_put_true {a : Array Bool} {i j : Nat} (h : a.getD j false = true) : (a.setIfInBounds i true).getD j false = true := by
  by_cases hij : i = j
  · subst hij
    by_cases hs : i < a.size
    · simp [hs]
    · simp [hs] at h
  · simpa [hij] using h
theorem getD_put_of {a : Array Bool} {i j : Nat} (hij : i ≠ j) (h : (a.setIfInBounds i true).getD j false = true) : a.getD j false = true := by simpa [hij] using h
section
variable {P : Program} {l : List Oper} {Q : Exit → Act → World → Prop} {a0 : Act}

structure CelI (n p q : Nat) (T : TypeId) (Z V : List Value) (F : Array Bool → Nat → Value → World → Prop) (w0 : World) (ls : Array Bool) (vs : Nat → Value) (w : World) : Prop where
  below : Below w0.heap.size w0 w
  facts : ∀ j, j < n → j ≠ p → j ≠ q → ls.getD j false = true → F ls j (vs j) w
  cell : ls.getD p false = true → ∃ k, vs p = .pointer (some ⟨k, 0, none⟩) ∧ w0.heap.size ≤ k ∧ Blk w k T (if ls.getD q false = true then V else Z)

theorem wp_region_cell {id : Nat} {w0 : World} (n p q : Nat) (hm : P.follows .mixedOrders = true) (hB : factB l n = true) (hpq : (depB l q p && decide (p ≠ q) && decide (p < n) && decide (q < n)) = true)
    (T : TypeId) (Z V : List Value) (F : Array Bool → Nat → Value → World → Prop)
    (hF : ∀ ls i j v w w', i < n → i ≠ q → j ≠ i → ls.getD i true = false → Below w.heap.size w w' → F ls j v w → F (ls.setIfInBounds i true) j v w')
    (hQ : ∀ ls j v w w', (∀ a b, ls.getD a false = true → depB l a b = true → ls.getD b false = true) → (∀ b, depB l q b = true → ls.getD b false = true) → F ls j v w → F (ls.setIfInBounds q true) j v w')
    (hstep : ∀ i, i < n → i ≠ p → i ≠ q → ∀ (ls : Array Bool) (vs : Nat → Value) (w : World) (K : Act → World → Prop), Below w0.heap.size w0 w → (∀ j, j < n → j ≠ p → j ≠ q → depB l i j = true → F ls j (vs j) w) →
      (∀ v w', F (ls.setIfInBounds i true) i v w' → Below w.heap.size w w' → K ((fillF (l.take n) vs 0 a0).put ((l[i]?).bind (·.dst)) v) w') → (∀ a b, ls.getD a false = true → depB l a b = true → ls.getD b false = true) → (∀ j, depB l i j = true → ls.getD j false = true) → ls.getD i false = false → wpOp P l.toArray Q i K (fillF (l.take n) vs 0 a0) w)
    (hp : ∀ (vs : Nat → Value) (w : World) (K : Act → World → Prop), K ((fillF (l.take n) vs 0 a0).put ((l[p]?).bind (·.dst)) (.pointer (some ⟨w.heap.size, 0, none⟩))) (w.alloc (.cells Z.toArray T)) → wpOp P l.toArray Q p K (fillF (l.take n) vs 0 a0) w)
    (hq : ∀ (ls : Array Bool) (vs : Nat → Value) (w : World) (K : Act → World → Prop) (k : Nat), Below w0.heap.size w0 w → vs p = .pointer (some ⟨k, 0, none⟩) → w0.heap.size ≤ k → Blk w k T Z → (∀ j, j < n → j ≠ p → j ≠ q → depB l q j = true → F ls j (vs j) w) →
      (∀ v w', Blk w' k T V → Below w0.heap.size w0 w' → K ((fillF (l.take n) vs 0 a0).put ((l[q]?).bind (·.dst)) v) w') → wpOp P l.toArray Q q K (fillF (l.take n) vs 0 a0) w)
    (hdone : ∀ (ls : Array Bool) (vs : Nat → Value) (w : World) (k : Nat), Below w0.heap.size w0 w → vs p = .pointer (some ⟨k, 0, none⟩) → w0.heap.size ≤ k → Blk w k T V → (∀ j, j < n → j ≠ p → j ≠ q → F ls j (vs j) w) → wpList P l.toArray Q (l.drop n) (fillF (l.take n) vs 0 a0) w) :
    (Code.region id l.toArray true).wp P Q a0 w0 := by
  simp only [Bool.and_eq_true, decide_eq_true_eq] at hpq
  obtain ⟨⟨⟨hdep, hne⟩, hpn⟩, hqn⟩ := hpq
  refine wp_region_joined n hm hB (CelI n p q T Z V F w0) (fun vs => ?_) (fun i hi ls vs w K h hsz hun hcl hd hu hK => ?_) (fun ls vs w h hall => ?_)
  · have hno : ∀ (N j : Nat), (Array.replicate N false).getD j false = true → False := fun N j hh => by rw [getD_replicate_false] at hh; cases hh
    exact ⟨Below.drew (Below.refl _ _), fun j _ _ _ hl => (hno _ _ hl).elim, fun hl => (hno _ _ hl).elim⟩
  · have hset : (ls.setIfInBounds i true).getD i false = true := by simp [hsz]
    have hifalse : ls.getD i false = false := getD_both hun
    by_cases hip : i = p
    · subst hip
      have hqf : ls.getD q false = false := by
        cases h1 : ls.getD q false with
        | false => rfl
        | true => have h2 := hcl q i h1 hdep; rw [hifalse] at h2; cases h2
      have hba : Below w.heap.size w (w.alloc (.cells Z.toArray T)) := (Below.refl _ _).alloc (Nat.le_refl _) _
      refine hp vs w K (hK _ _ ⟨h.below.alloc h.below.size _, fun j hj h1 h2 hl => ?_, fun _ => ⟨_, by simp [upd], h.below.size, ?_⟩⟩)
      · have : upd vs i (.pointer (some ⟨w.heap.size, 0, none⟩)) j = vs j := by simp [upd, h1]
        rw [this]
        exact hF ls i j _ w _ hi hne h1 hun hba (h.facts j hj h1 h2 (getD_put_of (Ne.symm h1) hl))
      · rw [if_neg (by
          intro hh
          rw [getD_put_of hne hh] at hqf; cases hqf)]
        exact Blk.new w Z.toArray T
    by_cases hiq : i = q
    · subst hiq
      obtain ⟨k, e, hk, hz⟩ := h.cell (hd p hdep)
      rw [if_neg (by rw [hifalse]; decide)] at hz
      refine hq ls vs w K k h.below e hk hz (fun j hj h1 h2 hdj => h.facts j hj h1 h2 (hd j hdj)) (fun v w' hv hb => hK _ _ ⟨hb, fun j hj h1 h2 hl => ?_, fun _ => ⟨k, ?_, hk, ?_⟩⟩)
      · have : upd vs i v j = vs j := by simp [upd, h2]
        rw [this]
        exact hQ ls j _ w _ hcl hd (h.facts j hj h1 h2 (getD_put_of (Ne.symm h2) hl))
      · have : upd vs i v p = vs p := by simp [upd, hne]
        rw [this]; exact e
      · rw [if_pos hset]; exact hv
    · refine hstep i hi hip hiq ls vs w K h.below (fun j hj h1 h2 hdj => h.facts j hj h1 h2 (hd j hdj)) (fun v w' hv hb => hK _ _ ⟨h.below.trans (hb.mono h.below.size), fun j hj h1 h2 hl => ?_, fun hl => ?_⟩) hcl hd hifalse
      · by_cases hji : j = i
        · subst hji
          have : upd vs j v j = v := by simp [upd]
          rw [this]; exact hv
        · have : upd vs i v j = vs j := by simp [upd, hji]
          rw [this]
          exact hF ls i j _ w _ hi hiq hji hun hb (h.facts j hj h1 h2 (getD_put_of (Ne.symm hji) hl))
      · have hl' : ls.getD p false = true := getD_put_of (fun e => hip e) hl
        obtain ⟨k, e, hk, hz⟩ := h.cell hl'
        refine ⟨k, by simp [upd, Ne.symm hip]; exact e, hk, ?_⟩
        have e2 : ((ls.setIfInBounds i true).getD q false = true) = (ls.getD q false = true) := by
          rw [show (ls.setIfInBounds i true).getD q false = ls.getD q false by simp [hiq]]
        simp only [e2]
        exact hz.call hb
  · obtain ⟨k, e, hk, hz⟩ := h.cell (hall p hpn)
    rw [if_pos (hall q hqn)] at hz
    exact hdone ls vs w k h.below e hk hz (fun j hj h1 h2 => h.facts j hj h1 h2 (hall j hj))
end
end Go.Proofs.YtablacloabpjfabGreatDoor
