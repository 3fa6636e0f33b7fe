/-
  A RULE for drawn regions in which two things are made in any order to the others and one of them is filled by a store behind it: values for each operation's slot, and the two cells, which are two.
  CONDITIONS: the theorem's own hypotheses.
-/
import Derived.Test.YtablacloabpjfabDoorRegI
import Derived.Test.YtablacloabpjfabDoorBlk
namespace Go.Proofs.YtablacloabpjfabDoor
open Go Go.RowKit
set_option linter.unusedVariables false

theorem getD_put_ofT {a : Array Bool} {i j : Nat} (hij : i ≠ j) (h : (a.setIfInBounds i true).getD j false = true) : a.getD j false = true := by simpa [hij] using h
section
variable {P : Program} {l : List Oper} {Q : Exit → Act → World → Prop} {a0 : Act}

structure TwoI (n p r q : Nat) (T : TypeId) (Z V : List Value) (F : Nat → Value → Prop) (w0 : World) (ls : Array Bool) (vs : Nat → Value) (w : World) : Prop where
  below : Below w0.heap.size w0 w
  facts : ∀ j, j < n → j ≠ p → j ≠ r → j ≠ q → ls.getD j false = true → F j (vs j)
  cell : ls.getD p false = true → ∃ k, vs p = .pointer (some ⟨k, 0, none⟩) ∧ w0.heap.size ≤ k ∧ Blk w k T (if ls.getD q false = true then V else Z)
  cell2 : ls.getD r false = true → ∃ k, vs r = .pointer (some ⟨k, 0, none⟩) ∧ w0.heap.size ≤ k ∧ Blk w k T Z
  two : ls.getD p false = true → ls.getD r false = true → vs p ≠ vs r

theorem wp_region_two {id : Nat} {w0 : World} (n p r q : Nat) (hm : P.follows .mixedOrders = true) (hB : factB l n = true) (hpq : (depB l q p && decide (p ≠ q) && decide (p < n) && decide (q < n) && (decide (r < n) && decide (r ≠ p) && decide (r ≠ q))) = true)
    (T : TypeId) (Z V : List Value) (F : Nat → Value → Prop)
    (hstep : ∀ i, i < n → i ≠ p → i ≠ r → i ≠ q → ∀ (vs : Nat → Value) (w : World) (K : Act → World → Prop), Below w0.heap.size w0 w → (∀ j, j < n → j ≠ p → j ≠ r → j ≠ q → depB l i j = true → F j (vs j)) →
      (∀ v w', F i v → Below w.heap.size w w' → K ((fillF (l.take n) vs 0 a0).put ((l[i]?).bind (·.dst)) v) w') → wpOp P l.toArray Q i K (fillF (l.take n) vs 0 a0) w)
    (hp : ∀ (i : Nat), (i = p ∨ i = r) → ∀ (vs : Nat → Value) (w : World) (K : Act → World → Prop), K ((fillF (l.take n) vs 0 a0).put ((l[i]?).bind (·.dst)) (.pointer (some ⟨w.heap.size, 0, none⟩))) (w.alloc (.cells Z.toArray T)) → wpOp P l.toArray Q i K (fillF (l.take n) vs 0 a0) w)
    (hq : ∀ (vs : Nat → Value) (w : World) (K : Act → World → Prop) (k : Nat), Below w0.heap.size w0 w → vs p = .pointer (some ⟨k, 0, none⟩) → w0.heap.size ≤ k → Blk w k T Z → (∀ j, j < n → j ≠ p → j ≠ r → j ≠ q → depB l q j = true → F j (vs j)) →
      (∀ v w', Blk w' k T V → Below w0.heap.size w0 w' → (∀ b, b ≠ k → b < w.heap.size → w'.heap[b]? = w.heap[b]?) → K ((fillF (l.take n) vs 0 a0).put ((l[q]?).bind (·.dst)) v) w') → wpOp P l.toArray Q q K (fillF (l.take n) vs 0 a0) w)
    (hdone : ∀ (vs : Nat → Value) (w : World) (k m : Nat), Below w0.heap.size w0 w → vs p = .pointer (some ⟨k, 0, none⟩) → w0.heap.size ≤ k → Blk w k T V → vs r = .pointer (some ⟨m, 0, none⟩) → w0.heap.size ≤ m → Blk w m T Z → k ≠ m → (∀ j, j < n → j ≠ p → j ≠ r → j ≠ q → F j (vs j)) → wpList P l.toArray Q (l.drop n) (fillF (l.take n) vs 0 a0) w) :
    (Code.region id l.toArray true).wp P Q a0 w0 := by
  simp only [Bool.and_eq_true, decide_eq_true_eq] at hpq
  obtain ⟨⟨⟨⟨hdep, hne⟩, hpn⟩, hqn⟩, ⟨⟨hrn, hrp⟩, hrq⟩⟩ := hpq
  refine wp_region_joined n hm hB (TwoI n p r q T Z V F w0) (fun vs => ?_) (fun i hi ls vs w K h hsz hun hcl hd hu hK => ?_) (fun ls vs w h hall => ?_)
  · have hno : ∀ (N j : Nat), (Array.replicate N false).getD j false = true → False := fun N j hh => by rw [getD_replicate_false] at hh; cases hh
    exact ⟨Below.drew (Below.refl _ _), fun j _ _ _ _ hl => (hno _ _ hl).elim, fun hl => (hno _ _ hl).elim, fun hl => (hno _ _ hl).elim, fun hl => (hno _ _ hl).elim⟩
  · have hset : (ls.setIfInBounds i true).getD i false = true := by simp [hsz]
    have hifalse : ls.getD i false = false := getD_both hun
    have hba : Below w.heap.size w (w.alloc (.cells Z.toArray T)) := (Below.refl _ _).alloc (Nat.le_refl _) _
    by_cases hip : i = p
    · subst hip
      have hqf : ls.getD q false = false := by
        cases h1 : ls.getD q false with
        | false => rfl
        | true => have h2 := hcl q i h1 hdep; rw [hifalse] at h2; cases h2
      refine hp i (.inl rfl) vs w K (hK _ _ ⟨h.below.alloc h.below.size _, fun j hj h1 h2 h3 hl => ?_, fun _ => ⟨_, by simp [upd], h.below.size, ?_⟩, fun hl => ?_, fun _ hl => ?_⟩)
      · have : upd vs i (.pointer (some ⟨w.heap.size, 0, none⟩)) j = vs j := by simp [upd, h1]
        rw [this]
        exact h.facts j hj h1 h2 h3 (getD_put_ofT (Ne.symm h1) hl)
      · rw [if_neg (by
          intro hh
          rw [getD_put_ofT hne hh] at hqf; cases hqf)]
        exact Blk.new w Z.toArray T
      · obtain ⟨k, e, hk, hz⟩ := h.cell2 (getD_put_ofT (Ne.symm hrp) hl)
        exact ⟨k, by simp [upd, hrp]; exact e, hk, hz.call hba⟩
      · obtain ⟨k, e, hk, hz⟩ := h.cell2 (getD_put_ofT (Ne.symm hrp) hl)
        have e1 : upd vs i (.pointer (some ⟨w.heap.size, 0, none⟩)) i = .pointer (some ⟨w.heap.size, 0, none⟩) := by simp [upd]
        have e2 : upd vs i (.pointer (some ⟨w.heap.size, 0, none⟩)) r = vs r := by simp [upd, hrp]
        rw [e1, e2, e]
        intro hh
        have hlt := hz.lt
        simp at hh <;> omega
    by_cases hir : i = r
    · subst hir
      refine hp i (.inr rfl) vs w K (hK _ _ ⟨h.below.alloc h.below.size _, fun j hj h1 h2 h3 hl => ?_, fun hl => ?_, fun _ => ⟨_, by simp [upd], h.below.size, Blk.new w Z.toArray T⟩, fun hl _ => ?_⟩)
      · have : upd vs i (.pointer (some ⟨w.heap.size, 0, none⟩)) j = vs j := by simp [upd, h2]
        rw [this]
        exact h.facts j hj h1 h2 h3 (getD_put_ofT (Ne.symm h2) hl)
      · obtain ⟨k, e, hk, hz⟩ := h.cell (getD_put_ofT hip hl)
        refine ⟨k, by simp [upd, Ne.symm hip]; exact e, hk, ?_⟩
        have e2 : ((ls.setIfInBounds i true).getD q false = true) = (ls.getD q false = true) := by
          rw [show (ls.setIfInBounds i true).getD q false = ls.getD q false by simp [hrq]]
        simp only [e2]
        exact hz.call hba
      · obtain ⟨k, e, hk, hz⟩ := h.cell (getD_put_ofT hip hl)
        have e1 : upd vs i (.pointer (some ⟨w.heap.size, 0, none⟩)) i = .pointer (some ⟨w.heap.size, 0, none⟩) := by simp [upd]
        have e2 : upd vs i (.pointer (some ⟨w.heap.size, 0, none⟩)) p = vs p := by simp [upd, Ne.symm hip]
        rw [e1, e2, e]
        intro hh
        have hlt := hz.lt
        simp at hh <;> omega
    by_cases hiq : i = q
    · subst hiq
      obtain ⟨k, e, hk, hz⟩ := h.cell (hd p hdep)
      rw [if_neg (by rw [hifalse]; decide)] at hz
      refine hq vs w K k h.below e hk hz (fun j hj h1 h2 h3 hdj => h.facts j hj h1 h2 h3 (hd j hdj)) (fun v w' hv hb hk2 => hK _ _ ⟨hb, fun j hj h1 h2 h3 hl => ?_, fun _ => ⟨k, ?_, hk, ?_⟩, fun hl => ?_, fun hl hl2 => ?_⟩)
      · have : upd vs i v j = vs j := by simp [upd, h3]
        rw [this]
        exact h.facts j hj h1 h2 h3 (getD_put_ofT (Ne.symm h3) hl)
      · have : upd vs i v p = vs p := by simp [upd, hne]
        rw [this]; exact e
      · rw [if_pos hset]; exact hv
      · have hl' := getD_put_ofT (Ne.symm hrq) hl
        obtain ⟨m, e', hm', hz'⟩ := h.cell2 hl'
        have hmk : m ≠ k := fun hh => by
          have := h.two (hd p hdep) hl'
          rw [e, e', hh] at this; exact this rfl
        exact ⟨m, by simp [upd, hrq]; exact e', hm', hz'.same (hk2 m hmk hz'.lt)⟩
      · have e1 : upd vs i v p = vs p := by simp [upd, hne]
        have e2 : upd vs i v r = vs r := by simp [upd, hrq]
        rw [e1, e2]
        exact h.two (hd p hdep) (getD_put_ofT (Ne.symm hrq) hl2)
    · refine hstep i hi hip hir hiq vs w K h.below (fun j hj h1 h2 h3 hdj => h.facts j hj h1 h2 h3 (hd j hdj)) (fun v w' hv hb => hK _ _ ⟨h.below.trans (hb.mono h.below.size), fun j hj h1 h2 h3 hl => ?_, fun hl => ?_, fun hl => ?_, fun hl hl2 => ?_⟩)
      · by_cases hji : j = i
        · subst hji
          have : upd vs j v j = v := by simp [upd]
          rw [this]; exact hv
        · have : upd vs i v j = vs j := by simp [upd, hji]
          rw [this]
          exact h.facts j hj h1 h2 h3 (getD_put_ofT (Ne.symm hji) hl)
      · obtain ⟨k, e, hk, hz⟩ := h.cell (getD_put_ofT hip hl)
        refine ⟨k, by simp [upd, Ne.symm hip]; exact e, hk, ?_⟩
        have e2 : ((ls.setIfInBounds i true).getD q false = true) = (ls.getD q false = true) := by
          rw [show (ls.setIfInBounds i true).getD q false = ls.getD q false by simp [hiq]]
        simp only [e2]
        exact hz.call hb
      · obtain ⟨k, e, hk, hz⟩ := h.cell2 (getD_put_ofT hir hl)
        exact ⟨k, by simp [upd, Ne.symm hir]; exact e, hk, hz.call hb⟩
      · have e1 : upd vs i v p = vs p := by simp [upd, Ne.symm hip]
        have e2 : upd vs i v r = vs r := by simp [upd, Ne.symm hir]
        rw [e1, e2]
        exact h.two (getD_put_ofT hip hl) (getD_put_ofT hir hl2)
  · obtain ⟨k, e, hk, hz⟩ := h.cell (hall p hpn)
    rw [if_pos (hall q hqn)] at hz
    obtain ⟨m, e', hm', hz'⟩ := h.cell2 (hall r hrn)
    have hkm : k ≠ m := fun hh => by
      have := h.two (hall p hpn) (hall r hrn)
      rw [e, e', hh] at this; exact this rfl
    exact hdone vs w k m h.below e hk hz e' hm' hz' hkm (fun j hj h1 h2 h3 => h.facts j hj h1 h2 h3 (hall j hj))
end
end Go.Proofs.YtablacloabpjfabDoor
