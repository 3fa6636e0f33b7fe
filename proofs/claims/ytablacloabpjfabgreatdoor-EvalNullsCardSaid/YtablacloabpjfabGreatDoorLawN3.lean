/-
  A RULE for drawn regions: one invariant over which operations are done, their slots' values and the world, kept by each operation, whichever come up.
  CONDITIONS: the theorem's own hypotheses.
  A RULE for drawn regions in which one thing is made in any order to the others and filled by a store behind them: facts for each operation's slot, and the cell.
  CONDITIONS: the theorem's own hypotheses.
  THE WALK of the law 'chirographkeep.EvalNulls': for every operator, raw thing and side the law returns true.
  CONDITIONS: the numbers are of 64 bits; the tables lie.
-/
import Derived.Test.YtablacloabpjfabGreatDoorGRegE
import Derived.Test.YtablacloabpjfabGreatDoorBlk
import Derived.Test.YtablacloabpjfabGreatDoorGEve
import Derived.Test.YtablacloabpjfabGreatDoorRawB
namespace Go.Proofs.YtablacloabpjfabGreatDoor
open Go Go.RowKit
set_option linter.unusedVariables false

theorem getD_in' {a : Array Bool} {i : Nat} (h : i < a.size) (e : a.getD i true = true) : a.getD i false = true := by
  simp [h] at e ⊢; exact e
section
variable {P : Program} {l : List Oper} {Q : Exit → Act → World → Prop} {a0 : Act}

structure JInv (l : List Oper) (n : Nat) (I : Array Bool → (Nat → Value) → World → Prop) (a0 : Act) (listed : Array Bool) (a : Act) (w : World) : Prop where
  size : listed.size = l.length
  closed : ∀ i j, listed.getD i false = true → depB l i j = true → listed.getD j false = true
  tail : ∀ t, n ≤ t → t < l.length → listed.getD t true = false
  vals : ∃ vs : Nat → Value, a = fillF (l.take n) vs 0 a0 ∧ I listed vs w ∧ (∀ i o, (l.take n)[i]? = some o → listed.getD i true = false → vs i = slotOf a0 o)

theorem wp_region_joined {id : Nat} {w0 : World} (n : Nat) (hm : P.follows .mixedOrders = true) (hB : factB l n = true)
    (I : Array Bool → (Nat → Value) → World → Prop) (h0 : ∀ vs, I (Array.replicate l.length false) vs { w0 with drawn := w0.drawn + 1 })
    (hstep : ∀ i, i < n → ∀ (listed : Array Bool) (vs : Nat → Value) (w : World) (K : Act → World → Prop), I listed vs w → i < listed.size → listed.getD i true = false → (∀ p q, listed.getD p false = true → depB l p q = true → listed.getD q false = true) → (∀ j, depB l i j = true → listed.getD j false = true) →
      (∀ j o, (l.take n)[j]? = some o → listed.getD j false = false → vs j = slotOf a0 o) →
      (∀ v w', I (listed.setIfInBounds i true) (upd vs i v) w' → K ((fillF (l.take n) vs 0 a0).put ((l[i]?).bind (·.dst)) v) w') → wpOp P l.toArray Q i K (fillF (l.take n) vs 0 a0) w)
    (hdone : ∀ (listed : Array Bool) (vs : Nat → Value) (w : World), I listed vs w → (∀ i, i < n → listed.getD i false = true) → wpList P l.toArray Q (l.drop n) (fillF (l.take n) vs 0 a0) w) :
    (Code.region id l.toArray true).wp P Q a0 w0 := by
  simp only [factB, Bool.and_eq_true, decide_eq_true_eq, List.all_eq_true, List.mem_range, Bool.or_eq_true, beq_iff_eq] at hB
  obtain ⟨⟨⟨⟨⟨⟨hone, hn⟩, hlow⟩, hsc⟩, hseq⟩, hcnt⟩, hin⟩ := hB
  have main : ∀ (fuel : Nat) (listed : Array Bool) (a : Act) (w : World), listed.toList.count false = fuel → JInv l n I a0 listed a w → wpAny P .any l.toArray Q fuel listed a w := by
    intro fuel
    induction fuel with
    | zero =>
      intro listed a w hc inv
      obtain ⟨vs, ha, hI, -⟩ := inv.vals
      have hall := count_zero hc
      have hln : n = l.length := by
        rcases Nat.lt_or_ge n l.length with h | h
        · have h1 := inv.tail n (Nat.le_refl _) h
          rw [hall n] at h1; cases h1
        · omega
      have hr : Region.ready .any l.toArray listed = [] := by
        apply List.eq_nil_iff_forall_not_mem.2
        intro i hi
        have h1 := (ready_iff.1 hi).1
        rw [hall i] at h1; cases h1
      have hd := hdone listed vs w hI (fun i hi => getD_in' (by rw [inv.size]; omega) (hall i))
      rw [List.drop_of_length_le (by omega)] at hd
      exact ⟨hr, by rw [ha]; exact hd⟩
    | succ fuel ih =>
      intro listed a w hc inv
      obtain ⟨vs, ha, hI, hu⟩ := inv.vals
      by_cases hd : ∃ i, i < n ∧ listed.getD i true = false
      · -- the head is not complete
        have hleast : ∃ i, i < n ∧ i ∈ Region.ready .any l.toArray listed := by
          obtain ⟨i, hi⟩ := hd
          induction i using Nat.strongRecOn with
          | _ i ihi =>
            by_cases hall : ∀ j, depB l i j = true → listed.getD j false = true
            · exact ⟨i, hi.1, ready_iff.2 ⟨hi.2, by omega, hall⟩⟩
            · simp only [Classical.not_forall] at hall
              obtain ⟨j, hj, hlj⟩ := hall
              obtain ⟨o, ho, e, he, hb, hon⟩ := Region.waitsFor_spec hj
              have hjl : j < l.length := by
                have h1 := hin i (by omega)
                have ho' : l[i]? = some o := by simpa using ho
                rw [ho'] at h1
                simp only [Option.map_some, Option.getD_some, Array.all_eq_true'] at h1
                have h2 := h1 e he
                rw [hb] at h2
                simp only [Bool.not_true, Bool.false_or, decide_eq_true_eq] at h2
                omega
              have hji : j < i := by
                have h1 := hlow i (by omega) j hjl
                rcases h1 with h1 | h1
                · rw [hj] at h1; cases h1
                · exact h1
              have hlj' : listed.getD j true = false := by
                have : listed.getD j false = false := by cases h : listed.getD j false <;> simp_all
                exact getD_in (by rw [inv.size]; exact hjl) this
              exact ihi j hji ⟨by omega, hlj'⟩
        refine ⟨fun hr => ?_, fun i hi => ?_⟩
        · obtain ⟨i, _, hi⟩ := hleast
          rw [hr] at hi; cases hi
        · obtain ⟨hiun, hil, hideps⟩ := ready_iff.1 hi
          have hin' : i < n := by
            rcases Nat.lt_or_ge i n with h | h
            · exact h
            · rcases hsc with h1 | h1
              · omega
              · obtain ⟨⟨h2, h3⟩, h4⟩ := h1
                obtain ⟨k, hk, hkun⟩ := hd
                have hinv : HeadInv .any l.toArray n listed := ⟨by simpa using inv.size, fun j oj hj hl e he hb => inv.closed j e.on hl (depB_of (by simpa using hj) he hb), fun t ht ht' => inv.tail t ht (by simpa using ht')⟩
                exact absurd hi (tail_waits h3 h4 (by simpa using h2) hinv _ k rfl hk hkun i h)
          obtain ⟨o, ho⟩ : ∃ o, l[i]? = some o := ⟨_, List.getElem?_eq_getElem hil⟩
          have hot : (l.take n)[i]? = some o := by rw [List.getElem?_take_of_lt hin']; exact ho
          subst ha
          refine hstep i hin' listed vs w _ hI (by rw [inv.size]; exact hil) hiun inv.closed hideps (fun j p hp hw => ?_) (fun v w' hv => ?_)
          · refine hu j p hp (getD_in ?_ hw)
            have := (List.getElem?_eq_some_iff.1 hp).1
            rw [inv.size]
            simp at this; omega
          · rw [ho]
            simp only [Option.bind_some]
            rw [fillF_put (l.take n) vs 0 a0 i o v hot hone, Nat.zero_add]
            refine ih _ _ _ ?_ ⟨by simp [inv.size], fun p q hp hq => ?_, fun t ht ht' => by rw [getD_set_ne true (by omega)]; exact inv.tail t ht ht', upd vs i v, rfl, hv, fun p q hp hlp => ?_⟩
            · have := count_set listed i hiun
              omega
            · by_cases hip : i = p
              · subst hip
                exact getD_set_true (hideps q hq)
              · rw [getD_set_ne false hip] at hp
                exact getD_set_true (inv.closed p q hp hq)
            · by_cases hip : p = i
              · subst hip
                have hlt : p < listed.size := by rw [inv.size]; exact hil
                simp [hlt] at hlp
              · rw [getD_set_ne true (Ne.symm hip)] at hlp
                have : upd vs i v p = vs p := by simp [upd, hip]
                rw [this]
                exact hu p q hp hlp
      · -- the head is complete: the tail is forced
        have hall : ∀ i, i < n → listed.getD i true = true := by
          intro i hi
          cases h : listed.getD i true with
          | true => rfl
          | false => exact absurd ⟨i, hi, h⟩ hd
        have hstart : listed = startAt l.length n := by
          apply Array.ext
          · simp [startAt, inv.size]
          · intro i h1 h2
            have hil : i < l.length := by rw [← inv.size]; exact h1
            have e : (startAt l.length n)[i] = decide (i < n) := by simp [startAt]
            rw [e]
            rcases Nat.lt_or_ge i n with h | h
            · have := hall i h
              simp [h1] at this
              simp [this, h]
            · have := inv.tail i h hil
              simp [h1] at this
              simp [this]; omega
        have hd := hdone listed vs w hI (fun i hi => getD_in' (by rw [inv.size]; omega) (hall i hi))
        have hfu : fuel + 1 = (l.drop n).length := by rw [← hc, hstart]; exact hcnt
        rw [hfu, ha, hstart]
        exact wpAny_of_seq (l.drop n) n _ _ w (fun j => by simp [List.getElem?_drop]) hseq hd
  refine wp_region_any hm (main _ _ _ _ (by simp) ⟨by simp, fun i j h _ => (by rw [getD_replicate_false] at h; cases h), fun t _ ht => getD_in (by simpa using ht) (getD_replicate_false _ _), fun i => (match (l.take n)[i]? with | some o => slotOf a0 o | none => undef), ?_, by simpa using h0 _, fun i o ho _ => (by show (match (l.take n)[i]? with | some o => slotOf a0 o | none => undef) = _; rw [ho])⟩)
  refine (fillF_self (l.take n) 0 a0 _ (fun k o ho => ?_)).symm
  rw [Nat.zero_add, ho]
end
end Go.Proofs.YtablacloabpjfabGreatDoor
namespace Go.Proofs.YtablacloabpjfabGreatDoor
open Go Go.RowKit
set_option linter.unusedVariables false

theorem getD_put_true {a : Array Bool} {i j : Nat} (h : a.getD j false = true) : (a.setIfInBounds i true).getD j false = true := by
  by_cases hij : i = j
  · subst hij
    by_cases hs : i < a.size
    · simp [hs]
    · simp [hs] at h
  · simpa [hij] using h
theorem getD_put_of {a : Array Bool} {i j : Nat} (hij : i ≠ j) (h : (a.setIfInBounds i true).getD j false = true) : a.getD j false = true := by simpa [hij] using h
section
variable {P : Program} {l : List Oper} {Q : Exit → Act → World → Prop} {a0 : Act}

structure CelI (n p q : Nat) (T : TypeId) (Z V : List Value) (F : Array Bool → Nat → Value → World → Prop) (w0 : World) (ls : Array Bool) (vs : Nat → Value) (w : World) : Prop where
  below : Below w0.heap.size w0 w
  facts : ∀ j, j < n → j ≠ p → j ≠ q → ls.getD j false = true → F ls j (vs j) w
  cell : ls.getD p false = true → ∃ k, vs p = .pointer (some ⟨k, 0, none⟩) ∧ w0.heap.size ≤ k ∧ Blk w k T (if ls.getD q false = true then V else Z)

theorem wp_region_cell {id : Nat} {w0 : World} (n p q : Nat) (hm : P.follows .mixedOrders = true) (hB : factB l n = true) (hpq : (depB l q p && decide (p ≠ q) && decide (p < n) && decide (q < n)) = true)
    (T : TypeId) (Z V : List Value) (F : Array Bool → Nat → Value → World → Prop)
    (hF : ∀ ls i j v w w', i < n → i ≠ q → j ≠ i → ls.getD i true = false → Below w.heap.size w w' → F ls j v w → F (ls.setIfInBounds i true) j v w')
    (hQ : ∀ ls j v w w', (∀ a b, ls.getD a false = true → depB l a b = true → ls.getD b false = true) → (∀ b, depB l q b = true → ls.getD b false = true) → F ls j v w → F (ls.setIfInBounds q true) j v w')
    (hstep : ∀ i, i < n → i ≠ p → i ≠ q → ∀ (ls : Array Bool) (vs : Nat → Value) (w : World) (K : Act → World → Prop), Below w0.heap.size w0 w → (∀ j, j < n → j ≠ p → j ≠ q → depB l i j = true → F ls j (vs j) w) →
      (∀ v w', F (ls.setIfInBounds i true) i v w' → Below w.heap.size w w' → K ((fillF (l.take n) vs 0 a0).put ((l[i]?).bind (·.dst)) v) w') → (∀ a b, ls.getD a false = true → depB l a b = true → ls.getD b false = true) → (∀ j, depB l i j = true → ls.getD j false = true) → ls.getD i false = false → wpOp P l.toArray Q i K (fillF (l.take n) vs 0 a0) w)
    (hp : ∀ (vs : Nat → Value) (w : World) (K : Act → World → Prop), K ((fillF (l.take n) vs 0 a0).put ((l[p]?).bind (·.dst)) (.pointer (some ⟨w.heap.size, 0, none⟩))) (w.alloc (.cells Z.toArray T)) → wpOp P l.toArray Q p K (fillF (l.take n) vs 0 a0) w)
    (hq : ∀ (ls : Array Bool) (vs : Nat → Value) (w : World) (K : Act → World → Prop) (k : Nat), Below w0.heap.size w0 w → vs p = .pointer (some ⟨k, 0, none⟩) → w0.heap.size ≤ k → Blk w k T Z → (∀ j, j < n → j ≠ p → j ≠ q → depB l q j = true → F ls j (vs j) w) →
      (∀ v w', Blk w' k T V → Below w0.heap.size w0 w' → K ((fillF (l.take n) vs 0 a0).put ((l[q]?).bind (·.dst)) v) w') → wpOp P l.toArray Q q K (fillF (l.take n) vs 0 a0) w)
    (hdone : ∀ (ls : Array Bool) (vs : Nat → Value) (w : World) (k : Nat), Below w0.heap.size w0 w → vs p = .pointer (some ⟨k, 0, none⟩) → w0.heap.size ≤ k → Blk w k T V → (∀ j, j < n → j ≠ p → j ≠ q → F ls j (vs j) w) → wpList P l.toArray Q (l.drop n) (fillF (l.take n) vs 0 a0) w) :
    (Code.region id l.toArray true).wp P Q a0 w0 := by
  simp only [Bool.and_eq_true, decide_eq_true_eq] at hpq
  obtain ⟨⟨⟨hdep, hne⟩, hpn⟩, hqn⟩ := hpq
  refine wp_region_joined n hm hB (CelI n p q T Z V F w0) (fun vs => ?_) (fun i hi ls vs w K h hsz hun hcl hd hu hK => ?_) (fun ls vs w h hall => ?_)
  · have hno : ∀ (N j : Nat), (Array.replicate N false).getD j false = true → False := fun N j hh => by rw [getD_replicate_false] at hh; cases hh
    exact ⟨Below.drew (Below.refl _ _), fun j _ _ _ hl => (hno _ _ hl).elim, fun hl => (hno _ _ hl).elim⟩
  · have hset : (ls.setIfInBounds i true).getD i false = true := by simp [hsz]
    have hifalse : ls.getD i false = false := getD_both hun
    by_cases hip : i = p
    · subst hip
      have hqf : ls.getD q false = false := by
        cases h1 : ls.getD q false with
        | false => rfl
        | true => have h2 := hcl q i h1 hdep; rw [hifalse] at h2; cases h2
      have hba : Below w.heap.size w (w.alloc (.cells Z.toArray T)) := (Below.refl _ _).alloc (Nat.le_refl _) _
      refine hp vs w K (hK _ _ ⟨h.below.alloc h.below.size _, fun j hj h1 h2 hl => ?_, fun _ => ⟨_, by simp [upd], h.below.size, ?_⟩⟩)
      · have : upd vs i (.pointer (some ⟨w.heap.size, 0, none⟩)) j = vs j := by simp [upd, h1]
        rw [this]
        exact hF ls i j _ w _ hi hne h1 hun hba (h.facts j hj h1 h2 (getD_put_of (Ne.symm h1) hl))
      · rw [if_neg (by
          intro hh
          rw [getD_put_of hne hh] at hqf; cases hqf)]
        exact Blk.new w Z.toArray T
    by_cases hiq : i = q
    · subst hiq
      obtain ⟨k, e, hk, hz⟩ := h.cell (hd p hdep)
      rw [if_neg (by rw [hifalse]; decide)] at hz
      refine hq ls vs w K k h.below e hk hz (fun j hj h1 h2 hdj => h.facts j hj h1 h2 (hd j hdj)) (fun v w' hv hb => hK _ _ ⟨hb, fun j hj h1 h2 hl => ?_, fun _ => ⟨k, ?_, hk, ?_⟩⟩)
      · have : upd vs i v j = vs j := by simp [upd, h2]
        rw [this]
        exact hQ ls j _ w _ hcl hd (h.facts j hj h1 h2 (getD_put_of (Ne.symm h2) hl))
      · have : upd vs i v p = vs p := by simp [upd, hne]
        rw [this]; exact e
      · rw [if_pos hset]; exact hv
    · refine hstep i hi hip hiq ls vs w K h.below (fun j hj h1 h2 hdj => h.facts j hj h1 h2 (hd j hdj)) (fun v w' hv hb => hK _ _ ⟨h.below.trans (hb.mono h.below.size), fun j hj h1 h2 hl => ?_, fun hl => ?_⟩) hcl hd hifalse
      · by_cases hji : j = i
        · subst hji
          have : upd vs j v j = v := by simp [upd]
          rw [this]; exact hv
        · have : upd vs i v j = vs j := by simp [upd, hji]
          rw [this]
          exact hF ls i j _ w _ hi hiq hji hun hb (h.facts j hj h1 h2 (getD_put_of (Ne.symm hji) hl))
      · have hl' : ls.getD p false = true := getD_put_of (fun e => hip e) hl
        obtain ⟨k, e, hk, hz⟩ := h.cell hl'
        refine ⟨k, by simp [upd, Ne.symm hip]; exact e, hk, ?_⟩
        have e2 : ((ls.setIfInBounds i true).getD q false = true) = (ls.getD q false = true) := by
          rw [show (ls.setIfInBounds i true).getD q false = ls.getD q false by simp [hiq]]
        simp only [e2]
        exact hz.call hb
  · obtain ⟨k, e, hk, hz⟩ := h.cell (hall p hpn)
    rw [if_pos (hall q hqn)] at hz
    exact hdone ls vs w k h.below e hk hz (fun j hj h1 h2 => h.facts j hj h1 h2 (hall j hj))
end
end Go.Proofs.YtablacloabpjfabGreatDoor
namespace Go.Proofs.YtablacloabpjfabGreatDoor
open Go.RowKit
set_option linter.unusedVariables false
set_option maxRecDepth 100000

def cs1 : List Cl := [⟨nA, 2, true⟩]
def nullT : T := litT 0 0 0 []
def tX (o : Int) (left : Bool) : T := if left = true then opN o [nullT, colT nA] else opN o [colT nA, nullT]
theorem form_op1 {op : Int} {t : T} (ho : op = 17) (h : formT t = 0) : formT (opN op [t]) = 0 := by
  have e := nodeF_op op 1 (by omega) (by rw [ho]; rfl)
  show (if nodeF ⟨op, 0, 0, 0, [], []⟩ 1 ≠ 0 then nodeF ⟨op, 0, 0, 0, [], []⟩ 1 else formL [t]) = 0
  rw [e, if_neg (by decide)]
  simp only [formL]
  rw [h]; rfl
theorem form_op2 {op : Int} {t u : T} (ho : (5 ≤ op ∧ op ≤ 14) ∨ op = 20) (h : formT t = 0) (k : formT u = 0) : formT (opN op [t, u]) = 0 := by
  have e := nodeF_op op 2 (by omega) (by unfold partsN; rw [if_neg (by omega), if_neg (by omega)])
  show (if nodeF ⟨op, 0, 0, 0, [], []⟩ 2 ≠ 0 then nodeF ⟨op, 0, 0, 0, [], []⟩ 2 else formL [t, u]) = 0
  rw [e, if_neg (by decide)]
  simp only [formL]
  rw [h, k]; rfl
theorem form_colA : formT (colT nA) = 0 := leaf_form (cs := csAB) colsAB (k := 2) (.inl ⟨0, ⟨nA, 2, false⟩, rfl, rfl, rfl⟩)
theorem form_seven : formT (litT 2 7 0 []) = 0 := ty_form (cs := csAB) colsAB 1 2 _ (by decide) (tyNum _ 7 (by decide) (by decide))
theorem chk_null : chkV nulV = 0 := chkV_of 0 0 0 [] (by decide) (by decide) (by decide) (by simp [own, str_toList]) (by simp [good])
theorem form_null : formT nullT = 0 := by
  have hc : chk 0 0 0 (str []) = 0 := chk_null
  have e : nodeF ⟨1, 0, 0, 0, [], []⟩ 0 = 0 := by
    unfold nodeF nOk vOk
    simp [hc, partsN]
  show (if nodeF ⟨1, 0, 0, 0, [], []⟩ 0 ≠ 0 then nodeF ⟨1, 0, 0, 0, [], []⟩ 0 else formL []) = 0
  rw [e, if_neg (by decide)]; rfl
theorem form_tX (o : Int) (ho : 5 ≤ o ∧ o ≤ 14) (left : Bool) : formT (tX o left) = 0 := by
  unfold tX
  split
  · exact form_op2 (.inl ho) form_null form_colA
  · exact form_op2 (.inl ho) form_colA form_null
theorem size_tX (o : Int) (left : Bool) : (tX o left).deep = 2 ∧ (tX o left).size = 3 := by
  unfold tX
  split <;> exact ⟨rfl, rfl⟩
theorem ev_colN (v : Vl) : evT cs1 [v] (colT nA) = okE v := by
  simp only [colT, evT]; rw [if_neg (by decide), if_pos trivial]; rfl
theorem ev_nullT (v : Vl) : evT cs1 [v] nullT = okE nulV := rfl
theorem ev_tX (o i : Int) (ho : 5 ≤ o ∧ o ≤ 14) (left : Bool) : evT cs1 [intV i] (tX o left) = okE nulV := by
  unfold tX
  split
  · rw [ev_op2 _ _ o (by omega), ev_colN, ev_nullT]
    exact ev_null o ho _ _ (.inr ⟨rfl, rfl⟩)
  · rw [ev_op2 _ _ o (by omega), ev_colN, ev_nullT]
    exact ev_null o ho _ _ (.inl ⟨rfl, rfl⟩)
theorem ev_isX (o i : Int) (ho : 5 ≤ o ∧ o ≤ 14) (left : Bool) : evT cs1 [intV i] (opN 17 [tX o left]) = okE (booV true) := by
  rw [ev_op1 _ _ 17 (by decide), ev_tX o i ho]; rfl
theorem ev_coX (o i : Int) (ho : 5 ≤ o ∧ o ≤ 14) (left : Bool) : evT cs1 [intV i] (opN 20 [tX o left, litT 2 7 0 []]) = okE (intV 7) := by
  rw [ev_op2 _ _ 20 (by decide), ev_tX o i ho]; rfl
theorem row1_ok (i : Int) : rowR [intV i] cs1 = 0 := by
  have hc : colsR cs1 = 0 := by decide
  have h1 : chkV (intV i) = 0 := chkV_of 2 i 0 [] (by decide) (by decide) (by decide) (by simp [own, str_toList]) (by simp [good])
  have h2 : cellF (intV i) ⟨nA, 2, true⟩ = 0 := by
    unfold cellF; rw [h1, if_neg (by decide)]; exact if_pos rfl
  unfold rowR
  rw [hc, if_neg (by decide), if_neg (by simp [cs1])]
  show (if cellF (intV i) ⟨nA, 2, true⟩ ≠ 0 then _ else (0 : Int)) = 0
  rw [h2, if_neg (by decide)]
theorem eval_one (t : T) (hf : formT t = 0) (h7 : t.deep ≤ 7) (h40 : t.size ≤ 40) (i : Int) (R : RE) (hR : evT cs1 [intV i] t = R) (ao : Option Addr) (cap g1 g2 : Nat) (w w0 : World) (hX : XEnv w0) (hC : Cols w0 (some ⟨g1, 0, none⟩) cs1) (hV : Vals w0 (some ⟨g2, 0, none⟩) [intV i]) (hb : Below w0.heap.size w0 w) (hT : XT w t ao cap) :
    Calls Tryz.prog 20 #[exprV t ao cap, .slice (some ⟨g1, 0, none⟩) 1 1, .slice (some ⟨g2, 0, none⟩) 1 1] w fun e w' => e = .returned (.tuple #[valV R.v, .int .i64 R.f]) ∧ Below w.heap.size w w' := by
  have := eval_any t ao cap cs1 (some ⟨g1, 0, none⟩) 1 [intV i] (some ⟨g2, 0, none⟩) 1 w ⟨hT.A, hT.n1, hT.n2, hC.keep hb, (by show 1 ≤ 1; omega), (by decide), hV.keep hb, (by show 1 ≤ 1; omega), (by decide), hX.keep hb⟩
  rw [evalR_ok _ _ _ ((exprR_small t h7 h40).trans hf) (row1_ok i), hR] at this
  exact this
theorem cols_one {w : World} {g : Nat} {T : TypeId} (hB : Blk w g T [.string (str nA), .int .i64 2, .bool true]) : Cols w (some ⟨g, 0, none⟩) cs1 := by
  refine ⟨fun c hc => ?_, .inr ⟨g, 0, rfl, hB.lt, fun j c hc => ?_⟩⟩
  · simp only [cs1, List.mem_cons, List.not_mem_nil, or_false] at hc
    rcases hc with rfl; exact ⟨by decide, by decide, by decide⟩
  · match j, hc with
    | 0, hc =>
      simp only [cs1, List.getElem?_cons_zero, Option.some.injEq] at hc
      subst hc
      exact ⟨hB.cell rfl, hB.cell rfl, hB.cell rfl⟩
    | j + 1, hc => simp [cs1] at hc
theorem vals_one {w : World} {g : Nat} {T : TypeId} {i : Int} (hi : in64 i) (hB : Blk w g T [.int .i64 2, .int .i64 i, .int .u64 0, .string ⟨#[]⟩]) : Vals w (some ⟨g, 0, none⟩) [intV i] := by
  refine ⟨fun c hc => ?_, .inr ⟨g, 0, rfl, hB.lt, fun j c hc => ?_⟩⟩
  · simp only [List.mem_cons, List.not_mem_nil, or_false] at hc
    rcases hc with rfl
    exact ⟨hi.1, hi.2, (by show (0 : Int) ≤ 0; decide), (by show (0 : Int) ≤ _; decide), Nat.zero_le _⟩
  · match j, hc with
    | 0, hc =>
      simp only [List.getElem?_cons_zero, Option.some.injEq] at hc
      subst hc
      exact ⟨hB.cell rfl, hB.cell rfl, hB.cell rfl, hB.cell rfl⟩
    | j + 1, hc => simp at hc
theorem val_int {v : V} (hk : v.k = 2) (hf : v.Fits) (hc : v.chk = 0) : v.b = 0 ∧ v.s = ⟨#[]⟩ ∧ in64 v.i := by
  unfold V.chk chk at hc
  rw [hk] at hc
  split at hc
  · cases hc
  split at hc
  · cases hc
  split at hc
  · rename_i h
    simp [own] at h
    have h1 := h.1
    refine ⟨h1.1, ?_, hf.i0, hf.i1⟩
    have h2 : v.s.data.toList = [] := by rw [Lib.toList_data] at h1; exact h1.2
    have h3 : v.s.data = #[] := Array.toList_eq_nil_iff.1 h2
    exact ByteArray.ext h3
  · cases hc
def NullsF (TX : T) (m : Int) (GT gC gV : Nat) : Array Bool → Nat → Value → World → Prop
  | _, 0, v, _ => v = .agg #[.int .i64 (5 + m), .int .i64 0, .int .i64 0, .int .u64 0, .string ⟨#[]⟩, .string ⟨#[]⟩, .slice (some ⟨GT, 0, none⟩) 2 2]
  | _, 1, v, _ => v = .agg #[.int .i64 1, .int .i64 2, .int .i64 7, .int .u64 0, .string ⟨#[]⟩, .string ⟨#[]⟩, .slice none 0 0]
  | ls, 2, v, w => ls.getD 5 false = true ∨ ∃ k, v = .agg #[.int .i64 20, .int .i64 0, .int .i64 0, .int .u64 0, .string ⟨#[]⟩, .string ⟨#[]⟩, .slice (some ⟨k, 0, none⟩) 2 2] ∧ Hid (XT w (opN 20 [TX, litT 2 7 0 []]) (some ⟨k, 0, none⟩) 2)
  | _, 3, v, _ => v = .slice (some ⟨gC, 0, none⟩) 1 1
  | _, 4, v, _ => v = .slice (some ⟨gV, 0, none⟩) 1 1
  | _, 5, v, _ => v = .tuple #[.agg #[.int .i64 2, .int .i64 7, .int .u64 0, .string ⟨#[]⟩], .int .i64 0]
  | _, 6, v, _ => v = .tuple #[.agg #[.int .i64 2, .int .i64 7, .int .u64 0, .string ⟨#[]⟩], .int .i64 0]
  | _, 7, v, _ => v = .agg #[.int .i64 2, .int .i64 7, .int .u64 0, .string ⟨#[]⟩]
  | _, 8, v, _ => v = .int .i64 0
  | _, 9, _, _ => True
  | _, 10, _, _ => True
  | _, _, _, _ => True
set_option maxHeartbeats 16000000 in
theorem evalNulls_core (op ka aa ba : Int) (sa : ByteArray) (left : Bool) (w : World) (ho0 : -9223372036854775808 ≤ op) (ho1 : op ≤ 9223372036854775807) (ha0 : -9223372036854775808 ≤ aa) (ha1 : aa ≤ 9223372036854775807) (hX : XEnv w) :
    Calls Tryz.prog 7 #[.int .i64 op, .agg #[.int .i64 ka, .int .i64 aa, .int .i64 ba, .string sa], .bool left] w fun e w' => e = .returned (.bool true) ∧ Below w.heap.size w w' := by
  have cP := fun W => picked_any op 10 W (by decide) (by decide) ho0 ho1
  have hm0 := Int.emod_nonneg op (show (10 : Int) ≠ 0 by decide)
  have hm1 := Int.emod_lt_of_pos op (show (0 : Int) < 10 by decide)
  generalize op % 10 = m at *
  have hwo : wrap64 (5 + m) = 5 + m := wrap64_in (by unfold inI; omega)
  have hwo2 : IntKind.i64.wrap (5 + m) = 5 + m := by rw [IntKind.wrap_i64]; omega
  have hor : 5 ≤ 5 + m ∧ 5 + m ≤ 14 := by omega
  have hop : 0 ≤ 5 + m ∧ 5 + m ≤ 100 := by omega
  have hVo := fun W => valOf_any 2 ka aa ba sa W (by decide) (by decide) ha0 ha1
  unfold ValOk at hVo
  have HVO := Lib.hid hVo
  have cN0 := fun W => knum_any 7 W
  have xN := fun W => xt_leaf W _ (fit_lit 0 0 0 [] (by decide) (by decide) (by decide) (by decide))
  have cO : ∀ W, Calls Tryz.prog 24 #[.int .i64 (5 + m), exprV (colT nA) none 0, exprV nullT none 0] W (Op2Ok (5 + m) (colT nA) nullT W) := fun W => op2_lit (5 + m) hop (colT nA) nullT none none 0 0 W (xt_col W nA (by decide)) (xN W)
  have cO' : ∀ W, Calls Tryz.prog 24 #[.int .i64 (5 + m), exprV nullT none 0, exprV (colT nA) none 0] W (fun e w' => ∃ g, e = .returned (.agg #[.int .i64 (5 + m), .int .i64 0, .int .i64 0, .int .u64 0, .string ⟨#[]⟩, .string ⟨#[]⟩, .slice (some ⟨g, 0, none⟩) 2 2]) ∧ Hid (Blk w' g 27 (xcells nullT none 0 ++ xcells (colT nA) none 0)) ∧ W.heap.size ≤ g ∧ Below W.heap.size W w') := fun W => (op2_any (5 + m) hop nullT (colT nA) none none 0 0 W (xN W) (xt_col W nA (by decide))).mono fun e w' ⟨g, h1, _, h3, h4, h5⟩ => ⟨g, h1, Lib.hid h5, h3, h4⟩
  have cI : ∀ W g, XT W (tX (5 + m) left) (some ⟨g, 0, none⟩) 2 → Calls Tryz.prog 29 #[.int .i64 17, opV (5 + m) g 2] W (Op1Ok 17 (tX (5 + m) left) W) := fun W g h => by
    have := op1_lit 17 (by decide) (tX (5 + m) left) (some ⟨g, 0, none⟩) 2 W h
    cases left <;> exact this
  have cC : ∀ W g, XT W (tX (5 + m) left) (some ⟨g, 0, none⟩) 2 → Calls Tryz.prog 24 #[.int .i64 20, opV (5 + m) g 2, numV 7] W (Op2Ok 20 (tX (5 + m) left) (litT 2 7 0 []) W) := fun W g h => by
    have := op2_lit 20 (by decide) (tX (5 + m) left) (litT 2 7 0 []) (some ⟨g, 0, none⟩) none 2 0 W h (xt_num W 7 (by decide))
    cases left <;> exact this
  have hsz := size_tX (5 + m) left
  have hft := form_tX (5 + m) hor left
  have hE1 : ∀ (i : Int) (g1 g2 g : Nat) (W w0 : World), XEnv w0 → Cols w0 (some ⟨g1, 0, none⟩) cs1 → Vals w0 (some ⟨g2, 0, none⟩) [intV i] → Below w0.heap.size w0 W → XT W (tX (5 + m) left) (some ⟨g, 0, none⟩) 2 → Calls Tryz.prog 20 #[opV (5 + m) g 2, .slice (some ⟨g1, 0, none⟩) 1 1, .slice (some ⟨g2, 0, none⟩) 1 1] W fun e w' => e = .returned (.tuple #[valV nulV, .int .i64 0]) ∧ Below W.heap.size W w' := fun i g1 g2 g W w0 hX hC hV hb hT => by
    have := eval_one (tX (5 + m) left) hft (by omega) (by omega) i _ (ev_tX (5 + m) i hor left) (some ⟨g, 0, none⟩) 2 g1 g2 W w0 hX hC hV hb hT
    cases left <;> exact this
  have hE2 : ∀ (i : Int) (g1 g2 g : Nat) (W w0 : World), XEnv w0 → Cols w0 (some ⟨g1, 0, none⟩) cs1 → Vals w0 (some ⟨g2, 0, none⟩) [intV i] → Below w0.heap.size w0 W → XT W (opN 17 [tX (5 + m) left]) (some ⟨g, 0, none⟩) 1 → Calls Tryz.prog 20 #[opV 17 g 1, .slice (some ⟨g1, 0, none⟩) 1 1, .slice (some ⟨g2, 0, none⟩) 1 1] W fun e w' => e = .returned (.tuple #[valV (booV true), .int .i64 0]) ∧ Below W.heap.size W w' := fun i g1 g2 g W w0 hX hC hV hb hT =>
    eval_one (opN 17 [tX (5 + m) left]) (form_op1 rfl hft) (by simp only [opN, T.deep, deepL]; omega) (by simp only [opN, T.size, sizeL]; omega) i _ (ev_isX (5 + m) i hor left) (some ⟨g, 0, none⟩) 1 g1 g2 W w0 hX hC hV hb hT
  have hE3 : ∀ (i : Int) (g1 g2 g : Nat) (W w0 : World), XEnv w0 → Cols w0 (some ⟨g1, 0, none⟩) cs1 → Vals w0 (some ⟨g2, 0, none⟩) [intV i] → Below w0.heap.size w0 W → XT W (opN 20 [tX (5 + m) left, litT 2 7 0 []]) (some ⟨g, 0, none⟩) 2 → Calls Tryz.prog 20 #[opV 20 g 2, .slice (some ⟨g1, 0, none⟩) 1 1, .slice (some ⟨g2, 0, none⟩) 1 1] W fun e w' => e = .returned (.tuple #[valV (intV 7), .int .i64 0]) ∧ Below W.heap.size W w' := fun i g1 g2 g W w0 hX hC hV hb hT =>
    eval_one (opN 20 [tX (5 + m) left, litT 2 7 0 []]) (form_op2 (.inr rfl) hft form_seven) (by simp only [opN, litT, T.deep, deepL]; omega) (by simp only [opN, litT, T.size, sizeL]; omega) i _ (ev_coX (5 + m) i hor left) (some ⟨g, 0, none⟩) 2 g1 g2 W w0 hX hC hV hb hT
  unfold valV nulV at hE1
  unfold valV booV at hE2
  unfold valV intV at hE3
  rw [str_nil] at hE1 hE2 hE3
  simp only [if_true] at hE2
  unfold opV at hE1 hE2 hE3 cI cC
  unfold numV at cC cN0
  have HE1 := Lib.hid hE1
  have HE2 := Lib.hid hE2
  have HE3 := Lib.hid hE3
  have HI := Lib.hid cI
  have HC0 := Lib.hid cC
  have HX := Lib.hid hX
  have hN1 : exprV (colT nA) none 0 = .agg #[.int .i64 2, .int .i64 0, .int .i64 0, .int .u64 0, .string ⟨#[]⟩, .string (str nA), .slice none 0 0] := rfl
  have hN2 : exprV nullT none 0 = .agg #[.int .i64 1, .int .i64 0, .int .i64 0, .int .u64 0, .string ⟨#[]⟩, .string ⟨#[]⟩, .slice none 0 0] := rfl
  rw [hN1, hN2] at cO cO'
  have hNA : str nA = ⟨#[97]⟩ := rfl
  rw [hNA] at cO cO'
  have HO' := Lib.hid cO'
  clear hE1 hE2 hE3 cI cC hX xN hsz hft hVo hN1 hN2 cO' hNA
  obtain ⟨zR, zV, zN, hb03⟩ := three_new w #[.int .i64 ka, .int .i64 aa, .int .i64 ba, .string sa] #[.int .i64 2, .int .i64 0, .int .i64 0, .int .u64 0, .string ⟨#[]⟩, .string ⟨#[97]⟩, .slice none 0 0] #[.int .i64 1, .int .i64 0, .int .i64 0, .int .u64 0, .string ⟨#[]⟩, .string ⟨#[]⟩, .slice none 0 0] 54 27 27
  generalize hw3 : ((w.alloc (.cells #[.int .i64 ka, .int .i64 aa, .int .i64 ba, .string sa] 54)).alloc (.cells #[.int .i64 2, .int .i64 0, .int .i64 0, .int .u64 0, .string ⟨#[]⟩, .string ⟨#[97]⟩, .slice none 0 0] 27)).alloc (.cells #[.int .i64 1, .int .i64 0, .int .i64 0, .int .u64 0, .string ⟨#[]⟩, .string ⟨#[]⟩, .slice none 0 0] 27) = w3 at *
  have HW := Lib.hid hw3
  clear hw3
  go_enter Tryz.func7, Tryz.ntmps7
  go_wp2_with fail
  refine (cP _).mono ?_
  rintro e w' ⟨rfl, rfl⟩
  go_upto_region 4 with fail
  rw [HW.out]
  clear HW cP
  obtain ⟨p0, p1, p2, p3, p4, p5, p6⟩ := zV.cells7
  obtain ⟨r0, r1, r2, r3, r4, r5, r6⟩ := zN.cells7
  generalize w.heap.size + 1 + 1 = gN at *
  generalize w.heap.size + 1 = gv at *
  have hgR0 : ∃ gR, w.heap.size = gR := ⟨_, rfl⟩
  obtain ⟨gR, hgR⟩ := hgR0
  rw [hgR] at zR ⊢
  go_wp2_with fail
  refine (cO _).mono ?_
  rintro e w4 ⟨g4, rfl, hT4, hb4⟩
  have hb04 := below_stepE hb03 hb03.size hb4
  have zR4 := (zR.call hb4).alloc (.cells #[.int .i64 (5 + m), .int .i64 0, .int .i64 0, .int .u64 0, .string ⟨#[]⟩, .string ⟨#[]⟩, .slice (some ⟨g4, 0, none⟩) 2 2] 27)
  have zV4 := (zV.call hb4).alloc (.cells #[.int .i64 (5 + m), .int .i64 0, .int .i64 0, .int .u64 0, .string ⟨#[]⟩, .string ⟨#[]⟩, .slice (some ⟨g4, 0, none⟩) 2 2] 27)
  have zN4 := (zN.call hb4).alloc (.cells #[.int .i64 (5 + m), .int .i64 0, .int .i64 0, .int .u64 0, .string ⟨#[]⟩, .string ⟨#[]⟩, .slice (some ⟨g4, 0, none⟩) 2 2] 27)
  have zX5 := Blk.new w4 #[.int .i64 (5 + m), .int .i64 0, .int .i64 0, .int .u64 0, .string ⟨#[]⟩, .string ⟨#[]⟩, .slice (some ⟨g4, 0, none⟩) 2 2] 27
  have hbx := (Below.refl w4.heap.size w4).alloc (Nat.le_refl _) (.cells #[.int .i64 (5 + m), .int .i64 0, .int .i64 0, .int .u64 0, .string ⟨#[]⟩, .string ⟨#[]⟩, .slice (some ⟨g4, 0, none⟩) 2 2] 27)
  have hT5 := Lib.hid (hT4.out.keep hbx)
  have hb05 := hb04.alloc hb04.size (.cells #[.int .i64 (5 + m), .int .i64 0, .int .i64 0, .int .u64 0, .string ⟨#[]⟩, .string ⟨#[]⟩, .slice (some ⟨g4, 0, none⟩) 2 2] 27)
  have hgRX := (zR.call hb4).lt
  clear p0 p1 p2 p3 p4 p5 p6 r0 r1 r2 r3 r4 r5 r6 cO zR zV zN hb03 hb4 hbx hT4
  go_upto_region 5 with fail
  generalize hw5 : w4.alloc (.cells #[.int .i64 (5 + m), .int .i64 0, .int .i64 0, .int .u64 0, .string ⟨#[]⟩, .string ⟨#[]⟩, .slice (some ⟨g4, 0, none⟩) 2 2] 27) = w5 at *
  have hb04s := hb04.size
  clear hw5 hb04
  have hgX : w.heap.size ≤ w4.heap.size := hb04s
  generalize w4.heap.size = gX at *
  cases left with
  | false =>
    have zX := zX5
    have zRr := zR4
    have HTx : Hid (XT w5 (tX (5 + m) false) (some ⟨g4, 0, none⟩) 2) := Lib.hid hT5.out
    clear hT5 zV4 zN4 zX5 zR4 HO' hgRX hgX hb04s
    generalize hTX : tX (5 + m) false = TX at *
    go_upto_region 7 with fail
    have zC := Blk.new w5 #[.string ⟨#[97]⟩, .int .i64 2, .bool true] 57
    have hbc := (Below.refl w5.heap.size w5).alloc (Nat.le_refl _) (.cells #[.string ⟨#[97]⟩, .int .i64 2, .bool true] 57)
    have hb8 := hb05.alloc hb05.size (.cells #[.string ⟨#[97]⟩, .int .i64 2, .bool true] 57)
    have zX8 := zX.call hbc
    have zR8 := zRr.call hbc
    have HT8 := Lib.hid (HTx.out.keep hbc)
    go_upto_region 8 with fail
    generalize hw8 : w5.alloc (.cells #[.string ⟨#[97]⟩, .int .i64 2, .bool true] 57) = w8 at *
    clear hw8 hbc zX zRr HTx hb05
    generalize w5.heap.size = gC at *
    obtain ⟨⟨p0, p1, p2, p3⟩, _⟩ := zR8.four
    go_wp2_with fail
    refine (HVO.out _).mono ?_
    rintro e w9 ⟨v, hvk, hvf, hvc, rfl, hb9⟩
    obtain ⟨hvb, hvs, hvi⟩ := val_int hvk hvf hvc
    obtain ⟨k0, i, b0, s0⟩ := v
    simp only at hvk hvb hvs hvi
    subst hvk hvb hvs
    clear HVO hvf hvc p0 p1 p2 p3
    have zX9 := (zX8.call hb9).alloc (.cells #[.int .i64 2, .int .i64 i, .int .u64 0, .string ⟨#[]⟩] 24)
    have zC9 := (zC.call hb9).alloc (.cells #[.int .i64 2, .int .i64 i, .int .u64 0, .string ⟨#[]⟩] 24)
    have zV := Blk.new w9 #[.int .i64 2, .int .i64 i, .int .u64 0, .string ⟨#[]⟩] 24
    have hbv := hb9.alloc hb9.size (.cells #[.int .i64 2, .int .i64 i, .int .u64 0, .string ⟨#[]⟩] 24)
    have HT9 := Lib.hid (HT8.out.keep hbv)
    have hb10 := below_stepE hb8 hb8.size hbv
    go_upto_region 9 with fail
    generalize hw10 : w9.alloc (.cells #[.int .i64 2, .int .i64 i, .int .u64 0, .string ⟨#[]⟩] 24) = w10 at *
    clear hw10 hb9 zX8 zC zR8 HT8 hb8 hbv
    generalize w9.heap.size = gV at *
    have HX10 := Lib.hid (HX.out.keep hb10)
    have HCx := Lib.hid (cols_one zC9)
    have HVx := Lib.hid (vals_one hvi zV)
    clear zC9 zV hvi HX
    have c1 := HE1.out i gC gV g4 w10 w10 HX10.out HCx.out HVx.out (Below.refl _ _) HT9.out
    obtain ⟨p0, p1, p2, p3, p4, p5, p6⟩ := zX9.cells7
    go_wp2_with fail
    refine c1.mono ?_
    rintro e w11 ⟨rfl, hb11⟩
    clear c1 p0 p1 p2 p3 p4 p5 p6 HE1
    have zW := Blk.new w11 #[.int .i64 0, .int .i64 0, .int .u64 0, .string ⟨#[]⟩] 24
    have hbw := hb11.alloc hb11.size (.cells #[.int .i64 0, .int .i64 0, .int .u64 0, .string ⟨#[]⟩] 24)
    have zX12 := zX9.call hbw
    have HT12 := Lib.hid (HT9.out.keep hbw)
    go_upto_region 10 with fail
    generalize hw12 : w11.alloc (.cells #[.int .i64 0, .int .i64 0, .int .u64 0, .string ⟨#[]⟩] 24) = w12 at *
    clear hw12 hb11 zX9 HT9
    generalize w11.heap.size = gW at *
    obtain ⟨p0, p1, p2, p3, p4, p5, p6⟩ := zX12.cells7
    go_wp2_with fail
    refine (HI.out _ _ HT12.out).mono ?_
    rintro e w13 ⟨g13, rfl, hT13, hb13⟩
    have hb1013 := below_stepE hbw hbw.size hb13
    have c2 := HE2.out i gC gV g13 w13 w10 HX10.out HCx.out HVx.out hb1013 hT13.out
    clear p0 p1 p2 p3 p4 p5 p6 HI HE2 hT13
    go_wp2_with fail
    refine c2.mono ?_
    rintro e w14 ⟨rfl, hb14⟩
    have hb1014 := below_stepE hb1013 hb1013.size hb14
    have hby0 := below_stepE hb13 hb13.size hb14
    have zY := Blk.new w14 #[.int .i64 1, .int .i64 1, .int .u64 0, .string ⟨#[]⟩] 24
    have hby := hby0.alloc hby0.size (.cells #[.int .i64 1, .int .i64 1, .int .u64 0, .string ⟨#[]⟩] 24)
    have zX := zX12.call hby
    have zW15 := zW.call hby
    have HT := Lib.hid (HT12.out.keep hby)
    have hb1015 := hb1014.alloc hb1014.size (.cells #[.int .i64 1, .int .i64 1, .int .u64 0, .string ⟨#[]⟩] 24)
    clear c2
    go_upto_region 11 with fail
    generalize hw15 : w14.alloc (.cells #[.int .i64 1, .int .i64 1, .int .u64 0, .string ⟨#[]⟩] 24) = w15 at *
    clear hw15 hb14 hb13 hb1013 hb1014 hby0 hby zX12 zW HT12 hbw
    generalize w14.heap.size = gY at *
    have HCo := HC0
    have HE3' := Lib.hid (fun W k (hW : Below w15.heap.size w15 W) (hT : XT W (opN 20 [TX, litT 2 7 0 []]) (some ⟨k, 0, none⟩) 2) => HE3.out i gC gV k W w10 HX10.out HCx.out HVx.out (below_stepE hb1015 hb1015.size hW) hT)
    clear HE3 HC0
    refine wp_region_cell 11 9 10 (by kernel_rfl) (by kernel_rfl) (by kernel_rfl) 24 [.int .i64 0, .int .i64 0, .int .u64 0, .string ⟨#[]⟩] [.int .i64 2, .int .i64 7, .int .u64 0, .string ⟨#[]⟩] (NullsF TX m g4 gC gV) ?hF ?hQ ?hstep ?hp ?hq ?hdone
    case hF =>
      intro ls i j v W W' hi hiq hji hun hb h
      match j, h with
      | 0, h => exact h
      | 1, h => exact h
      | 2, h =>
        rcases h with h | ⟨k, h1, h2⟩
        · exact .inl (getD_put_true h)
        · exact .inr ⟨k, h1, Lib.hid (h2.out.keep hb)⟩
      | 3, h => exact h
      | 4, h => exact h
      | 5, h => exact h
      | 6, h => exact h
      | 7, h => exact h
      | 8, h => exact h
      | 9, h => exact h
      | 10, h => exact h
      | j + 11, h => exact h
    case hQ =>
      intro ls j v W W' hcl hd h
      match j, h with
      | 0, h => exact h
      | 1, h => exact h
      | 2, h => exact .inl (getD_put_true (hcl 6 5 (hcl 7 6 (hd 7 (by kernel_rfl)) (by kernel_rfl)) (by kernel_rfl)))
      | 3, h => exact h
      | 4, h => exact h
      | 5, h => exact h
      | 6, h => exact h
      | 7, h => exact h
      | 8, h => exact h
      | 9, h => exact h
      | 10, h => exact h
      | j + 11, h => exact h
    case hstep =>
      intro j hj hnp hnq ls vs W K hst hf hK hcl hd hun
      simp only [fillF, Act.put, List.take_succ_cons, List.take_zero, List.setIfInBounds_toArray, List.set_cons_zero, List.set_cons_succ] at hK ⊢
      obtain ⟨q0, q1, q2, q3, q4, q5, q6⟩ := (zX.call hst).cells7
      rcases (show j = 0 ∨ j = 1 ∨ j = 2 ∨ j = 3 ∨ j = 4 ∨ j = 5 ∨ j = 6 ∨ j = 7 ∨ j = 8 ∨ j = 9 ∨ j = 10 by omega) with rfl | rfl | rfl | rfl | rfl | rfl | rfl | rfl | rfl | rfl | rfl
      · refine wpOp_step rfl (fun K' hK' => ?_)
        go_simp
        exact hK' _ _ (hK _ _ rfl (Below.refl _ _))
      · refine wpOp_step rfl (fun K' hK' => ?_)
        go_simp
        refine (cN0 W).mono ?_
        rintro e W' ⟨rfl, hbc⟩
        go_simp
        exact hK' _ _ (hK _ _ rfl hbc)
      · have e0 : vs 0 = .agg #[.int .i64 (5 + m), .int .i64 0, .int .i64 0, .int .u64 0, .string ⟨#[]⟩, .string ⟨#[]⟩, .slice (some ⟨g4, 0, none⟩) 2 2] := hf 0 (by decide) (by decide) (by decide) (by kernel_rfl)
        have e1 : vs 1 = .agg #[.int .i64 1, .int .i64 2, .int .i64 7, .int .u64 0, .string ⟨#[]⟩, .string ⟨#[]⟩, .slice none 0 0] := hf 1 (by decide) (by decide) (by decide) (by kernel_rfl)
        simp only [e0, e1] at hK ⊢
        refine wpOp_step rfl (fun K' hK' => ?_)
        go_simp
        refine (HCo.out W g4 (HT.out.keep hst)).mono ?_
        rintro e W' ⟨k, rfl, hT, hbc⟩
        go_simp
        exact hK' _ _ (hK _ _ (.inr ⟨k, rfl, hT⟩) hbc)
      · refine wpOp_step rfl (fun K' hK' => ?_)
        go_simp
        exact hK' _ _ (hK _ _ rfl (Below.refl _ _))
      · refine wpOp_step rfl (fun K' hK' => ?_)
        go_simp
        exact hK' _ _ (hK _ _ rfl (Below.refl _ _))
      · obtain ⟨k2, e2, y2⟩ := (hf 2 (by decide) (by decide) (by decide) (by kernel_rfl)).resolve_left (fun hh => by rw [hun] at hh; cases hh)
        have e3 : vs 3 = .slice (some ⟨gC, 0, none⟩) 1 1 := hf 3 (by decide) (by decide) (by decide) (by kernel_rfl)
        have e4 : vs 4 = .slice (some ⟨gV, 0, none⟩) 1 1 := hf 4 (by decide) (by decide) (by decide) (by kernel_rfl)
        simp only [e2, e3, e4] at hK ⊢
        refine wpOp_step rfl (fun K' hK' => ?_)
        go_simp
        refine (HE3'.out W k2 hst y2.out).mono ?_
        rintro e W' ⟨rfl, hbc⟩
        go_simp
        exact hK' _ _ (hK _ _ rfl hbc)
      · have e5 : vs 5 = .tuple #[.agg #[.int .i64 2, .int .i64 7, .int .u64 0, .string ⟨#[]⟩], .int .i64 0] := hf 5 (by decide) (by decide) (by decide) (by kernel_rfl)
        simp only [e5] at hK ⊢
        refine wpOp_step rfl (fun K' hK' => ?_)
        go_simp
        exact hK' _ _ (hK _ _ rfl (Below.refl _ _))
      · have e6 : vs 6 = .tuple #[.agg #[.int .i64 2, .int .i64 7, .int .u64 0, .string ⟨#[]⟩], .int .i64 0] := hf 6 (by decide) (by decide) (by decide) (by kernel_rfl)
        simp only [e6] at hK ⊢
        refine wpOp_step rfl (fun K' hK' => ?_)
        go_simp
        exact hK' _ _ (hK _ _ rfl (Below.refl _ _))
      · have e6 : vs 6 = .tuple #[.agg #[.int .i64 2, .int .i64 7, .int .u64 0, .string ⟨#[]⟩], .int .i64 0] := hf 6 (by decide) (by decide) (by decide) (by kernel_rfl)
        simp only [e6] at hK ⊢
        refine wpOp_step rfl (fun K' hK' => ?_)
        go_simp
        exact hK' _ _ (hK _ _ rfl (Below.refl _ _))
      · exact (hnp rfl).elim
      · exact (hnq rfl).elim
    case hp =>
      intro vs W K hK
      simp only [fillF, Act.put, List.take_succ_cons, List.take_zero, List.setIfInBounds_toArray, List.set_cons_zero, List.set_cons_succ] at hK ⊢
      refine wpOp_step rfl (fun K' hK' => ?_)
      go_simp
      exact hK' _ _ hK
    case hq =>
      intro ls vs W K k hst ek hk hz hf hK
      simp only [fillF, Act.put, List.take_succ_cons, List.take_zero, List.setIfInBounds_toArray, List.set_cons_zero, List.set_cons_succ] at hK ⊢
      have e7 : vs 7 = .agg #[.int .i64 2, .int .i64 7, .int .u64 0, .string ⟨#[]⟩] := hf 7 (by decide) (by decide) (by decide) (by kernel_rfl)
      simp only [e7] at hK ⊢
      simp only [ek] at hK ⊢
      obtain ⟨⟨p0, p1, p2, p3⟩, f0, f1, f2, f3⟩ := hz.four
      refine wpOp_step rfl (fun K' hK' => ?_)
      go_simp
      exact hK' _ _ (hK undef _ hz.set4 (below_set4 hst hk))
    intro ls vs W gZ hst ek hk zZ hf
    simp only [fillF, Act.put, List.take_succ_cons, List.take_zero, List.drop_succ_cons, List.drop_zero, List.setIfInBounds_toArray, List.set_cons_zero, List.set_cons_succ]
    have e8 : vs 8 = .int .i64 0 := hf 8 (by decide) (by decide) (by decide)
    clear hf HCo HE3' HT zX cN0
    simp only [ek, e8]
    clear ek e8
    have hbE := below_stepE hb10 hb10.size (below_stepE hb1015 hb1015.size hst)
    obtain ⟨⟨p0, p1, p2, p3⟩, _⟩ := zZ.four
    obtain ⟨⟨q0, q1, q2, q3⟩, _⟩ := (zY.call hst).four
    obtain ⟨⟨r0, r1, r2, r3⟩, _⟩ := (zW15.call hst).four
    clear hst hk zZ zY zW15 hb1015 hb10 HX10 HCx HVx
    generalize vs 0 = x0
    generalize vs 1 = x1
    generalize vs 2 = x2
    generalize vs 3 = x3
    generalize vs 4 = x4
    generalize vs 5 = x5
    generalize vs 6 = x6
    generalize vs 7 = x7
    generalize vs 10 = x10
    go_wp2_with fail
    go_ret
    exact ⟨by simp, hbE⟩
  | true =>
    obtain ⟨p0, p1, p2, p3, p4, p5, p6⟩ := zV4.cells7
    obtain ⟨r0, r1, r2, r3, r4, r5, r6⟩ := zN4.cells7
    go_wp2_with fail
    refine (HO'.out _).mono ?_
    rintro e w6 ⟨g6, rfl, hB6, hg6, hb6⟩
    have zX6 := zX5.call hb6
    have hne : g6 ≠ gX := by have := zX5.lt; omega
    have hneR : gR ≠ gX := by omega
    obtain ⟨s0, s1, s2, s3, s4, s5, s6⟩ := zX6.cells7
    have f0 := zX6.free 0
    have f1 := zX6.free 1
    have f2 := zX6.free 2
    have f3 := zX6.free 3
    have f4 := zX6.free 4
    have f5 := zX6.free 5
    have f6 := zX6.free 6
    have hb06 := below_stepE hb05 hb05.size hb6
    have zR6 := zR4.call hb6
    clear p0 p1 p2 p3 p4 p5 p6 r0 r1 r2 r3 r4 r5 r6 hb05 hb6 zV4 zN4 zX5 zR4 HO' hT5 hg6
    obtain ⟨w7, hw7⟩ : ∃ W, (((((((w6.setCell ⟨gX, 0, none⟩ (.int .i64 (5 + m))).setCell ⟨gX, 1, none⟩ (.int .i64 0)).setCell ⟨gX, 2, none⟩ (.int .i64 0)).setCell ⟨gX, 3, none⟩ (.int .u64 0)).setCell ⟨gX, 4, none⟩ (.string ⟨#[]⟩)).setCell ⟨gX, 5, none⟩ (.string ⟨#[]⟩)).setCell ⟨gX, 6, none⟩ (.slice (some ⟨g6, 0, none⟩) 2 2)) = W := ⟨_, rfl⟩
    have zX := zX6.set7 (a0 := .int .i64 (5 + m)) (a1 := .int .i64 0) (a2 := .int .i64 0) (a3 := .int .u64 0) (a4 := .string ⟨#[]⟩) (a5 := .string ⟨#[]⟩) (a6 := .slice (some ⟨g6, 0, none⟩) 2 2)
    have zRr := zR6.others7 (a0 := .int .i64 (5 + m)) (a1 := .int .i64 0) (a2 := .int .i64 0) (a3 := .int .u64 0) (a4 := .string ⟨#[]⟩) (a5 := .string ⟨#[]⟩) (a6 := .slice (some ⟨g6, 0, none⟩) 2 2) hneR
    have zB7 := hB6.out.others7 (a0 := .int .i64 (5 + m)) (a1 := .int .i64 0) (a2 := .int .i64 0) (a3 := .int .u64 0) (a4 := .string ⟨#[]⟩) (a5 := .string ⟨#[]⟩) (a6 := .slice (some ⟨g6, 0, none⟩) 2 2) hne
    have hb05 := below_set7 (a0 := .int .i64 (5 + m)) (a1 := .int .i64 0) (a2 := .int .i64 0) (a3 := .int .u64 0) (a4 := .string ⟨#[]⟩) (a5 := .string ⟨#[]⟩) (a6 := .slice (some ⟨g6, 0, none⟩) 2 2) hb06 hgX
    rw [hw7] at zX zRr zB7 hb05
    have HTx : Hid (XT w7 (tX (5 + m) true) (some ⟨g6, 0, none⟩) 2) := Lib.hid (xt_two (5 + m) hop (xt_leaf w7 _ (fit_lit 0 0 0 [] (by decide) (by decide) (by decide) (by decide))) (xt_col w7 nA (by decide)) zB7)
    have HW7 := Lib.hid hw7
    clear hw7 zX6 zR6 hB6 hb06 zB7 hne hneR hgRX
    generalize hTX : tX (5 + m) true = TX at *
    go_upto_region 7 with fail
    rw [HW7.out]
    clear HW7 s0 s1 s2 s3 s4 s5 s6 f0 f1 f2 f3 f4 f5 f6
    have zC := Blk.new w7 #[.string ⟨#[97]⟩, .int .i64 2, .bool true] 57
    have hbc := (Below.refl w7.heap.size w7).alloc (Nat.le_refl _) (.cells #[.string ⟨#[97]⟩, .int .i64 2, .bool true] 57)
    have hb8 := hb05.alloc hb05.size (.cells #[.string ⟨#[97]⟩, .int .i64 2, .bool true] 57)
    have zX8 := zX.call hbc
    have zR8 := zRr.call hbc
    have HT8 := Lib.hid (HTx.out.keep hbc)
    go_upto_region 8 with fail
    generalize hw8 : w7.alloc (.cells #[.string ⟨#[97]⟩, .int .i64 2, .bool true] 57) = w8 at *
    clear hw8 hbc zX zRr HTx hb05
    generalize w7.heap.size = gC at *
    obtain ⟨⟨p0, p1, p2, p3⟩, _⟩ := zR8.four
    go_wp2_with fail
    refine (HVO.out _).mono ?_
    rintro e w9 ⟨v, hvk, hvf, hvc, rfl, hb9⟩
    obtain ⟨hvb, hvs, hvi⟩ := val_int hvk hvf hvc
    obtain ⟨k0, i, b0, s0⟩ := v
    simp only at hvk hvb hvs hvi
    subst hvk hvb hvs
    clear HVO hvf hvc p0 p1 p2 p3
    have zX9 := (zX8.call hb9).alloc (.cells #[.int .i64 2, .int .i64 i, .int .u64 0, .string ⟨#[]⟩] 24)
    have zC9 := (zC.call hb9).alloc (.cells #[.int .i64 2, .int .i64 i, .int .u64 0, .string ⟨#[]⟩] 24)
    have zV := Blk.new w9 #[.int .i64 2, .int .i64 i, .int .u64 0, .string ⟨#[]⟩] 24
    have hbv := hb9.alloc hb9.size (.cells #[.int .i64 2, .int .i64 i, .int .u64 0, .string ⟨#[]⟩] 24)
    have HT9 := Lib.hid (HT8.out.keep hbv)
    have hb10 := below_stepE hb8 hb8.size hbv
    go_upto_region 9 with fail
    generalize hw10 : w9.alloc (.cells #[.int .i64 2, .int .i64 i, .int .u64 0, .string ⟨#[]⟩] 24) = w10 at *
    clear hw10 hb9 zX8 zC zR8 HT8 hb8 hbv
    generalize w9.heap.size = gV at *
    have HX10 := Lib.hid (HX.out.keep hb10)
    have HCx := Lib.hid (cols_one zC9)
    have HVx := Lib.hid (vals_one hvi zV)
    clear zC9 zV hvi HX
    have c1 := HE1.out i gC gV g6 w10 w10 HX10.out HCx.out HVx.out (Below.refl _ _) HT9.out
    obtain ⟨p0, p1, p2, p3, p4, p5, p6⟩ := zX9.cells7
    go_wp2_with fail
    refine c1.mono ?_
    rintro e w11 ⟨rfl, hb11⟩
    clear c1 p0 p1 p2 p3 p4 p5 p6 HE1
    have zW := Blk.new w11 #[.int .i64 0, .int .i64 0, .int .u64 0, .string ⟨#[]⟩] 24
    have hbw := hb11.alloc hb11.size (.cells #[.int .i64 0, .int .i64 0, .int .u64 0, .string ⟨#[]⟩] 24)
    have zX12 := zX9.call hbw
    have HT12 := Lib.hid (HT9.out.keep hbw)
    go_upto_region 10 with fail
    generalize hw12 : w11.alloc (.cells #[.int .i64 0, .int .i64 0, .int .u64 0, .string ⟨#[]⟩] 24) = w12 at *
    clear hw12 hb11 zX9 HT9
    generalize w11.heap.size = gW at *
    obtain ⟨p0, p1, p2, p3, p4, p5, p6⟩ := zX12.cells7
    go_wp2_with fail
    refine (HI.out _ _ HT12.out).mono ?_
    rintro e w13 ⟨g13, rfl, hT13, hb13⟩
    have hb1013 := below_stepE hbw hbw.size hb13
    have c2 := HE2.out i gC gV g13 w13 w10 HX10.out HCx.out HVx.out hb1013 hT13.out
    clear p0 p1 p2 p3 p4 p5 p6 HI HE2 hT13
    go_wp2_with fail
    refine c2.mono ?_
    rintro e w14 ⟨rfl, hb14⟩
    have hb1014 := below_stepE hb1013 hb1013.size hb14
    have hby0 := below_stepE hb13 hb13.size hb14
    have zY := Blk.new w14 #[.int .i64 1, .int .i64 1, .int .u64 0, .string ⟨#[]⟩] 24
    have hby := hby0.alloc hby0.size (.cells #[.int .i64 1, .int .i64 1, .int .u64 0, .string ⟨#[]⟩] 24)
    have zX := zX12.call hby
    have zW15 := zW.call hby
    have HT := Lib.hid (HT12.out.keep hby)
    have hb1015 := hb1014.alloc hb1014.size (.cells #[.int .i64 1, .int .i64 1, .int .u64 0, .string ⟨#[]⟩] 24)
    clear c2
    go_upto_region 11 with fail
    generalize hw15 : w14.alloc (.cells #[.int .i64 1, .int .i64 1, .int .u64 0, .string ⟨#[]⟩] 24) = w15 at *
    clear hw15 hb14 hb13 hb1013 hb1014 hby0 hby zX12 zW HT12 hbw
    generalize w14.heap.size = gY at *
    have HCo := HC0
    have HE3' := Lib.hid (fun W k (hW : Below w15.heap.size w15 W) (hT : XT W (opN 20 [TX, litT 2 7 0 []]) (some ⟨k, 0, none⟩) 2) => HE3.out i gC gV k W w10 HX10.out HCx.out HVx.out (below_stepE hb1015 hb1015.size hW) hT)
    clear HE3 HC0
    refine wp_region_cell 11 9 10 (by kernel_rfl) (by kernel_rfl) (by kernel_rfl) 24 [.int .i64 0, .int .i64 0, .int .u64 0, .string ⟨#[]⟩] [.int .i64 2, .int .i64 7, .int .u64 0, .string ⟨#[]⟩] (NullsF TX m g6 gC gV) ?hFb ?hQb ?hstepb ?hpb ?hqb ?hdoneb
    case hFb =>
      intro ls i j v W W' hi hiq hji hun hb h
      match j, h with
      | 0, h => exact h
      | 1, h => exact h
      | 2, h =>
        rcases h with h | ⟨k, h1, h2⟩
        · exact .inl (getD_put_true h)
        · exact .inr ⟨k, h1, Lib.hid (h2.out.keep hb)⟩
      | 3, h => exact h
      | 4, h => exact h
      | 5, h => exact h
      | 6, h => exact h
      | 7, h => exact h
      | 8, h => exact h
      | 9, h => exact h
      | 10, h => exact h
      | j + 11, h => exact h
    case hQb =>
      intro ls j v W W' hcl hd h
      match j, h with
      | 0, h => exact h
      | 1, h => exact h
      | 2, h => exact .inl (getD_put_true (hcl 6 5 (hcl 7 6 (hd 7 (by kernel_rfl)) (by kernel_rfl)) (by kernel_rfl)))
      | 3, h => exact h
      | 4, h => exact h
      | 5, h => exact h
      | 6, h => exact h
      | 7, h => exact h
      | 8, h => exact h
      | 9, h => exact h
      | 10, h => exact h
      | j + 11, h => exact h
    case hstepb =>
      intro j hj hnp hnq ls vs W K hst hf hK hcl hd hun
      simp only [fillF, Act.put, List.take_succ_cons, List.take_zero, List.setIfInBounds_toArray, List.set_cons_zero, List.set_cons_succ] at hK ⊢
      obtain ⟨q0, q1, q2, q3, q4, q5, q6⟩ := (zX.call hst).cells7
      rcases (show j = 0 ∨ j = 1 ∨ j = 2 ∨ j = 3 ∨ j = 4 ∨ j = 5 ∨ j = 6 ∨ j = 7 ∨ j = 8 ∨ j = 9 ∨ j = 10 by omega) with rfl | rfl | rfl | rfl | rfl | rfl | rfl | rfl | rfl | rfl | rfl
      · refine wpOp_step rfl (fun K' hK' => ?_)
        go_simp
        exact hK' _ _ (hK _ _ rfl (Below.refl _ _))
      · refine wpOp_step rfl (fun K' hK' => ?_)
        go_simp
        refine (cN0 W).mono ?_
        rintro e W' ⟨rfl, hbc⟩
        go_simp
        exact hK' _ _ (hK _ _ rfl hbc)
      · have e0 : vs 0 = .agg #[.int .i64 (5 + m), .int .i64 0, .int .i64 0, .int .u64 0, .string ⟨#[]⟩, .string ⟨#[]⟩, .slice (some ⟨g6, 0, none⟩) 2 2] := hf 0 (by decide) (by decide) (by decide) (by kernel_rfl)
        have e1 : vs 1 = .agg #[.int .i64 1, .int .i64 2, .int .i64 7, .int .u64 0, .string ⟨#[]⟩, .string ⟨#[]⟩, .slice none 0 0] := hf 1 (by decide) (by decide) (by decide) (by kernel_rfl)
        simp only [e0, e1] at hK ⊢
        refine wpOp_step rfl (fun K' hK' => ?_)
        go_simp
        refine (HCo.out W g6 (HT.out.keep hst)).mono ?_
        rintro e W' ⟨k, rfl, hT, hbc⟩
        go_simp
        exact hK' _ _ (hK _ _ (.inr ⟨k, rfl, hT⟩) hbc)
      · refine wpOp_step rfl (fun K' hK' => ?_)
        go_simp
        exact hK' _ _ (hK _ _ rfl (Below.refl _ _))
      · refine wpOp_step rfl (fun K' hK' => ?_)
        go_simp
        exact hK' _ _ (hK _ _ rfl (Below.refl _ _))
      · obtain ⟨k2, e2, y2⟩ := (hf 2 (by decide) (by decide) (by decide) (by kernel_rfl)).resolve_left (fun hh => by rw [hun] at hh; cases hh)
        have e3 : vs 3 = .slice (some ⟨gC, 0, none⟩) 1 1 := hf 3 (by decide) (by decide) (by decide) (by kernel_rfl)
        have e4 : vs 4 = .slice (some ⟨gV, 0, none⟩) 1 1 := hf 4 (by decide) (by decide) (by decide) (by kernel_rfl)
        simp only [e2, e3, e4] at hK ⊢
        refine wpOp_step rfl (fun K' hK' => ?_)
        go_simp
        refine (HE3'.out W k2 hst y2.out).mono ?_
        rintro e W' ⟨rfl, hbc⟩
        go_simp
        exact hK' _ _ (hK _ _ rfl hbc)
      · have e5 : vs 5 = .tuple #[.agg #[.int .i64 2, .int .i64 7, .int .u64 0, .string ⟨#[]⟩], .int .i64 0] := hf 5 (by decide) (by decide) (by decide) (by kernel_rfl)
        simp only [e5] at hK ⊢
        refine wpOp_step rfl (fun K' hK' => ?_)
        go_simp
        exact hK' _ _ (hK _ _ rfl (Below.refl _ _))
      · have e6 : vs 6 = .tuple #[.agg #[.int .i64 2, .int .i64 7, .int .u64 0, .string ⟨#[]⟩], .int .i64 0] := hf 6 (by decide) (by decide) (by decide) (by kernel_rfl)
        simp only [e6] at hK ⊢
        refine wpOp_step rfl (fun K' hK' => ?_)
        go_simp
        exact hK' _ _ (hK _ _ rfl (Below.refl _ _))
      · have e6 : vs 6 = .tuple #[.agg #[.int .i64 2, .int .i64 7, .int .u64 0, .string ⟨#[]⟩], .int .i64 0] := hf 6 (by decide) (by decide) (by decide) (by kernel_rfl)
        simp only [e6] at hK ⊢
        refine wpOp_step rfl (fun K' hK' => ?_)
        go_simp
        exact hK' _ _ (hK _ _ rfl (Below.refl _ _))
      · exact (hnp rfl).elim
      · exact (hnq rfl).elim
    case hpb =>
      intro vs W K hK
      simp only [fillF, Act.put, List.take_succ_cons, List.take_zero, List.setIfInBounds_toArray, List.set_cons_zero, List.set_cons_succ] at hK ⊢
      refine wpOp_step rfl (fun K' hK' => ?_)
      go_simp
      exact hK' _ _ hK
    case hqb =>
      intro ls vs W K k hst ek hk hz hf hK
      simp only [fillF, Act.put, List.take_succ_cons, List.take_zero, List.setIfInBounds_toArray, List.set_cons_zero, List.set_cons_succ] at hK ⊢
      have e7 : vs 7 = .agg #[.int .i64 2, .int .i64 7, .int .u64 0, .string ⟨#[]⟩] := hf 7 (by decide) (by decide) (by decide) (by kernel_rfl)
      simp only [e7] at hK ⊢
      simp only [ek] at hK ⊢
      obtain ⟨⟨p0, p1, p2, p3⟩, f0, f1, f2, f3⟩ := hz.four
      refine wpOp_step rfl (fun K' hK' => ?_)
      go_simp
      exact hK' _ _ (hK undef _ hz.set4 (below_set4 hst hk))
    intro ls vs W gZ hst ek hk zZ hf
    simp only [fillF, Act.put, List.take_succ_cons, List.take_zero, List.drop_succ_cons, List.drop_zero, List.setIfInBounds_toArray, List.set_cons_zero, List.set_cons_succ]
    have e8 : vs 8 = .int .i64 0 := hf 8 (by decide) (by decide) (by decide)
    clear hf HCo HE3' HT zX cN0
    simp only [ek, e8]
    clear ek e8
    have hbE := below_stepE hb10 hb10.size (below_stepE hb1015 hb1015.size hst)
    obtain ⟨⟨p0, p1, p2, p3⟩, _⟩ := zZ.four
    obtain ⟨⟨q0, q1, q2, q3⟩, _⟩ := (zY.call hst).four
    obtain ⟨⟨r0, r1, r2, r3⟩, _⟩ := (zW15.call hst).four
    clear hst hk zZ zY zW15 hb1015 hb10 HX10 HCx HVx
    generalize vs 0 = x0
    generalize vs 1 = x1
    generalize vs 2 = x2
    generalize vs 3 = x3
    generalize vs 4 = x4
    generalize vs 5 = x5
    generalize vs 6 = x6
    generalize vs 7 = x7
    generalize vs 10 = x10
    go_wp2_with fail
    go_ret
    exact ⟨by simp, hbE⟩
theorem evalNulls_walk (op ka aa ba : Int) (sa : ByteArray) (left : Bool) (w : World) (hX : XEnv w) (ho0 : -9223372036854775808 ≤ op) (ho1 : op ≤ 9223372036854775807) (wk : (Lit.int .i64 ka).wf = true) (wa : (Lit.int .i64 aa).wf = true) (wb : (Lit.int .i64 ba).wf = true) (hs : sa.size ≤ 9223372036854775807) :
    Calls Tryz.prog 7 #[.int .i64 op, .agg #[.int .i64 ka, .int .i64 aa, .int .i64 ba, .string sa], .bool left] w fun e w' => e = .returned (.bool true) ∧ Below w.heap.size w w' := evalNulls_core op ka aa ba sa left w ho0 ho1 (bounds_i64 wa).1 (bounds_i64 wa).2 hX
end Go.Proofs.YtablacloabpjfabGreatDoor
