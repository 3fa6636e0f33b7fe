/-
  MERGED: RegFact, RegDet.
  CONDITIONS: each theorem's own hypotheses.
-/
import Derived.RegionTactic
import Derived.StillTail
import Derived.Below

/-! A RULE for a region that draws its order of evaluation: a fact for each operation's slot, said of the value and the world, that every later step keeps; each operation is walked once, out of the facts of those that it waits for; a forced tail is walked behind them. CONDITIONS: the theorem's own hypotheses. -/
namespace Go.Proofs.YtpneoaehkibdeaaDoor
open Go

/-- The frame with the operations' slots filled. -/
def fillF : List Oper → (Nat → Value) → Nat → Act → Act
  | [], _, _, a => a
  | o :: l, vs, i, a => fillF l vs (i + 1) (a.put o.dst (vs i))
def upd (vs : Nat → Value) (k : Nat) (v : Value) : Nat → Value := fun j => if j = k then v else vs j
/-- What a slot held ahead of the region. -/
def slotOf (a : Act) (o : Oper) : Value := match o.dst with
  | some t => a.tmps.getD t undef
  | none => undef
/-- No two operations write one slot. -/
def oneEach : List Oper → Bool
  | [] => true
  | o :: l => (l.all fun p => p.dst != o.dst || o.dst == none) && oneEach l

theorem put_put (a : Act) (d : Option Tmp) (v u : Value) : (a.put d v).put d u = a.put d u := by
  cases d <;> simp [Act.put]
theorem put_comm (a : Act) (d e : Option Tmp) (v u : Value) (h : e ≠ d ∨ d = none) : (a.put d v).put e u = (a.put e u).put d v := by
  cases d with
  | none => rfl
  | some x =>
    cases e with
    | none => rfl
    | some y =>
      have : x ≠ y := by
        rcases h with h | h
        · intro e; exact h (by rw [e])
        · cases h
      simp only [Act.put]
      rw [Array.setIfInBounds_comm _ _ this]
theorem put_self (a : Act) (o : Oper) : a.put o.dst (slotOf a o) = a := by
  unfold slotOf Act.put
  cases o.dst with
  | none => rfl
  | some t =>
    obtain ⟨tm, df⟩ := a
    simp only [Act.mk.injEq, and_true]
    apply Array.ext
    · simp
    · intro i h1 h2
      rw [Array.getElem_setIfInBounds]
      split
      · rename_i e; subst e; simp [h2]
      · rfl
theorem fillF_put_apart : ∀ (l : List Oper) (vs : Nat → Value) (i : Nat) (a : Act) (d : Option Tmp) (v : Value), (∀ p ∈ l, p.dst ≠ d ∨ d = none) → (fillF l vs i a).put d v = fillF l vs i (a.put d v)
  | [], _, _, _, _, _, _ => rfl
  | o :: l, vs, i, a, d, v, h => by
    show (fillF l vs (i + 1) (a.put o.dst (vs i))).put d v = fillF l vs (i + 1) ((a.put d v).put o.dst (vs i))
    rw [fillF_put_apart l vs (i + 1) _ d v (fun p hp => h p (List.mem_cons_of_mem _ hp)), put_comm a d o.dst v (vs i) (h o (List.mem_cons_self ..))]
theorem fillF_congr : ∀ (l : List Oper) (vs us : Nat → Value) (i : Nat) (a : Act), (∀ j, i ≤ j → vs j = us j) → fillF l vs i a = fillF l us i a
  | [], _, _, _, _, _ => rfl
  | o :: l, vs, us, i, a, h => by
    show fillF l vs (i + 1) (a.put o.dst (vs i)) = fillF l us (i + 1) (a.put o.dst (us i))
    rw [h i (Nat.le_refl _)]
    exact fillF_congr l vs us (i + 1) _ (fun j hj => h j (by omega))
theorem fillF_put : ∀ (l : List Oper) (vs : Nat → Value) (i : Nat) (a : Act) (k : Nat) (o : Oper) (v : Value), l[k]? = some o → oneEach l = true → (fillF l vs i a).put o.dst v = fillF l (upd vs (i + k) v) i a
  | [], _, _, _, _, _, _, h, _ => by simp at h
  | p :: l, vs, i, a, 0, o, v, h, h1 => by
    simp at h; subst h
    simp only [oneEach, Bool.and_eq_true, List.all_eq_true] at h1
    show (fillF l vs (i + 1) (a.put p.dst (vs i))).put p.dst v = fillF l (upd vs (i + 0) v) (i + 1) (a.put p.dst (upd vs (i + 0) v i))
    rw [fillF_put_apart l vs (i + 1) _ p.dst v (fun q hq => by have := h1.1 q hq; simpa using this), put_put]
    have e : upd vs (i + 0) v i = v := by simp [upd]
    rw [e]
    refine fillF_congr l _ _ _ _ (fun j hj => ?_)
    unfold upd
    rw [if_neg (by omega)]
  | p :: l, vs, i, a, k + 1, o, v, h, h1 => by
    simp only [oneEach, Bool.and_eq_true] at h1
    have h' : l[k]? = some o := by simpa using h
    show (fillF l vs (i + 1) (a.put p.dst (vs i))).put o.dst v = fillF l (upd vs (i + (k + 1)) v) (i + 1) (a.put p.dst (upd vs (i + (k + 1)) v i))
    have e : upd vs (i + (k + 1)) v i = vs i := by unfold upd; rw [if_neg (by omega)]
    rw [e, fillF_put l vs (i + 1) _ k o v h' h1.2, show i + 1 + k = i + (k + 1) by omega]
theorem fillF_self : ∀ (l : List Oper) (i : Nat) (a : Act) (vs : Nat → Value), (∀ k o, l[k]? = some o → vs (i + k) = slotOf a o) → fillF l vs i a = a
  | [], _, _, _, _ => rfl
  | o :: l, i, a, vs, h => by
    show fillF l vs (i + 1) (a.put o.dst (vs i)) = a
    have h0 : vs i = slotOf a o := h 0 o rfl
    rw [h0, put_self]
    exact fillF_self l (i + 1) a vs (fun k p hp => by rw [show i + 1 + k = i + (k + 1) by omega]; exact h (k + 1) p (by simpa using hp))

/-- Operation i waits for operation j. -/
def depB (l : List Oper) (i j : Nat) : Bool := Region.waitsFor .any l.toArray i j
def startAt (m n : Nat) : Array Bool := ((List.range m).map fun i => decide (i < n)).toArray
def factB (l : List Oper) (n : Nat) : Bool :=
  oneEach (l.take n) && decide (n ≤ l.length) && ((List.range l.length).all fun i => (List.range l.length).all fun j => !depB l i j || decide (j < i)) &&
  (n == l.length || (decide (n < l.length) && Region.sinkB .any l.toArray n && Region.chainB .any l.toArray n)) && Region.seqB .any l.toArray (l.drop n).length n (startAt l.length n) && ((startAt l.length n).toList.count false == (l.drop n).length) &&
  ((List.range l.length).all fun i => (((l[i]?).map fun o => o.after.all fun e => !Region.binds .any e || decide (e.on < l.length)).getD false))

theorem depB_of {l : List Oper} {i : Nat} {o : Oper} {e : Edge} (ho : l[i]? = some o) (he : e ∈ o.after) (hb : Region.binds .any e = true) : depB l i e.on = true := by
  unfold depB Region.waitsFor
  have : l.toArray[i]? = some o := by simpa using ho
  rw [this]
  exact Array.any_eq_true'.2 ⟨e, he, by simp [hb]⟩
theorem ready_iff {l : List Oper} {listed : Array Bool} {i : Nat} : i ∈ Region.ready .any l.toArray listed ↔ listed.getD i true = false ∧ i < l.length ∧ ∀ j, depB l i j = true → listed.getD j false = true := by
  rw [mem_ready]
  constructor
  · rintro ⟨h1, o, ho, h⟩
    have ho' : l[i]? = some o := by simpa using ho
    refine ⟨h1, (List.getElem?_eq_some_iff.1 ho').1, fun j hj => ?_⟩
    obtain ⟨o', ho2, e, he, hb, hon⟩ := Region.waitsFor_spec hj
    obtain rfl : o' = o := Option.some.inj (ho2.symm.trans ho)
    rw [← hon]; exact h e he hb
  · rintro ⟨h1, h2, h⟩
    refine ⟨h1, l[i], by simp [h2], fun e he hb => h e.on (depB_of (List.getElem?_eq_getElem h2) he hb)⟩
theorem count_set (listed : Array Bool) (i : Nat) (h : listed.getD i true = false) : (listed.setIfInBounds i true).toList.count false + 1 = listed.toList.count false := by
  have hi : i < listed.size := by
    rcases Nat.lt_or_ge i listed.size with h' | h'
    · exact h'
    · simp [Array.getElem?_eq_none h'] at h
  have hv : listed[i] = false := by simpa [hi] using h
  rw [Array.toList_setIfInBounds, List.count_set (by simpa using hi)]
  have hm : false ∈ listed.toList := by rw [← hv]; simp
  have hpos := List.count_pos_iff.2 hm
  have hg : listed.toList[i]'(by simpa using hi) = false := by simpa using hv
  rw [hg]
  have e1 : (false == false) = true := rfl
  have e2 : (true == false) = false := rfl
  rw [e1, e2, if_pos rfl, if_neg (by decide)]
  omega
theorem count_zero {listed : Array Bool} (h : listed.toList.count false = 0) (i : Nat) : listed.getD i true = true := by
  have := List.count_eq_zero.1 h
  rcases Nat.lt_or_ge i listed.size with h' | h'
  · simp only [Array.getD_eq_getD_getElem?, Array.getElem?_eq_getElem h', Option.getD_some]
    cases hv : listed[i] with
    | true => rfl
    | false => exact absurd (by rw [← hv]; simp) this
  · simp [Array.getElem?_eq_none h']

section
variable {P : Program} {l : List Oper} {Q : Exit → Act → World → Prop} {a0 : Act}

structure FInv (l : List Oper) (n : Nat) (F : Nat → Value → World → Prop) (J : Nat → Nat → Value → Value → Prop) (C : World → Prop) (a0 : Act) (listed : Array Bool) (a : Act) (w : World) : Prop where
  size : listed.size = l.length
  closed : ∀ i j, listed.getD i false = true → depB l i j = true → listed.getD j false = true
  tail : ∀ t, n ≤ t → t < l.length → listed.getD t true = false
  cls : C w
  vals : ∃ vs : Nat → Value, a = fillF (l.take n) vs 0 a0 ∧ (∀ i, i < n → listed.getD i true = true → F i (vs i) w) ∧ (∀ i o, (l.take n)[i]? = some o → listed.getD i true = false → vs i = slotOf a0 o) ∧ (∀ i j, i < n → j < n → i ≠ j → listed.getD i true = true → listed.getD j true = true → J i j (vs i) (vs j))

theorem wp_region_joint {id : Nat} {w0 : World} (n : Nat) (hm : P.follows .mixedOrders = true) (hB : factB l n = true)
    (F : Nat → Value → World → Prop) (J : Nat → Nat → Value → Value → Prop) (C : World → Prop) (E : World → World → Prop)
    (hC : ∀ w w', C w → E w w' → C w') (hF : ∀ i v w w', F i v w → E w w' → F i v w') (h0 : C { w0 with drawn := w0.drawn + 1 })
    (hstep : ∀ i, i < n → ∀ (listed : Array Bool) (vs : Nat → Value) (w : World) (K : Act → World → Prop), C w → listed.getD i true = false → (∀ p q, listed.getD p false = true → depB l p q = true → listed.getD q false = true) → (∀ j, depB l i j = true → listed.getD j false = true) →
      (∀ j, listed.getD j false = true → j < n ∧ F j (vs j) w) → (∀ j o, (l.take n)[j]? = some o → listed.getD j false = false → vs j = slotOf a0 o) →
      (∀ v w', F i v w' → E w w' → (∀ j, listed.getD j false = true → J i j v (vs j) ∧ J j i (vs j) v) → K ((fillF (l.take n) vs 0 a0).put ((l[i]?).bind (·.dst)) v) w') → wpOp P l.toArray Q i K (fillF (l.take n) vs 0 a0) w)
    (hdone : ∀ (vs : Nat → Value) (w : World), C w → (∀ i, i < n → F i (vs i) w) → (∀ i j, i < n → j < n → i ≠ j → J i j (vs i) (vs j)) → wpList P l.toArray Q (l.drop n) (fillF (l.take n) vs 0 a0) w) :
    (Code.region id l.toArray true).wp P Q a0 w0 := by
  simp only [factB, Bool.and_eq_true, decide_eq_true_eq, List.all_eq_true, List.mem_range, Bool.or_eq_true, beq_iff_eq] at hB
  obtain ⟨⟨⟨⟨⟨⟨hone, hn⟩, hlow⟩, hsc⟩, hseq⟩, hcnt⟩, hin⟩ := hB
  have main : ∀ (fuel : Nat) (listed : Array Bool) (a : Act) (w : World), listed.toList.count false = fuel → FInv l n F J C a0 listed a w → wpAny P .any l.toArray Q fuel listed a w := by
    intro fuel
    induction fuel with
    | zero =>
      intro listed a w hc inv
      obtain ⟨vs, ha, hf, -, hj⟩ := inv.vals
      have hall := count_zero hc
      have hln : n = l.length := by
        rcases Nat.lt_or_ge n l.length with h | h
        · have h1 := inv.tail n (Nat.le_refl _) h
          rw [hall n] at h1; cases h1
        · omega
      have hr : Region.ready .any l.toArray listed = [] := by
        apply List.eq_nil_iff_forall_not_mem.2
        intro i hi
        have h1 := (ready_iff.1 hi).1
        rw [hall i] at h1; cases h1
      have hd := hdone vs w inv.cls (fun i hi => hf i hi (hall i)) (fun i j hi hj2 hne => hj i j hi hj2 hne (hall i) (hall j))
      rw [List.drop_of_length_le (by omega)] at hd
      exact ⟨hr, by rw [ha]; exact hd⟩
    | succ fuel ih =>
      intro listed a w hc inv
      obtain ⟨vs, ha, hf, hu, hjj⟩ := inv.vals
      by_cases hd : ∃ i, i < n ∧ listed.getD i true = false
      · -- the head is not complete
        have hleast : ∃ i, i < n ∧ i ∈ Region.ready .any l.toArray listed := by
          obtain ⟨i, hi⟩ := hd
          induction i using Nat.strongRecOn with
          | _ i ihi =>
            by_cases hall : ∀ j, depB l i j = true → listed.getD j false = true
            · exact ⟨i, hi.1, ready_iff.2 ⟨hi.2, by omega, hall⟩⟩
            · simp only [Classical.not_forall] at hall
              obtain ⟨j, hj, hlj⟩ := hall
              obtain ⟨o, ho, e, he, hb, hon⟩ := Region.waitsFor_spec hj
              have hjl : j < l.length := by
                have h1 := hin i (by omega)
                have ho' : l[i]? = some o := by simpa using ho
                rw [ho'] at h1
                simp only [Option.map_some, Option.getD_some, Array.all_eq_true'] at h1
                have h2 := h1 e he
                rw [hb] at h2
                simp only [Bool.not_true, Bool.false_or, decide_eq_true_eq] at h2
                omega
              have hji : j < i := by
                have h1 := hlow i (by omega) j hjl
                rcases h1 with h1 | h1
                · rw [hj] at h1; cases h1
                · exact h1
              have hlj' : listed.getD j true = false := by
                have : listed.getD j false = false := by cases h : listed.getD j false <;> simp_all
                exact getD_in (by rw [inv.size]; exact hjl) this
              exact ihi j hji ⟨by omega, hlj'⟩
        refine ⟨fun hr => ?_, fun i hi => ?_⟩
        · obtain ⟨i, _, hi⟩ := hleast
          rw [hr] at hi; cases hi
        · obtain ⟨hiun, hil, hideps⟩ := ready_iff.1 hi
          have hin' : i < n := by
            rcases Nat.lt_or_ge i n with h | h
            · exact h
            · rcases hsc with h1 | h1
              · omega
              · obtain ⟨⟨h2, h3⟩, h4⟩ := h1
                obtain ⟨k, hk, hkun⟩ := hd
                have hinv : HeadInv .any l.toArray n listed := ⟨by simpa using inv.size, fun j oj hj hl e he hb => inv.closed j e.on hl (depB_of (by simpa using hj) he hb), fun t ht ht' => inv.tail t ht (by simpa using ht')⟩
                exact absurd hi (tail_waits h3 h4 (by simpa using h2) hinv _ k rfl hk hkun i h)
          obtain ⟨o, ho⟩ : ∃ o, l[i]? = some o := ⟨_, List.getElem?_eq_getElem hil⟩
          have hot : (l.take n)[i]? = some o := by rw [List.getElem?_take_of_lt hin']; exact ho
          subst ha
          have hjn : ∀ j, listed.getD j false = true → j < n := fun j hj => by
            rcases Nat.lt_or_ge j n with h | h
            · exact h
            · rcases Nat.lt_or_ge j l.length with h' | h'
              · have h2 := inv.tail j h h'
                rw [getD_both h2] at hj; cases hj
              · have : listed.getD j false = false := by simp [Array.getElem?_eq_none (show listed.size ≤ j by rw [inv.size]; exact h')]
                rw [this] at hj; cases hj
          refine hstep i hin' listed vs w _ inv.cls hiun inv.closed hideps (fun j hj => ⟨hjn j hj, ?_⟩) (fun j p hp hw => ?_) (fun v w' hv he hjv => ?_)
          · refine hf j (hjn j hj) ?_
            cases h3 : listed.getD j true with
            | true => rfl
            | false => rw [getD_both h3] at hj; cases hj
          · refine hu j p hp (getD_in ?_ hw)
            have := (List.getElem?_eq_some_iff.1 hp).1
            rw [inv.size]
            simp at this; omega
          · rw [ho]
            simp only [Option.bind_some]
            rw [fillF_put (l.take n) vs 0 a0 i o v hot hone, Nat.zero_add]
            refine ih _ _ _ ?_ ⟨by simp [inv.size], fun p q hp hq => ?_, fun t ht ht' => by rw [getD_set_ne true (by omega)]; exact inv.tail t ht ht', hC w w' inv.cls he, upd vs i v, rfl, fun p hp hlp => ?_, fun p q hp hlp => ?_, fun p q hp hq hne hlp hlq => ?_⟩
            · have := count_set listed i hiun
              omega
            · by_cases hip : i = p
              · subst hip
                exact getD_set_true (hideps q hq)
              · rw [getD_set_ne false hip] at hp
                exact getD_set_true (inv.closed p q hp hq)
            · by_cases hip : p = i
              · subst hip
                have : upd vs p v p = v := by simp [upd]
                rw [this]; exact hv
              · rw [getD_set_ne true (Ne.symm hip)] at hlp
                have : upd vs i v p = vs p := by simp [upd, hip]
                rw [this]
                exact hF p _ w w' (hf p hp hlp) he
            · by_cases hip : p = i
              · subst hip
                have hlt : p < listed.size := by rw [inv.size]; exact hil
                simp [hlt] at hlp
              · rw [getD_set_ne true (Ne.symm hip)] at hlp
                have : upd vs i v p = vs p := by simp [upd, hip]
                rw [this]
                exact hu p q hp hlp
            · have back : ∀ r, r ≠ i → r < n → (listed.setIfInBounds i true).getD r true = true → listed.getD r false = true := fun r hri hrn hl => by
                rw [getD_set_ne true (Ne.symm hri)] at hl
                cases h3 : listed.getD r false with
                | true => rfl
                | false => rw [getD_in (by rw [inv.size]; omega) h3] at hl; cases hl
              by_cases hip : p = i
              · subst hip
                have hqi : q ≠ p := Ne.symm hne
                have e1 : upd vs p v p = v := by simp [upd]
                have e2 : upd vs p v q = vs q := by simp [upd, hqi]
                rw [e1, e2]
                exact (hjv q (back q hqi hq hlq)).1
              · by_cases hiq : q = i
                · subst hiq
                  have e1 : upd vs q v q = v := by simp [upd]
                  have e2 : upd vs q v p = vs p := by simp [upd, hip]
                  rw [e1, e2]
                  exact (hjv p (back p hip hp hlp)).2
                · have e1 : upd vs i v p = vs p := by simp [upd, hip]
                  have e2 : upd vs i v q = vs q := by simp [upd, hiq]
                  rw [e1, e2]
                  rw [getD_set_ne true (Ne.symm hip)] at hlp
                  rw [getD_set_ne true (Ne.symm hiq)] at hlq
                  exact hjj p q hp hq hne hlp hlq
      · -- the head is complete: the tail is forced
        have hall : ∀ i, i < n → listed.getD i true = true := by
          intro i hi
          cases h : listed.getD i true with
          | true => rfl
          | false => exact absurd ⟨i, hi, h⟩ hd
        have hstart : listed = startAt l.length n := by
          apply Array.ext
          · simp [startAt, inv.size]
          · intro i h1 h2
            have hil : i < l.length := by rw [← inv.size]; exact h1
            have e : (startAt l.length n)[i] = decide (i < n) := by simp [startAt]
            rw [e]
            rcases Nat.lt_or_ge i n with h | h
            · have := hall i h
              simp [h1] at this
              simp [this, h]
            · have := inv.tail i h hil
              simp [h1] at this
              simp [this]; omega
        have hd := hdone vs w inv.cls (fun i hi => hf i hi (hall i hi)) (fun i j hi hj2 hne => hjj i j hi hj2 hne (hall i hi) (hall j hj2))
        have hfu : fuel + 1 = (l.drop n).length := by rw [← hc, hstart]; exact hcnt
        rw [hfu, ha, hstart]
        exact wpAny_of_seq (l.drop n) n _ _ w (fun j => by simp [List.getElem?_drop]) hseq hd
  refine wp_region_any hm (main _ _ _ _ (by simp) ⟨by simp, fun i j h _ => (by rw [getD_replicate_false] at h; cases h), fun t _ ht => getD_in (by simpa using ht) (getD_replicate_false _ _), h0, fun i => (match (l.take n)[i]? with | some o => slotOf a0 o | none => undef), ?_, fun i hi h => ?_, fun i o ho _ => (by show (match (l.take n)[i]? with | some o => slotOf a0 o | none => undef) = _; rw [ho]), fun i j hi hj2 hne h _ => ?_⟩)
  · refine (fillF_self (l.take n) 0 a0 _ (fun k o ho => ?_)).symm
    rw [Nat.zero_add, ho]
  · have : (Array.replicate l.toArray.size false).getD i true = false := getD_in (by simp; omega) (getD_replicate_false _ _)
    rw [this] at h; cases h
  · have : (Array.replicate l.toArray.size false).getD i true = false := getD_in (by simp; omega) (getD_replicate_false _ _)
    rw [this] at h; cases h
theorem wp_region_gen {id : Nat} {w0 : World} (n : Nat) (hm : P.follows .mixedOrders = true) (hB : factB l n = true)
    (F : Nat → Value → World → Prop) (C : World → Prop) (E : World → World → Prop)
    (hC : ∀ w w', C w → E w w' → C w') (hF : ∀ i v w w', F i v w → E w w' → F i v w') (h0 : C { w0 with drawn := w0.drawn + 1 })
    (hstep : ∀ i, i < n → ∀ (listed : Array Bool) (vs : Nat → Value) (w : World) (K : Act → World → Prop), C w → listed.getD i true = false → (∀ p q, listed.getD p false = true → depB l p q = true → listed.getD q false = true) → (∀ j, depB l i j = true → listed.getD j false = true) →
      (∀ j, listed.getD j false = true → j < n ∧ F j (vs j) w) → (∀ j o, (l.take n)[j]? = some o → listed.getD j false = false → vs j = slotOf a0 o) →
      (∀ v w', F i v w' → E w w' → K ((fillF (l.take n) vs 0 a0).put ((l[i]?).bind (·.dst)) v) w') → wpOp P l.toArray Q i K (fillF (l.take n) vs 0 a0) w)
    (hdone : ∀ (vs : Nat → Value) (w : World), C w → (∀ i, i < n → F i (vs i) w) → wpList P l.toArray Q (l.drop n) (fillF (l.take n) vs 0 a0) w) :
    (Code.region id l.toArray true).wp P Q a0 w0 :=
  wp_region_joint n hm hB F (fun _ _ _ _ => True) C E hC hF h0 (fun i hi listed vs w K h1 h2 h3 h4 h5 h6 hK => hstep i hi listed vs w K h1 h2 h3 h4 h5 h6 (fun v w' a b => hK v w' a b (fun _ _ => ⟨trivial, trivial⟩))) (fun vs w h1 h2 _ => hdone vs w h1 h2)
theorem wp_region_facts {id : Nat} {w0 : World} (n : Nat) (hm : P.follows .mixedOrders = true) (hB : factB l n = true)
    (F : Nat → Value → World → Prop) (C : World → Prop) (E : World → World → Prop)
    (hC : ∀ w w', C w → E w w' → C w') (hF : ∀ i v w w', F i v w → E w w' → F i v w') (h0 : C { w0 with drawn := w0.drawn + 1 })
    (hstep : ∀ i, i < n → ∀ (vs : Nat → Value) (w : World) (K : Act → World → Prop), C w → (∀ j, depB l i j = true → F j (vs j) w) → (∀ j o, (l.take n)[j]? = some o → (j = i ∨ depB l j i = true) → vs j = slotOf a0 o) →
      (∀ v w', F i v w' → E w w' → K ((fillF (l.take n) vs 0 a0).put ((l[i]?).bind (·.dst)) v) w') → wpOp P l.toArray Q i K (fillF (l.take n) vs 0 a0) w)
    (hdone : ∀ (vs : Nat → Value) (w : World), C w → (∀ i, i < n → F i (vs i) w) → wpList P l.toArray Q (l.drop n) (fillF (l.take n) vs 0 a0) w) :
    (Code.region id l.toArray true).wp P Q a0 w0 :=
  wp_region_gen n hm hB F C E hC hF h0 (fun i hi listed vs w K hc hun hcl hdeps hf hu hK => hstep i hi vs w K hc (fun j hj => (hf j (hdeps j hj)).2) (fun j p hp hw => hu j p hp (by
    rcases hw with rfl | hw
    · exact getD_both hun
    · cases h3 : listed.getD j false with
      | false => rfl
      | true =>
        have := hcl j i h3 hw
        rw [getD_both hun] at this; cases this)) hK) hdone
/-- The same, the frame behind a letter. -/
theorem wp_region_facts' {id : Nat} {w0 : World} (n : Nat) (hm : P.follows .mixedOrders = true) (hB : factB l n = true)
    (F : Nat → Value → World → Prop) (C : World → Prop) (E : World → World → Prop)
    (hC : ∀ w w', C w → E w w' → C w') (hF : ∀ i v w w', F i v w → E w w' → F i v w') (h0 : C { w0 with drawn := w0.drawn + 1 })
    (hstep : ∀ i, i < n → ∀ (vs : Nat → Value) (a : Act) (w : World) (K : Act → World → Prop), a = fillF (l.take n) vs 0 a0 → C w → (∀ j, depB l i j = true → F j (vs j) w) → (∀ j o, (l.take n)[j]? = some o → (j = i ∨ depB l j i = true) → vs j = slotOf a0 o) →
      (∀ v w', F i v w' → E w w' → K (a.put ((l[i]?).bind (·.dst)) v) w') → wpOp P l.toArray Q i K a w)
    (hdone : ∀ (vs : Nat → Value) (a : Act) (w : World), a = fillF (l.take n) vs 0 a0 → C w → (∀ i, i < n → F i (vs i) w) → wpList P l.toArray Q (l.drop n) a w) :
    (Code.region id l.toArray true).wp P Q a0 w0 :=
  wp_region_facts n hm hB F C E hC hF h0 (fun i hi vs w K h1 h2 h3 h4 => hstep i hi vs _ w K rfl h1 h2 h3 h4) (fun vs w h1 h2 => hdone vs _ w rfl h1 h2)
end
end Go.Proofs.YtpneoaehkibdeaaDoor

/-! A RULE for a region that draws its order of evaluation and whose operations give the same values whatever the order: each is walked once, in the text's order, in any world of a class that each keeps; a forced tail is walked behind them. CONDITIONS: the theorem's own hypotheses. -/
namespace Go.Proofs.YtpneoaehkibdeaaDoor
open Go Go.RowKit
set_option linter.unusedVariables false

/-- What an operation's run gives: this value, and nothing that was there has changed. -/
def DetV (P : Program) (v : Value) (w : World) : Result Next → Prop
  | .ok (.value u) w' => u = v ∧ Below w.heap.size w w'
  | .ok .skip w' => v = undef ∧ Below w.heap.size w w'
  | .ok (.enter f args) w' => w' = w ∧ Calls P f args w (fun e w'' => e = .returned v ∧ Below w.heap.size w w'')
  | _ => False
def DetAt (P : Program) (ops : Array Oper) (w0 : World) (o : Oper) (v : Value) (a : Act) : Prop :=
  (Region.wanted o (yielded ops a.tmps) = true ∧ ∀ w, Below w0.heap.size w0 w → DetV P v w ((execOp a.eval o).run P w)) ∨ (Region.wanted o (yielded ops a.tmps) = false ∧ v = undef)
/-- The operations one behind the other, each with its value. -/
def wpDet (P : Program) (ops : Array Oper) (w0 : World) (Q : Act → Prop) : List Oper → Act → Prop
  | [], a => Q a
  | o :: rest, a => ∃ v, DetAt P ops w0 o v a ∧ wpDet P ops w0 Q rest (a.put o.dst v)
/-- An operation that makes something new: what is known of its value. -/
def NewV (G : Value → World → Prop) (w : World) : Result Next → Prop
  | .ok (.value u) w' => G u w' ∧ Below w.heap.size w w'
  | _ => False
def NewAt (P : Program) (w0 : World) (G : Value → World → Prop) (o : Oper) (a : Act) : Prop :=
  ∀ w, Below w0.heap.size w0 w → NewV G w ((execOp a.eval o).run P w)

theorem DetAt.of_same {P : Program} {ops : Array Oper} {w0 : World} {o : Oper} {v : Value} {a a' : Act} (hy : DetAt P ops w0 o v a) (he : execOp a'.eval o = execOp a.eval o)
    (hw : Region.wanted o (yielded ops a'.tmps) = Region.wanted o (yielded ops a.tmps)) : DetAt P ops w0 o v a' := by
  unfold DetAt at *
  rw [he, hw]
  exact hy
theorem DetAt.wpOp {P : Program} {ops : Array Oper} {w0 : World} {Q : Exit → Act → World → Prop} {i : Nat} {o : Oper} {v : Value} {a : Act} (hi : ops[i]? = some o) (hy : DetAt P ops w0 o v a) {w : World} (hw : Below w0.heap.size w0 w) {K : Act → World → Prop}
    (h : ∀ w', Below w.heap.size w w' → K (a.put o.dst v) w') : wpOp P ops Q i K a w := by
  unfold Go.wpOp
  simp only [hi]
  rcases hy with ⟨hb, hv⟩ | ⟨hb, rfl⟩
  · simp only [hb, if_true]
    left
    have := hv w hw
    unfold Oper.wp
    generalize (execOp a.eval o).run P w = r at this
    cases r with
    | ok n w' =>
      cases n <;> simp only [DetV] at this <;> simp only [Oper.upon]
      case value u => obtain ⟨rfl, hc⟩ := this; exact h w' hc
      case skip => obtain ⟨rfl, hc⟩ := this; exact h w' hc
      case enter f args => obtain ⟨rfl, hc⟩ := this; exact hc.mono fun e w'' ⟨he, hc⟩ => by subst he; exact h w'' hc
    | halt x w' => simp only [DetV] at this
  · simp only [hb, Bool.false_eq_true, if_false]; exact h w (Below.refl _ _)
theorem NewAt.wpOp {P : Program} {ops : Array Oper} {w0 : World} {G : Value → World → Prop} {Q : Exit → Act → World → Prop} {i : Nat} {o : Oper} {a : Act} (hi : ops[i]? = some o) (hg : o.guard = none) (hy : NewAt P w0 G o a) {w : World} (hw : Below w0.heap.size w0 w) {K : Act → World → Prop}
    (h : ∀ v w', G v w' → Below w.heap.size w w' → K (a.put o.dst v) w') : wpOp P ops Q i K a w := by
  unfold Go.wpOp
  simp only [hi]
  have hb : Region.wanted o (yielded ops a.tmps) = true := by unfold Region.wanted; rw [hg]
  simp only [hb, if_true]
  left
  have := hy w hw
  unfold Oper.wp
  generalize (execOp a.eval o).run P w = r at this
  cases r with
  | ok n w' =>
    cases n <;> simp only [NewV] at this <;> simp only [Oper.upon]
    case value u => exact h u w' this.1 this.2
  | halt x w' => simp only [NewV] at this

theorem fillF_congr' : ∀ (l : List Oper) (vs us : Nat → Value) (i : Nat) (a : Act), (∀ k o, l[k]? = some o → vs (i + k) = us (i + k)) → fillF l vs i a = fillF l us i a
  | [], _, _, _, _, _ => rfl
  | o :: l, vs, us, i, a, h => by
    show fillF l vs (i + 1) (a.put o.dst (vs i)) = fillF l us (i + 1) (a.put o.dst (us i))
    rw [show vs i = us i from h 0 o rfl]
    exact fillF_congr' l vs us (i + 1) _ (fun k p hp => by rw [show i + 1 + k = i + (k + 1) by omega]; exact h (k + 1) p (by simpa using hp))
/-- The values of those ahead of i; what the slots of the others held. -/
def cutAt (L : List Oper) (a0 : Act) (us : Nat → Value) (i : Nat) : Nat → Value := fun j => if j < i then us j else match L[j]? with
  | some o => slotOf a0 o
  | none => us j
theorem det_vals {P : Program} {ops : Array Oper} {C : World} {Q : Act → Prop} (L : List Oper) (h1 : oneEach L = true) (a0 : Act) :
    ∀ (rest : List Oper) (k : Nat) (vs : Nat → Value), L.drop k = rest → (∀ j o, L[j]? = some o → k ≤ j → vs j = slotOf a0 o) → wpDet P ops C Q rest (fillF L vs 0 a0) →
      ∃ us : Nat → Value, (∀ j, j < k → us j = vs j) ∧ Q (fillF L us 0 a0) ∧ ∀ i o, k ≤ i → L[i]? = some o → DetAt P ops C o (us i) (fillF L (cutAt L a0 us i) 0 a0)
  | [], k, vs, hd, hs, h => ⟨vs, fun _ _ => rfl, h, fun i o hk ho => by
      have hl := (List.getElem?_eq_some_iff.1 ho).1
      have := congrArg List.length hd
      simp at this; omega⟩
  | o :: rest, k, vs, hd, hs, h => by
    obtain ⟨v, hv, hr⟩ := h
    have hkl : k < L.length := by
      have := congrArg List.length hd
      simp at this; omega
    have hk : L[k]? = some o := by
      have := congrArg (·[0]?) hd
      simpa using this
    have hd' : L.drop (k + 1) = rest := by
      rw [← List.drop_drop, hd]; rfl
    rw [fillF_put L vs 0 a0 k o v hk h1, Nat.zero_add] at hr
    obtain ⟨us, hu, hq, hall⟩ := det_vals L h1 a0 rest (k + 1) (upd vs k v) hd' (fun j p hp hj => by unfold upd; rw [if_neg (by omega)]; exact hs j p hp (by omega)) hr
    refine ⟨us, fun j hj => by rw [hu j (by omega)]; unfold upd; rw [if_neg (by omega)], hq, fun i p hi hp => ?_⟩
    by_cases hik : i = k
    · subst hik
      have : p = o := Option.some.inj (hp.symm.trans hk)
      subst this
      have hui : us i = v := by rw [hu i (by omega)]; simp [upd]
      rw [hui]
      have e : fillF L (cutAt L a0 us i) 0 a0 = fillF L vs 0 a0 := fillF_congr' L _ _ 0 a0 (fun j q hq => by
        rw [Nat.zero_add]
        unfold cutAt
        by_cases hj : j < i
        · rw [if_pos hj, hu j (by omega)]; unfold upd; rw [if_neg (by omega)]
        · rw [if_neg hj, hq]; exact (hs j q hq (by omega)).symm)
      rw [e]; exact hv
    · exact hall i p (by omega) hp

/-- i waits for j, by way of others. -/
def pathB (l : List Oper) : Nat → Nat → Nat → Bool
  | 0, i, j => depB l i j
  | f + 1, i, j => depB l i j || (List.range i).any fun k => depB l i k && pathB l f k j
def lookB (l : List Oper) (n : Nat) : Bool :=
  Region.noSelect l.toArray && (List.range n).all fun i => (List.range n).all fun j => i == j || (match l[i]?, l[j]? with
    | some oi, some oj => (match oj.dst with
      | some d => !(oi.looksAt l.toArray).contains d
      | none => true)
    | _, _ => true) || pathB l 3 i j || pathB l 3 j i
theorem path_listed {l : List Oper} {listed : Array Bool} (hcl : ∀ p q, listed.getD p false = true → depB l p q = true → listed.getD q false = true) : ∀ (f i j : Nat), listed.getD i false = true → pathB l f i j = true → listed.getD j false = true
  | 0, i, j, hi, h => hcl i j hi h
  | f + 1, i, j, hi, h => by
    simp only [pathB, Bool.or_eq_true, List.any_eq_true, Bool.and_eq_true] at h
    rcases h with h | ⟨k, _, h1, h2⟩
    · exact hcl i j hi h
    · exact path_listed hcl f k j (hcl i k hi h1) h2
theorem path_ready {l : List Oper} {listed : Array Bool} (hcl : ∀ p q, listed.getD p false = true → depB l p q = true → listed.getD q false = true) {i : Nat} (hd : ∀ j, depB l i j = true → listed.getD j false = true) : ∀ (f j : Nat), pathB l f i j = true → listed.getD j false = true
  | 0, j, h => hd j h
  | f + 1, j, h => by
    simp only [pathB, Bool.or_eq_true, List.any_eq_true, Bool.and_eq_true] at h
    rcases h with h | ⟨k, _, h1, h2⟩
    · exact hd j h
    · exact path_listed hcl f k j (hd k h1) h2
theorem path_lt {l : List Oper} (hlow : ∀ i, i < l.length → ∀ j, j < l.length → depB l i j = true → j < i) (hin : ∀ i j, depB l i j = true → i < l.length ∧ j < l.length) : ∀ (f i j : Nat), pathB l f i j = true → j < i
  | 0, i, j, h => hlow i (hin i j h).1 j (hin i j h).2 h
  | f + 1, i, j, h => by
    simp only [pathB, Bool.or_eq_true, List.any_eq_true, Bool.and_eq_true] at h
    rcases h with h | ⟨k, _, h1, h2⟩
    · exact hlow i (hin i j h).1 j (hin i j h).2 h
    · have a := path_lt hlow hin f k j h2
      have b := hlow i (hin i k h1).1 k (hin i k h1).2 h1
      omega

/-- Frames that differ in slots alone that an operation does not look at. -/
theorem exec_same {l : List Oper} {o : Oper} {a0 : Act} (hs : ∀ cs b, o.op ≠ .select cs b) (L : List Oper) (h1 : oneEach L = true) (vs us : Nat → Value)
    (h : ∀ j p, L[j]? = some p → vs j = us j ∨ ∀ d, p.dst = some d → d ∉ o.looksAt l.toArray) :
    execOp (fillF L us 0 a0).eval o = execOp (fillF L vs 0 a0).eval o ∧ Region.wanted o (yielded l.toArray (fillF L us 0 a0).tmps) = Region.wanted o (yielded l.toArray (fillF L vs 0 a0).tmps) := by
  have key : ∀ k, k ≤ L.length → execOp (fillF L (fun j => if j < k then us j else vs j) 0 a0).eval o = execOp (fillF L vs 0 a0).eval o ∧ Region.wanted o (yielded l.toArray (fillF L (fun j => if j < k then us j else vs j) 0 a0).tmps) = Region.wanted o (yielded l.toArray (fillF L vs 0 a0).tmps) := by
    intro k
    induction k with
    | zero => intro _; exact ⟨rfl, rfl⟩
    | succ k ih =>
      intro hk
      obtain ⟨i1, i2⟩ := ih (by omega)
      have hL : L[k]? = some L[k] := List.getElem?_eq_getElem (by omega)
      have e : fillF L (fun j => if j < k + 1 then us j else vs j) 0 a0 = (fillF L (fun j => if j < k then us j else vs j) 0 a0).put L[k].dst (us k) := by
        rw [fillF_put L _ 0 a0 k L[k] (us k) hL h1, Nat.zero_add]
        refine fillF_congr' L _ _ 0 a0 (fun j p hp => ?_)
        rw [Nat.zero_add]
        unfold upd
        show (if j < k + 1 then us j else vs j) = (if j = k then us k else (if j < k then us j else vs j))
        by_cases hj : j = k
        · subst hj; simp
        · rw [if_neg hj]
          by_cases hl : j < k
          · rw [if_pos (by omega), if_pos hl]
          · rw [if_neg (by omega), if_neg hl]
      rcases h k L[k] hL with hv | hv
      · have e2 : fillF L (fun j => if j < k + 1 then us j else vs j) 0 a0 = fillF L (fun j => if j < k then us j else vs j) 0 a0 := fillF_congr' L _ _ 0 a0 (fun j p hp => by
          rw [Nat.zero_add]
          show (if j < k + 1 then us j else vs j) = (if j < k then us j else vs j)
          by_cases hj : j = k
          · subst hj; simp [hv]
          · by_cases hl : j < k
            · rw [if_pos (by omega), if_pos hl]
            · rw [if_neg (by omega), if_neg hl])
        rw [e2]; exact ⟨i1, i2⟩
      · rw [e, execOp_put (ops := l.toArray) o hs _ _ _ hv, wanted_put o _ _ _ hv]
        exact ⟨i1, i2⟩
  have := key L.length (Nat.le_refl _)
  have e : fillF L (fun j => if j < L.length then us j else vs j) 0 a0 = fillF L us 0 a0 := fillF_congr' L _ _ 0 a0 (fun j p hp => by
    rw [Nat.zero_add, if_pos (List.getElem?_eq_some_iff.1 hp).1])
  rw [e] at this
  exact this

section
variable {P : Program} {l : List Oper} {Q : Exit → Act → World → Prop} {a0 : Act}
/-- What the checks say of the edges. -/
theorem edges_of {n : Nat} (hB : factB l n = true) : (∀ i j, depB l i j = true → i < l.length ∧ j < l.length) ∧ (∀ i, i < l.length → ∀ j, j < l.length → depB l i j = true → j < i) ∧ oneEach (l.take n) = true ∧ n ≤ l.length := by
  simp only [factB, Bool.and_eq_true, decide_eq_true_eq, List.all_eq_true, List.mem_range, Bool.or_eq_true, beq_iff_eq] at hB
  obtain ⟨⟨⟨⟨⟨⟨hone, hn⟩, hlow0⟩, hsc⟩, hseq⟩, hcnt⟩, hin0⟩ := hB
  refine ⟨fun i j hd => ?_, fun i hi j hj hd => ?_, hone, hn⟩
  · obtain ⟨o, ho, e, he, hb, hon⟩ := Region.waitsFor_spec hd
    have ho' : l[i]? = some o := by simpa using ho
    have hil := (List.getElem?_eq_some_iff.1 ho').1
    refine ⟨hil, ?_⟩
    have h1 := hin0 i hil
    rw [ho'] at h1
    simp only [Option.map_some, Option.getD_some, Array.all_eq_true'] at h1
    have h2 := h1 e he
    rw [hb] at h2
    simp only [Bool.not_true, Bool.false_or, decide_eq_true_eq] at h2
    omega
  · rcases hlow0 i hi j hj with h1 | h1
    · rw [hd] at h1; cases h1
    · exact h1
theorem below_step' {a b c : World} {B : Nat} (h : Below B a b) (hB : B ≤ b.heap.size) (k : Below b.heap.size b c) : Below B a c := h.trans (k.mono hB)
/-- The rule: n values that do not hang on the order, then one new thing, then the forced tail. -/
theorem wp_region_new {id : Nat} {w0 : World} (n : Nat) (oN : Oper) (hoN : l[n]? = some oN) (hgN : oN.guard = none) (G : Value → World → Prop) (hG : ∀ v w w', G v w → Below w.heap.size w w' → G v w') (hm : P.follows .mixedOrders = true) (hB : factB l (n + 1) = true) (hL : lookB l (n + 1) = true)
    (h : wpDet P l.toArray w0 (fun a => NewAt P w0 G oN a ∧ ∀ v w, Below w0.heap.size w0 w → G v w → wpList P l.toArray Q (l.drop (n + 1)) (a.put oN.dst v) w) (l.take n) a0) : (Code.region id l.toArray true).wp P Q a0 w0 := by
  obtain ⟨hin, hlow, hone, hn⟩ := edges_of hB
  simp only [lookB, Bool.and_eq_true, List.all_eq_true, List.mem_range, Bool.or_eq_true, beq_iff_eq] at hL
  obtain ⟨hsel, hlook⟩ := hL
  have hnl : n < l.length := by omega
  have hsucc : l.take (n + 1) = l.take n ++ [oN] := by
    rw [List.take_succ_eq_append_getElem hnl]
    have : l[n] = oN := by rw [List.getElem?_eq_getElem hnl] at hoN; exact Option.some.inj hoN
    rw [this]
  have hone' : oneEach (l.take n) = true := by
    rw [hsucc] at hone
    have key : ∀ (a b : List Oper), oneEach (a ++ b) = true → oneEach a = true := by
      intro a
      induction a with
      | nil => intro b _; rfl
      | cons x a ih =>
        intro b h
        simp only [List.cons_append, oneEach, Bool.and_eq_true, List.all_eq_true] at h ⊢
        exact ⟨fun y hy => h.1 y (List.mem_append_left _ hy), ih b h.2⟩
    exact key _ _ hone
  have fill_app : ∀ (L : List Oper) (vs : Nat → Value) (i : Nat) (a : Act), fillF (L ++ [oN]) vs i a = (fillF L vs i a).put oN.dst (vs (i + L.length)) := by
    intro L
    induction L with
    | nil => intro vs i a; rfl
    | cons x L ih =>
      intro vs i a
      show fillF (L ++ [oN]) vs (i + 1) (a.put x.dst (vs i)) = (fillF L vs (i + 1) (a.put x.dst (vs i))).put oN.dst _
      rw [ih, List.length_cons, show i + 1 + L.length = i + (L.length + 1) by omega]
  have htl : (l.take n).length = n := by rw [List.length_take]; omega
  obtain ⟨us, -, hq, hall⟩ := det_vals (l.take n) hone' a0 (l.take n) 0 (fun j => match (l.take n)[j]? with
    | some o => slotOf a0 o
    | none => undef) rfl (fun j o ho _ => by show (match (l.take n)[j]? with | some o => slotOf a0 o | none => undef) = _; rw [ho]) (by
      rw [fillF_self (l.take n) 0 a0 _ (fun k o ho => by rw [Nat.zero_add]; show (match (l.take n)[k]? with | some o => slotOf a0 o | none => undef) = _; rw [ho])]
      exact h)
  -- the frame of an operation in the text's order, and the one at hand
  have take_at : ∀ j p, (l.take (n + 1))[j]? = some p → j < n + 1 ∧ l[j]? = some p := fun j p hp => by
    have hj : j < n + 1 := by have := (List.getElem?_eq_some_iff.1 hp).1; simp at this; omega
    exact ⟨hj, by rw [List.getElem?_take_of_lt hj] at hp; exact hp⟩
  have same : ∀ (i : Nat) (hi : i < n + 1) (o : Oper) (ho : l[i]? = some o) (listed : Array Bool) (vs : Nat → Value), listed.getD i true = false → (∀ p q, listed.getD p false = true → depB l p q = true → listed.getD q false = true) → (∀ j, depB l i j = true → listed.getD j false = true) →
      (∀ j, j < n → listed.getD j false = true → vs j = us j) → (∀ j o, (l.take (n + 1))[j]? = some o → listed.getD j false = false → vs j = slotOf a0 o) →
      execOp (fillF (l.take (n + 1)) vs 0 a0).eval o = execOp (fillF (l.take n) (cutAt (l.take n) a0 us i) 0 a0).eval o ∧ Region.wanted o (yielded l.toArray (fillF (l.take (n + 1)) vs 0 a0).tmps) = Region.wanted o (yielded l.toArray (fillF (l.take n) (cutAt (l.take n) a0 us i) 0 a0).tmps) := by
    intro i hi o ho listed vs hun hcl hdeps hf hu
    have hs : ∀ cs b, o.op ≠ .select cs b := fun cs b => Region.noSelect_spec hsel i o cs b (by simpa using ho)
    have hw : fillF (l.take n) (cutAt (l.take n) a0 us i) 0 a0 = fillF (l.take (n + 1)) (cutAt (l.take (n + 1)) a0 us i) 0 a0 := by
      rw [hsucc, fill_app, Nat.zero_add, htl]
      have e1 : cutAt (l.take n ++ [oN]) a0 us i n = slotOf a0 oN := by
        unfold cutAt
        rw [if_neg (by omega), List.getElem?_append_right (by omega), htl, Nat.sub_self]
        rfl
      have e2 : fillF (l.take n) (cutAt (l.take n ++ [oN]) a0 us i) 0 a0 = fillF (l.take n) (cutAt (l.take n) a0 us i) 0 a0 := fillF_congr' _ _ _ 0 a0 (fun k p hp => by
        rw [Nat.zero_add]
        unfold cutAt
        rw [List.getElem?_append_left (List.getElem?_eq_some_iff.1 hp).1])
      rw [e1, e2]
      -- oN's slot still holds what it held
      have hsl : slotOf a0 oN = slotOf (fillF (l.take n) (cutAt (l.take n) a0 us i) 0 a0) oN := by
        unfold slotOf
        cases hd : oN.dst with
        | none => rfl
        | some t =>
          have hap : ∀ p ∈ l.take n, p.dst ≠ some t := by
            intro p hp e
            have h1 := hone
            rw [hsucc] at h1
            have key : ∀ (a : List Oper), oneEach (a ++ [oN]) = true → ∀ p ∈ a, p.dst ≠ oN.dst ∨ p.dst = none := by
              intro a
              induction a with
              | nil => intro _ p hp; cases hp
              | cons x a ih =>
                intro h p hp
                simp only [List.cons_append, oneEach, Bool.and_eq_true, List.all_eq_true] at h
                rcases List.mem_cons.1 hp with rfl | hp
                · have := h.1 oN (by simp)
                  simp only [bne_iff_ne, ne_eq, Bool.or_eq_true, beq_iff_eq] at this
                  rcases this with h | h
                  · exact .inl (Ne.symm h)
                  · exact .inr h
                · exact ih h.2 p hp
            rcases key _ h1 p hp with h | h
            · exact h (e.trans hd.symm)
            · rw [e] at h; cases h
          have key2 : ∀ (L : List Oper) (vs : Nat → Value) (i : Nat) (a : Act), (∀ p ∈ L, p.dst ≠ some t) → (fillF L vs i a).tmps.getD t undef = a.tmps.getD t undef := by
            intro L
            induction L with
            | nil => intro vs i a _; rfl
            | cons x L ih =>
              intro vs i a h
              show (fillF L vs (i + 1) (a.put x.dst (vs i))).tmps.getD t undef = _
              rw [ih _ _ _ (fun p hp => h p (List.mem_cons_of_mem _ hp))]
              have hx := h x (by simp)
              cases hxd : x.dst with
              | none => rfl
              | some u =>
                have hne : u ≠ t := fun e => hx (by rw [hxd, e])
                simp [Act.put, Array.getElem?_setIfInBounds_ne hne]
          exact (key2 _ _ _ _ hap).symm
      rw [hsl, put_self]
    rw [hw]
    refine exec_same (l := l) (a0 := a0) hs (l.take (n + 1)) hone (cutAt (l.take (n + 1)) a0 us i) vs (fun j p hp => ?_)
    obtain ⟨hjn, hp'⟩ := take_at j p hp
    by_cases hij : i = j
    · left
      subst hij
      unfold cutAt
      rw [if_neg (by omega), hp]
      exact (hu i p hp (getD_both hun)).symm
    · rcases hlook i hi j hjn with ((h1 | h1) | h1) | h1
      · exact absurd h1 hij
      · right
        intro d hpd
        rw [ho, hp'] at h1
        simp only [hpd] at h1
        intro hmem
        rw [List.contains_iff_mem.2 hmem] at h1
        cases h1
      · left
        have hji := path_lt hlow hin 3 i j h1
        have hl := path_ready hcl hdeps 3 j h1
        unfold cutAt
        rw [if_pos hji]
        exact (hf j (by omega) hl).symm
      · left
        have hji := path_lt hlow hin 3 j i h1
        have hl : listed.getD j false = false := by
          cases h3 : listed.getD j false with
          | false => rfl
          | true =>
            have := path_listed hcl 3 j i h3 h1
            rw [getD_both hun] at this; cases this
        unfold cutAt
        rw [if_neg (by omega), hp]
        exact (hu j p hp hl).symm
  refine wp_region_gen (n + 1) hm hB (fun i v w => if i < n then v = us i else G v w) (fun w => Below w0.heap.size w0 w) (fun w w' => Below w.heap.size w w') (fun w w' h k => below_step' h h.size k) (fun i v w w' h k => ?_) ⟨rfl, rfl, rfl, Nat.le_refl _, fun _ _ => rfl⟩ (fun i hi listed vs w K hc hun hcl hdeps hf hu hK => ?_) (fun vs w hc hf => ?_)
  · by_cases hi : i < n
    · rw [if_pos hi] at h ⊢; exact h
    · rw [if_neg hi] at h ⊢; exact hG v w w' h k
  · obtain ⟨o, ho⟩ : ∃ o, l[i]? = some o := ⟨_, List.getElem?_eq_getElem (by omega)⟩
    have hf' : ∀ j, j < n → listed.getD j false = true → vs j = us j := fun j hj hl => by have := (hf j hl).2; rw [if_pos hj] at this; exact this
    obtain ⟨e1, e2⟩ := same i hi o ho listed vs hun hcl hdeps hf' hu
    rw [ho] at hK
    by_cases hin' : i < n
    · have hot : (l.take n)[i]? = some o := by rw [List.getElem?_take_of_lt hin']; exact ho
      have hd := (hall i o (Nat.zero_le _) hot).of_same e1 e2
      exact hd.wpOp (by simpa using ho) hc (fun w' hw => hK (us i) w' (by rw [if_pos hin']) hw)
    · have hin'' : i = n := by omega
      subst hin''
      have : o = oN := Option.some.inj (ho.symm.trans hoN)
      subst this
      have hcut : fillF (l.take i) (cutAt (l.take i) a0 us i) 0 a0 = fillF (l.take i) us 0 a0 := fillF_congr' _ _ _ 0 a0 (fun k p hp => by
        rw [Nat.zero_add]
        unfold cutAt
        rw [if_pos (by have := (List.getElem?_eq_some_iff.1 hp).1; omega)])
      rw [hcut] at e1
      have hN : NewAt P w0 G o (fillF (l.take (i + 1)) vs 0 a0) := fun w hw => by rw [e1]; exact hq.1 w hw
      exact hN.wpOp (by simpa using ho) hgN hc (fun v w' hg hw => hK v w' (by rw [if_neg (by omega)]; exact hg) hw)
  · have e : fillF (l.take (n + 1)) vs 0 a0 = (fillF (l.take n) us 0 a0).put oN.dst (vs n) := by
      rw [hsucc, fill_app, Nat.zero_add, htl]
      congr 1
      exact fillF_congr' _ _ _ 0 a0 (fun k p hp => by
        rw [Nat.zero_add]
        have hk : k < n := by have := (List.getElem?_eq_some_iff.1 hp).1; omega
        have := hf k (by omega)
        rw [if_pos hk] at this
        exact this)
    rw [e]
    have := hf n (by omega)
    rw [if_neg (by omega)] at this
    exact hq.2 (vs n) w hc this
/-- The rule without a new thing: n values that do not hang on the order, then the forced tail. -/
theorem wp_region_det {id : Nat} {w0 : World} (n : Nat) (hm : P.follows .mixedOrders = true) (hB : factB l n = true) (hL : lookB l n = true)
    (h : wpDet P l.toArray w0 (fun a => ∀ w, Below w0.heap.size w0 w → wpList P l.toArray Q (l.drop n) a w) (l.take n) a0) : (Code.region id l.toArray true).wp P Q a0 w0 := by
  obtain ⟨hin, hlow, hone, hn⟩ := edges_of hB
  simp only [lookB, Bool.and_eq_true, List.all_eq_true, List.mem_range, Bool.or_eq_true, beq_iff_eq] at hL
  obtain ⟨hsel, hlook⟩ := hL
  obtain ⟨us, -, hq, hall⟩ := det_vals (l.take n) hone a0 (l.take n) 0 (fun j => match (l.take n)[j]? with
    | some o => slotOf a0 o
    | none => undef) rfl (fun j o ho _ => by show (match (l.take n)[j]? with | some o => slotOf a0 o | none => undef) = _; rw [ho]) (by
      rw [fillF_self (l.take n) 0 a0 _ (fun k o ho => by rw [Nat.zero_add]; show (match (l.take n)[k]? with | some o => slotOf a0 o | none => undef) = _; rw [ho])]
      exact h)
  refine wp_region_gen n hm hB (fun i v _ => v = us i) (fun w => Below w0.heap.size w0 w) (fun w w' => Below w.heap.size w w') (fun w w' h k => below_step' h h.size k) (fun _ _ _ _ h _ => h) ⟨rfl, rfl, rfl, Nat.le_refl _, fun _ _ => rfl⟩ (fun i hi listed vs w K hc hun hcl hdeps hf hu hK => ?_) (fun vs w hc hf => ?_)
  · obtain ⟨o, ho⟩ : ∃ o, l[i]? = some o := ⟨_, List.getElem?_eq_getElem (by omega)⟩
    have hot : (l.take n)[i]? = some o := by rw [List.getElem?_take_of_lt hi]; exact ho
    have hd := hall i o (Nat.zero_le _) hot
    have hs : ∀ cs b, o.op ≠ .select cs b := fun cs b => Region.noSelect_spec hsel i o cs b (by simpa using ho)
    obtain ⟨e1, e2⟩ := exec_same (l := l) (a0 := a0) hs (l.take n) hone (cutAt (l.take n) a0 us i) vs (fun j p hp => by
      have hjn : j < n := by have := (List.getElem?_eq_some_iff.1 hp).1; simp at this; omega
      have hp' : l[j]? = some p := by rw [List.getElem?_take_of_lt hjn] at hp; exact hp
      by_cases hij : i = j
      · left
        subst hij
        unfold cutAt
        rw [if_neg (by omega), hp]
        exact (hu i p hp (getD_both hun)).symm
      · rcases hlook i hi j hjn with ((h1 | h1) | h1) | h1
        · exact absurd h1 hij
        · right
          intro d hpd
          rw [ho, hp'] at h1
          simp only [hpd] at h1
          intro hmem
          rw [List.contains_iff_mem.2 hmem] at h1
          cases h1
        · left
          have hji := path_lt hlow hin 3 i j h1
          have hl := path_ready hcl hdeps 3 j h1
          unfold cutAt
          rw [if_pos hji]
          exact (hf j hl).2.symm
        · left
          have hji := path_lt hlow hin 3 j i h1
          have hl : listed.getD j false = false := by
            cases h3 : listed.getD j false with
            | false => rfl
            | true =>
              have := path_listed hcl 3 j i h3 h1
              rw [getD_both hun] at this; cases this
          unfold cutAt
          rw [if_neg (by omega), hp]
          exact (hu j p hp hl).symm)
    have hd' := hd.of_same e1 e2
    rw [ho] at hK
    exact hd'.wpOp (by simpa using ho) hc (fun w' hw => hK (us i) w' rfl hw)
  · have e : fillF (l.take n) vs 0 a0 = fillF (l.take n) us 0 a0 := fillF_congr' (l.take n) _ _ 0 a0 (fun k o ho => by
      rw [Nat.zero_add]
      exact hf k (by have := (List.getElem?_eq_some_iff.1 ho).1; simp at this; omega))
    rw [e]
    exact hq w hc
/-! ### several new blocks -/
/-- An operation that makes a new block. -/
def FreshAt (P : Program) (w0 : World) (G : Nat → World → Prop) (o : Oper) (a : Act) : Prop :=
  ∀ w, Below w0.heap.size w0 w → ∃ w', (execOp a.eval o).run P w = .ok (.value (.pointer (some ⟨w.heap.size, 0, none⟩))) w' ∧ Below w.heap.size w w' ∧ w.heap.size < w'.heap.size ∧ G w.heap.size w'
theorem fillF_app : ∀ (L T : List Oper) (vs : Nat → Value) (i : Nat) (a : Act), fillF (L ++ T) vs i a = fillF T vs (i + L.length) (fillF L vs i a)
  | [], T, vs, i, a => rfl
  | x :: L, T, vs, i, a => by
    show fillF (L ++ T) vs (i + 1) (a.put x.dst (vs i)) = fillF T vs (i + (L.length + 1)) (fillF L vs (i + 1) (a.put x.dst (vs i)))
    rw [fillF_app L T vs (i + 1), show i + 1 + L.length = i + (L.length + 1) by omega]
theorem oneEach_left : ∀ (a b : List Oper), oneEach (a ++ b) = true → oneEach a = true
  | [], _, _ => rfl
  | x :: a, b, h => by
    simp only [List.cons_append, oneEach, Bool.and_eq_true, List.all_eq_true] at h ⊢
    exact ⟨fun y hy => h.1 y (List.mem_append_left _ hy), oneEach_left a b h.2⟩
theorem oneEach_apart : ∀ (a b : List Oper), oneEach (a ++ b) = true → ∀ p ∈ a, ∀ o ∈ b, p.dst ≠ o.dst ∨ p.dst = none
  | [], _, _, p, hp, _, _ => by cases hp
  | x :: a, b, h, p, hp, o, ho => by
    simp only [List.cons_append, oneEach, Bool.and_eq_true, List.all_eq_true] at h
    rcases List.mem_cons.1 hp with rfl | hp
    · have := h.1 o (List.mem_append_right _ ho)
      simp only [bne_iff_ne, ne_eq, Bool.or_eq_true, beq_iff_eq] at this
      rcases this with h | h
      · exact .inl (Ne.symm h)
      · exact .inr h
    · exact oneEach_apart a b h.2 p hp o ho
theorem slotOf_fillF : ∀ (L : List Oper) (vs : Nat → Value) (i : Nat) (a : Act) (o : Oper), (∀ p ∈ L, p.dst ≠ o.dst ∨ p.dst = none) → slotOf (fillF L vs i a) o = slotOf a o
  | [], _, _, _, _, _ => rfl
  | x :: L, vs, i, a, o, h => by
    show slotOf (fillF L vs (i + 1) (a.put x.dst (vs i))) o = _
    rw [slotOf_fillF L vs (i + 1) _ o (fun p hp => h p (List.mem_cons_of_mem _ hp))]
    unfold slotOf
    cases ho : o.dst with
    | none => rfl
    | some t =>
      have hx := h x (by simp)
      cases hxd : x.dst with
      | none => rfl
      | some u =>
        have hne : u ≠ t := fun e => by
          rcases hx with h | h
          · exact h (by rw [hxd, ho, e])
          · rw [hxd] at h; cases h
        simp [Act.put, Array.getElem?_setIfInBounds_ne hne]
def ptrs (gs : Nat → Nat) : Nat → Value := fun i => .pointer (some ⟨gs i, 0, none⟩)
/-- The rule: n values that do not hang on the order, then some new blocks, then the forced tail. -/
theorem wp_region_news {id : Nat} {w0 : World} (n N : Nat) (hnN : n ≤ N) (T : List Oper) (hT : l.take N = l.take n ++ T) (hgT : (T.all fun o => o.guard == none && o.op.operands.isEmpty) = true) (G : Nat → Nat → World → Prop) (hG : ∀ i g w w', G i g w → g < w.heap.size → Below w.heap.size w w' → G i g w')
    (hm : P.follows .mixedOrders = true) (hB : factB l N = true) (hL : lookB l N = true)
    (hnew : ∀ k o, T[k]? = some o → ∀ a, FreshAt P w0 (G k) o a)
    (h : wpDet P l.toArray w0 (fun a => ∀ (gs : Nat → Nat) w, Below w0.heap.size w0 w → (∀ k, k < T.length → w0.heap.size ≤ gs k ∧ gs k < w.heap.size ∧ G k (gs k) w) → (∀ j k, j < T.length → k < T.length → j ≠ k → gs j ≠ gs k) → wpList P l.toArray Q (l.drop N) (fillF T (ptrs gs) 0 a) w) (l.take n) a0) : (Code.region id l.toArray true).wp P Q a0 w0 := by
  obtain ⟨hin, hlow, hone, hn⟩ := edges_of hB
  simp only [lookB, Bool.and_eq_true, List.all_eq_true, List.mem_range, Bool.or_eq_true, beq_iff_eq] at hL
  obtain ⟨hsel, hlook⟩ := hL
  have htl : (l.take n).length = n := by rw [List.length_take]; omega
  have hTl : T.length = N - n := by
    have := congrArg List.length hT
    rw [List.length_append, htl, List.length_take] at this
    omega
  have hone2 := hone
  rw [hT] at hone2
  have hone' : oneEach (l.take n) = true := oneEach_left _ _ hone2
  have hTat : ∀ k o, T[k]? = some o → l[n + k]? = some o := fun k o ho => by
    have hk : n + k < N := by have := (List.getElem?_eq_some_iff.1 ho).1; omega
    have : (l.take N)[n + k]? = some o := by rw [hT, List.getElem?_append_right (by omega), htl, Nat.add_sub_cancel_left]; exact ho
    rw [List.getElem?_take_of_lt hk] at this
    exact this
  obtain ⟨us, -, hq, hall⟩ := det_vals (l.take n) hone' a0 (l.take n) 0 (fun j => match (l.take n)[j]? with
    | some o => slotOf a0 o
    | none => undef) rfl (fun j o ho _ => by show (match (l.take n)[j]? with | some o => slotOf a0 o | none => undef) = _; rw [ho]) (by
      rw [fillF_self (l.take n) 0 a0 _ (fun k o ho => by rw [Nat.zero_add]; show (match (l.take n)[k]? with | some o => slotOf a0 o | none => undef) = _; rw [ho])]
      exact h)
  have take_at : ∀ j p, (l.take N)[j]? = some p → j < N ∧ l[j]? = some p := fun j p hp => by
    have hj : j < N := by have := (List.getElem?_eq_some_iff.1 hp).1; simp at this; omega
    exact ⟨hj, by rw [List.getElem?_take_of_lt hj] at hp; exact hp⟩
  have same : ∀ (i : Nat) (hi : i < n) (o : Oper) (ho : l[i]? = some o) (listed : Array Bool) (vs : Nat → Value), listed.getD i true = false → (∀ p q, listed.getD p false = true → depB l p q = true → listed.getD q false = true) → (∀ j, depB l i j = true → listed.getD j false = true) →
      (∀ j, j < n → listed.getD j false = true → vs j = us j) → (∀ j o, (l.take N)[j]? = some o → listed.getD j false = false → vs j = slotOf a0 o) →
      execOp (fillF (l.take N) vs 0 a0).eval o = execOp (fillF (l.take n) (cutAt (l.take n) a0 us i) 0 a0).eval o ∧ Region.wanted o (yielded l.toArray (fillF (l.take N) vs 0 a0).tmps) = Region.wanted o (yielded l.toArray (fillF (l.take n) (cutAt (l.take n) a0 us i) 0 a0).tmps) := by
    intro i hi o ho listed vs hun hcl hdeps hf hu
    have hs : ∀ cs b, o.op ≠ .select cs b := fun cs b => Region.noSelect_spec hsel i o cs b (by simpa using ho)
    have hw : fillF (l.take n) (cutAt (l.take n) a0 us i) 0 a0 = fillF (l.take N) (cutAt (l.take N) a0 us i) 0 a0 := by
      rw [hT, fillF_app, Nat.zero_add, htl]
      have e2 : fillF (l.take n) (cutAt (l.take n ++ T) a0 us i) 0 a0 = fillF (l.take n) (cutAt (l.take n) a0 us i) 0 a0 := fillF_congr' _ _ _ 0 a0 (fun k p hp => by
        rw [Nat.zero_add]
        unfold cutAt
        rw [List.getElem?_append_left (List.getElem?_eq_some_iff.1 hp).1])
      rw [e2]
      refine (fillF_self T n _ _ (fun k p hp => ?_)).symm
      rw [slotOf_fillF _ _ _ _ _ (fun q hq => oneEach_apart _ _ hone2 q hq p (List.mem_of_getElem? hp))]
      unfold cutAt
      rw [if_neg (by omega), List.getElem?_append_right (by omega), htl, Nat.add_sub_cancel_left, hp]
    rw [hw]
    refine exec_same (l := l) (a0 := a0) hs (l.take N) hone (cutAt (l.take N) a0 us i) vs (fun j p hp => ?_)
    obtain ⟨hjn, hp'⟩ := take_at j p hp
    by_cases hij : i = j
    · left
      subst hij
      unfold cutAt
      rw [if_neg (by omega), hp]
      exact (hu i p hp (getD_both hun)).symm
    · rcases hlook i (by omega) j hjn with ((h1 | h1) | h1) | h1
      · exact absurd h1 hij
      · right
        intro d hpd
        rw [ho, hp'] at h1
        simp only [hpd] at h1
        intro hmem
        rw [List.contains_iff_mem.2 hmem] at h1
        cases h1
      · left
        have hji := path_lt hlow hin 3 i j h1
        have hl := path_ready hcl hdeps 3 j h1
        unfold cutAt
        rw [if_pos hji]
        exact (hf j (by omega) hl).symm
      · left
        have hji := path_lt hlow hin 3 j i h1
        have hl : listed.getD j false = false := by
          cases h3 : listed.getD j false with
          | false => rfl
          | true =>
            have := path_listed hcl 3 j i h3 h1
            rw [getD_both hun] at this; cases this
        unfold cutAt
        rw [if_neg (by omega), hp]
        exact (hu j p hp hl).symm
  refine wp_region_joint N hm hB (fun i v w => if i < n then v = us i else ∃ g, v = .pointer (some ⟨g, 0, none⟩) ∧ w0.heap.size ≤ g ∧ g < w.heap.size ∧ G (i - n) g w) (fun i j u v => n ≤ i → n ≤ j → u ≠ v) (fun w => Below w0.heap.size w0 w) (fun w w' => Below w.heap.size w w') (fun w w' h k => below_step' h h.size k) (fun i v w w' h k => ?_) ⟨rfl, rfl, rfl, Nat.le_refl _, fun _ _ => rfl⟩ (fun i hi listed vs w K hc hun hcl hdeps hf hu hK => ?_) (fun vs w hc hf hj => ?_)
  · by_cases hi : i < n
    · rw [if_pos hi] at h ⊢; exact h
    · rw [if_neg hi] at h ⊢
      obtain ⟨g, h1, h2, h3, h4⟩ := h
      exact ⟨g, h1, h2, Nat.lt_of_lt_of_le h3 k.size, hG _ _ _ _ h4 h3 k⟩
  · obtain ⟨o, ho⟩ : ∃ o, l[i]? = some o := ⟨_, List.getElem?_eq_getElem (by omega)⟩
    rw [ho] at hK
    by_cases hin' : i < n
    · have hf' : ∀ j, j < n → listed.getD j false = true → vs j = us j := fun j hj hl => by have := (hf j hl).2; rw [if_pos hj] at this; exact this
      obtain ⟨e1, e2⟩ := same i hin' o ho listed vs hun hcl hdeps hf' hu
      have hot : (l.take n)[i]? = some o := by rw [List.getElem?_take_of_lt hin']; exact ho
      have hd := (hall i o (Nat.zero_le _) hot).of_same e1 e2
      exact hd.wpOp (by simpa using ho) hc (fun w' hw => hK (us i) w' (by rw [if_pos hin']) hw (fun j _ => ⟨fun h _ => by omega, fun _ h => by omega⟩))
    · have hTi : T[i - n]? = some o := by
        have : (l.take N)[i]? = some o := by rw [List.getElem?_take_of_lt hi]; exact ho
        rw [hT, List.getElem?_append_right (by omega), htl] at this
        exact this
      have hg : o.guard = none := by
        have := List.all_eq_true.1 hgT o (List.mem_of_getElem? hTi)
        simp only [Bool.and_eq_true, beq_iff_eq] at this
        exact this.1
      obtain ⟨w', hrun, hbw, hlt, hGw⟩ := hnew (i - n) o hTi (fillF (l.take N) vs 0 a0) w hc
      unfold Go.wpOp
      have ho' : l.toArray[i]? = some o := by simpa using ho
      simp only [ho']
      have hb : Region.wanted o (yielded l.toArray (fillF (l.take N) vs 0 a0).tmps) = true := by unfold Region.wanted; rw [hg]
      simp only [hb, if_true]
      left
      unfold Oper.wp
      rw [hrun]
      simp only [Oper.upon]
      refine hK _ w' ?_ hbw (fun j hl => ⟨fun _ hjn e => ?_, fun hjn _ e => ?_⟩)
      · rw [if_neg hin']
        exact ⟨_, rfl, hc.size, hlt, hGw⟩
      · have := (hf j hl).2
        rw [if_neg (by omega)] at this
        obtain ⟨g, h1, _, h3, _⟩ := this
        rw [h1] at e
        simp only [Value.pointer.injEq, Option.some.injEq, Addr.mk.injEq, and_true] at e
        omega
      · have := (hf j hl).2
        rw [if_neg (by omega)] at this
        obtain ⟨g, h1, _, h3, _⟩ := this
        rw [h1] at e
        simp only [Value.pointer.injEq, Option.some.injEq, Addr.mk.injEq, and_true] at e
        omega
  · have hgs : ∀ k, ∃ g, k < T.length → vs (n + k) = .pointer (some ⟨g, 0, none⟩) ∧ w0.heap.size ≤ g ∧ g < w.heap.size ∧ G k g w := fun k => by
      by_cases hk : k < T.length
      · have := hf (n + k) (by omega)
        rw [if_neg (by omega)] at this
        obtain ⟨g, h1, h2, h3, h4⟩ := this
        rw [Nat.add_sub_cancel_left] at h4
        exact ⟨g, fun _ => ⟨h1, h2, h3, h4⟩⟩
      · exact ⟨0, fun h => absurd h hk⟩
    obtain ⟨gs, hgs⟩ := Classical.axiomOfChoice hgs
    have e : fillF (l.take N) vs 0 a0 = fillF T (ptrs gs) 0 (fillF (l.take n) us 0 a0) := by
      rw [hT, fillF_app, Nat.zero_add, htl]
      have e1 : fillF (l.take n) vs 0 a0 = fillF (l.take n) us 0 a0 := fillF_congr' _ _ _ 0 a0 (fun k p hp => by
        rw [Nat.zero_add]
        have hk : k < n := by have := (List.getElem?_eq_some_iff.1 hp).1; omega
        have := hf k (by omega)
        rw [if_pos hk] at this
        exact this)
      rw [e1]
      have shift : ∀ (T : List Oper) (vs us : Nat → Value) (i j : Nat) (a : Act), (∀ k o, T[k]? = some o → vs (i + k) = us (j + k)) → fillF T vs i a = fillF T us j a := by
        intro T
        induction T with
        | nil => intro vs us i j a _; rfl
        | cons x T ih =>
          intro vs us i j a h
          show fillF T vs (i + 1) (a.put x.dst (vs i)) = fillF T us (j + 1) (a.put x.dst (us j))
          rw [show vs i = us j from h 0 x rfl]
          exact ih vs us (i + 1) (j + 1) _ (fun k p hp => by rw [show i + 1 + k = i + (k + 1) by omega, show j + 1 + k = j + (k + 1) by omega]; exact h (k + 1) p (by simpa using hp))
      refine shift T vs (ptrs gs) n 0 _ (fun k p hp => ?_)
      rw [Nat.zero_add]
      exact (hgs k (List.getElem?_eq_some_iff.1 hp).1).1
    rw [e]
    refine hq gs w hc (fun k hk => (hgs k hk).2) (fun j k hj' hk hne e' => ?_)
    refine hj (n + j) (n + k) (by omega) (by omega) (by omega) (by omega) (by omega) ?_
    rw [(hgs j hj').1, (hgs k hk).1, e']
end
/-! ### steps -/
theorem wpDet_plain {P : Program} {ops : Array Oper} {w0 : World} {Q : Act → Prop} {o : Oper} {rest : List Oper} {a : Act} (v : Value) (hg : o.guard = none) (h1 : ∀ w, Below w0.heap.size w0 w → DetV P v w ((execOp a.eval o).run P w))
    (h2 : wpDet P ops w0 Q rest (a.put o.dst v)) : wpDet P ops w0 Q (o :: rest) a :=
  ⟨v, .inl ⟨by unfold Region.wanted; rw [hg], h1⟩, h2⟩
theorem wpDet_want {P : Program} {ops : Array Oper} {w0 : World} {Q : Act → Prop} {o : Oper} {rest : List Oper} {a : Act} (v : Value) (hg : Region.wanted o (yielded ops a.tmps) = true) (h1 : ∀ w, Below w0.heap.size w0 w → DetV P v w ((execOp a.eval o).run P w))
    (h2 : wpDet P ops w0 Q rest (a.put o.dst v)) : wpDet P ops w0 Q (o :: rest) a :=
  ⟨v, .inl ⟨hg, h1⟩, h2⟩
theorem wpDet_skip {P : Program} {ops : Array Oper} {w0 : World} {Q : Act → Prop} {o : Oper} {rest : List Oper} {a : Act} (hg : Region.wanted o (yielded ops a.tmps) = false)
    (h2 : wpDet P ops w0 Q rest (a.put o.dst undef)) : wpDet P ops w0 Q (o :: rest) a :=
  ⟨undef, .inr ⟨hg, rfl⟩, h2⟩
theorem wpDet_nil {P : Program} {ops : Array Oper} {w0 : World} {Q : Act → Prop} {a : Act} (h : Q a) : wpDet P ops w0 Q [] a := h
theorem detV_value {P : Program} {v u : Value} {w w' : World} : DetV P v w (.ok (.value u) w') = (u = v ∧ Below w.heap.size w w') := rfl
theorem detV_skip {P : Program} {v : Value} {w w' : World} : DetV P v w (.ok .skip w') = (v = undef ∧ Below w.heap.size w w') := rfl
theorem detV_enter {P : Program} {v : Value} {w w' : World} {f : FuncId} {args : Array Value} : DetV P v w (.ok (.enter f args) w') = (w' = w ∧ Calls P f args w (fun e w'' => e = .returned v ∧ Below w.heap.size w w'')) := rfl
theorem newV_value {G : Value → World → Prop} {u : Value} {w w' : World} : NewV G w (.ok (.value u) w') = (G u w' ∧ Below w.heap.size w w') := rfl
/-- A whole array or struct loaded. -/
theorem detV_load {P : Program} {o : Oper} {a : Act} {w : World} (T : TypeId) (x : Operand) (ho : o.op = .load T x) {v : Value} (h : (Instr.loadAt T (a.eval x)).run P w = .ok v w) : DetV P v w ((execOp a.eval o).run P w) := by
  have e : (execOp a.eval o).run P w = .ok (.value v) w := by
    unfold execOp
    rw [ho]
    simp only []
    generalize Instr.loadAt T (a.eval x) = m at h ⊢
    simp [h, go_sem]
  rw [e]
  exact ⟨rfl, Below.refl _ _⟩
attribute [go_sem] detV_value detV_skip detV_enter newV_value
end Go.Proofs.YtpneoaehkibdeaaDoor
