/-
  A RULE for a region that draws its order of evaluation: a fact for each operation's slot, said of the value and the world, that every later step keeps; each operation is walked once, out of the facts of those that it waits for; a forced tail is walked behind them.
  CONDITIONS: the theorem's own hypotheses.
-/
import Derived.RegionTactic
import Derived.StillTail
namespace Go.Proofs.YtmldhnghfdhjmaaDoor
open Go

/-- The frame with the operations' slots filled. -/
def fillF : List Oper → (Nat → Value) → Nat → Act → Act
  | [], _, _, a => a
  | o :: l, vs, i, a => fillF l vs (i + 1) (a.put o.dst (vs i))
def upd (vs : Nat → Value) (k : Nat) (v : Value) : Nat → Value := fun j => if j = k then v else vs j
/-- What a slot held ahead of the region. -/
def slotOf (a : Act) (o : Oper) : Value := match o.dst with
  | some t => a.tmps.getD t undef
  | none => undef
/-- No two operations write one slot. -/
def oneEach : List Oper → Bool
  | [] => true
  | o :: l => (l.all fun p => p.dst != o.dst || o.dst == none) && oneEach l

theorem put_put (a : Act) (d : Option Tmp) (v u : Value) : (a.put d v).put d u = a.put d u := by
  cases d <;> simp [Act.put]
theorem put_comm (a : Act) (d e : Option Tmp) (v u : Value) (h : e ≠ d ∨ d = none) : (a.put d v).put e u = (a.put e u).put d v := by
  cases d with
  | none => rfl
  | some x =>
    cases e with
    | none => rfl
    | some y =>
      have : x ≠ y := by
        rcases h with h | h
        · intro e; exact h (by rw [e])
        · cases h
      simp only [Act.put]
      rw [Array.setIfInBounds_comm _ _ this]
theorem put_self (a : Act) (o : Oper) : a.put o.dst (slotOf a o) = a := by
  unfold slotOf Act.put
  cases o.dst with
  | none => rfl
  | some t =>
    obtain ⟨tm, df⟩ := a
    simp only [Act.mk.injEq, and_true]
    apply Array.ext
    · simp
    · intro i h1 h2
      rw [Array.getElem_setIfInBounds]
      split
      · rename_i e; subst e; simp [h2]
      · rfl
theorem fillF_put_apart : ∀ (l : List Oper) (vs : Nat → Value) (i : Nat) (a : Act) (d : Option Tmp) (v : Value), (∀ p ∈ l, p.dst ≠ d ∨ d = none) → (fillF l vs i a).put d v = fillF l vs i (a.put d v)
  | [], _, _, _, _, _, _ => rfl
  | o :: l, vs, i, a, d, v, h => by
    show (fillF l vs (i + 1) (a.put o.dst (vs i))).put d v = fillF l vs (i + 1) ((a.put d v).put o.dst (vs i))
    rw [fillF_put_apart l vs (i + 1) _ d v (fun p hp => h p (List.mem_cons_of_mem _ hp)), put_comm a d o.dst v (vs i) (h o (List.mem_cons_self ..))]
theorem fillF_congr : ∀ (l : List Oper) (vs us : Nat → Value) (i : Nat) (a : Act), (∀ j, i ≤ j → vs j = us j) → fillF l vs i a = fillF l us i a
  | [], _, _, _, _, _ => rfl
  | o :: l, vs, us, i, a, h => by
    show fillF l vs (i + 1) (a.put o.dst (vs i)) = fillF l us (i + 1) (a.put o.dst (us i))
    rw [h i (Nat.le_refl _)]
    exact fillF_congr l vs us (i + 1) _ (fun j hj => h j (by omega))
theorem fillF_put : ∀ (l : List Oper) (vs : Nat → Value) (i : Nat) (a : Act) (k : Nat) (o : Oper) (v : Value), l[k]? = some o → oneEach l = true → (fillF l vs i a).put o.dst v = fillF l (upd vs (i + k) v) i a
  | [], _, _, _, _, _, _, h, _ => by simp at h
  | p :: l, vs, i, a, 0, o, v, h, h1 => by
    simp at h; subst h
    simp only [oneEach, Bool.and_eq_true, List.all_eq_true] at h1
    show (fillF l vs (i + 1) (a.put p.dst (vs i))).put p.dst v = fillF l (upd vs (i + 0) v) (i + 1) (a.put p.dst (upd vs (i + 0) v i))
    rw [fillF_put_apart l vs (i + 1) _ p.dst v (fun q hq => by have := h1.1 q hq; simpa using this), put_put]
    have e : upd vs (i + 0) v i = v := by simp [upd]
    rw [e]
    refine fillF_congr l _ _ _ _ (fun j hj => ?_)
    unfold upd
    rw [if_neg (by omega)]
  | p :: l, vs, i, a, k + 1, o, v, h, h1 => by
    simp only [oneEach, Bool.and_eq_true] at h1
    have h' : l[k]? = some o := by simpa using h
    show (fillF l vs (i + 1) (a.put p.dst (vs i))).put o.dst v = fillF l (upd vs (i + (k + 1)) v) (i + 1) (a.put p.dst (upd vs (i + (k + 1)) v i))
    have e : upd vs (i + (k + 1)) v i = vs i := by unfold upd; rw [if_neg (by omega)]
    rw [e, fillF_put l vs (i + 1) _ k o v h' h1.2, show i + 1 + k = i + (k + 1) by omega]
theorem fillF_self : ∀ (l : List Oper) (i : Nat) (a : Act) (vs : Nat → Value), (∀ k o, l[k]? = some o → vs (i + k) = slotOf a o) → fillF l vs i a = a
  | [], _, _, _, _ => rfl
  | o :: l, i, a, vs, h => by
    show fillF l vs (i + 1) (a.put o.dst (vs i)) = a
    have h0 : vs i = slotOf a o := h 0 o rfl
    rw [h0, put_self]
    exact fillF_self l (i + 1) a vs (fun k p hp => by rw [show i + 1 + k = i + (k + 1) by omega]; exact h (k + 1) p (by simpa using hp))

/-- Operation i waits for operation j. -/
def depB (l : List Oper) (i j : Nat) : Bool := Region.waitsFor .any l.toArray i j
def startAt (m n : Nat) : Array Bool := ((List.range m).map fun i => decide (i < n)).toArray
def factB (l : List Oper) (n : Nat) : Bool :=
  oneEach (l.take n) && decide (n ≤ l.length) && ((List.range l.length).all fun i => (List.range l.length).all fun j => !depB l i j || decide (j < i)) &&
  (n == l.length || (decide (n < l.length) && Region.sinkB .any l.toArray n && Region.chainB .any l.toArray n)) && Region.seqB .any l.toArray (l.drop n).length n (startAt l.length n) && ((startAt l.length n).toList.count false == (l.drop n).length) &&
  ((List.range l.length).all fun i => (((l[i]?).map fun o => o.after.all fun e => !Region.binds .any e || decide (e.on < l.length)).getD false))

theorem depB_of {l : List Oper} {i : Nat} {o : Oper} {e : Edge} (ho : l[i]? = some o) (he : e ∈ o.after) (hb : Region.binds .any e = true) : depB l i e.on = true := by
  unfold depB Region.waitsFor
  have : l.toArray[i]? = some o := by simpa using ho
  rw [this]
  exact Array.any_eq_true'.2 ⟨e, he, by simp [hb]⟩
theorem ready_iff {l : List Oper} {listed : Array Bool} {i : Nat} : i ∈ Region.ready .any l.toArray listed ↔ listed.getD i true = false ∧ i < l.length ∧ ∀ j, depB l i j = true → listed.getD j false = true := by
  rw [mem_ready]
  constructor
  · rintro ⟨h1, o, ho, h⟩
    have ho' : l[i]? = some o := by simpa using ho
    refine ⟨h1, (List.getElem?_eq_some_iff.1 ho').1, fun j hj => ?_⟩
    obtain ⟨o', ho2, e, he, hb, hon⟩ := Region.waitsFor_spec hj
    obtain rfl : o' = o := Option.some.inj (ho2.symm.trans ho)
    rw [← hon]; exact h e he hb
  · rintro ⟨h1, h2, h⟩
    refine ⟨h1, l[i], by simp [h2], fun e he hb => h e.on (depB_of (List.getElem?_eq_getElem h2) he hb)⟩
theorem count_set (listed : Array Bool) (i : Nat) (h : listed.getD i true = false) : (listed.setIfInBounds i true).toList.count false + 1 = listed.toList.count false := by
  have hi : i < listed.size := by
    rcases Nat.lt_or_ge i listed.size with h' | h'
    · exact h'
    · simp [Array.getElem?_eq_none h'] at h
  have hv : listed[i] = false := by simpa [hi] using h
  rw [Array.toList_setIfInBounds, List.count_set (by simpa using hi)]
  have hm : false ∈ listed.toList := by rw [← hv]; simp
  have hpos := List.count_pos_iff.2 hm
  have hg : listed.toList[i]'(by simpa using hi) = false := by simpa using hv
  rw [hg]
  have e1 : (false == false) = true := rfl
  have e2 : (true == false) = false := rfl
  rw [e1, e2, if_pos rfl, if_neg (by decide)]
  omega
theorem count_zero {listed : Array Bool} (h : listed.toList.count false = 0) (i : Nat) : listed.getD i true = true := by
  have := List.count_eq_zero.1 h
  rcases Nat.lt_or_ge i listed.size with h' | h'
  · simp only [Array.getD_eq_getD_getElem?, Array.getElem?_eq_getElem h', Option.getD_some]
    cases hv : listed[i] with
    | true => rfl
    | false => exact absurd (by rw [← hv]; simp) this
  · simp [Array.getElem?_eq_none h']

section
variable {P : Program} {l : List Oper} {Q : Exit → Act → World → Prop} {a0 : Act}

structure FInv (l : List Oper) (n : Nat) (F : Nat → Value → World → Prop) (J : Nat → Nat → Value → Value → Prop) (C : World → Prop) (a0 : Act) (listed : Array Bool) (a : Act) (w : World) : Prop where
  size : listed.size = l.length
  closed : ∀ i j, listed.getD i false = true → depB l i j = true → listed.getD j false = true
  tail : ∀ t, n ≤ t → t < l.length → listed.getD t true = false
  cls : C w
  vals : ∃ vs : Nat → Value, a = fillF (l.take n) vs 0 a0 ∧ (∀ i, i < n → listed.getD i true = true → F i (vs i) w) ∧ (∀ i o, (l.take n)[i]? = some o → listed.getD i true = false → vs i = slotOf a0 o) ∧ (∀ i j, i < n → j < n → i ≠ j → listed.getD i true = true → listed.getD j true = true → J i j (vs i) (vs j))

theorem wp_region_joint {id : Nat} {w0 : World} (n : Nat) (hm : P.follows .mixedOrders = true) (hB : factB l n = true)
    (F : Nat → Value → World → Prop) (J : Nat → Nat → Value → Value → Prop) (C : World → Prop) (E : World → World → Prop)
    (hC : ∀ w w', C w → E w w' → C w') (hF : ∀ i v w w', F i v w → E w w' → F i v w') (h0 : C { w0 with drawn := w0.drawn + 1 })
    (hstep : ∀ i, i < n → ∀ (listed : Array Bool) (vs : Nat → Value) (w : World) (K : Act → World → Prop), C w → listed.getD i true = false → (∀ p q, listed.getD p false = true → depB l p q = true → listed.getD q false = true) → (∀ j, depB l i j = true → listed.getD j false = true) →
      (∀ j, listed.getD j false = true → j < n ∧ F j (vs j) w) → (∀ j o, (l.take n)[j]? = some o → listed.getD j false = false → vs j = slotOf a0 o) →
      (∀ v w', F i v w' → E w w' → (∀ j, listed.getD j false = true → J i j v (vs j) ∧ J j i (vs j) v) → K ((fillF (l.take n) vs 0 a0).put ((l[i]?).bind (·.dst)) v) w') → wpOp P l.toArray Q i K (fillF (l.take n) vs 0 a0) w)
    (hdone : ∀ (vs : Nat → Value) (w : World), C w → (∀ i, i < n → F i (vs i) w) → (∀ i j, i < n → j < n → i ≠ j → J i j (vs i) (vs j)) → wpList P l.toArray Q (l.drop n) (fillF (l.take n) vs 0 a0) w) :
    (Code.region id l.toArray true).wp P Q a0 w0 := by
  simp only [factB, Bool.and_eq_true, decide_eq_true_eq, List.all_eq_true, List.mem_range, Bool.or_eq_true, beq_iff_eq] at hB
  obtain ⟨⟨⟨⟨⟨⟨hone, hn⟩, hlow⟩, hsc⟩, hseq⟩, hcnt⟩, hin⟩ := hB
  have main : ∀ (fuel : Nat) (listed : Array Bool) (a : Act) (w : World), listed.toList.count false = fuel → FInv l n F J C a0 listed a w → wpAny P .any l.toArray Q fuel listed a w := by
    intro fuel
    induction fuel with
    | zero =>
      intro listed a w hc inv
      obtain ⟨vs, ha, hf, -, hj⟩ := inv.vals
      have hall := count_zero hc
      have hln : n = l.length := by
        rcases Nat.lt_or_ge n l.length with h | h
        · have h1 := inv.tail n (Nat.le_refl _) h
          rw [hall n] at h1; cases h1
        · omega
      have hr : Region.ready .any l.toArray listed = [] := by
        apply List.eq_nil_iff_forall_not_mem.2
        intro i hi
        have h1 := (ready_iff.1 hi).1
        rw [hall i] at h1; cases h1
      have hd := hdone vs w inv.cls (fun i hi => hf i hi (hall i)) (fun i j hi hj2 hne => hj i j hi hj2 hne (hall i) (hall j))
      rw [List.drop_of_length_le (by omega)] at hd
      exact ⟨hr, by rw [ha]; exact hd⟩
    | succ fuel ih =>
      intro listed a w hc inv
      obtain ⟨vs, ha, hf, hu, hjj⟩ := inv.vals
      by_cases hd : ∃ i, i < n ∧ listed.getD i true = false
      · -- the head is not complete
        have hleast : ∃ i, i < n ∧ i ∈ Region.ready .any l.toArray listed := by
          obtain ⟨i, hi⟩ := hd
          induction i using Nat.strongRecOn with
          | _ i ihi =>
            by_cases hall : ∀ j, depB l i j = true → listed.getD j false = true
            · exact ⟨i, hi.1, ready_iff.2 ⟨hi.2, by omega, hall⟩⟩
            · simp only [Classical.not_forall] at hall
              obtain ⟨j, hj, hlj⟩ := hall
              obtain ⟨o, ho, e, he, hb, hon⟩ := Region.waitsFor_spec hj
              have hjl : j < l.length := by
                have h1 := hin i (by omega)
                have ho' : l[i]? = some o := by simpa using ho
                rw [ho'] at h1
                simp only [Option.map_some, Option.getD_some, Array.all_eq_true'] at h1
                have h2 := h1 e he
                rw [hb] at h2
                simp only [Bool.not_true, Bool.false_or, decide_eq_true_eq] at h2
                omega
              have hji : j < i := by
                have h1 := hlow i (by omega) j hjl
                rcases h1 with h1 | h1
                · rw [hj] at h1; cases h1
                · exact h1
              have hlj' : listed.getD j true = false := by
                have : listed.getD j false = false := by cases h : listed.getD j false <;> simp_all
                exact getD_in (by rw [inv.size]; exact hjl) this
              exact ihi j hji ⟨by omega, hlj'⟩
        refine ⟨fun hr => ?_, fun i hi => ?_⟩
        · obtain ⟨i, _, hi⟩ := hleast
          rw [hr] at hi; cases hi
        · obtain ⟨hiun, hil, hideps⟩ := ready_iff.1 hi
          have hin' : i < n := by
            rcases Nat.lt_or_ge i n with h | h
            · exact h
            · rcases hsc with h1 | h1
              · omega
              · obtain ⟨⟨h2, h3⟩, h4⟩ := h1
                obtain ⟨k, hk, hkun⟩ := hd
                have hinv : HeadInv .any l.toArray n listed := ⟨by simpa using inv.size, fun j oj hj hl e he hb => inv.closed j e.on hl (depB_of (by simpa using hj) he hb), fun t ht ht' => inv.tail t ht (by simpa using ht')⟩
                exact absurd hi (tail_waits h3 h4 (by simpa using h2) hinv _ k rfl hk hkun i h)
          obtain ⟨o, ho⟩ : ∃ o, l[i]? = some o := ⟨_, List.getElem?_eq_getElem hil⟩
          have hot : (l.take n)[i]? = some o := by rw [List.getElem?_take_of_lt hin']; exact ho
          subst ha
          have hjn : ∀ j, listed.getD j false = true → j < n := fun j hj => by
            rcases Nat.lt_or_ge j n with h | h
            · exact h
            · rcases Nat.lt_or_ge j l.length with h' | h'
              · have h2 := inv.tail j h h'
                rw [getD_both h2] at hj; cases hj
              · have : listed.getD j false = false := by simp [Array.getElem?_eq_none (show listed.size ≤ j by rw [inv.size]; exact h')]
                rw [this] at hj; cases hj
          refine hstep i hin' listed vs w _ inv.cls hiun inv.closed hideps (fun j hj => ⟨hjn j hj, ?_⟩) (fun j p hp hw => ?_) (fun v w' hv he hjv => ?_)
          · refine hf j (hjn j hj) ?_
            cases h3 : listed.getD j true with
            | true => rfl
            | false => rw [getD_both h3] at hj; cases hj
          · refine hu j p hp (getD_in ?_ hw)
            have := (List.getElem?_eq_some_iff.1 hp).1
            rw [inv.size]
            simp at this; omega
          · rw [ho]
            simp only [Option.bind_some]
            rw [fillF_put (l.take n) vs 0 a0 i o v hot hone, Nat.zero_add]
            refine ih _ _ _ ?_ ⟨by simp [inv.size], fun p q hp hq => ?_, fun t ht ht' => by rw [getD_set_ne true (by omega)]; exact inv.tail t ht ht', hC w w' inv.cls he, upd vs i v, rfl, fun p hp hlp => ?_, fun p q hp hlp => ?_, fun p q hp hq hne hlp hlq => ?_⟩
            · have := count_set listed i hiun
              omega
            · by_cases hip : i = p
              · subst hip
                exact getD_set_true (hideps q hq)
              · rw [getD_set_ne false hip] at hp
                exact getD_set_true (inv.closed p q hp hq)
            · by_cases hip : p = i
              · subst hip
                have : upd vs p v p = v := by simp [upd]
                rw [this]; exact hv
              · rw [getD_set_ne true (Ne.symm hip)] at hlp
                have : upd vs i v p = vs p := by simp [upd, hip]
                rw [this]
                exact hF p _ w w' (hf p hp hlp) he
            · by_cases hip : p = i
              · subst hip
                have hlt : p < listed.size := by rw [inv.size]; exact hil
                simp [hlt] at hlp
              · rw [getD_set_ne true (Ne.symm hip)] at hlp
                have : upd vs i v p = vs p := by simp [upd, hip]
                rw [this]
                exact hu p q hp hlp
            · have back : ∀ r, r ≠ i → r < n → (listed.setIfInBounds i true).getD r true = true → listed.getD r false = true := fun r hri hrn hl => by
                rw [getD_set_ne true (Ne.symm hri)] at hl
                cases h3 : listed.getD r false with
                | true => rfl
                | false => rw [getD_in (by rw [inv.size]; omega) h3] at hl; cases hl
              by_cases hip : p = i
              · subst hip
                have hqi : q ≠ p := Ne.symm hne
                have e1 : upd vs p v p = v := by simp [upd]
                have e2 : upd vs p v q = vs q := by simp [upd, hqi]
                rw [e1, e2]
                exact (hjv q (back q hqi hq hlq)).1
              · by_cases hiq : q = i
                · subst hiq
                  have e1 : upd vs q v q = v := by simp [upd]
                  have e2 : upd vs q v p = vs p := by simp [upd, hip]
                  rw [e1, e2]
                  exact (hjv p (back p hip hp hlp)).2
                · have e1 : upd vs i v p = vs p := by simp [upd, hip]
                  have e2 : upd vs i v q = vs q := by simp [upd, hiq]
                  rw [e1, e2]
                  rw [getD_set_ne true (Ne.symm hip)] at hlp
                  rw [getD_set_ne true (Ne.symm hiq)] at hlq
                  exact hjj p q hp hq hne hlp hlq
      · -- the head is complete: the tail is forced
        have hall : ∀ i, i < n → listed.getD i true = true := by
          intro i hi
          cases h : listed.getD i true with
          | true => rfl
          | false => exact absurd ⟨i, hi, h⟩ hd
        have hstart : listed = startAt l.length n := by
          apply Array.ext
          · simp [startAt, inv.size]
          · intro i h1 h2
            have hil : i < l.length := by rw [← inv.size]; exact h1
            have e : (startAt l.length n)[i] = decide (i < n) := by simp [startAt]
            rw [e]
            rcases Nat.lt_or_ge i n with h | h
            · have := hall i h
              simp [h1] at this
              simp [this, h]
            · have := inv.tail i h hil
              simp [h1] at this
              simp [this]; omega
        have hd := hdone vs w inv.cls (fun i hi => hf i hi (hall i hi)) (fun i j hi hj2 hne => hjj i j hi hj2 hne (hall i hi) (hall j hj2))
        have hfu : fuel + 1 = (l.drop n).length := by rw [← hc, hstart]; exact hcnt
        rw [hfu, ha, hstart]
        exact wpAny_of_seq (l.drop n) n _ _ w (fun j => by simp [List.getElem?_drop]) hseq hd
  refine wp_region_any hm (main _ _ _ _ (by simp) ⟨by simp, fun i j h _ => (by rw [getD_replicate_false] at h; cases h), fun t _ ht => getD_in (by simpa using ht) (getD_replicate_false _ _), h0, fun i => (match (l.take n)[i]? with | some o => slotOf a0 o | none => undef), ?_, fun i hi h => ?_, fun i o ho _ => (by show (match (l.take n)[i]? with | some o => slotOf a0 o | none => undef) = _; rw [ho]), fun i j hi hj2 hne h _ => ?_⟩)
  · refine (fillF_self (l.take n) 0 a0 _ (fun k o ho => ?_)).symm
    rw [Nat.zero_add, ho]
  · have : (Array.replicate l.toArray.size false).getD i true = false := getD_in (by simp; omega) (getD_replicate_false _ _)
    rw [this] at h; cases h
  · have : (Array.replicate l.toArray.size false).getD i true = false := getD_in (by simp; omega) (getD_replicate_false _ _)
    rw [this] at h; cases h
theorem wp_region_gen {id : Nat} {w0 : World} (n : Nat) (hm : P.follows .mixedOrders = true) (hB : factB l n = true)
    (F : Nat → Value → World → Prop) (C : World → Prop) (E : World → World → Prop)
    (hC : ∀ w w', C w → E w w' → C w') (hF : ∀ i v w w', F i v w → E w w' → F i v w') (h0 : C { w0 with drawn := w0.drawn + 1 })
    (hstep : ∀ i, i < n → ∀ (listed : Array Bool) (vs : Nat → Value) (w : World) (K : Act → World → Prop), C w → listed.getD i true = false → (∀ p q, listed.getD p false = true → depB l p q = true → listed.getD q false = true) → (∀ j, depB l i j = true → listed.getD j false = true) →
      (∀ j, listed.getD j false = true → j < n ∧ F j (vs j) w) → (∀ j o, (l.take n)[j]? = some o → listed.getD j false = false → vs j = slotOf a0 o) →
      (∀ v w', F i v w' → E w w' → K ((fillF (l.take n) vs 0 a0).put ((l[i]?).bind (·.dst)) v) w') → wpOp P l.toArray Q i K (fillF (l.take n) vs 0 a0) w)
    (hdone : ∀ (vs : Nat → Value) (w : World), C w → (∀ i, i < n → F i (vs i) w) → wpList P l.toArray Q (l.drop n) (fillF (l.take n) vs 0 a0) w) :
    (Code.region id l.toArray true).wp P Q a0 w0 :=
  wp_region_joint n hm hB F (fun _ _ _ _ => True) C E hC hF h0 (fun i hi listed vs w K h1 h2 h3 h4 h5 h6 hK => hstep i hi listed vs w K h1 h2 h3 h4 h5 h6 (fun v w' a b => hK v w' a b (fun _ _ => ⟨trivial, trivial⟩))) (fun vs w h1 h2 _ => hdone vs w h1 h2)
theorem wp_region_facts {id : Nat} {w0 : World} (n : Nat) (hm : P.follows .mixedOrders = true) (hB : factB l n = true)
    (F : Nat → Value → World → Prop) (C : World → Prop) (E : World → World → Prop)
    (hC : ∀ w w', C w → E w w' → C w') (hF : ∀ i v w w', F i v w → E w w' → F i v w') (h0 : C { w0 with drawn := w0.drawn + 1 })
    (hstep : ∀ i, i < n → ∀ (vs : Nat → Value) (w : World) (K : Act → World → Prop), C w → (∀ j, depB l i j = true → F j (vs j) w) → (∀ j o, (l.take n)[j]? = some o → (j = i ∨ depB l j i = true) → vs j = slotOf a0 o) →
      (∀ v w', F i v w' → E w w' → K ((fillF (l.take n) vs 0 a0).put ((l[i]?).bind (·.dst)) v) w') → wpOp P l.toArray Q i K (fillF (l.take n) vs 0 a0) w)
    (hdone : ∀ (vs : Nat → Value) (w : World), C w → (∀ i, i < n → F i (vs i) w) → wpList P l.toArray Q (l.drop n) (fillF (l.take n) vs 0 a0) w) :
    (Code.region id l.toArray true).wp P Q a0 w0 :=
  wp_region_gen n hm hB F C E hC hF h0 (fun i hi listed vs w K hc hun hcl hdeps hf hu hK => hstep i hi vs w K hc (fun j hj => (hf j (hdeps j hj)).2) (fun j p hp hw => hu j p hp (by
    rcases hw with rfl | hw
    · exact getD_both hun
    · cases h3 : listed.getD j false with
      | false => rfl
      | true =>
        have := hcl j i h3 hw
        rw [getD_both hun] at this; cases this)) hK) hdone
/-- The same, the frame behind a letter. -/
theorem wp_region_facts' {id : Nat} {w0 : World} (n : Nat) (hm : P.follows .mixedOrders = true) (hB : factB l n = true)
    (F : Nat → Value → World → Prop) (C : World → Prop) (E : World → World → Prop)
    (hC : ∀ w w', C w → E w w' → C w') (hF : ∀ i v w w', F i v w → E w w' → F i v w') (h0 : C { w0 with drawn := w0.drawn + 1 })
    (hstep : ∀ i, i < n → ∀ (vs : Nat → Value) (a : Act) (w : World) (K : Act → World → Prop), a = fillF (l.take n) vs 0 a0 → C w → (∀ j, depB l i j = true → F j (vs j) w) → (∀ j o, (l.take n)[j]? = some o → (j = i ∨ depB l j i = true) → vs j = slotOf a0 o) →
      (∀ v w', F i v w' → E w w' → K (a.put ((l[i]?).bind (·.dst)) v) w') → wpOp P l.toArray Q i K a w)
    (hdone : ∀ (vs : Nat → Value) (a : Act) (w : World), a = fillF (l.take n) vs 0 a0 → C w → (∀ i, i < n → F i (vs i) w) → wpList P l.toArray Q (l.drop n) a w) :
    (Code.region id l.toArray true).wp P Q a0 w0 :=
  wp_region_facts n hm hB F C E hC hF h0 (fun i hi vs w K h1 h2 h3 h4 => hstep i hi vs _ w K rfl h1 h2 h3 h4) (fun vs w h1 h2 => hdone vs _ w rfl h1 h2)
end
end Go.Proofs.YtmldhnghfdhjmaaDoor
