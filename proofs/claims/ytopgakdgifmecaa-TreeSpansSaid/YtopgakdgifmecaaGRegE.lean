/-
  MERGED: RegSt, RegE.
  CONDITIONS: each theorem's own hypotheses.
-/
import Derived.Test.YtopgakdgifmecaaGReg

/-! A RULE for drawn regions in which some operations, chained one behind the other, change a state: a fact for each operation's slot, and the state by how many of the chained ones are done. CONDITIONS: the theorem's own hypotheses. -/
namespace Go.Proofs.Ytopgakdgifmecaa
open Go Go.RowKit
set_option linter.unusedVariables false

section
variable {P : Program} {l : List Oper} {Q : Exit → Act → World → Prop} {a0 : Act}

structure SInv (l : List Oper) (n : Nat) (F : Nat → Value → World → Prop) (C : Array Bool → World → Prop) (a0 : Act) (listed : Array Bool) (a : Act) (w : World) : Prop where
  size : listed.size = l.length
  closed : ∀ i j, listed.getD i false = true → depB l i j = true → listed.getD j false = true
  tail : ∀ t, n ≤ t → t < l.length → listed.getD t true = false
  cls : C listed w
  vals : ∃ vs : Nat → Value, a = fillF (l.take n) vs 0 a0 ∧ (∀ i, i < n → listed.getD i true = true → F i (vs i) w) ∧ (∀ i o, (l.take n)[i]? = some o → listed.getD i true = false → vs i = slotOf a0 o)

theorem wp_region_listed {id : Nat} {w0 : World} (n : Nat) (hm : P.follows .mixedOrders = true) (hB : factB l n = true)
    (F : Nat → Value → World → Prop) (C : Array Bool → World → Prop) (E : World → World → Prop)
    (hF : ∀ i v w w', F i v w → E w w' → F i v w') (h0 : C (Array.replicate l.length false) { w0 with drawn := w0.drawn + 1 })
    (hstep : ∀ i, i < n → ∀ (listed : Array Bool) (vs : Nat → Value) (w : World) (K : Act → World → Prop), C listed w → listed.getD i true = false → (∀ p q, listed.getD p false = true → depB l p q = true → listed.getD q false = true) → (∀ j, depB l i j = true → listed.getD j false = true) →
      (∀ j, listed.getD j false = true → j < n ∧ F j (vs j) w) → (∀ j o, (l.take n)[j]? = some o → listed.getD j false = false → vs j = slotOf a0 o) →
      (∀ v w', F i v w' → E w w' → C (listed.setIfInBounds i true) w' → K ((fillF (l.take n) vs 0 a0).put ((l[i]?).bind (·.dst)) v) w') → wpOp P l.toArray Q i K (fillF (l.take n) vs 0 a0) w)
    (hdone : ∀ (listed : Array Bool) (vs : Nat → Value) (w : World), C listed w → listed.size = l.length ∧ n ≤ l.length → (∀ i, i < n → listed.getD i true = true) → (∀ i, i < n → F i (vs i) w) → wpList P l.toArray Q (l.drop n) (fillF (l.take n) vs 0 a0) w) :
    (Code.region id l.toArray true).wp P Q a0 w0 := by
  simp only [factB, Bool.and_eq_true, decide_eq_true_eq, List.all_eq_true, List.mem_range, Bool.or_eq_true, beq_iff_eq] at hB
  obtain ⟨⟨⟨⟨⟨⟨hone, hn⟩, hlow⟩, hsc⟩, hseq⟩, hcnt⟩, hin⟩ := hB
  have main : ∀ (fuel : Nat) (listed : Array Bool) (a : Act) (w : World), listed.toList.count false = fuel → SInv l n F C a0 listed a w → wpAny P .any l.toArray Q fuel listed a w := by
    intro fuel
    induction fuel with
    | zero =>
      intro listed a w hc inv
      obtain ⟨vs, ha, hf, -⟩ := inv.vals
      have hall := count_zero hc
      have hln : n = l.length := by
        rcases Nat.lt_or_ge n l.length with h | h
        · have h1 := inv.tail n (Nat.le_refl _) h
          rw [hall n] at h1; cases h1
        · omega
      have hr : Region.ready .any l.toArray listed = [] := by
        apply List.eq_nil_iff_forall_not_mem.2
        intro i hi
        have h1 := (ready_iff.1 hi).1
        rw [hall i] at h1; cases h1
      have hd := hdone listed vs w inv.cls ⟨inv.size, hn⟩ (fun i hi => hall i) (fun i hi => hf i hi (hall i))
      rw [List.drop_of_length_le (by omega)] at hd
      exact ⟨hr, by rw [ha]; exact hd⟩
    | succ fuel ih =>
      intro listed a w hc inv
      obtain ⟨vs, ha, hf, hu⟩ := inv.vals
      by_cases hd : ∃ i, i < n ∧ listed.getD i true = false
      · -- the head is not complete
        have hleast : ∃ i, i < n ∧ i ∈ Region.ready .any l.toArray listed := by
          obtain ⟨i, hi⟩ := hd
          induction i using Nat.strongRecOn with
          | _ i ihi =>
            by_cases hall : ∀ j, depB l i j = true → listed.getD j false = true
            · exact ⟨i, hi.1, ready_iff.2 ⟨hi.2, by omega, hall⟩⟩
            · simp only [Classical.not_forall] at hall
              obtain ⟨j, hj, hlj⟩ := hall
              obtain ⟨o, ho, e, he, hb, hon⟩ := Region.waitsFor_spec hj
              have hjl : j < l.length := by
                have h1 := hin i (by omega)
                have ho' : l[i]? = some o := by simpa using ho
                rw [ho'] at h1
                simp only [Option.map_some, Option.getD_some, Array.all_eq_true'] at h1
                have h2 := h1 e he
                rw [hb] at h2
                simp only [Bool.not_true, Bool.false_or, decide_eq_true_eq] at h2
                omega
              have hji : j < i := by
                have h1 := hlow i (by omega) j hjl
                rcases h1 with h1 | h1
                · rw [hj] at h1; cases h1
                · exact h1
              have hlj' : listed.getD j true = false := by
                have : listed.getD j false = false := by cases h : listed.getD j false <;> simp_all
                exact getD_in (by rw [inv.size]; exact hjl) this
              exact ihi j hji ⟨by omega, hlj'⟩
        refine ⟨fun hr => ?_, fun i hi => ?_⟩
        · obtain ⟨i, _, hi⟩ := hleast
          rw [hr] at hi; cases hi
        · obtain ⟨hiun, hil, hideps⟩ := ready_iff.1 hi
          have hin' : i < n := by
            rcases Nat.lt_or_ge i n with h | h
            · exact h
            · rcases hsc with h1 | h1
              · omega
              · obtain ⟨⟨h2, h3⟩, h4⟩ := h1
                obtain ⟨k, hk, hkun⟩ := hd
                have hinv : HeadInv .any l.toArray n listed := ⟨by simpa using inv.size, fun j oj hj hl e he hb => inv.closed j e.on hl (depB_of (by simpa using hj) he hb), fun t ht ht' => inv.tail t ht (by simpa using ht')⟩
                exact absurd hi (tail_waits h3 h4 (by simpa using h2) hinv _ k rfl hk hkun i h)
          obtain ⟨o, ho⟩ : ∃ o, l[i]? = some o := ⟨_, List.getElem?_eq_getElem hil⟩
          have hot : (l.take n)[i]? = some o := by rw [List.getElem?_take_of_lt hin']; exact ho
          subst ha
          have hjn : ∀ j, listed.getD j false = true → j < n := fun j hj => by
            rcases Nat.lt_or_ge j n with h | h
            · exact h
            · rcases Nat.lt_or_ge j l.length with h' | h'
              · have h2 := inv.tail j h h'
                rw [getD_both h2] at hj; cases hj
              · have : listed.getD j false = false := by simp [Array.getElem?_eq_none (show listed.size ≤ j by rw [inv.size]; exact h')]
                rw [this] at hj; cases hj
          refine hstep i hin' listed vs w _ inv.cls hiun inv.closed hideps (fun j hj => ⟨hjn j hj, ?_⟩) (fun j p hp hw => ?_) (fun v w' hv he hcs => ?_)
          · refine hf j (hjn j hj) ?_
            cases h3 : listed.getD j true with
            | true => rfl
            | false => rw [getD_both h3] at hj; cases hj
          · refine hu j p hp (getD_in ?_ hw)
            have := (List.getElem?_eq_some_iff.1 hp).1
            rw [inv.size]
            simp at this; omega
          · rw [ho]
            simp only [Option.bind_some]
            rw [fillF_put (l.take n) vs 0 a0 i o v hot hone, Nat.zero_add]
            refine ih _ _ _ ?_ ⟨by simp [inv.size], fun p q hp hq => ?_, fun t ht ht' => by rw [getD_set_ne true (by omega)]; exact inv.tail t ht ht', hcs, upd vs i v, rfl, fun p hp hlp => ?_, fun p q hp hlp => ?_⟩
            · have := count_set listed i hiun
              omega
            · by_cases hip : i = p
              · subst hip
                exact getD_set_true (hideps q hq)
              · rw [getD_set_ne false hip] at hp
                exact getD_set_true (inv.closed p q hp hq)
            · by_cases hip : p = i
              · subst hip
                have : upd vs p v p = v := by simp [upd]
                rw [this]; exact hv
              · rw [getD_set_ne true (Ne.symm hip)] at hlp
                have : upd vs i v p = vs p := by simp [upd, hip]
                rw [this]
                exact hF p _ w w' (hf p hp hlp) he
            · by_cases hip : p = i
              · subst hip
                have hlt : p < listed.size := by rw [inv.size]; exact hil
                simp [hlt] at hlp
              · rw [getD_set_ne true (Ne.symm hip)] at hlp
                have : upd vs i v p = vs p := by simp [upd, hip]
                rw [this]
                exact hu p q hp hlp
      · -- the head is complete: the tail is forced
        have hall : ∀ i, i < n → listed.getD i true = true := by
          intro i hi
          cases h : listed.getD i true with
          | true => rfl
          | false => exact absurd ⟨i, hi, h⟩ hd
        have hstart : listed = startAt l.length n := by
          apply Array.ext
          · simp [startAt, inv.size]
          · intro i h1 h2
            have hil : i < l.length := by rw [← inv.size]; exact h1
            have e : (startAt l.length n)[i] = decide (i < n) := by simp [startAt]
            rw [e]
            rcases Nat.lt_or_ge i n with h | h
            · have := hall i h
              simp [h1] at this
              simp [this, h]
            · have := inv.tail i h hil
              simp [h1] at this
              simp [this]; omega
        have hd := hdone listed vs w inv.cls ⟨inv.size, hn⟩ (fun i hi => hall i hi) (fun i hi => hf i hi (hall i hi))
        have hfu : fuel + 1 = (l.drop n).length := by rw [← hc, hstart]; exact hcnt
        rw [hfu, ha, hstart]
        exact wpAny_of_seq (l.drop n) n _ _ w (fun j => by simp [List.getElem?_drop]) hseq hd
  refine wp_region_any hm (main _ _ _ _ (by simp) ⟨by simp, fun i j h _ => (by rw [getD_replicate_false] at h; cases h), fun t _ ht => getD_in (by simpa using ht) (getD_replicate_false _ _), (by simpa using h0), fun i => (match (l.take n)[i]? with | some o => slotOf a0 o | none => undef), ?_, fun i hi h => ?_, fun i o ho _ => (by show (match (l.take n)[i]? with | some o => slotOf a0 o | none => undef) = _; rw [ho])⟩)
  · refine (fillF_self (l.take n) 0 a0 _ (fun k o ho => ?_)).symm
    rw [Nat.zero_add, ho]
  · have : (Array.replicate l.toArray.size false).getD i true = false := getD_in (by simp; omega) (getD_replicate_false _ _)
    rw [this] at h; cases h

/-- Operations each of which waits for the one ahead. -/
def chainK (l : List Oper) : List Nat → Bool
  | a :: b :: r => pathB l 4 b a && chainK l (b :: r)
  | _ => true
def cntK (ks : List Nat) (listed : Array Bool) : Nat := (ks.filter fun k => listed.getD k false).length
theorem none_after {listed : Array Bool} (hcl : ∀ p q, listed.getD p false = true → depB l p q = true → listed.getD q false = true) : ∀ (post : List Nat) (k : Nat), chainK l (k :: post) = true → listed.getD k false = false → ∀ x ∈ post, listed.getD x false = false
  | [], k, _, _, x, hx => by cases hx
  | b :: r, k, hc, hk, x, hx => by
    simp only [chainK, Bool.and_eq_true] at hc
    have hb : listed.getD b false = false := by
      cases h : listed.getD b false with
      | false => rfl
      | true => rw [path_listed hcl 4 b k h hc.1] at hk; cases hk
    rcases List.mem_cons.1 hx with rfl | hx
    · exact hb
    · exact none_after hcl r b hc.2 hb x hx
theorem all_before {listed : Array Bool} (hcl : ∀ p q, listed.getD p false = true → depB l p q = true → listed.getD q false = true) (k : Nat) (hd : ∀ j, depB l k j = true → listed.getD j false = true) (post : List Nat) : ∀ (pre : List Nat), chainK l (pre ++ k :: post) = true → ∀ x ∈ pre, listed.getD x false = true
  | [], _, x, hx => by cases hx
  | [a], hc, x, hx => by
    simp only [List.cons_append, List.nil_append, chainK, Bool.and_eq_true] at hc
    obtain rfl : x = a := by simpa using hx
    exact path_ready hcl hd 4 x hc.1
  | a :: b :: r, hc, x, hx => by
    simp only [List.cons_append, chainK, Bool.and_eq_true] at hc
    have ih := all_before hcl k hd post (b :: r) hc.2
    rcases List.mem_cons.1 hx with rfl | hx
    · exact path_listed hcl 4 b x (ih b (by simp)) hc.1
    · exact ih x hx
theorem cnt_at {listed : Array Bool} (hcl : ∀ p q, listed.getD p false = true → depB l p q = true → listed.getD q false = true) (pre post : List Nat) (k : Nat) (hc : chainK l (pre ++ k :: post) = true) (hk : listed.getD k false = false) (hd : ∀ j, depB l k j = true → listed.getD j false = true) : cntK (pre ++ k :: post) listed = pre.length := by
  have h1 := all_before hcl k hd post pre hc
  have hc2 : chainK l (k :: post) = true := by
    have key : ∀ (p : List Nat), chainK l (p ++ k :: post) = true → chainK l (k :: post) = true := fun p => by
      induction p with
      | nil => exact fun h => h
      | cons a p ih =>
        intro h
        refine ih ?_
        cases p with
        | nil => simp only [List.cons_append, List.nil_append, chainK, Bool.and_eq_true] at h; exact h.2
        | cons b r => simp only [List.cons_append, chainK, Bool.and_eq_true] at h; exact h.2
    exact key pre hc
  have h2 := none_after hcl post k hc2 hk
  unfold cntK
  rw [List.filter_append, List.filter_eq_self.2 (fun x hx => h1 x hx), List.filter_cons_of_neg (by rw [hk]; decide), List.filter_eq_nil_iff.2 (fun x hx => by rw [h2 x hx]; decide), List.append_nil]
theorem cnt_call {listed : Array Bool} (hcl : ∀ p q, listed.getD p false = true → depB l p q = true → listed.getD q false = true) (pre post : List Nat) (k : Nat) (hc : chainK l (pre ++ k :: post) = true) (hn : (pre ++ k :: post).Nodup) (hun : listed.getD k true = false) (hk : listed.getD k false = false) (hd : ∀ j, depB l k j = true → listed.getD j false = true) : cntK (pre ++ k :: post) (listed.setIfInBounds k true) = pre.length + 1 := by
  have h0 := cnt_at hcl pre post k hc hk hd
  have hlt : k < listed.size := by
    rcases Nat.lt_or_ge k listed.size with h | h
    · exact h
    · simp [Array.getElem?_eq_none h] at hun
  have hkk : (listed.setIfInBounds k true).getD k false = true := by simp [hlt]
  have hnp : k ∉ pre ∧ k ∉ post := by
    rw [List.nodup_append] at hn
    refine ⟨fun h => hn.2.2 k h k (by simp) rfl, (List.nodup_cons.1 hn.2.1).1⟩
  have e : ∀ L : List Nat, k ∉ L → L.filter (fun x => (listed.setIfInBounds k true).getD x false) = L.filter (fun x => listed.getD x false) := fun L hL => List.filter_congr fun x hx => by
    have hne : k ≠ x := fun h => hL (by rw [h]; exact hx)
    rw [getD_set_ne false hne]
  unfold cntK at *
  rw [List.filter_append, List.filter_cons_of_pos (by simpa using hkk), e pre hnp.1, e post hnp.2]
  rw [List.filter_append, List.filter_cons_of_neg (by rw [hk]; decide)] at h0
  simp only [List.length_append, List.length_cons] at h0 ⊢
  omega
theorem cnt_other {listed : Array Bool} (ks : List Nat) (i : Nat) (hi : i ∉ ks) : cntK ks (listed.setIfInBounds i true) = cntK ks listed := by
  unfold cntK
  refine congrArg List.length (List.filter_congr fun x hx => ?_)
  have hne : i ≠ x := fun h => hi (by rw [h]; exact hx)
  rw [getD_set_ne false hne]
theorem wp_region_state {id : Nat} {w0 : World} (n : Nat) (ks : List Nat) (hm : P.follows .mixedOrders = true) (hB : factB l n = true) (hK : (chainK l ks && decide ks.Nodup && ks.all (fun k => decide (k < n))) = true)
    (F : Nat → Value → World → Prop) (St : Nat → World → Prop) (E : World → World → Prop)
    (hF : ∀ i v w w', F i v w → E w w' → F i v w') (h0 : St 0 { w0 with drawn := w0.drawn + 1 })
    (hstep : ∀ i, i < n → i ∉ ks → ∀ (s : Nat) (vs : Nat → Value) (a : Act) (w : World) (K : Act → World → Prop), a = fillF (l.take n) vs 0 a0 → St s w → (∀ j, depB l i j = true → F j (vs j) w) → (∀ j o, (l.take n)[j]? = some o → (j = i ∨ depB l j i = true) → vs j = slotOf a0 o) →
      (∀ v w', F i v w' → E w w' → St s w' → K (a.put ((l[i]?).bind (·.dst)) v) w') → wpOp P l.toArray Q i K a w)
    (hcall : ∀ s i, ks[s]? = some i → ∀ (vs : Nat → Value) (a : Act) (w : World) (K : Act → World → Prop), a = fillF (l.take n) vs 0 a0 → St s w → (∀ j, depB l i j = true → F j (vs j) w) →
      (∀ v w', F i v w' → E w w' → St (s + 1) w' → K (a.put ((l[i]?).bind (·.dst)) v) w') → wpOp P l.toArray Q i K a w)
    (hdone : ∀ (vs : Nat → Value) (a : Act) (w : World), a = fillF (l.take n) vs 0 a0 → St ks.length w → (∀ i, i < n → F i (vs i) w) → wpList P l.toArray Q (l.drop n) a w) :
    (Code.region id l.toArray true).wp P Q a0 w0 := by
  simp only [Bool.and_eq_true, decide_eq_true_eq, List.all_eq_true] at hK
  obtain ⟨⟨hch, hnd⟩, hlt⟩ := hK
  have e0 : cntK ks (Array.replicate l.length false) = 0 := by
    unfold cntK
    rw [List.filter_eq_nil_iff.2 (fun x hx => by rw [getD_replicate_false]; decide)]; rfl
  refine wp_region_listed n hm hB F (fun listed w => St (cntK ks listed) w) E hF (by show St (cntK ks _) _; rw [e0]; exact h0) (fun i hi listed vs w K hc hun hcl hdeps hf hu hk => ?_) (fun listed vs w hc hsz hall hf => ?_)
  · have hdep : ∀ j, depB l i j = true → F j (vs j) w := fun j hj => (hf j (hdeps j hj)).2
    by_cases hin : i ∈ ks
    · obtain ⟨pre, post, rfl⟩ := List.append_of_mem hin
      have hk0 : listed.getD i false = false := getD_both hun
      have e1 := cnt_at hcl pre post i hch hk0 hdeps
      have e2 := cnt_call hcl pre post i hch hnd hun hk0 hdeps
      rw [e1] at hc
      refine hcall pre.length i (by simp) vs _ w K rfl hc hdep fun v w' h1 h2 h3 => hk v w' h1 h2 ?_
      rw [e2]; exact h3
    · refine hstep i hi hin _ vs _ w K rfl hc hdep (fun j p hp hw => hu j p hp (by
        rcases hw with rfl | hw
        · exact getD_both hun
        · cases h3 : listed.getD j false with
          | false => rfl
          | true =>
            have := hcl j i h3 hw
            rw [getD_both hun] at this; cases this)) fun v w' h1 h2 h3 => hk v w' h1 h2 ?_
      rw [cnt_other ks i hin]; exact h3
  · refine hdone vs _ w rfl ?_ hf
    have : cntK ks listed = ks.length := by
      unfold cntK
      rw [List.filter_eq_self.2 (fun x hx => by
        have := hall x (hlt x hx)
        cases h : listed.getD x false with
        | true => rfl
        | false =>
          exfalso
          rw [getD_in (by have := hlt x hx; omega) h] at this; cases this)]
    rw [← this]; exact hc
end
end Go.Proofs.Ytopgakdgifmecaa

/-! A RULE for drawn regions some of whose operations, chained one behind the other, change memory; all others only read: a fact for each operation's slot, the state by how many of the chained ones are done, and a step for each of these. CONDITIONS: the theorem's own hypotheses. -/
namespace Go.Proofs.Ytopgakdgifmecaa
open Go Go.RowKit
set_option linter.unusedVariables false

section
variable {P : Program} {l : List Oper} {Q : Exit → Act → World → Prop} {a0 : Act}

theorem wp_region_listedE {id : Nat} {w0 : World} (n : Nat) (hm : P.follows .mixedOrders = true) (hB : factB l n = true)
    (F : Nat → Value → World → Prop) (C : Array Bool → World → Prop) (E : Nat → World → World → Prop)
    (hF : ∀ i j v w w', i < n → j < n → j ≠ i → pathB l 4 j i = false → F j v w → E i w w' → F j v w') (h0 : C (Array.replicate l.length false) { w0 with drawn := w0.drawn + 1 })
    (hstep : ∀ i, i < n → ∀ (listed : Array Bool) (vs : Nat → Value) (w : World) (K : Act → World → Prop), C listed w → listed.getD i true = false → (∀ p q, listed.getD p false = true → depB l p q = true → listed.getD q false = true) → (∀ j, depB l i j = true → listed.getD j false = true) →
      (∀ j, listed.getD j false = true → j < n ∧ F j (vs j) w) → (∀ j o, (l.take n)[j]? = some o → listed.getD j false = false → vs j = slotOf a0 o) →
      (∀ v w', F i v w' → E i w w' → C (listed.setIfInBounds i true) w' → K ((fillF (l.take n) vs 0 a0).put ((l[i]?).bind (·.dst)) v) w') → wpOp P l.toArray Q i K (fillF (l.take n) vs 0 a0) w)
    (hdone : ∀ (listed : Array Bool) (vs : Nat → Value) (w : World), C listed w → listed.size = l.length ∧ n ≤ l.length → (∀ i, i < n → listed.getD i true = true) → (∀ i, i < n → F i (vs i) w) → wpList P l.toArray Q (l.drop n) (fillF (l.take n) vs 0 a0) w) :
    (Code.region id l.toArray true).wp P Q a0 w0 := by
  simp only [factB, Bool.and_eq_true, decide_eq_true_eq, List.all_eq_true, List.mem_range, Bool.or_eq_true, beq_iff_eq] at hB
  obtain ⟨⟨⟨⟨⟨⟨hone, hn⟩, hlow⟩, hsc⟩, hseq⟩, hcnt⟩, hin⟩ := hB
  have main : ∀ (fuel : Nat) (listed : Array Bool) (a : Act) (w : World), listed.toList.count false = fuel → SInv l n F C a0 listed a w → wpAny P .any l.toArray Q fuel listed a w := by
    intro fuel
    induction fuel with
    | zero =>
      intro listed a w hc inv
      obtain ⟨vs, ha, hf, -⟩ := inv.vals
      have hall := count_zero hc
      have hln : n = l.length := by
        rcases Nat.lt_or_ge n l.length with h | h
        · have h1 := inv.tail n (Nat.le_refl _) h
          rw [hall n] at h1; cases h1
        · omega
      have hr : Region.ready .any l.toArray listed = [] := by
        apply List.eq_nil_iff_forall_not_mem.2
        intro i hi
        have h1 := (ready_iff.1 hi).1
        rw [hall i] at h1; cases h1
      have hd := hdone listed vs w inv.cls ⟨inv.size, hn⟩ (fun i hi => hall i) (fun i hi => hf i hi (hall i))
      rw [List.drop_of_length_le (by omega)] at hd
      exact ⟨hr, by rw [ha]; exact hd⟩
    | succ fuel ih =>
      intro listed a w hc inv
      obtain ⟨vs, ha, hf, hu⟩ := inv.vals
      by_cases hd : ∃ i, i < n ∧ listed.getD i true = false
      · -- the head is not complete
        have hleast : ∃ i, i < n ∧ i ∈ Region.ready .any l.toArray listed := by
          obtain ⟨i, hi⟩ := hd
          induction i using Nat.strongRecOn with
          | _ i ihi =>
            by_cases hall : ∀ j, depB l i j = true → listed.getD j false = true
            · exact ⟨i, hi.1, ready_iff.2 ⟨hi.2, by omega, hall⟩⟩
            · simp only [Classical.not_forall] at hall
              obtain ⟨j, hj, hlj⟩ := hall
              obtain ⟨o, ho, e, he, hb, hon⟩ := Region.waitsFor_spec hj
              have hjl : j < l.length := by
                have h1 := hin i (by omega)
                have ho' : l[i]? = some o := by simpa using ho
                rw [ho'] at h1
                simp only [Option.map_some, Option.getD_some, Array.all_eq_true'] at h1
                have h2 := h1 e he
                rw [hb] at h2
                simp only [Bool.not_true, Bool.false_or, decide_eq_true_eq] at h2
                omega
              have hji : j < i := by
                have h1 := hlow i (by omega) j hjl
                rcases h1 with h1 | h1
                · rw [hj] at h1; cases h1
                · exact h1
              have hlj' : listed.getD j true = false := by
                have : listed.getD j false = false := by cases h : listed.getD j false <;> simp_all
                exact getD_in (by rw [inv.size]; exact hjl) this
              exact ihi j hji ⟨by omega, hlj'⟩
        refine ⟨fun hr => ?_, fun i hi => ?_⟩
        · obtain ⟨i, _, hi⟩ := hleast
          rw [hr] at hi; cases hi
        · obtain ⟨hiun, hil, hideps⟩ := ready_iff.1 hi
          have hin' : i < n := by
            rcases Nat.lt_or_ge i n with h | h
            · exact h
            · rcases hsc with h1 | h1
              · omega
              · obtain ⟨⟨h2, h3⟩, h4⟩ := h1
                obtain ⟨k, hk, hkun⟩ := hd
                have hinv : HeadInv .any l.toArray n listed := ⟨by simpa using inv.size, fun j oj hj hl e he hb => inv.closed j e.on hl (depB_of (by simpa using hj) he hb), fun t ht ht' => inv.tail t ht (by simpa using ht')⟩
                exact absurd hi (tail_waits h3 h4 (by simpa using h2) hinv _ k rfl hk hkun i h)
          obtain ⟨o, ho⟩ : ∃ o, l[i]? = some o := ⟨_, List.getElem?_eq_getElem hil⟩
          have hot : (l.take n)[i]? = some o := by rw [List.getElem?_take_of_lt hin']; exact ho
          subst ha
          have hjn : ∀ j, listed.getD j false = true → j < n := fun j hj => by
            rcases Nat.lt_or_ge j n with h | h
            · exact h
            · rcases Nat.lt_or_ge j l.length with h' | h'
              · have h2 := inv.tail j h h'
                rw [getD_both h2] at hj; cases hj
              · have : listed.getD j false = false := by simp [Array.getElem?_eq_none (show listed.size ≤ j by rw [inv.size]; exact h')]
                rw [this] at hj; cases hj
          refine hstep i hin' listed vs w _ inv.cls hiun inv.closed hideps (fun j hj => ⟨hjn j hj, ?_⟩) (fun j p hp hw => ?_) (fun v w' hv he hcs => ?_)
          · refine hf j (hjn j hj) ?_
            cases h3 : listed.getD j true with
            | true => rfl
            | false => rw [getD_both h3] at hj; cases hj
          · refine hu j p hp (getD_in ?_ hw)
            have := (List.getElem?_eq_some_iff.1 hp).1
            rw [inv.size]
            simp at this; omega
          · rw [ho]
            simp only [Option.bind_some]
            rw [fillF_put (l.take n) vs 0 a0 i o v hot hone, Nat.zero_add]
            refine ih _ _ _ ?_ ⟨by simp [inv.size], fun p q hp hq => ?_, fun t ht ht' => by rw [getD_set_ne true (by omega)]; exact inv.tail t ht ht', hcs, upd vs i v, rfl, fun p hp hlp => ?_, fun p q hp hlp => ?_⟩
            · have := count_set listed i hiun
              omega
            · by_cases hip : i = p
              · subst hip
                exact getD_set_true (hideps q hq)
              · rw [getD_set_ne false hip] at hp
                exact getD_set_true (inv.closed p q hp hq)
            · by_cases hip : p = i
              · subst hip
                have : upd vs p v p = v := by simp [upd]
                rw [this]; exact hv
              · rw [getD_set_ne true (Ne.symm hip)] at hlp
                have : upd vs i v p = vs p := by simp [upd, hip]
                rw [this]
                refine hF i p _ w w' hin' hp hip ?_ (hf p hp hlp) he
                cases hpb : pathB l 4 p i with
                | false => rfl
                | true =>
                  have h3 : listed.getD p false = true := by
                    cases h4 : listed.getD p false with
                    | true => rfl
                    | false =>
                      have h5 := getD_in (show p < listed.size by rw [inv.size]; omega) h4
                      rw [hlp] at h5; cases h5
                  have h6 := path_listed inv.closed 4 p i h3 hpb
                  rw [getD_both hiun] at h6; cases h6
            · by_cases hip : p = i
              · subst hip
                have hlt : p < listed.size := by rw [inv.size]; exact hil
                simp [hlt] at hlp
              · rw [getD_set_ne true (Ne.symm hip)] at hlp
                have : upd vs i v p = vs p := by simp [upd, hip]
                rw [this]
                exact hu p q hp hlp
      · -- the head is complete: the tail is forced
        have hall : ∀ i, i < n → listed.getD i true = true := by
          intro i hi
          cases h : listed.getD i true with
          | true => rfl
          | false => exact absurd ⟨i, hi, h⟩ hd
        have hstart : listed = startAt l.length n := by
          apply Array.ext
          · simp [startAt, inv.size]
          · intro i h1 h2
            have hil : i < l.length := by rw [← inv.size]; exact h1
            have e : (startAt l.length n)[i] = decide (i < n) := by simp [startAt]
            rw [e]
            rcases Nat.lt_or_ge i n with h | h
            · have := hall i h
              simp [h1] at this
              simp [this, h]
            · have := inv.tail i h hil
              simp [h1] at this
              simp [this]; omega
        have hd := hdone listed vs w inv.cls ⟨inv.size, hn⟩ (fun i hi => hall i hi) (fun i hi => hf i hi (hall i hi))
        have hfu : fuel + 1 = (l.drop n).length := by rw [← hc, hstart]; exact hcnt
        rw [hfu, ha, hstart]
        exact wpAny_of_seq (l.drop n) n _ _ w (fun j => by simp [List.getElem?_drop]) hseq hd
  refine wp_region_any hm (main _ _ _ _ (by simp) ⟨by simp, fun i j h _ => (by rw [getD_replicate_false] at h; cases h), fun t _ ht => getD_in (by simpa using ht) (getD_replicate_false _ _), (by simpa using h0), fun i => (match (l.take n)[i]? with | some o => slotOf a0 o | none => undef), ?_, fun i hi h => ?_, fun i o ho _ => (by show (match (l.take n)[i]? with | some o => slotOf a0 o | none => undef) = _; rw [ho])⟩)
  · refine (fillF_self (l.take n) 0 a0 _ (fun k o ho => ?_)).symm
    rw [Nat.zero_add, ho]
  · have : (Array.replicate l.toArray.size false).getD i true = false := getD_in (by simp; omega) (getD_replicate_false _ _)
    rw [this] at h; cases h

theorem wp_region_chain {id : Nat} {w0 : World} (n : Nat) (ks : List Nat) (hm : P.follows .mixedOrders = true) (hB : factB l n = true) (hK : (chainK l ks && decide ks.Nodup && ks.all (fun k => decide (k < n))) = true)
    (F : Nat → Value → World → Prop) (St : Nat → World → Prop) (E : Nat → World → World → Prop)
    (hF : ∀ s i, ks[s]? = some i → ∀ j v w w', j < n → j ≠ i → pathB l 4 j i = false → F j v w → E s w w' → F j v w') (h0 : St 0 { w0 with drawn := w0.drawn + 1 })
    (hstep : ∀ i, i < n → i ∉ ks → ∀ (s : Nat) (vs : Nat → Value) (a : Act) (w : World) (K : Act → World → Prop), a = fillF (l.take n) vs 0 a0 → St s w → (∀ j, depB l i j = true → F j (vs j) w) → (∀ j o, (l.take n)[j]? = some o → (j = i ∨ depB l j i = true) → vs j = slotOf a0 o) →
      (∀ v, F i v w → K (a.put ((l[i]?).bind (·.dst)) v) w) → wpOp P l.toArray Q i K a w)
    (hcall : ∀ s i, ks[s]? = some i → ∀ (vs : Nat → Value) (a : Act) (w : World) (K : Act → World → Prop), a = fillF (l.take n) vs 0 a0 → St s w → (∀ j, depB l i j = true → F j (vs j) w) →
      (∀ v w', F i v w' → E s w w' → St (s + 1) w' → K (a.put ((l[i]?).bind (·.dst)) v) w') → wpOp P l.toArray Q i K a w)
    (hdone : ∀ (vs : Nat → Value) (a : Act) (w : World), a = fillF (l.take n) vs 0 a0 → St ks.length w → (∀ i, i < n → F i (vs i) w) → wpList P l.toArray Q (l.drop n) a w) :
    (Code.region id l.toArray true).wp P Q a0 w0 := by
  simp only [Bool.and_eq_true, decide_eq_true_eq, List.all_eq_true] at hK
  obtain ⟨⟨hch, hnd⟩, hlt⟩ := hK
  have e0 : cntK ks (Array.replicate l.length false) = 0 := by
    unfold cntK
    rw [List.filter_eq_nil_iff.2 (fun x hx => by rw [getD_replicate_false]; decide)]; rfl
  refine wp_region_listedE n hm hB F (fun listed w => St (cntK ks listed) w) (fun i w w' => (i ∉ ks ∧ w' = w) ∨ ∃ s, ks[s]? = some i ∧ E s w w') (fun i j v w w' hi hj hne hp h he => (by
    rcases he with ⟨_, rfl⟩ | ⟨s, hs, he⟩
    · exact h
    · exact hF s i hs j v w w' hj hne hp h he)) (by show St (cntK ks _) _; rw [e0]; exact h0) (fun i hi listed vs w K hc hun hcl hdeps hf hu hk => ?_) (fun listed vs w hc hsz hall hf => ?_)
  · have hdep : ∀ j, depB l i j = true → F j (vs j) w := fun j hj => (hf j (hdeps j hj)).2
    by_cases hin : i ∈ ks
    · obtain ⟨pre, post, rfl⟩ := List.append_of_mem hin
      have hk0 : listed.getD i false = false := getD_both hun
      have e1 := cnt_at hcl pre post i hch hk0 hdeps
      have e2 := cnt_call hcl pre post i hch hnd hun hk0 hdeps
      rw [e1] at hc
      refine hcall pre.length i (by simp) vs _ w K rfl hc hdep fun v w' h1 h2 h3 => hk v w' h1 (.inr ⟨pre.length, by simp, h2⟩) ?_
      rw [e2]; exact h3
    · refine hstep i hi hin _ vs _ w K rfl hc hdep (fun j p hp hw => hu j p hp (by
        rcases hw with rfl | hw
        · exact getD_both hun
        · cases h3 : listed.getD j false with
          | false => rfl
          | true =>
            have := hcl j i h3 hw
            rw [getD_both hun] at this; cases this)) fun v h1 => hk v w h1 (.inl ⟨hin, rfl⟩) ?_
      show St (cntK ks (listed.setIfInBounds i true)) w
      rw [cnt_other ks i hin]; exact hc
  · refine hdone vs _ w rfl ?_ hf
    have : cntK ks listed = ks.length := by
      unfold cntK
      rw [List.filter_eq_self.2 (fun x hx => by
        have := hall x (hlt x hx)
        cases h : listed.getD x false with
        | true => rfl
        | false =>
          exfalso
          rw [getD_in (by have := hlt x hx; omega) h] at this; cases this)]
    rw [← this]; exact hc
end
end Go.Proofs.Ytopgakdgifmecaa
