/-
  A RULE for drawn regions some of whose operations, chained one behind the other, change memory: as XRegE's, the facts by how many of the chained ones are done (what is used up may be forgotten).
  CONDITIONS: the theorem's own hypotheses.
  THE WALK of the law 'chirographkeep.KindMore': for every raw things and kind the law returns true.
  CONDITIONS: the raw things lie; the tables lie.
-/
import Derived.Test.YtoleaahnpcbkkaaDoorRegSt
import Derived.Test.YtoleaahnpcbkkaaDoorKindF
import Derived.Test.YtoleaahnpcbkkaaDoorGHeap
import Derived.Test.YtoleaahnpcbkkaaDoorTyK
namespace Go.Proofs.YtoleaahnpcbkkaaDoor
open Go Go.RowKit
set_option linter.unusedVariables false

section
variable {P : Program} {l : List Oper} {Q : Exit → Act → World → Prop} {a0 : Act}

theorem wp_region_listedG {id : Nat} {w0 : World} (n : Nat) (hm : P.follows .mixedOrders = true) (hB : factB l n = true)
    (F : Array Bool → Nat → Value → World → Prop) (C : Array Bool → World → Prop) (E : Nat → World → World → Prop)
    (hF : ∀ (listed : Array Bool) i j v w w', i < n → j < n → j ≠ i → pathB l 4 j i = false → listed.getD i true = false → (∀ p q, listed.getD p false = true → depB l p q = true → listed.getD q false = true) → (∀ j, depB l i j = true → listed.getD j false = true) → F listed j v w → E i w w' → F (listed.setIfInBounds i true) j v w') (h0 : C (Array.replicate l.length false) { w0 with drawn := w0.drawn + 1 })
    (hstep : ∀ i, i < n → ∀ (listed : Array Bool) (vs : Nat → Value) (w : World) (K : Act → World → Prop), C listed w → listed.getD i true = false → (∀ p q, listed.getD p false = true → depB l p q = true → listed.getD q false = true) → (∀ j, depB l i j = true → listed.getD j false = true) →
      (∀ j, listed.getD j false = true → j < n ∧ F listed j (vs j) w) → (∀ j o, (l.take n)[j]? = some o → listed.getD j false = false → vs j = slotOf a0 o) →
      (∀ v w', F (listed.setIfInBounds i true) i v w' → E i w w' → C (listed.setIfInBounds i true) w' → K ((fillF (l.take n) vs 0 a0).put ((l[i]?).bind (·.dst)) v) w') → wpOp P l.toArray Q i K (fillF (l.take n) vs 0 a0) w)
    (hdone : ∀ (listed : Array Bool) (vs : Nat → Value) (w : World), C listed w → listed.size = l.length ∧ n ≤ l.length → (∀ i, i < n → listed.getD i true = true) → (∀ i, i < n → F listed i (vs i) w) → wpList P l.toArray Q (l.drop n) (fillF (l.take n) vs 0 a0) w) :
    (Code.region id l.toArray true).wp P Q a0 w0 := by
  simp only [factB, Bool.and_eq_true, decide_eq_true_eq, List.all_eq_true, List.mem_range, Bool.or_eq_true, beq_iff_eq] at hB
  obtain ⟨⟨⟨⟨⟨⟨hone, hn⟩, hlow⟩, hsc⟩, hseq⟩, hcnt⟩, hin⟩ := hB
  have main : ∀ (fuel : Nat) (listed : Array Bool) (a : Act) (w : World), listed.toList.count false = fuel → SInv l n (F listed) C a0 listed a w → wpAny P .any l.toArray Q fuel listed a w := by
    intro fuel
    induction fuel with
    | zero =>
      intro listed a w hc inv
      obtain ⟨vs, ha, hf, -⟩ := inv.vals
      have hall := count_zero hc
      have hln : n = l.length := by
        rcases Nat.lt_or_ge n l.length with h | h
        · have h1 := inv.tail n (Nat.le_refl _) h
          rw [hall n] at h1; cases h1
        · omega
      have hr : Region.ready .any l.toArray listed = [] := by
        apply List.eq_nil_iff_forall_not_mem.2
        intro i hi
        have h1 := (ready_iff.1 hi).1
        rw [hall i] at h1; cases h1
      have hd := hdone listed vs w inv.cls ⟨inv.size, hn⟩ (fun i hi => hall i) (fun i hi => hf i hi (hall i))
      rw [List.drop_of_length_le (by omega)] at hd
      exact ⟨hr, by rw [ha]; exact hd⟩
    | succ fuel ih =>
      intro listed a w hc inv
      obtain ⟨vs, ha, hf, hu⟩ := inv.vals
      by_cases hd : ∃ i, i < n ∧ listed.getD i true = false
      · -- the head is not complete
        have hleast : ∃ i, i < n ∧ i ∈ Region.ready .any l.toArray listed := by
          obtain ⟨i, hi⟩ := hd
          induction i using Nat.strongRecOn with
          | _ i ihi =>
            by_cases hall : ∀ j, depB l i j = true → listed.getD j false = true
            · exact ⟨i, hi.1, ready_iff.2 ⟨hi.2, by omega, hall⟩⟩
            · simp only [Classical.not_forall] at hall
              obtain ⟨j, hj, hlj⟩ := hall
              obtain ⟨o, ho, e, he, hb, hon⟩ := Region.waitsFor_spec hj
              have hjl : j < l.length := by
                have h1 := hin i (by omega)
                have ho' : l[i]? = some o := by simpa using ho
                rw [ho'] at h1
                simp only [Option.map_some, Option.getD_some, Array.all_eq_true'] at h1
                have h2 := h1 e he
                rw [hb] at h2
                simp only [Bool.not_true, Bool.false_or, decide_eq_true_eq] at h2
                omega
              have hji : j < i := by
                have h1 := hlow i (by omega) j hjl
                rcases h1 with h1 | h1
                · rw [hj] at h1; cases h1
                · exact h1
              have hlj' : listed.getD j true = false := by
                have : listed.getD j false = false := by cases h : listed.getD j false <;> simp_all
                exact getD_in (by rw [inv.size]; exact hjl) this
              exact ihi j hji ⟨by omega, hlj'⟩
        refine ⟨fun hr => ?_, fun i hi => ?_⟩
        · obtain ⟨i, _, hi⟩ := hleast
          rw [hr] at hi; cases hi
        · obtain ⟨hiun, hil, hideps⟩ := ready_iff.1 hi
          have hin' : i < n := by
            rcases Nat.lt_or_ge i n with h | h
            · exact h
            · rcases hsc with h1 | h1
              · omega
              · obtain ⟨⟨h2, h3⟩, h4⟩ := h1
                obtain ⟨k, hk, hkun⟩ := hd
                have hinv : HeadInv .any l.toArray n listed := ⟨by simpa using inv.size, fun j oj hj hl e he hb => inv.closed j e.on hl (depB_of (by simpa using hj) he hb), fun t ht ht' => inv.tail t ht (by simpa using ht')⟩
                exact absurd hi (tail_waits h3 h4 (by simpa using h2) hinv _ k rfl hk hkun i h)
          obtain ⟨o, ho⟩ : ∃ o, l[i]? = some o := ⟨_, List.getElem?_eq_getElem hil⟩
          have hot : (l.take n)[i]? = some o := by rw [List.getElem?_take_of_lt hin']; exact ho
          subst ha
          have hjn : ∀ j, listed.getD j false = true → j < n := fun j hj => by
            rcases Nat.lt_or_ge j n with h | h
            · exact h
            · rcases Nat.lt_or_ge j l.length with h' | h'
              · have h2 := inv.tail j h h'
                rw [getD_both h2] at hj; cases hj
              · have : listed.getD j false = false := by simp [Array.getElem?_eq_none (show listed.size ≤ j by rw [inv.size]; exact h')]
                rw [this] at hj; cases hj
          refine hstep i hin' listed vs w _ inv.cls hiun inv.closed hideps (fun j hj => ⟨hjn j hj, ?_⟩) (fun j p hp hw => ?_) (fun v w' hv he hcs => ?_)
          · refine hf j (hjn j hj) ?_
            cases h3 : listed.getD j true with
            | true => rfl
            | false => rw [getD_both h3] at hj; cases hj
          · refine hu j p hp (getD_in ?_ hw)
            have := (List.getElem?_eq_some_iff.1 hp).1
            rw [inv.size]
            simp at this; omega
          · rw [ho]
            simp only [Option.bind_some]
            rw [fillF_put (l.take n) vs 0 a0 i o v hot hone, Nat.zero_add]
            refine ih _ _ _ ?_ ⟨by simp [inv.size], fun p q hp hq => ?_, fun t ht ht' => by rw [getD_set_ne true (by omega)]; exact inv.tail t ht ht', hcs, upd vs i v, rfl, fun p hp hlp => ?_, fun p q hp hlp => ?_⟩
            · have := count_set listed i hiun
              omega
            · by_cases hip : i = p
              · subst hip
                exact getD_set_true (hideps q hq)
              · rw [getD_set_ne false hip] at hp
                exact getD_set_true (inv.closed p q hp hq)
            · by_cases hip : p = i
              · subst hip
                have : upd vs p v p = v := by simp [upd]
                rw [this]; exact hv
              · rw [getD_set_ne true (Ne.symm hip)] at hlp
                have : upd vs i v p = vs p := by simp [upd, hip]
                rw [this]
                refine hF listed i p _ w w' hin' hp hip ?_ hiun inv.closed hideps (hf p hp hlp) he
                cases hpb : pathB l 4 p i with
                | false => rfl
                | true =>
                  have h3 : listed.getD p false = true := by
                    cases h4 : listed.getD p false with
                    | true => rfl
                    | false =>
                      have h5 := getD_in (show p < listed.size by rw [inv.size]; omega) h4
                      rw [hlp] at h5; cases h5
                  have h6 := path_listed inv.closed 4 p i h3 hpb
                  rw [getD_both hiun] at h6; cases h6
            · by_cases hip : p = i
              · subst hip
                have hlt : p < listed.size := by rw [inv.size]; exact hil
                simp [hlt] at hlp
              · rw [getD_set_ne true (Ne.symm hip)] at hlp
                have : upd vs i v p = vs p := by simp [upd, hip]
                rw [this]
                exact hu p q hp hlp
      · -- the head is complete: the tail is forced
        have hall : ∀ i, i < n → listed.getD i true = true := by
          intro i hi
          cases h : listed.getD i true with
          | true => rfl
          | false => exact absurd ⟨i, hi, h⟩ hd
        have hstart : listed = startAt l.length n := by
          apply Array.ext
          · simp [startAt, inv.size]
          · intro i h1 h2
            have hil : i < l.length := by rw [← inv.size]; exact h1
            have e : (startAt l.length n)[i] = decide (i < n) := by simp [startAt]
            rw [e]
            rcases Nat.lt_or_ge i n with h | h
            · have := hall i h
              simp [h1] at this
              simp [this, h]
            · have := inv.tail i h hil
              simp [h1] at this
              simp [this]; omega
        have hd := hdone listed vs w inv.cls ⟨inv.size, hn⟩ (fun i hi => hall i hi) (fun i hi => hf i hi (hall i hi))
        have hfu : fuel + 1 = (l.drop n).length := by rw [← hc, hstart]; exact hcnt
        rw [hfu, ha, hstart]
        exact wpAny_of_seq (l.drop n) n _ _ w (fun j => by simp [List.getElem?_drop]) hseq hd
  refine wp_region_any hm (main _ _ _ _ (by simp) ⟨by simp, fun i j h _ => (by rw [getD_replicate_false] at h; cases h), fun t _ ht => getD_in (by simpa using ht) (getD_replicate_false _ _), (by simpa using h0), fun i => (match (l.take n)[i]? with | some o => slotOf a0 o | none => undef), ?_, fun i hi h => ?_, fun i o ho _ => (by show (match (l.take n)[i]? with | some o => slotOf a0 o | none => undef) = _; rw [ho])⟩)
  · refine (fillF_self (l.take n) 0 a0 _ (fun k o ho => ?_)).symm
    rw [Nat.zero_add, ho]
  · have : (Array.replicate l.toArray.size false).getD i true = false := getD_in (by simp; omega) (getD_replicate_false _ _)
    rw [this] at h; cases h

theorem wp_region_chain2 {id : Nat} {w0 : World} (n : Nat) (ks : List Nat) (hm : P.follows .mixedOrders = true) (hB : factB l n = true) (hK : (chainK l ks && decide ks.Nodup && ks.all (fun k => decide (k < n))) = true)
    (F : Nat → Nat → Value → World → Prop) (St : Nat → World → Prop) (E : Nat → World → World → Prop)
    (hF : ∀ s i, ks[s]? = some i → ∀ j v w w', j < n → j ≠ i → pathB l 4 j i = false → F s j v w → E s w w' → F (s + 1) j v w') (h0 : St 0 { w0 with drawn := w0.drawn + 1 })
    (hstep : ∀ i, i < n → i ∉ ks → ∀ (s : Nat) (vs : Nat → Value) (a : Act) (w : World) (K : Act → World → Prop), a = fillF (l.take n) vs 0 a0 → St s w → (∀ j, depB l i j = true → F s j (vs j) w) → (∀ j o, (l.take n)[j]? = some o → (j = i ∨ depB l j i = true) → vs j = slotOf a0 o) →
      (∀ v, F s i v w → K (a.put ((l[i]?).bind (·.dst)) v) w) → wpOp P l.toArray Q i K a w)
    (hcall : ∀ s i, ks[s]? = some i → ∀ (vs : Nat → Value) (a : Act) (w : World) (K : Act → World → Prop), a = fillF (l.take n) vs 0 a0 → St s w → (∀ j, depB l i j = true → F s j (vs j) w) →
      (∀ v w', F (s + 1) i v w' → E s w w' → St (s + 1) w' → K (a.put ((l[i]?).bind (·.dst)) v) w') → wpOp P l.toArray Q i K a w)
    (hdone : ∀ (vs : Nat → Value) (a : Act) (w : World), a = fillF (l.take n) vs 0 a0 → St ks.length w → (∀ i, i < n → F ks.length i (vs i) w) → wpList P l.toArray Q (l.drop n) a w) :
    (Code.region id l.toArray true).wp P Q a0 w0 := by
  simp only [Bool.and_eq_true, decide_eq_true_eq, List.all_eq_true] at hK
  obtain ⟨⟨hch, hnd⟩, hlt⟩ := hK
  have e0 : cntK ks (Array.replicate l.length false) = 0 := by
    unfold cntK
    rw [List.filter_eq_nil_iff.2 (fun x hx => by rw [getD_replicate_false]; decide)]; rfl
  have cntI : ∀ (listed : Array Bool) (i : Nat), listed.getD i true = false → (∀ p q, listed.getD p false = true → depB l p q = true → listed.getD q false = true) → (∀ j, depB l i j = true → listed.getD j false = true) → ∀ s, ks[s]? = some i → cntK ks listed = s ∧ cntK ks (listed.setIfInBounds i true) = s + 1 := by
    intro listed i hun hcl hdeps s hs
    have hin : i ∈ ks := List.mem_of_getElem? hs
    obtain ⟨pre, post, rfl⟩ := List.append_of_mem hin
    have hk0 : listed.getD i false = false := getD_both hun
    have e1 := cnt_at hcl pre post i hch hk0 hdeps
    have e2 := cnt_call hcl pre post i hch hnd hun hk0 hdeps
    have hsl := (List.getElem?_eq_some_iff.1 hs).1
    have hps : (pre ++ i :: post)[pre.length]? = some i := by simp
    have hsp : s = pre.length := by
      have hpl := (List.getElem?_eq_some_iff.1 hps).1
      have h1 := (List.getElem?_eq_some_iff.1 hs).2
      have h2 := (List.getElem?_eq_some_iff.1 hps).2
      have hpw := List.pairwise_iff_getElem.1 hnd
      rcases Nat.lt_trichotomy s pre.length with h | h | h
      · exact absurd (h1.trans h2.symm) (hpw s pre.length hsl hpl h)
      · exact h
      · exact absurd (h2.trans h1.symm) (hpw pre.length s hpl hsl h)
    exact ⟨by rw [e1, hsp], by rw [e2, hsp]⟩
  refine wp_region_listedG n hm hB (fun listed j v w => F (cntK ks listed) j v w) (fun listed w => St (cntK ks listed) w) (fun i w w' => (i ∉ ks ∧ w' = w) ∨ ∃ s, ks[s]? = some i ∧ E s w w') (fun listed i j v w w' hi hj hne hp hun hcl hdeps h he => (by
    rcases he with ⟨hin, rfl⟩ | ⟨s, hs, he⟩
    · rw [cnt_other ks i hin]; exact h
    · obtain ⟨c1, c2⟩ := cntI listed i hun hcl hdeps s hs
      rw [c2]
      rw [c1] at h
      exact hF s i hs j v w w' hj hne hp h he)) (by show St (cntK ks _) _; rw [e0]; exact h0) (fun i hi listed vs w K hc hun hcl hdeps hf hu hk => ?_) (fun listed vs w hc hsz hall hf => ?_)
  · have hdep : ∀ j, depB l i j = true → F (cntK ks listed) j (vs j) w := fun j hj => (hf j (hdeps j hj)).2
    by_cases hin : i ∈ ks
    · obtain ⟨s, hs⟩ := List.mem_iff_getElem?.1 hin
      obtain ⟨c1, c2⟩ := cntI listed i hun hcl hdeps s hs
      rw [c1] at hc hdep
      refine hcall s i hs vs _ w K rfl hc hdep fun v w' h1 h2 h3 => hk v w' (by rw [c2]; exact h1) (.inr ⟨s, hs, h2⟩) ?_
      rw [c2]; exact h3
    · refine hstep i hi hin _ vs _ w K rfl hc hdep (fun j p hp hw => hu j p hp (by
        rcases hw with rfl | hw
        · exact getD_both hun
        · cases h3 : listed.getD j false with
          | false => rfl
          | true =>
            have := hcl j i h3 hw
            rw [getD_both hun] at this; cases this)) fun v h1 => hk v w (by rw [cnt_other ks i hin]; exact h1) (.inl ⟨hin, rfl⟩) ?_
      show St (cntK ks (listed.setIfInBounds i true)) w
      rw [cnt_other ks i hin]; exact hc
  · have hck : cntK ks listed = ks.length := by
      unfold cntK
      rw [List.filter_eq_self.2 (fun x hx => by
        have := hall x (hlt x hx)
        cases h : listed.getD x false with
        | true => rfl
        | false =>
          exfalso
          rw [getD_in (by have := hlt x hx; omega) h] at this; cases this)]
    refine hdone vs _ w rfl (by rw [← hck]; exact hc) (fun i hi => by have := hf i hi; rw [hck] at this; exact this)
end
end Go.Proofs.YtoleaahnpcbkkaaDoor
namespace Go.Proofs.YtoleaahnpcbkkaaDoor
open Go.RowKit
set_option linter.unusedVariables false
set_option maxRecDepth 100000

def zzC : Cl := ⟨[122, 122], 4, false⟩
theorem colsG_app : ∀ (l a : List Cl) (z : Cl), colsG a l = 0 → colsG a (l ++ [z]) = colsG (a ++ l) [z]
  | [], a, z, _ => by simp
  | c :: l, a, z, h => by
    simp only [colsG, List.cons_append] at h ⊢
    by_cases hc : colF c a = 0
    · rw [if_pos hc] at h ⊢
      have e := colsG_app l (a ++ [c]) z h
      rw [List.append_assoc] at e
      rw [e]
      simp only [colsG, List.singleton_append]
    · rw [if_neg hc] at h; exact absurd h hc
theorem no_zz {cs : List Cl} (hn : ∀ c ∈ cs, c.n.length = 1) : cs.any (fun x => x.n == [122, 122]) = false := by
  rw [List.any_eq_false]
  intro c hc he
  have h1 := hn c hc
  rw [eq_of_beq he] at h1
  exact absurd h1 (by decide)
theorem colsR_zz {cs : List Cl} (hc : colsR cs = 0) (h4 : cs.length ≤ 4) (hn : ∀ c ∈ cs, c.n.length = 1) : colsR (cs ++ [zzC]) = 0 := by
  have hg : colsG [] cs = 0 := by
    unfold colsR at hc
    rw [if_neg (by omega)] at hc; exact hc
  unfold colsR
  rw [if_neg (by simp; omega), colsG_app cs [] zzC hg, List.nil_append]
  have hF : colF zzC cs = 0 := by
    unfold colF
    rw [show tokC 1 zzC.n 0 0 = 0 by decide, if_neg (by decide), if_neg (by decide), show (fun x : Cl => x.n == zzC.n) = (fun x => x.n == [122, 122]) from rfl, no_zz hn]; rfl
  simp only [colsG]
  rw [if_pos hF]
theorem place_zz {cs : List Cl} (hn : ∀ c ∈ cs, c.n.length = 1) : placeN [122, 122] cs 0 < 0 := by
  have h := placeN_any [122, 122] cs 0
  rw [no_zz hn] at h
  by_cases hp : 0 ≤ placeN [122, 122] cs 0
  · exact absurd (h.1 hp) (by decide)
  · omega
theorem more_facts {cs : List Cl} {k0 : Int} {t : T} (hc : colsR cs = 0) (h4 : cs.length ≤ 4) (hn : ∀ c ∈ cs, c.n.length = 1) (hk : 1 ≤ k0 ∧ k0 ≤ 4) (hT : Ty cs 4 k0 t) : ∃ (k : Int) (n : Bool), kindsR cs t = ⟨k, n, 0⟩ ∧ kindsR (cs ++ [zzC]) t = ⟨k, n, 0⟩ ∧ (k = k0 ∨ k = 0) ∧ kindsR cs (opN 5 [colT [122, 122], t]) = ⟨0, false, 5⟩ := by
  have he := ty_expr hc 4 (by decide) k0 t hk hT
  obtain ⟨hf, hkk⟩ := ty_kind hc 4 k0 t hk hT
  have hm := ty_more hc [zzC] 4 k0 t hk hT
  refine ⟨(kT cs t).k, (kT cs t).n, ?_, ?_, hkk, ?_⟩
  · unfold kindsR
    rw [if_neg (by rw [he]; decide), if_neg (by rw [hc]; decide), ← hf]
  · unfold kindsR
    rw [if_neg (by rw [he]; decide), if_neg (by rw [colsR_zz hc h4 hn]; decide), hm, ← hf]
  · have hd := ty_deep 4 k0 t hT
    have hz : formT (colT [122, 122]) = 0 := leaf_form (cs := [zzC]) (by decide) (k := 4) (.inl ⟨0, zzC, rfl, rfl, rfl⟩)
    have hfm := ty_form hc 4 k0 t hk hT
    have hex : exprR (opN 5 [colT [122, 122], t]) = 0 := by
      rw [exprR_small _ (by simp only [opN, colT, T.deep, deepL]; omega) (by simp only [opN, colT, T.size, sizeL]; omega)]
      have e := nodeF_op 5 2 (by omega) (by rfl)
      show (if nodeF ⟨5, 0, 0, 0, [], []⟩ 2 ≠ 0 then nodeF ⟨5, 0, 0, 0, [], []⟩ 2 else formL [colT [122, 122], t]) = 0
      rw [e, if_neg (by decide)]
      simp only [formL]
      rw [hz, hfm]; rfl
    have hcz : kT cs (colT [122, 122]) = ⟨0, false, 5⟩ := by
      have e : kT cs (colT [122, 122]) = colK [122, 122] cs := by simp only [colT, kT]; rw [if_neg (by decide), if_pos trivial]
      rw [e]; unfold colK
      rw [if_pos (place_zz hn)]
    unfold kindsR
    rw [if_neg (by rw [hex]; decide), if_neg (by rw [hc]; decide)]
    simp only [opN, kT, kF, hcz]
    rfl
theorem exprV_seven (t : T) (ao : Option Addr) (cap : Nat) : ∃ (xo xk xi xb : Int) (xs xm : ByteArray) (xl : Nat), exprV t ao cap = .agg #[.int .i64 xo, .int .i64 xk, .int .i64 xi, .int .u64 xb, .string xs, .string xm, .slice ao xl cap] := ⟨_, _, _, _, _, _, _, exprV_cells t ao cap⟩
theorem Blk.seven7 {w : World} {b : Nat} {T : TypeId} {v0 v1 v2 v3 v4 v5 v6 : Value} (h : Blk w b T [v0, v1, v2, v3, v4, v5, v6]) : w.cell? ⟨b, 0, Option.none⟩ = some v0 ∧ w.cell? ⟨b, 1, Option.none⟩ = some v1 ∧ w.cell? ⟨b, 2, Option.none⟩ = some v2 ∧ w.cell? ⟨b, 3, Option.none⟩ = some v3 ∧ w.cell? ⟨b, 4, Option.none⟩ = some v4 ∧ w.cell? ⟨b, 5, Option.none⟩ = some v5 ∧ w.cell? ⟨b, 6, Option.none⟩ = some v6 :=
  ⟨h.cell (j := 0) rfl, h.cell (j := 1) rfl, h.cell (j := 2) rfl, h.cell (j := 3) rfl, h.cell (j := 4) rfl, h.cell (j := 5) rfl, h.cell (j := 6) rfl⟩
theorem addr_addO (b o j : Nat) : (⟨b, o, Option.none⟩ : Addr).add j = ⟨b, o + j, Option.none⟩ := by unfold Addr.add; split <;> simp_all
theorem lies_cells {W : World} {a o : Nat} {cs : List Cl} (h : LiesC W a o cs) : ∀ j u, (cellsC cs)[j]? = some u → W.cell? ⟨a, o + j, Option.none⟩ = some u := by
  intro j u hj
  have hlt : j < cs.length * 3 := by rw [← cellsC_length]; exact (List.getElem?_eq_some_iff.1 hj).1
  obtain ⟨t, ht⟩ : ∃ t, cs[j / 3]? = some t := ⟨_, List.getElem?_eq_getElem (by omega)⟩
  have h1 := cellsC_at cs (j / 3) (j % 3) t ht (by omega)
  rw [show j / 3 * 3 + j % 3 = j by omega, hj] at h1
  obtain ⟨c0, c1, c2⟩ := h (j / 3) t ht
  rcases (show j % 3 = 0 ∨ j % 3 = 1 ∨ j % 3 = 2 by omega) with e | e | e
  · rw [e] at h1
    rw [h1, show o + j = o + j / 3 * 3 by omega]; exact c0
  · rw [e] at h1
    rw [h1, show o + j = o + j / 3 * 3 + 1 by omega]; exact c1
  · rw [e] at h1
    rw [h1, show o + j = o + j / 3 * 3 + 2 by omega]; exact c2
theorem wpList_append_colsC {ops : Array Oper} {rest : List Oper} {o : Oper} {a : Act} {Q : Exit → Act → World → Prop} {w : World} (hgd : o.guard = Option.none) (s x : Operand)
    (ho : o.op = .call { callee := .builtin .append, args := #[s, x], argTypes := #[22, 22] }) (base : Nat) (v : Value) (l : List Cl) (hs : a.eval s = v) (hown : OwnC w base v l)
    (m : List Cl) (ad : Addr) (q c : Nat) (hx : a.eval x = .slice (some ad) q c) (hq : m.length = q) (hnews : ∀ j u, (cellsC m)[j]? = some u → w.cell? (ad.add j) = some u) (hl : l.length + q ≤ 1000000) (hb : base ≤ w.heap.size)
    (h : ∀ v' w', OwnC w' base v' (l ++ m) → Below base w w' → wpList Tryd.prog ops Q rest (a.put o.dst v') w') : wpList Tryd.prog ops Q (o :: rest) a w := by
  subst hq
  obtain ⟨i0, hi, hz0, hz1, hz2⟩ := info_parts infoC
  refine wpList_append_own _ hgd s x 22 ho base 43 i0 _ 3 32 Tryd.underlying22 hi hz0 hz1 hz2 rfl (by decide) v l.length (cellsC l) hs hown ad m.length c (cellsC m) hx (cellsC_length m) hnews ?_ (by unfold maxLen; omega) (by omega) hb ?_
  · intro y hy
    unfold cellsC at hy
    obtain ⟨t, _, ht⟩ := List.mem_flatMap.1 hy
    simp [cellsC1] at ht
    rcases ht with rfl | rfl | rfl <;> rfl
  · intro v' w' h1 h2 _
    refine h v' w' ?_ ?_
    · unfold OwnC
      rw [cellsC_append, List.length_append]
      exact h1
    · exact (Below.refl base w).grown h2 hb (fun k hk => (hown.lt k hk).1)
theorem OwnC.slice {w : World} {b : Nat} {v : Value} {l m : List Cl} {q : Nat} (h : OwnC w b v ([] ++ l)) (hq : l.length = q) (hl : 1 ≤ q) : ∃ g cap, v = .slice (some ⟨g, 0, Option.none⟩) q cap ∧ b ≤ g ∧ q ≤ cap ∧ w.ownsRow b 43 3 (.slice (some ⟨g, 0, Option.none⟩) q cap) q (cellsC l) := by
  rw [List.nil_append] at h
  unfold OwnC at h
  rw [hq] at h
  rcases h.2 with ⟨rfl, h0⟩ | ⟨g, cap, cur, rfl, h1, h2, h3, h4, h5⟩
  · omega
  · exact ⟨g, cap, rfl, h1, h3, h⟩
/-- An empty row of the call's own, in a block. -/
theorem OwnC.none (w : World) : OwnC (w.alloc (.cells #[] 43)) w.heap.size (.slice (some ⟨w.heap.size, 0, Option.none⟩) 0 0) [] :=
  ⟨rfl, .inr ⟨w.heap.size, 0, #[], rfl, Nat.le_refl _, Blk.new w #[] 43, Nat.le_refl _, by unfold maxLen; omega, rfl, rfl⟩⟩
theorem wp_append_colsC {o : Oper} {a : Act} {w : World} {K : Act → World → Prop} {Q : Exit → Act → World → Prop} (s x : Operand)
    (ho : o.op = .call { callee := .builtin .append, args := #[s, x], argTypes := #[22, 22] }) (base : Nat) (v : Value) (l : List Cl) (hs : a.eval s = v) (hown : OwnC w base v l)
    (m : List Cl) (ad : Addr) (q c : Nat) (hx : a.eval x = .slice (some ad) q c) (hq : m.length = q) (hnews : ∀ j u, (cellsC m)[j]? = some u → w.cell? (ad.add j) = some u) (hl : l.length + q ≤ 1000000) (hb : base ≤ w.heap.size)
    (h : ∀ v' w', OwnC w' base v' (l ++ m) → w.grownBy w' v.ownBlock → Below base w w' → K (a.put o.dst v') w') : o.wp Tryd.prog a w K Q := by
  subst hq
  obtain ⟨i0, hi, hz0, hz1, hz2⟩ := info_parts infoC
  refine wp_append_own w s x 22 ho base 43 i0 _ 3 32 Tryd.underlying22 hi hz0 hz1 hz2 rfl (by decide) v l.length (cellsC l) hs hown ad m.length c (cellsC m) hx (cellsC_length m) hnews ?_ (by unfold maxLen; omega) (by omega) hb ?_
  · intro y hy
    unfold cellsC at hy
    obtain ⟨t, _, ht⟩ := List.mem_flatMap.1 hy
    simp [cellsC1] at ht
    rcases ht with rfl | rfl | rfl <;> rfl
  · intro v' w' h1 h2 _
    refine h v' w' ?_ h2 ?_
    · unfold OwnC
      rw [cellsC_append, List.length_append]
      exact h1
    · exact (Below.refl base w).grown h2 hb (fun k hk => (hown.lt k hk).1)
def MoreF (base : Nat) (xs0 cols : Value) (k : Int) (nl : Bool) (cs : List Cl) (ls : Array Bool) : Nat → Value → World → Prop
  | 0, v, _ => v = xs0
  | 1, v, w => ls.getD 3 false = true ∨ ∃ g, v = .slice (some ⟨g, 0, none⟩) 0 0 ∧ base ≤ g ∧ Blk w g 43 []
  | 2, v, _ => v = cols
  | 3, v, w => ls.getD 6 false = true ∨ OwnC w base v cs
  | 4, v, _ => v = .agg #[.string ⟨#[122, 122]⟩, .int .i64 4, .bool false]
  | 5, v, w => ls.getD 6 false = true ∨ ∃ k, v = .slice (some ⟨k, 0, none⟩) 1 1 ∧ Blk w k 43 [.string ⟨#[122, 122]⟩, .int .i64 4, .bool false]
  | 6, v, w => ls.getD 7 false = true ∨ OwnC w base v (cs ++ [zzC])
  | 7, v, _ => v = .tuple #[.int .i64 k, .bool nl, .int .i64 0]
  | 8, v, _ => v = .tuple #[.int .i64 k, .bool nl, .int .i64 0]
  | 9, v, _ => v = .int .i64 k
  | 10, v, _ => v = .bool nl
  | 11, v, _ => v = .int .i64 0
  | 12, v, _ => v = .int .i64 k
  | 13, v, _ => v = .bool nl
  | _, _, _ => True
def MoreE : Nat → World → World → Prop
  | 3, w, w' => ∃ g, Blk w g 43 [] ∧ w.grownBy w' (some g)
  | 6, _, _ => True
  | _, w, w' => Below w.heap.size w w'
theorem getD_put_true {a : Array Bool} {i j : Nat} (h : a.getD j false = true) : (a.setIfInBounds i true).getD j false = true := by
  by_cases hij : i = j
  · subst hij
    by_cases hs : i < a.size
    · simp [hs]
    · simp [hs] at h
  · simpa [hij] using h
theorem getD_put_self {a : Array Bool} {i : Nat} (h : a.getD i true = false) : (a.setIfInBounds i true).getD i false = true := by
  by_cases hs : i < a.size
  · simp [hs]
  · simp [hs] at h
theorem moreF_keep {base : Nat} {xs0 cols : Value} {k : Int} {nl : Bool} {cs : List Cl} {ls : Array Bool} (i : Nat) {W W' : World} (hb : Below W.heap.size W W') : ∀ (j : Nat) (v : Value), MoreF base xs0 cols k nl cs ls j v W → MoreF base xs0 cols k nl cs (ls.setIfInBounds i true) j v W'
  | 0, _, h => h
  | 1, _, h => h.imp getD_put_true fun ⟨g, h1, h2, h3⟩ => ⟨g, h1, h2, h3.call hb⟩
  | 2, _, h => h
  | 3, _, h => h.imp getD_put_true fun h => OwnC.keep h hb
  | 4, _, h => h
  | 5, _, h => h.imp getD_put_true fun ⟨g, h1, h3⟩ => ⟨g, h1, h3.call hb⟩
  | 6, _, h => h.imp getD_put_true fun h => OwnC.keep h hb
  | 7, _, h => h
  | 8, _, h => h
  | 9, _, h => h
  | 10, _, h => h
  | 11, _, h => h
  | 12, _, h => h
  | 13, _, h => h
  | _ + 14, _, h => h
set_option maxHeartbeats 16000000 in
theorem kindMore_walk (l : List R) (aol : Option Addr) (capl : Nat) (kd : Int) (w : World) (hX : XEnv w) (hc : l.length ≤ capl) (hm : capl ≤ 9223372036854775807) (hx : Raws w aol l) (k0 : -9223372036854775808 ≤ kd) (k1 : kd ≤ 9223372036854775807) :
    Calls Tryd.prog 6 #[.slice aol l.length capl, .int .i64 kd] w fun e w' => e = .returned (.bool true) ∧ Below w.heap.size w w' := by
  have cE := exprOf_any l aol capl kd w hx hc (by omega) k0 k1
  have cK := fun W => picked_any kd 4 W (by decide) (by decide) k0 k1
  have hkr : 1 ≤ 1 + kd % 4 ∧ 1 + kd % 4 ≤ 4 := by have := Int.emod_nonneg kd (show (4 : Int) ≠ 0 by decide); have := Int.emod_lt_of_pos kd (show (0 : Int) < 4 by decide); omega
  have hw1 : IntKind.i64.wrap (1 + kd % 4) = 1 + kd % 4 := by rw [IntKind.wrap_i64]; omega
  obtain ⟨n, hn⟩ : ∃ n, l.length = n := ⟨_, rfl⟩
  rw [hn] at cE ⊢
  unfold ExprOfOk at cE
  have HX := Lib.hid hX
  have HKR := Lib.hid hkr
  clear hx hn hc hm hX hkr k0 k1
  go_enter Tryd.func6, Tryd.ntmps6
  go_wp2_with fail
  refine cE.mono ?_
  rintro e w1 ⟨S, H, m, t, ao, cap, rfl, HT, HXT, HA, HS, HNM, HCP, hwH, hb1⟩
  clear cE hwH
  have X1 := HX.out.keep hb1
  have hcs : Cols w1 S.aoc S.cs := HA.out.1.2.2.show
  have hc0 := HS.out.cols
  have hc4 := HS.out.c4
  obtain ⟨hn1, hcc, hcm⟩ := HCP.out
  obtain ⟨k, nl, e1, e2, hkk, e3⟩ := more_facts hc0 hc4 HNM.out HKR.out HT.out
  have hxt := HXT.out
  have cO1 : ∀ W, Below w1.heap.size w1 W → Calls Tryd.prog 10 #[exprV t ao cap, .slice S.aoc S.cs.length S.capc] W fun e w' => e = .returned (.tuple #[.int .i64 k, .bool nl, .int .i64 0]) ∧ Below W.heap.size W w' := fun W hW => by
    have := of_any t ao cap S.cs S.aoc S.capc W (X1.keep hW) hxt.n1 ⟨hxt.n2, hxt.n3⟩ (hxt.A.keep hW) hcc hcm (hcs.keep hW)
    rw [e1] at this; exact this
  have cO2 : ∀ W v b, Below w1.heap.size w1 W → OwnC W b v (S.cs ++ [zzC]) → Calls Tryd.prog 10 #[exprV t ao cap, v] W fun e w' => e = .returned (.tuple #[.int .i64 k, .bool nl, .int .i64 0]) ∧ Below W.heap.size W w' := fun W v b hW ho => by
    obtain ⟨ao2, cap2, rfl, h1, h2, h3, _⟩ := OwnC.cols ho (fun c hc => by
      rcases List.mem_append.1 hc with hc | hc
      · exact hcs.1 c hc
      · rw [List.mem_singleton] at hc; subst hc; exact ⟨by decide, by decide, by decide⟩)
    have := of_any t ao cap (S.cs ++ [zzC]) ao2 cap2 W (X1.keep hW) hxt.n1 ⟨hxt.n2, hxt.n3⟩ (hxt.A.keep hW) h1 h2 h3
    rw [e2] at this; exact this
  have cP : ∀ W, Below w1.heap.size w1 W → Calls Tryd.prog 15 #[.int .i64 5, .agg #[.int .i64 2, .int .i64 0, .int .i64 0, .int .u64 0, .string ⟨#[]⟩, .string ⟨#[122, 122]⟩, .slice none 0 0], exprV t ao cap] W fun e w' => ∃ g, e = .returned (.agg #[.int .i64 5, .int .i64 0, .int .i64 0, .int .u64 0, .string ⟨#[]⟩, .string ⟨#[]⟩, .slice (some ⟨g, 0, none⟩) 2 2]) ∧ Hid (XT w' (opN 5 [colT [122, 122], t]) (some ⟨g, 0, none⟩) 2) ∧ Below W.heap.size W w' := fun W hW =>
    (op2_any 5 (by decide) (colT [122, 122]) t none ao 0 cap W (xt_leaf W _ (fit_col [122, 122] (by decide))) (hxt.keep hW)).mono fun e w' ⟨g, h1, h2, _, h4, _⟩ => ⟨g, h1, Lib.hid h2, h4⟩
  have cO4 : ∀ W g, Below w1.heap.size w1 W → XT W (opN 5 [colT [122, 122], t]) (some ⟨g, 0, none⟩) 2 → Calls Tryd.prog 10 #[.agg #[.int .i64 5, .int .i64 0, .int .i64 0, .int .u64 0, .string ⟨#[]⟩, .string ⟨#[]⟩, .slice (some ⟨g, 0, none⟩) 2 2], .slice S.aoc S.cs.length S.capc] W fun e w' => e = .returned (.tuple #[.int .i64 0, .bool false, .int .i64 5]) ∧ Below W.heap.size W w' := fun W g hW ht => by
    have := of_any (opN 5 [colT [122, 122], t]) (some ⟨g, 0, none⟩) 2 S.cs S.aoc S.capc W (X1.keep hW) ht.n1 ⟨ht.n2, ht.n3⟩ ht.A hcc hcm (hcs.keep hW)
    rw [e3] at this; exact this
  obtain ⟨xo, xk, xi, xb, xs, xm, xl, hxv⟩ := exprV_seven t ao cap
  rw [hxv]
  simp only [hxv] at cO1 cO2 cP
  have HCO4 := Lib.hid cO4
  clear hxv e1 e2 e3 HXT HA HS HNM HCP hxt hc0 cO4
  obtain ⟨aol2, capl2, l2, aoc, capc, cs⟩ := S
  simp only at *
  have HO2 := Lib.hid cO2
  have HP := Lib.hid cP
  have HKK := Lib.hid hkk
  have zX1 := Blk.new w1 #[.int .i64 xo, .int .i64 xk, .int .i64 xi, .int .u64 xb, .string xs, .string xm, .slice ao xl cap] 31
  have hb2 := (Below.refl w1.heap.size w1).alloc (Nat.le_refl _) (.cells #[.int .i64 xo, .int .i64 xk, .int .i64 xi, .int .u64 xb, .string xs, .string xm, .slice ao xl cap] 31)
  clear cO2 HT cP hkk
  obtain ⟨a, o, rfl, ha, hcells⟩ : ∃ a o, aoc = some ⟨a, o, none⟩ ∧ a < w1.heap.size ∧ LiesC w1 a o cs := by
    rcases hcs.2 with h | h
    · rw [h] at hn1; exact absurd hn1 (by decide)
    · exact h
  have HCE := Lib.hid hcells
  clear hcs hcells
  obtain ⟨q, hq⟩ : ∃ q, cs.length = q := ⟨_, rfl⟩
  rw [hq] at cO1 hn1 hc4 hcc HCO4 ⊢
  have HQ := Lib.hid hq
  clear hq
  go_upto_region 2 with fail
  generalize hw2 : w1.alloc (.cells #[.int .i64 xo, .int .i64 xk, .int .i64 xi, .int .u64 xb, .string xs, .string xm, .slice ao xl cap] 31) = w2 at *
  clear hw2
  have zX2 : Blk w2 w1.heap.size 31 [.int .i64 xo, .int .i64 xk, .int .i64 xi, .int .u64 xb, .string xs, .string xm, .slice ao xl cap] := zX1
  have c1 := cO1 w2 hb2
  obtain ⟨p0, p1, p2, p3, p4, p5, p6⟩ := zX2.seven7
  go_wp2_with fail
  refine c1.mono ?_
  rintro e w3 ⟨rfl, hb3⟩
  have hb13 := below_stepH hb2 hb2.size hb3
  have zX := zX2.call hb3
  have hlt3 := zX.lt
  have HLI : Hid (∀ W, Below w3.heap.size w3 W → LiesC W a o cs) := Lib.hid (fun W hW j c hj => by
    have hb := below_stepH hb13 hb13.size hW
    obtain ⟨c0, c1, c2⟩ := HCE.out j c hj
    exact ⟨(hb.cell (p := ⟨a, _, none⟩) ha).trans c0, (hb.cell (p := ⟨a, _, none⟩) ha).trans c1, (hb.cell (p := ⟨a, _, none⟩) ha).trans c2⟩)
  clear c1 cO1 p0 p1 p2 p3 p4 p5 p6 hb2 hb3 zX1 zX2
  go_upto_region 3 with fail
  refine wp_region_listedG 14 (by kernel_rfl) (by kernel_rfl) (fun ls => MoreF w3.heap.size (.agg #[.int .i64 xo, .int .i64 xk, .int .i64 xi, .int .u64 xb, .string xs, .string xm, .slice ao xl cap]) (.slice (some ⟨a, o, none⟩) q capc) k nl cs ls) (fun _ W => Below w3.heap.size w3 W) MoreE ?hF ?h0 ?hstep ?hdone
  case hF =>
    intro ls i j v W W' hi hj hji hpb hun hcl hd h he
    by_cases h6 : i = 6
    · subst h6
      match j, h, hji, hpb with
      | 0, h, _, _ => exact h
      | 1, h, _, _ => exact .inl (getD_put_true (hd 3 (by kernel_rfl)))
      | 2, h, _, _ => exact h
      | 3, h, _, _ => exact .inl (getD_put_self hun)
      | 4, h, _, _ => exact h
      | 5, h, _, _ => exact .inl (getD_put_self hun)
      | 6, h, hne, _ => exact absurd rfl hne
      | 7, h, _, _ => exact h
      | 8, h, _, _ => exact h
      | 9, h, _, _ => exact h
      | 10, h, _, _ => exact h
      | 11, h, _, _ => exact h
      | 12, h, _, _ => exact h
      | 13, h, _, _ => exact h
      | j + 14, h, _, _ => exact h
    by_cases h3 : i = 3
    · subst h3
      obtain ⟨g, hB, hgr⟩ := he
      match j, h, hji, hpb with
      | 0, h, _, _ => exact h
      | 1, h, _, _ => exact .inl (getD_put_self hun)
      | 2, h, _, _ => exact h
      | 3, h, hne, _ => exact absurd rfl hne
      | 4, h, _, _ => exact h
      | 5, h, _, _ =>
        rcases h with h | ⟨k5, h1, h2⟩
        · exact .inl (getD_put_true h)
        · exact .inr ⟨k5, h1, h2.same (World.grownBy.block hgr k5 h2.lt (fun hh => by
            obtain rfl : k5 = g := by simpa using hh
            have h4 := h2.symm.trans hB
            simp at h4))⟩
      | 6, h, _, hpb => exact Bool.noConfusion (hpb.symm.trans (by kernel_rfl : pathB _ 4 6 3 = true))
      | 7, h, _, _ => exact h
      | 8, h, _, _ => exact h
      | 9, h, _, _ => exact h
      | 10, h, _, _ => exact h
      | 11, h, _, _ => exact h
      | 12, h, _, _ => exact h
      | 13, h, _, _ => exact h
      | j + 14, h, _, _ => exact h
    have hb : Below W.heap.size W W' := by
      rcases (show i = 0 ∨ i = 1 ∨ i = 2 ∨ i = 3 ∨ i = 4 ∨ i = 5 ∨ i = 6 ∨ i = 7 ∨ i = 8 ∨ i = 9 ∨ i = 10 ∨ i = 11 ∨ i = 12 ∨ i = 13 by omega) with rfl | rfl | rfl | rfl | rfl | rfl | rfl | rfl | rfl | rfl | rfl | rfl | rfl | rfl <;> first | exact he | exact absurd rfl h6 | exact absurd rfl h3
    exact moreF_keep i hb j v h
  case h0 => exact Below.drew (Below.refl _ _)
  case hstep =>
    intro i hi ls vs W K hst hun hcl hd hf hu hK
    clear hu
    simp only [fillF, Act.put, List.take_succ_cons, List.take_zero, List.setIfInBounds_toArray, List.set_cons_zero, List.set_cons_succ] at hK ⊢
    rcases (show i = 0 ∨ i = 1 ∨ i = 2 ∨ i = 3 ∨ i = 4 ∨ i = 5 ∨ i = 6 ∨ i = 7 ∨ i = 8 ∨ i = 9 ∨ i = 10 ∨ i = 11 ∨ i = 12 ∨ i = 13 by omega) with rfl | rfl | rfl | rfl | rfl | rfl | rfl | rfl | rfl | rfl | rfl | rfl | rfl | rfl
    · obtain ⟨p0, p1, p2, p3, p4, p5, p6⟩ := (zX.call hst).seven7
      refine wpOp_step rfl (fun K' hK' => ?_)
      go_simp
      exact hK' _ _ (hK _ _ rfl (Below.refl _ _) hst)
    · refine wpOp_step rfl (fun K' hK' => ?_)
      go_simp
      have hba := (Below.refl W.heap.size W).alloc (Nat.le_refl _) (.cells #[] 43)
      exact hK' _ _ (hK _ _ (.inr ⟨W.heap.size, rfl, hst.size, Blk.new W #[] 43⟩) hba (hst.alloc hst.size _))
    · refine wpOp_step rfl (fun K' hK' => ?_)
      go_simp
      exact hK' _ _ (hK _ _ rfl (Below.refl _ _) hst)
    · have e2 : vs 2 = .slice (some ⟨a, o, none⟩) q capc := (hf 2 (hd 2 (by kernel_rfl))).2
      simp only [e2] at hK ⊢
      obtain ⟨g, e1, hg, hB⟩ := (hf 1 (hd 1 (by kernel_rfl))).2.resolve_left (fun hh => by rw [getD_both hun] at hh; cases hh)
      simp only [e1] at hK ⊢
      have hown : OwnC W w3.heap.size (.slice (some ⟨g, 0, none⟩) 0 0) [] := ⟨rfl, .inr ⟨g, 0, #[], rfl, hg, hB, Nat.le_refl _, by unfold maxLen; omega, rfl, rfl⟩⟩
      refine wpOp_step rfl (fun K' hK' => ?_)
      rw [if_pos (by simp [Region.wanted])]
      refine wp_append_colsC (.tmp 33) (.tmp 34) rfl w3.heap.size _ [] rfl hown cs ⟨a, o, none⟩ q capc rfl HQ.out (fun j u hj => by rw [addr_addO]; exact lies_cells (HLI.out W hst) j u hj) (by simp; omega) hst.size ?_
      intro v' w' ho hg' hb'
      exact hK' _ _ (hK v' w' (.inr ho) ⟨g, hB, hg'⟩ (hst.trans hb'))
    · refine wpOp_step rfl (fun K' hK' => ?_)
      go_simp
      exact hK' _ _ (hK _ _ rfl (Below.refl _ _) hst)
    · have e4 : vs 4 = .agg #[.string ⟨#[122, 122]⟩, .int .i64 4, .bool false] := (hf 4 (hd 4 (by kernel_rfl))).2
      simp only [e4] at hK ⊢
      refine wpOp_step rfl (fun K' hK' => ?_)
      go_simp
      have hba := (Below.refl W.heap.size W).alloc (Nat.le_refl _) (.cells #[.string ⟨#[122, 122]⟩, .int .i64 4, .bool false] 43)
      exact hK' _ _ (hK _ _ (.inr ⟨W.heap.size, rfl, Blk.new W #[.string ⟨#[122, 122]⟩, .int .i64 4, .bool false] 43⟩) hba (hst.alloc hst.size _))
    · have h3 := (hf 3 (hd 3 (by kernel_rfl))).2.resolve_left (fun hh => by rw [getD_both hun] at hh; cases hh)
      obtain ⟨k5, e5, hB⟩ := (hf 5 (hd 5 (by kernel_rfl))).2.resolve_left (fun hh => by rw [getD_both hun] at hh; cases hh)
      simp only [e5] at hK ⊢
      refine wpOp_step rfl (fun K' hK' => ?_)
      rw [if_pos (by simp [Region.wanted])]
      refine wp_append_colsC (.tmp 35) (.tmp 37) rfl w3.heap.size (vs 3) cs rfl h3 [zzC] ⟨k5, 0, none⟩ 1 1 rfl rfl (fun j u hj => by rw [addr_addO, Nat.zero_add]; exact hB.cell hj) (by rw [HQ.out]; omega) hst.size ?_
      intro v' w' ho _ hb'
      exact hK' _ _ (hK v' w' (.inr ho) trivial (hst.trans hb'))
    · have e0 : vs 0 = .agg #[.int .i64 xo, .int .i64 xk, .int .i64 xi, .int .u64 xb, .string xs, .string xm, .slice ao xl cap] := (hf 0 (hd 0 (by kernel_rfl))).2
      simp only [e0] at hK ⊢
      have h6 := (hf 6 (hd 6 (by kernel_rfl))).2.resolve_left (fun hh => by rw [getD_both hun] at hh; cases hh)
      refine wpOp_step rfl (fun K' hK' => ?_)
      go_simp
      refine (HO2.out W (vs 6) _ (below_stepH hb13 hb13.size hst) h6).mono ?_
      rintro e W' ⟨rfl, hbc⟩
      go_simp
      exact hK' _ _ (hK _ _ rfl hbc (below_stepH hst hst.size hbc))
    · have e7 : vs 7 = (.tuple #[.int .i64 k, .bool nl, .int .i64 0]) := (hf 7 (hd 7 (by kernel_rfl))).2
      simp only [e7] at hK ⊢
      refine wpOp_step rfl (fun K' hK' => ?_)
      go_simp
      exact hK' _ _ (hK _ _ rfl (Below.refl _ _) hst)
    · have e8 : vs 8 = (.tuple #[.int .i64 k, .bool nl, .int .i64 0]) := (hf 8 (hd 8 (by kernel_rfl))).2
      simp only [e8] at hK ⊢
      refine wpOp_step rfl (fun K' hK' => ?_)
      go_simp
      exact hK' _ _ (hK _ _ rfl (Below.refl _ _) hst)
    · have e8 : vs 8 = (.tuple #[.int .i64 k, .bool nl, .int .i64 0]) := (hf 8 (hd 8 (by kernel_rfl))).2
      simp only [e8] at hK ⊢
      refine wpOp_step rfl (fun K' hK' => ?_)
      go_simp
      exact hK' _ _ (hK _ _ rfl (Below.refl _ _) hst)
    · have e8 : vs 8 = (.tuple #[.int .i64 k, .bool nl, .int .i64 0]) := (hf 8 (hd 8 (by kernel_rfl))).2
      simp only [e8] at hK ⊢
      refine wpOp_step rfl (fun K' hK' => ?_)
      go_simp
      exact hK' _ _ (hK _ _ rfl (Below.refl _ _) hst)
    · have e9 : vs 9 = .int .i64 k := (hf 9 (hd 9 (by kernel_rfl))).2
      simp only [e9] at hK ⊢
      refine wpOp_step rfl (fun K' hK' => ?_)
      go_simp
      exact hK' _ _ (hK _ _ rfl (Below.refl _ _) hst)
    · have e10 : vs 10 = .bool nl := (hf 10 (hd 10 (by kernel_rfl))).2
      simp only [e10] at hK ⊢
      refine wpOp_step rfl (fun K' hK' => ?_)
      go_simp
      exact hK' _ _ (hK _ _ rfl (Below.refl _ _) hst)
  intro ls vs W hst _ _ hf
  simp only [fillF, Act.put, List.take_succ_cons, List.take_zero, List.drop_succ_cons, List.drop_zero, List.setIfInBounds_toArray, List.set_cons_zero, List.set_cons_succ]
  have e11 : vs 11 = .int .i64 0 := hf 11 (by decide)
  have e12 : vs 12 = .int .i64 k := hf 12 (by decide)
  have e13 : vs 13 = .bool nl := hf 13 (by decide)
  have zX9 := zX.keep hst hlt3
  have hb1W := below_stepH hb13 hb13.size hst
  obtain ⟨p0, p1, p2, p3, p4, p5, p6⟩ := zX9.seven7
  clear hf HO2 HLI HCE
  simp only [e11, e12, e13]
  clear e11 e12 e13
  generalize vs 0 = y0
  generalize vs 1 = y1
  generalize vs 2 = y2
  generalize vs 3 = y3
  generalize vs 4 = y4
  generalize vs 5 = y5
  generalize vs 6 = y6
  generalize vs 7 = y7
  generalize vs 8 = y8
  generalize vs 9 = y9
  generalize vs 10 = y10
  have c4 := HP.out W hb1W
  go_wp2_with fail
  refine c4.mono ?_
  rintro e w5 ⟨g5, rfl, hT5, hb5⟩
  have hb15 := below_stepH hb1W hb1W.size hb5
  have c5 := HCO4.out w5 g5 hb15 hT5.out
  clear c4 p0 p1 p2 p3 p4 p5 p6 hT5 hb5 hb1W HP HCO4
  go_wp2_with fail
  refine c5.mono ?_
  rintro e w6 ⟨rfl, hb6⟩
  have hb16 := below_stepH hb15 hb15.size hb6
  have hfin := below_stepH hb1 hb1.size hb16
  clear c5 hb15 hb6
  go_wp2_with fail
  refine (cK _).mono ?_
  rintro e w7 ⟨rfl, rfl⟩
  rcases HKK.out with h | h
  · subst h
    clear HKK HKR
    go_wp2_with fail
    go_ret
    exact ⟨by simp, hfin⟩
  · subst h
    clear HKK HKR
    go_wp2_with fail
    go_ret
    exact ⟨by simp, hfin⟩
end Go.Proofs.YtoleaahnpcbkkaaDoor
