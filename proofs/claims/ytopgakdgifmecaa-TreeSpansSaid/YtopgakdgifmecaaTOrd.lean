/-
  PLAIN: where the keys rise, the entries of each node stand in order.
  CONDITIONS: none.
-/
import Derived.Test.YtopgakdgifmecaaTFind
import Derived.Test.YtopgakdgifmecaaTReadP
namespace Go.Proofs.Ytopgakdgifmecaa
open Go.RowKit
set_option linter.unusedVariables false

theorem bless_trans : ∀ a b c : List UInt8, Op.bytesLess a b = true → Op.bytesLess b c = true → Op.bytesLess a c = true
  | a, [], _, h, _ => by cases a <;> simp [Op.bytesLess] at h
  | _, _ :: _, [], _, h => by simp [Op.bytesLess] at h
  | [], _ :: _, _ :: _, _, _ => by simp [Op.bytesLess]
  | a :: x, b :: y, c :: z, h1, h2 => by
    simp only [Op.bytesLess, Bool.or_eq_true, decide_eq_true_eq, Bool.and_eq_true, beq_iff_eq] at h1 h2 ⊢
    rcases h1 with h1 | ⟨rfl, h1⟩
    · rcases h2 with h2 | ⟨rfl, h2⟩
      · exact .inl (UInt8.lt_trans h1 h2)
      · exact .inl h1
    · rcases h2 with h2 | ⟨rfl, h2⟩
      · exact .inl h2
      · exact .inr ⟨rfl, bless_trans x y z h1 h2⟩
theorem lessS_trans (a b c : List UInt8) (h1 : lessS a b = true) (h2 : lessS b c = true) : lessS a c = true := bless_trans _ _ _ h1 h2
theorem rise_pair : ∀ l : List (List UInt8), riseR l = true → l.Pairwise (fun a b => lessS a b = true)
  | [], _ => .nil
  | [a], _ => by simp
  | a :: b :: l, h => by
    rw [riseR_two, Bool.and_eq_true] at h
    have ih := rise_pair (b :: l) h.2
    refine List.pairwise_cons.2 ⟨fun c hc => ?_, ih⟩
    rcases List.mem_cons.1 hc with rfl | hc
    · exact h.1
    · exact lessS_trans _ _ _ h.1 ((List.pairwise_cons.1 ih).1 c hc)
theorem inter_sub : ∀ (es : List En) (kk : List (List En)), es.Sublist (interT es kk)
  | es, [] => by cases es <;> simp [interT]
  | [], k :: kk => by simp
  | e :: es, k :: kk => by
    simp only [interT]
    exact (List.Sublist.cons_cons e (inter_sub es kk)).trans (List.sublist_append_right _ _)
theorem inter_kid : ∀ (es : List En) (kk : List (List En)) (l : List En), kk.length ≤ es.length + 1 → l ∈ kk → l.Sublist (interT es kk)
  | es, [], l, _, h => by cases h
  | [], k :: kk, l, hl, h => by
    rcases List.mem_cons.1 h with rfl | h
    · simp [interT]
    · cases kk with
      | nil => cases h
      | cons x kk => simp at hl
  | e :: es, k :: kk, l, hl, h => by
    simp only [interT]
    rcases List.mem_cons.1 h with rfl | h
    · exact List.sublist_append_left _ _
    · exact ((inter_kid es kk l (by simp at hl; omega) h).cons e).trans (List.sublist_append_right _ _)
theorem ordL_of : ∀ ks : List Tr, (∀ t ∈ ks, ordT t) → ordL ks
  | [], _ => by simp [ordL]
  | t :: ks, h => by
    simp only [ordL]
    exact ⟨h t (List.mem_cons_self ..), ordL_of ks (fun x hx => h x (List.mem_cons_of_mem _ hx))⟩
theorem ord_rise : ∀ (n : Nat) (t : Tr), htT t < n → fitT t → (flatT t).length ≤ 1000 → ((flatT t).map Prod.fst).Pairwise (fun a b => lessS a b = true) → ordT t
  | 0, _, h, _, _, _ => by omega
  | n + 1, .mk es ks, h, hf, hl, hp => by
    simp only [fitT] at hf
    simp only [flatT] at hl hp
    simp only [ordT]
    have hsub := inter_sub es (flatL ks)
    have hpe := hp.sublist (hsub.map Prod.fst)
    have hsl := hsub.length_le
    refine ⟨⟨by omega, fun s a b ea eb hab ha hb hs => ?_⟩, ordL_of ks (fun t ht => ?_)⟩
    · by_cases e : a = b
      · subst e
        rw [ha] at hb
        obtain rfl := Option.some.inj hb
        exact hs
      · obtain ⟨ha1, ha2⟩ := List.getElem?_eq_some_iff.1 ha
        obtain ⟨hb1, hb2⟩ := List.getElem?_eq_some_iff.1 hb
        have := List.pairwise_iff_getElem.1 hpe a b (by simpa using ha1) (by simpa using hb1) (by omega)
        rw [List.getElem_map, List.getElem_map, ha2, hb2] at this
        exact lessS_trans _ _ _ this hs
    · have hk : (flatT t).Sublist (interT es (flatL ks)) := by
        refine inter_kid es (flatL ks) _ ?_ ?_
        · rw [flatL_map, List.length_map]
          rcases hf.1 with h | h
          · rw [h]; simp
          · omega
        · rw [flatL_map]; exact List.mem_map.2 ⟨t, ht, rfl⟩
      have h2 := hk.length_le
      have h3 := ht_mem ht
      simp only [htT] at h
      exact ord_rise n t (by omega) (fit_mem hf.2 ht) (by omega) (hp.sublist (hk.map Prod.fst))
/-- A tree that may be read stands in order. -/
theorem root_ord (ns : List Nq) (h : readC ns = 0) : ordT (rootQ ns) := by
  unfold readC at h
  by_cases h1 : smallQ ns = false
  · rw [if_pos h1] at h; omega
  rw [if_neg h1] at h
  by_cases h2 : linkR ns.length 0 ns (List.replicate ns.length false) = false
  · rw [if_pos h2] at h; omega
  rw [if_neg h2] at h
  by_cases h3 : (deT (rootQ ns)).e = false
  · rw [if_pos h3] at h; omega
  rw [if_neg h3] at h
  by_cases h4 : riseR ((flatT (rootQ ns)).map Prod.fst) = false
  · rw [if_pos h4] at h; omega
  have hs : ns.length ≤ 100 := by
    have h5 : smallQ ns = true := by simpa using h1
    unfold smallQ at h5
    simp only [Bool.and_eq_true, decide_eq_true_eq] at h5
    exact h5.2.1
  obtain ⟨g1, g2, g3⟩ := root_good ns (by simpa using h2) hs
  exact ord_rise 101 _ g2 g1 (by omega) (rise_pair _ (by simpa using h4))
end Go.Proofs.Ytopgakdgifmecaa
