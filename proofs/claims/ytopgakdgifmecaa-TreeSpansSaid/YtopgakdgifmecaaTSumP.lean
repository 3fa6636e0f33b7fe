/-
  PLAIN: a tree that was read has as many pairs as all nodes have keys; what a put makes of a row.
  CONDITIONS: none.
-/
import Derived.Test.YtopgakdgifmecaaTLay
import Derived.Test.YtopgakdgifmecaaTListR
namespace Go.Proofs.Ytopgakdgifmecaa
open Go.RowKit
set_option linter.unusedVariables false

def keysAt (ns : List Nq) (i : Nat) : Nat := match ns[i]? with | some n => n.keys.length | none => 0
theorem interS_len : ∀ (es : List En) (kk : List (List En)), (kk = [] ∨ kk.length = es.length + 1) → (interT es kk).length = es.length + (kk.map List.length).sum
  | [], kk, h => by
    match kk, h with
    | [], _ => simp [interT]
    | [k], _ => simp [interT]
    | _ :: _ :: _, h => simp at h
  | e :: es, kk, h => by
    match kk, h with
    | [], _ => simp [interT]
    | k :: kk, h =>
      have := interS_len es kk (.inr (by simpa using h))
      simp only [interT, List.length_append, List.length_cons, List.map_cons, List.sum_cons, this]; omega
theorem sum_flat (g : Nat → Nat) : ∀ (L : List Nat) (P : Nat → List Nat), ((L.flatMap P).map g).sum = (L.map (fun x => ((P x).map g).sum)).sum
  | [], P => rfl
  | x :: L, P => by simp only [List.flatMap_cons, List.map_append, List.sum_append, List.map_cons, List.sum_cons, sum_flat g L P]
theorem branch_sum (ns : List Nq) : ∀ (f i : Nat), (∀ p ∈ posQ ns f i, GoodQ ns p) → (flatT (branchQ ns f i)).length = ((posQ ns f i).map (keysAt ns)).sum
  | 0, i, _ => by simp [branchQ, flatT, flatL, interT, posQ]
  | f + 1, i, hg => by
    obtain ⟨n, hn, hG⟩ := pos_self hg
    obtain ⟨_, _, _, h4, h5⟩ := whole_open (hG.w n hn).1
    have hE : entsAt ns i = entsQ n := by unfold entsAt; rw [hn]
    have hK : kidsAt ns i = kidsQ n := by unfold kidsAt; rw [hn]
    have hka : keysAt ns i = n.keys.length := by unfold keysAt; rw [hn]
    have hkl : (kidsQ n).length = n.kids.length := by unfold kidsQ; rw [List.length_map]
    simp only [branchQ, posQ, hE, hK, List.map_cons, List.sum_cons]
    rw [flat_mk, interS_len _ _ (by
      rw [flatL_map, List.map_map, List.length_map, hkl]
      rcases h4 with h4 | h4
      · left; unfold kidsQ; rw [h4]; rfl
      · right; omega), hka, h5, sum_flat, flatL_map, List.map_map, List.map_map]
    congr 2
    apply List.map_congr_left
    intro x hx
    obtain ⟨q, hq⟩ := List.getElem?_of_mem hx
    exact branch_sum ns f x (pos_kid hn hq hg)
theorem range_sum (ns : List Nq) : sumK ns = ((List.range ns.length).map (keysAt ns)).sum := by
  have : (List.range ns.length).map (keysAt ns) = ns.map (fun n => n.keys.length) := by
    apply List.ext_getElem?
    intro j
    rw [List.getElem?_map, List.getElem?_map]
    by_cases hj : j < ns.length
    · rw [List.getElem?_range hj, List.getElem?_eq_getElem hj]
      simp only [Option.map_some, keysAt, List.getElem?_eq_getElem hj]
    · rw [List.getElem?_eq_none (by rw [List.length_range]; omega), List.getElem?_eq_none (by omega)]
      rfl
  unfold sumK
  rw [this]
/-- A tree that was read has as many pairs as all nodes have keys. -/
theorem flat_sum (ns : List Nq) (h : readC ns = 0) : (flatT (rootQ ns)).length = sumK ns := by
  obtain ⟨h1, h2, h3, _⟩ := root_rise ns h
  by_cases hn : 0 < ns.length
  · obtain ⟨g1, _⟩ := link_good ns h2 hn
    have hz : ∀ j, (List.replicate ns.length 0).getD j 0 = 0 := fun j => by
      simp only [List.getD_eq_getElem?_getD, List.getElem?_replicate]; split <;> rfl
    obtain ⟨r, hr1, hr2⟩ := (read_same ns hn).1 ⟨h2, h3⟩
    obtain ⟨_, _, _, _, _, c6, _⟩ := inner_some ns ns.length 0 _ r hn (by omega) (by simp) hr1
    have hp : (posQ ns ns.length 0).Perm (List.range ns.length) := by
      rw [List.perm_iff_count]
      intro j
      by_cases hj : j < ns.length
      · have a := c6 j
        rw [hz j, hr2 j hj] at a
        rw [List.count_range, if_pos hj]
        omega
      · rw [List.count_range, if_neg hj, List.count_eq_zero]
        intro hm
        exact hj (g1 j hm).lt
    unfold rootQ
    rw [branch_sum ns _ _ g1, range_sum, (hp.map (keysAt ns)).sum_nat]
  · have : ns = [] := List.eq_nil_of_length_eq_zero (by omega)
    subst this
    rfl
theorem putR_len (s : List UInt8) (v : Int) : ∀ l : List En, RiseE l → (putR s v l).length = l.length + (if ∃ e ∈ l, e.1 = s then 0 else 1)
  | [], _ => by simp [putR]
  | a :: l, h => by
    have h2 := List.pairwise_cons.1 h
    have ih := putR_len s v l h2.2
    simp only [putR]
    by_cases c : lessS s a.1 = true
    · rw [if_pos c, if_neg (by
        rintro ⟨e, he, rfl⟩
        rcases List.mem_cons.1 he with rfl | he
        · rw [lessS_irr] at c; cases c
        · have := h2.1 e he
          rw [lessS_asym _ _ this] at c; cases c)]
      rfl
    · rw [if_neg c]
      by_cases c2 : (a.1 == s) = true
      · have : a.1 = s := by simpa using c2
        rw [if_pos c2, if_pos ⟨a, List.mem_cons_self .., this⟩]
        rfl
      · have hne : a.1 ≠ s := by simpa using c2
        rw [if_neg c2, List.length_cons, ih, List.length_cons]
        have : (∃ e ∈ a :: l, e.1 = s) ↔ ∃ e ∈ l, e.1 = s := by
          constructor
          · rintro ⟨e, he, h8⟩
            rcases List.mem_cons.1 he with rfl | he
            · exact absurd h8 hne
            · exact ⟨e, he, h8⟩
          · rintro ⟨e, he, h⟩
            exact ⟨e, List.mem_cons_of_mem _ he, h⟩
        simp only [this]
        omega
theorem putR_mem (s : List UInt8) (v : Int) : ∀ (l : List En) (e : En), e ∈ putR s v l → e = (s, v) ∨ e ∈ l
  | [], e, h => by simp only [putR, List.mem_singleton] at h; exact .inl h
  | a :: l, e, h => by
    simp only [putR] at h
    by_cases c : lessS s a.1 = true
    · rw [if_pos c] at h
      rcases List.mem_cons.1 h with h | h
      · exact .inl h
      · exact .inr h
    · rw [if_neg c] at h
      by_cases c2 : (a.1 == s) = true
      · rw [if_pos c2] at h
        rcases List.mem_cons.1 h with h | h
        · exact .inl h
        · exact .inr (List.mem_cons_of_mem _ h)
      · rw [if_neg c2] at h
        rcases List.mem_cons.1 h with h | h
        · exact .inr (h ▸ List.mem_cons_self ..)
        · exact (putR_mem s v l e h).imp id (List.mem_cons_of_mem _)
theorem zip_snd {α β : Type} : ∀ (a : List α) (b : List β) (e : α × β), e ∈ a.zip b → e.2 ∈ b
  | [], b, e, h => by simp at h
  | x :: a, [], e, h => by simp at h
  | x :: a, y :: b, e, h => by
    rw [List.zip_cons_cons] at h
    rcases List.mem_cons.1 h with rfl | h
    · exact List.mem_cons_self ..
    · exact List.mem_cons_of_mem _ (zip_snd a b e h)
theorem flat_vals (ns : List Nq) (e : En) : ∀ (f i : Nat), e ∈ flatT (branchQ ns f i) → ∃ n ∈ ns, e.2 ∈ n.vals
  | 0, i, h => by simp [branchQ, flatT, flatL, interT] at h
  | f + 1, i, h => by
    simp only [branchQ, flat_mk] at h
    rcases mem_inter e _ _ h with h1 | ⟨l, h1, h2⟩
    · unfold entsAt at h1
      cases hn : ns[i]? with
      | none => rw [hn] at h1; cases h1
      | some n =>
        rw [hn] at h1
        exact ⟨n, List.mem_of_getElem? hn, zip_snd _ _ e h1⟩
    · rw [flatL_map, List.map_map] at h1
      obtain ⟨k, hk, rfl⟩ := List.mem_map.1 h1
      exact flat_vals ns e f k h2
end Go.Proofs.Ytopgakdgifmecaa
