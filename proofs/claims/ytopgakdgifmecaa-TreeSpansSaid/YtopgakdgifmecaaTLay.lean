/-
  PLAIN: a tree laid as a list of nodes is read back.
  CONDITIONS: none.
-/
import Derived.Test.YtopgakdgifmecaaTPut
namespace Go.Proofs.Ytopgakdgifmecaa
open Go.RowKit
set_option linter.unusedVariables false

/-! ### nodes as they are laid -/
mutual
def sizeT : Tr → Nat
  | .mk _ ks => 1 + sizeL ks
def sizeL : List Tr → Nat
  | [] => 0
  | k :: ks => sizeT k + sizeL ks
end
def kidPos : Nat → List Tr → List Int
  | _, [] => []
  | a, k :: ks => (a : Int) :: kidPos (a + sizeT k) ks
mutual
def layN : Nat → Tr → List Nq
  | a, .mk es ks => ⟨es.map Prod.fst, es.map Prod.snd, kidPos (a + 1) ks⟩ :: layL (a + 1) ks
def layL : Nat → List Tr → List Nq
  | _, [] => []
  | a, k :: ks => layN a k ++ layL (a + sizeT k) ks
end
mutual
theorem layN_len : ∀ (a : Nat) (t : Tr), (layN a t).length = sizeT t
  | a, .mk es ks => by
    have := layL_len (a + 1) ks
    simp only [layN, sizeT, List.length_cons, this]; omega
theorem layL_len : ∀ (a : Nat) (ks : List Tr), (layL a ks).length = sizeL ks
  | a, [] => rfl
  | a, k :: ks => by
    have h1 := layN_len a k
    have h2 := layL_len (a + sizeT k) ks
    simp only [layL, sizeL, List.length_append, h1, h2]
end
theorem kidPos_len : ∀ (a : Nat) (ks : List Tr), (kidPos a ks).length = ks.length
  | _, [] => rfl
  | a, k :: ks => by simp only [kidPos, List.length_cons, kidPos_len (a + sizeT k) ks]
theorem size_pos (t : Tr) : 1 ≤ sizeT t := by cases t; simp only [sizeT]; omega
mutual
theorem ht_size : ∀ t : Tr, htT t < sizeT t
  | .mk es ks => by
    have := htL_size ks
    simp only [htT, sizeT]; omega
theorem htL_size : ∀ ks : List Tr, htL ks ≤ sizeL ks
  | [] => by simp [htL]
  | k :: ks => by
    have h1 := ht_size k
    have h2 := htL_size ks
    simp only [htL, sizeL]; omega
end
theorem zip_back : ∀ es : List En, (es.map Prod.fst).zip (es.map Prod.snd) = es
  | [] => rfl
  | e :: es => by simp only [List.map_cons, List.zip_cons_cons, zip_back es]
mutual
/-- What is laid is read back: the tree and its places. -/
theorem lay_read : ∀ (t : Tr) (f : Nat) (ns pre suf : List Nq), htT t < f → ns = pre ++ (layN pre.length t ++ suf) → branchQ ns f pre.length = t ∧ posQ ns f pre.length = List.range' pre.length (sizeT t)
  | .mk es ks, 0, ns, pre, suf, h, _ => by omega
  | .mk es ks, f + 1, ns, pre, suf, h, hn => by
    simp only [htT] at h
    have hat : ns[pre.length]? = some ⟨es.map Prod.fst, es.map Prod.snd, kidPos (pre.length + 1) ks⟩ := by
      rw [hn]; simp [layN]
    obtain ⟨h1, h2⟩ := lay_readL ks f ns (pre ++ [⟨es.map Prod.fst, es.map Prod.snd, kidPos (pre.length + 1) ks⟩]) suf (by omega) (by rw [hn]; simp [layN])
    simp only [List.length_append, List.length_cons, List.length_nil] at h1 h2
    have hk : kidsAt ns pre.length = (kidPos (pre.length + 1) ks).map Int.toNat := by unfold kidsAt; rw [hat]; rfl
    have he : entsAt ns pre.length = es := by unfold entsAt; rw [hat]; exact zip_back es
    refine ⟨?_, ?_⟩
    · simp only [branchQ]
      rw [hk, he, h1]
    · simp only [posQ, sizeT]
      rw [hk, h2, Nat.add_comm 1, List.range'_succ]
theorem lay_readL : ∀ (ks : List Tr) (f : Nat) (ns pre suf : List Nq), htL ks ≤ f → ns = pre ++ (layL pre.length ks ++ suf) → ((kidPos pre.length ks).map Int.toNat).map (branchQ ns f) = ks ∧ ((kidPos pre.length ks).map Int.toNat).flatMap (posQ ns f) = List.range' pre.length (sizeL ks)
  | [], f, ns, pre, suf, _, _ => by simp [kidPos, sizeL]
  | k :: ks, f, ns, pre, suf, h, hn => by
    simp only [htL] at h
    obtain ⟨h1, h2⟩ := lay_read k f ns pre (layL (pre.length + sizeT k) ks ++ suf) (by omega) (by rw [hn]; simp [layL])
    obtain ⟨h3, h4⟩ := lay_readL ks f ns (pre ++ layN pre.length k) suf (by omega) (by rw [hn]; simp [layL, layN_len])
    simp only [List.length_append, layN_len] at h3 h4
    simp only [kidPos, List.map_cons, List.flatMap_cons, Int.toNat_natCast, sizeL]
    rw [h1, h2, h3, h4]
    exact ⟨rfl, by rw [List.range'_append_1]⟩
end
theorem kidPos_in : ∀ (a : Nat) (ks : List Tr) (k : Int), k ∈ kidPos a ks → (a : Int) ≤ k ∧ k < (a + sizeL ks : Nat)
  | a, [], k, h => by simp [kidPos] at h
  | a, x :: ks, k, h => by
    simp only [kidPos] at h
    simp only [sizeL]
    have := size_pos x
    rcases List.mem_cons.1 h with rfl | h
    · omega
    · have := kidPos_in (a + sizeT x) ks k h
      omega
mutual
theorem lay_good : ∀ (t : Tr) (d a q : Nat) (n : Nq), okT d t → (layN a t)[q]? = some n → wholeQ n = true ∧ ∀ k ∈ n.kids, ((a + q : Nat) : Int) < k ∧ k < ((a + sizeT t : Nat) : Int)
  | .mk es ks, d, a, q, n, h, hq => by
    have hkids : ∀ k ∈ ks, ∃ d, okT d k := fun k hm => by
      cases d with
      | zero => simp only [okT] at h; rw [h.2.2] at hm; simp at hm
      | succ d => simp only [okT] at h; exact ⟨d, h.2.2.2 k hm⟩
    have hk := (ok_iff d _).1 h
    simp only [Tr.es] at hk
    have hf := sh_fit0 d _ hk.2.2
    simp only [Tr.es, Tr.ks] at hf
    cases q with
    | zero =>
      simp only [layN, List.getElem?_cons_zero, Option.some.injEq] at hq
      subst hq
      refine ⟨?_, fun k hk => ?_⟩
      · unfold wholeQ
        simp only [List.length_map, kidPos_len]
        have h1 : decide (1 ≤ es.length) = true := by simpa using hk.1
        have h2 : decide (es.length ≤ 3) = true := by simpa using hk.2.1
        rw [h1, h2]
        rcases hf with rfl | hf
        · simp
        · simp [hf]
      · have := kidPos_in (a + 1) ks k hk
        simp only [sizeT]
        omega
    | succ q =>
      simp only [layN, List.getElem?_cons_succ] at hq
      have := lay_goodL ks d (a + 1) q n hkids hq
      refine ⟨this.1, fun k hk => ?_⟩
      have := this.2 k hk
      simp only [sizeT]
      omega
theorem lay_goodL : ∀ (ks : List Tr) (d a q : Nat) (n : Nq), (∀ k ∈ ks, ∃ d, okT d k) → (layL a ks)[q]? = some n → wholeQ n = true ∧ ∀ k ∈ n.kids, ((a + q : Nat) : Int) < k ∧ k < ((a + sizeL ks : Nat) : Int)
  | [], d, a, q, n, _, hq => by simp [layL] at hq
  | x :: ks, d, a, q, n, h, hq => by
    simp only [layL] at hq
    simp only [sizeL]
    by_cases c : q < (layN a x).length
    · rw [List.getElem?_append_left c] at hq
      obtain ⟨d', hx⟩ := h x (List.mem_cons_self ..)
      have := lay_good x d' a q n hx hq
      refine ⟨this.1, fun k hk => ?_⟩
      have := this.2 k hk
      omega
    · rw [List.getElem?_append_right (by omega), layN_len] at hq
      rw [layN_len] at c
      have := lay_goodL ks d (a + sizeT x) (q - sizeT x) n (fun k hk => h k (List.mem_cons_of_mem _ hk)) hq
      refine ⟨this.1, fun k hk => ?_⟩
      have := this.2 k hk
      omega
end
mutual
theorem lay_keys : ∀ (t : Tr) (a : Nat), fitT t → sumK (layN a t) = (flatT t).length ∧ ∀ n ∈ layN a t, ∀ s ∈ n.keys, ∃ e ∈ flatT t, e.1 = s
  | .mk es ks, a, hf => by
    simp only [fitT] at hf
    obtain ⟨h1, h2⟩ := lay_keysL ks (a + 1) hf.2
    have hlen : (interT es (flatL ks)).length = es.length + ((flatL ks).map List.length).sum := by
      have key : ∀ (es : List En) (kk : List (List En)), (kk = [] ∨ kk.length = es.length + 1) → (interT es kk).length = es.length + (kk.map List.length).sum := by
        intro es
        induction es with
        | nil =>
          intro kk h
          match kk, h with
          | [], _ => simp [interT]
          | [k], _ => simp [interT]
          | _ :: _ :: _, h => simp at h
        | cons e es ih =>
          intro kk h
          match kk, h with
          | [], _ => simp [interT]
          | k :: kk, h =>
            have := ih kk (.inr (by simpa using h))
            simp only [interT, List.length_append, List.length_cons, List.map_cons, List.sum_cons, this]; omega
      refine key es _ ?_
      rcases hf.1 with rfl | h
      · left; rfl
      · right; rw [flatL_map, List.length_map]; exact h
    refine ⟨?_, fun n hn s hs => ?_⟩
    · simp only [layN]
      unfold sumK at h1 ⊢
      rw [List.map_cons, List.sum_cons, h1, flat_mk, hlen, List.length_map]
    · simp only [layN] at hn
      rw [flat_mk]
      rcases List.mem_cons.1 hn with rfl | hn
      · obtain ⟨e, he, rfl⟩ := List.mem_map.1 hs
        exact ⟨e, (inter_sub es (flatL ks)).subset he, rfl⟩
      · obtain ⟨l, hl, e, he, rfl⟩ := h2 n hn s hs
        refine ⟨e, (inter_kid es (flatL ks) l ?_ hl).subset he, rfl⟩
        rw [flatL_map, List.length_map]
        rcases hf.1 with rfl | h
        · simp
        · omega
theorem lay_keysL : ∀ (ks : List Tr) (a : Nat), fitTs ks → sumK (layL a ks) = ((flatL ks).map List.length).sum ∧ ∀ n ∈ layL a ks, ∀ s ∈ n.keys, ∃ l ∈ flatL ks, ∃ e ∈ l, e.1 = s
  | [], a, _ => by simp [layL, flatL, sumK]
  | k :: ks, a, hf => by
    simp only [fitTs] at hf
    obtain ⟨h1, h2⟩ := lay_keys k a hf.1
    obtain ⟨h3, h4⟩ := lay_keysL ks (a + sizeT k) hf.2
    refine ⟨?_, fun n hn s hs => ?_⟩
    · simp only [layL, flatL]
      unfold sumK at h1 h3 ⊢
      rw [List.map_append, List.sum_append, h1, h3, List.map_cons, List.sum_cons]
    · simp only [layL] at hn
      simp only [flatL]
      rcases List.mem_append.1 hn with hn | hn
      · obtain ⟨e, he, rfl⟩ := h2 n hn s hs
        exact ⟨_, List.mem_cons_self .., e, he, rfl⟩
      · obtain ⟨l, hl, e, he, rfl⟩ := h4 n hn s hs
        exact ⟨l, List.mem_cons_of_mem _ hl, e, he, rfl⟩
end
theorem lay_size (ns : List Nq) (h : ∀ n ∈ ns, 1 ≤ n.keys.length) : ns.length ≤ sumK ns := by
  unfold sumK
  have : ∀ l : List Nq, (∀ n ∈ l, 1 ≤ n.keys.length) → l.length ≤ (l.map (fun n => n.keys.length)).sum := by
    intro l
    induction l with
    | nil => intro _; simp
    | cons n l ih =>
      intro h
      have h1 := h n (by simp)
      have h2 := ih (fun m hm => h m (by simp [hm]))
      simp only [List.map_cons, List.sum_cons, List.length_cons]; omega
  exact this ns h
/-- WHAT IS LAID MAY BE, and has the same row. -/
theorem lay_ok (t : Tr) (d : Nat) (hok : okT d t) (hr : RiseE (flatT t)) (hl : (flatT t).length ≤ 100) (hs : ∀ e ∈ flatT t, e.1.length ≤ 60) : readC (layN 0 t) = 0 ∧ rootQ (layN 0 t) = t := by
  obtain ⟨ns, hns⟩ : ∃ ns, layN 0 t = ns := ⟨_, rfl⟩
  have hlen : ns.length = sizeT t := by rw [← hns, layN_len]
  have hpos : 0 < ns.length := by have := size_pos t; omega
  have hgood : ∀ q n, ns[q]? = some n → wholeQ n = true ∧ inQ ns.length q n := fun q n hq => by
    rw [← hns] at hq
    have := lay_good t d 0 q n hok hq
    refine ⟨this.1, fun k hk => ?_⟩
    have := this.2 k hk
    rw [hlen]
    omega
  obtain ⟨r1, r2⟩ := lay_read t ns.length ns [] [] (by have := ht_size t; omega) (by simp [hns])
  simp only [List.length_nil] at r1 r2
  have hroot : rootQ ns = t := r1
  obtain ⟨k1, k2⟩ := lay_keys t 0 (ok_fit d t hok)
  rw [hns] at k1 k2
  have hone : ∀ n ∈ ns, 1 ≤ n.keys.length := fun n hn => by
    obtain ⟨q, hq⟩ := List.getElem?_of_mem hn
    exact (whole_open (hgood q n hq).1).1
  have hsz := lay_size ns hone
  have hsm : smallQ ns = true := by
    unfold smallQ
    have h1 : ns.any longN = false := by
      rw [List.any_eq_false]
      intro n hn
      unfold longN
      rw [List.any_eq_true]
      rintro ⟨s, hs2, hlong⟩
      obtain ⟨e, he, rfl⟩ := k2 n hn s hs2
      have := hs e he
      unfold longQ at hlong
      simp at hlong
      omega
    rw [h1, decide_eq_true (p := ns.length ≤ 100) (by omega), decide_eq_true (p := sumK ns ≤ 100) (by omega)]; rfl
  have hG : ∀ p ∈ posQ ns ns.length 0, GoodQ ns p := fun p hp => by
    rw [r2] at hp
    have := List.mem_range'_1.1 hp
    exact ⟨by omega, fun n hn => hgood p n hn⟩
  have hcnt : ∀ j, (posQ ns ns.length 0).count j ≤ 1 := fun j => by
    rw [r2]
    exact List.nodup_iff_count.1 List.nodup_range' j
  have hz : ∀ j, (List.replicate ns.length 0).getD j 0 = 0 := fun j => by
    simp only [List.getD_eq_getElem?_getD, List.getElem?_replicate]; split <;> rfl
  have heven : (deT (branchQ ns ns.length 0)).e = true := by rw [r1]; exact (ok_deep d t hok).2
  obtain ⟨r, hr1⟩ := inner_ok ns ns.length 0 (List.replicate ns.length 0) hpos (by omega) (by simp) hG heven (fun j => by rw [hz j]; have := hcnt j; omega)
  obtain ⟨_, _, _, _, _, c6, _⟩ := inner_some ns ns.length 0 _ r hpos (by omega) (by simp) hr1
  have hlink := ((read_same ns hpos).2 ⟨r, hr1, fun j hj => by
    rw [c6 j, hz j, r2]
    have h1 : j ∈ List.range' 0 (sizeT t) := List.mem_range'_1.2 ⟨by omega, by omega⟩
    have h2 := List.count_pos_iff.2 h1
    have h3 := List.nodup_iff_count.1 (List.nodup_range' (s := 0) (n := sizeT t) (step := 1)) j
    omega⟩).1
  rw [hns]
  refine ⟨?_, hroot⟩
  unfold readC
  rw [if_neg (by rw [hsm]; decide), if_neg (by rw [hlink]; decide), if_neg (by rw [hroot, (ok_deep d t hok).2]; decide), if_neg (by rw [hroot, (riseE_R _).1 hr]; decide)]
/-- A tree that was read may be. -/
theorem branch_ok (ns : List Nq) : ∀ (f i d : Nat), i < ns.length → ns.length - i ≤ f → (∀ p ∈ posQ ns f i, GoodQ ns p) → (deT (branchQ ns f i)).e = true → (deT (branchQ ns f i)).d = d → okT d (branchQ ns f i)
  | 0, i, d, hi, hf, _, _, _ => by omega
  | f + 1, i, d, hi, hf, hg, he, hd => by
    obtain ⟨n, hn, hG⟩ := pos_self hg
    obtain ⟨h1, h2, _, h4, h5⟩ := whole_open (hG.w n hn).1
    have hin := (hG.w n hn).2
    have hE : entsAt ns i = entsQ n := by unfold entsAt; rw [hn]
    have hK : kidsAt ns i = kidsQ n := by unfold kidsAt; rw [hn]
    simp only [branchQ, hE, hK] at he hd ⊢
    rcases h4 with h4 | h4
    · have hkq : kidsQ n = [] := by unfold kidsQ; rw [h4]; rfl
      rw [hkq] at he hd ⊢
      simp only [List.map_nil, deT] at hd
      subst hd
      simp only [List.map_nil, okT]
      exact ⟨by omega, by omega, trivial⟩
    · have hkl : (kidsQ n).length = (entsQ n).length + 1 := by unfold kidsQ; rw [List.length_map]; omega
      cases hkk : kidsQ n with
      | nil => rw [hkk] at hkl; simp at hkl
      | cons k ks =>
        rw [hkk] at he hd hkl
        simp only [List.map_cons, deT, Bool.and_eq_true] at he hd
        cases d with
        | zero => omega
        | succ d =>
        have hd0 : (deT (branchQ ns f k)).d = d := by omega
        have hall := (deL_iff _ _).1 he.2
        simp only [okT]
        refine ⟨by omega, by omega, by simp only [List.length_map]; exact hkl, fun t ht => ?_⟩
        obtain ⟨x, hx, rfl⟩ := List.mem_map.1 ht
        have hxk : x ∈ kidsQ n := by rw [hkk]; exact hx
        obtain ⟨q, hq⟩ := List.getElem?_of_mem hxk
        have hxp := pos_kid hn hq hg
        have hxi : i < x ∧ x < ns.length := by
          unfold kidsQ at hxk
          obtain ⟨z, hz, rfl⟩ := List.mem_map.1 hxk
          have := hin z hz
          omega
        have hde : (deT (branchQ ns f x)).e = true ∧ (deT (branchQ ns f x)).d = d := by
          rcases List.mem_cons.1 hx with rfl | hx
          · exact ⟨he.1, hd0⟩
          · have := hall _ (List.mem_map.2 ⟨x, hx, rfl⟩)
            exact ⟨this.1, by omega⟩
        exact branch_ok ns f x d hxi.2 (by omega) hxp hde.1 hde.2
theorem root_ok (ns : List Nq) (h : readC ns = 0) : (ns = [] ∧ rootQ ns = .mk [] []) ∨ ∃ d, d < 101 ∧ okT d (rootQ ns) := by
  obtain ⟨h1, h2, h3, _⟩ := root_rise ns h
  have hl : ns.length ≤ 100 := by
    unfold smallQ at h1
    simp only [Bool.and_eq_true, decide_eq_true_eq] at h1
    exact h1.2.1
  by_cases hn : 0 < ns.length
  · right
    obtain ⟨g1, _⟩ := link_good ns h2 hn
    have hk := branch_ok ns ns.length 0 _ hn (by omega) g1 h3 rfl
    refine ⟨_, ?_, hk⟩
    have := (root_good ns h2 hl).2.1
    have h5 := deT_ht (rootQ ns)
    unfold rootQ at this h5
    omega
  · left
    have : ns = [] := List.eq_nil_of_length_eq_zero (by omega)
    subst this
    exact ⟨rfl, rfl⟩
end Go.Proofs.Ytopgakdgifmecaa
