/-
  PLAIN: putting into a row and into a tree: the row, the shape.
  CONDITIONS: none.
-/
import Derived.Test.YtopgakdgifmecaaTFlat
namespace Go.Proofs.Ytopgakdgifmecaa
open Go.RowKit
set_option linter.unusedVariables false

/-! ### putting into a row that rises -/
def putR (s : List UInt8) (v : Int) : List En → List En
  | [] => [(s, v)]
  | e :: l => if lessS s e.1 = true then (s, v) :: e :: l else if e.1 == s then (s, v) :: l else e :: putR s v l
theorem putR_mid (s : List UInt8) (v : Int) : ∀ (A y B : List En), (∀ e ∈ A, lessS e.1 s = true) → (∀ e ∈ B, lessS s e.1 = true) → putR s v (A ++ y ++ B) = A ++ putR s v y ++ B
  | [], [], [], _, _ => rfl
  | [], [], b :: B, _, h => by
    simp only [List.nil_append, putR]
    rw [if_pos (h b (List.mem_cons_self ..))]; rfl
  | [], e :: y, B, _, h => by
    have ih := putR_mid s v [] y B (by simp) h
    simp only [List.nil_append, List.cons_append] at ih ⊢
    simp only [putR]
    by_cases c : lessS s e.1 = true
    · rw [if_pos c, if_pos c]; simp
    · rw [if_neg c, if_neg c]
      by_cases c2 : (e.1 == s) = true
      · rw [if_pos c2, if_pos c2]; simp
      · rw [if_neg c2, if_neg c2, ih]; simp
  | a :: A, y, B, h1, h2 => by
    have ih := putR_mid s v A y B (fun e he => h1 e (List.mem_cons_of_mem _ he)) h2
    have ha := h1 a (List.mem_cons_self ..)
    simp only [List.cons_append, putR]
    rw [if_neg (by rw [lessS_asym _ _ ha]; decide), if_neg (by
      intro h
      have : a.1 = s := by simpa using h
      rw [this, lessS_irr] at ha; cases ha), ih]
theorem putR_lower (s : List UInt8) (v : Int) (x : List UInt8) (hx : lessS x s = true) : ∀ l : List En, (∀ e ∈ l, lessS x e.1 = true) → ∀ e ∈ putR s v l, lessS x e.1 = true
  | [], _, e, he => by
    simp only [putR, List.mem_singleton] at he
    subst he; exact hx
  | a :: l, h, e, he => by
    simp only [putR] at he
    by_cases c : lessS s a.1 = true
    · rw [if_pos c] at he
      rcases List.mem_cons.1 he with rfl | he
      · exact hx
      · exact h e he
    · rw [if_neg c] at he
      by_cases c2 : (a.1 == s) = true
      · rw [if_pos c2] at he
        rcases List.mem_cons.1 he with rfl | he
        · exact hx
        · exact h e (List.mem_cons_of_mem _ he)
      · rw [if_neg c2] at he
        rcases List.mem_cons.1 he with rfl | he
        · exact h e (List.mem_cons_self ..)
        · exact putR_lower s v x hx l (fun e he => h e (List.mem_cons_of_mem _ he)) e he
theorem putR_rise (s : List UInt8) (v : Int) : ∀ l : List En, RiseE l → RiseE (putR s v l)
  | [], _ => by simp [putR, RiseE]
  | a :: l, h => by
    have h2 := List.pairwise_cons.1 h
    simp only [putR]
    by_cases c : lessS s a.1 = true
    · rw [if_pos c]
      refine List.pairwise_cons.2 ⟨fun e he => ?_, h⟩
      rcases List.mem_cons.1 he with rfl | he
      · exact c
      · exact lessS_trans _ _ _ c (h2.1 e he)
    · rw [if_neg c]
      by_cases c2 : (a.1 == s) = true
      · rw [if_pos c2]
        have : a.1 = s := by simpa using c2
        refine List.pairwise_cons.2 ⟨fun e he => ?_, h2.2⟩
        have := h2.1 e he
        simp_all
      · rw [if_neg c2]
        have hne : a.1 ≠ s := by simpa using c2
        have hl : lessS a.1 s = true := by
          cases hq : lessS a.1 s with
          | true => rfl
          | false => exact absurd (lessS_tot _ _ hq (by simpa using c)) hne
        exact List.pairwise_cons.2 ⟨putR_lower s v a.1 hl l h2.1, putR_rise s v l h2.2⟩
/-! ### where a key must be -/
def plI (es : List En) (s : List UInt8) : Nat := (es.takeWhile (fun e => lessS e.1 s)).length
def plF (es : List En) (s : List UInt8) : Bool := match es[plI es s]? with
  | some e => e.1 == s
  | none => false
theorem plI_le (es : List En) (s : List UInt8) : plI es s ≤ es.length := (List.takeWhile_sublist _).length_le
theorem place_is {es : List En} {s : List UInt8} {i : Nat} {fd : Bool} (h : PlaceR es s i fd) : i = plI es s ∧ fd = plF es s := by
  have hi : i = plI es s := by
    have key : ∀ (es : List En) (i : Nat), i ≤ es.length → (∀ j e, j < i → es[j]? = some e → lessS e.1 s = true) → (∀ e, es[i]? = some e → lessS e.1 s = false) → i = (es.takeWhile (fun e => lessS e.1 s)).length := by
      intro es
      induction es with
      | nil => intro i hi _ _; simp at hi; simp [hi]
      | cons a es ih =>
        intro i hi hlo hhi
        cases i with
        | zero =>
          have := hhi a rfl
          rw [List.takeWhile_cons, if_neg (by rw [this]; decide)]; rfl
        | succ i =>
          have := hlo 0 a (Nat.succ_pos _) rfl
          rw [List.takeWhile_cons, if_pos this, List.length_cons, ← ih i (by simpa using hi) (fun j e hj he => hlo (j + 1) e (by omega) (by simpa using he)) (fun e he => hhi e (by simpa using he))]
    exact key es i h.le h.lo (fun e he => h.hi i e (Nat.le_refl _) he)
  refine ⟨hi, ?_⟩
  have := h.fd
  rw [hi] at this
  rw [this]
  unfold plF
  cases es[plI es s]? with
  | none => rfl
  | some e => simp only [cmpS_zero]
theorem is_place (es : List En) (s : List UInt8) (hr : RiseE es) : PlaceR es s (plI es s) (plF es s) := by
  have lo : ∀ (es : List En) j e, j < (es.takeWhile (fun e => lessS e.1 s)).length → es[j]? = some e → lessS e.1 s = true := by
    intro es
    induction es with
    | nil => intro j e h _; simp at h
    | cons a es ih =>
      intro j e h he
      rw [List.takeWhile_cons] at h
      by_cases c : lessS a.1 s = true
      · rw [if_pos c] at h
        cases j with
        | zero => simp at he; subst he; exact c
        | succ j => exact ih j e (by simpa using h) (by simpa using he)
      · rw [if_neg c] at h; simp at h
  have hi : ∀ (es : List En), RiseE es → ∀ j e, (es.takeWhile (fun e => lessS e.1 s)).length ≤ j → es[j]? = some e → lessS e.1 s = false := by
    intro es
    induction es with
    | nil => intro _ j e _ he; simp at he
    | cons a es ih =>
      intro hr j e h he
      rw [List.takeWhile_cons] at h
      by_cases c : lessS a.1 s = true
      · rw [if_pos c] at h
        cases j with
        | zero => simp at h
        | succ j => exact ih (List.pairwise_cons.1 hr).2 j e (by simpa using h) (by simpa using he)
      · have c2 : lessS a.1 s = false := by simpa using c
        cases j with
        | zero => simp at he; subst he; exact c2
        | succ j =>
          have h1 := (List.pairwise_cons.1 hr).1 e (List.mem_of_getElem? (by simpa using he))
          cases hq : lessS e.1 s with
          | false => rfl
          | true => rw [lessS_trans _ _ _ h1 hq] at c2; cases c2
  refine ⟨plI_le es s, lo es, hi es hr, ?_⟩
  unfold plF
  cases es[plI es s]? with
  | none => rfl
  | some e => simp only [cmpS_zero]
/-! ### putting into a tree -/
def leftT (k : Tr) : Tr := .mk (k.es.take (k.es.length / 2)) (k.ks.take (k.es.length / 2 + 1))
def rightT (k : Tr) : Tr := .mk (k.es.drop (k.es.length / 2 + 1)) (k.ks.drop (k.es.length / 2 + 1))
/-- A kid that has too many entries becomes two. -/
def partK (es : List En) (ks : List Tr) (i : Nat) : Tr := match ks[i]? with
  | none => .mk es ks
  | some k => if k.es.length ≤ 3 then .mk es ks else match k.es[k.es.length / 2]? with
    | none => .mk es ks
    | some e => .mk (es.take i ++ e :: es.drop i) (ks.take i ++ leftT k :: rightT k :: ks.drop (i + 1))
def putF : Nat → Tr → En → Tr
  | 0, t, _ => t
  | n + 1, .mk es ks, e => if plF es e.1 = true then .mk (es.set (plI es e.1) e) ks else if ks = [] then .mk (es.take (plI es e.1) ++ e :: es.drop (plI es e.1)) [] else match ks[plI es e.1]? with
    | none => .mk es ks
    | some k => partK es (ks.set (plI es e.1) (putF n k e)) (plI es e.1)
def lowT (t : Tr) : Tr := match t with
  | .mk [] (k :: _) => k
  | t => t
def withT (n : Nat) (root : Tr) (e : En) : Tr := lowT (putF (n + 1) (.mk [] [root]) e)
/-! ### the row of a node, entry by entry -/
theorem inter_app : ∀ (a : List En) (ka : List (List En)) (e : En) (b : List En) (kb : List (List En)), ka.length = a.length + 1 → interT (a ++ e :: b) (ka ++ kb) = interT a ka ++ e :: interT b kb
  | [], ka, e, b, kb, h => by
    match ka, h with
    | [k], _ => simp [interT]
  | x :: a, ka, e, b, kb, h => by
    match ka, h with
    | k :: ka, h =>
      have := inter_app a ka e b kb (by simpa using h)
      simp only [List.cons_append, interT, this]; simp
theorem inter_nil (es : List En) : interT es [] = es := by cases es <;> simp [interT]
theorem flat_mk (es : List En) (ks : List Tr) : flatT (.mk es ks) = interT es (flatL ks) := by simp only [flatT]
theorem flatL_app (a b : List Tr) : flatL (a ++ b) = flatL a ++ flatL b := by rw [flatL_map, flatL_map, flatL_map, List.map_append]
/-- The row of a node, at an entry. -/
theorem flat_at (es : List En) (ks : List Tr) (i : Nat) (e : En) (he : es[i]? = some e) (hf : ks = [] ∨ ks.length = es.length + 1) : flatT (.mk es ks) = flatT (.mk (es.take i) (ks.take (i + 1))) ++ e :: flatT (.mk (es.drop (i + 1)) (ks.drop (i + 1))) := by
  obtain ⟨hi, he2⟩ := List.getElem?_eq_some_iff.1 he
  have hes : es = es.take i ++ e :: es.drop (i + 1) := by rw [← he2, List.getElem_cons_drop, List.take_append_drop]
  rw [flat_mk, flat_mk, flat_mk]
  rcases hf with rfl | hf
  · simp only [flatL, List.take_nil, List.drop_nil, inter_nil]
    exact hes
  · have h1 := inter_app (es.take i) (flatL (ks.take (i + 1))) e (es.drop (i + 1)) (flatL (ks.drop (i + 1))) (by rw [flatL_map, List.length_map, List.length_take, List.length_take]; omega)
    rw [← flatL_app, List.take_append_drop, ← hes] at h1
    exact h1
theorem flat_part (k : Tr) (e : En) (he : k.es[k.es.length / 2]? = some e) (hf : k.ks = [] ∨ k.ks.length = k.es.length + 1) : flatT k = flatT (leftT k) ++ e :: flatT (rightT k) := by
  cases k with
  | mk es ks => exact flat_at es ks _ e he hf
theorem inter_set (es : List En) (i : Nat) (e e' : En) (he : es[i]? = some e) (kk : List (List En)) (hk : kk = [] ∨ kk.length = es.length + 1) : ∃ A B, interT es kk = A ++ e :: B ∧ interT (es.set i e') kk = A ++ e' :: B := by
  obtain ⟨hi, he2⟩ := List.getElem?_eq_some_iff.1 he
  have hes : es = es.take i ++ e :: es.drop (i + 1) := by rw [← he2, List.getElem_cons_drop, List.take_append_drop]
  have hes2 : es.set i e' = es.take i ++ e' :: es.drop (i + 1) := by rw [List.set_eq_take_append_cons_drop, if_pos hi]
  rcases hk with rfl | hk
  · rw [inter_nil, inter_nil]; exact ⟨_, _, hes, hes2⟩
  · have hka : (kk.take (i + 1)).length = (es.take i).length + 1 := by rw [List.length_take, List.length_take]; omega
    refine ⟨interT (es.take i) (kk.take (i + 1)), interT (es.drop (i + 1)) (kk.drop (i + 1)), ?_, ?_⟩
    · have := inter_app (es.take i) (kk.take (i + 1)) e (es.drop (i + 1)) (kk.drop (i + 1)) hka
      rw [List.take_append_drop, ← hes] at this; exact this
    · have := inter_app (es.take i) (kk.take (i + 1)) e' (es.drop (i + 1)) (kk.drop (i + 1)) hka
      rw [List.take_append_drop, ← hes2] at this; exact this
/-- A kid becomes two with an entry between them: the row is the same. -/
theorem inter_two : ∀ (es : List En) (kk : List (List En)) (i : Nat) (l r y : List En) (e : En), kk.length = es.length + 1 → kk[i]? = some y → y = l ++ e :: r → interT (es.take i ++ e :: es.drop i) (kk.take i ++ l :: r :: kk.drop (i + 1)) = interT es kk
  | [], kk, i, l, r, y, e, h, hi, hy => by
    match kk, h with
    | [k], _ =>
      cases i with
      | zero =>
        simp at hi; subst hi
        simp [interT, hy]
      | succ i => simp at hi
  | x :: es, kk, i, l, r, y, e, h, hi, hy => by
    match kk, h with
    | k :: kk, h =>
      cases i with
      | zero =>
        simp at hi; subst hi
        simp [interT, hy]
      | succ i =>
        have := inter_two es kk i l r y e (by simpa using h) (by simpa using hi) hy
        simp only [List.take_succ_cons, List.drop_succ_cons, List.cons_append, interT, this]
theorem es_rise {es : List En} {kk : List (List En)} (h : RiseE (interT es kk)) : RiseE es := h.sublist (inter_sub es kk)
theorem place_behind {es : List En} {s : List UInt8} {i : Nat} (hp : PlaceR es s i false) (hr : RiseE es) : ∀ x ∈ es.drop i, lessS s x.1 = true := by
  intro x hx
  obtain ⟨j, hj⟩ := List.getElem?_of_mem hx
  rw [List.getElem?_drop] at hj
  have hil : i < es.length := by have := (List.getElem?_eq_some_iff.1 hj).1; omega
  have hh := hp.hi i es[i] (Nat.le_refl _) (List.getElem?_eq_getElem hil)
  have hf := hp.fd
  rw [List.getElem?_eq_getElem hil] at hf
  simp only [cmpS_zero] at hf
  have hne : es[i].1 ≠ s := by simpa using hf.symm
  have hs : lessS s es[i].1 = true := by
    cases hq : lessS s es[i].1 with
    | true => rfl
    | false => exact absurd (lessS_tot _ _ hh hq) hne
  by_cases hj0 : j = 0
  · subst hj0
    rw [Nat.add_zero, List.getElem?_eq_getElem hil] at hj
    obtain rfl := Option.some.inj hj
    exact hs
  · have hjl := (List.getElem?_eq_some_iff.1 hj).1
    have h8 := List.pairwise_iff_getElem.1 hr i (i + j) hil hjl (by omega)
    rw [(List.getElem?_eq_some_iff.1 hj).2] at h8
    exact lessS_trans _ _ _ hs h8
theorem place_before {es : List En} {s : List UInt8} {i : Nat} {fd : Bool} (hp : PlaceR es s i fd) : ∀ x ∈ es.take i, lessS x.1 s = true := by
  intro x hx
  obtain ⟨j, hj⟩ := List.getElem?_of_mem hx
  have hjl := (List.getElem?_eq_some_iff.1 hj).1
  rw [List.length_take] at hjl
  rw [List.getElem?_take_of_lt (by omega)] at hj
  exact hp.lo j x (by omega) hj
/-! ### shapes -/
/-- All nodes have one to three entries; all leaves are d deep. -/
def okT : Nat → Tr → Prop
  | 0, .mk es ks => 1 ≤ es.length ∧ es.length ≤ 3 ∧ ks = []
  | d + 1, .mk es ks => 1 ≤ es.length ∧ es.length ≤ 3 ∧ ks.length = es.length + 1 ∧ ∀ k ∈ ks, okT d k
/-- So below the root, whatever its own entries. -/
def shT : Nat → Tr → Prop
  | 0, .mk es ks => ks = []
  | d + 1, .mk es ks => ks.length = es.length + 1 ∧ ∀ k ∈ ks, okT d k
theorem ok_iff : ∀ (d : Nat) (t : Tr), okT d t ↔ 1 ≤ t.es.length ∧ t.es.length ≤ 3 ∧ shT d t
  | 0, .mk es ks => by simp only [okT, shT, Tr.es]
  | d + 1, .mk es ks => by simp only [okT, shT, Tr.es]
theorem sh_fit0 : ∀ (d : Nat) (t : Tr), shT d t → t.ks = [] ∨ t.ks.length = t.es.length + 1
  | 0, .mk es ks, h => .inl h
  | d + 1, .mk es ks, h => .inr h.1
theorem fitTs_all : ∀ ks : List Tr, (∀ k ∈ ks, fitT k) → fitTs ks := fitTs_of
theorem ok_fit : ∀ (d : Nat) (t : Tr), okT d t → fitT t
  | 0, .mk es ks, h => by
    simp only [okT] at h
    obtain ⟨_, _, rfl⟩ := h
    simp [fitT, fitTs]
  | d + 1, .mk es ks, h => by
    simp only [okT] at h
    simp only [fitT]
    exact ⟨.inr h.2.2.1, fitTs_of ks (fun k hk => ok_fit d k (h.2.2.2 k hk))⟩
theorem sh_fit (d : Nat) (t : Tr) (h : shT d t) : fitT t := by
  cases t with
  | mk es ks =>
    cases d with
    | zero => simp only [shT] at h; subst h; simp [fitT, fitTs]
    | succ d =>
      simp only [shT] at h
      simp only [fitT]
      exact ⟨.inr h.1, fitTs_of ks (fun k hk => ok_fit d k (h.2 k hk))⟩
theorem ok_ht : ∀ (d : Nat) (t : Tr), okT d t → htT t ≤ d
  | 0, .mk es ks, h => by
    simp only [okT] at h
    obtain ⟨_, _, rfl⟩ := h
    simp [htT, htL]
  | d + 1, .mk es ks, h => by
    simp only [okT] at h
    simp only [htT]
    exact htL_le _ _ (fun k hk => by have := ok_ht d k (h.2.2.2 k hk); omega)
theorem sh_ht (d : Nat) (t : Tr) (h : shT d t) : htT t ≤ d := by
  cases t with
  | mk es ks =>
    cases d with
    | zero => simp only [shT] at h; subst h; simp [htT, htL]
    | succ d =>
      simp only [shT] at h
      simp only [htT]
      exact htL_le _ _ (fun k hk => by have := ok_ht d k (h.2 k hk); omega)
theorem ok_deep : ∀ (d : Nat) (t : Tr), okT d t → (deT t).d = d ∧ (deT t).e = true
  | 0, .mk es ks, h => by
    simp only [okT] at h
    obtain ⟨_, _, rfl⟩ := h
    simp [deT]
  | d + 1, .mk es ks, h => by
    simp only [okT] at h
    obtain ⟨_, _, h3, h4⟩ := h
    cases ks with
    | nil => simp at h3
    | cons k ks =>
      have h5 := ok_deep d k (h4 k (List.mem_cons_self ..))
      simp only [deT]
      refine ⟨by omega, ?_⟩
      rw [h5.2, Bool.true_and, deL_iff]
      intro t ht
      have h6 := ok_deep d t (h4 t (List.mem_cons_of_mem _ ht))
      exact ⟨h6.2, by omega⟩
/-- Both parts of a node with four entries may be. -/
theorem part_ok (d : Nat) (k : Tr) (h : shT d k) (hl : k.es.length = 4) : okT d (leftT k) ∧ okT d (rightT k) := by
  cases k with
  | mk es ks =>
    simp only [Tr.es] at hl
    cases d with
    | zero =>
      simp only [shT] at h
      subst h
      simp only [leftT, rightT, okT, Tr.es, Tr.ks, hl, List.length_take, List.length_drop]
      simp
    | succ d =>
      simp only [shT] at h
      simp only [leftT, rightT, okT, Tr.es, Tr.ks, hl, List.length_take, List.length_drop]
      refine ⟨⟨by omega, by omega, by omega, fun k hk => h.2 k (List.mem_of_mem_take hk)⟩, by omega, by omega, by omega, fun k hk => h.2 k (List.mem_of_mem_drop hk)⟩
/-- The row of a node is the same when a kid is parted. -/
theorem flat_partK (es : List En) (ks : List Tr) (i : Nat) (hl : ks.length = es.length + 1) (hf : ∀ k, ks[i]? = some k → k.ks = [] ∨ k.ks.length = k.es.length + 1) : flatT (partK es ks i) = flatT (.mk es ks) := by
  unfold partK
  cases hk : ks[i]? with
  | none => rfl
  | some k =>
    simp only
    by_cases c : k.es.length ≤ 3
    · rw [if_pos c]
    rw [if_neg c]
    cases he : k.es[k.es.length / 2]? with
    | none => rfl
    | some e =>
      simp only
      rw [flat_mk, flat_mk, flatL_app]
      have h1 : flatL (ks.take i) = (flatL ks).take i := by rw [flatL_map, flatL_map, List.map_take]
      have h2 : flatL (leftT k :: rightT k :: ks.drop (i + 1)) = flatT (leftT k) :: flatT (rightT k) :: (flatL ks).drop (i + 1) := by
        simp only [flatL]
        rw [flatL_map, flatL_map, List.map_drop]
      rw [h1, h2]
      exact inter_two es (flatL ks) i _ _ (flatT k) e (by rw [flatL_map, List.length_map]; exact hl) (by rw [flatL_map, List.getElem?_map, hk]; rfl) (flat_part k e he (hf k hk))
theorem flatL_set (ks : List Tr) (i : Nat) (k : Tr) : flatL (ks.set i k) = (flatL ks).set i (flatT k) := by
  rw [flatL_map, flatL_map, List.map_set]
/-- What comes of a put: the row, the shape, and at most one entry more. -/
theorem put_all (e : En) : ∀ (n : Nat) (d : Nat) (t : Tr), d < n → shT d t → t.es.length ≤ 3 → RiseE (flatT t) → flatT (putF n t e) = putR e.1 e.2 (flatT t) ∧ shT d (putF n t e) ∧ t.es.length ≤ (putF n t e).es.length ∧ (putF n t e).es.length ≤ t.es.length + 1
  | 0, d, t, h, _, _, _ => by omega
  | n + 1, d, .mk es ks, hd, hsh, h3, hr => by
    have hfit := sh_fit0 d _ hsh
    simp only [Tr.es, Tr.ks] at hfit h3
    have hr2 := hr
    rw [flat_mk] at hr2
    have hre := es_rise hr2
    have hp := is_place es e.1 hre
    have hil := plI_le es e.1
    simp only [putF]
    by_cases hfd : plF es e.1 = true
    · rw [if_pos hfd]
      rw [hfd] at hp
      have hf := hp.fd
      obtain ⟨e0, he0⟩ : ∃ e0, es[plI es e.1]? = some e0 := by
        cases hq : es[plI es e.1]? with
        | none => rw [hq] at hf; cases hf
        | some e0 => exact ⟨e0, rfl⟩
      rw [he0] at hf
      simp only [cmpS_zero] at hf
      have heq : e0.1 = e.1 := by simpa using hf.symm
      obtain ⟨A, B, h1, h2⟩ := inter_set es (plI es e.1) e0 e he0 (flatL ks) (by
        rcases hfit with h | h
        · left; rw [h]; rfl
        · right; rw [flatL_map, List.length_map]; exact h)
      refine ⟨?_, ?_, by simp [Tr.es], by simp [Tr.es]⟩
      · rw [flat_mk, flat_mk, h1, h2]
        rw [h1] at hr2
        have hA : ∀ x ∈ A, lessS x.1 e.1 = true := fun x hx => by rw [← heq]; exact (List.pairwise_append.1 hr2).2.2 x hx e0 (List.mem_cons_self ..)
        have hB : ∀ x ∈ B, lessS e.1 x.1 = true := fun x hx => by rw [← heq]; exact (List.pairwise_cons.1 (List.pairwise_append.1 hr2).2.1).1 x hx
        have := putR_mid e.1 e.2 A [e0] B hA hB
        rw [show A ++ e0 :: B = A ++ [e0] ++ B by simp, this]
        simp only [putR]
        rw [if_neg (by rw [heq, lessS_irr]; decide), if_pos (by simpa using heq)]
        simp
      · cases d with
        | zero => exact hsh
        | succ d => simp only [shT] at hsh ⊢; rw [List.length_set]; exact hsh
    · have hfd2 : plF es e.1 = false := by simpa using hfd
      rw [if_neg hfd]
      rw [hfd2] at hp
      by_cases hz : ks = []
      · rw [if_pos hz]
        subst hz
        refine ⟨?_, ?_, by simp only [Tr.es, List.length_append, List.length_cons, List.length_take, List.length_drop]; omega, by simp only [Tr.es, List.length_append, List.length_cons, List.length_take, List.length_drop]; omega⟩
        · rw [flat_mk, flat_mk]
          simp only [flatL, inter_nil]
          have := putR_mid e.1 e.2 (es.take (plI es e.1)) [] (es.drop (plI es e.1)) (place_before hp) (place_behind hp hre)
          rw [List.append_nil, List.take_append_drop] at this
          rw [this]
          simp only [putR]
          simp
        · cases d with
          | zero => simp only [shT]
          | succ d => simp only [shT] at hsh; simp at hsh
      · rw [if_neg hz]
        have hkl : ks.length = es.length + 1 := by
          rcases hfit with h | h
          · exact absurd h hz
          · exact h
        obtain ⟨k, hk⟩ : ∃ k, ks[plI es e.1]? = some k := ⟨ks[plI es e.1]'(by omega), List.getElem?_eq_getElem _⟩
        rw [hk]
        simp only
        cases d with
        | zero => simp only [shT] at hsh; exact absurd hsh hz
        | succ d =>
        simp only [shT] at hsh
        have hok := hsh.2 k (List.mem_of_getElem? hk)
        have hok2 := (ok_iff d k).1 hok
        have hky : (flatL ks)[plI es e.1]? = some (flatT k) := by rw [flatL_map, List.getElem?_map, hk]; rfl
        have hkl2 : (flatL ks).length = es.length + 1 := by rw [flatL_map, List.length_map]; exact hkl
        obtain ⟨A, B, y, h1, h2, h4, h5, h6⟩ := place_split es (flatL ks) e.1 _ hp hkl2 hr2
        rw [hky] at h1
        obtain rfl := Option.some.inj h1
        obtain ⟨i1, i2, i3, i4⟩ := put_all e n d k (by omega) hok2.2.2 hok2.2.1 (rise_kid hr2 hkl2 (List.mem_of_getElem? hky))
        have hil2 : plI es e.1 < ks.length := by omega
        have hset : (ks.set (plI es e.1) (putF n k e))[plI es e.1]? = some (putF n k e) := by rw [List.getElem?_set_self hil2]
        refine ⟨?_, ?_, ?_⟩
        · rw [flat_partK es _ _ (by rw [List.length_set]; exact hkl) (fun k' hk' => by
            rw [hset] at hk'
            obtain rfl := Option.some.inj hk'
            exact sh_fit0 d _ i2)]
          rw [flat_mk, flat_mk, flatL_set, h4, i1, h2, putR_mid e.1 e.2 A (flatT k) B h5 h6]
        · unfold partK
          rw [hset]
          simp only
          by_cases c : (putF n k e).es.length ≤ 3
          · rw [if_pos c]
            simp only [shT]
            refine ⟨by rw [List.length_set]; exact hkl, fun k' hk' => ?_⟩
            rcases List.mem_or_eq_of_mem_set hk' with h | h
            · exact hsh.2 k' h
            · subst h; exact (ok_iff d _).2 ⟨by omega, c, i2⟩
          · rw [if_neg c]
            have h4l : (putF n k e).es.length = 4 := by omega
            obtain ⟨m, hm⟩ : ∃ m, (putF n k e).es[(putF n k e).es.length / 2]? = some m := ⟨(putF n k e).es[(putF n k e).es.length / 2]'(by omega), List.getElem?_eq_getElem _⟩
            rw [hm]
            simp only [shT]
            obtain ⟨g1, g2⟩ := part_ok d _ i2 h4l
            refine ⟨by simp only [List.length_append, List.length_cons, List.length_take, List.length_drop, List.length_set]; omega, fun k' hk' => ?_⟩
            rcases List.mem_append.1 hk' with h | h
            · have h7 := List.mem_of_mem_take h
              rw [List.take_set_of_le (by omega)] at h
              exact hsh.2 k' (List.mem_of_mem_take h)
            · rcases List.mem_cons.1 h with rfl | h
              · exact g1
              · rcases List.mem_cons.1 h with rfl | h
                · exact g2
                · rw [List.drop_set_of_lt (by omega)] at h
                  exact hsh.2 k' (List.mem_of_mem_drop h)
        · unfold partK
          rw [hset]
          simp only
          by_cases c : (putF n k e).es.length ≤ 3
          · rw [if_pos c]; simp [Tr.es]
          · rw [if_neg c]
            obtain ⟨m, hm⟩ : ∃ m, (putF n k e).es[(putF n k e).es.length / 2]? = some m := ⟨(putF n k e).es[(putF n k e).es.length / 2]'(by omega), List.getElem?_eq_getElem _⟩
            rw [hm]
            simp only [Tr.es, List.length_append, List.length_cons, List.length_take, List.length_drop]
            omega
/-- A tree that may be: the empty one, or one of some depth. -/
def okR (t : Tr) : Prop := t = .mk [] [] ∨ ∃ d, okT d t
theorem with_all (e : En) (n : Nat) (root : Tr) (h : root = .mk [] [] ∨ ∃ d, d < n ∧ okT d root) (hn : 0 < n) (hr : RiseE (flatT root)) : flatT (withT n root e) = putR e.1 e.2 (flatT root) ∧ ∃ d, d ≤ n ∧ okT d (withT n root e) := by
  have hroot : ∃ d, d < n ∧ shT d root ∧ root.es.length ≤ 3 := by
    rcases h with rfl | ⟨d, h1, h2⟩
    · exact ⟨0, hn, by simp only [shT], by simp [Tr.es]⟩
    · exact ⟨d, h1, ((ok_iff d root).1 h2).2.2, ((ok_iff d root).1 h2).2.1⟩
  obtain ⟨d, hd, hs, hl⟩ := hroot
  obtain ⟨i1, i2, i3, i4⟩ := put_all e n d root hd hs hl hr
  have hpos : 1 ≤ (putF n root e).es.length := by
    cases hz : (putF n root e).es with
    | cons x l => simp
    | nil =>
      exfalso
      rw [hz] at i3
      have h0 : root.es = [] := List.eq_nil_of_length_eq_zero (by simpa using i3)
      rcases h with rfl | ⟨d', _, h2⟩
      · cases n with
        | zero => omega
        | succ n => simp [putF, plF, plI, Tr.es] at hz
      · have := ((ok_iff d' root).1 h2).1
        rw [h0] at this; simp at this
  have hput : putF (n + 1) (.mk [] [root]) e = partK [] [putF n root e] 0 := by simp [putF, plF, plI]
  unfold withT
  rw [hput]
  unfold partK
  simp only [List.getElem?_cons_zero]
  by_cases c : (putF n root e).es.length ≤ 3
  · rw [if_pos c]
    simp only [lowT]
    exact ⟨i1, d, by omega, (ok_iff d _).2 ⟨hpos, c, i2⟩⟩
  · rw [if_neg c]
    have h4l : (putF n root e).es.length = 4 := by omega
    obtain ⟨m, hm⟩ : ∃ m, (putF n root e).es[(putF n root e).es.length / 2]? = some m := ⟨(putF n root e).es[(putF n root e).es.length / 2]'(by omega), List.getElem?_eq_getElem _⟩
    rw [hm]
    obtain ⟨g1, g2⟩ := part_ok d _ i2 h4l
    simp only [List.take_nil, List.drop_nil, List.nil_append, List.take_zero, List.drop_succ_cons, lowT]
    refine ⟨?_, d + 1, by omega, ?_⟩
    · rw [← i1, flat_part _ m hm (sh_fit0 d _ i2), flat_mk]
      simp [flatL, interT]
    · simp only [okT]
      refine ⟨by simp, by simp, by simp, fun k hk => ?_⟩
      simp at hk
      rcases hk with rfl | rfl
      · exact g1
      · exact g2
end Go.Proofs.Ytopgakdgifmecaa
