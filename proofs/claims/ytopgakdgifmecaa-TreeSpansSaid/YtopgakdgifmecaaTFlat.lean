/-
  PLAIN: how keys stand; rows of entries that rise; what is found in a tree is what its row says.
  CONDITIONS: none.
-/
import Derived.Test.YtopgakdgifmecaaTOrd
import Derived.Test.YtopgakdgifmecaaTRefB
namespace Go.Proofs.Ytopgakdgifmecaa
open Go.RowKit
set_option linter.unusedVariables false

/-! ### how keys stand -/
theorem lessS_def (a b : List UInt8) : lessS a b = Op.bytesLess a b := by unfold lessS; rw [str_toList, str_toList]
theorem bless_irr : ∀ a : List UInt8, Op.bytesLess a a = false
  | [] => rfl
  | a :: l => by simp only [Op.bytesLess, bless_irr l]; simp
theorem lessS_irr (a : List UInt8) : lessS a a = false := by rw [lessS_def]; exact bless_irr a
theorem bless_tot : ∀ a b : List UInt8, Op.bytesLess a b = false → Op.bytesLess b a = false → a = b
  | [], [], _, _ => rfl
  | [], _ :: _, h, _ => by simp [Op.bytesLess] at h
  | _ :: _, [], _, h => by simp [Op.bytesLess] at h
  | a :: l, b :: m, h1, h2 => by
    simp only [Op.bytesLess, Bool.or_eq_false_iff, decide_eq_false_iff_not, Bool.and_eq_false_iff, beq_eq_false_iff_ne] at h1 h2
    have e : a = b := by
      have h3 := h1.1
      have h4 := h2.1
      rw [UInt8.lt_iff_toNat_lt] at h3 h4
      exact UInt8.toNat_inj.1 (by omega)
    subst e
    have h3 := h1.2.resolve_left (fun h => h rfl)
    have h4 := h2.2.resolve_left (fun h => h rfl)
    rw [bless_tot l m h3 h4]
theorem lessS_tot (a b : List UInt8) (h1 : lessS a b = false) (h2 : lessS b a = false) : a = b := by
  rw [lessS_def] at h1 h2
  exact bless_tot a b h1 h2
theorem lessS_asym (a b : List UInt8) (h : lessS a b = true) : lessS b a = false := by
  cases h2 : lessS b a with
  | false => rfl
  | true => have := lessS_trans a b a h h2; rw [lessS_irr] at this; cases this
theorem cmpS_zero (a b : List UInt8) : (cmpS a b == 0) = (a == b) := by
  unfold cmpS
  rw [str_toList, str_toList]
  by_cases e : a = b
  · subst e; rw [lessS_irr]; simp
  · have e2 : (a == b) = false := by simpa using e
    rw [e2]
    cases lessS a b <;> simp
theorem bless_cmp : ∀ a b : List UInt8, Op.bytesLess a b = decide (Lib.compareBytes a b < 0)
  | [], [] => by simp [Op.bytesLess, Lib.compareBytes]
  | [], _ :: _ => by simp [Op.bytesLess, Lib.compareBytes]
  | _ :: _, [] => by simp [Op.bytesLess, Lib.compareBytes]
  | a :: l, b :: m => by
    have ih := bless_cmp l m
    obtain ⟨C, hC⟩ : ∃ C, Lib.compareBytes (a :: l) (b :: m) = C := ⟨_, rfl⟩
    rw [hC]
    simp only [Lib.compareBytes] at hC
    simp only [Op.bytesLess]
    by_cases h : a < b
    · rw [if_pos h] at hC; subst hC; simp [h]
    · rw [if_neg h] at hC
      by_cases h2 : b < a
      · rw [if_pos h2] at hC; subst hC
        have h3 : a ≠ b := by rintro rfl; exact h h2
        simp [h, h3]
      · rw [if_neg h2] at hC
        subst hC
        have h3 : a = b := by
          rw [UInt8.lt_iff_toNat_lt] at h h2
          exact UInt8.toNat_inj.1 (by omega)
        subst h3
        rw [← ih]; simp [h]
theorem cmpB_anti' : ∀ a b : List UInt8, Lib.compareBytes b a = - Lib.compareBytes a b
  | [], [] => rfl
  | [], _ :: _ => rfl
  | _ :: _, [] => rfl
  | a :: l, b :: m => by
    have ih := cmpB_anti' l m
    simp only [Lib.compareBytes]
    by_cases h : a < b
    · have h2 : ¬ b < a := fun h2 => by rw [UInt8.lt_iff_toNat_lt] at h h2; omega
      rw [if_pos h, if_neg h2, if_pos h]; rfl
    · by_cases h2 : b < a
      · rw [if_pos h2, if_neg h, if_pos h2]
      · rw [if_neg h, if_neg h2, if_neg h2, if_neg h, ih]
theorem cmp_lt (a b : List UInt8) : decide (Lib.compareBytes a b < 0) = lessS a b := by rw [lessS_def, bless_cmp]
theorem cmp_ge (a b : List UInt8) : decide (0 ≤ Lib.compareBytes a b) = !lessS a b := by
  have hc := cmp_lt a b
  rw [← hc]
  by_cases h : Lib.compareBytes a b < 0
  · rw [decide_eq_true h, decide_eq_false (by omega)]; rfl
  · rw [decide_eq_false h, decide_eq_true (by omega)]; rfl
theorem cmp_le (a b : List UInt8) : decide (Lib.compareBytes a b ≤ 0) = !lessS b a := by
  rw [← cmp_lt, cmpB_anti' a b]
  by_cases h : Lib.compareBytes a b ≤ 0
  · rw [decide_eq_true h, decide_eq_false (by omega)]; rfl
  · rw [decide_eq_false h, decide_eq_true (by omega)]; rfl
theorem cmp_eq (a b : List UInt8) : decide (Lib.compareBytes a b = 0) = (a == b) := by
  have h1 := cmp_ge a b
  have h2 := cmp_le a b
  by_cases e : a = b
  · subst e
    rw [lessS_irr] at h1 h2
    have h3 : 0 ≤ Lib.compareBytes a a := by simpa using h1
    have h4 : Lib.compareBytes a a ≤ 0 := by simpa using h2
    rw [decide_eq_true (by omega)]; simp
  · have e2 : (a == b) = false := by simpa using e
    rw [e2]
    apply decide_eq_false
    intro h
    rw [h] at h1 h2
    have h3 : lessS a b = false := by simpa using h1
    have h4 : lessS b a = false := by simpa using h2
    exact e (lessS_tot a b h3 h4)
/-! ### rows of entries that rise -/
def RiseE (l : List En) : Prop := l.Pairwise (fun a b => lessS a.1 b.1 = true)
theorem rise_iff (l : List En) : RiseE l ↔ (l.map Prod.fst).Pairwise (fun a b => lessS a b = true) := by
  unfold RiseE; rw [List.pairwise_map]
theorem rise_R : ∀ l : List (List UInt8), l.Pairwise (fun a b => lessS a b = true) → riseR l = true
  | [], _ => rfl
  | [a], _ => rfl
  | a :: b :: l, h => by
    rw [riseR_two, Bool.and_eq_true]
    exact ⟨(List.pairwise_cons.1 h).1 b (List.mem_cons_self ..), rise_R (b :: l) (List.pairwise_cons.1 h).2⟩
theorem riseE_R (l : List En) : RiseE l ↔ riseR (l.map Prod.fst) = true := by
  rw [rise_iff]; exact ⟨rise_R _, rise_pair _⟩
/-- What stands ahead of a kid, and behind it. -/
theorem inter_split : ∀ (es : List En) (kk : List (List En)) (i : Nat), kk.length = es.length + 1 → i ≤ es.length → ∃ A B, (∀ x, interT es (kk.set i x) = A ++ x ++ B) ∧ (∃ y, kk[i]? = some y ∧ interT es kk = A ++ y ++ B) ∧ (i = 0 → A = []) ∧ (∀ j e, j + 1 = i → es[j]? = some e → ∃ A', A = A' ++ [e]) ∧ (i = es.length → B = []) ∧ (∀ e, es[i]? = some e → ∃ B', B = e :: B')
  | es, [], i, h, _ => by simp at h
  | [], k :: kk, i, h, hi => by
    have : kk = [] := List.eq_nil_of_length_eq_zero (by simpa using h)
    subst this
    obtain rfl : i = 0 := by simpa using hi
    exact ⟨[], [], fun x => by simp [interT], ⟨k, rfl, by simp [interT]⟩, fun _ => rfl, fun j e h => by omega, fun _ => rfl, fun e h => by simp at h⟩
  | e :: es, k :: kk, 0, h, hi => by
    refine ⟨[], e :: interT es kk, fun x => by simp [interT], ⟨k, rfl, by simp [interT]⟩, fun _ => rfl, fun j e h => by omega, fun h => by simp at h, fun e' h => ?_⟩
    simp at h; subst h
    exact ⟨_, rfl⟩
  | e :: es, k :: kk, i + 1, h, hi => by
    obtain ⟨A, B, h1, ⟨y, h2, h3⟩, h4, h5, h6, h7⟩ := inter_split es kk i (by simpa using h) (by simpa using hi)
    refine ⟨k ++ e :: A, B, fun x => by simp [interT, h1 x], ⟨y, by simpa using h2, by simp [interT, h3]⟩, fun h => by omega, fun j e' hj he => ?_, fun h => h6 (by simpa using h), fun e' h => h7 e' (by simpa using h)⟩
    cases j with
    | zero =>
      obtain rfl : i = 0 := by omega
      rw [h4 rfl]
      simp at he; subst he
      exact ⟨k, rfl⟩
    | succ j =>
      obtain ⟨A', hA⟩ := h5 j e' (by omega) (by simpa using he)
      exact ⟨k ++ e :: A', by rw [hA]; simp⟩
/-- Where a key must be: all ahead of the kid are less, all behind it are more. -/
theorem place_split (es : List En) (kk : List (List En)) (s : List UInt8) (i : Nat) (hp : PlaceR es s i false) (hk : kk.length = es.length + 1) (hr : RiseE (interT es kk)) : ∃ A B y, kk[i]? = some y ∧ interT es kk = A ++ y ++ B ∧ (∀ x, interT es (kk.set i x) = A ++ x ++ B) ∧ (∀ e ∈ A, lessS e.1 s = true) ∧ (∀ e ∈ B, lessS s e.1 = true) := by
  obtain ⟨A, B, h1, ⟨y, h2, h3⟩, h4, h5, h6, h7⟩ := inter_split es kk i hk hp.le
  refine ⟨A, B, y, h2, h3, h1, fun e he => ?_, fun e he => ?_⟩
  · cases i with
    | zero => rw [h4 rfl] at he; cases he
    | succ j =>
      have hj : j < es.length := by have := hp.le; omega
      obtain ⟨A', hA⟩ := h5 j es[j] rfl (List.getElem?_eq_getElem hj)
      have hl := hp.lo j es[j] (by omega) (List.getElem?_eq_getElem hj)
      rw [hA] at he
      rcases List.mem_append.1 he with he | he
      · rw [h3, hA] at hr
        have h8 := (List.pairwise_append.1 (List.pairwise_append.1 (List.pairwise_append.1 hr).1).1).2.2 e he es[j] (by simp)
        exact lessS_trans _ _ _ h8 hl
      · rw [List.mem_singleton] at he; subst he; exact hl
  · by_cases hi : i = es.length
    · rw [h6 hi] at he; cases he
    · have hil : i < es.length := by have := hp.le; omega
      obtain ⟨B', hB⟩ := h7 es[i] (List.getElem?_eq_getElem hil)
      have hh := hp.hi i es[i] (Nat.le_refl _) (List.getElem?_eq_getElem hil)
      have hf := hp.fd
      rw [List.getElem?_eq_getElem hil] at hf
      simp only [cmpS_zero] at hf
      have hne : es[i].1 ≠ s := by simpa using hf.symm
      have hs : lessS s es[i].1 = true := by
        cases hq : lessS s es[i].1 with
        | true => rfl
        | false => exact absurd (lessS_tot _ _ hh hq) hne
      rw [hB] at he
      rcases List.mem_cons.1 he with rfl | he
      · exact hs
      · rw [h3, hB] at hr
        have h8 := (List.pairwise_cons.1 (List.pairwise_append.1 hr).2.1).1 e he
        exact lessS_trans _ _ _ hs h8
theorem rise_kid {es : List En} {kk : List (List En)} {l : List En} (hr : RiseE (interT es kk)) (hk : kk.length = es.length + 1) (hl : l ∈ kk) : RiseE l := hr.sublist (inter_kid es kk l (by omega) hl)
theorem find_flat (s : List UInt8) {t : Tr} {v : Int} {ok : Bool} (h : FindR s t v ok) : fitT t → RiseE (flatT t) → (ok = true → (s, v) ∈ flatT t) ∧ (ok = false → v = 0 ∧ ∀ e ∈ flatT t, e.1 ≠ s) := by
  induction h with
  | atNode es ks i e hp he =>
    intro _ _
    refine ⟨fun _ => ?_, fun h => by cases h⟩
    have hf := hp.fd
    rw [he] at hf
    simp only [cmpS_zero] at hf
    have hne : e.1 = s := by simpa using hf.symm
    simp only [flatT]
    have := (inter_sub es (flatL ks)).subset (List.mem_of_getElem? he)
    rw [← hne]; exact this
  | atLeaf es i hp =>
    intro _ hr
    refine ⟨fun h => (by cases h), fun _ => ⟨rfl, fun e he hes => ?_⟩⟩
    have he2 : e ∈ es := by
      cases es with
      | nil => simp [flatT, flatL, interT] at he
      | cons x l => simpa [flatT, flatL, interT] using he
    obtain ⟨j, hj⟩ := List.getElem?_of_mem he2
    rcases Nat.lt_or_ge j i with h | h
    · have := hp.lo j e h hj
      rw [hes, lessS_irr] at this; cases this
    · by_cases hji : j = i
      · subst hji
        have hf := hp.fd
        rw [hj] at hf
        simp only [cmpS_zero] at hf
        have hne : e.1 ≠ s := by simpa using hf.symm
        exact hne hes
      · have hil : i < es.length := by have := (List.getElem?_eq_some_iff.1 hj).1; omega
        have hr2 : RiseE es := by
          have : flatT (.mk es []) = es := by cases es <;> simp [flatT, flatL, interT]
          rw [this] at hr; exact hr
        have h8 := List.pairwise_iff_getElem.1 hr2 i j hil (List.getElem?_eq_some_iff.1 hj).1 (by omega)
        rw [(List.getElem?_eq_some_iff.1 hj).2, hes] at h8
        rw [hp.hi i es[i] (Nat.le_refl _) (List.getElem?_eq_getElem hil)] at h8
        cases h8
  | atKid es ks i k v ok hp hk hf ih =>
    intro hfit hr
    simp only [fitT] at hfit
    have hkl : (flatL ks).length = es.length + 1 := by
      rw [flatL_map, List.length_map]
      rcases hfit.1 with h | h
      · rw [h] at hk; simp at hk
      · exact h
    simp only [flatT] at hr ⊢
    have hky : (flatL ks)[i]? = some (flatT k) := by rw [flatL_map, List.getElem?_map, hk]; rfl
    obtain ⟨A, B, y, h1, h2, -, h3, h4⟩ := place_split es (flatL ks) s i hp hkl hr
    rw [hky] at h1
    obtain rfl := Option.some.inj h1
    obtain ⟨i1, i2⟩ := ih (fit_mem hfit.2 (List.mem_of_getElem? hk)) (rise_kid hr hkl (List.mem_of_getElem? hky))
    rw [h2]
    refine ⟨fun h => by simp [i1 h], fun h => ⟨(i2 h).1, fun e he hes => ?_⟩⟩
    rcases List.mem_append.1 he with he | he
    · rcases List.mem_append.1 he with he | he
      · have := h3 e he
        rw [hes, lessS_irr] at this; cases this
      · exact (i2 h).2 e he hes
    · have := h4 e he
      rw [hes, lessS_irr] at this; cases this
/-- The part from one key to another. -/
def listR (l : List En) (a b : List UInt8) : List En := l.filter (fun e => !lessS e.1 a && !lessS b e.1)
theorem inPart (e : En) (s : List UInt8) : (!lessS e.1 s && !lessS s e.1) = (e.1 == s) := by
  by_cases h : e.1 = s
  · rw [h, lessS_irr]; simp
  · have h2 : (e.1 == s) = false := by simpa using h
    rw [h2]
    cases h3 : lessS e.1 s with
    | true => rfl
    | false =>
      cases h4 : lessS s e.1 with
      | true => rfl
      | false => exact absurd (lessS_tot _ _ h3 h4) h
theorem rise_one : ∀ (l : List En) (s : List UInt8) (v : Int), RiseE l → (s, v) ∈ l → listR l s s = [(s, v)]
  | [], s, v, _, h => by cases h
  | e :: l, s, v, hr, h => by
    have hr2 := List.pairwise_cons.1 hr
    have hz : ∀ m : List En, (∀ x ∈ m, x.1 ≠ s) → listR m s s = [] := fun m hm => by
      unfold listR
      rw [List.filter_eq_nil_iff]
      intro x hx
      rw [inPart]
      simpa using hm x hx
    unfold listR
    rw [List.filter_cons, inPart]
    rcases List.mem_cons.1 h with rfl | h
    · simp only [beq_self_eq_true, if_true]
      have := hz l (fun x hx hxs => by have := hr2.1 x hx; rw [hxs, lessS_irr] at this; cases this)
      unfold listR at this
      rw [this]
    · have h1 : e.1 ≠ s := fun hes => by have := hr2.1 _ h; rw [hes, lessS_irr] at this; cases this
      have h2 : (e.1 == s) = false := by simpa using h1
      rw [h2]
      have := rise_one l s v hr2.2 h
      unfold listR at this
      simpa using this
theorem rise_no (l : List En) (s : List UInt8) (h : ∀ e ∈ l, e.1 ≠ s) : listR l s s = [] := by
  unfold listR
  rw [List.filter_eq_nil_iff]
  intro x hx
  rw [inPart]
  simpa using h x hx
/-- A tree that may be read: its keys rise. -/
theorem root_rise (ns : List Nq) (h : readC ns = 0) : smallQ ns = true ∧ linkR ns.length 0 ns (List.replicate ns.length false) = true ∧ (deT (rootQ ns)).e = true ∧ RiseE (flatT (rootQ ns)) := by
  unfold readC at h
  by_cases h1 : smallQ ns = false
  · rw [if_pos h1] at h; omega
  rw [if_neg h1] at h
  by_cases h2 : linkR ns.length 0 ns (List.replicate ns.length false) = false
  · rw [if_pos h2] at h; omega
  rw [if_neg h2] at h
  by_cases h3 : (deT (rootQ ns)).e = false
  · rw [if_pos h3] at h; omega
  rw [if_neg h3] at h
  by_cases h4 : riseR ((flatT (rootQ ns)).map Prod.fst) = false
  · rw [if_pos h4] at h; omega
  exact ⟨by simpa using h1, by simpa using h2, by simpa using h3, (riseE_R _).2 (by simpa using h4)⟩
/-- What is found, by the row of all. -/
theorem find_root (ns : List Nq) (s : List UInt8) (v : Int) (ok : Bool) (h : readC ns = 0) (hl : ns.length ≤ 100) (hf : FindR s (rootQ ns) v ok) : (ok = true → listR (flatT (rootQ ns)) s s = [(s, v)]) ∧ (ok = false → v = 0 ∧ listR (flatT (rootQ ns)) s s = []) := by
  obtain ⟨_, h2, _, h4⟩ := root_rise ns h
  obtain ⟨a, b⟩ := find_flat s hf (root_good ns h2 hl).1 h4
  exact ⟨fun e => rise_one _ s v h4 (a e), fun e => ⟨(b e).1, rise_no _ s (b e).2⟩⟩
end Go.Proofs.Ytopgakdgifmecaa
