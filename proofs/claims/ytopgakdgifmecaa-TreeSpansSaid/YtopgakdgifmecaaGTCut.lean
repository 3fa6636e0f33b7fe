/-
  MERGED: TCutP, TDel, TCat, TLast, TJoin, TFill, TCut, TCutX, TCutR.
  CONDITIONS: each theorem's own hypotheses.
-/
import Derived.Test.YtopgakdgifmecaaTSumP
import Derived.Test.YtopgakdgifmecaaGTSlic
import Derived.Laws.OwnMore
import Derived.Lib.AppendZeros
import Derived.Test.YtopgakdgifmecaaGTPutX
import Derived.Test.YtopgakdgifmecaaLawTr3

/-! PLAIN: cutting out of a row and out of a tree: the row, the shape. CONDITIONS: none. -/
namespace Go.Proofs.Ytopgakdgifmecaa
open Go.RowKit
set_option linter.unusedVariables false

def delL {α : Type} (i : Nat) (l : List α) : List α := l.take i ++ l.drop (i + 1)
theorem delL_len {α : Type} (i : Nat) (l : List α) (h : i < l.length) : (delL i l).length + 1 = l.length := by
  unfold delL; rw [List.length_append, List.length_take, List.length_drop]; omega
def cutR (s : List UInt8) (l : List En) : List En := l.filter (fun e => !(e.1 == s))
theorem cutR_app (s : List UInt8) (a b : List En) : cutR s (a ++ b) = cutR s a ++ cutR s b := List.filter_append ..
theorem cutR_none (s : List UInt8) (l : List En) (h : ∀ e ∈ l, e.1 ≠ s) : cutR s l = l := by
  unfold cutR
  rw [List.filter_eq_self]
  intro e he
  simpa using h e he
theorem cutR_one (s : List UInt8) (e : En) (h : e.1 = s) : cutR s [e] = [] := by simp [cutR, h]
theorem cutR_sub (s : List UInt8) (l : List En) : (cutR s l).Sublist l := List.filter_sublist
/-- Where a rising row has the key. -/
theorem cutR_at (s : List UInt8) (A B : List En) (e : En) (he : e.1 = s) (hr : RiseE (A ++ e :: B)) : cutR s (A ++ e :: B) = A ++ B := by
  have h2 := List.pairwise_append.1 hr
  have h3 := List.pairwise_cons.1 h2.2.1
  rw [cutR_app, show e :: B = [e] ++ B from rfl, cutR_app, cutR_one s e he, cutR_none s A (fun x hx h => by
    have := h2.2.2 x hx e (List.mem_cons_self ..)
    rw [h, he, lessS_irr] at this; cases this), cutR_none s B (fun x hx h => by
    have := h3.1 x hx
    rw [h, he, lessS_irr] at this; cases this)]
  rfl
def lastF : Nat → Tr → Option En
  | 0, _ => none
  | n + 1, .mk es ks => if ks = [] then es.getLast? else match ks.getLast? with
    | none => none
    | some k => lastF n k
def joinT (a : Tr) (e : En) (b : Tr) : Tr := .mk (a.es ++ e :: b.es) (a.ks ++ b.ks)
/-- A kid without entries becomes one with its neighbour. -/
def fillK (es : List En) (ks : List Tr) (i : Nat) : Tr := match ks[i]? with
  | none => .mk es ks
  | some k => if 0 < k.es.length then .mk es ks else match ks[i - 1]?, es[i - 1]?, ks[i - 1 + 1]? with
    | some a, some e, some b => partK (delL (i - 1) es) (ks.take (i - 1) ++ joinT a e b :: ks.drop (i - 1 + 2)) (i - 1)
    | _, _, _ => .mk es ks
def cutF : Nat → Tr → List UInt8 → Tr
  | 0, t, _ => t
  | n + 1, .mk es ks, s => if ks = [] then .mk (delL (plI es s) es) [] else match ks[plI es s]? with
    | none => .mk es ks
    | some k => if plF es s = true then (match lastF n k with
        | none => .mk es ks
        | some e => fillK (es.set (plI es s) e) (ks.set (plI es s) (cutF n k e.1)) (plI es s))
      else fillK es (ks.set (plI es s) (cutF n k s)) (plI es s)
/-! ### the row at an entry and the kid ahead of it -/
theorem inter_at : ∀ (es : List En) (kk : List (List En)) (i : Nat) (e : En) (y : List En), kk.length = es.length + 1 → es[i]? = some e → kk[i]? = some y → ∃ A B, ∀ e' y', interT (es.set i e') (kk.set i y') = A ++ y' ++ e' :: B
  | [], kk, i, e, y, h, he, hy => by simp at he
  | x :: es, [], i, e, y, h, he, hy => by simp at hy
  | x :: es, k :: kk, 0, e, y, h, he, hy => ⟨[], interT es kk, fun e' y' => by simp [interT]⟩
  | x :: es, k :: kk, i + 1, e, y, h, he, hy => by
    obtain ⟨A, B, hAB⟩ := inter_at es kk i e y (by simpa using h) (by simpa using he) (by simpa using hy)
    refine ⟨k ++ x :: A, B, fun e' y' => ?_⟩
    simp only [List.set_cons_succ, interT, hAB e' y']
    simp
theorem last_all : ∀ (n d : Nat) (t : Tr), d < n → okT d t → ∃ e L, lastF n t = some e ∧ flatT t = L ++ [e]
  | 0, d, t, h, _ => by omega
  | n + 1, 0, .mk es ks, h, hok => by
    simp only [okT] at hok
    obtain ⟨h1, h2, rfl⟩ := hok
    have hne : es ≠ [] := fun h => by rw [h] at h1; simp at h1
    refine ⟨es.getLast hne, es.dropLast, ?_, ?_⟩
    · simp only [lastF, if_true]; exact List.getLast?_eq_some_getLast hne
    · rw [flat_mk]; simp only [flatL, inter_nil]; exact (List.dropLast_concat_getLast hne).symm
  | n + 1, d + 1, .mk es ks, h, hok => by
    simp only [okT] at hok
    obtain ⟨h1, h2, h3, h4⟩ := hok
    have hne : ks ≠ [] := fun h => by rw [h] at h3; simp at h3
    obtain ⟨e, L, g1, g2⟩ := last_all n d (ks.getLast hne) (by omega) (h4 _ (List.getLast_mem hne))
    have hl : lastF (n + 1) (.mk es ks) = some e := by
      simp only [lastF]
      rw [if_neg hne, List.getLast?_eq_some_getLast hne]
      exact g1
    have key : ∀ (es : List En) (kk : List (List En)) (y : List En), kk.length = es.length → ∃ A, interT es (kk ++ [y]) = A ++ y := by
      intro es
      induction es with
      | nil => intro kk y h; cases kk with
        | nil => exact ⟨[], rfl⟩
        | cons k kk => simp at h
      | cons x es ih =>
        intro kk y h
        cases kk with
        | nil => simp at h
        | cons k kk =>
          obtain ⟨A, hA⟩ := ih kk y (by simpa using h)
          exact ⟨k ++ x :: A, by simp only [List.cons_append, interT, hA]; simp⟩
    have hk := List.dropLast_concat_getLast hne
    obtain ⟨A, hA⟩ := key es (flatL ks.dropLast) (flatT (ks.getLast hne)) (by rw [flatL_map, List.length_map, List.length_dropLast]; omega)
    refine ⟨e, A ++ L, hl, ?_⟩
    rw [flat_mk, ← hk, flatL_app]
    have : flatL [ks.getLast hne] = [flatT (ks.getLast hne)] := by simp [flatL]
    rw [this, hA, g2, List.append_assoc]
theorem join_flat (a : Tr) (e : En) (b : Tr) (h : (a.ks = [] ∧ b.ks = []) ∨ a.ks.length = a.es.length + 1) : flatT (joinT a e b) = flatT a ++ e :: flatT b := by
  obtain ⟨ea, ka⟩ := a
  obtain ⟨eb, kb⟩ := b
  simp only [Tr.es, Tr.ks] at h
  unfold joinT
  simp only [Tr.es, Tr.ks, flat_mk]
  rcases h with ⟨rfl, rfl⟩ | h
  · simp [flatL, inter_nil]
  · rw [flatL_app]
    exact inter_app ea (flatL ka) e eb (flatL kb) (by rw [flatL_map, List.length_map]; exact h)
/-- Filling: the row and the shape. -/
theorem fill_all (d : Nat) (es : List En) (ks : List Tr) (i : Nat) (k : Tr) (hk : ks[i]? = some k) (hl : ks.length = es.length + 1) (h1 : 1 ≤ es.length) (hs : shT d k) (h3 : k.es.length ≤ 3) (ho : ∀ j x, ks[j]? = some x → j ≠ i → okT d x) :
    flatT (fillK es ks i) = flatT (.mk es ks) ∧ shT (d + 1) (fillK es ks i) ∧ es.length ≤ (fillK es ks i).es.length + 1 ∧ (fillK es ks i).es.length ≤ es.length := by
  have hi := (List.getElem?_eq_some_iff.1 hk).1
  unfold fillK
  rw [hk]
  simp only
  by_cases c : 0 < k.es.length
  · rw [if_pos c]
    refine ⟨rfl, ?_, by simp only [Tr.es]; omega, by simp only [Tr.es]; omega⟩
    simp only [shT]
    refine ⟨hl, fun x hx => ?_⟩
    obtain ⟨j, hj⟩ := List.getElem?_of_mem hx
    by_cases hji : j = i
    · subst hji
      rw [hk] at hj
      obtain rfl := Option.some.inj hj
      exact (ok_iff d _).2 ⟨c, h3, hs⟩
    · exact ho j x hj hji
  · rw [if_neg c]
    obtain ⟨q, hq⟩ : ∃ q, i - 1 = q := ⟨_, rfl⟩
    rw [hq]
    have hqe : q < es.length := by omega
    obtain ⟨a, ha⟩ : ∃ a, ks[q]? = some a := ⟨_, List.getElem?_eq_getElem (by omega)⟩
    obtain ⟨b, hb⟩ : ∃ b, ks[q + 1]? = some b := ⟨_, List.getElem?_eq_getElem (by omega)⟩
    obtain ⟨e, he⟩ : ∃ e, es[q]? = some e := ⟨_, List.getElem?_eq_getElem hqe⟩
    rw [ha, he, hb]
    simp only
    -- the two kids: one has no entry, the other may be
    have hsa : shT d a ∧ a.es.length ≤ 3 := by
      by_cases hqi : q = i
      · rw [hqi, hk] at ha; obtain rfl := Option.some.inj ha; exact ⟨hs, h3⟩
      · have := (ok_iff d a).1 (ho q a ha hqi); exact ⟨this.2.2, this.2.1⟩
    have hsb : shT d b ∧ b.es.length ≤ 3 := by
      by_cases hqi : q + 1 = i
      · rw [hqi, hk] at hb; obtain rfl := Option.some.inj hb; exact ⟨hs, h3⟩
      · have := (ok_iff d b).1 (ho (q + 1) b hb hqi); exact ⟨this.2.2, this.2.1⟩
    have hab : a.es.length + b.es.length ≤ 3 := by
      by_cases hqi : q = i
      · rw [hqi, hk] at ha; obtain rfl := Option.some.inj ha
        omega
      · have hqi2 : q + 1 = i := by omega
        rw [hqi2, hk] at hb; obtain rfl := Option.some.inj hb
        omega
    have hfit : (a.ks = [] ∧ b.ks = []) ∨ (a.ks.length = a.es.length + 1 ∧ b.ks.length = b.es.length + 1) := by
      obtain ⟨ea, ka⟩ := a
      obtain ⟨eb, kb⟩ := b
      cases d with
      | zero => simp only [shT] at hsa hsb; exact .inl ⟨hsa.1, hsb.1⟩
      | succ d => simp only [shT] at hsa hsb; exact .inr ⟨hsa.1.1, hsb.1.1⟩
    have hjs : shT d (joinT a e b) ∧ (joinT a e b).es.length = a.es.length + b.es.length + 1 := by
      obtain ⟨ea, ka⟩ := a
      obtain ⟨eb, kb⟩ := b
      unfold joinT
      simp only [Tr.es, Tr.ks] at hfit ⊢
      refine ⟨?_, by rw [List.length_append, List.length_cons]; omega⟩
      cases d with
      | zero => simp only [shT] at hsa hsb ⊢; rw [hsa.1, hsb.1]; rfl
      | succ d =>
        simp only [shT] at hsa hsb ⊢
        refine ⟨by rw [List.length_append, List.length_append, List.length_cons]; omega, fun x hx => ?_⟩
        rcases List.mem_append.1 hx with hx | hx
        · exact hsa.1.2 x hx
        · exact hsb.1.2 x hx
    have hjf := join_flat a e b (hfit.imp id (fun h => h.1))
    obtain ⟨J, hJ⟩ : ∃ J, joinT a e b = J := ⟨_, rfl⟩
    rw [hJ] at hjs hjf ⊢
    have hlk : (ks.take q ++ J :: ks.drop (q + 2)).length = (delL q es).length + 1 := by
      have := delL_len q es hqe
      rw [List.length_append, List.length_cons, List.length_take, List.length_drop]; omega
    have hat : (ks.take q ++ J :: ks.drop (q + 2))[q]? = some J := by
      rw [List.getElem?_append_right (by rw [List.length_take]; omega), List.length_take, Nat.min_eq_left (by omega), Nat.sub_self]; rfl
    have hother : ∀ x ∈ ks.take q ++ ks.drop (q + 2), okT d x := fun x hx => by
      rcases List.mem_append.1 hx with hx | hx
      · obtain ⟨j, hj⟩ := List.getElem?_of_mem hx
        have hjl := (List.getElem?_eq_some_iff.1 hj).1
        rw [List.length_take] at hjl
        rw [List.getElem?_take_of_lt (by omega)] at hj
        exact ho j x hj (by omega)
      · obtain ⟨j, hj⟩ := List.getElem?_of_mem hx
        rw [List.getElem?_drop] at hj
        exact ho (q + 2 + j) x hj (by omega)
    have hel : es = (delL q es).take q ++ e :: (delL q es).drop q := by
      unfold delL
      have ht : (es.take q).length = q := by rw [List.length_take]; omega
      rw [List.take_left' ht, List.drop_left' ht, ← (List.getElem?_eq_some_iff.1 he).2, List.getElem_cons_drop, List.take_append_drop]
    refine ⟨?_, ?_⟩
    · rw [flat_partK _ _ _ hlk (fun x hx => by
        rw [hat] at hx
        obtain rfl := Option.some.inj hx
        exact sh_fit0 d _ hjs.1)]
      rw [flat_mk, flat_mk, flatL_app]
      have h4 : flatL (J :: ks.drop (q + 2)) = flatT J :: flatL (ks.drop (q + 2)) := by simp only [flatL]
      have hks : ks = ks.take q ++ a :: b :: ks.drop (q + 2) := by
        have e1 := (List.getElem?_eq_some_iff.1 ha).2
        have e2 := (List.getElem?_eq_some_iff.1 hb).2
        rw [← e1, ← e2, List.getElem_cons_drop, List.getElem_cons_drop, List.take_append_drop]
      have hfk : flatL ks = flatL (ks.take q) ++ flatT a :: flatT b :: flatL (ks.drop (q + 2)) := by
        conv => lhs; rw [hks]
        rw [flatL_app]; simp only [flatL]
      have hlq : (flatL (ks.take q)).length = q := by rw [flatL_map, List.length_map, List.length_take]; omega
      have h5 := inter_two (delL q es) (flatL (ks.take q) ++ flatT J :: flatL (ks.drop (q + 2))) q (flatT a) (flatT b) (flatT J) e (by
        have := hlk
        rw [List.length_append, List.length_cons] at this ⊢
        rw [flatL_map, flatL_map, List.length_map, List.length_map]; exact this) (by
        rw [List.getElem?_append_right (by omega), hlq, Nat.sub_self]; rfl) hjf
      rw [h4, ← h5, ← hel, hfk]
      rw [List.take_left' hlq]
      have h6 : (flatL (ks.take q) ++ flatT J :: flatL (ks.drop (q + 2))).drop (q + 1) = flatL (ks.drop (q + 2)) := by
        rw [List.drop_append, List.drop_of_length_le (by omega), hlq, show q + 1 - q = 1 by omega]; rfl
      rw [h6]
    · have hjl := hjs.2
      unfold partK
      rw [hat]
      simp only
      have hdl := delL_len q es hqe
      by_cases c3 : J.es.length ≤ 3
      · rw [if_pos c3]
        simp only [shT, Tr.es]
        refine ⟨⟨hlk, fun x hx => ?_⟩, by omega, by omega⟩
        rcases List.mem_append.1 hx with hx | hx
        · exact hother x (List.mem_append_left _ hx)
        · rcases List.mem_cons.1 hx with rfl | hx
          · exact (ok_iff d _).2 ⟨by omega, c3, hjs.1⟩
          · exact hother x (List.mem_append_right _ hx)
      · rw [if_neg c3]
        have h4l : J.es.length = 4 := by omega
        obtain ⟨m, hm⟩ : ∃ m, J.es[J.es.length / 2]? = some m := ⟨J.es[J.es.length / 2]'(by omega), List.getElem?_eq_getElem _⟩
        rw [hm]
        simp only [shT, Tr.es]
        obtain ⟨g1, g2⟩ := part_ok d _ hjs.1 h4l
        have ht : (ks.take q).length = q := by rw [List.length_take]; omega
        have e1 : (ks.take q ++ J :: ks.drop (q + 2)).take q = ks.take q := List.take_left' ht
        have e2 : (ks.take q ++ J :: ks.drop (q + 2)).drop (q + 1) = ks.drop (q + 2) := by
          rw [List.drop_append, List.drop_of_length_le (by omega), ht, show q + 1 - q = 1 by omega]; rfl
        rw [e1, e2]
        refine ⟨⟨?_, fun x hx => ?_⟩, ?_, ?_⟩
        · simp only [List.length_append, List.length_cons, List.length_take, List.length_drop]; omega
        · rcases List.mem_append.1 hx with hx | hx
          · exact hother x (List.mem_append_left _ hx)
          · rcases List.mem_cons.1 hx with rfl | hx
            · exact g1
            · rcases List.mem_cons.1 hx with rfl | hx
              · exact g2
              · exact hother x (List.mem_append_right _ hx)
        · simp only [List.length_append, List.length_cons, List.length_take, List.length_drop]; omega
        · simp only [List.length_append, List.length_cons, List.length_take, List.length_drop]; omega
/-- What comes of a cut: the row, the shape, and at most one entry less. -/
theorem cut_all : ∀ (n d : Nat) (t : Tr) (s : List UInt8), d < n → okT d t → RiseE (flatT t) → (∃ e ∈ flatT t, e.1 = s) → flatT (cutF n t s) = cutR s (flatT t) ∧ shT d (cutF n t s) ∧ t.es.length ≤ (cutF n t s).es.length + 1 ∧ (cutF n t s).es.length ≤ t.es.length
  | 0, d, t, s, h, _, _, _ => by omega
  | n + 1, 0, .mk es ks, s, h, hok, hr, hs => by
    simp only [okT] at hok
    obtain ⟨h1, h2, rfl⟩ := hok
    rw [flat_mk] at hr hs
    simp only [flatL, inter_nil] at hr hs
    have hp := is_place es s hr
    obtain ⟨e, he, hes⟩ := hs
    obtain ⟨j, hj⟩ := List.getElem?_of_mem he
    have hji : j = plI es s := by
      have hjl := (List.getElem?_eq_some_iff.1 hj).1
      rcases Nat.lt_trichotomy j (plI es s) with h | h | h
      · have := hp.lo j e h hj; rw [hes, lessS_irr] at this; cases this
      · exact h
      · have hil : plI es s < es.length := by omega
        have h3 := hp.hi (plI es s) es[plI es s] (Nat.le_refl _) (List.getElem?_eq_getElem hil)
        have h4 := List.pairwise_iff_getElem.1 hr (plI es s) j hil hjl h
        rw [(List.getElem?_eq_some_iff.1 hj).2, hes] at h4
        rw [h4] at h3; cases h3
    subst hji
    have hjl := (List.getElem?_eq_some_iff.1 hj).1
    simp only [cutF, if_true]
    have hd := delL_len (plI es s) es hjl
    refine ⟨?_, by simp only [shT], by simp only [Tr.es]; omega, by simp only [Tr.es]; omega⟩
    rw [flat_mk, flat_mk]
    simp only [flatL, inter_nil]
    have hsp : es = es.take (plI es s) ++ e :: es.drop (plI es s + 1) := by rw [← (List.getElem?_eq_some_iff.1 hj).2, List.getElem_cons_drop, List.take_append_drop]
    have hr2 := hr
    rw [hsp] at hr2
    conv => rhs; rw [hsp]
    rw [cutR_at s _ _ e hes hr2]
    rfl
  | n + 1, d + 1, .mk es ks, s, h, hok, hr, hs => by
    simp only [okT] at hok
    obtain ⟨h1, h2, h3, h4⟩ := hok
    have hr2 := hr
    rw [flat_mk] at hr2
    have hre := es_rise hr2
    have hp := is_place es s hre
    have hil := plI_le es s
    have hz : ks ≠ [] := fun h => by rw [h] at h3; simp at h3
    obtain ⟨k, hk⟩ : ∃ k, ks[plI es s]? = some k := ⟨ks[plI es s]'(by omega), List.getElem?_eq_getElem _⟩
    have hkm := List.mem_of_getElem? hk
    have hok2 := h4 k hkm
    have hok3 := (ok_iff d k).1 hok2
    have hky : (flatL ks)[plI es s]? = some (flatT k) := by rw [flatL_map, List.getElem?_map, hk]; rfl
    have hkl2 : (flatL ks).length = es.length + 1 := by rw [flatL_map, List.length_map]; exact h3
    have hrk := rise_kid hr2 hkl2 (List.mem_of_getElem? hky)
    have hset : ∀ x, (ks.set (plI es s) x)[plI es s]? = some x := fun x => List.getElem?_set_self (by omega)
    have hoth : ∀ x j y, (ks.set (plI es s) x)[j]? = some y → j ≠ plI es s → okT d y := fun x j y hj hne => by
      rw [List.getElem?_set_ne (fun h => hne h.symm)] at hj
      exact h4 y (List.mem_of_getElem? hj)
    simp only [cutF]
    rw [if_neg hz, hk]
    simp only
    by_cases hfd : plF es s = true
    · rw [if_pos hfd]
      rw [hfd] at hp
      obtain ⟨e0, he0⟩ : ∃ e0, es[plI es s]? = some e0 := by
        have hf := hp.fd
        cases hq : es[plI es s]? with
        | none => rw [hq] at hf; cases hf
        | some e0 => exact ⟨e0, rfl⟩
      have heq : e0.1 = s := by
        have hf := hp.fd
        rw [he0] at hf
        simp only [cmpS_zero] at hf
        simpa using hf.symm
      obtain ⟨e, L, g1, g2⟩ := last_all n d k (by omega) hok2
      rw [g1]
      simp only
      obtain ⟨i1, i2, i3, i4⟩ := cut_all n d k e.1 (by omega) hok2 hrk ⟨e, by rw [g2]; simp, rfl⟩
      have hrL := hrk
      rw [g2] at hrL i1
      have hcl : cutR e.1 (L ++ [e]) = L := by
        have := cutR_at e.1 L [] e rfl hrL
        rw [List.append_nil] at this
        exact this
      rw [hcl] at i1
      obtain ⟨f1, f2, f3, f4⟩ := fill_all d (es.set (plI es s) e) (ks.set (plI es s) (cutF n k e.1)) (plI es s) (cutF n k e.1) (hset _) (by rw [List.length_set, List.length_set]; exact h3) (by rw [List.length_set]; exact h1) i2 (by omega) (hoth _)
      rw [List.length_set] at f3 f4
      refine ⟨?_, f2, f3, f4⟩
      obtain ⟨A, B, hAB⟩ := inter_at es (flatL ks) (plI es s) e0 (flatT k) hkl2 he0 hky
      have hself : es.set (plI es s) e0 = es ∧ (flatL ks).set (plI es s) (flatT k) = flatL ks := by
        obtain ⟨a1, a2⟩ := List.getElem?_eq_some_iff.1 he0
        obtain ⟨b1, b2⟩ := List.getElem?_eq_some_iff.1 hky
        exact ⟨by rw [← a2]; exact List.set_getElem_self a1, by rw [← b2]; exact List.set_getElem_self b1⟩
      have h0 := hAB e0 (flatT k)
      rw [hself.1, hself.2] at h0
      rw [f1, flat_mk, flatL_set, i1, hAB e L, flat_mk, h0, g2]
      rw [h0, g2] at hr2
      have hc := cutR_at s (A ++ (L ++ [e])) B e0 heq (by simpa using hr2)
      rw [show A ++ (L ++ [e]) ++ e0 :: B = (A ++ (L ++ [e])) ++ e0 :: B from rfl, hc]
      simp
    · rw [if_neg hfd]
      have hfd2 : plF es s = false := by simpa using hfd
      rw [hfd2] at hp
      obtain ⟨A, B, y, p1, p2, p4, p5, p6⟩ := place_split es (flatL ks) s _ hp hkl2 hr2
      rw [hky] at p1
      obtain rfl := Option.some.inj p1
      have hA : ∀ e ∈ A, e.1 ≠ s := fun e he h => by have := p5 e he; rw [h, lessS_irr] at this; cases this
      have hB : ∀ e ∈ B, e.1 ≠ s := fun e he h => by have := p6 e he; rw [h, lessS_irr] at this; cases this
      have hin : ∃ e ∈ flatT k, e.1 = s := by
        obtain ⟨e, he, hes⟩ := hs
        rw [flat_mk, p2] at he
        rcases List.mem_append.1 he with he | he
        · rcases List.mem_append.1 he with he | he
          · exact absurd hes (hA e he)
          · exact ⟨e, he, hes⟩
        · exact absurd hes (hB e he)
      obtain ⟨i1, i2, i3, i4⟩ := cut_all n d k s (by omega) hok2 hrk hin
      obtain ⟨f1, f2, f3, f4⟩ := fill_all d es (ks.set (plI es s) (cutF n k s)) (plI es s) (cutF n k s) (hset _) (by rw [List.length_set]; exact h3) h1 i2 (by omega) (hoth _)
      refine ⟨?_, f2, f3, f4⟩
      rw [f1, flat_mk, flat_mk, flatL_set, p4, i1, p2, cutR_app, cutR_app, cutR_none s A hA, cutR_none s B hB]
/-- The root behind a cut. -/
theorem without_all (n d : Nat) (t : Tr) (s : List UInt8) (h : d < n) (hok : okT d t) (hr : RiseE (flatT t)) (hs : ∃ e ∈ flatT t, e.1 = s) : flatT (lowT (cutF n t s)) = cutR s (flatT t) ∧ (lowT (cutF n t s) = .mk [] [] ∨ ∃ d', d' ≤ d ∧ okT d' (lowT (cutF n t s))) := by
  obtain ⟨c1, c2, c3, c4⟩ := cut_all n d t s h hok hr hs
  have hok3 := (ok_iff d t).1 hok
  obtain ⟨x, hc⟩ : ∃ x, cutF n t s = x := ⟨_, rfl⟩
  rw [hc] at c1 c2 c3 c4 ⊢
  obtain ⟨es, ks⟩ := x
  have c5 := hok3.2.1
  obtain ⟨L3, hL3⟩ : ∃ L, t.es.length = L := ⟨_, rfl⟩
  rw [hL3] at c3 c4 c5
  simp only [Tr.es] at c3 c4
  cases es with
  | cons e es =>
    simp only [lowT]
    exact ⟨c1, .inr ⟨d, Nat.le_refl _, (ok_iff d _).2 ⟨by simp [Tr.es], by simp only [Tr.es]; omega, c2⟩⟩⟩
  | nil =>
    cases ks with
    | nil => exact ⟨c1, .inl rfl⟩
    | cons k ks =>
      cases d with
      | zero => simp only [shT] at c2; cases c2
      | succ d =>
        simp only [shT] at c2
        have hks : ks = [] := List.eq_nil_of_length_eq_zero (by have := c2.1; simp at this; rw [this]; rfl)
        subst hks
        simp only [lowT]
        refine ⟨?_, .inr ⟨d, by omega, c2.2 k (List.mem_cons_self ..)⟩⟩
        rw [← c1, flat_mk]
        simp [flatL, interT]
end Go.Proofs.Ytopgakdgifmecaa

/-! CONTRACTS of package slices' Delete over rows of entries and of kids: one element goes. CONDITIONS: each theorem's own hypotheses. -/
namespace Go.Proofs.Ytopgakdgifmecaa
open Go.RowKit
set_option linter.unusedVariables false
set_option maxRecDepth 100000

theorem wpList_app_run {ops : Array Oper} {rest : List Oper} {o : Oper} {a : Act} {Q : Exit → Act → World → Prop} {w : World} (hgd : o.guard = none) (s x : Operand) (t : TypeId)
    (ho : o.op = .call { callee := .builtin .append, args := #[s, x], argTypes := #[t, t] }) (vs vx : Value) (hs : a.eval s = vs) (hx : a.eval x = vx) {v' : Value} {w' : World}
    (hr : (Builtin.append_ #[t, t] o.type #[vs, vx]).run Try.prog w = .ok v' w') (h : wpList Try.prog ops Q rest (a.put o.dst v') w') : wpList Try.prog ops Q (o :: rest) a w := by
  refine wpList_plain hgd fun K hK => ?_
  unfold Oper.wp execOp
  simp only [ho, resolve, invoke, builtin, Sem.run_bind, Sem.run_pure, Result.andThen_ok, List.map_toArray, List.map_cons, List.map_nil, hs, hx, hr]
  exact hK _ _ h
/-- 'clear' of one element. -/
theorem run_clear_one (w : World) (t e ty : TypeId) (z : Value) (zs : List Value) (ht : Try.prog.underlying t = some (.slice e)) (hv : ∀ w, (zeroValue e).run Try.prog w = .ok z w) (hz : z.cells = zs.toArray) (h1 : ∀ v ∈ zs, v.oneCell' = true) (b o c : Nat)
    (hc : ∀ j, j < zs.length → (w.cell? ⟨b, o + j, none⟩).isSome = true) (hf : ∀ j, j < zs.length → w.frozen? ⟨b, o + j, none⟩ = false) :
    (Builtin.clear_ #[t] ty #[.slice (some ⟨b, o, none⟩) 1 c]).run Try.prog w = .ok (.tuple #[]) (w.setCells b o zs) := by
  have hzc : (Builtin.zeroCells z.cells 1).toList = zs := by
    rw [hz]
    apply List.ext_getElem
    · simp [Builtin.zeroCells]
    · intro i h1 h2
      have h3 : i < zs.length := h2
      simp [Builtin.zeroCells, Nat.mod_eq_of_lt h3]
      rw [List.getElem?_eq_getElem h3]; rfl
  have hst := run_storeCells_cells (P := Try.prog) b o zs 0 w (by simpa using hc) (by simpa using hf) h1
  simp only [Nat.add_zero] at hst
  simp [Builtin.clear_, run_underlying ht, hv, hzc, hst]
theorem owns_prefix {w : World} {base k : Nat} {e : TypeId} {g n cap : Nat} {xs : List Value} (h : w.ownsRow base e k (.slice (some ⟨g, 0, none⟩) n cap) n xs) (i : Nat) (hi : i ≤ n) : w.ownsRow base e k (.slice (some ⟨g, 0, none⟩) i cap) i (xs.take (i * k)) := by
  have hl := h.1
  have hik : i * k ≤ n * k := Nat.mul_le_mul_right k hi
  refine ⟨by rw [List.length_take, hl]; omega, ?_⟩
  rcases h.2 with ⟨h', _⟩ | ⟨g', cap', cur, hv, q1, q2, q3, q4, q5, q6⟩
  · cases h'
  · simp only [Value.slice.injEq, Option.some.injEq, Addr.mk.injEq, and_true, true_and] at hv
    obtain ⟨rfl, rfl⟩ := hv
    refine .inr ⟨g, cap, cur, rfl, q1, q2, by omega, q4, q5, ?_⟩
    rw [← q6, List.take_take, Nat.min_eq_left hik]
theorem owns_cells_in {w : World} {base k : Nat} {e : TypeId} {g n cap : Nat} {xs : List Value} (h : w.ownsRow base e k (.slice (some ⟨g, 0, none⟩) n cap) n xs) (j : Nat) (hj : j < cap * k) : (w.cell? ⟨g, j, none⟩).isSome = true := by
  rcases h.2 with ⟨h', _⟩ | ⟨g', cap', cur, hv, q1, q2, q3, q4, q5, q6⟩
  · cases h'
  · simp only [Value.slice.injEq, Option.some.injEq, Addr.mk.injEq, and_true, true_and] at hv
    obtain ⟨rfl, rfl⟩ := hv
    rw [cell_of_row w g j cur e (0, 0) q2, Array.getElem?_eq_getElem (by omega)]
    rfl
theorem owns_clear {base k : Nat} {e : TypeId} {g n cap : Nat} {xs : List Value} : ∀ (zs : List Value) (o : Nat) {w : World}, w.ownsRow base e k (.slice (some ⟨g, 0, none⟩) n cap) n xs → n * k ≤ o → (w.setCells g o zs).ownsRow base e k (.slice (some ⟨g, 0, none⟩) n cap) n xs ∧ w.grownBy (w.setCells g o zs) (some g)
  | [], o, w, h, _ => ⟨h, rfl, rfl, rfl, Nat.le_refl _, fun _ _ _ => rfl⟩
  | z :: zs, o, w, h, ho => by
    obtain ⟨h1, h2⟩ := h.stored o z
    rw [List.set_eq_of_length_le (by rw [h.1]; exact ho)] at h1
    obtain ⟨h3, h4⟩ := owns_clear zs (o + 1) h1 (by omega)
    exact ⟨h3, h2.trans h4⟩
def DelEF (g n cap ix j1 : Nat) (A5 : Addr) : Nat → Value → World → Prop
  | 0, v, _ => v = .slice (some ⟨g, 0, none⟩) n cap
  | 1, v, _ => v = .int .i64 (ix : Int)
  | 2, v, _ => v = .slice (some ⟨g, 0, none⟩) ix cap
  | 3, v, _ => v = .slice (some ⟨g, 0, none⟩) n cap
  | 4, v, _ => v = .int .i64 (j1 : Int)
  | 5, v, _ => v = .slice (some A5) (n - j1) (cap - j1)
  | _, _, _ => True
set_option maxHeartbeats 8000000 in
theorem deleteE (g n cap ix j1 : Nat) (xs : List Value) (w : World) (hn : n ≤ 1000) (hi : ix < n) (hj : ix + 1 = j1) (hown : w.ownsRow 0 73 2 (.slice (some ⟨g, 0, none⟩) n cap) n xs) (h1 : ∀ v ∈ xs, v.oneCell' = true) :
    Calls Try.prog 62 #[.slice (some ⟨g, 0, none⟩) n cap, .int .i64 (ix : Int), .int .i64 (j1 : Int)] w fun e w' => e = .returned (.slice (some ⟨g, 0, none⟩) (n - 1) cap) ∧ w'.ownsRow 0 73 2 (.slice (some ⟨g, 0, none⟩) (n - 1) cap) (n - 1) (xs.take (ix * 2) ++ xs.drop (j1 * 2)) ∧ w.grownBy w' (some g) := by
  obtain ⟨i0, hi0, hz0, hz1, hz2⟩ := info_parts infoEn
  obtain ⟨ao, c0, ev, hnc, hc63, -, -⟩ := owns_shape hown
  simp only [Value.slice.injEq, true_and] at ev
  obtain ⟨-, rfl⟩ := ev
  have hxl := hown.1
  obtain ⟨A5, hA5⟩ : ∃ A5 : Addr, (¬ cap = j1 ∧ A5 = ⟨g, j1 * 2, none⟩) ∨ (cap = j1 ∧ A5 = ⟨g, 0, none⟩) := by
    by_cases h : cap = j1
    · exact ⟨_, .inr ⟨h, rfl⟩⟩
    · exact ⟨_, .inl ⟨h, rfl⟩⟩
  have hd : w.ownsRow 0 73 2 (.slice (some ⟨g, 0, none⟩) n cap) n xs := hown
  have hwd : ({ w with drawn := w.drawn + 1 } : World).ownsRow 0 73 2 (.slice (some ⟨g, 0, none⟩) n cap) n xs := owns_same hown (fun _ _ => rfl)
  obtain ⟨w1, hr1, ho1, hg1⟩ := run_append_fits (P := Try.prog) (w := { w with drawn := w.drawn + 1 }) 0 80 80 73 i0 2 Try.underlying80 hi0 hz1 g ix cap (xs.take (ix * 2)) (owns_prefix hwd ix (by omega)) A5 (n - j1) (cap - j1) (xs.drop (j1 * 2)) (by rw [List.length_drop, hxl, Nat.sub_mul]) (fun j u hju => by
    rcases hA5 with ⟨_, rfl⟩ | ⟨hc, _⟩
    · rw [addr_addT]
      rw [List.getElem?_drop] at hju
      have hlt := (List.getElem?_eq_some_iff.1 hju).1
      rw [hwd.cellAt (j1 * 2 + j) (by omega)]
      exact hju
    · have := (List.getElem?_eq_some_iff.1 hju).1
      rw [List.length_drop] at this
      omega) (fun u hu => h1 u (List.mem_of_mem_drop hu)) (by omega)
  have hnn : ix + (n - j1) = n - 1 := by omega
  rw [hnn] at hr1 ho1
  have hcl : (Builtin.clear_ #[80] 0 #[.slice (some ⟨g, (n - 1) * 2, none⟩) 1 (cap - (n - 1))]).run Try.prog w1 = .ok (.tuple #[]) (w1.setCells g ((n - 1) * 2) [.string ⟨#[]⟩, .int .i64 0]) := run_clear_one w1 80 73 _ (.agg #[.string ⟨#[]⟩, .int .i64 0]) [.string ⟨#[]⟩, .int .i64 0] Try.underlying80 (fun w => by kernel_rfl) rfl (by intro v hv; simp at hv; first | (rcases hv with rfl | rfl <;> rfl) | (subst hv; rfl)) g _ _ (fun j hj => owns_cells_in ho1 _ (by
    have : j < 2 := hj
    have h2 : (n - 1 + 1) * 2 ≤ cap * 2 := Nat.mul_le_mul_right _ (by omega)
    omega)) (fun j _ => ho1.frozenAt _)
  obtain ⟨hf1, hf2⟩ := owns_clear [.string ⟨#[]⟩, .int .i64 0] ((n - 1) * 2) ho1 (Nat.le_refl _)
  have hgd : w.grownBy ({ w with drawn := w.drawn + 1 } : World) (some g) := ⟨rfl, rfl, rfl, Nat.le_refl _, fun _ _ _ => rfl⟩
  have HFIN := Lib.hid (And.intro hf1 ((hgd.trans hg1).trans hf2))
  have HR1 := Lib.hid hr1
  have HCL := Lib.hid hcl
  have HA5 := Lib.hid hA5
  have HXS : Hid (xs.take (ix * 2) ++ xs.drop (j1 * 2) = xs.take (ix * 2) ++ xs.drop (j1 * 2)) := Lib.hid rfl
  have b1 : (ix : Int) ≤ (j1 : Int) := by omega
  have b2 : (j1 : Int) ≤ (n : Int) := by omega
  have b3 : (n : Int) ≤ (cap : Int) := by omega
  have b4 : (0 : Int) ≤ (ix : Int) := by omega
  have b5 : ix ≤ cap := by omega
  have b6 : (ix : Int) ≤ (cap : Int) := by omega
  have b7 : j1 ≤ n := by omega
  have b8 : n - 1 ≤ n := by omega
  have b9 : ((n - 1 : Nat) : Int) ≤ (n : Int) := by omega
  have b10 : (0 : Int) ≤ ((n - 1 : Nat) : Int) := by omega
  have b11 : n - (n - 1) = 1 := by omega
  have b12 : ¬ cap = n - 1 := by omega
  have e1 : ((ix : Int) == (j1 : Int)) = false := beq_eq_false_iff_ne.2 (by omega)
  clear hown hd hwd hr1 ho1 hg1 hcl hf1 hf2 hgd hA5 h1 hxl hnn hz0 hz1 hz2 hi0
  go_enter Try.func62, Try.ntmps62
  go_upto_region 5 with fail
  refine wp_region_chain 6 [] (by kernel_rfl) (by kernel_rfl) (by kernel_rfl) (DelEF g n cap ix j1 A5) (fun _ W => W = { w with drawn := w.drawn + 1 }) (fun _ _ _ => True) ?hF ?h0 ?hstep ?hcall ?hdone
  case hF =>
    intro s i hs; simp at hs
  case h0 => exact rfl
  case hstep =>
    intro j hj hni s vs act W K ha' hst hd hu hK
    simp only [fillF, Act.put, List.take_succ_cons, List.take_zero, List.setIfInBounds_toArray, List.set_cons_zero, List.set_cons_succ] at ha'
    subst ha'
    clear hu
    clear hst
    rcases (show j = 0 ∨ j = 1 ∨ j = 2 ∨ j = 3 ∨ j = 4 ∨ j = 5 by omega) with rfl | rfl | rfl | rfl | rfl | rfl
    · refine wpOp_step rfl (fun K' hK' => ?_)
      go_simp
      exact hK' _ _ (hK _ rfl)
    · refine wpOp_step rfl (fun K' hK' => ?_)
      go_simp
      exact hK' _ _ (hK _ rfl)
    · have e0 : vs 0 = .slice (some ⟨g, 0, none⟩) n cap := hd 0 (by kernel_rfl)
      have e1 : vs 1 = .int .i64 (ix : Int) := hd 1 (by kernel_rfl)
      simp only [e0, e1] at hK ⊢
      refine wpOp_step rfl (fun K' hK' => ?_)
      go_simp
      exact hK' _ _ (hK _ rfl)
    · refine wpOp_step rfl (fun K' hK' => ?_)
      go_simp
      exact hK' _ _ (hK _ rfl)
    · refine wpOp_step rfl (fun K' hK' => ?_)
      go_simp
      exact hK' _ _ (hK _ rfl)
    · have e3 : vs 3 = .slice (some ⟨g, 0, none⟩) n cap := hd 3 (by kernel_rfl)
      have e4 : vs 4 = .int .i64 (j1 : Int) := hd 4 (by kernel_rfl)
      simp only [e3, e4] at hK ⊢
      rcases HA5.out with ⟨hA, rfl⟩ | ⟨hA, rfl⟩
      · refine wpOp_step rfl (fun K' hK' => ?_)
        go_simp
        exact hK' _ _ (hK _ rfl)
      · subst hA
        have hz : n - cap = 0 := by omega
        refine wpOp_step rfl (fun K' hK' => ?_)
        go_simp
        exact hK' _ _ (hK _ (by show _ = _; rw [hz, Nat.sub_self]))
  case hcall =>
    intro s j hs vs act W K ha' hst hd hK
    simp at hs
  case hdone =>
    intro vs act W4 ha' hst hfs
    simp only [fillF, Act.put, List.take_succ_cons, List.take_zero, List.drop_succ_cons, List.drop_zero, List.setIfInBounds_toArray, List.set_cons_zero, List.set_cons_succ] at ha' ⊢
    subst ha'
    have f2 : vs 2 = .slice (some ⟨g, 0, none⟩) ix cap := hfs 2 (by decide)
    have f5 : vs 5 = .slice (some A5) (n - j1) (cap - j1) := hfs 5 (by decide)
    simp only [Nat.zero_add, Nat.reduceAdd, f2, f5]
    clear hfs f2 f5
    refine wpList_app_run rfl (.tmp 22) (.tmp 25) 80 rfl _ _ rfl rfl (by rw [hst]; exact HR1.out) ?_
    clear hst
    simp only [Act.put, List.setIfInBounds_toArray, List.set_cons_zero, List.set_cons_succ]
    go_upto_region 6 with fail
    have hcl := HCL.out
    have hfin := HFIN
    clear HCL HR1 HA5 HXS
    go_wp2_with fail
    go_ret
    exact ⟨rfl, hfin.out.1, hfin.out.2⟩
def DelKF (g n cap ix j1 : Nat) (A5 : Addr) : Nat → Value → World → Prop
  | 0, v, _ => v = .slice (some ⟨g, 0, none⟩) n cap
  | 1, v, _ => v = .int .i64 (ix : Int)
  | 2, v, _ => v = .slice (some ⟨g, 0, none⟩) ix cap
  | 3, v, _ => v = .slice (some ⟨g, 0, none⟩) n cap
  | 4, v, _ => v = .int .i64 (j1 : Int)
  | 5, v, _ => v = .slice (some A5) (n - j1) (cap - j1)
  | _, _, _ => True
set_option maxHeartbeats 8000000 in
theorem deleteK (g n cap ix j1 : Nat) (xs : List Value) (w : World) (hn : n ≤ 1000) (hi : ix < n) (hj : ix + 1 = j1) (hown : w.ownsRow 0 61 1 (.slice (some ⟨g, 0, none⟩) n cap) n xs) (h1 : ∀ v ∈ xs, v.oneCell' = true) :
    Calls Try.prog 72 #[.slice (some ⟨g, 0, none⟩) n cap, .int .i64 (ix : Int), .int .i64 (j1 : Int)] w fun e w' => e = .returned (.slice (some ⟨g, 0, none⟩) (n - 1) cap) ∧ w'.ownsRow 0 61 1 (.slice (some ⟨g, 0, none⟩) (n - 1) cap) (n - 1) (xs.take (ix * 1) ++ xs.drop (j1 * 1)) ∧ w.grownBy w' (some g) := by
  obtain ⟨i0, hi0, hz0, hz1, hz2⟩ := info_parts infoKid
  obtain ⟨ao, c0, ev, hnc, hc63, -, -⟩ := owns_shape hown
  simp only [Value.slice.injEq, true_and] at ev
  obtain ⟨-, rfl⟩ := ev
  have hxl := hown.1
  obtain ⟨A5, hA5⟩ : ∃ A5 : Addr, (¬ cap = j1 ∧ A5 = ⟨g, j1, none⟩) ∨ (cap = j1 ∧ A5 = ⟨g, 0, none⟩) := by
    by_cases h : cap = j1
    · exact ⟨_, .inr ⟨h, rfl⟩⟩
    · exact ⟨_, .inl ⟨h, rfl⟩⟩
  have hd : w.ownsRow 0 61 1 (.slice (some ⟨g, 0, none⟩) n cap) n xs := hown
  have hwd : ({ w with drawn := w.drawn + 1 } : World).ownsRow 0 61 1 (.slice (some ⟨g, 0, none⟩) n cap) n xs := owns_same hown (fun _ _ => rfl)
  obtain ⟨w1, hr1, ho1, hg1⟩ := run_append_fits (P := Try.prog) (w := { w with drawn := w.drawn + 1 }) 0 81 81 61 i0 1 Try.underlying81 hi0 hz1 g ix cap (xs.take (ix * 1)) (owns_prefix hwd ix (by omega)) A5 (n - j1) (cap - j1) (xs.drop (j1 * 1)) (by rw [List.length_drop, hxl, Nat.sub_mul]) (fun j u hju => by
    rcases hA5 with ⟨_, rfl⟩ | ⟨hc, _⟩
    · rw [addr_addT]
      rw [List.getElem?_drop, Nat.mul_one] at hju
      have hlt := (List.getElem?_eq_some_iff.1 hju).1
      rw [hwd.cellAt (j1 + j) (by omega)]
      exact hju
    · have := (List.getElem?_eq_some_iff.1 hju).1
      rw [List.length_drop] at this
      omega) (fun u hu => h1 u (List.mem_of_mem_drop hu)) (by omega)
  have hnn : ix + (n - j1) = n - 1 := by omega
  rw [hnn] at hr1 ho1
  have hcl : (Builtin.clear_ #[81] 0 #[.slice (some ⟨g, n - 1, none⟩) 1 (cap - (n - 1))]).run Try.prog w1 = .ok (.tuple #[]) (w1.setCells g (n - 1) [.pointer none]) := run_clear_one w1 81 61 _ (.pointer none) [.pointer none] Try.underlying81 (fun w => by kernel_rfl) rfl (by intro v hv; simp at hv; first | (rcases hv with rfl | rfl <;> rfl) | (subst hv; rfl)) g _ _ (fun j hj => owns_cells_in ho1 _ (by
    have : j < 1 := hj
    have h2 : (n - 1 + 1) * 1 ≤ cap * 1 := Nat.mul_le_mul_right _ (by omega)
    omega)) (fun j _ => ho1.frozenAt _)
  obtain ⟨hf1, hf2⟩ := owns_clear [.pointer none] (n - 1) ho1 (by omega)
  have hgd : w.grownBy ({ w with drawn := w.drawn + 1 } : World) (some g) := ⟨rfl, rfl, rfl, Nat.le_refl _, fun _ _ _ => rfl⟩
  have HFIN := Lib.hid (And.intro hf1 ((hgd.trans hg1).trans hf2))
  have HR1 := Lib.hid hr1
  have HCL := Lib.hid hcl
  have HA5 := Lib.hid hA5
  have HXS : Hid (xs.take (ix * 1) ++ xs.drop (j1 * 1) = xs.take (ix * 1) ++ xs.drop (j1 * 1)) := Lib.hid rfl
  have b1 : (ix : Int) ≤ (j1 : Int) := by omega
  have b2 : (j1 : Int) ≤ (n : Int) := by omega
  have b3 : (n : Int) ≤ (cap : Int) := by omega
  have b4 : (0 : Int) ≤ (ix : Int) := by omega
  have b5 : ix ≤ cap := by omega
  have b6 : (ix : Int) ≤ (cap : Int) := by omega
  have b7 : j1 ≤ n := by omega
  have b8 : n - 1 ≤ n := by omega
  have b9 : ((n - 1 : Nat) : Int) ≤ (n : Int) := by omega
  have b10 : (0 : Int) ≤ ((n - 1 : Nat) : Int) := by omega
  have b11 : n - (n - 1) = 1 := by omega
  have b12 : ¬ cap = n - 1 := by omega
  have e1 : ((ix : Int) == (j1 : Int)) = false := beq_eq_false_iff_ne.2 (by omega)
  clear hown hd hwd hr1 ho1 hg1 hcl hf1 hf2 hgd hA5 h1 hxl hnn hz0 hz1 hz2 hi0
  go_enter Try.func72, Try.ntmps72
  go_upto_region 5 with fail
  refine wp_region_chain 6 [] (by kernel_rfl) (by kernel_rfl) (by kernel_rfl) (DelKF g n cap ix j1 A5) (fun _ W => W = { w with drawn := w.drawn + 1 }) (fun _ _ _ => True) ?hF ?h0 ?hstep ?hcall ?hdone
  case hF =>
    intro s i hs; simp at hs
  case h0 => exact rfl
  case hstep =>
    intro j hj hni s vs act W K ha' hst hd hu hK
    simp only [fillF, Act.put, List.take_succ_cons, List.take_zero, List.setIfInBounds_toArray, List.set_cons_zero, List.set_cons_succ] at ha'
    subst ha'
    clear hu
    clear hst
    rcases (show j = 0 ∨ j = 1 ∨ j = 2 ∨ j = 3 ∨ j = 4 ∨ j = 5 by omega) with rfl | rfl | rfl | rfl | rfl | rfl
    · refine wpOp_step rfl (fun K' hK' => ?_)
      go_simp
      exact hK' _ _ (hK _ rfl)
    · refine wpOp_step rfl (fun K' hK' => ?_)
      go_simp
      exact hK' _ _ (hK _ rfl)
    · have e0 : vs 0 = .slice (some ⟨g, 0, none⟩) n cap := hd 0 (by kernel_rfl)
      have e1 : vs 1 = .int .i64 (ix : Int) := hd 1 (by kernel_rfl)
      simp only [e0, e1] at hK ⊢
      refine wpOp_step rfl (fun K' hK' => ?_)
      go_simp
      exact hK' _ _ (hK _ rfl)
    · refine wpOp_step rfl (fun K' hK' => ?_)
      go_simp
      exact hK' _ _ (hK _ rfl)
    · refine wpOp_step rfl (fun K' hK' => ?_)
      go_simp
      exact hK' _ _ (hK _ rfl)
    · have e3 : vs 3 = .slice (some ⟨g, 0, none⟩) n cap := hd 3 (by kernel_rfl)
      have e4 : vs 4 = .int .i64 (j1 : Int) := hd 4 (by kernel_rfl)
      simp only [e3, e4] at hK ⊢
      rcases HA5.out with ⟨hA, rfl⟩ | ⟨hA, rfl⟩
      · refine wpOp_step rfl (fun K' hK' => ?_)
        go_simp
        exact hK' _ _ (hK _ rfl)
      · subst hA
        have hz : n - cap = 0 := by omega
        refine wpOp_step rfl (fun K' hK' => ?_)
        go_simp
        exact hK' _ _ (hK _ (by show _ = _; rw [hz, Nat.sub_self]))
  case hcall =>
    intro s j hs vs act W K ha' hst hd hK
    simp at hs
  case hdone =>
    intro vs act W4 ha' hst hfs
    simp only [fillF, Act.put, List.take_succ_cons, List.take_zero, List.drop_succ_cons, List.drop_zero, List.setIfInBounds_toArray, List.set_cons_zero, List.set_cons_succ] at ha' ⊢
    subst ha'
    have f2 : vs 2 = .slice (some ⟨g, 0, none⟩) ix cap := hfs 2 (by decide)
    have f5 : vs 5 = .slice (some A5) (n - j1) (cap - j1) := hfs 5 (by decide)
    simp only [Nat.zero_add, Nat.reduceAdd, f2, f5]
    clear hfs f2 f5
    refine wpList_app_run rfl (.tmp 22) (.tmp 25) 81 rfl _ _ rfl rfl (by rw [hst]; exact HR1.out) ?_
    clear hst
    simp only [Act.put, List.setIfInBounds_toArray, List.set_cons_zero, List.set_cons_succ]
    go_upto_region 6 with fail
    have hcl := HCL.out
    have hfin := HFIN
    clear HCL HR1 HA5 HXS
    go_wp2_with fail
    go_ret
    exact ⟨rfl, hfin.out.1, hfin.out.2⟩
theorem deleteE_any (v : Value) (l : List En) (ix j1 : Nat) (w : World) (hl : l.length ≤ 1000) (hi : ix < l.length) (hj : ix + 1 = j1) (hown : OwnE w 0 v l) :
    Calls Try.prog 62 #[v, .int .i64 (ix : Int), .int .i64 (j1 : Int)] w fun e w' => ∃ v', e = .returned v' ∧ OwnE w' 0 v' (delL ix l) ∧ RowOk w w' v v' := by
  rcases id hown.2 with ⟨_, h0⟩ | ⟨g, cap, cur, rfl, q1, q2, q3, q4, q5, q6⟩
  · omega
  refine (deleteE g l.length cap ix j1 (cellsE l) w hl hi hj hown (cellsE_oneT l)).mono ?_
  rintro e w' ⟨rfl, h1, h2⟩
  have hd : (delL ix l).length = l.length - 1 := by have := delL_len ix l hi; omega
  have hc : cellsE (delL ix l) = (cellsE l).take (ix * 2) ++ (cellsE l).drop (j1 * 2) := by
    subst hj
    unfold delL
    rw [cellsE_append, cellsE_take, cellsE_drop]
  exact ⟨_, rfl, by unfold OwnE; rw [hd, hc]; exact h1, h2, fun b hb => .inl hb⟩
theorem deleteK_any (v : Value) (l : List Nat) (ix j1 : Nat) (w : World) (hl : l.length ≤ 1000) (hi : ix < l.length) (hj : ix + 1 = j1) (hown : OwnK w 0 v l) :
    Calls Try.prog 72 #[v, .int .i64 (ix : Int), .int .i64 (j1 : Int)] w fun e w' => ∃ v', e = .returned v' ∧ OwnK w' 0 v' (delL ix l) ∧ RowOk w w' v v' := by
  rcases id hown.2 with ⟨_, h0⟩ | ⟨g, cap, cur, rfl, q1, q2, q3, q4, q5, q6⟩
  · omega
  refine (deleteK g l.length cap ix j1 (l.map ptrV) w hl hi hj hown (kids_one l)).mono ?_
  rintro e w' ⟨rfl, h1, h2⟩
  have hd : (delL ix l).length = l.length - 1 := by have := delL_len ix l hi; omega
  have hc : (delL ix l).map ptrV = (l.map ptrV).take (ix * 1) ++ (l.map ptrV).drop (j1 * 1) := by
    subst hj
    unfold delL
    rw [List.map_append, List.map_take, List.map_drop, Nat.mul_one, Nat.mul_one]
  exact ⟨_, rfl, by unfold OwnK; rw [hd, hc]; exact h1, h2, fun b hb => .inl hb⟩
end Go.Proofs.Ytopgakdgifmecaa

/-! CONTRACTS of package slices' Grow (of nothing) and Concat over rows of entries and of kids. CONDITIONS: each theorem's own hypotheses. -/
namespace Go.Proofs.Ytopgakdgifmecaa
open Go.RowKit
set_option linter.unusedVariables false
set_option maxRecDepth 100000

theorem wpList_append_rowsE {ops : Array Oper} {rest : List Oper} {o : Oper} {a : Act} {Q : Exit → Act → World → Prop} {w : World} (hgd : o.guard = none) (s x : Operand)
    (ho : o.op = .call { callee := .builtin .append, args := #[s, x], argTypes := #[80, 80] }) (base : Nat) (v : Value) (l : List En) (hs : a.eval s = v) (hown : OwnE w base v l)
    (base2 : Nat) (vx : Value) (m : List En) (hx : a.eval x = vx) (hown2 : OwnE w base2 vx m) (hl : l.length + m.length ≤ 1000000) (hb : base ≤ w.heap.size)
    (h : ∀ v' w', OwnE w' base v' (l ++ m) → w.grownBy w' v.ownBlock → (v'.ownBlock = v.ownBlock ∨ v'.ownBlock = some w.heap.size) → wpList Try.prog ops Q rest (a.put o.dst v') w') : wpList Try.prog ops Q (o :: rest) a w := by
  obtain ⟨i0, hi, hz0, hz1, hz2⟩ := info_parts infoEn
  rcases id hown2.2 with ⟨hv0, h0⟩ | ⟨g, cap, cur, hv0, k1, k2, k3, k4, k5, k6⟩
  · obtain rfl : m = [] := List.eq_nil_of_length_eq_zero h0
    subst hv0
    refine wpList_append_own_none hgd s x 80 ho base 73 i0 2 Try.underlying80 hi v l.length (cellsE l) hs hown hx (h v w ?_ ⟨rfl, rfl, rfl, Nat.le_refl _, fun _ _ _ => rfl⟩ (.inl rfl))
    rw [List.append_nil]; exact hown
  · subst hv0
    obtain ⟨v', w', hr, r1, r2, _, r5⟩ := run_append_own_at (P := Try.prog) w base 80 o.type 73 i0 _ 2 24 Try.underlying80 hi hz0 hz1 hz2 rfl (by decide) v l.length (cellsE l) hown ⟨g, 0, none⟩ m.length cap (cellsE m) (cellsE_length m) (fun j u hj => World.ownsRow.cells hown2 rfl j u hj) (cellsE_oneT m) (by unfold maxLen; omega) (by omega) hb
    refine wpList_plain hgd fun K hK => ?_
    unfold Oper.wp execOp
    simp only [ho, resolve, invoke, builtin, Sem.run_bind, Sem.run_pure, Result.andThen_ok, List.map_toArray, List.map_cons, List.map_nil, hs, hx, hr]
    refine hK _ _ (h v' w' ?_ r2 r5)
    unfold OwnE
    rw [cellsE_append, List.length_append]
    exact r1
set_option maxHeartbeats 4000000 in
theorem growE_any (m : Nat) (w : World) (hm : m ≤ 1000) :
    Calls Try.prog 84 #[.slice none 0 0, .int .i64 (m : Int)] w fun e w' => ∃ v', e = .returned v' ∧ OwnE w' w.heap.size v' [] ∧ Below w.heap.size w w' := by
  obtain ⟨i0, hi0, hz0, hz1, hz2⟩ := info_parts infoEn
  by_cases h0 : m = 0
  · subst h0
    have hO : OwnE w w.heap.size (.slice none 0 0) [] := OwnE.nil _ _
    have HO := Lib.hid hO
    clear hO hz0 hz1 hz2 hi0
    go_enter Try.func84, Try.ntmps84
    go_wp2_with fail
    go_ret
    exact ⟨_, rfl, HO.out, Below.refl _ _⟩
  have hr := fun ty => Lib.run_append_nil_zeros (P := Try.prog) w 80 3 ty 73 i0 _ .i64 .i64 Try.underlying80 Try.underlying3 hi0 hz0 m (by omega) (by omega) (by omega) (by rw [hz2]; omega)
  obtain ⟨G, hG⟩ : ∃ G, grownCap w m 0 73 = G := ⟨_, rfl⟩
  have hGn : m ≤ G := by rw [← hG]; exact grownCap_ge w _ _ _
  have hGm : G ≤ maxLen := by
    have := grownCap_le_maxLen w m 0 73 (by unfold maxLen; omega)
    rw [hG] at this
    exact this
  rw [hG] at hr
  obtain ⟨ROW, hROW⟩ : ∃ ROW : Array Value, Builtin.zeroCells (.agg #[.string ⟨#[]⟩, .int .i64 0] : Value).cells m ++ Builtin.zeroCells (.agg #[.string ⟨#[]⟩, .int .i64 0] : Value).cells (G - m) = ROW := ⟨_, rfl⟩
  have hRs : ROW.size = G * 2 := by
    have h2 : (.agg #[.string ⟨#[]⟩, .int .i64 0] : Value).cells.size = 2 := rfl
    rw [← hROW]
    simp only [Array.size_append, zero_size, h2]; omega
  have hr2 : ∀ ty, (Builtin.append_ #[80, 3] ty #[.slice none 0 0, .int .i64 (m : Int)]).run Try.prog w = .ok (.slice (some ⟨w.heap.size, 0, none⟩) m G) (w.drew.alloc (.cells ROW 73)) := fun ty => by
    have := hr ty
    rw [hROW] at this
    exact this
  have hb0 : Below w.heap.size w (w.drew.alloc (.cells ROW 73)) := (Below.drew (Below.refl _ _)).alloc (Nat.le_refl _) _
  have hO : OwnE (w.drew.alloc (.cells ROW 73)) w.heap.size (.slice (some ⟨w.heap.size, 0, none⟩) 0 G) [] := ⟨rfl, .inr ⟨w.heap.size, G, ROW, rfl, Nat.le_refl _, heap_alloc_new w.drew _, Nat.zero_le _, hGm, hRs, by simp [cellsE]⟩⟩
  have hmp : (0 : Int) < (m : Int) := by omega
  have hg0 : ¬ G = 0 := by omega
  have hgI : (0 : Int) ≤ (G : Int) := by omega
  have HO := Lib.hid hO
  have HB := Lib.hid hb0
  have HR := Lib.hid hr2
  have hG63 : G ≤ 9223372036854775807 := by unfold maxLen at hGm; omega
  clear hr hr2 hO hb0 hROW hRs hG hz0 hz1 hz2 hi0 hGm
  go_enter Try.func84, Try.ntmps84
  go_wp2_with (first | (at_builtin; refine Lib.wpList_append_run _ rfl (.tmp 20) (.tmp 21) 80 3 rfl _ _ rfl rfl _ _ (HR.out _) ?_) | fail)
  go_ret
  exact ⟨_, rfl, HO.out, HB.out⟩
/-- Rows that are joined. -/
def joinRowsE (rs : List (Value × List En)) : List En := rs.flatMap Prod.snd
set_option maxHeartbeats 8000000 in
theorem concatE_any (q : Nat) (rs : List (Value × List En)) (w : World) (hn : rs.length ≤ 10) (hB : Blk w q 80 (rs.map Prod.fst)) (hr : ∀ r ∈ rs, OwnE w 0 r.1 r.2 ∧ r.2.length ≤ 20) :
    Calls Try.prog 80 #[.slice (some ⟨q, 0, none⟩) rs.length rs.length] w fun e w' => ∃ v', e = .returned v' ∧ OwnE w' w.heap.size v' (joinRowsE rs) ∧ Below w.heap.size w w' := by
  have hat : ∀ j, j < rs.length → ∃ (l : List En) (ao : Option Addr) (c : Nat), rs[j]? = some (.slice ao l.length c, l) ∧ l.length ≤ 20 ∧ ∀ W, Below w.heap.size w W → W.cell? ⟨q, j, none⟩ = some (.slice ao l.length c) ∧ OwnE W 0 (.slice ao l.length c) l := fun j hj => by
    have h1 : rs[j]? = some rs[j] := List.getElem?_eq_getElem hj
    obtain ⟨o1, o2⟩ := hr _ (List.getElem_mem hj)
    obtain ⟨ao, c, e, -⟩ := owns_shape o1
    obtain ⟨x, he⟩ : ∃ p : Value × List En, rs[j] = p := ⟨_, rfl⟩
    rw [he] at h1 o1 o2 e
    obtain ⟨v, l⟩ := x
    simp only at o1 o2 e
    subst e
    refine ⟨l, ao, c, h1, o2, fun W hW => ⟨(hB.call hW).cell (j := j) (by rw [List.getElem?_map, h1]; rfl), o1.keep hW⟩⟩
  have hsum : ∀ j, j ≤ rs.length → (joinRowsE (rs.take j)).length ≤ j * 20 := by
    intro j
    induction j with
    | zero => intro _; simp [joinRowsE]
    | succ j ih =>
      intro hj
      obtain ⟨l, ao, c, h1, h2, -⟩ := hat j (by omega)
      have := ih (by omega)
      unfold joinRowsE at this ⊢
      rw [take_snocT rs j _ h1, List.flatMap_append, List.length_append, List.flatMap_cons, List.flatMap_nil, List.append_nil]
      simp only
      omega
  have hstep : ∀ j (l : List En) v, rs[j]? = some (v, l) → joinRowsE (rs.take (j + 1)) = joinRowsE (rs.take j) ++ l := fun j l v h1 => by
    unfold joinRowsE
    rw [take_snocT rs j _ h1, List.flatMap_append, List.flatMap_cons, List.flatMap_nil, List.append_nil]
  obtain ⟨M, hM⟩ : ∃ M, rs.length = M := ⟨_, rfl⟩
  have hall : joinRowsE (rs.take M) = joinRowsE rs := by rw [List.take_of_length_le (by omega)]
  rw [hM] at hat hsum hn ⊢
  have HAT := Lib.hid hat
  have HSUM := Lib.hid hsum
  have HSTEP := Lib.hid hstep
  have HALL := Lib.hid hall
  have hgr := fun k W (h : k ≤ 1000) => growE_any k W h
  have HGR := Lib.hid hgr
  clear hat hsum hstep hall hgr hB hr hM
  go_enter Try.func80, Try.ntmps80
  go_wp2_with fail
  go_loopw [3, 11] (fun vs ix wr => ∃ (j : Nat), j ≤ M ∧ ix = .int .i64 j ∧ vs = .int .i64 ((joinRowsE (rs.take j)).length : Int) ∧ wr = w) (fun _ ix _ => M - (intOf ix).toNat)
  case atStart => exact ⟨0, Nat.zero_le _, rfl, rfl, rfl⟩
  case round =>
    obtain ⟨j, hj, rfl, rfl, hwr⟩ := hrel
    obtain rfl := hwr.symm
    by_cases hlt : j < M
    · have iI : (j : Int) < (M : Int) := by omega
      obtain ⟨l, ao, c, h1, h2, hc⟩ := HAT.out j hlt
      obtain ⟨q0, -⟩ := hc w (Below.refl _ _)
      have hs := HSTEP.out j l _ h1
      have hb := HSUM.out j hj
      have hlen : (joinRowsE (rs.take (j + 1))).length = (joinRowsE (rs.take j)).length + l.length := by rw [hs, List.length_append]
      have HL := Lib.hid hlen
      generalize (joinRowsE (rs.take j)).length = S at *
      generalize l.length = Ln at *
      clear hs hlen h1 hc
      go_wp2_with fail
      go_roundw
      case rel => exact ⟨j + 1, by omega, by go_num, by rw [HL.out]; go_num, by first | rfl | trivial⟩
      case measure => simp [intOf]; omega
    · have iI : ¬ (j : Int) < (M : Int) := by omega
      have hjM : j = M := by omega
      subst hjM
      have hb := HSUM.out j (Nat.le_refl _)
      have cG := HGR.out (joinRowsE (rs.take j)).length w (by omega)
      generalize (joinRowsE (rs.take j)).length = S at *
      go_wp2_with fail
      refine cG.mono ?_
      rintro e w1 ⟨v1, rfl, ho1, hb1⟩
      have HO1 := Lib.hid ho1
      have HB1 := Lib.hid hb1
      clear cG ho1 hb1 hb iI
      go_wp2_with fail
      go_loopw [6, 27] (fun vr ix wx => ∃ (i : Nat), i ≤ j ∧ ix = .int .i64 i ∧ Hid (Below w.heap.size w wx) ∧ Hid (OwnE wx w.heap.size vr (joinRowsE (rs.take i)))) (fun _ ix _ => j - (intOf ix).toNat)
      case atStart => exact ⟨0, Nat.zero_le _, rfl, HB1, HO1⟩
      case round =>
        obtain ⟨i, hi, rfl, hbx, hox⟩ := hrel
        by_cases hlt2 : i < j
        · have iI : (i : Int) < (j : Int) := by omega
          obtain ⟨l, ao, c, h1, h2, hc⟩ := HAT.out i hlt2
          obtain ⟨q0, ho⟩ := hc _ hbx.out
          have hs := HSTEP.out i l _ h1
          have hb := HSUM.out i (by omega)
          have hsz := hbx.out.size
          have HS := Lib.hid hs
          have HO2 := Lib.hid ho
          clear hs h1 hc ho
          obtain ⟨acc, hacc⟩ : ∃ a, joinRowsE (rs.take i) = a := ⟨_, rfl⟩
          rw [hacc] at hox hb
          have hll : acc.length + l.length ≤ 1000000 := by omega
          have HACC := Lib.hid hacc
          obtain ⟨Ln, hLn⟩ : ∃ L, l.length = L := ⟨_, rfl⟩
          rw [hLn] at q0 HO2
          clear hacc hLn
          go_wp2_with (first | (at_builtin; refine wpList_append_rowsE rfl (.tmp 31) (.tmp 32) rfl w.heap.size u6 acc rfl hox.out 0 (.slice ao Ln c) l rfl HO2.out hll hsz ?_; intro v5 w5 ho5 hg5 hw5; have HB5 := Lib.hid (hbx.out.grown hg5 hsz (fun b hb => (hox.out.lt b hb).1)); have HO5 : Hid (OwnE w5 w.heap.size v5 (joinRowsE (rs.take (i + 1)))) := Lib.hid (by rw [HS.out, HACC.out]; exact ho5); clear ho5 hg5) | fail)
          go_roundw
          case rel => exact ⟨i + 1, by omega, by go_num, HB5, HO5⟩
          case measure => simp [intOf]; omega
        · have iI : ¬ (i : Int) < (j : Int) := by omega
          have hij : i = j := by omega
          subst hij
          have HO3 := hox
          rw [HALL.out] at HO3
          clear hox
          go_wp2_with fail
          go_ret
          exact ⟨_, rfl, HO3.out, hbx.out⟩
theorem wpList_append_rowsK {ops : Array Oper} {rest : List Oper} {o : Oper} {a : Act} {Q : Exit → Act → World → Prop} {w : World} (hgd : o.guard = none) (s x : Operand)
    (ho : o.op = .call { callee := .builtin .append, args := #[s, x], argTypes := #[81, 81] }) (base : Nat) (v : Value) (l : List Nat) (hs : a.eval s = v) (hown : OwnK w base v l)
    (base2 : Nat) (vx : Value) (m : List Nat) (hx : a.eval x = vx) (hown2 : OwnK w base2 vx m) (hl : l.length + m.length ≤ 1000000) (hb : base ≤ w.heap.size)
    (h : ∀ v' w', OwnK w' base v' (l ++ m) → w.grownBy w' v.ownBlock → (v'.ownBlock = v.ownBlock ∨ v'.ownBlock = some w.heap.size) → wpList Try.prog ops Q rest (a.put o.dst v') w') : wpList Try.prog ops Q (o :: rest) a w := by
  obtain ⟨i0, hi, hz0, hz1, hz2⟩ := info_parts infoKid
  rcases id hown2.2 with ⟨hv0, h0⟩ | ⟨g, cap, cur, hv0, k1, k2, k3, k4, k5, k6⟩
  · obtain rfl : m = [] := List.eq_nil_of_length_eq_zero h0
    subst hv0
    refine wpList_append_own_none hgd s x 81 ho base 61 i0 1 Try.underlying81 hi v l.length (l.map ptrV) hs hown hx (h v w ?_ ⟨rfl, rfl, rfl, Nat.le_refl _, fun _ _ _ => rfl⟩ (.inl rfl))
    rw [List.append_nil]; exact hown
  · subst hv0
    obtain ⟨v', w', hr, r1, r2, _, r5⟩ := run_append_own_at (P := Try.prog) w base 81 o.type 61 i0 _ 1 8 Try.underlying81 hi hz0 hz1 hz2 rfl (by decide) v l.length (l.map ptrV) hown ⟨g, 0, none⟩ m.length cap (m.map ptrV) (by rw [List.length_map, Nat.mul_one]) (fun j u hj => World.ownsRow.cells hown2 rfl j u hj) (kids_one m) (by unfold maxLen; omega) (by omega) hb
    refine wpList_plain hgd fun K hK => ?_
    unfold Oper.wp execOp
    simp only [ho, resolve, invoke, builtin, Sem.run_bind, Sem.run_pure, Result.andThen_ok, List.map_toArray, List.map_cons, List.map_nil, hs, hx, hr]
    refine hK _ _ (h v' w' ?_ r2 r5)
    unfold OwnK
    rw [List.map_append, List.length_append]
    exact r1
set_option maxHeartbeats 4000000 in
theorem growK_any (m : Nat) (w : World) (hm : m ≤ 1000) :
    Calls Try.prog 85 #[.slice none 0 0, .int .i64 (m : Int)] w fun e w' => ∃ v', e = .returned v' ∧ OwnK w' w.heap.size v' [] ∧ Below w.heap.size w w' := by
  obtain ⟨i0, hi0, hz0, hz1, hz2⟩ := info_parts infoKid
  by_cases h0 : m = 0
  · subst h0
    have hO : OwnK w w.heap.size (.slice none 0 0) [] := OwnK.nil _ _
    have HO := Lib.hid hO
    clear hO hz0 hz1 hz2 hi0
    go_enter Try.func85, Try.ntmps85
    go_wp2_with fail
    go_ret
    exact ⟨_, rfl, HO.out, Below.refl _ _⟩
  have hr := fun ty => Lib.run_append_nil_zeros (P := Try.prog) w 81 3 ty 61 i0 _ .i64 .i64 Try.underlying81 Try.underlying3 hi0 hz0 m (by omega) (by omega) (by omega) (by rw [hz2]; omega)
  obtain ⟨G, hG⟩ : ∃ G, grownCap w m 0 61 = G := ⟨_, rfl⟩
  have hGn : m ≤ G := by rw [← hG]; exact grownCap_ge w _ _ _
  have hGm : G ≤ maxLen := by
    have := grownCap_le_maxLen w m 0 61 (by unfold maxLen; omega)
    rw [hG] at this
    exact this
  rw [hG] at hr
  obtain ⟨ROW, hROW⟩ : ∃ ROW : Array Value, Builtin.zeroCells (.pointer none : Value).cells m ++ Builtin.zeroCells (.pointer none : Value).cells (G - m) = ROW := ⟨_, rfl⟩
  have hRs : ROW.size = G * 1 := by
    have h2 : (.pointer none : Value).cells.size = 1 := rfl
    rw [← hROW]
    simp only [Array.size_append, zero_size, h2]; omega
  have hr2 : ∀ ty, (Builtin.append_ #[81, 3] ty #[.slice none 0 0, .int .i64 (m : Int)]).run Try.prog w = .ok (.slice (some ⟨w.heap.size, 0, none⟩) m G) (w.drew.alloc (.cells ROW 61)) := fun ty => by
    have := hr ty
    rw [hROW] at this
    exact this
  have hb0 : Below w.heap.size w (w.drew.alloc (.cells ROW 61)) := (Below.drew (Below.refl _ _)).alloc (Nat.le_refl _) _
  have hO : OwnK (w.drew.alloc (.cells ROW 61)) w.heap.size (.slice (some ⟨w.heap.size, 0, none⟩) 0 G) [] := ⟨rfl, .inr ⟨w.heap.size, G, ROW, rfl, Nat.le_refl _, heap_alloc_new w.drew _, Nat.zero_le _, hGm, hRs, by simp⟩⟩
  have hmp : (0 : Int) < (m : Int) := by omega
  have hg0 : ¬ G = 0 := by omega
  have hgI : (0 : Int) ≤ (G : Int) := by omega
  have HO := Lib.hid hO
  have HB := Lib.hid hb0
  have HR := Lib.hid hr2
  have hG63 : G ≤ 9223372036854775807 := by unfold maxLen at hGm; omega
  clear hr hr2 hO hb0 hROW hRs hG hz0 hz1 hz2 hi0 hGm
  go_enter Try.func85, Try.ntmps85
  go_wp2_with (first | (at_builtin; refine Lib.wpList_append_run _ rfl (.tmp 20) (.tmp 21) 81 3 rfl _ _ rfl rfl _ _ (HR.out _) ?_) | fail)
  go_ret
  exact ⟨_, rfl, HO.out, HB.out⟩
/-- Rows that are joined. -/
def joinRowsK (rs : List (Value × List Nat)) : List Nat := rs.flatMap Prod.snd
set_option maxHeartbeats 8000000 in
theorem concatK_any (q : Nat) (rs : List (Value × List Nat)) (w : World) (hn : rs.length ≤ 10) (hB : Blk w q 81 (rs.map Prod.fst)) (hr : ∀ r ∈ rs, OwnK w 0 r.1 r.2 ∧ r.2.length ≤ 20) :
    Calls Try.prog 81 #[.slice (some ⟨q, 0, none⟩) rs.length rs.length] w fun e w' => ∃ v', e = .returned v' ∧ OwnK w' w.heap.size v' (joinRowsK rs) ∧ Below w.heap.size w w' := by
  have hat : ∀ j, j < rs.length → ∃ (l : List Nat) (ao : Option Addr) (c : Nat), rs[j]? = some (.slice ao l.length c, l) ∧ l.length ≤ 20 ∧ ∀ W, Below w.heap.size w W → W.cell? ⟨q, j, none⟩ = some (.slice ao l.length c) ∧ OwnK W 0 (.slice ao l.length c) l := fun j hj => by
    have h1 : rs[j]? = some rs[j] := List.getElem?_eq_getElem hj
    obtain ⟨o1, o2⟩ := hr _ (List.getElem_mem hj)
    obtain ⟨ao, c, e, -⟩ := owns_shape o1
    obtain ⟨x, he⟩ : ∃ p : Value × List Nat, rs[j] = p := ⟨_, rfl⟩
    rw [he] at h1 o1 o2 e
    obtain ⟨v, l⟩ := x
    simp only at o1 o2 e
    subst e
    refine ⟨l, ao, c, h1, o2, fun W hW => ⟨(hB.call hW).cell (j := j) (by rw [List.getElem?_map, h1]; rfl), o1.keep hW⟩⟩
  have hsum : ∀ j, j ≤ rs.length → (joinRowsK (rs.take j)).length ≤ j * 20 := by
    intro j
    induction j with
    | zero => intro _; simp [joinRowsK]
    | succ j ih =>
      intro hj
      obtain ⟨l, ao, c, h1, h2, -⟩ := hat j (by omega)
      have := ih (by omega)
      unfold joinRowsK at this ⊢
      rw [take_snocT rs j _ h1, List.flatMap_append, List.length_append, List.flatMap_cons, List.flatMap_nil, List.append_nil]
      simp only
      omega
  have hstep : ∀ j (l : List Nat) v, rs[j]? = some (v, l) → joinRowsK (rs.take (j + 1)) = joinRowsK (rs.take j) ++ l := fun j l v h1 => by
    unfold joinRowsK
    rw [take_snocT rs j _ h1, List.flatMap_append, List.flatMap_cons, List.flatMap_nil, List.append_nil]
  obtain ⟨M, hM⟩ : ∃ M, rs.length = M := ⟨_, rfl⟩
  have hall : joinRowsK (rs.take M) = joinRowsK rs := by rw [List.take_of_length_le (by omega)]
  rw [hM] at hat hsum hn ⊢
  have HAT := Lib.hid hat
  have HSUM := Lib.hid hsum
  have HSTEP := Lib.hid hstep
  have HALL := Lib.hid hall
  have hgr := fun k W (h : k ≤ 1000) => growK_any k W h
  have HGR := Lib.hid hgr
  clear hat hsum hstep hall hgr hB hr hM
  go_enter Try.func81, Try.ntmps81
  go_wp2_with fail
  go_loopw [3, 11] (fun vs ix wr => ∃ (j : Nat), j ≤ M ∧ ix = .int .i64 j ∧ vs = .int .i64 ((joinRowsK (rs.take j)).length : Int) ∧ wr = w) (fun _ ix _ => M - (intOf ix).toNat)
  case atStart => exact ⟨0, Nat.zero_le _, rfl, rfl, rfl⟩
  case round =>
    obtain ⟨j, hj, rfl, rfl, hwr⟩ := hrel
    obtain rfl := hwr.symm
    by_cases hlt : j < M
    · have iI : (j : Int) < (M : Int) := by omega
      obtain ⟨l, ao, c, h1, h2, hc⟩ := HAT.out j hlt
      obtain ⟨q0, -⟩ := hc w (Below.refl _ _)
      have hs := HSTEP.out j l _ h1
      have hb := HSUM.out j hj
      have hlen : (joinRowsK (rs.take (j + 1))).length = (joinRowsK (rs.take j)).length + l.length := by rw [hs, List.length_append]
      have HL := Lib.hid hlen
      generalize (joinRowsK (rs.take j)).length = S at *
      generalize l.length = Ln at *
      clear hs hlen h1 hc
      go_wp2_with fail
      go_roundw
      case rel => exact ⟨j + 1, by omega, by go_num, by rw [HL.out]; go_num, by first | rfl | trivial⟩
      case measure => simp [intOf]; omega
    · have iI : ¬ (j : Int) < (M : Int) := by omega
      have hjM : j = M := by omega
      subst hjM
      have hb := HSUM.out j (Nat.le_refl _)
      have cG := HGR.out (joinRowsK (rs.take j)).length w (by omega)
      generalize (joinRowsK (rs.take j)).length = S at *
      go_wp2_with fail
      refine cG.mono ?_
      rintro e w1 ⟨v1, rfl, ho1, hb1⟩
      have HO1 := Lib.hid ho1
      have HB1 := Lib.hid hb1
      clear cG ho1 hb1 hb iI
      go_wp2_with fail
      go_loopw [6, 27] (fun vr ix wx => ∃ (i : Nat), i ≤ j ∧ ix = .int .i64 i ∧ Hid (Below w.heap.size w wx) ∧ Hid (OwnK wx w.heap.size vr (joinRowsK (rs.take i)))) (fun _ ix _ => j - (intOf ix).toNat)
      case atStart => exact ⟨0, Nat.zero_le _, rfl, HB1, HO1⟩
      case round =>
        obtain ⟨i, hi, rfl, hbx, hox⟩ := hrel
        by_cases hlt2 : i < j
        · have iI : (i : Int) < (j : Int) := by omega
          obtain ⟨l, ao, c, h1, h2, hc⟩ := HAT.out i hlt2
          obtain ⟨q0, ho⟩ := hc _ hbx.out
          have hs := HSTEP.out i l _ h1
          have hb := HSUM.out i (by omega)
          have hsz := hbx.out.size
          have HS := Lib.hid hs
          have HO2 := Lib.hid ho
          clear hs h1 hc ho
          obtain ⟨acc, hacc⟩ : ∃ a, joinRowsK (rs.take i) = a := ⟨_, rfl⟩
          rw [hacc] at hox hb
          have hll : acc.length + l.length ≤ 1000000 := by omega
          have HACC := Lib.hid hacc
          obtain ⟨Ln, hLn⟩ : ∃ L, l.length = L := ⟨_, rfl⟩
          rw [hLn] at q0 HO2
          clear hacc hLn
          go_wp2_with (first | (at_builtin; refine wpList_append_rowsK rfl (.tmp 31) (.tmp 32) rfl w.heap.size u6 acc rfl hox.out 0 (.slice ao Ln c) l rfl HO2.out hll hsz ?_; intro v5 w5 ho5 hg5 hw5; have HB5 := Lib.hid (hbx.out.grown hg5 hsz (fun b hb => (hox.out.lt b hb).1)); have HO5 : Hid (OwnK w5 w.heap.size v5 (joinRowsK (rs.take (i + 1)))) := Lib.hid (by rw [HS.out, HACC.out]; exact ho5); clear ho5 hg5) | fail)
          go_roundw
          case rel => exact ⟨i + 1, by omega, by go_num, HB5, HO5⟩
          case measure => simp [intOf]; omega
        · have iI : ¬ (i : Int) < (j : Int) := by omega
          have hij : i = j := by omega
          subst hij
          have HO3 := hox
          rw [HALL.out] at HO3
          clear hox
          go_wp2_with fail
          go_ret
          exact ⟨_, rfl, HO3.out, hbx.out⟩
end Go.Proofs.Ytopgakdgifmecaa

/-! CONTRACT of package tree's last (a node's). CONDITIONS: each theorem's own hypotheses. -/
namespace Go.Proofs.Ytopgakdgifmecaa
open Go.RowKit
set_option linter.unusedVariables false
set_option maxRecDepth 100000

def LfF (p ge E E1 ce : Nat) (sk : List UInt8) (y : Int) : Nat → Value → World → Prop
  | 0, v, _ => v = .pointer (some ⟨p, 0, none⟩)
  | 1, v, _ => v = .pointer (some ⟨p, 0, none⟩)
  | 2, v, _ => v = .pointer (some ⟨p, 0, none⟩)
  | 3, v, _ => v = .slice (some ⟨ge, 0, none⟩) E ce
  | 4, v, _ => v = .pointer (some ⟨p, 0, none⟩)
  | 5, v, _ => v = .pointer (some ⟨p, 0, none⟩)
  | 6, v, _ => v = .pointer (some ⟨p, 0, none⟩)
  | 7, v, _ => v = .slice (some ⟨ge, 0, none⟩) E ce
  | 8, v, _ => v = .int .i64 (E : Int)
  | 9, v, _ => v = .int .i64 (E1 : Int)
  | 10, v, _ => v = .pointer (some ⟨ge, E1 * 2, none⟩)
  | 11, v, _ => v = .agg #[.string (str sk), .int .i64 y]
  | _, _, _ => True
def LkF (p gk C C1 ck q : Nat) : Nat → Value → World → Prop
  | 0, v, _ => v = .pointer (some ⟨p, 0, none⟩)
  | 1, v, _ => v = .pointer (some ⟨p, 0, none⟩)
  | 2, v, _ => v = .pointer (some ⟨p, 1, none⟩)
  | 3, v, _ => v = .slice (some ⟨gk, 0, none⟩) C ck
  | 4, v, _ => v = .pointer (some ⟨p, 0, none⟩)
  | 5, v, _ => v = .pointer (some ⟨p, 0, none⟩)
  | 6, v, _ => v = .pointer (some ⟨p, 1, none⟩)
  | 7, v, _ => v = .slice (some ⟨gk, 0, none⟩) C ck
  | 8, v, _ => v = .int .i64 (C : Int)
  | 9, v, _ => v = .int .i64 (C1 : Int)
  | 10, v, _ => v = .pointer (some ⟨gk, C1, none⟩)
  | 11, v, _ => v = ptrV q
  | _, _, _ => True
set_option maxHeartbeats 16000000 in
theorem last_leaf (es : List En) (p : Nat) (F : List Nat) (w : World) (h : NdT w (.mk es []) p F) (h1 : 1 ≤ es.length) (h3 : es.length ≤ 3) (sk : List UInt8) (y : Int) (hx : es.getLast? = some (sk, y)) :
    Calls Try.prog 63 #[.pointer (some ⟨p, 0, none⟩)] w fun e w' => e = .returned (.agg #[.string (str sk), .int .i64 y]) ∧ Below w.heap.size w w' := by
  obtain ⟨ae, ak, ce, ck, hB, hp, hc1, hc2, hE, hK⟩ := h.open
  obtain ⟨E, hEE⟩ : ∃ E, es.length = E := ⟨_, rfl⟩
  obtain ⟨E1, hE1⟩ : ∃ E1, E = E1 + 1 := ⟨E - 1, by omega⟩
  have hxe : es[E1]? = some (sk, y) := by rw [List.getLast?_eq_getElem?, hEE, hE1] at hx; exact hx
  obtain ⟨ge, rfl, hgl, -, g1, g2⟩ := hE.cell hxe
  have z0 : Blk _ _ _ [_, _] := Blk.new w #[.string ⟨#[]⟩, .int .i64 0] 73
  have hb0 := (Below.refl w.heap.size w).alloc (Nat.le_refl _) (.cells #[.string ⟨#[]⟩, .int .i64 0] 73)
  obtain ⟨w0, hw0⟩ : ∃ W, w.alloc (.cells #[.string ⟨#[]⟩, .int .i64 0] 73) = W := ⟨_, rfl⟩
  rw [hw0] at z0 hb0
  obtain ⟨m2, hm2⟩ : ∃ m, w.heap.size = m := ⟨_, rfl⟩
  rw [hm2] at z0
  have cL := leaf_any p (some ⟨ge, 0, none⟩) ak es.length 0 ce ck w0 (hB.keep hb0 hp)
  have cL : Calls Try.prog 47 #[.pointer (some ⟨p, 0, none⟩)] w0 fun e w' => e = .returned (.bool true) ∧ w' = w0 := cL
  have HC : Hid (∀ W, W = { w0 with drawn := w0.drawn + 1 } → W.cell? ⟨p, 0, none⟩ = some (.slice (some ⟨ge, 0, none⟩) E ce) ∧ W.cell? ⟨ge, E1 * 2, none⟩ = some (.string (str sk)) ∧ W.cell? ⟨ge, E1 * 2 + 1, none⟩ = some (.int .i64 y)) := Lib.hid (fun W hW => by
    have hb : Below w.heap.size w W := by rw [hW]; exact Below.drew hb0
    have := hB.keep hb hp
    rw [hEE] at this
    exact ⟨this.cell (j := 0) rfl, (hb.cell (p := ⟨ge, _, none⟩) hgl).trans g1, (hb.cell (p := ⟨ge, _, none⟩) hgl).trans g2⟩)
  have hEI : (E : Int) - 1 = (E1 : Int) := by omega
  have hw1 : IntKind.i64.wrap (E1 : Int) = (E1 : Int) := by rw [IntKind.wrap_i64] <;> omega
  have i1 : (E1 : Int) < (E : Int) := by omega
  have i0 : (0 : Int) ≤ (E1 : Int) := by omega
  have i3 : (E : Int) ≤ 3 := by omega
  have HZ0 := Lib.hid z0
  have HB0 := Lib.hid hb0
  have HW0 := Lib.hid hw0
  have HM2 := Lib.hid hm2
  clear h h1 h3 hx hB hp hc1 hc2 hE hK hEE hE1 hxe hgl g1 g2 z0 hb0 hw0 hm2
  go_enter Try.func63, Try.ntmps63
  go_upto_region 1 with fail
  rw [HW0.out, HM2.out]
  go_wp2_with fail
  refine cL.mono ?_
  rintro e w0 ⟨rfl, rfl⟩
  clear cL
  go_upto_region 2 with fail
  refine wp_region_chain 12 [] (by kernel_rfl) (by kernel_rfl) (by kernel_rfl) (LfF p ge E E1 ce sk y) (fun _ W => W = { w0 with drawn := w0.drawn + 1 }) (fun _ _ _ => True) ?hF ?h0 ?hstep ?hcall ?hdone
  case hF =>
    intro s i hs; simp at hs
  case h0 => exact rfl
  case hstep =>
    intro j hj hni s vs act W K ha' hst hd hu hK
    simp only [fillF, Act.put, List.take_succ_cons, List.take_zero, List.setIfInBounds_toArray, List.set_cons_zero, List.set_cons_succ] at ha'
    subst ha'
    clear hu
    obtain ⟨q0, q1, q2⟩ := HC.out W hst
    clear hst
    rcases (show j = 0 ∨ j = 1 ∨ j = 2 ∨ j = 3 ∨ j = 4 ∨ j = 5 ∨ j = 6 ∨ j = 7 ∨ j = 8 ∨ j = 9 ∨ j = 10 ∨ j = 11 by omega) with rfl | rfl | rfl | rfl | rfl | rfl | rfl | rfl | rfl | rfl | rfl | rfl
    · refine wpOp_step rfl (fun K' hK' => ?_)
      go_simp
      exact hK' _ _ (hK _ rfl)
    · have e0 : vs 0 = .pointer (some ⟨p, 0, none⟩) := hd 0 (by kernel_rfl)
      simp only [e0] at hK ⊢
      refine wpOp_step rfl (fun K' hK' => ?_)
      go_simp
      exact hK' _ _ (hK _ rfl)
    · have e1 : vs 1 = .pointer (some ⟨p, 0, none⟩) := hd 1 (by kernel_rfl)
      simp only [e1] at hK ⊢
      refine wpOp_step rfl (fun K' hK' => ?_)
      go_simp
      exact hK' _ _ (hK _ rfl)
    · have e2 : vs 2 = .pointer (some ⟨p, 0, none⟩) := hd 2 (by kernel_rfl)
      simp only [e2] at hK ⊢
      refine wpOp_step rfl (fun K' hK' => ?_)
      go_simp
      exact hK' _ _ (hK _ rfl)
    · refine wpOp_step rfl (fun K' hK' => ?_)
      go_simp
      exact hK' _ _ (hK _ rfl)
    · have e4 : vs 4 = .pointer (some ⟨p, 0, none⟩) := hd 4 (by kernel_rfl)
      simp only [e4] at hK ⊢
      refine wpOp_step rfl (fun K' hK' => ?_)
      go_simp
      exact hK' _ _ (hK _ rfl)
    · have e5 : vs 5 = .pointer (some ⟨p, 0, none⟩) := hd 5 (by kernel_rfl)
      simp only [e5] at hK ⊢
      refine wpOp_step rfl (fun K' hK' => ?_)
      go_simp
      exact hK' _ _ (hK _ rfl)
    · have e6 : vs 6 = .pointer (some ⟨p, 0, none⟩) := hd 6 (by kernel_rfl)
      simp only [e6] at hK ⊢
      refine wpOp_step rfl (fun K' hK' => ?_)
      go_simp
      exact hK' _ _ (hK _ rfl)
    · have e7 : vs 7 = .slice (some ⟨ge, 0, none⟩) E ce := hd 7 (by kernel_rfl)
      simp only [e7] at hK ⊢
      refine wpOp_step rfl (fun K' hK' => ?_)
      go_simp
      exact hK' _ _ (hK _ rfl)
    · have e8 : vs 8 = .int .i64 (E : Int) := hd 8 (by kernel_rfl)
      simp only [e8] at hK ⊢
      refine wpOp_step rfl (fun K' hK' => ?_)
      go_simp
      exact hK' _ _ (hK _ (by show _ = _; first | rfl | rw [hw1]))
    · have e3 : vs 3 = .slice (some ⟨ge, 0, none⟩) E ce := hd 3 (by kernel_rfl)
      have e9 : vs 9 = .int .i64 (E1 : Int) := hd 9 (by kernel_rfl)
      simp only [e3, e9] at hK ⊢
      refine wpOp_step rfl (fun K' hK' => ?_)
      go_simp
      exact hK' _ _ (hK _ rfl)
    · have e10 : vs 10 = .pointer (some ⟨ge, E1 * 2, none⟩) := hd 10 (by kernel_rfl)
      simp only [e10] at hK ⊢
      refine wpOp_step rfl (fun K' hK' => ?_)
      go_simp
      exact hK' _ _ (hK _ rfl)
  case hcall =>
    intro s j hs vs act W K ha' hst hd hK
    simp at hs
  case hdone =>
    intro vs act W4 ha' hst hfs
    simp only [fillF, Act.put, List.take_succ_cons, List.take_zero, List.drop_succ_cons, List.drop_zero, List.setIfInBounds_toArray, List.set_cons_zero, List.set_cons_succ] at ha' ⊢
    subst ha'
    have f11 : vs 11 = .agg #[.string (str sk), .int .i64 y] := hfs 11 (by decide)
    simp only [Nat.zero_add, Nat.reduceAdd, f11]
    clear hfs f11
    have hb4 : Below w0.heap.size w0 W4 := by rw [hst]; exact Below.drew (Below.refl _ _)
    have hz4 := HZ0.out.call hb4
    have q0 := hz4.cell (j := 0) rfl
    have q1 := hz4.cell (j := 1) rfl
    have q2 := hz4.free 0
    have q3 := hz4.free 1
    have HZ5 := Lib.hid ((hz4.set 0 (.string (str sk))).set 1 (.int .i64 y))
    have HB5 : Hid (Below w.heap.size w ((W4.setCell ⟨m2, 0, none⟩ (.string (str sk))).setCell ⟨m2, 1, none⟩ (.int .i64 y))) := Lib.hid (((below_stepE HB0.out HB0.out.size hb4).setCell (p := ⟨m2, 0, none⟩) (by rw [HM2.out]; exact Nat.le_refl _) _).setCell (p := ⟨m2, 1, none⟩) (by rw [HM2.out]; exact Nat.le_refl _) _)
    clear hst hb4 hz4
    go_wp2_with fail
    refine bodyPost_ret (results_row1 rfl _ _ m2 [.string (str sk), .int .i64 y] rfl HZ5.out rfl rfl (by kernel_rfl)) rfl ?_
    exact ⟨rfl, HB5.out⟩
set_option maxHeartbeats 16000000 in
theorem last_kid (es : List En) (ks : List Tr) (p : Nat) (F : List Nat) (w : World) (h : NdT w (.mk es ks) p F) (h1 : 1 ≤ ks.length) (h3 : ks.length ≤ 1000) (k : Tr) (hk : ks.getLast? = some k) (sk : List UInt8) (y : Int)
    (ih : ∀ q G W, NdT W k q G → Calls Try.prog 63 #[.pointer (some ⟨q, 0, none⟩)] W fun e w' => e = .returned (.agg #[.string (str sk), .int .i64 y]) ∧ Below W.heap.size W w') :
    Calls Try.prog 63 #[.pointer (some ⟨p, 0, none⟩)] w fun e w' => e = .returned (.agg #[.string (str sk), .int .i64 y]) ∧ Below w.heap.size w w' := by
  obtain ⟨ae, ak, ce, ck, hB, hp, hc1, hc2, hE, hK⟩ := h.open
  obtain ⟨C, hCC⟩ : ∃ C, ks.length = C := ⟨_, rfl⟩
  obtain ⟨C1, hC1⟩ : ∃ C1, C = C1 + 1 := ⟨C - 1, by omega⟩
  have hxe : ks[C1]? = some k := by rw [List.getLast?_eq_getElem?, hCC, hC1] at hk; exact hk
  obtain ⟨gk, q, G, rfl, hgl, g1, hN⟩ := hK C1 k hxe
  have z0 : Blk _ _ _ [_, _] := Blk.new w #[.string ⟨#[]⟩, .int .i64 0] 73
  have hb0 := (Below.refl w.heap.size w).alloc (Nat.le_refl _) (.cells #[.string ⟨#[]⟩, .int .i64 0] 73)
  obtain ⟨w0, hw0⟩ : ∃ W, w.alloc (.cells #[.string ⟨#[]⟩, .int .i64 0] 73) = W := ⟨_, rfl⟩
  rw [hw0] at z0 hb0
  obtain ⟨m2, hm2⟩ : ∃ m, w.heap.size = m := ⟨_, rfl⟩
  rw [hm2] at z0
  have cL := leaf_any p ae (some ⟨gk, 0, none⟩) es.length ks.length ce ck w0 (hB.keep hb0 hp)
  rw [show (ks.length == 0) = false by rw [hCC, hC1]; rfl] at cL
  have HC : Hid (∀ W, W = { w0 with drawn := w0.drawn + 1 } → W.cell? ⟨p, 1, none⟩ = some (.slice (some ⟨gk, 0, none⟩) C ck) ∧ W.cell? ⟨gk, C1, none⟩ = some (ptrV q)) := Lib.hid (fun W hW => by
    have hb : Below w.heap.size w W := by rw [hW]; exact Below.drew hb0
    have := hB.keep hb hp
    rw [hCC] at this
    exact ⟨this.cell (j := 1) rfl, (hb.cell (p := ⟨gk, _, none⟩) hgl).trans g1⟩)
  have hCI : (C : Int) - 1 = (C1 : Int) := by omega
  have hw1 : IntKind.i64.wrap (C1 : Int) = (C1 : Int) := by rw [IntKind.wrap_i64] <;> omega
  have i1 : (C1 : Int) < (C : Int) := by omega
  have i0 : (0 : Int) ≤ (C1 : Int) := by omega
  have i3 : (C : Int) ≤ 1000 := by omega
  have HIH : Hid (∀ W, Below w.heap.size w W → Calls Try.prog 63 #[.pointer (some ⟨q, 0, none⟩)] W fun e w' => e = .returned (.agg #[.string (str sk), .int .i64 y]) ∧ Below W.heap.size W w') := Lib.hid (fun W hW => ih q G W (hN.below hW))
  have HZ0 := Lib.hid z0
  have HB0 := Lib.hid hb0
  have HW0 := Lib.hid hw0
  have HM2 := Lib.hid hm2
  clear h h1 h3 hk hB hp hc1 hc2 hE hK hCC hC1 hxe hgl g1 hN z0 hb0 hw0 hm2 ih
  go_enter Try.func63, Try.ntmps63
  go_upto_region 1 with fail
  rw [HW0.out, HM2.out]
  go_wp2_with fail
  refine cL.mono ?_
  rintro e w0 ⟨rfl, rfl⟩
  clear cL
  go_upto_region 3 with fail
  refine wp_region_chain 12 [] (by kernel_rfl) (by kernel_rfl) (by kernel_rfl) (LkF p gk C C1 ck q) (fun _ W => W = { w0 with drawn := w0.drawn + 1 }) (fun _ _ _ => True) ?hF ?h0 ?hstep ?hcall ?hdone
  case hF =>
    intro s i hs; simp at hs
  case h0 => exact rfl
  case hstep =>
    intro j hj hni s vs act W K ha' hst hd hu hK
    simp only [fillF, Act.put, List.take_succ_cons, List.take_zero, List.setIfInBounds_toArray, List.set_cons_zero, List.set_cons_succ] at ha'
    subst ha'
    clear hu
    obtain ⟨q0, q1⟩ := HC.out W hst
    clear hst
    rcases (show j = 0 ∨ j = 1 ∨ j = 2 ∨ j = 3 ∨ j = 4 ∨ j = 5 ∨ j = 6 ∨ j = 7 ∨ j = 8 ∨ j = 9 ∨ j = 10 ∨ j = 11 by omega) with rfl | rfl | rfl | rfl | rfl | rfl | rfl | rfl | rfl | rfl | rfl | rfl
    · refine wpOp_step rfl (fun K' hK' => ?_)
      go_simp
      exact hK' _ _ (hK _ rfl)
    · have e0 : vs 0 = .pointer (some ⟨p, 0, none⟩) := hd 0 (by kernel_rfl)
      simp only [e0] at hK ⊢
      refine wpOp_step rfl (fun K' hK' => ?_)
      go_simp
      exact hK' _ _ (hK _ rfl)
    · have e1 : vs 1 = .pointer (some ⟨p, 0, none⟩) := hd 1 (by kernel_rfl)
      simp only [e1] at hK ⊢
      refine wpOp_step rfl (fun K' hK' => ?_)
      go_simp
      exact hK' _ _ (hK _ rfl)
    · have e2 : vs 2 = .pointer (some ⟨p, 1, none⟩) := hd 2 (by kernel_rfl)
      simp only [e2] at hK ⊢
      refine wpOp_step rfl (fun K' hK' => ?_)
      go_simp
      exact hK' _ _ (hK _ rfl)
    · refine wpOp_step rfl (fun K' hK' => ?_)
      go_simp
      exact hK' _ _ (hK _ rfl)
    · have e4 : vs 4 = .pointer (some ⟨p, 0, none⟩) := hd 4 (by kernel_rfl)
      simp only [e4] at hK ⊢
      refine wpOp_step rfl (fun K' hK' => ?_)
      go_simp
      exact hK' _ _ (hK _ rfl)
    · have e5 : vs 5 = .pointer (some ⟨p, 0, none⟩) := hd 5 (by kernel_rfl)
      simp only [e5] at hK ⊢
      refine wpOp_step rfl (fun K' hK' => ?_)
      go_simp
      exact hK' _ _ (hK _ rfl)
    · have e6 : vs 6 = .pointer (some ⟨p, 1, none⟩) := hd 6 (by kernel_rfl)
      simp only [e6] at hK ⊢
      refine wpOp_step rfl (fun K' hK' => ?_)
      go_simp
      exact hK' _ _ (hK _ rfl)
    · have e7 : vs 7 = .slice (some ⟨gk, 0, none⟩) C ck := hd 7 (by kernel_rfl)
      simp only [e7] at hK ⊢
      refine wpOp_step rfl (fun K' hK' => ?_)
      go_simp
      exact hK' _ _ (hK _ rfl)
    · have e8 : vs 8 = .int .i64 (C : Int) := hd 8 (by kernel_rfl)
      simp only [e8] at hK ⊢
      refine wpOp_step rfl (fun K' hK' => ?_)
      go_simp
      exact hK' _ _ (hK _ (by show _ = _; first | rfl | rw [hw1]))
    · have e3 : vs 3 = .slice (some ⟨gk, 0, none⟩) C ck := hd 3 (by kernel_rfl)
      have e9 : vs 9 = .int .i64 (C1 : Int) := hd 9 (by kernel_rfl)
      simp only [e3, e9] at hK ⊢
      refine wpOp_step rfl (fun K' hK' => ?_)
      go_simp
      exact hK' _ _ (hK _ rfl)
    · have e10 : vs 10 = .pointer (some ⟨gk, C1, none⟩) := hd 10 (by kernel_rfl)
      simp only [e10] at hK ⊢
      refine wpOp_step rfl (fun K' hK' => ?_)
      go_simp
      exact hK' _ _ (hK _ rfl)
  case hcall =>
    intro s j hs vs act W K ha' hst hd hK
    simp at hs
  case hdone =>
    intro vs act W4 ha' hst hfs
    simp only [fillF, Act.put, List.take_succ_cons, List.take_zero, List.drop_succ_cons, List.drop_zero, List.setIfInBounds_toArray, List.set_cons_zero, List.set_cons_succ] at ha' ⊢
    subst ha'
    have f11 : vs 11 = ptrV q := hfs 11 (by decide)
    simp only [Nat.zero_add, Nat.reduceAdd, f11]
    clear hfs f11
    have hb4 : Below w0.heap.size w0 W4 := by rw [hst]; exact Below.drew (Below.refl _ _)
    have hb04 := below_stepE HB0.out HB0.out.size hb4
    have cI := HIH.out W4 hb04
    have HB04 := Lib.hid hb04
    have HZ4 := Lib.hid (HZ0.out.call hb4)
    clear hst hb4 hb04
    go_wp2_with fail
    refine cI.mono ?_
    rintro e W5 ⟨rfl, hb5⟩
    have hz4 := HZ4.out.call hb5
    have hb05 := below_stepE HB04.out HB04.out.size hb5
    have q0 := hz4.cell (j := 0) rfl
    have q1 := hz4.cell (j := 1) rfl
    have q2 := hz4.free 0
    have q3 := hz4.free 1
    have HZ5 := Lib.hid ((hz4.set 0 (.string (str sk))).set 1 (.int .i64 y))
    have HB5 : Hid (Below w.heap.size w ((W5.setCell ⟨m2, 0, none⟩ (.string (str sk))).setCell ⟨m2, 1, none⟩ (.int .i64 y))) := Lib.hid ((hb05.setCell (p := ⟨m2, 0, none⟩) (by rw [HM2.out]; exact Nat.le_refl _) _).setCell (p := ⟨m2, 1, none⟩) (by rw [HM2.out]; exact Nat.le_refl _) _)
    clear cI hb5 hz4 hb05
    go_wp2_with fail
    refine bodyPost_ret (results_row1 rfl _ _ m2 [.string (str sk), .int .i64 y] rfl HZ5.out rfl rfl (by kernel_rfl)) rfl ?_
    exact ⟨rfl, HB5.out⟩
theorem last_any : ∀ (n d : Nat) (t : Tr) (p : Nat) (F : List Nat) (w : World), d < n → okT d t → NdT w t p F → ∀ (sk : List UInt8) (y : Int), lastF n t = some (sk, y) →
    Calls Try.prog 63 #[.pointer (some ⟨p, 0, none⟩)] w fun e w' => e = .returned (.agg #[.string (str sk), .int .i64 y]) ∧ Below w.heap.size w w'
  | 0, d, t, p, F, w, h, _, _, _, _, _ => by omega
  | n + 1, d, .mk es ks, p, F, w, hd, hok, h, sk, y, hl => by
    have hk3 := (ok_iff d _).1 hok
    simp only [Tr.es] at hk3
    simp only [lastF] at hl
    by_cases hz : ks = []
    · subst hz
      rw [if_pos rfl] at hl
      exact last_leaf es p F w h hk3.1 hk3.2.1 sk y hl
    · rw [if_neg hz] at hl
      cases d with
      | zero => simp only [okT] at hok; exact absurd hok.2.2 hz
      | succ d =>
        simp only [okT] at hok
        cases hg : ks.getLast? with
        | none => rw [hg] at hl; cases hl
        | some k =>
          rw [hg] at hl
          simp only at hl
          have hkm := List.mem_of_getLast? hg
          exact last_kid es ks p F w h (by have := hok.2.2.1; omega) (by have := hok.2.2.1; omega) k hg sk y (fun q G W hN => last_any n d k q G W (by omega) (hok.2.2.2 k hkm) hN sk y hl)
end Go.Proofs.Ytopgakdgifmecaa

/-! CONTRACT of package tree's joined. CONDITIONS: each theorem's own hypotheses. -/
namespace Go.Proofs.Ytopgakdgifmecaa
open Go.RowKit
set_option linter.unusedVariables false
set_option maxRecDepth 100000

theorem ownE_one {w : World} {k : Nat} {e : En} (h : Blk w k 73 [.string (str e.1), .int .i64 e.2]) : OwnE w 0 (.slice (some ⟨k, 0, none⟩) 1 1) [e] :=
  ⟨rfl, .inr ⟨k, 1, #[.string (str e.1), .int .i64 e.2], rfl, Nat.zero_le _, h, Nat.le_refl _, by unfold maxLen; decide, rfl, rfl⟩⟩
theorem e_k_apart {w : World} {b1 b2 : Nat} {v u : Value} {l : List En} {m : List Nat} (h : OwnE w b1 v l) (k : OwnK w b2 u m) : ∀ b, v.ownBlock = some b → u.ownBlock ≠ some b := fun b e e2 => by
  obtain ⟨c, hc⟩ := owns_type h e
  obtain ⟨c', hc'⟩ := owns_type k e2
  rw [hc] at hc'
  simp only [Option.some.injEq, Obj.cells.injEq] at hc'
  exact absurd hc'.2.1 (by decide)
def JnF (n0 pa pb : Nat) (aE bE aK bK : Option Addr) (na ca nb cb ma da mb db : Nat) (sk : List UInt8) (y : Int) (lE : List En) (lK : List Nat) : Nat → Value → World → Prop
  | 0, v, _ => v = .pointer (some ⟨pa, 0, none⟩)
  | 1, v, _ => v = .pointer (some ⟨pa, 0, none⟩)
  | 2, v, _ => v = .pointer (some ⟨pa, 0, none⟩)
  | 3, v, _ => v = .slice aE na ca
  | 4, v, _ => v = .agg #[.string (str sk), .int .i64 y]
  | 5, v, w => ∃ k, v = .slice (some ⟨k, 0, none⟩) 1 1 ∧ Blk w k 73 [.string (str sk), .int .i64 y]
  | 6, v, _ => v = .pointer (some ⟨pb, 0, none⟩)
  | 7, v, _ => v = .pointer (some ⟨pb, 0, none⟩)
  | 8, v, _ => v = .pointer (some ⟨pb, 0, none⟩)
  | 9, v, _ => v = .slice bE nb cb
  | 10, v, w => ∃ k q, v = .slice (some ⟨q, 0, none⟩) 3 3 ∧ Blk w q 80 [.slice aE na ca, .slice (some ⟨k, 0, none⟩) 1 1, .slice bE nb cb] ∧ Blk w k 73 [.string (str sk), .int .i64 y]
  | 11, v, w => OwnE w n0 v lE
  | 12, v, _ => v = .pointer (some ⟨pa, 0, none⟩)
  | 13, v, _ => v = .pointer (some ⟨pa, 0, none⟩)
  | 14, v, _ => v = .pointer (some ⟨pa, 1, none⟩)
  | 15, v, _ => v = .slice aK ma da
  | 16, v, _ => v = .pointer (some ⟨pb, 0, none⟩)
  | 17, v, _ => v = .pointer (some ⟨pb, 0, none⟩)
  | 18, v, _ => v = .pointer (some ⟨pb, 1, none⟩)
  | 19, v, _ => v = .slice bK mb db
  | 20, v, w => ∃ q, v = .slice (some ⟨q, 0, none⟩) 2 2 ∧ Blk w q 81 [.slice aK ma da, .slice bK mb db]
  | 21, v, w => OwnK w n0 v lK
  | _, _, _ => True
theorem jnF_keep {n0 pa pb : Nat} {aE bE aK bK : Option Addr} {na ca nb cb ma da mb db : Nat} {sk : List UInt8} {y : Int} {lE : List En} {lK : List Nat} (i : Nat) (v : Value) (w w' : World) (h : JnF n0 pa pb aE bE aK bK na ca nb cb ma da mb db sk y lE lK i v w) (he : Below w.heap.size w w') : JnF n0 pa pb aE bE aK bK na ca nb cb ma da mb db sk y lE lK i v w' := by
  unfold JnF at *
  split at h <;> (try exact h) <;> (try exact trivial)
  · obtain ⟨k, h1, h2⟩ := h; exact ⟨k, h1, h2.call he⟩
  · obtain ⟨k, q, h1, h2, h3⟩ := h; exact ⟨k, q, h1, h2.call he, h3.call he⟩
  · exact h.keep he
  · obtain ⟨q, h1, h2⟩ := h; exact ⟨q, h1, h2.call he⟩
  · exact h.keep he
set_option maxHeartbeats 16000000 in
theorem joined_any (esa esb : List En) (ksa ksb : List Tr) (sk : List UInt8) (y : Int) (pa pb : Nat) (Fa Fb : List Nat) (w : World) (hA : NdT w (.mk esa ksa) pa Fa) (hB : NdT w (.mk esb ksb) pb Fb) (hnd : (Fa ++ Fb).Nodup) (l1 : esa.length ≤ 20) (l2 : esb.length ≤ 20) (l3 : ksa.length ≤ 20) (l4 : ksb.length ≤ 20) :
    Calls Try.prog 71 #[.pointer (some ⟨pa, 0, none⟩), .agg #[.string (str sk), .int .i64 y], .pointer (some ⟨pb, 0, none⟩)] w fun e w' => ∃ q G, e = .returned (.pointer (some ⟨q, 0, none⟩)) ∧ NdT w' (joinT (.mk esa ksa) (sk, y) (.mk esb ksb)) q G ∧ G.Nodup ∧ (∀ x ∈ G, x ∈ Fa ++ Fb ∨ w.heap.size ≤ x) ∧ Below w.heap.size w w' := by
  simp only [NdT] at hA hB
  obtain ⟨vEa, vKa, psa, Fka, hBa, hEa, hKa, hLa, rfl⟩ := hA
  obtain ⟨vEb, vKb, psb, Fkb, hBb, hEb, hKb, hLb, rfl⟩ := hB
  have hpa := NdL.len hLa
  have hpb := NdL.len hLb
  obtain ⟨aE, ca, rfl, -, -, -, -⟩ := owns_shape hEa
  obtain ⟨aK, da, rfl, -, -, -, -⟩ := owns_shape hKa
  obtain ⟨bE, cb, rfl, -, -, -, -⟩ := owns_shape hEb
  obtain ⟨bK, db, rfl, -, -, -, -⟩ := owns_shape hKb
  have z0 : Blk _ _ _ [_, _] := Blk.new w #[.string (str sk), .int .i64 y] 73
  have hb0 := (Below.refl w.heap.size w).alloc (Nat.le_refl _) (.cells #[.string (str sk), .int .i64 y] 73)
  obtain ⟨w0, hw0⟩ : ∃ W, w.alloc (.cells #[.string (str sk), .int .i64 y] 73) = W := ⟨_, rfl⟩
  rw [hw0] at z0 hb0
  obtain ⟨m4, hm4⟩ : ∃ m, w.heap.size = m := ⟨_, rfl⟩
  rw [hm4] at z0
  have hkk : (Fka ++ Fkb).Nodup ∧ ∀ x ∈ Fka ++ Fkb, x < w.heap.size := by
    refine ⟨?_, fun x hx => ?_⟩
    · refine List.Sublist.nodup ?_ hnd
      refine List.Sublist.append ?_ ?_
      · exact (List.sublist_append_of_sublist_right (List.sublist_append_right _ _)).cons _
      · exact (List.sublist_append_of_sublist_right (List.sublist_append_right _ _)).cons _
    · rcases List.mem_append.1 hx with hx | hx
      · exact hLa.lt x hx
      · exact hLb.lt x hx
  have hin : ∀ x ∈ Fka ++ Fkb, x ∈ (pa :: ((Value.slice aE esa.length ca).ownBlock.toList ++ ((Value.slice aK psa.length da).ownBlock.toList ++ Fka))) ++ (pb :: ((Value.slice bE esb.length cb).ownBlock.toList ++ ((Value.slice bK psb.length db).ownBlock.toList ++ Fkb))) := fun x hx => by
    rcases List.mem_append.1 hx with hx | hx
    · exact List.mem_append_left _ (List.mem_cons_of_mem _ (List.mem_append_right _ (List.mem_append_right _ hx)))
    · exact List.mem_append_right _ (List.mem_cons_of_mem _ (List.mem_append_right _ (List.mem_append_right _ hx)))
  have hn : ∀ W, Below w0.heap.size w0 W → (W.cell? ⟨pa, 0, none⟩ = some (.slice aE esa.length ca) ∧ W.cell? ⟨pa, 1, none⟩ = some (.slice aK psa.length da) ∧ W.cell? ⟨pb, 0, none⟩ = some (.slice bE esb.length cb) ∧ W.cell? ⟨pb, 1, none⟩ = some (.slice bK psb.length db) ∧ W.cell? ⟨m4, 0, none⟩ = some (.string (str sk)) ∧ W.cell? ⟨m4, 1, none⟩ = some (.int .i64 y)) ∧ (OwnE W 0 (.slice aE esa.length ca) esa ∧ OwnE W 0 (.slice bE esb.length cb) esb ∧ OwnK W 0 (.slice aK psa.length da) psa ∧ OwnK W 0 (.slice bK psb.length db) psb) := fun W hW => by
    have hb : Below w.heap.size w W := below_stepE hb0 hb0.size hW
    have h1 := hBa.keep hb hBa.lt
    have h2 := hBb.keep hb hBb.lt
    have h3 := z0.call hW
    exact ⟨⟨h1.cell (j := 0) rfl, h1.cell (j := 1) rfl, h2.cell (j := 0) rfl, h2.cell (j := 1) rfl, h3.cell (j := 0) rfl, h3.cell (j := 1) rfl⟩, hEa.keep hb, hEb.keep hb, hKa.keep hb, hKb.keep hb⟩
  obtain ⟨n0, hn0⟩ : ∃ n, w0.heap.size = n := ⟨_, rfl⟩
  have HCE : Hid (∀ W, Below w0.heap.size w0 W → ∀ k q, Blk W q 80 [.slice aE esa.length ca, .slice (some ⟨k, 0, none⟩) 1 1, .slice bE esb.length cb] → Blk W k 73 [.string (str sk), .int .i64 y] → Calls Try.prog 80 #[.slice (some ⟨q, 0, none⟩) 3 3] W fun e w' => ∃ v', e = .returned v' ∧ OwnE w' n0 v' (esa ++ (sk, y) :: esb) ∧ Below W.heap.size W w') := Lib.hid (fun W hW k q h1 h2 => by
    obtain ⟨-, o1, o2, -, -⟩ := hn W hW
    refine (concatE_any q [(.slice aE esa.length ca, esa), (.slice (some ⟨k, 0, none⟩) 1 1, [(sk, y)]), (.slice bE esb.length cb, esb)] W (by simp) h1 (fun r hr => by
      simp only [List.mem_cons, List.not_mem_nil, or_false] at hr
      rcases hr with rfl | rfl | rfl
      · exact ⟨o1, l1⟩
      · exact ⟨ownE_one h2, by simp⟩
      · exact ⟨o2, l2⟩)).mono ?_
    rintro e w' ⟨v', rfl, ho, hb⟩
    refine ⟨v', rfl, ?_, hb⟩
    have : joinRowsE [(.slice aE esa.length ca, esa), (.slice (some ⟨k, 0, none⟩) 1 1, [(sk, y)]), (.slice bE esb.length cb, esb)] = esa ++ (sk, y) :: esb := by simp [joinRowsE]
    rw [this] at ho
    exact owns_base ho (by rw [← hn0]; exact hW.size))
  have HCK : Hid (∀ W, Below w0.heap.size w0 W → ∀ q, Blk W q 81 [.slice aK psa.length da, .slice bK psb.length db] → Calls Try.prog 81 #[.slice (some ⟨q, 0, none⟩) 2 2] W fun e w' => ∃ v', e = .returned v' ∧ OwnK w' n0 v' (psa ++ psb) ∧ Below W.heap.size W w') := Lib.hid (fun W hW q h1 => by
    obtain ⟨-, -, -, o1, o2⟩ := hn W hW
    refine (concatK_any q [(.slice aK psa.length da, psa), (.slice bK psb.length db, psb)] W (by simp) h1 (fun r hr => by
      simp only [List.mem_cons, List.not_mem_nil, or_false] at hr
      rcases hr with rfl | rfl
      · exact ⟨o1, by simp only; omega⟩
      · exact ⟨o2, by simp only; omega⟩)).mono ?_
    rintro e w' ⟨v', rfl, ho, hb⟩
    refine ⟨v', rfl, ?_, hb⟩
    have : joinRowsK [(.slice aK psa.length da, psa), (.slice bK psb.length db, psb)] = psa ++ psb := by simp [joinRowsK]
    rw [this] at ho
    exact owns_base ho (by rw [← hn0]; exact hW.size))
  have HLL : Hid (NdL w (ksa ++ ksb) (psa ++ psb) (Fka ++ Fkb)) := Lib.hid (NdL.app hLa hLb)
  have HN := Lib.hid hn
  have HKK := Lib.hid hkk
  have HIN := Lib.hid hin
  have HW0 := Lib.hid hw0
  have HM4 := Lib.hid hm4
  have HB0 := Lib.hid hb0
  have HN0 : Hid (w0.heap.size = n0 ∧ w.heap.size ≤ n0) := Lib.hid ⟨hn0, by rw [← hn0]; exact hb0.size⟩
  obtain ⟨lE, hlE⟩ : ∃ l, esa ++ (sk, y) :: esb = l := ⟨_, rfl⟩
  obtain ⟨lK, hlK⟩ : ∃ l, psa ++ psb = l := ⟨_, rfl⟩
  rw [hlE] at HCE
  rw [hlK] at HCK HLL
  have HLE := Lib.hid hlE
  clear hlE hlK hn hkk hin hw0 hm4 hb0 hn0 z0 hBa hEa hKa hLa hBb hEb hKb hLb hpa hpb hnd l1 l2 l3 l4
  generalize (Fka ++ Fkb) = FK at *
  obtain ⟨na, hna⟩ : ∃ n, esa.length = n := ⟨_, rfl⟩
  obtain ⟨nb, hnb⟩ : ∃ n, esb.length = n := ⟨_, rfl⟩
  obtain ⟨ma, hma⟩ : ∃ n, psa.length = n := ⟨_, rfl⟩
  obtain ⟨mb, hmb⟩ : ∃ n, psb.length = n := ⟨_, rfl⟩
  rw [hna, hnb, hma, hmb] at HN HIN ⊢
  rw [hna, hnb] at HCE
  rw [hma, hmb] at HCK
  generalize (pa :: ((Value.slice aE na ca).ownBlock.toList ++ ((Value.slice aK ma da).ownBlock.toList ++ Fka))) ++ (pb :: ((Value.slice bE nb cb).ownBlock.toList ++ ((Value.slice bK mb db).ownBlock.toList ++ Fkb))) = FAB at *
  clear hna hnb hma hmb
  go_enter Try.func71, Try.ntmps71
  go_upto_region 1 with fail
  rw [HW0.out, HM4.out]
  refine wp_region_facts' 22 (by kernel_rfl) (by kernel_rfl) (JnF n0 pa pb aE bE aK bK na ca nb cb ma da mb db sk y lE lK) (fun W => Below w0.heap.size w0 W) (fun W W' => Below W.heap.size W W') ?hC ?hF ?h0 ?hstep ?hdone
  case hC => exact fun W W' hc he => below_stepE hc hc.size he
  case hF => exact jnF_keep
  case h0 => exact (Below.refl _ _).drew
  case hstep =>
    intro i hi vs act W K ha' hc hd hu hK
    simp only [fillF, Act.put, List.take_succ_cons, List.take_zero, List.setIfInBounds_toArray, List.set_cons_zero, List.set_cons_succ] at ha'
    subst ha'
    clear hu
    rcases (show i = 0 ∨ i = 1 ∨ i = 2 ∨ i = 3 ∨ i = 4 ∨ i = 5 ∨ i = 6 ∨ i = 7 ∨ i = 8 ∨ i = 9 ∨ i = 10 ∨ i = 11 ∨ i = 12 ∨ i = 13 ∨ i = 14 ∨ i = 15 ∨ i = 16 ∨ i = 17 ∨ i = 18 ∨ i = 19 ∨ i = 20 ∨ i = 21 by omega) with rfl | rfl | rfl | rfl | rfl | rfl | rfl | rfl | rfl | rfl | rfl | rfl | rfl | rfl | rfl | rfl | rfl | rfl | rfl | rfl | rfl | rfl
    · refine wpOp_step rfl (fun K' hK' => ?_)
      go_simp
      exact hK' _ _ (hK _ _ rfl (Below.refl _ _))
    · have e0 : vs 0 = .pointer (some ⟨pa, 0, none⟩) := hd 0 (by kernel_rfl)
      simp only [e0] at hK ⊢
      refine wpOp_step rfl (fun K' hK' => ?_)
      go_simp
      exact hK' _ _ (hK _ _ rfl (Below.refl _ _))
    · have e1 : vs 1 = .pointer (some ⟨pa, 0, none⟩) := hd 1 (by kernel_rfl)
      simp only [e1] at hK ⊢
      refine wpOp_step rfl (fun K' hK' => ?_)
      go_simp
      exact hK' _ _ (hK _ _ rfl (Below.refl _ _))
    · have e2 : vs 2 = .pointer (some ⟨pa, 0, none⟩) := hd 2 (by kernel_rfl)
      simp only [e2] at hK ⊢
      obtain ⟨q0, q1, q2, q3, q4, q5⟩ := (HN.out W hc).1
      refine wpOp_step rfl (fun K' hK' => ?_)
      go_simp
      exact hK' _ _ (hK _ _ rfl (Below.refl _ _))
    · obtain ⟨q0, q1, q2, q3, q4, q5⟩ := (HN.out W hc).1
      refine wpOp_step rfl (fun K' hK' => ?_)
      go_simp
      exact hK' _ _ (hK _ _ rfl (Below.refl _ _))
    · have e4 : vs 4 = .agg #[.string (str sk), .int .i64 y] := hd 4 (by kernel_rfl)
      simp only [e4] at hK ⊢
      refine wpOp_step rfl (fun K' hK' => ?_)
      go_simp
      exact hK' _ _ (hK _ _ ⟨_, rfl, Blk.new W _ _⟩ ((Below.refl _ _).alloc (Nat.le_refl _) _))
    · refine wpOp_step rfl (fun K' hK' => ?_)
      go_simp
      exact hK' _ _ (hK _ _ rfl (Below.refl _ _))
    · have e6 : vs 6 = .pointer (some ⟨pb, 0, none⟩) := hd 6 (by kernel_rfl)
      simp only [e6] at hK ⊢
      refine wpOp_step rfl (fun K' hK' => ?_)
      go_simp
      exact hK' _ _ (hK _ _ rfl (Below.refl _ _))
    · have e7 : vs 7 = .pointer (some ⟨pb, 0, none⟩) := hd 7 (by kernel_rfl)
      simp only [e7] at hK ⊢
      refine wpOp_step rfl (fun K' hK' => ?_)
      go_simp
      exact hK' _ _ (hK _ _ rfl (Below.refl _ _))
    · have e8 : vs 8 = .pointer (some ⟨pb, 0, none⟩) := hd 8 (by kernel_rfl)
      simp only [e8] at hK ⊢
      obtain ⟨q0, q1, q2, q3, q4, q5⟩ := (HN.out W hc).1
      refine wpOp_step rfl (fun K' hK' => ?_)
      go_simp
      exact hK' _ _ (hK _ _ rfl (Below.refl _ _))
    · have e3 : vs 3 = .slice aE na ca := hd 3 (by kernel_rfl)
      obtain ⟨k5, e5, y5⟩ := hd 5 (by kernel_rfl)
      have e9 : vs 9 = .slice bE nb cb := hd 9 (by kernel_rfl)
      simp only [e3, e5, e9] at hK ⊢
      refine wpOp_step rfl (fun K' hK' => ?_)
      go_simp
      exact hK' _ _ (hK _ _ ⟨k5, _, rfl, Blk.new W _ _, y5.call ((Below.refl _ _).alloc (Nat.le_refl _) _)⟩ ((Below.refl _ _).alloc (Nat.le_refl _) _))
    · obtain ⟨k10, q10, e10, y10, z10⟩ := hd 10 (by kernel_rfl)
      simp only [e10] at hK ⊢
      refine wpOp_step rfl (fun K' hK' => ?_)
      go_simp
      refine (HCE.out W hc k10 q10 y10 z10).mono ?_
      rintro e w' ⟨v', rfl, ho, hb⟩
      exact hK' _ _ (hK _ _ ho hb)
    · refine wpOp_step rfl (fun K' hK' => ?_)
      go_simp
      exact hK' _ _ (hK _ _ rfl (Below.refl _ _))
    · have e12 : vs 12 = .pointer (some ⟨pa, 0, none⟩) := hd 12 (by kernel_rfl)
      simp only [e12] at hK ⊢
      refine wpOp_step rfl (fun K' hK' => ?_)
      go_simp
      exact hK' _ _ (hK _ _ rfl (Below.refl _ _))
    · have e13 : vs 13 = .pointer (some ⟨pa, 0, none⟩) := hd 13 (by kernel_rfl)
      simp only [e13] at hK ⊢
      refine wpOp_step rfl (fun K' hK' => ?_)
      go_simp
      exact hK' _ _ (hK _ _ rfl (Below.refl _ _))
    · have e14 : vs 14 = .pointer (some ⟨pa, 1, none⟩) := hd 14 (by kernel_rfl)
      simp only [e14] at hK ⊢
      obtain ⟨q0, q1, q2, q3, q4, q5⟩ := (HN.out W hc).1
      refine wpOp_step rfl (fun K' hK' => ?_)
      go_simp
      exact hK' _ _ (hK _ _ rfl (Below.refl _ _))
    · refine wpOp_step rfl (fun K' hK' => ?_)
      go_simp
      exact hK' _ _ (hK _ _ rfl (Below.refl _ _))
    · have e16 : vs 16 = .pointer (some ⟨pb, 0, none⟩) := hd 16 (by kernel_rfl)
      simp only [e16] at hK ⊢
      refine wpOp_step rfl (fun K' hK' => ?_)
      go_simp
      exact hK' _ _ (hK _ _ rfl (Below.refl _ _))
    · have e17 : vs 17 = .pointer (some ⟨pb, 0, none⟩) := hd 17 (by kernel_rfl)
      simp only [e17] at hK ⊢
      refine wpOp_step rfl (fun K' hK' => ?_)
      go_simp
      exact hK' _ _ (hK _ _ rfl (Below.refl _ _))
    · have e18 : vs 18 = .pointer (some ⟨pb, 1, none⟩) := hd 18 (by kernel_rfl)
      simp only [e18] at hK ⊢
      obtain ⟨q0, q1, q2, q3, q4, q5⟩ := (HN.out W hc).1
      refine wpOp_step rfl (fun K' hK' => ?_)
      go_simp
      exact hK' _ _ (hK _ _ rfl (Below.refl _ _))
    · have e15 : vs 15 = .slice aK ma da := hd 15 (by kernel_rfl)
      have e19 : vs 19 = .slice bK mb db := hd 19 (by kernel_rfl)
      simp only [e15, e19] at hK ⊢
      refine wpOp_step rfl (fun K' hK' => ?_)
      go_simp
      exact hK' _ _ (hK _ _ ⟨_, rfl, Blk.new W _ _⟩ ((Below.refl _ _).alloc (Nat.le_refl _) _))
    · obtain ⟨q20, e20, y20⟩ := hd 20 (by kernel_rfl)
      simp only [e20] at hK ⊢
      refine wpOp_step rfl (fun K' hK' => ?_)
      go_simp
      refine (HCK.out W hc q20 y20).mono ?_
      rintro e w' ⟨v', rfl, ho, hb⟩
      exact hK' _ _ (hK _ _ ho hb)
  case hdone =>
    intro vs act W4 ha' hst hfs
    simp only [fillF, Act.put, List.take_succ_cons, List.take_zero, List.drop_succ_cons, List.drop_zero, List.setIfInBounds_toArray, List.set_cons_zero, List.set_cons_succ] at ha' ⊢
    subst ha'
    have f11 : OwnE W4 n0 (vs 11) lE := hfs 11 (by decide)
    have f21 : OwnK W4 n0 (vs 21) lK := hfs 21 (by decide)
    simp only [Nat.zero_add, Nat.reduceAdd]
    clear hfs
    generalize vs 11 = v11 at *
    generalize vs 21 = v21 at *
    have hap := e_k_apart f11 f21
    obtain ⟨a11, c11, e11, -⟩ := owns_shape f11
    obtain ⟨a21, c21, e21, -⟩ := owns_shape f21
    obtain ⟨L11, h11⟩ : ∃ L, lE.length = L := ⟨_, rfl⟩
    obtain ⟨L21, h21⟩ : ∃ L, lK.length = L := ⟨_, rfl⟩
    rw [h11] at e11
    rw [h21] at e21
    subst e11 e21
    have hbx := (Below.refl W4.heap.size W4).alloc (Nat.le_refl _) (.cells #[.slice a11 L11 c11, .slice a21 L21 c21] 83)
    have zx : Blk _ _ _ [_, _] := Blk.new W4 #[.slice a11 L11 c11, .slice a21 L21 c21] 83
    have HG : Hid (∀ W5, W5 = W4.alloc (.cells #[.slice a11 L11 c11, .slice a21 L21 c21] 83) → ∃ q G, (Value.pointer (some ⟨W4.heap.size, 0, none⟩)) = .pointer (some ⟨q, 0, none⟩) ∧ NdT W5 (joinT (.mk esa ksa) (sk, y) (.mk esb ksb)) q G ∧ G.Nodup ∧ (∀ x ∈ G, x ∈ FAB ∨ w.heap.size ≤ x) ∧ Below w.heap.size w W5) := Lib.hid (fun W5 hW5 => by
      rw [← hW5] at hbx zx
      have hb4 : Below w.heap.size w W4 := below_stepE HB0.out HB0.out.size hst
      have hs4 := hst.size
      have hn0 := HN0.out.1
      have hn1 := HN0.out.2
      have hK := HKK.out
      refine ⟨W4.heap.size, W4.heap.size :: ((Value.slice a11 L11 c11).ownBlock.toList ++ ((Value.slice a21 L21 c21).ownBlock.toList ++ FK)), rfl, ?_, ?_, ?_, below_stepE hb4 hb4.size hbx⟩
      · unfold joinT
        simp only [Tr.es, Tr.ks, NdT]
        rw [HLE.out]
        exact ⟨_, _, lK, FK, zx, owns_base (f11.keep hbx) (Nat.zero_le _), owns_base (f21.keep hbx) (Nat.zero_le _), HLL.out.same (fun b hb => by rw [hbx.block b (Nat.lt_of_lt_of_le (hK.2 b hb) hb4.size), hb4.block b (hK.2 b hb)]), rfl⟩
      · have x11 := fun b e => f11.lt b e
        have x21 := fun b e => f21.lt b e
        generalize (Value.slice a11 L11 c11).ownBlock = o1 at *
        generalize (Value.slice a21 L21 c21).ownBlock = o2 at *
        refine List.nodup_cons.2 ⟨fun h => ?_, List.nodup_append.2 ⟨by cases o1 <;> simp, List.nodup_append.2 ⟨by cases o2 <;> simp, hK.1, fun a ha b hb e => ?_⟩, fun a ha b hb e => ?_⟩⟩
        · simp only [List.mem_append, Option.mem_toList] at h
          rcases h with h | h | h
          · have := (x11 _ h).2; omega
          · have := (x21 _ h).2; omega
          · have := hK.2 _ h; omega
        · have := (x21 a (by simpa using ha)).1
          have := hK.2 b hb
          omega
        · have ha := (Option.mem_toList.1 ha)
          rcases List.mem_append.1 hb with hb | hb
          · have hb := Option.mem_toList.1 hb
            rw [← e] at hb
            exact hap a ha hb
          · have := (x11 a ha).1
            have := hK.2 b hb
            omega
      · intro x hx
        simp only [List.mem_cons, List.mem_append, Option.mem_toList] at hx
        rcases hx with rfl | hx | hx | hx
        · right; omega
        · right; have := (f11.lt x hx).1; omega
        · right; have := (f21.lt x hx).1; omega
        · left; exact HIN.out x hx)
    clear f11 f21 hap h11 h21 hbx zx hst
    go_wp2_with fail
    go_ret
    obtain ⟨q, G, g0, g1, g2, g3, g4⟩ := HG.out _ rfl
    exact ⟨q, G, congrArg Ending.returned g0, g1, g2, g3, g4⟩
end Go.Proofs.Ytopgakdgifmecaa

/-! CONTRACT of package tree's fillKid. CONDITIONS: each theorem's own hypotheses. -/
namespace Go.Proofs.Ytopgakdgifmecaa
open Go.RowKit
set_option linter.unusedVariables false
set_option maxRecDepth 100000

theorem OwnK.put {w : World} {base g n cap : Nat} {l : List Nat} (hn : l.length = n) (h : OwnK w base (.slice (some ⟨g, 0, none⟩) n cap) l) (j q : Nat) : OwnK (w.setCell ⟨g, j, none⟩ (ptrV q)) base (.slice (some ⟨g, 0, none⟩) n cap) (l.set j q) := by
  subst hn
  unfold OwnK at h ⊢
  rw [List.length_set, List.map_set]
  exact (h.stored j (ptrV q)).1
theorem OwnK.free {w : World} {base g n cap : Nat} {l : List Nat} (h : OwnK w base (.slice (some ⟨g, 0, none⟩) n cap) l) (j : Nat) : w.frozen? ⟨g, j, none⟩ = false := by
  rcases h.2 with ⟨h', _⟩ | ⟨g', cp, cur, hv, hB, hh, _⟩
  · cases h'
  · simp only [Value.slice.injEq, Option.some.injEq, Addr.mk.injEq] at hv
    obtain ⟨⟨rfl, -⟩, -⟩ := hv
    exact frozen_of_row w g j cur _ hh
theorem fill_nodup (p ge gk : Nat) (oE' oK' : Option Nat) (A G B FL : List Nat) (n n5 n7 : Nat) (h : (p :: ([ge] ++ ([gk] ++ (A ++ (G ++ B))))).Nodup) (hlt : ∀ b ∈ p :: ([ge] ++ ([gk] ++ (A ++ (G ++ B)))), b < n) (hF : FL.Nodup) (hFG : ∀ b ∈ FL, b ∈ G ∨ n ≤ b) (hF5 : ∀ b ∈ FL, b < n5) (hn : n ≤ n5) (h57 : n5 ≤ n7)
    (hK : ∀ b, oK' = some b → some gk = some b ∨ n5 ≤ b) (hK7 : ∀ b, oK' = some b → b < n7) (hE : ∀ b, oE' = some b → some ge = some b ∨ n7 ≤ b) : (p :: (oE'.toList ++ (oK'.toList ++ (A ++ (FL ++ B))))).Nodup ∧ ∀ b ∈ p :: (oE'.toList ++ (oK'.toList ++ (A ++ (FL ++ B)))), b ∈ p :: ([ge] ++ ([gk] ++ (A ++ (G ++ B)))) ∨ n ≤ b := by
  simp only [List.nodup_cons, List.nodup_append, List.mem_append, List.mem_cons, Option.mem_toList, List.not_mem_nil, or_false] at h hlt ⊢
  cases oE' <;> cases oK' <;> grind
theorem set_del : ∀ (ps : List Nat) (j q : Nat), j + 1 < ps.length → delL (j + 1) (ps.set j q) = ps.take j ++ q :: ps.drop (j + 2)
  | [], j, q, h => by simp at h
  | a :: ps, 0, q, h => rfl
  | a :: ps, j + 1, q, h => by
    have ih := set_del ps j q (by simp at h; omega)
    show a :: delL (j + 1) (ps.set j q) = a :: (ps.take j ++ q :: ps.drop (j + 2))
    rw [ih]
def FlF (n0 p gk ge jx j1 E C ce ck qa qb : Nat) (sk : List UInt8) (y : Int) (tj : Tr) (G12 : List Nat) : Nat → Value → World → Prop
  | 0, v, _ => v = .pointer (some ⟨p, 0, none⟩)
  | 1, v, _ => v = .pointer (some ⟨p, 0, none⟩)
  | 2, v, _ => v = .pointer (some ⟨p, 1, none⟩)
  | 3, v, _ => v = .slice (some ⟨gk, 0, none⟩) C ck
  | 4, v, _ => v = .int .i64 (jx : Int)
  | 5, v, _ => v = .pointer (some ⟨p, 0, none⟩)
  | 6, v, _ => v = .pointer (some ⟨p, 0, none⟩)
  | 7, v, _ => v = .pointer (some ⟨p, 1, none⟩)
  | 8, v, _ => v = .slice (some ⟨gk, 0, none⟩) C ck
  | 9, v, _ => v = .int .i64 (jx : Int)
  | 10, v, _ => v = .pointer (some ⟨gk, jx, none⟩)
  | 11, v, _ => v = ptrV qa
  | 12, v, _ => v = .pointer (some ⟨p, 0, none⟩)
  | 13, v, _ => v = .pointer (some ⟨p, 0, none⟩)
  | 14, v, _ => v = .pointer (some ⟨p, 0, none⟩)
  | 15, v, _ => v = .slice (some ⟨ge, 0, none⟩) E ce
  | 16, v, _ => v = .int .i64 (jx : Int)
  | 17, v, _ => v = .pointer (some ⟨ge, jx * 2, none⟩)
  | 18, v, _ => v = .agg #[.string (str sk), .int .i64 y]
  | 19, v, _ => v = .pointer (some ⟨p, 0, none⟩)
  | 20, v, _ => v = .pointer (some ⟨p, 0, none⟩)
  | 21, v, _ => v = .pointer (some ⟨p, 1, none⟩)
  | 22, v, _ => v = .slice (some ⟨gk, 0, none⟩) C ck
  | 23, v, _ => v = .int .i64 (jx : Int)
  | 24, v, _ => v = .int .i64 (j1 : Int)
  | 25, v, _ => v = .pointer (some ⟨gk, j1, none⟩)
  | 26, v, _ => v = ptrV qb
  | 27, v, w => ∃ qn G, v = .pointer (some ⟨qn, 0, none⟩) ∧ NdT w tj qn G ∧ G.Nodup ∧ (∀ x ∈ G, x ∈ G12 ∨ n0 ≤ x)
  | _, _, _ => True
theorem flF_keep {n0 p gk ge jx j1 E C ce ck qa qb : Nat} {sk : List UInt8} {y : Int} {tj : Tr} {G12 : List Nat} (i : Nat) (v : Value) (w w' : World) (h : FlF n0 p gk ge jx j1 E C ce ck qa qb sk y tj G12 i v w) (he : Below w.heap.size w w') : FlF n0 p gk ge jx j1 E C ce ck qa qb sk y tj G12 i v w' := by
  unfold FlF at *
  split at h <;> (try exact h) <;> (try exact trivial)
  · obtain ⟨qn, G, h1, h2, h3⟩ := h; exact ⟨qn, G, h1, h2.below he, h3⟩
set_option maxHeartbeats 16000000 in
theorem fillKid_none (es : List En) (ks : List Tr) (ix : Nat) (k : Tr) (p : Nat) (F : List Nat) (w : World) (h : NdT w (.mk es ks) p F) (hnd : F.Nodup) (hk : ks[ix]? = some k) (h0 : k.es.length = 0) (hlen : ks.length = es.length + 1) (h1 : 1 ≤ es.length) (hl : es.length ≤ 20) (h3 : ∀ x ∈ ks, x.es.length ≤ 3) (hu : (∀ x ∈ ks, x.ks = []) ∨ (∀ x ∈ ks, x.ks.length = x.es.length + 1)) :
    Calls Try.prog 64 #[.pointer (some ⟨p, 0, none⟩), .int .i64 (ix : Int)] w (PutPost (fillK es ks ix) p F w) := by
  obtain ⟨jx, hjx⟩ : ∃ j, ix - 1 = j := ⟨_, rfl⟩
  have hik := (List.getElem?_eq_some_iff.1 hk).1
  have hj1 : jx + 1 < ks.length := by omega
  obtain ⟨a, ha⟩ : ∃ a, ks[jx]? = some a := ⟨_, List.getElem?_eq_getElem (by omega)⟩
  obtain ⟨b, hb⟩ : ∃ b, ks[jx + 1]? = some b := ⟨_, List.getElem?_eq_getElem hj1⟩
  obtain ⟨⟨sk, y⟩, he⟩ : ∃ e, es[jx]? = some e := ⟨_, List.getElem?_eq_getElem (by omega)⟩
  have hfill : fillK es ks ix = partK (delL jx es) (ks.take jx ++ joinT a (sk, y) b :: ks.drop (jx + 2)) jx := by
    unfold fillK
    rw [hk]
    simp only
    rw [if_neg (by omega), hjx, ha, he, hb]
  have hma := List.mem_of_getElem? ha
  have hmb := List.mem_of_getElem? hb
  have ha3 := h3 a hma
  have hb3 := h3 b hmb
  have hsum : a.es.length + b.es.length ≤ 3 := by
    by_cases hz : ix = 0
    · have hji : jx = ix := by omega
      rw [hji, hk] at ha
      have := Option.some.inj ha
      rw [← this, h0]; omega
    · have hji : jx + 1 = ix := by omega
      rw [hji, hk] at hb
      have := Option.some.inj hb
      rw [← this, h0]; omega
  obtain ⟨esa, ksa⟩ := a
  obtain ⟨esb, ksb⟩ := b
  simp only [Tr.es] at ha3 hb3 hsum
  obtain ⟨tj, htj⟩ : ∃ t, joinT (.mk esa ksa) (sk, y) (.mk esb ksb) = t := ⟨_, rfl⟩
  have htl : tj.es.length ≤ 4 := by
    rw [← htj]; simp only [joinT, Tr.es, List.length_append, List.length_cons]; omega
  have htk : tj.ks = [] ∨ tj.ks.length = tj.es.length + 1 := by
    rw [← htj]; simp only [joinT, Tr.es, Tr.ks, List.length_append, List.length_cons]
    rcases hu with hu | hu
    · left
      have e1 := hu _ hma
      have e2 := hu _ hmb
      simp only [Tr.ks] at e1 e2
      rw [e1, e2]; rfl
    · right
      have e1 := hu _ hma
      have e2 := hu _ hmb
      simp only [Tr.ks, Tr.es] at e1 e2
      omega
  have hkl : ksa.length ≤ 20 ∧ ksb.length ≤ 20 := by
    rcases hu with hu | hu
    · have e1 := hu _ hma
      have e2 := hu _ hmb
      simp only [Tr.ks] at e1 e2
      rw [e1, e2]; simp
    · have e1 := hu _ hma
      have e2 := hu _ hmb
      simp only [Tr.ks, Tr.es] at e1 e2
      omega
  rw [hfill, htj]
  simp only [NdT] at h
  obtain ⟨vE, vK, ps, Fk, hB, hE, hK, hL, rfl⟩ := h
  have hF : ∀ b ∈ p :: (vE.ownBlock.toList ++ (vK.ownBlock.toList ++ Fk)), b < w.heap.size := fun b hb => by
    simp only [List.mem_cons, List.mem_append, Option.mem_toList] at hb
    rcases hb with rfl | hb | hb | hb
    · exact hB.lt
    · exact (hE.lt b hb).2
    · exact (hK.lt b hb).2
    · exact hL.lt b hb
  have hpl := NdL.len hL
  obtain ⟨qk, Gk, hqk, hNk, -⟩ := hL.at hk
  obtain ⟨qa, A, G1, B1, hqa, rfl, hA, hG1, hR⟩ := hL.split ha
  have hb' : (ks.drop (jx + 1))[0]? = some (Tr.mk esb ksb) := by rw [List.getElem?_drop]; exact hb
  obtain ⟨qb, A2, G2, B, hqb, rfl, hA2, hG2, hR2⟩ := hR.split hb'
  have hA2 : A2 = [] := by simpa [NdL] using hA2
  subst hA2
  rw [List.drop_drop, List.drop_drop] at hR2
  have hR2 : NdL w (ks.drop (jx + 2)) (ps.drop (jx + 2)) B := hR2
  rw [List.getElem?_drop] at hqb
  have hqb : ps[jx + 1]? = some qb := hqb
  rw [show A ++ (G1 ++ ([] ++ (G2 ++ B))) = A ++ ((G1 ++ G2) ++ B) by simp] at hnd hF ⊢
  have hGn : (G1 ++ G2).Nodup := List.Sublist.nodup (((((List.sublist_append_left (G1 ++ G2) B).trans (List.sublist_append_right A _)).trans (List.sublist_append_right _ _)).trans (List.sublist_append_right _ _)).trans (List.sublist_cons_self _ _)) hnd
  obtain ⟨ae, ce, rfl, -, -, -, -⟩ := owns_shape hE
  obtain ⟨ak, ck, rfl, -, -, -, -⟩ := owns_shape hK
  obtain ⟨gk, rfl, hgl, -, hga⟩ := hK.cell hqa
  obtain ⟨gk', e', -, -, hgb⟩ := hK.cell hqb
  simp only [Option.some.injEq, Addr.mk.injEq] at e'
  obtain ⟨rfl, -⟩ := e'
  obtain ⟨gk', e', -, -, hgq⟩ := hK.cell hqk
  simp only [Option.some.injEq, Addr.mk.injEq] at e'
  obtain ⟨rfl, -⟩ := e'
  obtain ⟨ge, rfl, hgel, -, hge1, hge2⟩ := hE.cell he
  obtain ⟨ek, kk⟩ := k
  obtain ⟨ae', ak', ce', ck', hBk, -, -, -, -, -⟩ := hNk.open
  simp only [Tr.es] at h0
  have n0 := hBk.cell (j := 0) rfl
  rw [h0] at n0
  have n1 := hB.cell (j := 1) rfl
  obtain ⟨j1, hj⟩ : ∃ j1, jx + 1 = j1 := ⟨_, rfl⟩
  rw [hj] at hgb
  obtain ⟨E, hEE⟩ : ∃ E, es.length = E := ⟨_, rfl⟩
  obtain ⟨C, hCC⟩ : ∃ C, ps.length = C := ⟨_, rfl⟩
  obtain ⟨G12, hG12⟩ : ∃ G, G1 ++ G2 = G := ⟨_, rfl⟩
  have HCJ : Hid (∀ W, Below w.heap.size w W → Calls Try.prog 71 #[.pointer (some ⟨qa, 0, none⟩), .agg #[.string (str sk), .int .i64 y], .pointer (some ⟨qb, 0, none⟩)] W fun e w' => ∃ q G, e = .returned (.pointer (some ⟨q, 0, none⟩)) ∧ NdT w' tj q G ∧ G.Nodup ∧ (∀ x ∈ G, x ∈ G12 ∨ w.heap.size ≤ x) ∧ Below W.heap.size W w') := Lib.hid (fun W hW => by
    refine (joined_any esa esb ksa ksb sk y qa qb G1 G2 W (hG1.below hW) (hG2.below hW) hGn (by omega) (by omega) hkl.1 hkl.2).mono ?_
    rintro e w' ⟨q, G, rfl, g1, g2, g3, g4⟩
    rw [htj] at g1
    exact ⟨q, G, rfl, g1, g2, fun x hx => by
      rw [← hG12]
      have := hW.size
      exact (g3 x hx).imp id (fun h => by omega), g4⟩)
  rw [hEE, hCC, hG12] at hnd hF ⊢
  rw [hEE, hCC] at hB
  rw [hCC] at hK n1
  rw [hEE] at hE
  have HN : Hid (∀ W, Below w.heap.size w W → W.cell? ⟨p, 0, none⟩ = some (.slice (some ⟨ge, 0, none⟩) E ce) ∧ W.cell? ⟨p, 1, none⟩ = some (.slice (some ⟨gk, 0, none⟩) C ck) ∧ W.cell? ⟨gk, jx, none⟩ = some (ptrV qa) ∧ W.cell? ⟨gk, j1, none⟩ = some (ptrV qb) ∧ W.cell? ⟨ge, jx * 2, none⟩ = some (.string (str sk)) ∧ W.cell? ⟨ge, jx * 2 + 1, none⟩ = some (.int .i64 y)) := Lib.hid (fun W hW => by
    have h1 := hB.keep hW hB.lt
    exact ⟨h1.cell (j := 0) rfl, h1.cell (j := 1) rfl, (hW.cell (p := ⟨gk, _, none⟩) hgl).trans hga, (hW.cell (p := ⟨gk, _, none⟩) hgl).trans hgb, (hW.cell (p := ⟨ge, _, none⟩) hgel).trans hge1, (hW.cell (p := ⟨ge, _, none⟩) hgel).trans hge2⟩)
  have hCI : (jx : Int) + 1 = (j1 : Int) := by omega
  have hw1 : IntKind.i64.wrap (j1 : Int) = (j1 : Int) := by rw [IntKind.wrap_i64] <;> omega
  have hmax : max ((ix : Int) - 1) 0 = (jx : Int) := by omega
  have ixC : (ix : Int) < (C : Int) := by omega
  have ix0 : (0 : Int) ≤ (ix : Int) := by omega
  have ixs : (ix : Int) ≤ 100 := by omega
  have jxC : (jx : Int) < (C : Int) := by omega
  have j1C : (j1 : Int) < (C : Int) := by omega
  have jx0 : (0 : Int) ≤ (jx : Int) := by omega
  have j10 : (0 : Int) ≤ (j1 : Int) := by omega
  have jxE : (jx : Int) < (E : Int) := by omega
  have jxs : (jx : Int) ≤ 100 := by omega
  have HB := Lib.hid hB
  have HE := Lib.hid hE
  have HK := Lib.hid hK
  have HA := Lib.hid hA
  have HR := Lib.hid hR2
  have HF := Lib.hid hF
  have HND := Lib.hid hnd
  have HTJ : Hid (tj.es.length ≤ 4 ∧ (tj.ks = [] ∨ tj.ks.length = tj.es.length + 1)) := Lib.hid ⟨htl, htk⟩
  have HJ : Hid (jx + 1 = j1 ∧ es.length = E ∧ ps.length = C ∧ C = E + 1 ∧ ks.length = C ∧ j1 < C ∧ E ≤ 20) := Lib.hid ⟨hj, hEE, hCC, by omega, by omega, by omega, by omega⟩
  have HJJ : Hid (1 < 2) := Lib.hid (by decide)
  clear hB hE hK hL hA hR hR2 hF hnd htl htk hj hEE hCC hG12 hGn hkl hG1 hG2 hNk hBk hb' hqa hqb hqk hgl hga hgb hgel hge1 hge2 h0 hlen h1 hl h3 hu hjx hik hj1 ha hb he hfill hma hmb ha3 hb3 hsum htj hk hpl
  go_enter Try.func64, Try.ntmps64
  go_upto_region 2 with fail
  clear n0 n1 hgq
  refine wp_region_facts' 28 (by kernel_rfl) (by kernel_rfl) (FlF w.heap.size p gk ge jx j1 E C ce ck qa qb sk y tj G12) (fun W => Below w.heap.size w W) (fun W W' => Below W.heap.size W W') ?hC ?hF ?h0 ?hstep ?hdone
  case hC => exact fun W W' hc he => below_stepE hc hc.size he
  case hF => exact flF_keep
  case h0 => exact (Below.refl _ _).drew
  case hstep =>
    intro i hi vs act W K ha' hc hd hu hK
    simp only [fillF, Act.put, List.take_succ_cons, List.take_zero, List.setIfInBounds_toArray, List.set_cons_zero, List.set_cons_succ] at ha'
    subst ha'
    clear hu
    rcases (show i = 0 ∨ i = 1 ∨ i = 2 ∨ i = 3 ∨ i = 4 ∨ i = 5 ∨ i = 6 ∨ i = 7 ∨ i = 8 ∨ i = 9 ∨ i = 10 ∨ i = 11 ∨ i = 12 ∨ i = 13 ∨ i = 14 ∨ i = 15 ∨ i = 16 ∨ i = 17 ∨ i = 18 ∨ i = 19 ∨ i = 20 ∨ i = 21 ∨ i = 22 ∨ i = 23 ∨ i = 24 ∨ i = 25 ∨ i = 26 ∨ i = 27 by omega) with rfl | rfl | rfl | rfl | rfl | rfl | rfl | rfl | rfl | rfl | rfl | rfl | rfl | rfl | rfl | rfl | rfl | rfl | rfl | rfl | rfl | rfl | rfl | rfl | rfl | rfl | rfl | rfl
    · refine wpOp_step rfl (fun K' hK' => ?_)
      go_simp
      exact hK' _ _ (hK _ _ rfl (Below.refl _ _))
    · have e0 : vs 0 = .pointer (some ⟨p, 0, none⟩) := hd 0 (by kernel_rfl)
      simp only [e0] at hK ⊢
      refine wpOp_step rfl (fun K' hK' => ?_)
      go_simp
      exact hK' _ _ (hK _ _ rfl (Below.refl _ _))
    · have e1 : vs 1 = .pointer (some ⟨p, 0, none⟩) := hd 1 (by kernel_rfl)
      simp only [e1] at hK ⊢
      refine wpOp_step rfl (fun K' hK' => ?_)
      go_simp
      exact hK' _ _ (hK _ _ rfl (Below.refl _ _))
    · have e2 : vs 2 = .pointer (some ⟨p, 1, none⟩) := hd 2 (by kernel_rfl)
      simp only [e2] at hK ⊢
      obtain ⟨q0, q1, q2, q3, q4, q5⟩ := HN.out W hc
      refine wpOp_step rfl (fun K' hK' => ?_)
      go_simp
      exact hK' _ _ (hK _ _ rfl (Below.refl _ _))
    · refine wpOp_step rfl (fun K' hK' => ?_)
      go_simp
      exact hK' _ _ (hK _ _ rfl (Below.refl _ _))
    · refine wpOp_step rfl (fun K' hK' => ?_)
      go_simp
      exact hK' _ _ (hK _ _ rfl (Below.refl _ _))
    · have e5 : vs 5 = .pointer (some ⟨p, 0, none⟩) := hd 5 (by kernel_rfl)
      simp only [e5] at hK ⊢
      refine wpOp_step rfl (fun K' hK' => ?_)
      go_simp
      exact hK' _ _ (hK _ _ rfl (Below.refl _ _))
    · have e6 : vs 6 = .pointer (some ⟨p, 0, none⟩) := hd 6 (by kernel_rfl)
      simp only [e6] at hK ⊢
      refine wpOp_step rfl (fun K' hK' => ?_)
      go_simp
      exact hK' _ _ (hK _ _ rfl (Below.refl _ _))
    · have e7 : vs 7 = .pointer (some ⟨p, 1, none⟩) := hd 7 (by kernel_rfl)
      simp only [e7] at hK ⊢
      obtain ⟨q0, q1, q2, q3, q4, q5⟩ := HN.out W hc
      refine wpOp_step rfl (fun K' hK' => ?_)
      go_simp
      exact hK' _ _ (hK _ _ rfl (Below.refl _ _))
    · refine wpOp_step rfl (fun K' hK' => ?_)
      go_simp
      exact hK' _ _ (hK _ _ rfl (Below.refl _ _))
    · have e8 : vs 8 = .slice (some ⟨gk, 0, none⟩) C ck := hd 8 (by kernel_rfl)
      have e9 : vs 9 = .int .i64 (jx : Int) := hd 9 (by kernel_rfl)
      simp only [e8, e9] at hK ⊢
      refine wpOp_step rfl (fun K' hK' => ?_)
      go_simp
      exact hK' _ _ (hK _ _ rfl (Below.refl _ _))
    · have e10 : vs 10 = .pointer (some ⟨gk, jx, none⟩) := hd 10 (by kernel_rfl)
      simp only [e10] at hK ⊢
      obtain ⟨q0, q1, q2, q3, q4, q5⟩ := HN.out W hc
      refine wpOp_step rfl (fun K' hK' => ?_)
      go_simp
      exact hK' _ _ (hK _ _ rfl (Below.refl _ _))
    · refine wpOp_step rfl (fun K' hK' => ?_)
      go_simp
      exact hK' _ _ (hK _ _ rfl (Below.refl _ _))
    · have e12 : vs 12 = .pointer (some ⟨p, 0, none⟩) := hd 12 (by kernel_rfl)
      simp only [e12] at hK ⊢
      refine wpOp_step rfl (fun K' hK' => ?_)
      go_simp
      exact hK' _ _ (hK _ _ rfl (Below.refl _ _))
    · have e13 : vs 13 = .pointer (some ⟨p, 0, none⟩) := hd 13 (by kernel_rfl)
      simp only [e13] at hK ⊢
      refine wpOp_step rfl (fun K' hK' => ?_)
      go_simp
      exact hK' _ _ (hK _ _ rfl (Below.refl _ _))
    · have e14 : vs 14 = .pointer (some ⟨p, 0, none⟩) := hd 14 (by kernel_rfl)
      simp only [e14] at hK ⊢
      obtain ⟨q0, q1, q2, q3, q4, q5⟩ := HN.out W hc
      refine wpOp_step rfl (fun K' hK' => ?_)
      go_simp
      exact hK' _ _ (hK _ _ rfl (Below.refl _ _))
    · refine wpOp_step rfl (fun K' hK' => ?_)
      go_simp
      exact hK' _ _ (hK _ _ rfl (Below.refl _ _))
    · have e15 : vs 15 = .slice (some ⟨ge, 0, none⟩) E ce := hd 15 (by kernel_rfl)
      have e16 : vs 16 = .int .i64 (jx : Int) := hd 16 (by kernel_rfl)
      simp only [e15, e16] at hK ⊢
      refine wpOp_step rfl (fun K' hK' => ?_)
      go_simp
      exact hK' _ _ (hK _ _ rfl (Below.refl _ _))
    · have e17 : vs 17 = .pointer (some ⟨ge, jx * 2, none⟩) := hd 17 (by kernel_rfl)
      simp only [e17] at hK ⊢
      obtain ⟨q0, q1, q2, q3, q4, q5⟩ := HN.out W hc
      refine wpOp_step rfl (fun K' hK' => ?_)
      go_simp
      exact hK' _ _ (hK _ _ rfl (Below.refl _ _))
    · refine wpOp_step rfl (fun K' hK' => ?_)
      go_simp
      exact hK' _ _ (hK _ _ rfl (Below.refl _ _))
    · have e19 : vs 19 = .pointer (some ⟨p, 0, none⟩) := hd 19 (by kernel_rfl)
      simp only [e19] at hK ⊢
      refine wpOp_step rfl (fun K' hK' => ?_)
      go_simp
      exact hK' _ _ (hK _ _ rfl (Below.refl _ _))
    · have e20 : vs 20 = .pointer (some ⟨p, 0, none⟩) := hd 20 (by kernel_rfl)
      simp only [e20] at hK ⊢
      refine wpOp_step rfl (fun K' hK' => ?_)
      go_simp
      exact hK' _ _ (hK _ _ rfl (Below.refl _ _))
    · have e21 : vs 21 = .pointer (some ⟨p, 1, none⟩) := hd 21 (by kernel_rfl)
      simp only [e21] at hK ⊢
      obtain ⟨q0, q1, q2, q3, q4, q5⟩ := HN.out W hc
      refine wpOp_step rfl (fun K' hK' => ?_)
      go_simp
      exact hK' _ _ (hK _ _ rfl (Below.refl _ _))
    · refine wpOp_step rfl (fun K' hK' => ?_)
      go_simp
      exact hK' _ _ (hK _ _ rfl (Below.refl _ _))
    · have e23 : vs 23 = .int .i64 (jx : Int) := hd 23 (by kernel_rfl)
      simp only [e23] at hK ⊢
      refine wpOp_step rfl (fun K' hK' => ?_)
      go_simp
      exact hK' _ _ (hK _ _ (by show _ = _; first | rfl | rw [hw1]) (Below.refl _ _))
    · have e22 : vs 22 = .slice (some ⟨gk, 0, none⟩) C ck := hd 22 (by kernel_rfl)
      have e24 : vs 24 = .int .i64 (j1 : Int) := hd 24 (by kernel_rfl)
      simp only [e22, e24] at hK ⊢
      refine wpOp_step rfl (fun K' hK' => ?_)
      go_simp
      exact hK' _ _ (hK _ _ rfl (Below.refl _ _))
    · have e25 : vs 25 = .pointer (some ⟨gk, j1, none⟩) := hd 25 (by kernel_rfl)
      simp only [e25] at hK ⊢
      obtain ⟨q0, q1, q2, q3, q4, q5⟩ := HN.out W hc
      refine wpOp_step rfl (fun K' hK' => ?_)
      go_simp
      exact hK' _ _ (hK _ _ rfl (Below.refl _ _))
    · have e11 : vs 11 = ptrV qa := hd 11 (by kernel_rfl)
      have e18 : vs 18 = .agg #[.string (str sk), .int .i64 y] := hd 18 (by kernel_rfl)
      have e26 : vs 26 = ptrV qb := hd 26 (by kernel_rfl)
      simp only [e11, e18, e26] at hK ⊢
      refine wpOp_step rfl (fun K' hK' => ?_)
      go_simp
      refine (HCJ.out W hc).mono ?_
      rintro e w' ⟨qn, G, rfl, h1, h2, h3, hb⟩
      exact hK' _ _ (hK _ _ ⟨qn, G, rfl, h1, h2, h3⟩ hb)
  case hdone =>
    intro vs act W4 ha' hst hfs
    simp only [fillF, Act.put, List.take_succ_cons, List.take_zero, List.drop_succ_cons, List.drop_zero, List.setIfInBounds_toArray, List.set_cons_zero, List.set_cons_succ] at ha' ⊢
    subst ha'
    have f3 : vs 3 = .slice (some ⟨gk, 0, none⟩) C ck := hfs 3 (by decide)
    have f4 : vs 4 = .int .i64 (jx : Int) := hfs 4 (by decide)
    obtain ⟨qn, Gn, f27, hN4, hGn4, hGi4⟩ : FlF w.heap.size p gk ge jx j1 E C ce ck qa qb sk y tj G12 27 (vs 27) W4 := hfs 27 (by decide)
    simp only [Nat.zero_add, Nat.reduceAdd, f3, f4, f27]
    clear hfs f3 f4 f27
    have hK4 := HK.out.keep hst
    have q0 := (HN.out W4 hst).2.2.1
    have q2 := hK4.free jx
    obtain ⟨W5, hW5⟩ : ∃ W, W4.setCell ⟨gk, jx, none⟩ (.pointer (some ⟨qn, 0, none⟩)) = W := ⟨_, rfl⟩
    have HW5 := Lib.hid hW5
    have hc5 : Chg [gk] W4 W5 := by rw [← hW5]; exact Chg.setCell _ _ (by simp)
    have hK5 : OwnK W5 0 (.slice (some ⟨gk, 0, none⟩) C ck) (ps.set jx qn) := by rw [← hW5]; exact hK4.put HJ.out.2.2.1 jx qn
    have HB4 := Lib.hid hst
    have HC5 := Lib.hid hc5
    have HK5 := Lib.hid hK5
    have HN4 := Lib.hid hN4
    have HG4 := Lib.hid (And.intro hGn4 hGi4)
    clear hst hK4 hN4 hGn4 hGi4 hW5 hc5 hK5
    go_upto_region 3 with fail
    rw [HW5.out]
    clear q0 q2
    obtain ⟨hj, hEE, hCC, hCE, hkC, hj1C, hE20⟩ := HJ.out
    have HND2 : Hid ((p :: ([ge] ++ ([gk] ++ (A ++ (G12 ++ B))))).Nodup) := Lib.hid HND.out
    have HF2 : Hid (∀ b ∈ p :: ([ge] ++ ([gk] ++ (A ++ (G12 ++ B)))), b < w.heap.size) := Lib.hid HF.out
    obtain ⟨⟨dp1, dp2⟩, dek, dL⟩ := nd_apart p (some ge) (some gk) (A ++ (G12 ++ B)) HND2.out
    have dge : ge ≠ p := fun h => dp1 (by rw [h])
    have dgk : gk ≠ p := fun h => dp2 (by rw [h])
    have dkk : ge ≠ gk := fun h => dek ge rfl (by rw [h])
    have HD : Hid (ge ≠ p ∧ gk ≠ p ∧ ge ≠ gk ∧ ∀ x ∈ A ++ (G12 ++ B), x ≠ p ∧ ge ≠ x ∧ gk ≠ x) := Lib.hid ⟨dge, dgk, dkk, fun x hx => ⟨(dL x hx).1, fun h => (dL x hx).2.1 (by rw [h]), fun h => (dL x hx).2.2 (by rw [h])⟩⟩
    have hB5 := (HB.out.keep HB4.out HB.out.lt).same (HC5.out.block p (HB.out.keep HB4.out HB.out.lt).lt (by simp; exact fun h => dgk h.symm))
    have q1 := hB5.cell (j := 1) rfl
    obtain ⟨j2, hj2⟩ : ∃ j2, j1 + 1 = j2 := ⟨_, rfl⟩
    have hCI2 : (jx : Int) + 2 = (j2 : Int) := by omega
    have hw2 : IntKind.i64.wrap (j2 : Int) = (j2 : Int) := by rw [IntKind.wrap_i64] <;> omega
    have cK := deleteK_any _ _ j1 j2 W5 (by rw [List.length_set]; omega) (by rw [List.length_set]; omega) hj2 HK5.out
    rw [← hj, set_del ps jx qn (by omega), hj] at cK
    obtain ⟨psn, hpsn⟩ : ∃ l, ps.take jx ++ qn :: ps.drop (jx + 2) = l := ⟨_, rfl⟩
    rw [hpsn] at cK
    have HPSN := Lib.hid hpsn
    have HB5 := Lib.hid hB5
    clear hj hEE hCC hCE hkC hj1C hE20 dp1 dp2 dek dL dge dgk dkk hB5 hj2 hpsn
    go_wp2_with fail
    refine cK.mono ?_
    rintro e W6 ⟨v6, rfl, ho6, hr6⟩
    clear cK q1
    obtain ⟨a6, c6, e6, -, -, -, -⟩ := owns_shape ho6
    obtain ⟨L6, hL6⟩ : ∃ L, psn.length = L := ⟨_, rfl⟩
    rw [hL6] at e6
    subst e6
    have hc6 : Chg [gk] W5 W6 := .ofGrown _ hr6.grown (fun b hb => by
      have : some gk = some b := hb
      simp at this; simp [this])
    have hB6 := HB5.out.same (hc6.block p HB5.out.lt (by simp; exact fun h => HD.out.2.1 h.symm))
    have q3 := hB6.cell (j := 1) rfl
    have q4 := hB6.free 1
    obtain ⟨W7, hW7⟩ : ∃ W, W6.setCell ⟨p, 1, none⟩ (.slice a6 L6 c6) = W := ⟨_, rfl⟩
    have HW7 := Lib.hid hW7
    have hc7 : Chg [p] W6 W7 := by rw [← hW7]; exact Chg.setCell _ _ (by simp)
    have hB7 := hB6.set 1 (.slice a6 L6 c6)
    rw [hW7] at hB7
    have HB7 : Hid (Blk W7 p 83 [.slice (some ⟨ge, 0, none⟩) E ce, .slice a6 L6 c6]) := Lib.hid hB7
    have HO6 := Lib.hid ho6
    have HR6 := Lib.hid hr6
    have HC6 := Lib.hid hc6
    have HC7 := Lib.hid hc7
    clear ho6 hr6 hc6 hB6 hW7 hc7 hB7 hL6
    go_upto_region 4 with fail
    rw [HW7.out]
    clear q3 q4
    have q5 := HB7.out.cell (j := 0) rfl
    have hE7 : OwnE W7 0 (.slice (some ⟨ge, 0, none⟩) E ce) es := by
      have c47 : Chg [p, gk] W4 W7 := ((HC5.out.mono (G := [p, gk]) (by simp)).trans (HC6.out.mono (G := [p, gk]) (by simp)) (fun x h => .inl h)).trans HC7.out (fun x hx => .inl (by simp at hx; simp [hx]))
      have hE4 := HE.out.keep HB4.out
      exact owns_same hE4 (fun b e => c47.block b (hE4.lt b e).2 (by
        have : some ge = some b := e
        obtain rfl := Option.some.inj this
        simp only [List.mem_cons, List.not_mem_nil, or_false, not_or]
        exact ⟨HD.out.1, HD.out.2.2.1⟩))
    have cE := deleteE_any _ _ jx j1 W7 (by have := HJ.out; omega) (by have := HJ.out; omega) HJ.out.1 hE7
    obtain ⟨esn, hesn⟩ : ∃ l, delL jx es = l := ⟨_, rfl⟩
    rw [hesn] at cE
    have HESN := Lib.hid hesn
    clear hE7 hesn
    go_wp2_with fail
    refine cE.mono ?_
    rintro e W8 ⟨v8, rfl, ho8, hr8⟩
    clear cE q5
    obtain ⟨a8, c8, e8, -, -, -, -⟩ := owns_shape ho8
    obtain ⟨L8, hL8⟩ : ∃ L, esn.length = L := ⟨_, rfl⟩
    rw [hL8] at e8
    subst e8
    have hc8 : Chg [ge] W7 W8 := .ofGrown _ hr8.grown (fun b hb => by
      have : some ge = some b := hb
      simp at this; simp [this])
    have hB8 := HB7.out.same (hc8.block p HB7.out.lt (by simp; exact fun h => HD.out.1 h.symm))
    have q3 := hB8.cell (j := 0) rfl
    have q4 := hB8.free 0
    obtain ⟨W9, hW9⟩ : ∃ W, W8.setCell ⟨p, 0, none⟩ (.slice a8 L8 c8) = W := ⟨_, rfl⟩
    have HW9 := Lib.hid hW9
    have hc9 : Chg [p] W8 W9 := by rw [← hW9]; exact Chg.setCell _ _ (by simp)
    have hB9 := hB8.set 0 (.slice a8 L8 c8)
    rw [hW9] at hB9
    have hB9 : Blk W9 p 83 [.slice a8 L8 c8, .slice a6 L6 c6] := hB9
    obtain ⟨FL, hFL⟩ : ∃ F, p :: ([ge] ++ ([gk] ++ (A ++ (G12 ++ B)))) = F := ⟨_, rfl⟩
    obtain ⟨F9, hF9⟩ : ∃ F, p :: ((Value.slice a8 L8 c8).ownBlock.toList ++ ((Value.slice a6 L6 c6).ownBlock.toList ++ (A ++ (Gn ++ B)))) = F := ⟨_, rfl⟩
    have HALL : Hid (NdT W9 (.mk esn (ks.take jx ++ tj :: ks.drop (jx + 2))) p F9 ∧ F9.Nodup ∧ (∀ b ∈ F9, b ∈ FL ∨ w.heap.size ≤ b) ∧ Chg FL w W9) := Lib.hid (by
      obtain ⟨hj, hEE, hCC, hCE, hkC, hj1C, hE20⟩ := HJ.out
      obtain ⟨dge, dgk, dkk, dL⟩ := HD.out
      have hFl := HF2.out
      have hp : p < w.heap.size := hFl p (by simp)
      have hge : ge < w.heap.size := hFl ge (by simp)
      have hgk : gk < w.heap.size := hFl gk (by simp)
      have s4 := HB4.out.size
      have s5 := HC5.out.size
      have s6 := HC6.out.size
      have s7 := HC7.out.size
      have s8 := hc8.size
      have s9 := hc9.size
      have c79 : Chg [p, ge] W7 W9 := (hc8.mono (G := [p, ge]) (by simp)).trans hc9 (fun x hx => .inl (by simp at hx; simp [hx]))
      have c69 : Chg [p, ge] W6 W9 := (HC7.out.mono (G := [p, ge]) (by simp)).trans c79 (fun x h => .inl h)
      have c46 : Chg [gk] W4 W6 := HC5.out.trans HC6.out (fun x h => .inl h)
      have c49 : Chg [p, ge, gk] W4 W9 := (c46.mono (G := [p, ge, gk]) (by simp)).trans (c69.mono (G := [p, ge, gk]) (fun x hx => by simp at hx; rcases hx with rfl | rfl <;> simp)) (fun x h => .inl h)
      have low : ∀ b ∈ A ++ (G12 ++ B), W9.heap[b]? = w.heap[b]? := fun b hb => by
        have hl := hFl b (by simp only [List.mem_cons, List.mem_append] at hb ⊢; exact .inr (.inr (.inr hb)))
        obtain ⟨d1, d2, d3⟩ := dL b hb
        rw [c49.block b (by omega) (by simp only [List.mem_cons, List.not_mem_nil, or_false, not_or]; exact ⟨d1, fun h => d2 h.symm, fun h => d3 h.symm⟩), HB4.out.block b hl]
      have new : ∀ b ∈ Gn, W9.heap[b]? = W4.heap[b]? := fun b hb => by
        refine c49.block b (HN4.out.lt b hb) ?_
        simp only [List.mem_cons, List.not_mem_nil, or_false, not_or]
        rcases HG4.out.2 b hb with h | h
        · obtain ⟨d1, d2, d3⟩ := dL b (List.mem_append_right _ (List.mem_append_left _ h))
          exact ⟨d1, fun h => d2 h.symm, fun h => d3 h.symm⟩
        · exact ⟨by omega, by omega, by omega⟩
      have oE : OwnE W9 0 (.slice a8 L8 c8) esn := owns_same ho8 (fun b e => hc9.block b (ho8.lt b e).2 (fun hb => by
        simp only [List.mem_cons, List.not_mem_nil, or_false] at hb
        rcases hr8.own b e with h | h
        · have : some ge = some b := h
          obtain rfl := Option.some.inj this
          exact dge hb
        · omega))
      have oK : OwnK W9 0 (.slice a6 L6 c6) psn := owns_same HO6.out (fun b e => c69.block b (HO6.out.lt b e).2 (fun hb => by
        simp only [List.mem_cons, List.not_mem_nil, or_false] at hb
        rcases HR6.out.own b e with h | h
        · have : some gk = some b := h
          obtain rfl := Option.some.inj this
          rcases hb with hb | hb
          · exact dgk hb
          · exact dkk hb.symm
        · rcases hb with hb | hb <;> omega))
      obtain ⟨nod, inF⟩ := fill_nodup p ge gk (Value.slice a8 L8 c8).ownBlock (Value.slice a6 L6 c6).ownBlock A G12 B Gn w.heap.size W5.heap.size W7.heap.size HND2.out hFl HG4.out.1 HG4.out.2 (fun b hb => by have := HN4.out.lt b hb; omega) (by omega) (by omega) HR6.out.own (fun b e => by have := (HO6.out.lt b e).2; omega) hr8.own
      rw [hF9] at nod
      rw [hF9, hFL] at inF
      refine ⟨?_, nod, inF, ?_⟩
      · rw [← hF9]
        simp only [NdT]
        refine ⟨_, _, psn, _, hB9, oE, oK, ?_, rfl⟩
        rw [← HPSN.out]
        refine NdL.app (HA.out.same (fun b hb => low b (List.mem_append_left _ hb))) ?_
        simp only [NdL]
        exact ⟨qn, _, Gn, B, rfl, rfl, HN4.out.same new, HR.out.same (fun b hb => low b (List.mem_append_right _ (List.mem_append_right _ hb)))⟩
      · rw [← hFL]
        exact (Chg.ofBelow _ HB4.out).trans c49 (fun x hx => .inl (by simp at hx; rcases hx with rfl | rfl | rfl <;> simp)))
    have HGOAL : Hid (∀ W, PutPost (partK esn (ks.take jx ++ tj :: ks.drop (jx + 2)) jx) p FL w (.returned (.tuple #[])) W → PutPost (partK (delL jx es) (ks.take jx ++ tj :: ks.drop (jx + 2)) jx) p (p :: ((Value.slice (some ⟨ge, 0, none⟩) E ce).ownBlock.toList ++ ((Value.slice (some ⟨gk, 0, none⟩) C ck).ownBlock.toList ++ (A ++ (G12 ++ B))))) w (.returned (.tuple #[])) W) := Lib.hid (fun W h => by rw [HESN.out]; rw [← hFL] at h; exact h)
    clear ho8 hr8 hc8 hB8 hW9 hc9 hB9 hL8 hFL hF9
    go_upto_region 5 with fail
    rw [HW9.out]
    clear q3 q4
    have cP := partKid_any esn (ks.take jx ++ tj :: ks.drop (jx + 2)) jx tj p F9 W9 HALL.out.1 HALL.out.2.1 (by
      obtain ⟨hj, hEE, hCC, hCE, hkC, hj1C, hE20⟩ := HJ.out
      rw [List.getElem?_append_right (by rw [List.length_take]; omega), List.length_take, show jx - min jx ks.length = 0 by omega]; rfl) HTJ.out.1 HTJ.out.2 (by
      obtain ⟨hj, hEE, hCC, hCE, hkC, hj1C, hE20⟩ := HJ.out
      rw [← HESN.out]
      have := delL_len jx es (by omega)
      omega) (by
      obtain ⟨hj, hEE, hCC, hCE, hkC, hj1C, hE20⟩ := HJ.out
      rw [← HESN.out]
      have := delL_len jx es (by omega)
      omega) (by
      obtain ⟨hj, hEE, hCC, hCE, hkC, hj1C, hE20⟩ := HJ.out
      rw [List.length_append, List.length_cons, List.length_take, List.length_drop]
      omega)
    go_wp2_with fail
    refine cP.mono ?_
    rintro e W10 ⟨rfl, F', hN10, hnd10, hin10, hc10⟩
    clear cP
    have HP := Lib.hid (HGOAL.out W10 ⟨rfl, F', hN10, hnd10, fun b hb => by
      rcases hin10 b hb with h | h
      · exact HALL.out.2.2.1 b h
      · have := HALL.out.2.2.2.size; exact .inr (by omega), HALL.out.2.2.2.trans hc10 HALL.out.2.2.1⟩)
    clear hN10 hnd10 hin10 hc10
    go_wp2_with fail
    exact bodyPost_end (results_none rfl _ _ _) rfl HP.out
theorem fillKid_some (es : List En) (ks : List Tr) (i : Nat) (k : Tr) (p : Nat) (F : List Nat) (w : World) (h : NdT w (.mk es ks) p F) (hk : ks[i]? = some k) (h0 : 0 < k.es.length) (hkl : ks.length ≤ 1000) (h3 : k.es.length ≤ 1000) :
    Calls Try.prog 64 #[.pointer (some ⟨p, 0, none⟩), .int .i64 (i : Int)] w fun e w' => e = .returned (.tuple #[]) ∧ w' = w := by
  obtain ⟨ae, ak, ce, ck, hB, hp, hc1, hc2, hE, hK⟩ := h.open
  obtain ⟨b, q, G, rfl, hb, hcell, hN⟩ := hK i k hk
  obtain ⟨es', ks'⟩ := k
  obtain ⟨ae', ak', ce', ck', hB', hp', -, -, -, -⟩ := hN.open
  simp only [Tr.es] at h0 h3
  have n1 := hB.cell (j := 1) rfl
  have n0 := hB'.cell (j := 0) rfl
  have hik : i < ks.length := (List.getElem?_eq_some_iff.1 hk).1
  have hiI : (i : Int) < (ks.length : Int) := by omega
  have hi0 : (0 : Int) ≤ (i : Int) := by omega
  have hle : (es'.length : Int) > 0 := by omega
  generalize ks.length = m at *
  generalize es'.length = n at *
  clear hB hB' hE hK hN h hk hc1 hc2 hp hp' hb
  go_enter Try.func64, Try.ntmps64
  go_wp2_with fail
  exact bodyPost_ret (results_none rfl _ _ _) rfl ⟨rfl, rfl⟩
theorem fillKid_any (es : List En) (ks : List Tr) (ix : Nat) (k : Tr) (p : Nat) (F : List Nat) (w : World) (h : NdT w (.mk es ks) p F) (hnd : F.Nodup) (hk : ks[ix]? = some k) (hlen : ks.length = es.length + 1) (h1 : 1 ≤ es.length) (hl : es.length ≤ 20) (h3 : ∀ x ∈ ks, x.es.length ≤ 3) (hu : (∀ x ∈ ks, x.ks = []) ∨ (∀ x ∈ ks, x.ks.length = x.es.length + 1)) :
    Calls Try.prog 64 #[.pointer (some ⟨p, 0, none⟩), .int .i64 (ix : Int)] w (PutPost (fillK es ks ix) p F w) := by
  have hm := h3 k (List.mem_of_getElem? hk)
  by_cases h0 : 0 < k.es.length
  · refine (fillKid_some es ks ix k p F w h hk h0 (by omega) (by omega)).mono ?_
    rintro e w' ⟨rfl, rfl⟩
    refine ⟨rfl, F, ?_, hnd, fun b hb => .inl hb, Chg.refl _ _⟩
    unfold fillK
    rw [hk]
    simp only
    rw [if_pos h0]
    exact h
  · exact fillKid_none es ks ix k p F w h hnd hk (by omega) hlen h1 hl h3 hu
end Go.Proofs.Ytopgakdgifmecaa

/-! CONTRACT of package tree's cut (a node's). CONDITIONS: each theorem's own hypotheses. -/
namespace Go.Proofs.Ytopgakdgifmecaa
open Go.RowKit
set_option linter.unusedVariables false
set_option maxRecDepth 100000

theorem row_nodup (p : Nat) (oE oK oE' : Option Nat) (L : List Nat) (n : Nat) (h : (p :: (oE.toList ++ (oK.toList ++ L))).Nodup) (hlt : ∀ b ∈ p :: (oE.toList ++ (oK.toList ++ L)), b < n) (hE : ∀ b, oE' = some b → oE = some b ∨ n ≤ b) : (p :: (oE'.toList ++ (oK.toList ++ L))).Nodup ∧ ∀ b ∈ p :: (oE'.toList ++ (oK.toList ++ L)), b ∈ p :: (oE.toList ++ (oK.toList ++ L)) ∨ n ≤ b := by
  simp only [List.nodup_cons, List.nodup_append, List.mem_append, List.mem_cons, Option.mem_toList] at h hlt ⊢
  cases oE' <;> cases oK <;> cases oE <;> grind
def CtF (p ge gk ix E C ce ck q : Nat) (lk : List UInt8) (ly : Int) : Nat → Value → World → Prop
  | 0, v, _ => v = .pointer (some ⟨p, 0, none⟩)
  | 1, v, _ => v = .pointer (some ⟨p, 0, none⟩)
  | 2, v, _ => v = .pointer (some ⟨p, 0, none⟩)
  | 3, v, _ => v = .slice (some ⟨ge, 0, none⟩) E ce
  | 4, v, _ => v = .int .i64 (ix : Int)
  | 5, v, _ => v = .pointer (some ⟨p, 0, none⟩)
  | 6, v, _ => v = .pointer (some ⟨p, 0, none⟩)
  | 7, v, _ => v = .pointer (some ⟨p, 1, none⟩)
  | 8, v, _ => v = .slice (some ⟨gk, 0, none⟩) C ck
  | 9, v, _ => v = .int .i64 (ix : Int)
  | 10, v, _ => v = .pointer (some ⟨gk, ix, none⟩)
  | 11, v, _ => v = ptrV q
  | 12, v, _ => v = .agg #[.string (str lk), .int .i64 ly]
  | _, _, _ => True
theorem ctF_keep {p ge gk ix E C ce ck q : Nat} {lk : List UInt8} {ly : Int} (i : Nat) (v : Value) (w w' : World) (h : CtF p ge gk ix E C ce ck q lk ly i v w) (he : Below w.heap.size w w') : CtF p ge gk ix E C ce ck q lk ly i v w' := by
  unfold CtF at *
  split at h <;> (try exact h) <;> (try exact trivial)
set_option maxHeartbeats 16000000 in
theorem cut_leaf (sk : List UInt8) (es : List En) (p : Nat) (F : List Nat) (w : World) (hil : plI es sk < es.length) (hl : es.length ≤ 1000) (hre : RiseE es) (h : NdT w (.mk es []) p F) (hnd : F.Nodup) :
    Calls Try.prog 51 #[.pointer (some ⟨p, 0, none⟩), .string (str sk)] w (PutPost (.mk (delL (plI es sk) es) []) p F w) := by
  simp only [NdT] at h
  obtain ⟨vE, vK, ps, Fk, hB, hE, hK, hL, rfl⟩ := h
  have hpz : ps = [] := by simpa using NdL.len hL
  subst hpz
  have hF : ∀ b ∈ p :: (vE.ownBlock.toList ++ (vK.ownBlock.toList ++ Fk)), b < w.heap.size := fun b hb => by
    simp only [List.mem_cons, List.mem_append, Option.mem_toList] at hb
    rcases hb with rfl | hb | hb | hb
    · exact hB.lt
    · exact (hE.lt b hb).2
    · exact (hK.lt b hb).2
    · exact hL.lt b hb
  obtain ⟨ix, hix⟩ : ∃ i, plI es sk = i := ⟨_, rfl⟩
  rw [hix] at hil ⊢
  obtain ⟨ae, ce, rfl, -, -, -, -⟩ := owns_shape hE
  obtain ⟨ak, ck, rfl, -, -, -, -⟩ := owns_shape hK
  have cP := place_any es ae ce p _ sk w hB hl hE (rise_mono hre sk)
  obtain ⟨e0, he0⟩ : ∃ e, es[ix]? = some e := ⟨_, List.getElem?_eq_getElem hil⟩
  obtain ⟨ge, rfl, hgl, -, -, -⟩ := hE.cell he0
  obtain ⟨E, hEE⟩ : ∃ E, es.length = E := ⟨_, rfl⟩
  have HCL : Hid (∀ W, Below w.heap.size w W → Calls Try.prog 47 #[.pointer (some ⟨p, 0, none⟩)] W fun e w' => e = .returned (.bool true) ∧ w' = W) := Lib.hid (fun W hW => leaf_any p _ ak es.length 0 ce ck W (hB.keep hW hB.lt))
  rw [hEE] at hB hnd hF hE hil hl ⊢
  have hB : Blk w p 83 [.slice (some ⟨ge, 0, none⟩) E ce, .slice ak 0 ck] := hB
  have HB := Lib.hid hB
  have HE := Lib.hid hE
  have HK := Lib.hid hK
  have HL := Lib.hid hL
  have HF := Lib.hid hF
  have HND := Lib.hid hnd
  have HIX := Lib.hid hix
  have iI : (ix : Int) < (E : Int) := by omega
  have i0 : (0 : Int) ≤ (ix : Int) := by omega
  have i3 : (ix : Int) ≤ 1000 := by omega
  obtain ⟨j1, hj⟩ : ∃ j1, ix + 1 = j1 := ⟨_, rfl⟩
  have hCI : (ix : Int) + 1 = (j1 : Int) := by omega
  have hw1 : IntKind.i64.wrap (j1 : Int) = (j1 : Int) := by rw [IntKind.wrap_i64] <;> omega
  have HJ : Hid (ix + 1 = j1 ∧ es.length = E ∧ ix < E ∧ E ≤ 1000) := Lib.hid ⟨hj, hEE, hil, hl⟩
  clear hB hE hK hL hF hnd hix hil hl hre he0 hgl hj hEE
  go_enter Try.func51, Try.ntmps51
  go_upto_region 1 with fail
  refine cP.mono ?_
  rintro e w1 ⟨i1, f1, rfl, hp1, hb1⟩
  obtain ⟨e1, e2⟩ := place_is hp1
  rw [HIX.out] at e1
  subst i1
  have c1 := HCL.out w1 hb1
  have HB1 := Lib.hid hb1
  clear cP hp1 hb1 e2
  go_wp2_with fail
  refine c1.mono ?_
  rintro e w1 ⟨rfl, rfl⟩
  clear c1
  have hB1 := HB.out.keep HB1.out HB.out.lt
  have q5 := hB1.cell (j := 0) rfl
  have cE := deleteE_any _ _ ix j1 w1 (by have := HJ.out; omega) (by have := HJ.out; omega) HJ.out.1 (HE.out.keep HB1.out)
  have HB2 := Lib.hid hB1
  clear hB1
  go_wp2_with fail
  refine cE.mono ?_
  rintro e W8 ⟨v8, rfl, ho8, hr8⟩
  clear cE q5
  obtain ⟨a8, c8, e8, -, -, -, -⟩ := owns_shape ho8
  obtain ⟨L8, hL8⟩ : ∃ L, (delL ix es).length = L := ⟨_, rfl⟩
  rw [hL8] at e8
  subst e8
  have hnd2 : (p :: ([ge] ++ ((Value.slice ak 0 ck).ownBlock.toList ++ Fk))).Nodup := HND.out
  have hF2 : ∀ b ∈ p :: ([ge] ++ ((Value.slice ak 0 ck).ownBlock.toList ++ Fk)), b < w.heap.size := HF.out
  obtain ⟨⟨dp1, dp2⟩, dek, dL⟩ := nd_apart p (some ge) (Value.slice ak 0 ck).ownBlock Fk hnd2
  have dge : ge ≠ p := fun h => dp1 (by rw [h])
  have hc8 : Chg [ge] w1 W8 := .ofGrown _ hr8.grown (fun b hb => by
    have : some ge = some b := hb
    simp at this; simp [this])
  have hB8 := HB2.out.same (hc8.block p HB2.out.lt (by simp; exact fun h => dge h.symm))
  have q3 := hB8.cell (j := 0) rfl
  have q4 := hB8.free 0
  have HG : Hid (∀ W, W = W8.setCell ⟨p, 0, none⟩ (.slice a8 L8 c8) → PutPost (.mk (delL ix es) []) p (p :: ((Value.slice (some ⟨ge, 0, none⟩) E ce).ownBlock.toList ++ ((Value.slice ak 0 ck).ownBlock.toList ++ Fk))) w (.returned (.tuple #[])) W) := Lib.hid (fun W hW => by
    have hc9 : Chg [p] W8 W := by rw [hW]; exact Chg.setCell _ _ (by simp)
    have hB9 := hB8.set 0 (.slice a8 L8 c8)
    rw [← hW] at hB9
    have hB9 : Blk W p 83 [.slice a8 L8 c8, .slice ak 0 ck] := hB9
    have s1 := HB1.out.size
    have s8 := hc8.size
    have hp : p < w.heap.size := hF2 p (by simp)
    have c19 : Chg [p, ge] w1 W := (hc8.mono (G := [p, ge]) (by simp)).trans hc9 (fun x hx => .inl (by simp at hx; simp [hx]))
    have low : ∀ b, b < w.heap.size → b ≠ p → b ≠ ge → W.heap[b]? = w.heap[b]? := fun b hb h1 h2 => by
      rw [c19.block b (by omega) (by simp only [List.mem_cons, List.not_mem_nil, or_false, not_or]; exact ⟨h1, h2⟩), HB1.out.block b hb]
    obtain ⟨nod, inF⟩ := row_nodup p (some ge) (Value.slice ak 0 ck).ownBlock (Value.slice a8 L8 c8).ownBlock Fk w.heap.size hnd2 hF2 (fun b e => (hr8.own b e).imp id (fun h => by omega))
    refine ⟨rfl, _, ?_, nod, inF, ?_⟩
    · simp only [NdT]
      refine ⟨_, _, [], Fk, hB9, owns_same ho8 (fun b e => hc9.block b (ho8.lt b e).2 (fun hb => ?_)), owns_same HK.out (fun b e => low b (HK.out.lt b e).2 (fun h => dp2 (by rw [← h]; exact e)) (fun h => dek ge rfl (by rw [← h]; exact e))), HL.out.same (fun b hb => low b (HL.out.lt b hb) (dL b hb).1 (fun h => (dL b hb).2.1 (by rw [h]))), rfl⟩
      simp only [List.mem_cons, List.not_mem_nil, or_false] at hb
      rcases hr8.own b e with h | h
      · have : some ge = some b := h
        obtain rfl := Option.some.inj this
        exact dge hb
      · omega
    · exact (Chg.ofBelow _ HB1.out).trans c19 (fun x hx => .inl (by simp only [List.mem_cons, List.not_mem_nil, or_false] at hx; rcases hx with rfl | rfl <;> simp [Value.ownBlock])))
  clear hnd2 hF2 dp1 dp2 dek dL dge hc8 hB8 ho8 hr8 hL8
  go_wp2_with fail
  exact bodyPost_ret (results_none rfl _ _ _) rfl (HG.out _ rfl)
set_option maxHeartbeats 16000000 in
theorem cut_kid (sk : List UInt8) (es : List En) (ks : List Tr) (k k' : Tr) (p : Nat) (F : List Nat) (w : World) (hfd : plF es sk = false) (hl : es.length ≤ 20) (h1 : 1 ≤ es.length) (hlen : ks.length = es.length + 1) (hre : RiseE es) (h : NdT w (.mk es ks) p F) (hnd : F.Nodup) (hk : ks[plI es sk]? = some k)
    (ih : ∀ q G W, NdT W k q G → G.Nodup → Calls Try.prog 51 #[.pointer (some ⟨q, 0, none⟩), .string (str sk)] W (PutPost k' q G W)) (h3 : ∀ x ∈ ks.set (plI es sk) k', x.es.length ≤ 3) (hu : (∀ x ∈ ks.set (plI es sk) k', x.ks = []) ∨ (∀ x ∈ ks.set (plI es sk) k', x.ks.length = x.es.length + 1)) :
    Calls Try.prog 51 #[.pointer (some ⟨p, 0, none⟩), .string (str sk)] w (PutPost (fillK es (ks.set (plI es sk) k') (plI es sk)) p F w) := by
  simp only [NdT] at h
  obtain ⟨vE, vK, ps, Fk, hB, hE, hK, hL, rfl⟩ := h
  have hF : ∀ b ∈ p :: (vE.ownBlock.toList ++ (vK.ownBlock.toList ++ Fk)), b < w.heap.size := fun b hb => by
    simp only [List.mem_cons, List.mem_append, Option.mem_toList] at hb
    rcases hb with rfl | hb | hb | hb
    · exact hB.lt
    · exact (hE.lt b hb).2
    · exact (hK.lt b hb).2
    · exact hL.lt b hb
  have hplen := NdL.len hL
  obtain ⟨q, A, G, B, hq, rfl, hA, hG, hR⟩ := hL.split hk
  have hGn : G.Nodup := by
    simp only [List.nodup_cons, List.nodup_append] at hnd
    exact hnd.2.2.1.2.1.2.1.1
  obtain ⟨ae, ce, rfl, -, -, -, -⟩ := owns_shape hE
  obtain ⟨ak, ck, rfl, -, -, -, -⟩ := owns_shape hK
  have cP := place_any es ae ce p _ sk w hB (by omega) hE (rise_mono hre sk)
  have hik := (List.getElem?_eq_some_iff.1 hk).1
  have cL : ∀ W, Below w.heap.size w W → Calls Try.prog 47 #[.pointer (some ⟨p, 0, none⟩)] W fun e w' => e = .returned (.bool false) ∧ w' = W := fun W hW => by
    have := leaf_any p ae ak es.length ps.length ce ck W (hB.keep hW hB.lt)
    rw [show (ps.length == 0) = false by rw [hplen]; simp; intro h; rw [h] at hik; simp at hik] at this
    exact this
  obtain ⟨ix, hix⟩ : ∃ i, plI es sk = i := ⟨_, rfl⟩
  have hpl := is_place es sk hre
  rw [hix, hfd] at hpl
  rw [hix] at hk hq hA hR hik h3 hu ⊢
  obtain ⟨gk, rfl, hgl, -, hgq⟩ := hK.cell hq
  obtain ⟨E, hEE⟩ : ∃ E, es.length = E := ⟨_, rfl⟩
  obtain ⟨C, hC⟩ : ∃ C, ps.length = C := ⟨_, rfl⟩
  rw [hEE] at hE
  rw [hEE, hC] at hB hnd hF ⊢
  rw [hC] at hK
  have HB0 := Lib.hid hB
  have HE0 := Lib.hid hE
  have HK0 := Lib.hid hK
  have HA0 := Lib.hid hA
  have HG0 := Lib.hid hG
  have HR0 := Lib.hid hR
  have HF0 := Lib.hid hF
  have HND := Lib.hid hnd
  have HCL := Lib.hid cL
  have HIX := Lib.hid (And.intro hix hfd)
  have HQ : Hid (ps[ix]? = some q ∧ G.Nodup) := Lib.hid ⟨hq, hGn⟩
  have HGQ0 : Hid (∀ W, Below w.heap.size w W → W.cell? ⟨gk, ix, none⟩ = some (ptrV q)) := Lib.hid (fun W hW => (hW.cell (p := ⟨gk, ix, none⟩) hgl).trans hgq)
  have HGL : Hid (gk < w.heap.size) := Lib.hid hgl
  have HIH := Lib.hid ih
  have HK4 : Hid ((∀ x ∈ ks.set ix k', x.es.length ≤ 3) ∧ ((∀ x ∈ ks.set ix k', x.ks = []) ∨ (∀ x ∈ ks.set ix k', x.ks.length = x.es.length + 1))) := Lib.hid ⟨h3, hu⟩
  have iC : (ix : Int) < (C : Int) := by omega
  have i0 : (0 : Int) ≤ (ix : Int) := by omega
  have HLEN : Hid (1 ≤ es.length ∧ es.length ≤ 20 ∧ ps.length = C ∧ ix < ks.length ∧ ks.length = es.length + 1 ∧ es.length = E) := Lib.hid ⟨by omega, by omega, hC, hik, by omega, hEE⟩
  clear hB hE hK hL hA hG hR hF hnd hix hfd hpl hl hre cL hplen hik hgl hgq hq hGn ih h3 hu hk hlen h1 hEE hC
  go_enter Try.func51, Try.ntmps51
  go_upto_region 1 with fail
  refine cP.mono ?_
  rintro e w1 ⟨i1, f1, rfl, hp1, hb1⟩
  obtain ⟨e1, e2⟩ := place_is hp1
  rw [HIX.out.1] at e1
  rw [HIX.out.2] at e2
  subst i1
  subst f1
  have c1 := HCL.out w1 hb1
  have HB1 := Lib.hid hb1
  clear cP hp1 hb1
  go_wp2_with fail
  refine c1.mono ?_
  rintro e Wt ⟨rfl, rfl⟩
  clear c1
  go_upto_region 6 with fail
  have HB : Hid (Blk Wt p 83 [.slice ae E ce, .slice (some ⟨gk, 0, none⟩) C ck]) := Lib.hid (HB0.out.keep HB1.out HB0.out.lt)
  have HE := Lib.hid (HE0.out.keep HB1.out)
  have HK := Lib.hid (HK0.out.keep HB1.out)
  have HA := Lib.hid (HA0.out.same (fun b hb => HB1.out.block b (HA0.out.lt b hb)))
  have HG := Lib.hid (HG0.out.below HB1.out)
  have HR := Lib.hid (HR0.out.same (fun b hb => HB1.out.block b (HR0.out.lt b hb)))
  have HF : Hid (∀ b ∈ p :: ((Value.slice ae E ce).ownBlock.toList ++ ((Value.slice (some ⟨gk, 0, none⟩) C ck).ownBlock.toList ++ (A ++ (G ++ B)))), b < Wt.heap.size) := Lib.hid (fun b hb => Nat.lt_of_lt_of_le (HF0.out b hb) HB1.out.size)
  have HCW : Hid (Chg (p :: ((Value.slice ae E ce).ownBlock.toList ++ ((Value.slice (some ⟨gk, 0, none⟩) C ck).ownBlock.toList ++ (A ++ (G ++ B))))) w Wt) := Lib.hid (Chg.ofBelow _ HB1.out)
  have HGQ := Lib.hid (HGQ0.out Wt HB1.out)
  have c2 := HIH.out q G Wt HG.out HQ.out.2
  have q0 := HB.out.cell (j := 1) rfl
  have q1 := HGQ.out
  go_wp2_with fail
  refine c2.mono ?_
  rintro e w2 ⟨rfl, G', hN2, hnd2, hin2, hc2⟩
  clear c2 q0 q1
  obtain ⟨hl1, hl20, hpk, hik, hklen, hCC⟩ := HLEN.out
  obtain ⟨dP, dE, dK⟩ := nd_apart _ _ _ _ HND.out
  have hFl := HF.out
  have s2 := hc2.size
  have inG : ∀ b, b ∈ G → b ≠ p ∧ (Value.slice ae E ce).ownBlock ≠ some b ∧ (Value.slice (some ⟨gk, 0, none⟩) C ck).ownBlock ≠ some b := fun b hb => dK b (List.mem_append_right _ (List.mem_append_left _ hb))
  have same : ∀ b, b < Wt.heap.size → b ∉ G → w2.heap[b]? = Wt.heap[b]? := fun b hb hg => hc2.block b hb hg
  have nAB : ∀ b, b ∈ A ∨ b ∈ B → b ∉ G := fun b hb hg => by
    have := HND.out
    simp only [List.nodup_cons, List.nodup_append, List.mem_append] at this
    grind
  have hN : NdT w2 (.mk (es) (ks.set ix k')) p (p :: ((Value.slice ae E ce).ownBlock.toList ++ ((Value.slice (some ⟨gk, 0, none⟩) C ck).ownBlock.toList ++ (A ++ (G' ++ B))))) := by
    simp only [NdT]
    refine ⟨_, _, ps, _, HB.out.same (same p HB.out.lt (fun h => (inG p h).1 rfl)), owns_same HE.out (fun b e => same b (HE.out.lt b e).2 (fun h => (inG b h).2.1 e)), owns_same HK.out (fun b e => same b (HK.out.lt b e).2 (fun h => (inG b h).2.2 e)), ?_, rfl⟩
    exact NdL.put (HA.out.same (fun b hb => same b (HA.out.lt b hb) (nAB b (.inl hb)))) hN2 (HR.out.same (fun b hb => same b (HR.out.lt b hb) (nAB b (.inr hb)))) HQ.out.1 hik
  obtain ⟨nod, inF⟩ := kid_nodup p (Value.slice ae E ce).ownBlock (Value.slice (some ⟨gk, 0, none⟩) C ck).ownBlock (Value.slice ae E ce).ownBlock (Value.slice (some ⟨gk, 0, none⟩) C ck).ownBlock A G B G' Wt.heap.size w2.heap.size w2.heap.size HND.out hFl hnd2 hin2 (fun b hb => hN2.lt b hb) (by omega) (fun b e => .inl e) (fun b e => by have := (HE.out.lt b e).2; omega) (fun b e => .inl e) (Nat.le_refl _)
  have c3 := fillKid_any (es) (ks.set ix k') ix k' p _ w2 hN nod (List.getElem?_set_self hik) (by rw [List.length_set]; exact hklen) hl1 hl20 HK4.out.1 HK4.out.2
  have HFIN : Hid (∀ w3, Chg (p :: ((Value.slice ae E ce).ownBlock.toList ++ ((Value.slice (some ⟨gk, 0, none⟩) C ck).ownBlock.toList ++ (A ++ (G' ++ B))))) w2 w3 → Chg (p :: ((Value.slice ae E ce).ownBlock.toList ++ ((Value.slice (some ⟨gk, 0, none⟩) C ck).ownBlock.toList ++ (A ++ (G ++ B))))) w w3) := Lib.hid (fun w3 h3 => by
    have a1 := HCW.out.trans hc2 (fun x hx => .inl (by simp only [List.mem_cons, List.mem_append]; grind))
    have s1 := HCW.out.size
    exact a1.trans h3 (fun b hb => (inF b hb).imp id (fun h => by omega)))
  have HIN := Lib.hid inF
  have HS2 : Hid (w.heap.size ≤ Wt.heap.size ∧ Wt.heap.size ≤ w2.heap.size) := Lib.hid ⟨HCW.out.size, s2⟩
  clear hl1 hl20 hpk hik hklen hCC dP dE dK hFl s2 inG same nAB hN nod inF hN2 hnd2 hin2 hc2
  go_wp2_with fail
  refine c3.mono ?_
  rintro e w3 ⟨rfl, F3, hN3, hnd3, hin3, hc3⟩
  clear c3
  have HP : Hid (PutPost (fillK (es) (ks.set ix k') ix) p (p :: ((Value.slice ae E ce).ownBlock.toList ++ ((Value.slice (some ⟨gk, 0, none⟩) C ck).ownBlock.toList ++ (A ++ (G ++ B))))) w (.returned (.tuple #[])) w3) := Lib.hid ⟨rfl, F3, hN3, hnd3, fun b hb => by
    obtain ⟨z1, z2⟩ := HS2.out
    rcases hin3 b hb with h | h
    · exact (HIN.out b h).imp id (fun h => by omega)
    · exact .inr (by omega), HFIN.out w3 hc3⟩
  clear hN3 hnd3 hin3 hc3
  go_wp2_with fail
  exact bodyPost_end (results_none rfl _ _ _) rfl HP.out
set_option maxHeartbeats 16000000 in
theorem cut_there (sk lk : List UInt8) (ly : Int) (es : List En) (ks : List Tr) (k k' : Tr) (p : Nat) (F : List Nat) (w : World) (hfd : plF es sk = true) (hl : es.length ≤ 20) (h1 : 1 ≤ es.length) (hlen : ks.length = es.length + 1) (hre : RiseE es) (h : NdT w (.mk es ks) p F) (hnd : F.Nodup) (hk : ks[plI es sk]? = some k)
    (hla : ∀ q G W, NdT W k q G → Calls Try.prog 63 #[.pointer (some ⟨q, 0, none⟩)] W fun e w' => e = .returned (.agg #[.string (str lk), .int .i64 ly]) ∧ Below W.heap.size W w')
    (ih : ∀ q G W, NdT W k q G → G.Nodup → Calls Try.prog 51 #[.pointer (some ⟨q, 0, none⟩), .string (str lk)] W (PutPost k' q G W)) (h3 : ∀ x ∈ ks.set (plI es sk) k', x.es.length ≤ 3) (hu : (∀ x ∈ ks.set (plI es sk) k', x.ks = []) ∨ (∀ x ∈ ks.set (plI es sk) k', x.ks.length = x.es.length + 1)) :
    Calls Try.prog 51 #[.pointer (some ⟨p, 0, none⟩), .string (str sk)] w (PutPost (fillK (es.set (plI es sk) (lk, ly)) (ks.set (plI es sk) k') (plI es sk)) p F w) := by
  simp only [NdT] at h
  obtain ⟨vE, vK, ps, Fk, hB, hE, hK, hL, rfl⟩ := h
  have hF : ∀ b ∈ p :: (vE.ownBlock.toList ++ (vK.ownBlock.toList ++ Fk)), b < w.heap.size := fun b hb => by
    simp only [List.mem_cons, List.mem_append, Option.mem_toList] at hb
    rcases hb with rfl | hb | hb | hb
    · exact hB.lt
    · exact (hE.lt b hb).2
    · exact (hK.lt b hb).2
    · exact hL.lt b hb
  have hplen := NdL.len hL
  obtain ⟨q, A, G, B, hq, rfl, hA, hG, hR⟩ := hL.split hk
  have hGn : G.Nodup := by
    simp only [List.nodup_cons, List.nodup_append] at hnd
    exact hnd.2.2.1.2.1.2.1.1
  obtain ⟨ae, ce, rfl, -, -, -, -⟩ := owns_shape hE
  obtain ⟨ak, ck, rfl, -, -, -, -⟩ := owns_shape hK
  have cP := place_any es ae ce p _ sk w hB (by omega) hE (rise_mono hre sk)
  have hik := (List.getElem?_eq_some_iff.1 hk).1
  have cL : ∀ W, Below w.heap.size w W → Calls Try.prog 47 #[.pointer (some ⟨p, 0, none⟩)] W fun e w' => e = .returned (.bool false) ∧ w' = W := fun W hW => by
    have := leaf_any p ae ak es.length ps.length ce ck W (hB.keep hW hB.lt)
    rw [show (ps.length == 0) = false by rw [hplen]; simp; intro h; rw [h] at hik; simp at hik] at this
    exact this
  obtain ⟨ix, hix⟩ : ∃ i, plI es sk = i := ⟨_, rfl⟩
  have hpl := is_place es sk hre
  rw [hix, hfd] at hpl
  rw [hix] at hk hq hA hR hik h3 hu ⊢
  obtain ⟨gk, rfl, hgl, -, hgq⟩ := hK.cell hq
  obtain ⟨E, hEE⟩ : ∃ E, es.length = E := ⟨_, rfl⟩
  obtain ⟨C, hC⟩ : ∃ C, ps.length = C := ⟨_, rfl⟩
  obtain ⟨e0, he0⟩ : ∃ e, es[ix]? = some e := by
    have := hpl.fd
    cases hq : es[ix]? with
    | none => rw [hq] at this; cases this
    | some e => exact ⟨e, rfl⟩
  have hil : ix < es.length := (List.getElem?_eq_some_iff.1 he0).1
  obtain ⟨ge, hae, hgel, -, -, -⟩ := hE.cell he0
  have HIL : Hid (ix < E ∧ ix < es.length) := Lib.hid ⟨by omega, hil⟩
  have HAE : Hid (ae = some ⟨ge, 0, none⟩ ∧ ge < w.heap.size) := Lib.hid ⟨hae, hgel⟩
  have iE : (ix : Int) < (E : Int) := by omega
  have HLA : Hid (∀ W, Below w.heap.size w W → Calls Try.prog 63 #[.pointer (some ⟨q, 0, none⟩)] W fun e w' => e = .returned (.agg #[.string (str lk), .int .i64 ly]) ∧ Below W.heap.size W w') := Lib.hid (fun W hW => hla q G W (hG.below hW))
  clear he0 hil hae hgel hla
  rw [hEE] at hE
  rw [hEE, hC] at hB hnd hF ⊢
  rw [hC] at hK
  have HB0 := Lib.hid hB
  have HE0 := Lib.hid hE
  have HK0 := Lib.hid hK
  have HA0 := Lib.hid hA
  have HG0 := Lib.hid hG
  have HR0 := Lib.hid hR
  have HF0 := Lib.hid hF
  have HND := Lib.hid hnd
  have HCL := Lib.hid cL
  have HIX := Lib.hid (And.intro hix hfd)
  have HQ : Hid (ps[ix]? = some q ∧ G.Nodup) := Lib.hid ⟨hq, hGn⟩
  have HGQ0 : Hid (∀ W, Below w.heap.size w W → W.cell? ⟨gk, ix, none⟩ = some (ptrV q)) := Lib.hid (fun W hW => (hW.cell (p := ⟨gk, ix, none⟩) hgl).trans hgq)
  have HGL : Hid (gk < w.heap.size) := Lib.hid hgl
  have HIH := Lib.hid ih
  have HK4 : Hid ((∀ x ∈ ks.set ix k', x.es.length ≤ 3) ∧ ((∀ x ∈ ks.set ix k', x.ks = []) ∨ (∀ x ∈ ks.set ix k', x.ks.length = x.es.length + 1))) := Lib.hid ⟨h3, hu⟩
  have iC : (ix : Int) < (C : Int) := by omega
  have i0 : (0 : Int) ≤ (ix : Int) := by omega
  have HLEN : Hid (1 ≤ (es.set ix (lk, ly)).length ∧ (es.set ix (lk, ly)).length ≤ 20 ∧ ps.length = C ∧ ix < ks.length ∧ ks.length = (es.set ix (lk, ly)).length + 1 ∧ es.length = E) := Lib.hid ⟨by rw [List.length_set]; omega, by rw [List.length_set]; omega, hC, hik, by rw [List.length_set]; omega, hEE⟩
  clear hB hE hK hL hA hG hR hF hnd hix hfd hpl hl hre cL hplen hik hgl hgq hq hGn ih h3 hu hk hlen h1 hEE hC
  go_enter Try.func51, Try.ntmps51
  go_upto_region 1 with fail
  refine cP.mono ?_
  rintro e w1 ⟨i1, f1, rfl, hp1, hb1⟩
  obtain ⟨e1, e2⟩ := place_is hp1
  rw [HIX.out.1] at e1
  rw [HIX.out.2] at e2
  subst i1
  subst f1
  have c1 := HCL.out w1 hb1
  have HB1 := Lib.hid hb1
  clear cP hp1 hb1
  go_wp2_with fail
  refine c1.mono ?_
  rintro e w1 ⟨rfl, rfl⟩
  clear c1
  go_upto_region 4 with fail
  have HC : Hid (∀ W, Below w.heap.size w W → W.cell? ⟨p, 0, none⟩ = some (.slice (some ⟨ge, 0, none⟩) E ce) ∧ W.cell? ⟨p, 1, none⟩ = some (.slice (some ⟨gk, 0, none⟩) C ck) ∧ W.cell? ⟨gk, ix, none⟩ = some (ptrV q)) := Lib.hid (fun W hW => by
    have hB := HB0.out.keep hW HB0.out.lt
    rw [HAE.out.1] at hB
    exact ⟨hB.cell (j := 0) rfl, hB.cell (j := 1) rfl, HGQ0.out W hW⟩)
  refine wp_region_facts' 13 (by kernel_rfl) (by kernel_rfl) (CtF p ge gk ix E C ce ck q lk ly) (fun W => Below w.heap.size w W) (fun W W' => Below W.heap.size W W') ?hC ?hF ?h0 ?hstep ?hdone
  case hC => exact fun W W' hc he => below_stepE hc hc.size he
  case hF => exact ctF_keep
  case h0 => exact Below.drew HB1.out
  case hstep =>
    intro i hi vs act W K ha' hc hd hu hK
    simp only [fillF, Act.put, List.take_succ_cons, List.take_zero, List.setIfInBounds_toArray, List.set_cons_zero, List.set_cons_succ] at ha'
    subst ha'
    clear hu
    rcases (show i = 0 ∨ i = 1 ∨ i = 2 ∨ i = 3 ∨ i = 4 ∨ i = 5 ∨ i = 6 ∨ i = 7 ∨ i = 8 ∨ i = 9 ∨ i = 10 ∨ i = 11 ∨ i = 12 by omega) with rfl | rfl | rfl | rfl | rfl | rfl | rfl | rfl | rfl | rfl | rfl | rfl | rfl
    · refine wpOp_step rfl (fun K' hK' => ?_)
      go_simp
      exact hK' _ _ (hK _ _ rfl (Below.refl _ _))
    · have e0 : vs 0 = .pointer (some ⟨p, 0, none⟩) := hd 0 (by kernel_rfl)
      simp only [e0] at hK ⊢
      refine wpOp_step rfl (fun K' hK' => ?_)
      go_simp
      exact hK' _ _ (hK _ _ rfl (Below.refl _ _))
    · have e1 : vs 1 = .pointer (some ⟨p, 0, none⟩) := hd 1 (by kernel_rfl)
      simp only [e1] at hK ⊢
      refine wpOp_step rfl (fun K' hK' => ?_)
      go_simp
      exact hK' _ _ (hK _ _ rfl (Below.refl _ _))
    · have e2 : vs 2 = .pointer (some ⟨p, 0, none⟩) := hd 2 (by kernel_rfl)
      simp only [e2] at hK ⊢
      obtain ⟨q0, q1, q2⟩ := HC.out W hc
      refine wpOp_step rfl (fun K' hK' => ?_)
      go_simp
      exact hK' _ _ (hK _ _ rfl (Below.refl _ _))
    · refine wpOp_step rfl (fun K' hK' => ?_)
      go_simp
      exact hK' _ _ (hK _ _ rfl (Below.refl _ _))
    · refine wpOp_step rfl (fun K' hK' => ?_)
      go_simp
      exact hK' _ _ (hK _ _ rfl (Below.refl _ _))
    · have e5 : vs 5 = .pointer (some ⟨p, 0, none⟩) := hd 5 (by kernel_rfl)
      simp only [e5] at hK ⊢
      refine wpOp_step rfl (fun K' hK' => ?_)
      go_simp
      exact hK' _ _ (hK _ _ rfl (Below.refl _ _))
    · have e6 : vs 6 = .pointer (some ⟨p, 0, none⟩) := hd 6 (by kernel_rfl)
      simp only [e6] at hK ⊢
      refine wpOp_step rfl (fun K' hK' => ?_)
      go_simp
      exact hK' _ _ (hK _ _ rfl (Below.refl _ _))
    · have e7 : vs 7 = .pointer (some ⟨p, 1, none⟩) := hd 7 (by kernel_rfl)
      simp only [e7] at hK ⊢
      obtain ⟨q0, q1, q2⟩ := HC.out W hc
      refine wpOp_step rfl (fun K' hK' => ?_)
      go_simp
      exact hK' _ _ (hK _ _ rfl (Below.refl _ _))
    · refine wpOp_step rfl (fun K' hK' => ?_)
      go_simp
      exact hK' _ _ (hK _ _ rfl (Below.refl _ _))
    · have e8 : vs 8 = .slice (some ⟨gk, 0, none⟩) C ck := hd 8 (by kernel_rfl)
      have e9 : vs 9 = .int .i64 (ix : Int) := hd 9 (by kernel_rfl)
      simp only [e8, e9] at hK ⊢
      refine wpOp_step rfl (fun K' hK' => ?_)
      go_simp
      exact hK' _ _ (hK _ _ rfl (Below.refl _ _))
    · have e10 : vs 10 = .pointer (some ⟨gk, ix, none⟩) := hd 10 (by kernel_rfl)
      simp only [e10] at hK ⊢
      obtain ⟨q0, q1, q2⟩ := HC.out W hc
      refine wpOp_step rfl (fun K' hK' => ?_)
      go_simp
      exact hK' _ _ (hK _ _ rfl (Below.refl _ _))
    · have e11 : vs 11 = ptrV q := hd 11 (by kernel_rfl)
      simp only [e11] at hK ⊢
      refine wpOp_step rfl (fun K' hK' => ?_)
      go_simp
      refine (HLA.out W hc).mono ?_
      rintro e w' ⟨rfl, hb⟩
      exact hK' _ _ (hK _ _ rfl hb)
  case hdone =>
    intro vs act W4 ha' hst hfs
    simp only [fillF, Act.put, List.take_succ_cons, List.take_zero, List.drop_succ_cons, List.drop_zero, List.setIfInBounds_toArray, List.set_cons_zero, List.set_cons_succ] at ha' ⊢
    subst ha'
    have f3 : vs 3 = .slice (some ⟨ge, 0, none⟩) E ce := hfs 3 (by decide)
    have f4 : vs 4 = .int .i64 (ix : Int) := hfs 4 (by decide)
    have f12 : vs 12 = .agg #[.string (str lk), .int .i64 ly] := hfs 12 (by decide)
    simp only [Nat.zero_add, Nat.reduceAdd, f3, f4, f12]
    clear hfs f3 f4 f12
    have hE4 := HE0.out.keep hst
    rw [HAE.out.1] at hE4
    obtain ⟨e0, he0⟩ : ∃ e, es[ix]? = some e := ⟨_, List.getElem?_eq_getElem HIL.out.2⟩
    obtain ⟨g2, hg2, -, -, q0, q1⟩ := hE4.cell he0
    cases hg2
    have q2 := hE4.free (ix * 2)
    have q3 := hE4.free (ix * 2 + 1)
    have hO := OwnE.put HLEN.out.2.2.2.2.2 hE4 ix (lk, ly)
    obtain ⟨Wt, hWt⟩ : ∃ W, (W4.setCell ⟨ge, ix * 2, none⟩ (.string (str lk))).setCell ⟨ge, ix * 2 + 1, none⟩ (.int .i64 ly) = W := ⟨_, rfl⟩
    have HWT := Lib.hid hWt
    rw [hWt] at hO
    have hc : Chg [ge] W4 Wt := by
      rw [← hWt]
      exact (Chg.setCell _ _ (by simp)).trans (Chg.setCell _ _ (by simp)) (fun _ h => .inl h)
    have HB4 := Lib.hid hst
    have HO := Lib.hid hO
    have HC4 := Lib.hid hc
    clear hE4 he0 hO hWt hc hst HB1 HC
    go_upto_region 5 with fail
    rw [HWT.out]
    clear q0 q1 q2 q3
    have hoe : (Value.slice ae E ce).ownBlock = some ge := by rw [HAE.out.1]; rfl
    have hbk : ∀ b, b < w.heap.size → b ≠ ge → Wt.heap[b]? = w.heap[b]? := fun b hb hn => by
      rw [HC4.out.block b (Nat.lt_of_lt_of_le hb HB4.out.size) (by simpa using hn), HB4.out.block b hb]
    obtain ⟨dP, dE, dK⟩ := nd_apart _ _ _ _ HND.out
    have dG : ∀ b, b ∈ A ++ (G ++ B) → b ≠ ge := fun b hb e => (dK b hb).2.1 (by rw [e]; exact hoe)
    have HB : Hid (Blk Wt p 83 [.slice ae E ce, .slice (some ⟨gk, 0, none⟩) C ck]) := Lib.hid (HB0.out.same (hbk p HB0.out.lt (fun e => dP.1 (by rw [e]; exact hoe))))
    have HE : Hid (OwnE Wt 0 (.slice ae E ce) (es.set ix (lk, ly))) := Lib.hid (by rw [HAE.out.1]; exact HO.out)
    have HK : Hid (OwnK Wt 0 (.slice (some ⟨gk, 0, none⟩) C ck) ps) := Lib.hid (owns_same HK0.out (fun b e => hbk b (HK0.out.lt b e).2 (fun e2 => dE ge hoe (by rw [← e2]; exact e))))
    have HA := Lib.hid (HA0.out.same (fun b hb => hbk b (HA0.out.lt b hb) (dG b (List.mem_append_left _ hb))))
    have HG := Lib.hid (HG0.out.same (fun b hb => hbk b (HG0.out.lt b hb) (dG b (List.mem_append_right _ (List.mem_append_left _ hb)))))
    have HR := Lib.hid (HR0.out.same (fun b hb => hbk b (HR0.out.lt b hb) (dG b (List.mem_append_right _ (List.mem_append_right _ hb)))))
    have HCW : Hid (Chg (p :: ((Value.slice ae E ce).ownBlock.toList ++ ((Value.slice (some ⟨gk, 0, none⟩) C ck).ownBlock.toList ++ (A ++ (G ++ B))))) w Wt) := Lib.hid ((Chg.ofBelow _ HB4.out).trans HC4.out (fun x hx => .inl (by simp only [List.mem_cons, List.not_mem_nil, or_false] at hx; subst hx; simp [hoe])))
    have HF : Hid (∀ b ∈ p :: ((Value.slice ae E ce).ownBlock.toList ++ ((Value.slice (some ⟨gk, 0, none⟩) C ck).ownBlock.toList ++ (A ++ (G ++ B)))), b < Wt.heap.size) := Lib.hid (fun b hb => Nat.lt_of_lt_of_le (HF0.out b hb) HCW.out.size)
    have HGQ : Hid (Wt.cell? ⟨gk, ix, none⟩ = some (ptrV q)) := Lib.hid (by
      obtain ⟨b, hb, -, -, hc⟩ := HK.out.cell HQ.out.1
      simp only [Option.some.injEq, Addr.mk.injEq] at hb
      obtain ⟨rfl, -⟩ := hb
      exact hc)
    have q5 : Wt.cell? ⟨p, 0, none⟩ = some (.slice (some ⟨ge, 0, none⟩) E ce) := by
      have := HB.out.cell (j := 0) rfl
      rw [HAE.out.1] at this
      exact this
    obtain ⟨g3, hg3, -, -, q6, q7⟩ := HO.out.cell (List.getElem?_set_self HIL.out.2)
    cases hg3
    clear hoe hbk dP dE dK dG
    go_upto_region 6 with fail
    clear q5 q6 q7
    have c2 := HIH.out q G Wt HG.out HQ.out.2
    have q0 := HB.out.cell (j := 1) rfl
    have q1 := HGQ.out
    go_wp2_with fail
    refine c2.mono ?_
    rintro e w2 ⟨rfl, G', hN2, hnd2, hin2, hc2⟩
    clear c2 q0 q1
    obtain ⟨hl1, hl20, hpk, hik, hklen, hCC⟩ := HLEN.out
    obtain ⟨dP, dE, dK⟩ := nd_apart _ _ _ _ HND.out
    have hFl := HF.out
    have s2 := hc2.size
    have inG : ∀ b, b ∈ G → b ≠ p ∧ (Value.slice ae E ce).ownBlock ≠ some b ∧ (Value.slice (some ⟨gk, 0, none⟩) C ck).ownBlock ≠ some b := fun b hb => dK b (List.mem_append_right _ (List.mem_append_left _ hb))
    have same : ∀ b, b < Wt.heap.size → b ∉ G → w2.heap[b]? = Wt.heap[b]? := fun b hb hg => hc2.block b hb hg
    have nAB : ∀ b, b ∈ A ∨ b ∈ B → b ∉ G := fun b hb hg => by
      have := HND.out
      simp only [List.nodup_cons, List.nodup_append, List.mem_append] at this
      grind
    have hN : NdT w2 (.mk (es.set ix (lk, ly)) (ks.set ix k')) p (p :: ((Value.slice ae E ce).ownBlock.toList ++ ((Value.slice (some ⟨gk, 0, none⟩) C ck).ownBlock.toList ++ (A ++ (G' ++ B))))) := by
      simp only [NdT]
      refine ⟨_, _, ps, _, HB.out.same (same p HB.out.lt (fun h => (inG p h).1 rfl)), owns_same HE.out (fun b e => same b (HE.out.lt b e).2 (fun h => (inG b h).2.1 e)), owns_same HK.out (fun b e => same b (HK.out.lt b e).2 (fun h => (inG b h).2.2 e)), ?_, rfl⟩
      exact NdL.put (HA.out.same (fun b hb => same b (HA.out.lt b hb) (nAB b (.inl hb)))) hN2 (HR.out.same (fun b hb => same b (HR.out.lt b hb) (nAB b (.inr hb)))) HQ.out.1 hik
    obtain ⟨nod, inF⟩ := kid_nodup p (Value.slice ae E ce).ownBlock (Value.slice (some ⟨gk, 0, none⟩) C ck).ownBlock (Value.slice ae E ce).ownBlock (Value.slice (some ⟨gk, 0, none⟩) C ck).ownBlock A G B G' Wt.heap.size w2.heap.size w2.heap.size HND.out hFl hnd2 hin2 (fun b hb => hN2.lt b hb) (by omega) (fun b e => .inl e) (fun b e => by have := (HE.out.lt b e).2; omega) (fun b e => .inl e) (Nat.le_refl _)
    have c3 := fillKid_any (es.set ix (lk, ly)) (ks.set ix k') ix k' p _ w2 hN nod (List.getElem?_set_self hik) (by rw [List.length_set]; exact hklen) hl1 hl20 HK4.out.1 HK4.out.2
    have HFIN : Hid (∀ w3, Chg (p :: ((Value.slice ae E ce).ownBlock.toList ++ ((Value.slice (some ⟨gk, 0, none⟩) C ck).ownBlock.toList ++ (A ++ (G' ++ B))))) w2 w3 → Chg (p :: ((Value.slice ae E ce).ownBlock.toList ++ ((Value.slice (some ⟨gk, 0, none⟩) C ck).ownBlock.toList ++ (A ++ (G ++ B))))) w w3) := Lib.hid (fun w3 h3 => by
      have a1 := HCW.out.trans hc2 (fun x hx => .inl (by simp only [List.mem_cons, List.mem_append]; grind))
      have s1 := HCW.out.size
      exact a1.trans h3 (fun b hb => (inF b hb).imp id (fun h => by omega)))
    have HIN := Lib.hid inF
    have HS2 : Hid (w.heap.size ≤ Wt.heap.size ∧ Wt.heap.size ≤ w2.heap.size) := Lib.hid ⟨HCW.out.size, s2⟩
    clear hl1 hl20 hpk hik hklen hCC dP dE dK hFl s2 inG same nAB hN nod inF hN2 hnd2 hin2 hc2
    go_wp2_with fail
    refine c3.mono ?_
    rintro e w3 ⟨rfl, F3, hN3, hnd3, hin3, hc3⟩
    clear c3
    have HP : Hid (PutPost (fillK (es.set ix (lk, ly)) (ks.set ix k') ix) p (p :: ((Value.slice ae E ce).ownBlock.toList ++ ((Value.slice (some ⟨gk, 0, none⟩) C ck).ownBlock.toList ++ (A ++ (G ++ B))))) w (.returned (.tuple #[])) w3) := Lib.hid ⟨rfl, F3, hN3, hnd3, fun b hb => by
      obtain ⟨z1, z2⟩ := HS2.out
      rcases hin3 b hb with h | h
      · exact (HIN.out b h).imp id (fun h => by omega)
      · exact .inr (by omega), HFIN.out w3 hc3⟩
    clear hN3 hnd3 hin3 hc3
    go_wp2_with fail
    exact bodyPost_end (results_none rfl _ _ _) rfl HP.out
theorem cut_any : ∀ (n d : Nat) (t : Tr) (s : List UInt8) (p : Nat) (F : List Nat) (w : World), d < n → okT d t → RiseE (flatT t) → (∃ e ∈ flatT t, e.1 = s) → NdT w t p F → F.Nodup →
    Calls Try.prog 51 #[.pointer (some ⟨p, 0, none⟩), .string (str s)] w (PutPost (cutF n t s) p F w)
  | 0, d, t, s, p, F, w, h, _, _, _, _, _ => by omega
  | n + 1, 0, .mk es ks, s, p, F, w, hd, hok, hr, hs, h, hnd => by
    have hca := cut_all (n + 1) 0 (.mk es ks) s hd hok hr hs
    simp only [okT] at hok
    obtain ⟨h1, h2, rfl⟩ := hok
    rw [flat_mk] at hr
    have hre := es_rise hr
    have hil : plI es s < es.length := by
      have h4 := hca.2.2.2
      have h5 := congrArg List.length hca.1
      obtain ⟨e, he, hes⟩ := hs
      refine Nat.lt_of_not_le (fun hge => ?_)
      simp only [cutF, if_true] at h5
      rw [flat_mk, flat_mk] at h5
      simp only [flatL, inter_nil] at h5
      rw [show delL (plI es s) es = es by unfold delL; rw [List.take_of_length_le hge, List.drop_of_length_le (by omega), List.append_nil]] at h5
      rw [flat_mk] at he
      simp only [flatL, inter_nil] at he
      have h6 : cutR s es = es := (cutR_sub s es).eq_of_length h5.symm
      rw [← h6] at he
      have := (List.mem_filter.1 he).2
      simp [hes] at this
    simp only [cutF, if_true]
    exact cut_leaf s es p F w hil (by omega) hre h hnd
  | n + 1, d + 1, .mk es ks, s, p, F, w, hd, hok, hr, hs, h, hnd => by
    simp only [okT] at hok
    obtain ⟨h1, h2, h3, h4⟩ := hok
    have hr2 := hr
    rw [flat_mk] at hr2
    have hre := es_rise hr2
    have hp := is_place es s hre
    have hil := plI_le es s
    have hz : ks ≠ [] := fun h => by rw [h] at h3; simp at h3
    obtain ⟨k, hk⟩ : ∃ k, ks[plI es s]? = some k := ⟨ks[plI es s]'(by omega), List.getElem?_eq_getElem _⟩
    have hkm := List.mem_of_getElem? hk
    have hok2 := h4 k hkm
    have hok3 := (ok_iff d k).1 hok2
    have hky : (flatL ks)[plI es s]? = some (flatT k) := by rw [flatL_map, List.getElem?_map, hk]; rfl
    have hkl2 : (flatL ks).length = es.length + 1 := by rw [flatL_map, List.length_map]; exact h3
    have hrk := rise_kid hr2 hkl2 (List.mem_of_getElem? hky)
    have hset : ∀ k', shT d k' → k'.es.length ≤ 3 → (∀ x ∈ ks.set (plI es s) k', x.es.length ≤ 3) ∧ ((∀ x ∈ ks.set (plI es s) k', x.ks = []) ∨ (∀ x ∈ ks.set (plI es s) k', x.ks.length = x.es.length + 1)) := fun k' g1 g2 => by
      have hm : ∀ x ∈ ks.set (plI es s) k', shT d x ∧ x.es.length ≤ 3 := fun x hx => by
        rcases List.mem_or_eq_of_mem_set hx with hx | rfl
        · have := (ok_iff d x).1 (h4 x hx)
          exact ⟨this.2.2, this.2.1⟩
        · exact ⟨g1, g2⟩
      refine ⟨fun x hx => (hm x hx).2, ?_⟩
      cases d with
      | zero => exact .inl (fun x hx => by
          have := (hm x hx).1
          obtain ⟨a, b⟩ := x
          simp only [shT] at this
          exact this)
      | succ d => exact .inr (fun x hx => by
          have := (hm x hx).1
          obtain ⟨a, b⟩ := x
          simp only [shT] at this
          exact this.1)
    simp only [cutF]
    rw [if_neg hz, hk]
    simp only
    by_cases hfd : plF es s = true
    · rw [if_pos hfd]
      obtain ⟨⟨lk, ly⟩, L, g1, g2⟩ := last_all n d k (by omega) hok2
      rw [g1]
      simp only
      have hin : ∃ e ∈ flatT k, e.1 = lk := ⟨(lk, ly), by rw [g2]; simp, rfl⟩
      obtain ⟨i1, i2, i3, i4⟩ := cut_all n d k lk (by omega) hok2 hrk hin
      obtain ⟨j1, j2⟩ := hset (cutF n k lk) i2 (by omega)
      exact cut_there s lk ly es ks k (cutF n k lk) p F w hfd (by omega) h1 h3 hre h hnd hk (fun q G W hN => last_any n d k q G W (by omega) hok2 hN lk ly g1) (fun q G W hN hG => cut_any n d k lk q G W (by omega) hok2 hrk hin hN hG) j1 j2
    · rw [if_neg hfd]
      have hfd2 : plF es s = false := by simpa using hfd
      rw [hfd2] at hp
      obtain ⟨A, B, y, p1, p2, p4, p5, p6⟩ := place_split es (flatL ks) s _ hp hkl2 hr2
      rw [hky] at p1
      obtain rfl := Option.some.inj p1
      have hin : ∃ e ∈ flatT k, e.1 = s := by
        obtain ⟨e, he, hes⟩ := hs
        rw [flat_mk, p2] at he
        rcases List.mem_append.1 he with he | he
        · rcases List.mem_append.1 he with he | he
          · have := p5 e he; rw [hes, lessS_irr] at this; cases this
          · exact ⟨e, he, hes⟩
        · have := p6 e he; rw [hes, lessS_irr] at this; cases this
      obtain ⟨i1, i2, i3, i4⟩ := cut_all n d k s (by omega) hok2 hrk hin
      obtain ⟨j1, j2⟩ := hset (cutF n k s) i2 (by omega)
      exact cut_kid s es ks k (cutF n k s) p F w hfd2 (by omega) h1 h3 hre h hnd hk (fun q G W hN hG => cut_any n d k s q G W (by omega) hok2 hrk hin hN hG) j1 j2
end Go.Proofs.Ytopgakdgifmecaa

/-! CONTRACT of package tree's without and Cut. CONDITIONS: each theorem's own hypotheses. -/
namespace Go.Proofs.Ytopgakdgifmecaa
open Go.RowKit
set_option linter.unusedVariables false
set_option maxRecDepth 100000

/-- A key that is there. -/
def hasK (ns : List Nq) (s : List UInt8) : Bool := (flatT (rootQ ns)).any (fun e => e.1 == s)
/-- What is wrong with a cut. -/
def cutC (ns : List Nq) (s : List UInt8) : Int := if readC ns ≠ 0 then readC ns else if hasK ns s = true then 0 else 5
/-- The root behind a cut. -/
def cutT (ns : List Nq) (s : List UInt8) : Tr := lowT (cutF 101 (rootQ ns) s)
theorem hasK_iff (ns : List Nq) (s : List UInt8) : hasK ns s = true ↔ ∃ e ∈ flatT (rootQ ns), e.1 = s := by
  unfold hasK
  simp [List.any_eq_true]
theorem cut_plain (ns : List Nq) (s : List UInt8) (h : readC ns = 0) : RiseE (flatT (rootQ ns)) ∧ (flatT (rootQ ns)).length ≤ 100 ∧ (∀ e ∈ flatT (rootQ ns), e.1.length ≤ 60) ∧ (∀ (u : Int) (ok : Bool), FindR s (rootQ ns) u ok → ok = hasK ns s) ∧
    (hasK ns s = true → ∃ d, d < 101 ∧ okT d (rootQ ns) ∧ flatT (cutT ns s) = cutR s (flatT (rootQ ns)) ∧ (cutT ns s = .mk [] [] ∨ ∃ d', d' < 101 ∧ okT d' (cutT ns s) ∧ sizeT (cutT ns s) ≤ 1000)) := by
  obtain ⟨h1, h2, h3, h4⟩ := root_rise ns h
  have hsm := h1
  unfold smallQ at hsm
  simp only [Bool.and_eq_true, decide_eq_true_eq] at hsm
  have hsum := flat_sum ns h
  refine ⟨h4, by omega, (flat_few ns h).2, fun u ok hf => ?_, fun hk => ?_⟩
  · obtain ⟨f1, f2⟩ := find_flat s hf (root_good ns h2 hsm.2.1).1 h4
    cases ok with
    | true => exact ((hasK_iff ns s).2 ⟨_, f1 rfl, rfl⟩).symm
    | false =>
      cases hq : hasK ns s with
      | false => rfl
      | true =>
        obtain ⟨e, he, hes⟩ := (hasK_iff ns s).1 hq
        exact absurd hes ((f2 rfl).2 e he)
  · have hs := (hasK_iff ns s).1 hk
    obtain ⟨d, hd, hok⟩ : ∃ d, d < 101 ∧ okT d (rootQ ns) := by
      rcases root_ok ns h with h | h
      · rw [h.2] at hs
        obtain ⟨e, he, _⟩ := hs
        simp [flat_mk, flatL, inter_nil] at he
      · exact h
    obtain ⟨g1, g2⟩ := without_all 101 d (rootQ ns) s hd hok h4 hs
    refine ⟨d, hd, hok, g1, ?_⟩
    rcases g2 with g2 | ⟨d', hd', hok'⟩
    · exact .inl g2
    · refine .inr ⟨d', by omega, hok', ?_⟩
      unfold cutT
      obtain ⟨k1, _⟩ := lay_keys (lowT (cutF 101 (rootQ ns) s)) 0 (ok_fit d' _ hok')
      have hone : ∀ n ∈ layN 0 (lowT (cutF 101 (rootQ ns) s)), 1 ≤ n.keys.length := fun n hn => by
        obtain ⟨q, hq⟩ := List.getElem?_of_mem hn
        exact (whole_open (lay_good _ d' 0 q n hok' hq).1).1
      have h5 := lay_size _ hone
      rw [k1, layN_len, g1] at h5
      have h6 := (cutR_sub s (flatT (rootQ ns))).length_le
      omega
set_option maxHeartbeats 4000000 in
theorem without_any (s : List UInt8) (n d : Nat) (t : Tr) (hd : d < n) (hok : okT d t) (hr : RiseE (flatT t)) (hs : ∃ e ∈ flatT t, e.1 = s) (p : Nat) (F : List Nat) (w : World) (h : NdT w t p F) (hnd : F.Nodup) :
    Calls Try.prog 35 #[.pointer (some ⟨p, 0, none⟩), .string (str s)] w fun e w' => ∃ q G, e = .returned (ptrV q) ∧ NdT w' (lowT (cutF n t s)) q G ∧ G.Nodup ∧ Chg F w w' := by
  have cC := cut_any n d t s p F w hd hok hr hs h hnd
  obtain ⟨T, hT⟩ : ∃ T, cutF n t s = T := ⟨_, rfl⟩
  rw [hT] at cC ⊢
  clear hok hr hs h hnd hT hd
  go_enter Try.func35, Try.ntmps35
  go_wp2_with fail
  refine cC.mono ?_
  rintro e w4 ⟨rfl, G4, hN4, hnd4, hin4, hc4⟩
  have cL := lowered_any T p G4 w4 hN4 hnd4
  have HC4 := Lib.hid hc4
  clear cC hN4 hnd4 hin4 hc4
  go_wp2_with fail
  refine cL.mono ?_
  rintro e w5 ⟨q, G, rfl, hN5, hnd5, hin5, rfl⟩
  have HN5 := Lib.hid hN5
  have HND5 := Lib.hid hnd5
  clear cL hN5 hnd5 hin5
  go_wp2_with fail
  go_ret
  exact ⟨q, G, rfl, HN5.out, HND5.out, HC4.out⟩
set_option maxHeartbeats 4000000 in
theorem show_empty (p : Nat) (G : List Nat) (w : World) (hN : NdT w (.mk [] []) p G) :
    Calls Try.prog 33 #[.pointer (some ⟨p, 0, none⟩)] w fun e w' => e = .returned (.agg #[.slice none 0 0]) ∧ Below w.heap.size w w' := by
  obtain ⟨ae, ak, ce, ck, hB, hp, -, -, -, -⟩ := hN.open
  have z0 : Blk _ _ _ [_] := Blk.new w #[.slice none 0 0] 24
  have hb0 := (Below.refl w.heap.size w).alloc (Nat.le_refl _) (.cells #[.slice none 0 0] 24)
  obtain ⟨w0, hw0⟩ : ∃ W, w.alloc (.cells #[.slice none 0 0] 24) = W := ⟨_, rfl⟩
  rw [hw0] at z0 hb0
  have n0 : w0.cell? ⟨p, 0, none⟩ = some (.slice ae 0 ce) := (hB.keep hb0 hp).cell (j := 0) rfl
  obtain ⟨m, hm⟩ : ∃ m, w.heap.size = m := ⟨_, rfl⟩
  rw [hm] at z0
  have HW0 := Lib.hid hw0
  have HM := Lib.hid hm
  have q0 := z0.cell (j := 0) rfl
  have q1 := z0.free 0
  have HZ2 : Hid (Blk (w0.setCell ⟨m, 0, none⟩ (.slice none 0 0)) m 24 [.slice none 0 0]) := Lib.hid (z0.set 0 (.slice none 0 0))
  have HB : Hid (Below w.heap.size w (w0.setCell ⟨m, 0, none⟩ (.slice none 0 0))) := Lib.hid (hb0.setCell (p := ⟨m, 0, none⟩) (by rw [hm]; exact Nat.le_refl _) _)
  clear hN hB hp z0 hb0 hw0 hm
  go_enter Try.func33, Try.ntmps33
  go_upto_region 1 with fail
  rw [HW0.out, HM.out]
  go_wp2_with fail
  refine bodyPost_ret (results_row1 rfl _ _ m [.slice none 0 0] rfl HZ2.out rfl rfl (by kernel_rfl)) rfl ?_
  exact ⟨rfl, HB.out⟩
structure CutOk (ns : List Nq) (s : List UInt8) (w w' : World) (u : Value) : Prop where
  low : Below w.heap.size w w'
  bad : cutC ns s ≠ 0 → u = .slice none 0 0
  good : cutC ns s = 0 → (cutT ns s = .mk [] [] ∧ u = .slice none 0 0) ∨ (∃ d, d < 101 ∧ okT d (cutT ns s) ∧ sizeT (cutT ns s) ≤ 1000 ∧ ∃ F', LdN w' u (layN 0 (cutT ns s)) F' ∧ ∀ b ∈ F', w.heap.size ≤ b)
set_option maxHeartbeats 16000000 in
theorem treeCut_any (ns : List Nq) (ao : Option Addr) (cap : Nat) (s : List UInt8) (w : World) (hl : ns.length ≤ 9223372036854775806) (hF : FewKeys ns) (hS : Nodes w ao ns) :
    Calls Try.prog 20 #[.agg #[.slice ao ns.length cap], .string (str s)] w fun e w' => ∃ u, e = .returned (.tuple #[.agg #[u], .int .i64 (cutC ns s)]) ∧ CutOk ns s w w' u := by
  have cR := fun W (hW : Below w.heap.size w W) => read_any ns ao cap W hl hF (hS.keep hW)
  have z0 := Blk.new w #[.slice ao ns.length cap] 24
  have hb0 := (Below.refl w.heap.size w).alloc (Nat.le_refl _) (.cells #[.slice ao ns.length cap] 24)
  have hs0 : (w.alloc (.cells #[.slice ao ns.length cap] 24)).heap.size = w.heap.size + 1 := by simp
  generalize hw0 : w.alloc (.cells #[.slice ao ns.length cap] 24) = w0 at z0 hb0 hs0
  have z1 : Blk _ _ _ [_] := Blk.new w0 #[.slice none 0 0] 24
  have hb1 := (Below.refl w0.heap.size w0).alloc (Nat.le_refl _) (.cells #[.slice none 0 0] 24)
  have hs1 : (w0.alloc (.cells #[.slice none 0 0] 24)).heap.size = w0.heap.size + 1 := by simp
  generalize hw1 : w0.alloc (.cells #[.slice none 0 0] 24) = w1 at z1 hb1 hs1
  obtain ⟨m3, hm3⟩ : ∃ m, w.heap.size = m := ⟨_, rfl⟩
  have hm6 : w0.heap.size = m3 + 1 := by omega
  have HZ0 : Hid (Blk w1 m3 24 [.slice ao ns.length cap]) := Lib.hid (by rw [← hm3]; exact Blk.call z0 hb1)
  have HZ1 : Hid (Blk w1 (m3 + 1) 24 [.slice none 0 0]) := Lib.hid (by rw [← hm6]; exact z1)
  have HB1 : Hid (Below w.heap.size w w1) := Lib.hid (hb0.trans (hb1.mono (by omega)))
  have HS1 : Hid (w1.heap.size = m3 + 2) := Lib.hid (by omega)
  have HW0 := Lib.hid hw0
  have HW1 := Lib.hid hw1
  have HM3 := Lib.hid hm3
  have p0 := HZ0.out.cell (j := 0) rfl
  have c1 := cR w1 HB1.out
  have HPL := Lib.hid (cut_plain ns s)
  have HORD := Lib.hid (root_ord ns)
  obtain ⟨R, hR⟩ : ∃ R, readC ns = R := ⟨_, rfl⟩
  rw [hR] at c1
  have HR := Lib.hid hR
  obtain ⟨S, hS2⟩ : ∃ S, str s = S := ⟨_, rfl⟩
  have HSTR := Lib.hid hS2
  rw [hS2]
  obtain ⟨L, hL⟩ : ∃ L, ns.length = L := ⟨_, rfl⟩
  rw [hL] at p0 c1 HW0 ⊢
  have HLL := Lib.hid hL
  have hbR : R = 0 ∨ R ≠ 0 := by omega
  clear cR hS hF hl hw0 z0 hb0 hR hL hs0 z1 hb1 hs1 hw1 hm3 hm6 hS2
  have HEND : Hid (∀ (W : World) (c : Int), cutC ns s = c → Below w1.heap.size w1 W → c ≠ 0 → Blk W (m3 + 1) 24 [.slice none 0 0] ∧ CutOk ns s w (W.setCell ⟨m3 + 1, 0, none⟩ (.slice none 0 0)) (.slice none 0 0) ∧ Blk (W.setCell ⟨m3 + 1, 0, none⟩ (.slice none 0 0)) (m3 + 1) 24 [.slice none 0 0]) := Lib.hid (fun W c hc hb hn => by
    have h1 := HZ1.out.call hb
    refine ⟨h1, ⟨(below_stepE HB1.out HB1.out.size hb).setCell (p := ⟨m3 + 1, 0, none⟩) (by have := HM3.out; show w.heap.size ≤ m3 + 1; omega) _, fun _ => rfl, fun h => absurd (hc ▸ h) hn⟩, h1.set 0 _⟩)
  go_enter Try.func20, Try.ntmps20
  go_upto_region 1 with fail
  rw [HM3.out, HW0.out, HW1.out]
  go_wp2_with fail
  refine c1.mono ?_
  rintro e w2 ⟨po, rfl, hr⟩
  have HRD := Lib.hid hr
  have HB2 := Lib.hid hr.low
  clear c1 p0 hr
  rcases hbR with h0 | h0
  · obtain ⟨p, F, rfl, hnd, hnod, hge, hlk, hle⟩ := HRD.out.root (by rw [HR.out]; exact h0)
    subst h0
    have cf := find_any s 101 (rootQ ns) p F w2 hnd (HORD.out HR.out) (root_good ns hlk hle).1 (root_good ns hlk hle).2.1
    rw [HSTR.out] at cf
    have HND := Lib.hid hnd
    have HNOD := Lib.hid hnod
    have HGE := Lib.hid hge
    have HQ := Lib.hid (HPL.out HR.out)
    clear hnd hnod hge hlk hle
    go_wp2_with fail
    refine cf.mono ?_
    rintro e w3 ⟨u, ok, rfl, hfr, hb3⟩
    have HB3 := Lib.hid (below_stepE HB2.out HB2.out.size hb3)
    have HB23 := Lib.hid hb3
    have hok := HQ.out.2.2.2.1 u ok hfr
    clear cf hfr hb3
    cases ok
    · have HC : Hid (cutC ns s = 5) := Lib.hid (by unfold cutC; rw [if_neg (by rw [HR.out]; decide), if_neg (by rw [← hok]; decide)])
      obtain ⟨g1, g2, g3⟩ := HEND.out w3 5 HC.out HB3.out (by decide)
      have x0 := g1.cell (j := 0) rfl
      have x1 := g1.free 0
      have HG2 := Lib.hid g2
      have HG3 := Lib.hid g3
      clear g1 g2 g3 hok HQ
      go_wp2_with fail
      refine bodyPost_ret (results_row_tmp rfl _ _ (m3 + 1) [.slice none 0 0] rfl HG3.out rfl rfl (by kernel_rfl)) rfl ?_
      exact ⟨_, by rw [HC.out]; rfl, HG2.out⟩
    · have HC : Hid (cutC ns s = 0) := Lib.hid (by unfold cutC; rw [if_neg (by rw [HR.out]; decide), if_pos hok.symm])
      have c9 : Calls Try.prog 35 #[.pointer (some ⟨p, 0, none⟩), .string S] w3 fun e w4 => ∃ q, e = .returned (.pointer (some ⟨q, 0, none⟩)) ∧ Calls Try.prog 33 #[.pointer (some ⟨q, 0, none⟩)] w4 fun e w5 => ∃ au nu cu, e = .returned (.agg #[.slice au nu cu]) ∧ Blk w5 (m3 + 1) 24 [.slice none 0 0] ∧ Blk (w5.setCell ⟨m3 + 1, 0, none⟩ (.slice au nu cu)) (m3 + 1) 24 [.slice au nu cu] ∧ CutOk ns s w (w5.setCell ⟨m3 + 1, 0, none⟩ (.slice au nu cu)) (.slice au nu cu) := by
        obtain ⟨q1, q2, q3, -, q5⟩ := HQ.out
        obtain ⟨d, q6, q7, q8, q9⟩ := q5 hok.symm
        have hs := (hasK_iff ns s).1 hok.symm
        rw [← HSTR.out]
        refine (without_any s 101 d (rootQ ns) q6 q7 q1 hs p F w3 (HND.out.below HB23.out) HNOD.out).mono ?_
        rintro e w4 ⟨q, G, rfl, hN4, hnd4, hc4⟩
        have hb4 : Below w1.heap.size w1 w4 := HB3.out.trans (hc4.below (B := w1.heap.size) (fun b hb => (HGE.out b hb).1) HB3.out.size)
        have hs1 := HS1.out
        have hs4 := hb4.size
        refine ⟨q, rfl, ?_⟩
        have hN4 : NdT w4 (cutT ns s) q G := hN4
        rcases q9 with q9 | ⟨d', g1, g2, g3⟩
        · have hN4' := hN4
          rw [q9] at hN4'
          refine (show_empty q G w4 hN4').mono ?_
          rintro e w5 ⟨rfl, hb5⟩
          have hb15 := below_stepE hb4 hb4.size hb5
          have h5 := HZ1.out.call hb15
          exact ⟨none, 0, 0, rfl, h5, h5.set 0 _, (below_stepE HB1.out HB1.out.size hb15).setCell (p := ⟨m3 + 1, 0, none⟩) (by have := HM3.out; show w.heap.size ≤ m3 + 1; omega) _, fun _ => rfl, fun _ => .inl ⟨q9, rfl⟩⟩
        · refine (show_any d' 102 _ q G w4 (by omega) g2 (fun e he => by
            rw [q8] at he
            have := q3 e ((cutR_sub s _).subset he)
            omega) hN4 g3).mono ?_
          rintro e w5 ⟨u', F', rfl, hL, hF', hb5⟩
          obtain ⟨rs, hrow, -, -⟩ := id hL
          obtain ⟨au, cu, rfl, -, -, -, -⟩ := owns_shape hrow
          have hb15 := below_stepE hb4 hb4.size hb5
          have h5 := HZ1.out.call hb15
          exact ⟨au, _, cu, rfl, h5, h5.set 0 _, (below_stepE HB1.out HB1.out.size hb15).setCell (p := ⟨m3 + 1, 0, none⟩) (by have := HM3.out; show w.heap.size ≤ m3 + 1; omega) _, fun h => absurd HC.out h, fun _ => .inr ⟨d', g1, g2, g3, F', hL.same (fun b hb => heap_setCell_other w5 ⟨m3 + 1, 0, none⟩ b _ (by have := hF' b hb; show b ≠ m3 + 1; omega)), fun b hb => by have := hF' b hb; have := HM3.out; omega⟩⟩
      clear hok HQ
      go_wp2_with fail
      refine c9.mono ?_
      rintro e w5 ⟨q, rfl, c10⟩
      clear c9
      go_wp2_with fail
      refine c10.mono ?_
      rintro e w6 ⟨au, nu, cu, rfl, g1, g3, g2⟩
      have x0 := g1.cell (j := 0) rfl
      have x1 := g1.free 0
      have HG2 := Lib.hid g2
      have HG3 := Lib.hid g3
      clear c10 g1 g2 g3
      go_wp2_with fail
      refine bodyPost_ret (results_row_tmp rfl _ _ (m3 + 1) [.slice au nu cu] rfl HG3.out rfl rfl (by kernel_rfl)) rfl ?_
      exact ⟨_, by rw [HC.out]; rfl, HG2.out⟩
  · have iR : (R != 0) = true := by simpa using h0
    obtain ⟨g1, g2, g3⟩ := HEND.out w2 R (by unfold cutC; rw [if_pos (by rw [HR.out]; exact h0), HR.out]) HB2.out h0
    have HC : Hid (cutC ns s = R) := Lib.hid (by unfold cutC; rw [if_pos (by rw [HR.out]; exact h0), HR.out])
    have x0 := g1.cell (j := 0) rfl
    have x1 := g1.free 0
    have HG2 := Lib.hid g2
    have HG3 := Lib.hid g3
    clear g1 g2 g3 h0
    go_wp2_with fail
    refine bodyPost_ret (results_row_tmp rfl _ _ (m3 + 1) [.slice none 0 0] rfl HG3.out rfl rfl (by kernel_rfl)) rfl ?_
    exact ⟨_, by rw [HC.out]; rfl, HG2.out⟩
end Go.Proofs.Ytopgakdgifmecaa

/-! CONTRACT of the reference's CutPairs. CONDITIONS: each theorem's own hypotheses. -/
namespace Go.Proofs.Ytopgakdgifmecaa
open Go.RowKit
set_option linter.unusedVariables false
set_option maxRecDepth 100000

theorem cutR_snoc (s : List UInt8) (l : List En) (j : Nat) (x : En) (h : l[j]? = some x) : cutR s (l.take (j + 1)) = if (x.1 == s) = true then cutR s (l.take j) else cutR s (l.take j) ++ [x] := by
  rw [take_snocI l j x h, cutR_app]
  cases hq : (x.1 == s) with
  | true => simp [cutR, hq]
  | false => simp [cutR, hq]
theorem cutR_full (s : List UInt8) (l : List En) : (cutR s l).length = l.length ↔ l.any (fun e => e.1 == s) = false := by
  unfold cutR
  rw [List.length_filter_eq_length_iff, List.any_eq_false]
  simp
theorem cut_code (ns : List Nq) (s : List UInt8) (h : readC ns = 0) (K M : Nat) (hK : (cutR s (flatT (rootQ ns))).length = K) (hM : (flatT (rootQ ns)).length = M) : cutC ns s = if K = M then 5 else 0 := by
  have := cutR_full s (flatT (rootQ ns))
  rw [hK, hM] at this
  unfold cutC hasK
  rw [if_neg (by rw [h]; decide)]
  by_cases hq : K = M
  · rw [if_pos hq, this.1 hq]; rfl
  · rw [if_neg hq]
    cases hz : (flatT (rootQ ns)).any (fun e => e.1 == s) with
    | false => exact absurd (this.2 hz) hq
    | true => rfl
structure CrOk (ns : List Nq) (s : List UInt8) (w w' : World) (u : Value) : Prop where
  low : Below w.heap.size w w'
  row : cutC ns s = 0 → OwnPr w' w.heap.size u (cutR s (flatT (rootQ ns)))
  bad : cutC ns s ≠ 0 → u = .slice none 0 0
theorem str_ne (a b : List UInt8) : ((str a).toList == (str b).toList) = (a == b) := by
  rw [Lib.toList_data, Lib.toList_data, str_data, str_data]
set_option maxHeartbeats 16000000 in
theorem cutPairs_any (ns : List Nq) (ao : Option Addr) (cap : Nat) (s : List UInt8) (w : World) (hl : ns.length ≤ 9223372036854775806) (hF : FewKeys ns) (hS : Nodes w ao ns) :
    Calls Try.prog 21 #[.agg #[.slice ao ns.length cap], .string (str s)] w fun e w' => ∃ u, e = .returned (.tuple #[u, .int .i64 (cutC ns s)]) ∧ CrOk ns s w w' u := by
  have cP := fun W (hW : Below w.heap.size w W) => pairs_any ns ao cap W hl hF (hS.keep hW)
  have hfew := flat_few ns
  have hpc0 : readC ns ≠ 0 → cutC ns s = readC ns := fun h => by unfold cutC; rw [if_pos h]
  have hpc2 := cut_code ns s
  obtain ⟨m, hm⟩ : ∃ m, flatT (rootQ ns) = m := ⟨_, rfl⟩
  obtain ⟨R, hR⟩ : ∃ R, readC ns = R := ⟨_, rfl⟩
  obtain ⟨L, hL⟩ : ∃ L, ns.length = L := ⟨_, rfl⟩
  rw [hR] at cP hfew hpc0 hpc2
  rw [hm] at hfew hpc2
  rw [hL] at cP ⊢
  have HR := Lib.hid hR
  have HM := Lib.hid hm
  have HFEW := Lib.hid hfew
  have HP0 := Lib.hid hpc0
  have HP2 := Lib.hid hpc2
  have z0 := Blk.new w #[.slice ao L cap] 24
  have hb0 := (Below.refl w.heap.size w).alloc (Nat.le_refl _) (.cells #[.slice ao L cap] 24)
  generalize hw0 : w.alloc (.cells #[.slice ao L cap] 24) = w0 at z0 hb0
  have HW0 := Lib.hid hw0
  have p0 := z0.cell (j := 0) rfl
  have c0 := cP w0 hb0
  have HB0 := Lib.hid hb0
  have hR2 : R = 0 ∨ R ≠ 0 := by omega
  obtain ⟨S, hS2⟩ : ∃ S, str s = S := ⟨_, rfl⟩
  have HSTR := Lib.hid hS2
  rw [hS2]
  clear cP hfew hm hR hl hF hS hw0 z0 hb0 hL hpc0 hpc2 hS2
  go_enter Try.func21, Try.ntmps21
  go_upto_region 1 with fail
  rw [HW0.out]
  clear HW0
  go_wp2_with fail
  refine c0.mono ?_
  rintro e w1 ⟨u, rfl, hp⟩
  have HP := Lib.hid hp
  have HB1 := Lib.hid (below_stepE HB0.out HB0.out.size hp.low)
  clear c0 p0 hp
  rcases hR2 with h0 | h0
  · have hrow := HP.out.row (by rw [HR.out]; exact h0)
    rw [HM.out] at hrow
    have hf := HFEW.out h0
    obtain ⟨av, cv, ev, -⟩ := owns_shape hrow
    obtain ⟨M, hM⟩ : ∃ M, m.length = M := ⟨_, rfl⟩
    rw [hM] at ev
    subst ev
    have HCC : Hid (∀ j, j < M → ∃ key x bb, m[j]? = some (key, x) ∧ av = some ⟨bb, 0, none⟩ ∧ bb < w1.heap.size ∧ w1.cell? ⟨bb, j * 2, none⟩ = some (.string (str key)) ∧ w1.cell? ⟨bb, j * 2 + 1, none⟩ = some (.int .i64 x)) := Lib.hid (fun j hj => by
      have h1 : m[j]? = some (m[j]'(by rw [hM]; exact hj)) := List.getElem?_eq_getElem _
      rw [← hM] at hrow
      obtain ⟨bb, h2, h3, -, h4, h5⟩ := hrow.cell h1
      exact ⟨_, _, bb, h1, h2, h3, h4, h5⟩)
    have hM3 : M ≤ 300 := by rw [← hM]; exact hf.1
    have HMM := Lib.hid hM
    have HFL : Hid (∀ j, (cutR s (m.take j)).length ≤ 300) := Lib.hid (fun j => by
      have := (cutR_sub s (m.take j)).length_le
      rw [List.length_take] at this
      omega)
    have HR0 := Lib.hid h0
    subst h0
    clear hrow hf hM
    go_wp2_with fail
    go_loopw [8, 21] (fun vo ix wr => ∃ (j : Nat), j ≤ M ∧ ix = .int .i64 j ∧ Hid (Below w1.heap.size w1 wr) ∧ Hid (OwnPr wr w1.heap.size vo (cutR s (m.take j)))) (fun _ ix _ => M - (intOf ix).toNat)
    case atStart => exact ⟨0, Nat.zero_le _, rfl, Lib.hid (Below.refl _ _), Lib.hid (OwnPr.nil _ _)⟩
    case round =>
      obtain ⟨j, hj, rfl, hbw, hO⟩ := hrel
      by_cases hlt : j < M
      · have iI : (j : Int) < (M : Int) := by omega
        obtain ⟨key, x, bb, hmj, rfl, hbb, x0, x1⟩ := HCC.out j hlt
        have d0 := (hbw.out.cell (p := ⟨bb, j * 2, none⟩) hbb).trans x0
        have d1 := (hbw.out.cell (p := ⟨bb, j * 2 + 1, none⟩) hbb).trans x1
        have hfs := cutR_snoc s m j (key, x) hmj
        have hlen := HFL.out j
        have g2 := str_ne key s
        rw [HSTR.out] at g2
        obtain ⟨z2, hz2⟩ : ∃ z, (key == s) = z := ⟨_, rfl⟩
        rw [hz2] at g2
        have hfs : cutR s (m.take (j + 1)) = if z2 = true then cutR s (m.take j) else cutR s (m.take j) ++ [(key, x)] := by rw [← hz2]; exact hfs
        obtain ⟨acc, hacc⟩ : ∃ a, cutR s (m.take j) = a := ⟨_, rfl⟩
        have hO := hO.out
        rw [hacc] at hO hlen hfs
        have HN := Lib.hid hfs
        have hz : Blk _ _ _ [_, _] := Blk.new wr #[.string (str key), .int .i64 x] 57
        have hba := (Below.refl wr.heap.size wr).alloc (Nat.le_refl _) (.cells #[.string (str key), .int .i64 x] 57)
        have HBA := Lib.hid (below_stepE hbw.out hbw.out.size hba)
        have HOA := Lib.hid (hO.keep hba)
        obtain ⟨SK, hSK⟩ : ∃ S, str key = S := ⟨_, rfl⟩
        have HSK := Lib.hid hSK
        rw [hSK] at d0 g2 hz hba HBA HOA
        clear x0 x1 hmj hfs hz2 hbw hO hacc hSK
        go_upto_region 8 with fail
        generalize hwa : wr.alloc (.cells #[.string SK, .int .i64 x] 57) = wa at *
        clear hwa d0 d1 hba
        generalize wr.heap.size = gp at *
        have p0 := hz.cell (j := 0) rfl
        have p1 := hz.cell (j := 1) rfl
        have g3 : (SK.toList != S.toList) = !z2 := by rw [← g2]; rfl
        cases z2
        · have HN2 : Hid (cutR s (m.take (j + 1)) = acc ++ [(key, x)]) := Lib.hid (by rw [HN.out]; rfl)
          go_upto_region 9 with fail
          obtain rfl := HSK.out
          have hb4 := (Below.refl wa.heap.size wa).alloc (Nat.le_refl _) (.cells #[.string (str key), .int .i64 x] 57)
          have HZ4 : Hid (Blk _ _ _ [_, _]) := Lib.hid (Blk.new wa #[.string (str key), .int .i64 x] 57)
          have HB4 := Lib.hid (below_stepE HBA.out HBA.out.size hb4)
          have HO4 := Lib.hid (HOA.out.keep hb4)
          have hsz4 := HB4.out.size
          clear hb4 HN hz HBA HOA
          go_wp2_with (first | (at_builtin; refine wpList_append_pr rfl (.tmp 29) (.tmp 31) rfl w1.heap.size u8 acc rfl HO4.out (key, x) wa.heap.size rfl HZ4.out (by omega) hsz4 ?_; intro v5 w5 ho5 hg5 hw5; have HB5 := Lib.hid (HB4.out.grown hg5 hsz4 (fun b hb => (HO4.out.lt b hb).1)); have HO5 : Hid (OwnPr w5 w1.heap.size v5 (cutR s (m.take (j + 1)))) := Lib.hid (by rw [HN2.out]; exact ho5); clear ho5 hg5) | fail)
          go_roundw
          case rel => exact ⟨j + 1, by omega, by go_num, HB5, HO5⟩
          case measure => simp [intOf]; omega
        · have HN2 : Hid (cutR s (m.take (j + 1)) = acc) := Lib.hid (by rw [HN.out]; rfl)
          have HO5 : Hid (OwnPr wa w1.heap.size u8 (cutR s (m.take (j + 1)))) := Lib.hid (by rw [HN2.out]; exact HOA.out)
          clear HN hz HOA
          go_wp2_with fail
          go_roundw
          case rel => exact ⟨j + 1, by omega, by go_num, HBA, HO5⟩
          case measure => simp [intOf]; omega
      · have iI : ¬ (j : Int) < (M : Int) := by omega
        have hO2 := hO.out
        rw [List.take_of_length_le (by rw [HMM.out]; omega)] at hO2
        obtain ⟨acc, hacc⟩ : ∃ a, cutR s m = a := ⟨_, rfl⟩
        rw [hacc] at hO2
        obtain ⟨a5, c5, e5, -, -, -, -⟩ := owns_shape hO2
        obtain ⟨K, hK5⟩ : ∃ K, acc.length = K := ⟨_, rfl⟩
        rw [hK5] at e5
        subst e5
        have HC := Lib.hid (HP2.out trivial K M (by rw [hacc]; exact hK5) HMM.out)
        have HBF := Lib.hid (below_stepE HB1.out HB1.out.size hbw.out)
        have HRW : Hid (OwnPr wr w.heap.size (.slice a5 K c5) (cutR s m)) := Lib.hid (by rw [hacc]; exact owns_base hO2 HB1.out.size)
        clear hO2 hO hbw hacc hK5
        by_cases hK : K = M
        · have HC9 : Hid (cutC ns s = 5) := Lib.hid (by rw [HC.out, if_pos hK])
          have e1 : ((K : Int) == (M : Int)) = true := by rw [hK]; simp
          clear hK
          go_wp2_with fail
          go_ret2
          exact ⟨_, by rw [HC9.out]; rfl, ⟨HBF.out, (fun h => by rw [HC9.out] at h; cases h), fun _ => rfl⟩⟩
        · have HC9 : Hid (cutC ns s = 0) := Lib.hid (by rw [HC.out, if_neg hK])
          have e1 : ((K : Int) == (M : Int)) = false := beq_eq_false_iff_ne.2 (by omega)
          clear hK
          go_wp2_with fail
          go_ret2
          exact ⟨_, by rw [HC9.out]; rfl, ⟨HBF.out, (fun _ => by rw [HM.out]; exact HRW.out), fun h => absurd HC9.out h⟩⟩
  · have iR : (R != 0) = true := by simpa using h0
    have HC := Lib.hid (HP0.out h0)
    have HN := Lib.hid h0
    clear h0
    go_wp2_with fail
    go_ret2
    exact ⟨_, by rw [HC.out]; rfl, ⟨HB1.out, fun h => absurd (HC.out.symm.trans h) HN.out, fun _ => rfl⟩⟩
end Go.Proofs.Ytopgakdgifmecaa
