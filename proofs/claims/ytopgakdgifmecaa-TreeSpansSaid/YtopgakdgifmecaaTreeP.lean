/-
  PLAIN: trees of nodes that came in as a list; which may be; two ways of reading them agree.
  CONDITIONS: none.
-/
namespace Go.Proofs.Ytopgakdgifmecaa
set_option linter.unusedVariables false

/-- A node of a list of nodes. -/
structure Nq where
  keys : List (List UInt8)
  vals : List Int
  kids : List Int
abbrev En := List UInt8 × Int
/-- A tree of nodes. -/
inductive Tr where
  | mk (es : List En) (ks : List Tr)
def Tr.es : Tr → List En | .mk es _ => es
def Tr.ks : Tr → List Tr | .mk _ ks => ks
def wholeQ (n : Nq) : Bool := (decide (1 ≤ n.keys.length) && decide (n.keys.length ≤ 3)) && ((n.vals.length == n.keys.length) && ((n.kids.length == 0) || (n.kids.length == n.keys.length + 1)))
def inQ (len i : Nat) (n : Nq) : Prop := ∀ k ∈ n.kids, (i : Int) < k ∧ k < (len : Int)
def kidsQ (n : Nq) : List Nat := n.kids.map Int.toNat
def entsQ (n : Nq) : List En := n.keys.zip n.vals
def kidsAt (ns : List Nq) (i : Nat) : List Nat := match ns[i]? with | some n => kidsQ n | none => []
def entsAt (ns : List Nq) (i : Nat) : List En := match ns[i]? with | some n => entsQ n | none => []
/-- What is put between: the entries between what is below the kids. -/
def interT : List En → List (List En) → List En
  | es, [] => es
  | [], k :: _ => k
  | e :: es, k :: ks => k ++ e :: interT es ks
mutual
def flatT : Tr → List En
  | .mk es ks => interT es (flatL ks)
def flatL : List Tr → List (List En)
  | [] => []
  | t :: l => flatT t :: flatL l
end
/-- How deep; and whether all leaves are. -/
structure DE where
  d : Nat
  e : Bool
mutual
def deT : Tr → DE
  | .mk _ [] => ⟨0, true⟩
  | .mk _ (k :: ks) => ⟨(deT k).d + 1, (deT k).e && deL (deT k).d ks⟩
def deL (d : Nat) : List Tr → Bool
  | [] => true
  | k :: ks => ((deT k).e && (deT k).d == d) && deL d ks
end
def branchQ (ns : List Nq) : Nat → Nat → Tr
  | 0, _ => .mk [] []
  | f + 1, i => .mk (entsAt ns i) ((kidsAt ns i).map (branchQ ns f))
def posQ (ns : List Nq) : Nat → Nat → List Nat
  | 0, _ => []
  | f + 1, i => i :: (kidsAt ns i).flatMap (posQ ns f)
/-! ### the reference's reading -/
structure IR where
  l : List En
  d : Nat
  seen : List Nat
def kidsR (rec : Nat → List Nat → Option IR) (len i : Nat) : List Int → List En → Bool → List Nat → List En → Nat → Option IR
  | [], _, _, seen, out, deep => some ⟨out, deep + 1, seen⟩
  | k :: ks, es, first, seen, out, deep => if k ≤ (i : Int) ∨ (len : Int) ≤ k then none else match rec k.toNat seen with
    | none => none
    | some r => if first = false ∧ r.d ≠ deep then none else kidsR rec len i ks es.tail false r.seen (out ++ r.l ++ es.take 1) r.d
def bump (seen : List Nat) (i : Nat) : List Nat := seen.set i (seen.getD i 0 + 1)
def innerR (ns : List Nq) : Nat → Nat → List Nat → Option IR
  | 0, _, _ => none
  | f + 1, i, seen => match ns[i]? with
    | none => none
    | some n => if wholeQ n = false ∨ 1 < (bump seen i).getD i 0 then none
      else if n.kids = [] then some ⟨entsQ n, 1, bump seen i⟩
      else kidsR (innerR ns f) ns.length i n.kids (entsQ n) true (bump seen i) [] 0
theorem flatL_map : ∀ l : List Tr, flatL l = l.map flatT
  | [] => rfl
  | t :: l => by simp only [flatL, List.map_cons]; rw [flatL_map l]
theorem deL_iff (d : Nat) : ∀ l : List Tr, deL d l = true ↔ ∀ t ∈ l, (deT t).e = true ∧ (deT t).d = d
  | [] => by simp [deL]
  | t :: l => by
    simp only [deL, Bool.and_eq_true, beq_iff_eq, List.mem_cons, forall_eq_or_imp]
    rw [deL_iff d l]
theorem bump_len (seen : List Nat) (i : Nat) : (bump seen i).length = seen.length := by unfold bump; rw [List.length_set]
theorem bump_get (seen : List Nat) (i j : Nat) (h : i < seen.length) : (bump seen i).getD j 0 = seen.getD j 0 + if i = j then 1 else 0 := by
  unfold bump
  simp only [List.getD_eq_getElem?_getD, List.getElem?_set]
  by_cases e : i = j
  · subst e; simp [h]
  · simp [e]
/-- A node that may stand at a place. -/
structure GoodQ (ns : List Nq) (i : Nat) : Prop where
  lt : i < ns.length
  w : ∀ n, ns[i]? = some n → wholeQ n = true ∧ inQ ns.length i n
theorem whole_open {n : Nq} (h : wholeQ n = true) : 1 ≤ n.keys.length ∧ n.keys.length ≤ 3 ∧ n.vals.length = n.keys.length ∧ (n.kids = [] ∨ n.kids.length = n.keys.length + 1) ∧ (entsQ n).length = n.keys.length := by
  unfold wholeQ at h
  simp only [Bool.and_eq_true, decide_eq_true_eq, Bool.or_eq_true, beq_iff_eq] at h
  obtain ⟨⟨h1, h2⟩, h3, h4⟩ := h
  refine ⟨h1, h2, h3, ?_, ?_⟩
  · rcases h4 with h4 | h4
    · exact .inl (List.eq_nil_of_length_eq_zero h4)
    · exact .inr h4
  · unfold entsQ; rw [List.length_zip]; omega
/-! What kids give, one behind the other. -/
theorem kidsR_some (ns : List Nq) (f i : Nat) (hrec : ∀ k seen r, k < ns.length → ns.length - k ≤ f → seen.length = ns.length → innerR ns f k seen = some r →
      r.l = flatT (branchQ ns f k) ∧ (deT (branchQ ns f k)).e = true ∧ r.d = (deT (branchQ ns f k)).d + 1 ∧ (∀ p ∈ posQ ns f k, GoodQ ns p) ∧ r.seen.length = ns.length ∧ (∀ j, r.seen.getD j 0 = seen.getD j 0 + (posQ ns f k).count j) ∧ ((∀ j, seen.getD j 0 ≤ 1) → ∀ j, r.seen.getD j 0 ≤ 1))
    (hf : ns.length - i ≤ f + 1) :
    ∀ (ks : List Int) (es : List En) (first : Bool) (seen : List Nat) (out : List En) (deep : Nat) (r : IR), ks.length = es.length + 1 → seen.length = ns.length → kidsR (innerR ns f) ns.length i ks es first seen out deep = some r →
      (∀ k ∈ ks, (i : Int) < k ∧ k < (ns.length : Int)) ∧ r.l = out ++ interT es ((ks.map Int.toNat).map (fun k => flatT (branchQ ns f k))) ∧ (∀ k ∈ ks.map Int.toNat, (deT (branchQ ns f k)).e = true ∧ (deT (branchQ ns f k)).d + 2 = r.d ∧ (first = false → (deT (branchQ ns f k)).d + 1 = deep)) ∧ (∀ k ∈ ks.map Int.toNat, ∀ p ∈ posQ ns f k, GoodQ ns p) ∧ r.seen.length = ns.length ∧ (∀ j, r.seen.getD j 0 = seen.getD j 0 + ((ks.map Int.toNat).flatMap (posQ ns f)).count j) ∧ ((∀ j, seen.getD j 0 ≤ 1) → ∀ j, r.seen.getD j 0 ≤ 1) := by
  intro ks
  induction ks with
  | nil => intro es first seen out deep r hl; simp at hl
  | cons k ks ih =>
    intro es first seen out deep r hl hs h
    simp only [kidsR] at h
    by_cases c : k ≤ (i : Int) ∨ (ns.length : Int) ≤ k
    · rw [if_pos c] at h; cases h
    rw [if_neg c] at h
    have hk : k.toNat < ns.length := by omega
    cases hr : innerR ns f k.toNat seen with
    | none => rw [hr] at h; cases h
    | some q =>
      rw [hr] at h
      simp only at h
      by_cases c2 : first = false ∧ q.d ≠ deep
      · rw [if_pos c2] at h; cases h
      rw [if_neg c2] at h
      obtain ⟨a1, a2, a3, a4, a5, a6, a7⟩ := hrec k.toNat seen q hk (by omega) hs hr
      cases ks with
      | nil =>
        simp only [kidsR, Option.some.injEq] at h
        subst h
        have he : es = [] := List.eq_nil_of_length_eq_zero (by simpa using hl.symm)
        subst he
        refine ⟨fun x hx => ?_, ?_, ?_, ?_, a5, fun j => ?_, a7⟩
        · simp at hx; subst hx; omega
        · simp [interT, a1]
        · intro x hx
          simp at hx; subst hx
          exact ⟨a2, by show _ = q.d + 1; omega, fun hf => by have : ¬ q.d ≠ deep := fun h => c2 ⟨hf, h⟩; omega⟩
        · intro x hx; simp at hx; subst hx; exact a4
        · rw [a6 j]; simp
      | cons k2 ks =>
        cases es with
        | nil => simp at hl
        | cons e es =>
          obtain ⟨b1, b2, b3, b4, b5, b6, b7⟩ := ih es false q.seen _ q.d r (by simpa using hl) a5 h
          refine ⟨fun x hx => ?_, ?_, ?_, ?_, b5, fun j => ?_, fun h0 => b7 (a7 h0)⟩
          · rcases List.mem_cons.1 hx with rfl | hx
            · omega
            · exact b1 x hx
          · rw [b2, a1]; simp [interT]
          · intro x hx
            have h2 := b3 k2.toNat (by simp)
            have h3 := h2.2.2 rfl
            rw [List.map_cons] at hx
            rcases List.mem_cons.1 hx with rfl | hx
            · exact ⟨a2, by omega, fun hf => by have : ¬ q.d ≠ deep := fun h => c2 ⟨hf, h⟩; omega⟩
            · have h4 := b3 x hx
              have h5 := h4.2.2 rfl
              exact ⟨h4.1, h4.2.1, fun hf => by have : ¬ q.d ≠ deep := fun h => c2 ⟨hf, h⟩; omega⟩
          · intro x hx
            rw [List.map_cons] at hx
            rcases List.mem_cons.1 hx with rfl | hx
            · exact a4
            · exact b4 x hx
          · rw [b6 j, a6 j]
            simp only [List.map_cons, List.flatMap_cons, List.count_append]; omega
theorem inner_some (ns : List Nq) : ∀ (f k : Nat) (seen : List Nat) (r : IR), k < ns.length → ns.length - k ≤ f → seen.length = ns.length → innerR ns f k seen = some r →
      r.l = flatT (branchQ ns f k) ∧ (deT (branchQ ns f k)).e = true ∧ r.d = (deT (branchQ ns f k)).d + 1 ∧ (∀ p ∈ posQ ns f k, GoodQ ns p) ∧ r.seen.length = ns.length ∧ (∀ j, r.seen.getD j 0 = seen.getD j 0 + (posQ ns f k).count j) ∧ ((∀ j, seen.getD j 0 ≤ 1) → ∀ j, r.seen.getD j 0 ≤ 1)
  | 0, k, seen, r, hk, hf, hs, h => by omega
  | f + 1, i, seen, r, hk, hf, hs, h => by
    obtain ⟨n, hn⟩ : ∃ n, ns[i]? = some n := ⟨ns[i], List.getElem?_eq_getElem hk⟩
    simp only [innerR, hn] at h
    by_cases c : wholeQ n = false ∨ 1 < (bump seen i).getD i 0
    · rw [if_pos c] at h; cases h
    rw [if_neg c] at h
    have hw : wholeQ n = true := by
      cases hq : wholeQ n with
      | true => rfl
      | false => exact absurd (.inl hq) c
    have h1 : (bump seen i).getD i 0 ≤ 1 := by
      rcases Nat.lt_or_ge 1 ((bump seen i).getD i 0) with h | h
      · exact absurd (.inr h) c
      · exact h
    have hb : ∀ j, (bump seen i).getD j 0 = seen.getD j 0 + if i = j then 1 else 0 := fun j => bump_get seen i j (by omega)
    have hb1 : (∀ j, seen.getD j 0 ≤ 1) → ∀ j, (bump seen i).getD j 0 ≤ 1 := fun h0 j => by
      by_cases e : i = j
      · subst e; exact h1
      · rw [hb j, if_neg e]; exact h0 j
    obtain ⟨w1, w2, w3, w4, w5⟩ := whole_open hw
    have hB : branchQ ns (f + 1) i = .mk (entsQ n) ((kidsQ n).map (branchQ ns f)) := by simp only [branchQ, entsAt, kidsAt, hn]
    have hP : posQ ns (f + 1) i = i :: (kidsQ n).flatMap (posQ ns f) := by simp only [posQ, kidsAt, hn]
    rw [hB, hP]
    by_cases hz : n.kids = []
    · rw [if_pos hz] at h
      simp only [Option.some.injEq] at h
      subst h
      have hkq : kidsQ n = [] := by unfold kidsQ; rw [hz]; rfl
      rw [hkq]
      refine ⟨by simp [flatT, flatL, interT], by simp [deT], by simp [deT], ?_, by rw [bump_len]; exact hs, fun j => ?_, hb1⟩
      · intro p hp
        simp at hp; subst hp
        exact ⟨hk, fun m hm => by rw [hn] at hm; obtain rfl := Option.some.inj hm; exact ⟨hw, fun x hx => by rw [hz] at hx; simp at hx⟩⟩
      · rw [hb j]; simp [List.count_cons]
    · rw [if_neg hz] at h
      have hlen : n.kids.length = (entsQ n).length + 1 := by
        rcases w4 with h | h
        · exact absurd h hz
        · omega
      obtain ⟨b1, b2, b3, b4, b5, b6, b7⟩ := kidsR_some ns f i (fun k seen r a b c d => inner_some ns f k seen r a b c d) hf n.kids (entsQ n) true (bump seen i) [] 0 r hlen (by rw [bump_len]; exact hs) h
      refine ⟨?_, ?_, ?_, ?_, b5, fun j => ?_, fun h0 => b7 (hb1 h0)⟩
      · rw [b2]
        simp only [flatT, flatL_map, List.map_map, List.nil_append, kidsQ]; rfl
      · unfold kidsQ
        cases hkk : n.kids with
        | nil => exact absurd hkk hz
        | cons k ks =>
          rw [hkk] at b3
          have hh := b3 k.toNat (by simp)
          simp only [List.map_cons, deT, Bool.and_eq_true]
          refine ⟨hh.1, (deL_iff _ _).2 (fun t ht => ?_)⟩
          obtain ⟨x, hx, rfl⟩ := List.mem_map.1 ht
          have h2 := b3 x (by rw [List.map_cons]; exact List.mem_cons_of_mem _ hx)
          exact ⟨h2.1, by omega⟩
      · unfold kidsQ
        cases hkk : n.kids with
        | nil => exact absurd hkk hz
        | cons k ks =>
          rw [hkk] at b3
          have hh := b3 k.toNat (by simp)
          simp only [List.map_cons, deT]; omega
      · intro p hp
        rcases List.mem_cons.1 hp with rfl | hp
        · exact ⟨hk, fun m hm => by rw [hn] at hm; obtain rfl := Option.some.inj hm; exact ⟨hw, b1⟩⟩
        · obtain ⟨x, hx, hp⟩ := List.mem_flatMap.1 hp
          exact b4 x hx p hp
      · rw [b6 j, hb j]
        rw [List.count_cons]
        unfold kidsQ
        by_cases e : i = j
        · subst e; simp; omega
        · simp [e]
/-! The other way round: what may be is read. -/
theorem kidsR_ok (ns : List Nq) (f i : Nat) (hrec : ∀ k seen, k < ns.length → ns.length - k ≤ f → seen.length = ns.length → (∀ p ∈ posQ ns f k, GoodQ ns p) → (deT (branchQ ns f k)).e = true → (∀ j, seen.getD j 0 + (posQ ns f k).count j ≤ 1) → ∃ r, innerR ns f k seen = some r)
    (hf : ns.length - i ≤ f + 1) (D : Nat) :
    ∀ (ks : List Int) (es : List En) (first : Bool) (seen : List Nat) (out : List En) (deep : Nat), seen.length = ns.length → (∀ k ∈ ks, (i : Int) < k ∧ k < (ns.length : Int)) → (first = false → deep = D + 1) →
      (∀ k ∈ ks.map Int.toNat, (deT (branchQ ns f k)).e = true ∧ (deT (branchQ ns f k)).d = D) → (∀ k ∈ ks.map Int.toNat, ∀ p ∈ posQ ns f k, GoodQ ns p) → (∀ j, seen.getD j 0 + ((ks.map Int.toNat).flatMap (posQ ns f)).count j ≤ 1) →
      ∃ r, kidsR (innerR ns f) ns.length i ks es first seen out deep = some r := by
  intro ks
  induction ks with
  | nil => intro es first seen out deep _ _ _ _ _ _; exact ⟨_, rfl⟩
  | cons k ks ih =>
    intro es first seen out deep hs hin hfst hde hg hc
    have hk := hin k (by simp)
    have hkn : k.toNat < ns.length := by omega
    simp only [kidsR]
    rw [if_neg (by omega)]
    have hc1 : ∀ j, seen.getD j 0 + (posQ ns f k.toNat).count j ≤ 1 := fun j => by
      have := hc j
      rw [List.map_cons, List.flatMap_cons, List.count_append] at this; omega
    obtain ⟨r, hr⟩ := hrec k.toNat seen hkn (by omega) hs (hg k.toNat (by simp)) (hde k.toNat (by simp)).1 hc1
    obtain ⟨a1, a2, a3, a4, a5, a6, a7⟩ := inner_some ns f k.toNat seen r hkn (by omega) hs hr
    rw [hr]
    simp only
    have hd := (hde k.toNat (by simp)).2
    rw [if_neg (by rintro ⟨h1, h2⟩; exact h2 (by rw [a3, hd, hfst h1]))]
    refine ih es.tail false r.seen _ r.d a5 (fun x hx => hin x (List.mem_cons_of_mem _ hx)) (fun _ => by omega) (fun x hx => hde x (by rw [List.map_cons]; exact List.mem_cons_of_mem _ hx)) (fun x hx => hg x (by rw [List.map_cons]; exact List.mem_cons_of_mem _ hx)) (fun j => ?_)
    have := hc j
    rw [List.map_cons, List.flatMap_cons, List.count_append] at this
    rw [a6 j]; omega
theorem inner_ok (ns : List Nq) : ∀ (f k : Nat) (seen : List Nat), k < ns.length → ns.length - k ≤ f → seen.length = ns.length → (∀ p ∈ posQ ns f k, GoodQ ns p) → (deT (branchQ ns f k)).e = true → (∀ j, seen.getD j 0 + (posQ ns f k).count j ≤ 1) → ∃ r, innerR ns f k seen = some r
  | 0, k, seen, hk, hf, _, _, _, _ => by omega
  | f + 1, i, seen, hk, hf, hs, hg, he, hc => by
    obtain ⟨n, hn⟩ : ∃ n, ns[i]? = some n := ⟨ns[i], List.getElem?_eq_getElem hk⟩
    have hB : branchQ ns (f + 1) i = .mk (entsQ n) ((kidsQ n).map (branchQ ns f)) := by simp only [branchQ, entsAt, kidsAt, hn]
    have hP : posQ ns (f + 1) i = i :: (kidsQ n).flatMap (posQ ns f) := by simp only [posQ, kidsAt, hn]
    rw [hB] at he
    rw [hP] at hg hc
    obtain ⟨hw, hin⟩ := (hg i (by simp)).w n hn
    have hb : ∀ j, (bump seen i).getD j 0 = seen.getD j 0 + if i = j then 1 else 0 := fun j => bump_get seen i j (by omega)
    have hc0 := hc i
    rw [List.count_cons] at hc0
    simp only [beq_self_eq_true, if_true] at hc0
    simp only [innerR, hn]
    have hbi := hb i
    rw [if_pos rfl] at hbi
    rw [if_neg (by rw [hw]; simp only [Bool.true_eq_false, false_or]; omega)]
    by_cases hz : n.kids = []
    · rw [if_pos hz]; exact ⟨_, rfl⟩
    · rw [if_neg hz]
      obtain ⟨D, hD⟩ : ∃ D, ∀ k ∈ kidsQ n, (deT (branchQ ns f k)).e = true ∧ (deT (branchQ ns f k)).d = D := by
        unfold kidsQ at he ⊢
        cases hkk : n.kids with
        | nil => exact absurd hkk hz
        | cons k ks =>
          rw [hkk] at he
          simp only [List.map_cons, deT, Bool.and_eq_true] at he
          refine ⟨(deT (branchQ ns f k.toNat)).d, fun x hx => ?_⟩
          rw [List.map_cons] at hx
          rcases List.mem_cons.1 hx with rfl | hx
          · exact ⟨he.1, rfl⟩
          · exact (deL_iff _ _).1 he.2 _ (List.mem_map.2 ⟨x, hx, rfl⟩)
      refine kidsR_ok ns f i (fun k seen a b c d e g => inner_ok ns f k seen a b c d e g) hf D n.kids (entsQ n) true (bump seen i) [] 0 (by rw [bump_len]; exact hs) hin (fun h => by cases h) hD (fun k hk p hp => hg p (List.mem_cons_of_mem _ (List.mem_flatMap.2 ⟨k, hk, hp⟩))) (fun j => ?_)
      have := hc j
      rw [List.count_cons] at this
      rw [hb j]
      unfold kidsQ at this
      by_cases e : i = j
      · subst e; simp at this ⊢; omega
      · simp [e] at this ⊢; omega
/-! ### the program's reading -/
def kidsLk (len i : Nat) : List Int → List Bool → Option (List Bool)
  | [], h => some h
  | k :: ks, h => if k ≤ (i : Int) ∨ (len : Int) ≤ k ∨ h.getD k.toNat false = true then none else kidsLk len i ks (h.set k.toNat true)
def linkR (len : Nat) : Nat → List Nq → List Bool → Bool
  | _, [], _ => true
  | i, n :: ns, h => if wholeQ n = false ∨ (0 < i ∧ h.getD i false = false) then false else match kidsLk len i n.kids h with
    | none => false
    | some h' => linkR len (i + 1) ns h'
def b2n (b : Bool) : Nat := if b = true then 1 else 0
theorem set_getD (h : List Bool) (k j : Nat) (hk : k < h.length) : (h.set k true).getD j false = if k = j then true else h.getD j false := by
  simp only [List.getD_eq_getElem?_getD, List.getElem?_set]
  by_cases e : k = j
  · subst e; simp [hk]
  · simp [e]
theorem kidsLk_some (len i : Nat) : ∀ (ks : List Int) (h h' : List Bool), h.length = len → kidsLk len i ks h = some h' → (∀ k ∈ ks, (i : Int) < k ∧ k < (len : Int)) ∧ h'.length = len ∧ ∀ j, b2n (h'.getD j false) = b2n (h.getD j false) + (ks.map Int.toNat).count j
  | [], h, h', hl, e => by
    simp only [kidsLk, Option.some.injEq] at e
    subst e
    exact ⟨fun k hk => by simp at hk, hl, fun j => by simp⟩
  | k :: ks, h, h', hl, e => by
    simp only [kidsLk] at e
    by_cases c : k ≤ (i : Int) ∨ (len : Int) ≤ k ∨ h.getD k.toNat false = true
    · rw [if_pos c] at e; cases e
    rw [if_neg c] at e
    obtain ⟨a1, a2, a3⟩ := kidsLk_some len i ks _ h' (by rw [List.length_set]; exact hl) e
    have hk : k.toNat < h.length := by omega
    have hf : h.getD k.toNat false = false := by
      cases hq : h.getD k.toNat false with
      | false => rfl
      | true => exact absurd (.inr (.inr hq)) c
    refine ⟨fun x hx => ?_, a2, fun j => ?_⟩
    · rcases List.mem_cons.1 hx with rfl | hx
      · omega
      · exact a1 x hx
    · rw [a3 j, set_getD h _ _ hk, List.map_cons, List.count_cons]
      by_cases e : k.toNat = j
      · subst e; rw [if_pos rfl, hf]; simp [b2n]; omega
      · rw [if_neg e]; simp [e]
theorem kidsLk_ok (len i : Nat) : ∀ (ks : List Int) (h : List Bool), h.length = len → (∀ k ∈ ks, (i : Int) < k ∧ k < (len : Int)) → (∀ j, b2n (h.getD j false) + (ks.map Int.toNat).count j ≤ 1) → ∃ h', kidsLk len i ks h = some h'
  | [], h, _, _, _ => ⟨_, rfl⟩
  | k :: ks, h, hl, hin, hc => by
    have hk := hin k (by simp)
    have hc0 := hc k.toNat
    rw [List.map_cons, List.count_cons] at hc0
    simp only [beq_self_eq_true, if_true] at hc0
    have hf : h.getD k.toNat false = false := by
      cases hq : h.getD k.toNat false with
      | false => rfl
      | true => rw [hq] at hc0; simp [b2n] at hc0; omega
    simp only [kidsLk]
    rw [if_neg (by rw [hf]; simp; omega)]
    refine kidsLk_ok len i ks _ (by rw [List.length_set]; exact hl) (fun x hx => hin x (List.mem_cons_of_mem _ hx)) (fun j => ?_)
    have := hc j
    rw [List.map_cons, List.count_cons] at this
    rw [set_getD h _ _ (by omega)]
    by_cases e : k.toNat = j
    · subst e; rw [if_pos rfl]; rw [hf] at this; simp [b2n] at this ⊢; omega
    · rw [if_neg e]; simp [e] at this; exact this
def cntQ (j : Nat) (ns : List Nq) : Nat := (ns.flatMap kidsQ).count j
theorem cntQ_cons (j : Nat) (n : Nq) (ns : List Nq) : cntQ j (n :: ns) = (kidsQ n).count j + cntQ j ns := by
  unfold cntQ; rw [List.flatMap_cons, List.count_append]
theorem cntQ_zero (len j : Nat) : ∀ (ns : List Nq) (i : Nat), j ≤ i → (∀ q n, ns[q]? = some n → inQ len (i + q) n) → cntQ j ns = 0
  | [], _, _, _ => rfl
  | n :: ns, i, h, hin => by
    rw [cntQ_cons, cntQ_zero len j ns (i + 1) (by omega) (fun q m hm => by have := hin (q + 1) m (by simpa using hm); rw [show i + 1 + q = i + (q + 1) by omega]; exact this)]
    have h0 := hin 0 n rfl
    rw [Nat.add_zero, List.count_eq_zero]
    intro hj
    unfold kidsQ at hj
    obtain ⟨k, hk, rfl⟩ := List.mem_map.1 hj
    have := h0 k hk
    omega
theorem link_sound (len : Nat) : ∀ (ns : List Nq) (i : Nat) (h : List Bool), i + ns.length = len → h.length = len → linkR len i ns h = true →
    (∀ q n, ns[q]? = some n → wholeQ n = true ∧ inQ len (i + q) n) ∧ ∀ j, i ≤ j → 0 < j → j < len → cntQ j ns + b2n (h.getD j false) = 1
  | [], i, h, hl, _, _ => ⟨fun q n hq => by simp at hq, fun j h1 _ h2 => by simp at hl; omega⟩
  | n :: ns, i, h, hl, hh, e => by
    simp only [linkR] at e
    by_cases c : wholeQ n = false ∨ (0 < i ∧ h.getD i false = false)
    · rw [if_pos c] at e; cases e
    rw [if_neg c] at e
    cases hk : kidsLk len i n.kids h with
    | none => rw [hk] at e; cases e
    | some h' =>
      rw [hk] at e
      simp only at e
      obtain ⟨a1, a2, a3⟩ := kidsLk_some len i n.kids h h' hh hk
      obtain ⟨b1, b2⟩ := link_sound len ns (i + 1) h' (by simp at hl; omega) a2 e
      have hw : wholeQ n = true := by
        cases hq : wholeQ n with
        | true => rfl
        | false => exact absurd (.inl hq) c
      refine ⟨fun q m hm => ?_, fun j h1 h2 h3 => ?_⟩
      · cases q with
        | zero => simp at hm; subst hm; exact ⟨hw, a1⟩
        | succ q =>
          have := b1 q m (by simpa using hm)
          rw [show i + (q + 1) = i + 1 + q by omega]; exact this
      · by_cases ej : j = i
        · subst ej
          have hhj : h.getD j false = true := by
            cases hq : h.getD j false with
            | true => rfl
            | false => exact absurd (.inr ⟨h2, hq⟩) c
          have hz : cntQ j (n :: ns) = 0 := cntQ_zero len j (n :: ns) j (Nat.le_refl _) (fun q m hm => by
            cases q with
            | zero => simp at hm; subst hm; exact a1
            | succ q =>
              have := (b1 q m (by simpa using hm)).2
              rw [show j + (q + 1) = j + 1 + q by omega]; exact this)
          rw [hz, hhj]; rfl
        · have := b2 j (by omega) h2 h3
          rw [a3 j] at this
          rw [cntQ_cons]
          unfold kidsQ
          omega
theorem link_ok (len : Nat) : ∀ (ns : List Nq) (i : Nat) (h : List Bool), i + ns.length = len → h.length = len → (∀ q n, ns[q]? = some n → wholeQ n = true ∧ inQ len (i + q) n) → (∀ j, i ≤ j → 0 < j → j < len → cntQ j ns + b2n (h.getD j false) = 1) → linkR len i ns h = true
  | [], i, h, _, _, _, _ => rfl
  | n :: ns, i, h, hl, hh, hg, hc => by
    have hlt : i < len := by simp at hl; omega
    have h0 := hg 0 n rfl
    simp only [linkR]
    have hgs : ∀ q m, ns[q]? = some m → wholeQ m = true ∧ inQ len (i + 1 + q) m := fun q m hm => by
      have := hg (q + 1) m (by simpa using hm)
      rw [show i + 1 + q = i + (q + 1) by omega]; exact this
    rw [if_neg (by
      rintro (h1 | ⟨h1, h2⟩)
      · rw [h0.1] at h1; cases h1
      · have := hc i (Nat.le_refl _) h1 hlt
        rw [h2, cntQ_zero len i (n :: ns) i (Nat.le_refl _) (fun q m hm => (hg q m hm).2)] at this
        cases this)]
    have hin : ∀ k ∈ n.kids, (i : Int) < k ∧ k < (len : Int) := h0.2
    obtain ⟨h', hk⟩ := kidsLk_ok len i n.kids h hh hin (fun j => by
      by_cases hm : j ∈ n.kids.map Int.toNat
      · obtain ⟨k, hk, rfl⟩ := List.mem_map.1 hm
        have := hin k hk
        have := hc k.toNat (by omega) (by omega) (by omega)
        rw [cntQ_cons] at this
        unfold kidsQ at this
        omega
      · rw [List.count_eq_zero.2 hm]
        unfold b2n; split <;> omega)
    rw [hk]
    simp only
    obtain ⟨a1, a2, a3⟩ := kidsLk_some len i n.kids h h' hh hk
    refine link_ok len ns (i + 1) h' (by simp at hl; omega) a2 hgs (fun j h1 h2 h3 => ?_)
    have := hc j (by omega) h2 h3
    rw [cntQ_cons] at this
    rw [a3 j]
    unfold kidsQ at this
    omega
/-! ### each place once -/
theorem count_flatMap_sum (g : Nat → List Nat) (j : Nat) : ∀ l : List Nat, (l.flatMap g).count j = (l.map (fun x => (g x).count j)).sum
  | [] => rfl
  | x :: l => by rw [List.flatMap_cons, List.count_append, List.map_cons, List.sum_cons, count_flatMap_sum g j l]
theorem pos_count (ns : List Nq) (j : Nat) : ∀ (f i : Nat), i < ns.length → ns.length - i ≤ f → (∀ p ∈ posQ ns f i, GoodQ ns p) → (posQ ns f i).count j = (if i = j then 1 else 0) + ((posQ ns f i).flatMap (kidsAt ns)).count j
  | 0, i, hi, hf, _ => by omega
  | f + 1, i, hi, hf, hg => by
    simp only [posQ] at hg ⊢
    rw [List.flatMap_cons, List.count_cons, List.count_append]
    obtain ⟨n, hn⟩ : ∃ n, ns[i]? = some n := ⟨ns[i], List.getElem?_eq_getElem hi⟩
    have hin := ((hg i (by simp)).w n hn).2
    have key : ∀ l : List Nat, (∀ k ∈ l, i < k ∧ k < ns.length ∧ ∀ p ∈ posQ ns f k, GoodQ ns p) → (l.flatMap (posQ ns f)).count j = l.count j + ((l.flatMap (posQ ns f)).flatMap (kidsAt ns)).count j := by
      intro l
      induction l with
      | nil => intro _; rfl
      | cons k l ih =>
        intro hl
        obtain ⟨h1, h2, h3⟩ := hl k (by simp)
        have e1 := pos_count ns j f k h2 (by omega) h3
        have e2 := ih (fun x hx => hl x (List.mem_cons_of_mem _ hx))
        rw [List.flatMap_cons, List.count_append, List.flatMap_append, List.count_append, List.count_cons, e1, e2]
        by_cases e : k = j
        · subst e; simp; omega
        · simp [e]; omega
    have hk := key (kidsAt ns i) (fun k hk => by
      have hk2 : k ∈ kidsQ n := by simpa [kidsAt, hn] using hk
      unfold kidsQ at hk2
      obtain ⟨x, hx, rfl⟩ := List.mem_map.1 hk2
      have := hin x hx
      exact ⟨by omega, by omega, fun p hp => hg p (List.mem_cons_of_mem _ (List.mem_flatMap.2 ⟨_, hk, hp⟩))⟩)
    rw [hk]
    by_cases e : i = j
    · subst e; simp; omega
    · simp [e]
theorem flat_range (ns : List Nq) : (List.range ns.length).flatMap (kidsAt ns) = ns.flatMap kidsQ := by
  have h : ∀ (l pre : List Nq), (List.range' pre.length l.length).flatMap (kidsAt (pre ++ l)) = l.flatMap kidsQ := by
    intro l
    induction l with
    | nil => intro pre; rfl
    | cons n l ih =>
      intro pre
      rw [List.length_cons, List.range'_succ, List.flatMap_cons, List.flatMap_cons]
      have e : kidsAt (pre ++ n :: l) pre.length = kidsQ n := by unfold kidsAt; simp
      have := ih (pre ++ [n])
      simp only [List.length_append, List.length_cons, List.length_nil, List.append_assoc, List.cons_append, List.nil_append] at this
      rw [e]; rw [this]
  have := h ns []
  simp only [List.nil_append, List.length_nil] at this
  rw [← List.range_eq_range'] at this
  exact this
theorem sum_one (g : Nat → Nat) (p : Nat) (hz : ∀ x, x ≠ p → g x = 0) : ∀ l : List Nat, (l.map g).sum = l.count p * g p
  | [] => by simp
  | x :: l => by
    rw [List.map_cons, List.sum_cons, sum_one g p hz l, List.count_cons]
    by_cases e : x = p
    · subst e; simp; rw [Nat.add_mul]; omega
    · rw [hz x e]; simp [e]
/-- Linked nodes: each place is come to just once. -/
theorem link_once (ns : List Nq) (hg : ∀ q n, ns[q]? = some n → wholeQ n = true ∧ inQ ns.length q n) (hc : ∀ j, 0 < j → j < ns.length → cntQ j ns = 1) (hn : 0 < ns.length) :
    (∀ p ∈ posQ ns ns.length 0, GoodQ ns p) ∧ ∀ j, j < ns.length → (posQ ns ns.length 0).count j = 1 := by
  have hG : ∀ i, i < ns.length → GoodQ ns i := fun i hi => ⟨hi, fun n h => hg i n h⟩
  have hpos : ∀ (f i : Nat), i < ns.length → ∀ p ∈ posQ ns f i, p < ns.length := by
    intro f
    induction f with
    | zero => intro i _ p hp; simp [posQ] at hp
    | succ f ih =>
      intro i hi p hp
      simp only [posQ] at hp
      rcases List.mem_cons.1 hp with rfl | hp
      · exact hi
      · obtain ⟨k, hk, hp⟩ := List.mem_flatMap.1 hp
        obtain ⟨n, hn⟩ : ∃ n, ns[i]? = some n := ⟨ns[i], List.getElem?_eq_getElem hi⟩
        have hk2 : k ∈ kidsQ n := by simpa [kidsAt, hn] using hk
        unfold kidsQ at hk2
        obtain ⟨x, hx, rfl⟩ := List.mem_map.1 hk2
        have := (hg i n hn).2 x hx
        exact ih _ (by omega) p hp
  have hgood : ∀ p ∈ posQ ns ns.length 0, GoodQ ns p := fun p hp => hG p (hpos _ _ hn p hp)
  refine ⟨hgood, fun j => ?_⟩
  induction j using Nat.strongRecOn with
  | _ j IH =>
    intro hj
    have h0 := pos_count ns j ns.length 0 hn (by omega) hgood
    have hlt : ∀ x, (kidsAt ns x).count j ≠ 0 → x < j ∧ x < ns.length := fun x hx => by
      have hm : j ∈ kidsAt ns x := List.count_pos_iff.1 (by omega)
      unfold kidsAt at hm
      cases hnx : ns[x]? with
      | none => rw [hnx] at hm; simp at hm
      | some n =>
        rw [hnx] at hm
        simp only [kidsQ] at hm
        obtain ⟨k, hk, hkj⟩ := List.mem_map.1 hm
        have := (hg x n hnx).2 k hk
        exact ⟨by omega, (List.getElem?_eq_some_iff.1 hnx).1⟩
    rw [count_flatMap_sum] at h0
    rcases Nat.eq_zero_or_pos j with rfl | hjp
    · rw [h0, if_pos rfl]
      have : (List.map (fun x => (kidsAt ns x).count 0) (posQ ns ns.length 0)).sum = 0 := by
        rw [sum_one (fun x => (kidsAt ns x).count 0) 0 (fun x hx => by
          rcases Nat.eq_zero_or_pos ((kidsAt ns x).count 0) with h | h
          · exact h
          · have := hlt x (by omega); omega)]
        rcases Nat.eq_zero_or_pos ((kidsAt ns 0).count 0) with h | h
        · rw [h]; rfl
        · have := hlt 0 (by omega); omega
      omega
    · rw [if_neg (by omega)] at h0
      have hcj := hc j hjp hj
      unfold cntQ at hcj
      rw [← flat_range, count_flatMap_sum] at hcj
      -- just one parent
      have hex : ∃ p, p < ns.length ∧ (kidsAt ns p).count j ≠ 0 := by
        apply Classical.byContradiction
        intro hno
        have : (List.map (fun x => (kidsAt ns x).count j) (List.range ns.length)).sum = 0 := by
          have : ∀ l : List Nat, (∀ x ∈ l, (kidsAt ns x).count j = 0) → (l.map (fun x => (kidsAt ns x).count j)).sum = 0 := by
            intro l
            induction l with
            | nil => intro _; rfl
            | cons x l ih => intro h; rw [List.map_cons, List.sum_cons, h x (by simp), ih (fun y hy => h y (by simp [hy]))]
          exact this _ (fun x hx => by
            rcases Nat.eq_zero_or_pos ((kidsAt ns x).count j) with h | h
            · exact h
            · exact absurd ⟨x, List.mem_range.1 hx, by omega⟩ hno)
        omega
      obtain ⟨p, hp, hpc⟩ := hex
      have hone : ∀ x, x ≠ p → (kidsAt ns x).count j = 0 := fun x hx => by
        rcases Nat.eq_zero_or_pos ((kidsAt ns x).count j) with h | h
        · exact h
        · exfalso
          have hxl := (hlt x (by omega)).2
          have two : ∀ l : List Nat, x ∈ l → p ∈ l → 2 ≤ (l.map (fun x => (kidsAt ns x).count j)).sum := by
            intro l
            induction l with
            | nil => intro h; simp at h
            | cons y l ih =>
              intro h1 h2
              have mem_le : ∀ (l : List Nat) (z : Nat), z ∈ l → (kidsAt ns z).count j ≤ (l.map (fun x => (kidsAt ns x).count j)).sum := by
                intro l z
                induction l with
                | nil => intro h; simp at h
                | cons y l ih =>
                  intro h
                  rw [List.map_cons, List.sum_cons]
                  rcases List.mem_cons.1 h with rfl | h
                  · omega
                  · have := ih h; omega
              rw [List.map_cons, List.sum_cons]
              rcases List.mem_cons.1 h1 with e1 | h1
              · rcases List.mem_cons.1 h2 with e2 | h2
                · exact absurd (e1.trans e2.symm) hx
                · have := mem_le l p h2
                  subst e1; omega
              · rcases List.mem_cons.1 h2 with e2 | h2
                · have := mem_le l x h1
                  subst e2; omega
                · have := ih h1 h2; omega
          have := two (List.range ns.length) (List.mem_range.2 hxl) (List.mem_range.2 hp)
          omega
      rw [sum_one _ p hone] at hcj h0
      have hc1 : (List.range ns.length).count p = 1 := by
        rw [List.count_range]; simp [hp]
      rw [hc1, Nat.one_mul] at hcj
      rw [h0, hcj, IH p (hlt p hpc).1 hp]
/-- The other way round. -/
theorem once_link (ns : List Nq) (hg : ∀ p ∈ posQ ns ns.length 0, GoodQ ns p) (hc : ∀ j, j < ns.length → (posQ ns ns.length 0).count j = 1) (hn : 0 < ns.length) :
    (∀ q n, ns[q]? = some n → wholeQ n = true ∧ inQ ns.length q n) ∧ ∀ j, 0 < j → j < ns.length → cntQ j ns = 1 := by
  have hgood : ∀ i, i < ns.length → GoodQ ns i := fun i hi => hg i (List.count_pos_iff.1 (by rw [hc i hi]; omega))
  have hpl : ∀ p ∈ posQ ns ns.length 0, p < ns.length := fun p hp => (hg p hp).lt
  refine ⟨fun q n hq => (hgood q (List.getElem?_eq_some_iff.1 hq).1).w n hq, fun j h0 hj => ?_⟩
  have e := pos_count ns j ns.length 0 hn (by omega) hg
  rw [hc j hj, if_neg (by omega)] at e
  unfold cntQ
  rw [← flat_range]
  have hperm : (posQ ns ns.length 0).Perm (List.range ns.length) := by
    rw [List.perm_iff_count]
    intro a
    by_cases ha : a < ns.length
    · rw [hc a ha, List.count_range]; simp [ha]
    · rw [List.count_eq_zero.2 (fun h => ha (hpl a h)), List.count_range]; simp [ha]
  rw [count_flatMap_sum] at e ⊢
  rw [← (hperm.map _).sum_nat]; omega
/-- BOTH READINGS AGREE. -/
theorem read_same (ns : List Nq) (hn : 0 < ns.length) : (linkR ns.length 0 ns (List.replicate ns.length false) = true ∧ (deT (branchQ ns ns.length 0)).e = true) ↔ ∃ r, innerR ns ns.length 0 (List.replicate ns.length 0) = some r ∧ (∀ j, j < ns.length → r.seen.getD j 0 = 1) := by
  have hz : ∀ j, (List.replicate ns.length 0).getD j 0 = 0 := fun j => by
    simp only [List.getD_eq_getElem?_getD, List.getElem?_replicate]; split <;> rfl
  have hzb : ∀ j, (List.replicate ns.length false).getD j false = false := fun j => by
    simp only [List.getD_eq_getElem?_getD, List.getElem?_replicate]; split <;> rfl
  constructor
  · rintro ⟨hl, he⟩
    obtain ⟨a1, a2⟩ := link_sound ns.length ns 0 _ (by omega) (by simp) hl
    obtain ⟨b1, b2⟩ := link_once ns (fun q n h => by have := a1 q n h; rw [Nat.zero_add] at this; exact this) (fun j h1 h2 => by have := a2 j (by omega) h1 h2; rw [hzb j] at this; exact this) hn
    obtain ⟨r, hr⟩ := inner_ok ns ns.length 0 (List.replicate ns.length 0) hn (by omega) (by simp) b1 he (fun j => by
      rw [hz j]
      by_cases hj : j < ns.length
      · rw [b2 j hj]; omega
      · rw [List.count_eq_zero.2 (fun h => hj (b1 j h).lt)]; omega)
    obtain ⟨_, _, _, _, _, c6, _⟩ := inner_some ns ns.length 0 _ r hn (by omega) (by simp) hr
    exact ⟨r, hr, fun j hj => by rw [c6 j, hz j, b2 j hj]⟩
  · rintro ⟨r, hr, hs⟩
    obtain ⟨c1, c2, c3, c4, c5, c6, _⟩ := inner_some ns ns.length 0 _ r hn (by omega) (by simp) hr
    obtain ⟨d1, d2⟩ := once_link ns c4 (fun j hj => by have := c6 j; rw [hz j, hs j hj] at this; omega) hn
    exact ⟨link_ok ns.length ns 0 _ (by omega) (by simp) (fun q n h => by rw [Nat.zero_add]; exact d1 q n h) (fun j _ h1 h2 => by rw [hzb j, d2 j h1 h2]; rfl), c2⟩
end Go.Proofs.Ytopgakdgifmecaa
