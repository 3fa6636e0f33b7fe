/-
  ROLLS, plain: outcomes of a digester; what paths lead to; they are right, and sound where digests are open.
  CONDITIONS: each theorem's own hypotheses.
-/
import Derived.Test.YtcplnfaopigoiaaDoorRollB
import Derived.Test.YtcplnfaopigoiaaDoorGDig
namespace Go.Proofs.YtcplnfaopigoiaaDoor
open Go.RowKit CodeMath Go.Proofs.YtcplnfaopigoiaaDoor.FrameMath
set_option linter.unusedVariables false
set_option maxRecDepth 100000

/-- What came of a digest that was asked for: there is an error just if there was one, or it can't be made. -/
def OutD (e : Int) (R : DR) (b : List UInt8) (e' : Int) : Prop := (e' = 0 → e = 0 ∧ R = .ok b) ∧ (e' ≠ 0 → e ≠ 0 ∨ ∃ c, R = .err c)
theorem OutD.st {e : Int} {R : DR} (hR : ∀ c, R = .err c → c ≠ 0) : OutD e R (stD e R).1 (stD e R).2 := by
  by_cases he : e = 0
  · subst he
    cases R with
    | err c => exact ⟨fun h => absurd h (hR c rfl), fun _ => .inr ⟨c, rfl⟩⟩
    | ok b => exact ⟨fun _ => ⟨rfl, rfl⟩, fun h => absurd rfl h⟩
  · rw [stD_bad he]
    exact ⟨fun h => absurd h he, fun _ => .inl he⟩
theorem OutD.step {m e : Int} {s : Bool} {p b1 : List UInt8} {R : DR} {e1 : Int} (h : OutD e R b1 e1) : OutD e (stepP m s p R) (stD e1 (digR m 6 (cond s [p, b1] [b1, p]))).1 (stD e1 (digR m 6 (cond s [p, b1] [b1, p]))).2 := by
  by_cases h0 : e1 = 0
  · subst h0
    obtain ⟨rfl, rfl⟩ := h.1 rfl
    exact OutD.st (fun c hc => digR_ne hc)
  · rw [stD_bad h0]
    refine ⟨fun h => absurd h h0, fun _ => ?_⟩
    rcases h.2 h0 with h | ⟨c, rfl⟩
    · exact .inl h
    · exact .inr ⟨c, rfl⟩
theorem OutD.short {e : Int} {R D : DR} {b1 : List UInt8} {e1 : Int} (h : OutD 10 R b1 e1) : OutD e (.err 10) (stD e1 D).1 (stD e1 D).2 := by
  have h0 : e1 ≠ 0 := fun h0 => absurd (h.1 h0).1 (by decide)
  rw [stD_bad h0]
  exact ⟨fun h => absurd h h0, fun _ => .inr ⟨10, rfl⟩⟩
theorem OutD.same {e : Int} {x : List UInt8} : OutD e (.ok x) x e := ⟨fun h => ⟨h, rfl⟩, fun h => .inl h⟩
theorem OutD.bad {e : Int} {x : List UInt8} {c : Int} : OutD e (.err c) x 10 := ⟨fun h => absurd h (by decide), fun _ => .inr ⟨c, rfl⟩⟩
theorem foldS_err (m : Int) : ∀ (ss : List Bool) (ps : List (List UInt8)) (c : Int), ∃ c', foldS m ss ps (.err c) = .err c'
  | [], [], c => ⟨c, rfl⟩
  | s :: ss, p :: ps, c => foldS_err m ss ps c
  | [], q :: ps, c => ⟨10, rfl⟩
  | t :: ss, [], c => ⟨10, rfl⟩
theorem sidesF_one (h i : Nat) : sidesF h 1 i = [] := by cases h <;> rfl
theorem sidesF_two (h n i : Nat) (h2 : 2 ≤ n) : sidesF (h + 1) n i = if i < hf n then sidesF h (hf n) i ++ [false] else sidesF h (n - hf n) (i - hf n) ++ [true] := by
  show (if n ≤ 1 then [] else _) = _
  rw [if_neg (by omega)]
/-- What CheckInclude tells. -/
def incFaultR (m : Int) (top : List UInt8) (n i : Int) (entry : List UInt8) (path : List (List UInt8)) : Int :=
  if refR m n ≠ 0 then refR m n else if ¬ (0 ≤ i ∧ i < n) then 6 else match foldS m (sidesF 6 n.toNat i.toNat) path (digR m 5 [entry]) with
  | .err _ => 10
  | .ok x => if x = top then 0 else 10
/-! ### what a list began with -/
def stepE (m : Int) (s : Bool) (p : List UInt8) (x : List UInt8 × List UInt8) : Option (List UInt8 × List UInt8) := match s with
  | true => (match digR m 6 [p, x.1] with
    | .err _ => none
    | .ok a => match digR m 6 [p, x.2] with
      | .err _ => none
      | .ok b => some (a, b))
  | false => (match digR m 6 [x.2, p] with
    | .err _ => none
    | .ok b => some (x.1, b))
def baseE (had : Bool) (old : List UInt8) (path : List (List UInt8)) : Option (List UInt8 × List UInt8) := match had, path with
  | true, [] => some (old, old)
  | false, [p] => some (p, p)
  | _, _ => none
def extO (m : Int) : Nat → Nat → Nat → Bool → List UInt8 → List (List UInt8) → Option (List UInt8 × List UInt8)
  | 0, _, _, had, old, path => baseE had old path
  | h + 1, n, k, had, old, path => if n ≤ k then baseE had old path else match path.getLast? with
    | none => none
    | some p => if k ≤ hf n then (extO m h (hf n) k had old path.dropLast).bind (stepE m false p) else (extO m h (n - hf n) (k - hf n) false [] path.dropLast).bind (stepE m true p)
theorem extO_base (m : Int) (h n k : Nat) (had : Bool) (old : List UInt8) (path : List (List UInt8)) (hk : n ≤ k) : extO m h n k had old path = baseE had old path := by
  cases h with
  | zero => rfl
  | succ h => show (if n ≤ k then _ else _) = _; rw [if_pos hk]
theorem extO_none (m : Int) (h n k : Nat) (had : Bool) (old : List UInt8) (hk : ¬ n ≤ k) : extO m (h + 1) n k had old [] = none := by
  show (if n ≤ k then _ else _) = _
  rw [if_neg hk]; rfl
theorem extO_snoc (m : Int) (h n k : Nat) (had : Bool) (old : List UInt8) (ps : List (List UInt8)) (p : List UInt8) (hk : ¬ n ≤ k) : extO m (h + 1) n k had old (ps ++ [p]) = if k ≤ hf n then (extO m h (hf n) k had old ps).bind (stepE m false p) else (extO m h (n - hf n) (k - hf n) false [] ps).bind (stepE m true p) := by
  show (if n ≤ k then _ else _) = _
  rw [if_neg hk, List.getLast?_append, List.dropLast_append_of_ne_nil (by simp)]
  simp
def OutE (e : Int) (O : Option (List UInt8 × List UInt8)) (a b : List UInt8) (e' : Int) : Prop := (e' = 0 → e = 0 ∧ O = some (a, b)) ∧ (e' ≠ 0 → e ≠ 0 ∨ O = none)
theorem OutE.same {e : Int} {a b : List UInt8} : OutE e (some (a, b)) a b e := ⟨fun h => ⟨h, rfl⟩, fun h => .inl h⟩
theorem OutE.bad {e : Int} {a b : List UInt8} : OutE e none a b 10 := ⟨fun h => absurd h (by decide), fun _ => .inr rfl⟩
theorem OutE.left {m e : Int} {p a b : List UInt8} {O : Option (List UInt8 × List UInt8)} {e1 : Int} (h : OutE e O a b e1) : OutE e (O.bind (stepE m false p)) a (stD e1 (digR m 6 [b, p])).1 (stD e1 (digR m 6 [b, p])).2 := by
  by_cases h0 : e1 = 0
  · subst h0
    obtain ⟨rfl, rfl⟩ := h.1 rfl
    show OutE 0 (match digR m 6 [b, p] with | .err _ => none | .ok y => some (a, y)) _ _ _
    cases hd : digR m 6 [b, p] with
    | err c => exact ⟨fun h => absurd h (digR_ne hd), fun _ => .inr rfl⟩
    | ok y => exact ⟨fun _ => ⟨rfl, rfl⟩, fun h => absurd rfl h⟩
  · rw [stD_bad h0]
    refine ⟨fun h => absurd h h0, fun _ => ?_⟩
    rcases h.2 h0 with h | rfl
    · exact .inl h
    · exact .inr rfl
theorem OutE.right {m e : Int} {p a b : List UInt8} {O : Option (List UInt8 × List UInt8)} {e1 : Int} (h : OutE e O a b e1) : OutE e (O.bind (stepE m true p)) (stD e1 (digR m 6 [p, a])).1 (stD (stD e1 (digR m 6 [p, a])).2 (digR m 6 [p, b])).1 (stD (stD e1 (digR m 6 [p, a])).2 (digR m 6 [p, b])).2 := by
  by_cases h0 : e1 = 0
  · subst h0
    obtain ⟨rfl, rfl⟩ := h.1 rfl
    show OutE 0 (match digR m 6 [p, a] with | .err _ => none | .ok x => match digR m 6 [p, b] with | .err _ => none | .ok y => some (x, y)) _ _ _
    cases hd : digR m 6 [p, a] with
    | err c =>
      rw [stD_err, stD_bad (digR_ne hd)]
      exact ⟨fun h => absurd h (digR_ne hd), fun _ => .inr rfl⟩
    | ok x =>
      rw [stD_ok]
      simp only
      cases hd2 : digR m 6 [p, b] with
      | err c => exact ⟨fun h => absurd h (digR_ne hd2), fun _ => .inr rfl⟩
      | ok y => exact ⟨fun _ => ⟨rfl, rfl⟩, fun h => absurd rfl h⟩
  · rw [stD_bad h0, stD_bad h0]
    refine ⟨fun h => absurd h h0, fun _ => ?_⟩
    rcases h.2 h0 with h | rfl
    · exact .inl h
    · exact .inr rfl
theorem OutE.never {O : Option (List UInt8 × List UInt8)} {a b : List UInt8} {e1 : Int} (h : OutE 10 O a b e1) : e1 ≠ 0 := fun h0 => absurd (h.1 h0).1 (by decide)
theorem OutE.lost {e : Int} {a b : List UInt8} {e1 : Int} (h : e1 ≠ 0) : OutE e none a b e1 := ⟨fun h0 => absurd h0 h, fun _ => .inr rfl⟩
/-- What CheckExtend tells. -/
def extFaultR (m : Int) (old : List UInt8) (k : Int) (top : List UInt8) (n : Int) (path : List (List UInt8)) : Int :=
  if refR m n ≠ 0 then refR m n else if k < 0 ∨ n < k then 6 else if k = 0 then
    (if path = [] ∧ old = rootL m [] ∧ (n = 0 → top = old) then 0 else 10)
  else if extO m 6 n.toNat k.toNat true old path = some (old, top) then 0 else 10
/-! ### sound -/
theorem rollR_inj : ∀ (n : Nat) (l l' : List (List UInt8)) (x : List UInt8), l.length ≤ n → rollR 2 l = .ok x → rollR 2 l' = .ok x → l = l'
  | 0, l, l', x, hn, h, h' => by
    obtain rfl := List.eq_nil_of_length_eq_zero (Nat.le_zero.1 hn)
    rw [rollR_nil] at h
    match l' with
    | [] => rfl
    | [y] => rw [rollR_one] at h'; exact absurd (digR_tags h h') (by decide)
    | a :: b :: r =>
      rw [rollR_two 2 _ (by simp)] at h'
      obtain ⟨p, q, _, _, hd⟩ := pairR_ok h'
      exact absurd (digR_tags h hd) (by decide)
  | n + 1, l, l', x, hn, h, h' => by
    match l with
    | [] =>
      rw [rollR_nil] at h
      match l' with
      | [] => rfl
      | [y] => rw [rollR_one] at h'; exact absurd (digR_tags h h') (by decide)
      | a :: b :: r =>
        rw [rollR_two 2 _ (by simp)] at h'
        obtain ⟨p, q, _, _, hd⟩ := pairR_ok h'
        exact absurd (digR_tags h hd) (by decide)
    | [z] =>
      rw [rollR_one] at h
      match l' with
      | [] => rw [rollR_nil] at h'; exact absurd (digR_tags h h') (by decide)
      | [y] => rw [rollR_one] at h'; exact digR_inj h h'
      | a :: b :: r =>
        rw [rollR_two 2 _ (by simp)] at h'
        obtain ⟨p, q, _, _, hd⟩ := pairR_ok h'
        exact absurd (digR_tags h hd) (by decide)
    | c :: d :: s =>
      have hf1 := hf_lt (n := (c :: d :: s).length) (by simp)
      rw [rollR_two 2 _ (by simp)] at h
      obtain ⟨p, q, hp, hq, hd⟩ := pairR_ok h
      match l' with
      | [] => rw [rollR_nil] at h'; exact absurd (digR_tags hd h') (by decide)
      | [y] => rw [rollR_one] at h'; exact absurd (digR_tags hd h') (by decide)
      | a :: b :: r =>
        rw [rollR_two 2 _ (by simp)] at h'
        obtain ⟨p', q', hp', hq', hd'⟩ := pairR_ok h'
        have e := digR_inj hd hd'
        simp only [List.cons.injEq, and_true] at e
        obtain ⟨rfl, rfl⟩ := e
        have e1 := rollR_inj n _ _ _ (by rw [List.length_take]; omega) hp hp'
        have e2 := rollR_inj n _ _ _ (by rw [List.length_drop]; omega) hq hq'
        rw [← List.take_append_drop (hf (c :: d :: s).length) (c :: d :: s), e1, e2, List.take_append_drop]
theorem inc_sound : ∀ (h : Nat) (l : List (List UInt8)) (i : Nat) (x y z : List UInt8) (path : List (List UInt8)), l.length ≤ 2 ^ h → l[i]? = some x → rollR 2 l = .ok z → foldS 2 (sidesF h l.length i) path (digR 2 5 [y]) = .ok z → y = x
  | 0, l, i, x, y, z, path, hl, hi, hz, hp => by
    have h1 : l.length = 1 := by have := (List.getElem?_eq_some_iff.1 hi).1; simp at hl; omega
    match l, h1 with
    | [a], _ =>
      obtain rfl : i = 0 := by have := (List.getElem?_eq_some_iff.1 hi).1; simpa using this
      simp at hi; subst hi
      rw [rollR_one] at hz
      match path, hp with
      | [], hp => have := digR_inj hp hz; simpa using this
      | q :: qs, hp => cases hp
  | h + 1, l, i, x, y, z, path, hl, hi, hz, hp => by
    have hlt := (List.getElem?_eq_some_iff.1 hi).1
    by_cases h1 : l.length ≤ 1
    · match l, h1, hlt with
      | [a], _, hlt =>
        obtain rfl : i = 0 := by simpa using hlt
        simp at hi; subst hi
        rw [rollR_one] at hz
        match path, hp with
        | [], hp => have := digR_inj hp hz; simpa using this
        | q :: qs, hp => cases hp
    · have h2 : 2 ≤ l.length := by omega
      obtain ⟨k0, k1, k2⟩ := hf_lt h2
      have hk : hf l.length ≤ 2 ^ h := by
        obtain ⟨b, hb, h3, h4⟩ := hf_of h2
        rw [hb]
        refine Nat.pow_le_pow_right (by decide) ?_
        rcases Nat.lt_or_ge h b with h5 | h5
        · exfalso
          have : 2 ^ (h + 1) ≤ 2 ^ b := Nat.pow_le_pow_right (by decide) h5
          omega
        · exact h5
      rw [rollR_two 2 l h2] at hz
      obtain ⟨a, c, ha, hc, hd⟩ := pairR_ok hz
      rw [sidesF_two h _ i h2] at hp
      have l1 : (l.take (hf l.length)).length = hf l.length := by rw [List.length_take]; omega
      have l2 : (l.drop (hf l.length)).length = l.length - hf l.length := by rw [List.length_drop]
      rcases List.eq_nil_or_concat path with rfl | ⟨ps, p, rfl⟩
      · split at hp <;> (rw [foldS_short] at hp; cases hp)
      · rw [List.concat_eq_append] at hp
        by_cases hik : i < hf l.length
        · rw [if_pos hik, foldS_snoc] at hp
          obtain ⟨w, hw, hs⟩ := stepP_ok hp
          have e := digR_inj hs hd
          simp only [cond_false, List.cons.injEq, and_true] at e
          obtain ⟨rfl, rfl⟩ := e
          rw [← l1] at hw
          exact inc_sound h (l.take (hf l.length)) i x y _ ps (by omega) (by rw [List.getElem?_take_of_lt hik]; exact hi) ha hw
        · rw [if_neg hik, foldS_snoc] at hp
          obtain ⟨w, hw, hs⟩ := stepP_ok hp
          have e := digR_inj hs hd
          simp only [cond_true, List.cons.injEq, and_true] at e
          obtain ⟨rfl, rfl⟩ := e
          rw [← l2] at hw
          exact inc_sound h (l.drop (hf l.length)) (i - hf l.length) x y _ ps (by omega) (by rw [List.getElem?_drop, show hf l.length + (i - hf l.length) = i by omega]; exact hi) hc hw
/-- The path that Extend tells. -/
def extP (m : Int) : Nat → List (List UInt8) → Nat → Bool → List (List UInt8)
  | 0, l, _, had => if had then [] else [rootL m l]
  | h + 1, l, k, had => if l.length ≤ k then (if had then [] else [rootL m l]) else if k ≤ hf l.length then extP m h (l.take (hf l.length)) k had ++ [rootL m (l.drop (hf l.length))] else extP m h (l.drop (hf l.length)) (k - hf l.length) false ++ [rootL m (l.take (hf l.length))]
theorem extP_base (m : Int) (h : Nat) (l : List (List UInt8)) (k : Nat) (had : Bool) (hk : l.length ≤ k) : extP m h l k had = if had then [] else [rootL m l] := by
  cases h with
  | zero => rfl
  | succ h => show (if l.length ≤ k then _ else _) = _; rw [if_pos hk]
theorem hf_pow {n h : Nat} (h2 : 2 ≤ n) (hn : n ≤ 2 ^ (h + 1)) : hf n ≤ 2 ^ h := by
  obtain ⟨b, hb, h3, h4⟩ := hf_of h2
  rw [hb]
  refine Nat.pow_le_pow_right (by decide) ?_
  rcases Nat.lt_or_ge h b with h5 | h5
  · exfalso
    have : 2 ^ (h + 1) ≤ 2 ^ b := Nat.pow_le_pow_right (by decide) h5
    omega
  · exact h5
/-- The root of a beginning that goes beyond the first part. -/
theorem rollR_begin (m : Int) (l : List (List UInt8)) (k : Nat) (h2 : 2 ≤ l.length) (hk : hf l.length < k) (hkl : k ≤ l.length) : rollR m (l.take k) = pairR m (rollR m (l.take (hf l.length))) (rollR m ((l.drop (hf l.length)).take (k - hf l.length))) := by
  obtain ⟨a, ha, h3, h4⟩ := hf_of h2
  have hlk : (l.take k).length = k := by rw [List.length_take]; omega
  have e : hf (l.take k).length = hf l.length := by rw [hlk, ha]; exact hf_spec (by omega) (by omega)
  rw [rollR_two m (l.take k) (by omega), e, List.take_take, Nat.min_eq_left (by omega), List.drop_take]
theorem ext_right (m : Int) (old : List UInt8) : ∀ (h : Nat) (l : List (List UInt8)) (k : Nat) (had : Bool) (z : List UInt8), (∀ l', l' <:+: l → ∃ y, rollR m l' = .ok y) → l.length ≤ 2 ^ h → 1 ≤ k → k ≤ l.length → rollR m l = .ok z → (had = true → rollR m (l.take k) = .ok old) →
    ∃ w, rollR m (l.take k) = .ok w ∧ extO m h l.length k had (if had then old else []) (extP m h l k had) = some (w, z)
  | 0, l, k, had, z, hall, hl, hk1, hkl, hz, ho => by
    have h1 : l.length = k := by simp at hl; omega
    rw [extO_base m _ _ _ _ _ _ (by omega), extP_base m _ _ _ _ (by omega)]
    rw [List.take_of_length_le (by omega)] at ho ⊢
    refine ⟨z, hz, ?_⟩
    cases had with
    | true =>
      have := ho rfl
      rw [hz] at this
      cases this
      rfl
    | false => show baseE false _ [rootL m l] = _; rw [rootL_ok hz]; rfl
  | h + 1, l, k, had, z, hall, hl, hk1, hkl, hz, ho => by
    by_cases hlk : l.length ≤ k
    · rw [extO_base m _ _ _ _ _ _ hlk, extP_base m _ _ _ _ hlk]
      rw [List.take_of_length_le (by omega)] at ho ⊢
      refine ⟨z, hz, ?_⟩
      cases had with
      | true =>
        have := ho rfl
        rw [hz] at this
        cases this
        rfl
      | false => show baseE false _ [rootL m l] = _; rw [rootL_ok hz]; rfl
    · have h2 : 2 ≤ l.length := by omega
      obtain ⟨k0, k1, k2⟩ := hf_lt h2
      have hp := hf_pow h2 hl
      have hz0 := hz
      rw [rollR_two m l h2] at hz0
      obtain ⟨a, c, ha, hc, hd⟩ := pairR_ok hz0
      have l1 : (l.take (hf l.length)).length = hf l.length := by rw [List.length_take]; omega
      have l2 : (l.drop (hf l.length)).length = l.length - hf l.length := by rw [List.length_drop]
      simp only [extP]
      rw [if_neg hlk]
      by_cases hkf : k ≤ hf l.length
      · rw [if_pos hkf, extO_snoc m _ _ _ _ _ _ _ hlk, if_pos hkf]
        have et : (l.take (hf l.length)).take k = l.take k := by rw [List.take_take, Nat.min_eq_left hkf]
        obtain ⟨w, hw, hx⟩ := ext_right m old h (l.take (hf l.length)) k had a (fun l' h' => hall l' (h'.trans (List.take_prefix _ _).isInfix)) (by omega) hk1 (by omega) ha (by rw [et]; exact ho)
        rw [et] at hw
        rw [l1] at hx
        refine ⟨w, hw, ?_⟩
        rw [hx, rootL_ok hc]
        show (match digR m 6 [a, c] with | .err _ => none | .ok y => some (w, y)) = _
        rw [hd]
      · rw [if_neg hkf, extO_snoc m _ _ _ _ _ _ _ hlk, if_neg hkf]
        obtain ⟨w, hw, hx⟩ := ext_right m old h (l.drop (hf l.length)) (k - hf l.length) false c (fun l' h' => hall l' (h'.trans (List.drop_suffix _ _).isInfix)) (by omega) (by omega) (by omega) hc (fun h => by cases h)
        rw [l2] at hx
        rw [show (if false = true then old else []) = ([] : List UInt8) from rfl] at hx
        have hb := rollR_begin m l k h2 (by omega) hkl
        rw [ha, hw] at hb
        obtain ⟨v, hv⟩ := hall (l.take k) (List.take_prefix _ _).isInfix
        rw [hx, rootL_ok ha]
        refine ⟨v, hv, ?_⟩
        rw [hv] at hb
        have hb : digR m 6 [a, w] = .ok v := hb.symm
        show (match digR m 6 [a, w] with | .err _ => none | .ok x => match digR m 6 [a, c] with | .err _ => none | .ok y => some (x, y)) = _
        rw [hb, hd]
theorem ext_sound : ∀ (h : Nat) (l : List (List UInt8)) (k : Nat) (had : Bool) (old w z : List UInt8) (path : List (List UInt8)), l.length ≤ 2 ^ h → 1 ≤ k → k ≤ l.length → rollR 2 l = .ok z → extO 2 h l.length k had old path = some (w, z) → rollR 2 (l.take k) = .ok w
  | 0, l, k, had, old, w, z, path, hl, hk1, hkl, hz, hx => by
    have h1 : l.length = k := by simp at hl; omega
    rw [extO_base 2 _ _ _ _ _ _ (by omega)] at hx
    rw [List.take_of_length_le (by omega)]
    have : w = z := by
      match had, path, hx with
      | true, [], hx => cases hx; rfl
      | false, [p], hx => cases hx; rfl
    rw [this]; exact hz
  | h + 1, l, k, had, old, w, z, path, hl, hk1, hkl, hz, hx => by
    by_cases hlk : l.length ≤ k
    · rw [extO_base 2 _ _ _ _ _ _ (by omega)] at hx
      rw [List.take_of_length_le (by omega)]
      have : w = z := by
        match had, path, hx with
        | true, [], hx => cases hx; rfl
        | false, [p], hx => cases hx; rfl
      rw [this]; exact hz
    · have h2 : 2 ≤ l.length := by omega
      obtain ⟨k0, k1, k2⟩ := hf_lt h2
      have hp := hf_pow h2 hl
      rw [rollR_two 2 l h2] at hz
      obtain ⟨a, c, ha, hc, hd⟩ := pairR_ok hz
      have l1 : (l.take (hf l.length)).length = hf l.length := by rw [List.length_take]; omega
      have l2 : (l.drop (hf l.length)).length = l.length - hf l.length := by rw [List.length_drop]
      rcases List.eq_nil_or_concat path with rfl | ⟨ps, p, rfl⟩
      · rw [extO_none 2 _ _ _ _ _ hlk] at hx; cases hx
      · rw [List.concat_eq_append, extO_snoc 2 _ _ _ _ _ _ _ hlk] at hx
        by_cases hkf : k ≤ hf l.length
        · rw [if_pos hkf] at hx
          obtain ⟨⟨w0, i0⟩, hy, hs⟩ := Option.bind_eq_some_iff.1 hx
          have hs : (match digR 2 6 [i0, p] with | .err _ => none | .ok y => some (w0, y)) = some (w, z) := hs
          cases hq : digR 2 6 [i0, p] with
          | err q => rw [hq] at hs; cases hs
          | ok y =>
            rw [hq] at hs
            cases hs
            have e := digR_inj hq hd
            simp only [List.cons.injEq, and_true] at e
            obtain ⟨rfl, rfl⟩ := e
            rw [← l1] at hy
            have := ext_sound h (l.take (hf l.length)) k had old _ _ ps (by omega) hk1 (by omega) ha hy
            rw [List.take_take, Nat.min_eq_left hkf] at this
            exact this
        · rw [if_neg hkf] at hx
          obtain ⟨⟨w0, i0⟩, hy, hs⟩ := Option.bind_eq_some_iff.1 hx
          have hs : (match digR 2 6 [p, w0] with | .err _ => none | .ok x => match digR 2 6 [p, i0] with | .err _ => none | .ok y => some (x, y)) = some (w, z) := hs
          cases hq : digR 2 6 [p, w0] with
          | err q => rw [hq] at hs; cases hs
          | ok x =>
            rw [hq] at hs
            simp only at hs
            cases hq2 : digR 2 6 [p, i0] with
            | err q => rw [hq2] at hs; cases hs
            | ok y =>
              rw [hq2] at hs
              cases hs
              have e := digR_inj hq2 hd
              simp only [List.cons.injEq, and_true] at e
              obtain ⟨rfl, rfl⟩ := e
              rw [← l2] at hy
              have := ext_sound h (l.drop (hf l.length)) (k - hf l.length) false [] _ _ ps (by omega) (by omega) (by omega) hc hy
              rw [rollR_begin 2 l k h2 (by omega) hkl, ha, this]
              exact hq
end Go.Proofs.YtcplnfaopigoiaaDoor
