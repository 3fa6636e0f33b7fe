/-
  COVERS, plain: what is open, what is left; they are right, and sound where digests are open.
  CONDITIONS: each theorem's own hypotheses.
-/
import Derived.Test.YtcnemacakjemjaaDoorPathS
namespace Go.Proofs.YtcnemacakjemjaaDoor
open Go.RowKit CodeMath Go.Proofs.YtcnemacakjemjaaDoor.FrameMath
set_option linter.unusedVariables false
set_option maxRecDepth 100000

/-- The open ones of slots. -/
def selO : List Sl → List Bool → List Sl
  | x :: l, b :: o => if b then x :: selO l o else selO l o
  | _, _ => []
theorem selO_append : ∀ (l l' : List Sl) (o o' : List Bool), l.length = o.length → selO (l ++ l') (o ++ o') = selO l o ++ selO l' o'
  | [], l', [], o', _ => rfl
  | x :: l, l', b :: o, o', h => by
    have ih := selO_append l l' o o' (by simpa using h)
    cases b <;> simp [selO, ih]
theorem selO_none : ∀ (l : List Sl) (o : List Bool), o.contains true = false → selO l o = []
  | [], o, _ => by cases o <;> rfl
  | x :: l, [], _ => rfl
  | x :: l, false :: o, h => by
    show selO l o = []
    exact selO_none l o (by simpa using h)
  | x :: l, true :: o, h => by simp at h
theorem selO_length : ∀ (l : List Sl) (o : List Bool), l.length = o.length → (selO l o).length = o.count true
  | [], [], _ => rfl
  | x :: l, b :: o, h => by
    have ih := selO_length l o (by simpa using h)
    cases b <;> simp [selO, ih]
theorem count_none {o : List Bool} (h : o.contains true = false) : o.count true = 0 := by
  rw [List.count_eq_zero]
  intro hm
  rw [List.contains_iff_mem.2 hm] at h
  cases h
theorem count_some {o : List Bool} (h : o.contains true = true) : 0 < o.count true := List.count_pos_iff.2 (List.contains_iff_mem.1 h)
/-- The digests that are left. -/
def covR (m : Int) : Nat → List (List UInt8) → List Bool → List (List UInt8)
  | 0, rows, o => if o.contains true then [] else [rootB m 0 rows]
  | h + 1, rows, o => if o.contains true then covR m h (rows.take (2 ^ h)) (o.take (2 ^ h)) ++ covR m h (rows.drop (2 ^ h)) (o.drop (2 ^ h)) else [rootB m (h + 1) rows]
def resN : Nat → List Bool → Nat
  | 0, o => if o.contains true then 0 else 1
  | h + 1, o => if o.contains true then resN h (o.take (2 ^ h)) + resN h (o.drop (2 ^ h)) else 1
theorem covR_length (m : Int) : ∀ (h : Nat) (rows : List (List UInt8)) (o : List Bool), (covR m h rows o).length = resN h o
  | 0, rows, o => by unfold covR resN; split <;> rfl
  | h + 1, rows, o => by
    unfold covR resN
    split
    · rw [List.length_append, covR_length, covR_length]
    · rfl
theorem covR_none (m : Int) (h : Nat) (rows : List (List UInt8)) (o : List Bool) (hc : o.contains true = false) : covR m h rows o = [rootB m h rows] := by
  cases h with
  | zero => unfold covR; rw [hc]; rfl
  | succ h => unfold covR; rw [hc]; rfl
theorem resN_none (h : Nat) (o : List Bool) (hc : o.contains true = false) : resN h o = 1 := by
  cases h with
  | zero => unfold resN; rw [hc]; rfl
  | succ h => unfold resN; rw [hc]; rfl
/-- What a cover leads to, and what is left of it. -/
def rtR (m : Int) : Nat → List Bool → List Sl → List (List UInt8) → Option (List UInt8 × List Sl × List (List UInt8))
  | 0, o, S, R => if o.contains true then (match S with
      | [] => none
      | s :: S' => match leafR m s.f s.s s.d with
        | .err _ => none
        | .ok b => some (b, S', R))
    else (match R with
      | [] => none
      | r :: R' => some (r, S, R'))
  | h + 1, o, S, R => if o.contains true then (match rtR m h (o.take (2 ^ h)) S R with
      | none => none
      | some (a, S1, R1) => match rtR m h (o.drop (2 ^ h)) S1 R1 with
        | none => none
        | some (b, S2, R2) => match digR m 2 [a, b] with
          | .err _ => none
          | .ok x => some (x, S2, R2))
    else (match R with
      | [] => none
      | r :: R' => some (r, S, R'))
theorem rtR_none (m : Int) (h : Nat) (o : List Bool) (S : List Sl) (R : List (List UInt8)) (hc : o.contains true = false) : rtR m h o S R = (match R with
      | [] => none
      | r :: R' => some (r, S, R')) := by
  cases h with
  | zero => unfold rtR; rw [hc]; rfl
  | succ h => unfold rtR; rw [hc]; rfl
/-- A cover leads to the root of all. -/
theorem rt_right (m : Int) (hm : isMode m = true) : ∀ (h : Nat), h ≤ 6 → ∀ (l : List Sl) (rows : List (List UInt8)) (o : List Bool) (S : List Sl) (R : List (List UInt8)), l.length = 2 ^ h → o.length = 2 ^ h → leavesR m l = .ok rows →
    rtR m h o (selO l o ++ S) (covR m h rows o ++ R) = some (rootB m h rows, S, R)
  | 0, h6, l, rows, o, S, R, hl, ho, hr => by
    match l, hl, o, ho with
    | [x], _, [b], _ =>
      cases b with
      | false =>
        have hc : [false].contains true = false := rfl
        rw [rtR_none m 0 _ _ _ hc, covR_none m 0 rows _ hc]
        rfl
      | true =>
        cases hy : leafR m x.f x.s x.d with
        | err e => simp [leavesR, hy] at hr
        | ok y =>
          simp only [leavesR, hy, consR] at hr
          cases hr
          show (match leafR m x.f x.s x.d with | .err _ => none | .ok b => some (b, S, R)) = _
          rw [hy]
          rfl
  | h + 1, h6, l, rows, o, S, R, hl, ho, hr => by
    cases hc : o.contains true with
    | false => rw [rtR_none m _ _ _ _ hc, covR_none m _ rows _ hc, selO_none l o hc]; rfl
    | true =>
      have e1 : 2 ^ (h + 1) = 2 * 2 ^ h := by rw [Nat.pow_succ, Nat.mul_comm]
      have h64 : 2 ^ (h + 1) ≤ 2 ^ 6 := Nat.pow_le_pow_right (by decide) h6
      have e6 : 2 ^ 6 = 64 := by decide
      have hm64 : 2 ^ h * 642 ≤ 32 * 642 := Nat.mul_le_mul_right _ (by omega)
      have hrl := leavesR_length m l rows hr
      have hea := leavesR_each m l rows hr
      obtain ⟨r1, r2⟩ := leavesR_take m (2 ^ h) l rows hr
      have b1 := rootB_length m h (rows.take (2 ^ h)) (by rw [List.length_take]; omega) (fun b hx => hea b (List.mem_of_mem_take hx))
      have b2 := rootB_length m h (rows.drop (2 ^ h)) (by rw [List.length_drop]; omega) (fun b hx => hea b (List.mem_of_mem_drop hx))
      have hs : selO l o = selO (l.take (2 ^ h)) (o.take (2 ^ h)) ++ selO (l.drop (2 ^ h)) (o.drop (2 ^ h)) := by
        rw [← selO_append _ _ _ _ (by rw [List.length_take, List.length_take]; omega), List.take_append_drop, List.take_append_drop]
      have hv : covR m (h + 1) rows o = covR m h (rows.take (2 ^ h)) (o.take (2 ^ h)) ++ covR m h (rows.drop (2 ^ h)) (o.drop (2 ^ h)) := by
        show (if o.contains true then _ else _) = _
        rw [hc]; rfl
      have i1 := fun S R => rt_right m hm h (by omega) (l.take (2 ^ h)) _ (o.take (2 ^ h)) S R (by rw [List.length_take]; omega) (by rw [List.length_take]; omega) r1
      have i2 := fun S R => rt_right m hm h (by omega) (l.drop (2 ^ h)) _ (o.drop (2 ^ h)) S R (by rw [List.length_drop]; omega) (by rw [List.length_drop]; omega) r2
      rw [hs, hv, List.append_assoc, List.append_assoc]
      unfold rtR
      rw [hc]
      simp only [if_true, i1, i2]
      rw [digR_node m hm _ _ (by omega) (by omega)]
      rfl
/-- No other cover leads there, where digests are open. -/
theorem rt_sound : ∀ (h : Nat), h ≤ 6 → ∀ (l : List Sl) (rows : List (List UInt8)) (o : List Bool) (S S' : List Sl) (R R' : List (List UInt8)), l.length = 2 ^ h → o.length = 2 ^ h → leavesR 2 l = .ok rows →
    rtR 2 h o S R = some (rootB 2 h rows, S', R') → S = selO l o ++ S' ∧ R = covR 2 h rows o ++ R'
  | 0, h6, l, rows, o, S, S', R, R', hl, ho, hr, he => by
    match l, hl, o, ho with
    | [x], _, [b], _ =>
      cases b with
      | false =>
        have hc : [false].contains true = false := rfl
        rw [rtR_none 2 0 _ _ _ hc] at he
        rw [covR_none 2 0 rows _ hc]
        cases R with
        | nil => cases he
        | cons r R =>
          simp only [Option.some.injEq, Prod.mk.injEq] at he
          obtain ⟨rfl, rfl, rfl⟩ := he
          exact ⟨rfl, rfl⟩
      | true =>
        cases hy : leafR 2 x.f x.s x.d with
        | err e => simp [leavesR, hy] at hr
        | ok y =>
          simp only [leavesR, hy, consR] at hr
          cases hr
          cases S with
          | nil => cases he
          | cons s S =>
            have he : (match leafR 2 s.f s.s s.d with | .err _ => none | .ok b => some (b, S, R)) = some (rootB 2 0 [y], S', R') := he
            cases hz : leafR 2 s.f s.s s.d with
            | err e => rw [hz] at he; cases he
            | ok z =>
              rw [hz] at he
              simp only [Option.some.injEq, Prod.mk.injEq] at he
              obtain ⟨hzy, rfl, rfl⟩ := he
              have hzy : z = y := hzy
              subst hzy
              obtain ⟨q1, q2, q3⟩ := leafR_inj hz hy
              refine ⟨?_, rfl⟩
              show s :: S = x :: ([] ++ S)
              obtain ⟨sf, ss, sd⟩ := s
              obtain ⟨xf, xs, xd⟩ := x
              simp only at q1 q2 q3
              rw [q1, q2, q3]; rfl
  | h + 1, h6, l, rows, o, S, S', R, R', hl, ho, hr, he => by
    cases hc : o.contains true with
    | false =>
      rw [rtR_none 2 _ _ _ _ hc] at he
      rw [covR_none 2 _ rows _ hc, selO_none l o hc]
      cases R with
      | nil => cases he
      | cons r R =>
        simp only [Option.some.injEq, Prod.mk.injEq] at he
        obtain ⟨rfl, rfl, rfl⟩ := he
        exact ⟨rfl, rfl⟩
    | true =>
      have e1 : 2 ^ (h + 1) = 2 * 2 ^ h := by rw [Nat.pow_succ, Nat.mul_comm]
      have h64 : 2 ^ (h + 1) ≤ 2 ^ 6 := Nat.pow_le_pow_right (by decide) h6
      have e6 : 2 ^ 6 = 64 := by decide
      have hm64 : 2 ^ h * 642 ≤ 32 * 642 := Nat.mul_le_mul_right _ (by omega)
      have hrl := leavesR_length 2 l rows hr
      have hea := leavesR_each 2 l rows hr
      obtain ⟨r1, r2⟩ := leavesR_take 2 (2 ^ h) l rows hr
      have b1 := rootB_length 2 h (rows.take (2 ^ h)) (by rw [List.length_take]; omega) (fun b hx => hea b (List.mem_of_mem_take hx))
      have b2 := rootB_length 2 h (rows.drop (2 ^ h)) (by rw [List.length_drop]; omega) (fun b hx => hea b (List.mem_of_mem_drop hx))
      have hs : selO l o = selO (l.take (2 ^ h)) (o.take (2 ^ h)) ++ selO (l.drop (2 ^ h)) (o.drop (2 ^ h)) := by
        rw [← selO_append _ _ _ _ (by rw [List.length_take, List.length_take]; omega), List.take_append_drop, List.take_append_drop]
      have hv : covR 2 (h + 1) rows o = covR 2 h (rows.take (2 ^ h)) (o.take (2 ^ h)) ++ covR 2 h (rows.drop (2 ^ h)) (o.drop (2 ^ h)) := by
        show (if o.contains true then _ else _) = _
        rw [hc]; rfl
      rw [hs, hv]
      unfold rtR at he
      rw [hc] at he
      simp only [if_true] at he
      cases h1 : rtR 2 h (o.take (2 ^ h)) S R with
      | none => rw [h1] at he; cases he
      | some t1 =>
        obtain ⟨a, S1, R1⟩ := t1
        rw [h1] at he
        simp only at he
        cases h2 : rtR 2 h (o.drop (2 ^ h)) S1 R1 with
        | none => rw [h2] at he; cases he
        | some t2 =>
          obtain ⟨b, S2, R2⟩ := t2
          rw [h2] at he
          simp only at he
          cases hd : digR 2 2 [a, b] with
          | err c => rw [hd] at he; cases he
          | ok x =>
            rw [hd] at he
            simp only [Option.some.injEq, Prod.mk.injEq] at he
            obtain ⟨hx, rfl, rfl⟩ := he
            have hd2 := digR_node 2 rfl (rootB 2 h (rows.take (2 ^ h))) (rootB 2 h (rows.drop (2 ^ h))) (by omega) (by omega)
            have hx : x = nodeB 2 (rootB 2 h (rows.take (2 ^ h))) (rootB 2 h (rows.drop (2 ^ h))) := hx
            rw [hx] at hd
            have hab := digR_inj hd hd2
            simp only [List.cons.injEq, and_true] at hab
            obtain ⟨rfl, rfl⟩ := hab
            obtain ⟨i1, i2⟩ := rt_sound h (by omega) (l.take (2 ^ h)) _ (o.take (2 ^ h)) S S1 R R1 (by rw [List.length_take]; omega) (by rw [List.length_take]; omega) r1 h1
            obtain ⟨i3, i4⟩ := rt_sound h (by omega) (l.drop (2 ^ h)) _ (o.drop (2 ^ h)) S1 S2 R1 R2 (by rw [List.length_drop]; omega) (by rw [List.length_drop]; omega) r2 h2
            rw [i1, i2, i3, i4, List.append_assoc, List.append_assoc]
            exact ⟨rfl, rfl⟩
/-- The same by how many there are. -/
def uncR (m : Int) : Nat → List Bool → List Sl → List (List UInt8) → Option (List UInt8)
  | 0, o, S, R => if o.contains true then (match S with
      | [] => none
      | s :: _ => match leafR m s.f s.s s.d with
        | .err _ => none
        | .ok b => some b)
    else R.head?
  | h + 1, o, S, R => if o.contains true then (match uncR m h (o.take (2 ^ h)) (S.take ((o.take (2 ^ h)).count true)) (R.take (resN h (o.take (2 ^ h)))) with
      | none => none
      | some a => match uncR m h (o.drop (2 ^ h)) (S.drop ((o.take (2 ^ h)).count true)) (R.drop (resN h (o.take (2 ^ h)))) with
        | none => none
        | some b => match digR m 2 [a, b] with
          | .err _ => none
          | .ok x => some x)
    else R.head?
theorem rt_some (m : Int) : ∀ (h : Nat) (o : List Bool) (S : List Sl) (R : List (List UInt8)) (t : List UInt8 × List Sl × List (List UInt8)), o.length = 2 ^ h → rtR m h o S R = some t →
    S.length = o.count true + t.2.1.length ∧ R.length = resN h o + t.2.2.length
  | 0, o, S, R, t, ho, he => by
    match o, ho with
    | [false], _ =>
      cases R with
      | nil => cases he
      | cons r R => cases he; exact ⟨by simp, by simp [resN, Nat.add_comm]⟩
    | [true], _ =>
      cases S with
      | nil => cases he
      | cons s S =>
        have he : (match leafR m s.f s.s s.d with | .err _ => none | .ok b => some (b, S, R)) = some t := he
        cases hz : leafR m s.f s.s s.d with
        | err e => rw [hz] at he; cases he
        | ok z => rw [hz] at he; cases he; exact ⟨by simp [Nat.add_comm], by simp [resN]⟩
  | h + 1, o, S, R, t, ho, he => by
    cases hc : o.contains true with
    | false =>
      rw [rtR_none m _ _ _ _ hc] at he
      rw [resN_none _ _ hc, count_none hc]
      cases R with
      | nil => cases he
      | cons r R => cases he; exact ⟨by simp, by simp [Nat.add_comm]⟩
    | true =>
      have e1 : 2 ^ (h + 1) = 2 * 2 ^ h := by rw [Nat.pow_succ, Nat.mul_comm]
      unfold rtR at he
      rw [hc] at he
      simp only [if_true] at he
      cases h1 : rtR m h (o.take (2 ^ h)) S R with
      | none => rw [h1] at he; cases he
      | some t1 =>
        obtain ⟨a, S1, R1⟩ := t1
        rw [h1] at he
        simp only at he
        cases h2 : rtR m h (o.drop (2 ^ h)) S1 R1 with
        | none => rw [h2] at he; cases he
        | some t2 =>
          obtain ⟨b, S2, R2⟩ := t2
          rw [h2] at he
          simp only at he
          cases hd : digR m 2 [a, b] with
          | err c => rw [hd] at he; cases he
          | ok x =>
            rw [hd] at he
            cases he
            have i1 := rt_some m h _ _ _ _ (by rw [List.length_take]; omega) h1
            have i2 := rt_some m h _ _ _ _ (by rw [List.length_drop]; omega) h2
            have hcn : o.count true = (o.take (2 ^ h)).count true + (o.drop (2 ^ h)).count true := by rw [← List.count_append, List.take_append_drop]
            have hrn : resN (h + 1) o = resN h (o.take (2 ^ h)) + resN h (o.drop (2 ^ h)) := by
              show (if o.contains true then _ else _) = _
              rw [hc]; rfl
            rw [hcn, hrn]
            simp only at i1 i2 ⊢
            omega
theorem rt_unc (m : Int) : ∀ (h : Nat) (o : List Bool) (S S' : List Sl) (R R' : List (List UInt8)), o.length = 2 ^ h → S.length = o.count true → R.length = resN h o →
    rtR m h o (S ++ S') (R ++ R') = (uncR m h o S R).map fun x => (x, S', R')
  | 0, o, S, S', R, R', ho, hs, hr => by
    match o, ho with
    | [false], _ =>
      match S, hs, R, hr with
      | [], _, [r], _ => rfl
    | [true], _ =>
      match S, hs, R, hr with
      | [s], _, [], _ =>
        show (match leafR m s.f s.s s.d with | .err _ => none | .ok b => some (b, S', R')) = Option.map _ (match leafR m s.f s.s s.d with | .err _ => none | .ok b => some b)
        cases leafR m s.f s.s s.d <;> rfl
  | h + 1, o, S, S', R, R', ho, hs, hr => by
    cases hc : o.contains true with
    | false =>
      rw [rtR_none m _ _ _ _ hc]
      rw [resN_none _ _ hc] at hr
      rw [count_none hc] at hs
      have hu : uncR m (h + 1) o S R = R.head? := by unfold uncR; rw [hc]; rfl
      rw [hu]
      match S, hs, R, hr with
      | [], _, [r], _ => rfl
    | true =>
      have e1 : 2 ^ (h + 1) = 2 * 2 ^ h := by rw [Nat.pow_succ, Nat.mul_comm]
      have hcn : o.count true = (o.take (2 ^ h)).count true + (o.drop (2 ^ h)).count true := by rw [← List.count_append, List.take_append_drop]
      have hrn : resN (h + 1) o = resN h (o.take (2 ^ h)) + resN h (o.drop (2 ^ h)) := by
        show (if o.contains true then _ else _) = _
        rw [hc]; rfl
      rw [hcn] at hs
      rw [hrn] at hr
      have i1 := rt_unc m h (o.take (2 ^ h)) (S.take ((o.take (2 ^ h)).count true)) (S.drop ((o.take (2 ^ h)).count true) ++ S') (R.take (resN h (o.take (2 ^ h)))) (R.drop (resN h (o.take (2 ^ h))) ++ R') (by rw [List.length_take]; omega) (by rw [List.length_take]; omega) (by rw [List.length_take]; omega)
      have i2 := rt_unc m h (o.drop (2 ^ h)) (S.drop ((o.take (2 ^ h)).count true)) S' (R.drop (resN h (o.take (2 ^ h)))) R' (by rw [List.length_drop]; omega) (by rw [List.length_drop]; omega) (by rw [List.length_drop]; omega)
      rw [← List.append_assoc, List.take_append_drop, ← List.append_assoc, List.take_append_drop] at i1
      unfold rtR uncR
      rw [hc]
      simp only [if_true, i1]
      cases uncR m h (o.take (2 ^ h)) (S.take ((o.take (2 ^ h)).count true)) (R.take (resN h (o.take (2 ^ h)))) with
      | none => rfl
      | some a =>
        simp only [Option.map_some, i2]
        cases uncR m h (o.drop (2 ^ h)) (S.drop ((o.take (2 ^ h)).count true)) (R.drop (resN h (o.take (2 ^ h)))) with
        | none => rfl
        | some b =>
          simp only [Option.map_some]
          cases digR m 2 [a, b] <;> rfl
/-- What Rooted tells of a cover. -/
def rtdR (m : Int) (h : Nat) (o : List Bool) (S : List Sl) (R : List (List UInt8)) : DR :=
  if isMode m = false then .err 2 else if isPow o.length = false then .err 1 else match rtR m h o S R with
  | some (x, [], []) => .ok x
  | _ => .err 10
theorem rtd_unc (m : Int) (h : Nat) (o : List Bool) (S : List Sl) (R : List (List UInt8)) (hm : isMode m = true) (hp : isPow o.length = true) (ho : o.length = 2 ^ h) :
    rtdR m h o S R = if S.length ≠ o.count true ∨ R.length ≠ resN h o then .err 10 else match uncR m h o S R with
      | none => .err 10
      | some x => .ok x := by
  unfold rtdR
  rw [if_neg (by rw [hm]; decide), if_neg (by rw [hp]; decide)]
  split
  · rename_i x he
    have h1 := rt_some m h o S R _ ho he
    simp only [List.length_nil, Nat.add_zero] at h1
    rw [if_neg (by omega)]
    have h2 := rt_unc m h o S [] R [] ho h1.1 h1.2
    rw [List.append_nil, List.append_nil, he] at h2
    cases hu : uncR m h o S R with
    | none => rw [hu] at h2; cases h2
    | some y => rw [hu] at h2; cases h2; rfl
  · rename_i hne
    split
    · rfl
    · rename_i hl
      have h2 := rt_unc m h o S [] R [] ho (by omega) (by omega)
      rw [List.append_nil, List.append_nil] at h2
      cases hu : uncR m h o S R with
      | none => rfl
      | some y => rw [hu] at h2; exact absurd h2 (hne y)
end Go.Proofs.YtcnemacakjemjaaDoor
