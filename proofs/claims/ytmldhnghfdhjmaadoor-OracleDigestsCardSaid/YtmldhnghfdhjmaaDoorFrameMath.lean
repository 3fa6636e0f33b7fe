/-
  PLAIN MATHEMATICS of frames: parts under a tag as bytes, and back.
  CONDITIONS: each theorem's own hypotheses.
-/
import Derived.Test.YtmldhnghfdhjmaaDoorCodeMath
namespace Go.Proofs.YtmldhnghfdhjmaaDoor.FrameMath
open CodeMath
set_option linter.unusedVariables false

/-- A part: its length in four bytes, and its bytes. -/
def piece (p : List UInt8) : List UInt8 := be p.length 4 ++ p
def pieces : List (List UInt8) → List UInt8
  | [] => []
  | p :: ps => piece p ++ pieces ps
def frame (t : Nat) (ps : List (List UInt8)) : List UInt8 := lowB t :: lowB ps.length :: pieces ps
/-- How many bytes a frame has. -/
def total : List (List UInt8) → Nat
  | [] => 0
  | p :: ps => 4 + p.length + total ps
theorem piece_length (p : List UInt8) : (piece p).length = 4 + p.length := by
  unfold piece; rw [List.length_append, be_length]
theorem pieces_length : ∀ ps, (pieces ps).length = total ps
  | [] => rfl
  | p :: ps => by
    show (piece p ++ pieces ps).length = _
    rw [List.length_append, piece_length, pieces_length ps]; rfl
theorem frame_length (t : Nat) (ps : List (List UInt8)) : (frame t ps).length = 2 + total ps := by
  unfold frame; rw [List.length_cons, List.length_cons, pieces_length]; omega
theorem pieces_append : ∀ ps qs, pieces (ps ++ qs) = pieces ps ++ pieces qs
  | [], qs => rfl
  | p :: ps, qs => by
    show piece p ++ pieces (ps ++ qs) = (piece p ++ pieces ps) ++ pieces qs
    rw [pieces_append ps qs, List.append_assoc]
theorem total_append : ∀ ps qs, total (ps ++ qs) = total ps + total qs
  | [], qs => by simp [total]
  | p :: ps, qs => by
    show 4 + p.length + total (ps ++ qs) = 4 + p.length + total ps + total qs
    rw [total_append ps qs]; omega
theorem total_mem : ∀ ps p, p ∈ ps → 4 + p.length ≤ total ps
  | [], p, h => by cases h
  | q :: ps, p, h => by
    show _ ≤ 4 + q.length + total ps
    rcases List.mem_cons.1 h with rfl | h
    · omega
    · have := total_mem ps p h; omega
theorem total_take : ∀ (ps : List (List UInt8)) (j : Nat), total (ps.take j) ≤ total ps
  | [], j => by simp [total]
  | p :: ps, 0 => by simp [total]
  | p :: ps, j + 1 => by
    show 4 + p.length + total (ps.take j) ≤ 4 + p.length + total ps
    have := total_take ps j; omega

/-- What parsing answers: an error, or parts and what is behind. -/
inductive Cut where
  | short
  | ok (ps : List (List UInt8)) (r : List UInt8)
def cons (p : List UInt8) : Cut → Cut
  | .short => .short
  | .ok ps r => .ok (p :: ps) r
def cutN : Nat → List UInt8 → Cut
  | 0, l => .ok [] l
  | n + 1, l => if l.length < 4 then .short else
      if ((l.drop 4).length : Int) < num (l.take 4) 0 then .short else
        cons ((l.drop 4).take (num (l.take 4) 0).toNat) (cutN n ((l.drop 4).drop (num (l.take 4) 0).toNat))
inductive Res where
  | err (e : Int)
  | ok (t : Nat) (ps : List (List UInt8))
def endRes (t : Nat) : Cut → Res
  | .short => .err 4
  | .ok ps r => if r = [] then .ok t ps else .err 3
def parse (l : List UInt8) : Res :=
  if 16777216 < l.length then .err 1 else
    match l with
    | [] => .err 4
    | t :: l => if t.toNat < 1 ∨ 9 < t.toNat then .err 6 else
      match l with
      | [] => .err 4
      | n :: l => if 8 < n.toNat then .err 1 else endRes t.toNat (cutN n.toNat l)

theorem num_be4 (n : Nat) (h : n < 4294967296) : num (be n 4) 0 = n := by
  rw [num_be]
  have e : (256 : Int) ^ 4 = 4294967296 := by decide
  rw [e]; omega
theorem cutN_pieces : ∀ (ps : List (List UInt8)) (r : List UInt8), (∀ p ∈ ps, p.length < 4294967296) → cutN ps.length (pieces ps ++ r) = .ok ps r
  | [], r, _ => rfl
  | p :: ps, r, h => by
    have hp := h p (by simp)
    have hl : (be (p.length : Int) 4).length = 4 := be_length _ _
    have e : pieces (p :: ps) ++ r = be p.length 4 ++ (p ++ (pieces ps ++ r)) := by
      show (be p.length 4 ++ p ++ pieces ps) ++ r = _
      simp only [List.append_assoc]
    have t4 : (be (p.length : Int) 4 ++ (p ++ (pieces ps ++ r))).take 4 = be p.length 4 := by
      rw [List.take_append_of_le_length (by omega), List.take_of_length_le (by omega)]
    have d4 : (be (p.length : Int) 4 ++ (p ++ (pieces ps ++ r))).drop 4 = p ++ (pieces ps ++ r) := by
      rw [List.drop_append_of_le_length (by omega), List.drop_of_length_le (by omega), List.nil_append]
    rw [e]
    show (if _ then _ else _) = _
    rw [if_neg (by rw [List.length_append, hl]; omega), t4, d4, num_be4 _ hp, if_neg (by rw [List.length_append]; omega), Int.toNat_natCast, List.take_append_of_le_length (Nat.le_refl _), List.take_of_length_le (Nat.le_refl _), List.drop_append_of_le_length (Nat.le_refl _), List.drop_of_length_le (Nat.le_refl _), List.nil_append, cutN_pieces ps r (fun q hq => h q (List.mem_cons_of_mem _ hq))]
    rfl
theorem lowB_nat (n : Nat) (h : n < 256) : (lowB n).toNat = n := by
  have := lowB_toNat n
  omega
/-- A FRAME IS TAKEN APART AS IT WAS PUT TOGETHER. -/
theorem parse_frame (t : Nat) (ps : List (List UInt8)) (t0 : 1 ≤ t) (t1 : t ≤ 9) (hn : ps.length ≤ 8) (hl : 2 + total ps ≤ 16777216) : parse (frame t ps) = .ok t ps := by
  have ht := lowB_nat t (by omega)
  have hk := lowB_nat ps.length (by omega)
  unfold parse
  rw [if_neg (by rw [frame_length]; omega)]
  unfold frame
  simp only []
  rw [if_neg (by omega), if_neg (by omega), hk, ht]
  have := cutN_pieces ps [] (fun p hp => by have := total_mem ps p hp; omega)
  rw [List.append_nil] at this
  rw [this]
  rfl
theorem cutN_ok : ∀ (n : Nat) (l : List UInt8) (ps : List (List UInt8)) (r : List UInt8), cutN n l = .ok ps r → ps.length = n ∧ pieces ps ++ r = l
  | 0, l, ps, r, h => by
    cases h; exact ⟨rfl, rfl⟩
  | n + 1, l, ps, r, h => by
    unfold cutN at h
    by_cases h4 : l.length < 4
    · rw [if_pos h4] at h; cases h
    · rw [if_neg h4] at h
      by_cases h5 : ((l.drop 4).length : Int) < num (l.take 4) 0
      · rw [if_pos h5] at h; cases h
      · rw [if_neg h5] at h
        cases hc : cutN n ((l.drop 4).drop (num (l.take 4) 0).toNat) with
        | short => rw [hc] at h; cases h
        | ok qs r' =>
          rw [hc] at h
          obtain ⟨h1, h2⟩ := cutN_ok n _ qs r' hc
          cases h
          have hlt : (l.take 4).length = 4 := by rw [List.length_take]; omega
          have hr := num_range (l.take 4) 0
          have hb := be_num (l.take 4) 0
          rw [hlt] at hb
          refine ⟨by rw [List.length_cons, h1], ?_⟩
          show (be _ 4 ++ _ ++ pieces qs) ++ r = l
          have hlen : (((l.drop 4).take (num (l.take 4) 0).toNat).length : Int) = num (l.take 4) 0 := by
            rw [List.length_take]; omega
          rw [hlen, hb, List.append_assoc, List.append_assoc, h2, List.take_append_drop, List.take_append_drop]
theorem endRes_ok {t u : Nat} {c : Cut} {ps : List (List UInt8)} (h : endRes t c = .ok u ps) : t = u ∧ c = .ok ps [] := by
  cases c with
  | short => cases h
  | ok qs r =>
    unfold endRes at h
    by_cases hr : r = []
    · simp only [if_pos hr] at h
      cases h; exact ⟨rfl, by rw [hr]⟩
    · simp only [if_neg hr] at h
      cases h
/-- WHAT IS TAKEN APART IS PUT TOGETHER JUST SO. -/
theorem frame_parse (l : List UInt8) (t : Nat) (ps : List (List UInt8)) (h : parse l = .ok t ps) : frame t ps = l ∧ 1 ≤ t ∧ t ≤ 9 ∧ ps.length ≤ 8 ∧ 2 + total ps ≤ 16777216 := by
  unfold parse at h
  by_cases h1 : 16777216 < l.length
  · rw [if_pos h1] at h; cases h
  · rw [if_neg h1] at h
    cases l with
    | nil => cases h
    | cons c l =>
      simp only [] at h
      by_cases h2 : c.toNat < 1 ∨ 9 < c.toNat
      · rw [if_pos h2] at h; cases h
      · rw [if_neg h2] at h
        cases l with
        | nil => cases h
        | cons n l =>
          simp only [] at h
          by_cases h3 : 8 < n.toNat
          · rw [if_pos h3] at h; cases h
          · rw [if_neg h3] at h
            obtain ⟨e1, e2⟩ := endRes_ok h
            obtain ⟨e3, e4⟩ := cutN_ok _ _ _ _ e2
            subst e1
            rw [List.append_nil] at e4
            have b1 : lowB (c.toNat : Nat) = c := by apply byte_eq; rw [lowB_toNat]; have := byte_lt c; omega
            have b2 : lowB (ps.length : Nat) = n := by rw [e3]; apply byte_eq; rw [lowB_toNat]; have := byte_lt n; omega
            have ef : frame c.toNat ps = c :: n :: l := by unfold frame; rw [b1, b2, e4]
            refine ⟨ef, by omega, by omega, by omega, ?_⟩
            have := congrArg List.length ef
            rw [frame_length] at this
            omega
/-- NO FRAME BEGINS WITH ANOTHER ONE. -/
theorem frame_apart (t u : Nat) (ps qs : List (List UInt8)) (x y : List UInt8) (ht : t < 256) (hu : u < 256) (hp : ps.length < 256) (hq : qs.length < 256) (hps : ∀ p ∈ ps, p.length < 4294967296) (hqs : ∀ p ∈ qs, p.length < 4294967296) (h : frame t ps ++ x = frame u qs ++ y) : t = u ∧ ps = qs ∧ x = y := by
  unfold frame at h
  simp only [List.cons_append, List.cons.injEq] at h
  obtain ⟨h1, h2, h3⟩ := h
  have e1 := lowB_nat t ht
  have e2 := lowB_nat u hu
  have e3 := lowB_nat ps.length hp
  have e4 := lowB_nat qs.length hq
  rw [h1] at e1
  rw [h2] at e3
  have el : ps.length = qs.length := by omega
  have c1 := cutN_pieces ps x hps
  have c2 := cutN_pieces qs y hqs
  rw [h3, el, c2] at c1
  cases c1
  exact ⟨by omega, rfl, rfl⟩
theorem take_same (a b : List UInt8) (h : a.take (min a.length b.length) = b.take (min a.length b.length)) : ∃ x y, a ++ x = b ++ y := by
  rcases Nat.le_total a.length b.length with hl | hl
  · rw [Nat.min_eq_left hl, List.take_of_length_le (Nat.le_refl _)] at h
    exact ⟨b.drop a.length, [], by rw [List.append_nil]; exact (congrArg (· ++ b.drop a.length) h).trans (List.take_append_drop _ _)⟩
  · rw [Nat.min_eq_right hl, List.take_of_length_le (Nat.le_refl _)] at h
    exact ⟨[], a.drop b.length, by rw [List.append_nil]; exact ((congrArg (· ++ a.drop b.length) h).symm.trans (List.take_append_drop _ _)).symm⟩
end Go.Proofs.YtmldhnghfdhjmaaDoor.FrameMath
