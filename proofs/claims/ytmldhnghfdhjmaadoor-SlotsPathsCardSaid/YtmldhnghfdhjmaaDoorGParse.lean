/-
  MERGED: Piece, ParseA, ParseB, ParseC, ParseD.
  CONDITIONS: each theorem's own hypotheses.
-/
import Derived.Test.YtmldhnghfdhjmaaDoorGBase
import Derived.Test.YtmldhnghfdhjmaaDoorRowT
import Derived.Laws.BitsAllLaws
import Derived.Test.YtmldhnghfdhjmaaDoorGReg
import Derived.Deep.Cut
import Derived.Lib.LazyBuf

/-! PIECES OF SLICES of bytes (for seats without UpTo: the same names: never both in one seat). CONDITIONS: each theorem's own hypotheses. -/
namespace Go.Proofs.YtmldhnghfdhjmaaDoor
open Go.RowKit CodeMath
set_option linter.unusedVariables false

def pieceA (ao : Option Addr) (lo cap : Nat) : Option Addr := if cap = lo then ao else ao.map (·.add (lo * 1))
theorem piece_bytes (ao : Option Addr) (L : List UInt8) (cap lo n : Nat) (h : L.length ≤ cap) (W : World) (hb : Bytes W ao L) : Bytes W (pieceA ao lo cap) ((L.drop lo).take n) := by
  unfold pieceA
  split
  · left
    rw [List.drop_of_length_le (by omega), List.take_nil]
  · rcases hb with h | ⟨a, o, h1, h2, h3⟩
    · left; rw [h]; simp
    · subst h1
      refine .inr ⟨a, o + lo, ?_, h2, fun j x hx => ?_⟩
      · by_cases hl : lo = 0
        · subst hl; rfl
        · simp [Addr.add, hl]
      · rw [List.getElem?_take] at hx
        split at hx
        · rw [List.getElem?_drop] at hx
          rw [Nat.add_assoc]
          exact h3 _ x hx
        · cases hx
theorem slice_first (ao : Option Addr) (n cap m : Nat) (hm : m ≤ cap) (W : World) : (Instr.slice 23 (.slice ao n cap) none (some (.int .i64 (m : Int))) none).run Tryd.prog W = .ok (.slice ao m cap) W := by
  have hs : (sizeOf (Tryd.prog.elem 23)).run Tryd.prog W = .ok 1 W := by kernel_rfl
  have h := run_slice_h (P := Tryd.prog) W 23 ao n cap (by kernel_rfl) .i64 (m : Int) (by omega) (by omega)
  rw [h, hs, Int.toNat_natCast]
  simp only [Result.andThen, sliced, Nat.sub_zero]
  cases ao with
  | none => simp
  | some a => simp [Addr.add]
theorem slice_mid (ao : Option Addr) (n cap lo hi : Nat) (h1 : lo ≤ hi) (h2 : hi ≤ cap) (W : World) : (Instr.slice 23 (.slice ao n cap) (some (.int .i64 (lo : Int))) (some (.int .i64 (hi : Int))) none).run Tryd.prog W = .ok (.slice (pieceA ao lo cap) (hi - lo) (cap - lo)) W := by
  have hs : (sizeOf (Tryd.prog.elem 23)).run Tryd.prog W = .ok 1 W := by kernel_rfl
  have h := run_slice_lh (P := Tryd.prog) W 23 ao n cap (by kernel_rfl) .i64 .i64 (lo : Int) (hi : Int) (by omega) (by omega) (by omega)
  rw [h, hs, Int.toNat_natCast, Int.toNat_natCast]
  rfl
theorem slice_last (ao : Option Addr) (n cap lo : Nat) (h1 : lo ≤ n) (W : World) : (Instr.slice 23 (.slice ao n cap) (some (.int .i64 (lo : Int))) none none).run Tryd.prog W = .ok (.slice (pieceA ao lo cap) (n - lo) (cap - lo)) W := by
  have hs : (sizeOf (Tryd.prog.elem 23)).run Tryd.prog W = .ok 1 W := by kernel_rfl
  have h := run_slice_l (P := Tryd.prog) W 23 ao n cap (by kernel_rfl) .i64 (lo : Int) (by omega) (by omega)
  rw [h, hs, Int.toNat_natCast]
  rfl
end Go.Proofs.YtmldhnghfdhjmaaDoor

/-! CONTRACTS of package numeral's Of, bytes.Clone, and package oracle's readers. CONDITIONS: each theorem's own hypotheses. -/
namespace Go.Proofs.YtmldhnghfdhjmaaDoor
open Go.RowKit CodeMath Go.Proofs.YtmldhnghfdhjmaaDoor.FrameMath
set_option linter.unusedVariables false

theorem or_byteP (N : Int) (c : UInt8) (h0 : 0 ≤ N) (h1 : N < two56) : bits .or .u64 (N * 256) c.toNat = N * 256 + c.toNat := by
  unfold two56 at h1
  have hc := byte_lt c
  rw [u64_or _ _ (by omega) (by omega) (by omega) (by omega)]
  rw [nat_join 8 _ _ (by omega) (by simp; omega)]
  omega
set_option maxRecDepth 100000 in
set_option maxHeartbeats 1000000 in
theorem numOf_any (l : List UInt8) (ao : Option Addr) (cap : Nat) (w : World) (hb : Bytes w ao l) (h8 : l.length ≤ 8) :
    Calls Tryd.prog 70 #[.slice ao l.length cap] w fun e w' => e = .returned (.int .u64 (num l 0)) ∧ w = w' := by
  obtain ⟨n, hn⟩ : ∃ n, l.length = n := ⟨_, rfl⟩
  have hget : ∀ t c, l[t]? = some c → ∃ a o, ao = some ⟨a, o, none⟩ ∧ w.cell? ⟨a, o + t, none⟩ = some (.int .u8 c.toNat) := fun t c hc => by
    rcases hb with h | ⟨a, o, h, _, h3⟩
    · rw [h] at hc; simp at hc
    · exact ⟨a, o, h, h3 t c hc⟩
  rw [hn] at h8 ⊢
  have nI : (n : Int) ≤ 8 := by omega
  have HN := Lib.hid hn
  clear hn hb
  go_enter Tryd.func70, Tryd.ntmps70
  go_wp2_with fail
  go_loopw [3, 8] (fun x i wr => ∃ t : Nat, t ≤ n ∧ i = .int .i64 t ∧ x = .int .u64 (num (l.take t) 0) ∧ wr = w) (fun _ i _ => n - (intOf i).toNat)
  case atStart => exact ⟨0, Nat.zero_le _, rfl, rfl, rfl⟩
  case round =>
    obtain ⟨t, ht, rfl, rfl, rfl⟩ := hrel
    by_cases h1 : t < n
    · have tI : (t : Int) < n := by omega
      have htl : t < l.length := by rw [HN.out]; exact h1
      obtain ⟨a, o, rfl, hg⟩ := hget t l[t] (List.getElem?_eq_getElem htl)
      have hnt := num_take l t l[t] (l.drop (t + 1)) (List.drop_eq_getElem_cons htl)
      have HNT := Lib.hid hnt
      have hn7 := num7 l t (by omega)
      have hor := Lib.hid (or_byteP (num (l.take t) 0) l[t] hn7.1 hn7.2)
      have hc := byte_lt l[t]
      obtain ⟨c, hcc⟩ : ∃ c, l[t] = c := ⟨_, rfl⟩
      rw [hcc] at hg HNT hor hc
      obtain ⟨N, hN⟩ : ∃ N, num (l.take t) 0 = N := ⟨_, rfl⟩
      obtain ⟨N2, hN2⟩ : ∃ N2, num (l.take (t + 1)) 0 = N2 := ⟨_, rfl⟩
      rw [hN] at HNT hn7 hor ⊢
      rw [hN2] at HNT
      have hn0 := hn7.1
      have hn1 : N ≤ 72057594037927935 := by have := hn7.2; unfold two56 at this; omega
      have HN2 := Lib.hid hN2
      have H1 := Lib.hid h1
      clear hN hN2 hn7 hnt hget htl h1 hcc
      go_wp2_with fail
      go_roundw
      case rel => exact ⟨t + 1, H1.out, by go_num, by rw [hor.out, HN2.out, HNT.out], by first | rfl | trivial⟩
      case measure => have := H1.out; simp [intOf]; omega
    · have tI : ¬ (t : Int) < n := by omega
      have hl : l.take t = l := List.take_of_length_le (by rw [HN.out]; omega)
      rw [hl]
      clear hget hl h1
      go_wp2_with fail
      go_ret
      exact ⟨rfl, by first | rfl | trivial⟩

/-- The rest of a slice, and its front. -/
theorem RowV.rest {w : World} {ao : Option Addr} {cap : Nat} {l : List UInt8} (k : Nat) (hk : k ≤ l.length) (hc : l.length ≤ cap) (hq : cap ≤ 9223372036854775807) (hn : ao = none → cap = 0) (h : Bytes w ao l) : RowV w (.slice (pieceA ao k cap) (l.length - k) (cap - k)) (l.drop k) := by
  refine ⟨_, _, by rw [List.length_drop], by rw [List.length_drop]; omega, by omega, fun hh => ?_, ?_⟩
  · unfold pieceA at hh
    split at hh
    · omega
    · cases ao with
      | none => have := hn rfl; omega
      | some a => cases hh
  · have := piece_bytes ao l cap k l.length hc w h
    rwa [List.take_of_length_le (by rw [List.length_drop]; omega)] at this
theorem bytes_front {w : World} {ao : Option Addr} {l : List UInt8} (h : Bytes w ao l) (n : Nat) : Bytes w ao (l.take n) := by
  rcases h with h | ⟨a, o, h, h2, h3⟩
  · left; rw [h]; simp
  · exact .inr ⟨a, o, h, h2, fun j x hx => h3 j x (by rw [List.getElem?_take] at hx; split at hx <;> simp_all)⟩
set_option maxRecDepth 100000 in
theorem readNumber_short (k : Nat) (kI : Int) (hkI : kI = k) (l : List UInt8) (ao : Option Addr) (cap : Nat) (w : World) (hk : l.length < k) (hk8 : k ≤ 8) :
    Calls Tryd.prog 56 #[.slice ao l.length cap, .int .i64 kI] w fun e w' => e = .returned (.tuple #[.int .i64 0, .slice none 0 0, .int .i64 4]) ∧ w = w' := by
  have h1 : (l.length : Int) < kI := by omega
  clear hkI hk
  generalize l.length = n at *
  go_enter Tryd.func56, Tryd.ntmps56
  go_wp2_with fail
  go_ret3
  exact ⟨rfl, by first | rfl | trivial⟩
theorem num_small (l : List UInt8) (k : Nat) (hk : k ≤ 4) (hl : l.length = k) : 0 ≤ num l 0 ∧ num l 0 ≤ 4294967295 := by
  have h := num_range l 0
  have h2 : (256 : Int) ^ l.length ≤ 256 ^ 4 := by
    have := Nat.pow_le_pow_right (n := 256) (by decide) (show l.length ≤ 4 by omega)
    have h3 : ((256 ^ l.length : Nat) : Int) ≤ ((256 ^ 4 : Nat) : Int) := Int.ofNat_le.2 this
    rw [Int.natCast_pow, Int.natCast_pow] at h3
    exact h3
  have e : (256 : Int) ^ 4 = 4294967296 := by decide
  rw [e] at h2
  omega
set_option maxRecDepth 100000 in
set_option maxHeartbeats 1000000 in
theorem readNumber_any (k : Nat) (kI : Int) (hkI : kI = k) (l : List UInt8) (ao : Option Addr) (cap : Nat) (w : World) (hk : k ≤ l.length) (hk8 : k ≤ 4) (hc : l.length ≤ cap) (hq : cap ≤ 9223372036854775807) (hb : Bytes w ao l) :
    Calls Tryd.prog 56 #[.slice ao l.length cap, .int .i64 kI] w fun e w' => e = .returned (.tuple #[.int .i64 (num (l.take k) 0), .slice (pieceA ao k cap) (l.length - k) (cap - k), .int .i64 0]) ∧ Below w.heap.size w w' := by
  have h1 : ¬ (l.length : Int) < kI := by omega
  have htk : (l.take k).length = k := by rw [List.length_take]; omega
  have cN := fun W h => numOf_any (l.take k) ao cap W h (by omega)
  rw [htk] at cN
  have hf := bytes_front hb k
  have hns := num_small (l.take k) k hk8 htk
  have s0 := fun W => slice_first ao l.length cap k (by omega) W
  have s1 := fun W => slice_last ao l.length cap k hk W
  subst hkI
  generalize num (l.take k) 0 = N at *
  generalize l.length = n at *
  have hn0 := hns.1
  have hn1 := hns.2
  have wN : IntKind.i64.wrap N = N := by
    simp [IntKind.wrap, IntKind.bits, IntKind.signed]
    omega
  clear hk htk hns hc
  go_enter Tryd.func56, Tryd.ntmps56
  go_upto_region 3 with fail
  refine wp_region_det 10 (by kernel_rfl) (by kernel_rfl) (by kernel_rfl) ?_
  simp only [List.take_succ_cons, List.take_zero, List.drop_succ_cons, List.drop_zero]
  repeat (first
    | (apply wpDet_plain _ rfl; (focus (intro W hW; go_simp; with_reducible refine (cN W (hf.keep hW)).mono ?_; rintro e w' ⟨rfl, rfl⟩; exact ⟨rfl, Below.refl _ _⟩)); simp only [Act.put, List.setIfInBounds_toArray, List.set_cons_zero, List.set_cons_succ])
    | (apply wpDet_plain _ rfl; (focus (intro W hW; have q0 := s0 W; have q1 := s1 W; go_simp; exact ⟨rfl, Below.refl _ _⟩)); simp only [Act.put, List.setIfInBounds_toArray, List.set_cons_zero, List.set_cons_succ]))
  refine wpDet_nil ?_
  intro W9 hW9
  go_wp2_with fail
  go_ret3
  exact ⟨rfl, hW9⟩
set_option maxRecDepth 100000 in
set_option maxHeartbeats 1000000 in
theorem bytesClone_any (l : List UInt8) (ao : Option Addr) (cap : Nat) (w : World) (hc : l.length ≤ cap) (hl : l.length ≤ 140737488351232) (hn : ao = none → cap = 0) (hb : Bytes w ao l) :
    Calls Tryd.prog 71 #[.slice ao l.length cap] w fun e w' => ∃ v, e = .returned v ∧ OwnB w' w.heap.size v l ∧ Below w.heap.size w w' := by
  cases ao with
  | none =>
    have h0 := hn rfl
    have hl0 : l = [] := List.eq_nil_of_length_eq_zero (by omega)
    subst hl0
    subst h0
    have hO : OwnB w w.heap.size (.slice none 0 0) [] := World.ownsRow_nil _ _ _ _
    have hB := Below.refl w.heap.size w
    have hq : ∀ W, (binOp .eql 23 (.slice none 0 0) (.slice none 0 0)).run Tryd.prog W = .ok (.bool true) W := fun W => Lib.run_eql_slice_nil W _ _ none 0 0 0 0 Tryd.underlying23
    go_enter Tryd.func71, Tryd.ntmps71
    go_wp2_with fail
    go_ret
    exact ⟨_, rfl, hO, hB⟩
  | some a =>
    have o1 := ownB_fresh w w.heap.size (Nat.le_refl _)
    have b1 : Below w.heap.size w (w.alloc (.cells #[] 5)) := (Below.refl _ _).alloc (Nat.le_refl _) _
    have hb1 := hb.keep b1
    clear hb
    have hq : ∀ W n c, (binOp .eql 23 (.slice (some a) n c) (.slice none 0 0)).run Tryd.prog W = .ok (.bool false) W := fun W n c => Lib.run_eql_slice_nil W _ _ (some a) n c 0 0 Tryd.underlying23
    go_enter Tryd.func71, Tryd.ntmps71
    go_wp2_with (first
      | (at_builtin; refine wpList_append_came rfl _ _ rfl w.heap.size _ _ rfl o1 l (some a) cap rfl hb1 (fun h => by cases h) (by simpa using hl) b1.size ?_; intro v5 w5 ho5 hb5)
      | fail)
    go_ret
    exact ⟨_, rfl, ho5, b1.trans hb5⟩
end Go.Proofs.YtmldhnghfdhjmaaDoor

/-! CONTRACTS of package oracle's readTag, readPart, readParts, Parse. CONDITIONS: each theorem's own hypotheses. -/
namespace Go.Proofs.YtmldhnghfdhjmaaDoor
open Go.RowKit CodeMath Go.Proofs.YtmldhnghfdhjmaaDoor.FrameMath
set_option linter.unusedVariables false

/-- One part off the front. -/
def cut1 (l : List UInt8) : Option (List UInt8 × List UInt8) := if l.length < 4 then none else if ((l.drop 4).length : Int) < num (l.take 4) 0 then none else some ((l.drop 4).take (num (l.take 4) 0).toNat, (l.drop 4).drop (num (l.take 4) 0).toNat)
theorem cutN_succ (n : Nat) (l : List UInt8) : cutN (n + 1) l = match cut1 l with | none => .short | some (p, r) => cons p (cutN n r) := by
  unfold cut1
  show (if _ then _ else _) = _
  by_cases h1 : l.length < 4
  · rw [if_pos h1, if_pos h1]
  · rw [if_neg h1, if_neg h1]
    by_cases h2 : ((l.drop 4).length : Int) < num (l.take 4) 0
    · rw [if_pos h2, if_pos h2]
    · rw [if_neg h2, if_neg h2]
def apps (acc : List (List UInt8)) : Cut → Cut
  | .short => .short
  | .ok ps r => .ok (acc ++ ps) r
theorem apps_nil (c : Cut) : apps [] c = c := by cases c <;> rfl
theorem apps_cons (acc : List (List UInt8)) (p : List UInt8) (c : Cut) : apps acc (cons p c) = apps (acc ++ [p]) c := by
  cases c with
  | short => rfl
  | ok ps r => simp [apps, cons]
/-- What is read of the parts. -/
inductive PR where
  | err (e : Int)
  | ok (ps : List (List UInt8)) (r : List UInt8)
def ofCut : Cut → PR
  | .short => .err 4
  | .ok ps r => .ok ps r
def partsR : List UInt8 → PR
  | [] => .err 4
  | n :: l => if 8 < n.toNat then .err 1 else ofCut (cutN n.toNat l)
def PartsPost (R : PR) (w : World) (e : Ending) (w' : World) : Prop := match R with
  | .err c => e = .returned (.tuple #[.slice none 0 0, .slice none 0 0, .int .i64 c]) ∧ Below w.heap.size w w'
  | .ok ps r => ∃ v u, e = .returned (.tuple #[v, u, .int .i64 0]) ∧ OwnL w' w.heap.size v ps ∧ RowV w u r ∧ Below w.heap.size w w'
def ParsePost (R : FrameMath.Res) (w : World) (e : Ending) (w' : World) : Prop := match R with
  | .err c => e = .returned (.tuple #[.int .i64 0, .slice none 0 0, .int .i64 c]) ∧ Below w.heap.size w w'
  | .ok t ps => ∃ v, e = .returned (.tuple #[.int .i64 (t : Nat), v, .int .i64 0]) ∧ OwnL w' w.heap.size v ps ∧ Below w.heap.size w w'

set_option maxRecDepth 100000 in
set_option maxHeartbeats 1000000 in
theorem readPart_short (l : List UInt8) (ao : Option Addr) (cap : Nat) (w : World) (h : l.length < 4) :
    Calls Tryd.prog 57 #[.slice ao l.length cap] w fun e w' => e = .returned (.tuple #[.slice none 0 0, .slice none 0 0, .int .i64 4]) ∧ Below w.heap.size w w' := by
  have c := readNumber_short 4 4 rfl l ao cap w h (by decide)
  have hB := Below.refl w.heap.size w
  generalize l.length = n at c ⊢
  go_enter Tryd.func57, Tryd.ntmps57
  go_wp2_with fail
  refine c.mono ?_
  rintro e w1 ⟨rfl, rfl⟩
  go_wp2_with fail
  go_ret3
  exact ⟨rfl, hB⟩
set_option maxRecDepth 100000 in
set_option maxHeartbeats 1000000 in
theorem readPart_long (l : List UInt8) (ao : Option Addr) (cap : Nat) (w : World) (h4 : ¬ l.length < 4) (h : ((l.drop 4).length : Int) < num (l.take 4) 0) (hc : l.length ≤ cap) (hq : cap ≤ 9223372036854775807) (hb : Bytes w ao l) :
    Calls Tryd.prog 57 #[.slice ao l.length cap] w fun e w' => e = .returned (.tuple #[.slice none 0 0, .slice none 0 0, .int .i64 4]) ∧ Below w.heap.size w w' := by
  have c := readNumber_any 4 4 rfl l ao cap w (by omega) (by decide) hc hq hb
  rw [List.length_drop] at h
  generalize num (l.take 4) 0 = N at c h
  generalize l.length = n at c h h4 hc ⊢
  clear hb hc h4
  go_enter Tryd.func57, Tryd.ntmps57
  go_wp2_with fail
  refine c.mono ?_
  rintro e w1 ⟨rfl, hB⟩
  clear c
  go_wp2_with fail
  go_ret3
  exact ⟨rfl, hB⟩
def PartF (a1 a2 : Option Addr) (m k1 N m2 k2 : Nat) (PT : List UInt8) : Nat → Value → World → Prop
  | 0, v, _ => v = .slice a1 m k1
  | 1, v, _ => v = .int .i64 (N : Int)
  | 2, v, _ => v = .slice a1 N k1
  | 3, v, w => RowT w v PT
  | 4, v, _ => v = .slice a1 m k1
  | 5, v, _ => v = .int .i64 (N : Int)
  | 6, v, _ => v = .slice a2 m2 k2
  | 7, v, w => RowT w v PT
  | 8, v, _ => v = .slice a2 m2 k2
  | _, _, _ => True
theorem partF_keep {a1 a2 : Option Addr} {m k1 N m2 k2 : Nat} {PT : List UInt8} (i : Nat) (v : Value) (w w' : World) (h : PartF a1 a2 m k1 N m2 k2 PT i v w) (he : Below w.heap.size w w') : PartF a1 a2 m k1 N m2 k2 PT i v w' := by
  unfold PartF at *
  split at h <;> (try exact h) <;> (try exact trivial)
  · exact h.keep he
  · exact h.keep he
set_option maxRecDepth 100000 in
set_option maxHeartbeats 2000000 in
theorem readPart_good (l : List UInt8) (ao : Option Addr) (cap : Nat) (w : World) (h4 : ¬ l.length < 4) (h : ¬ ((l.drop 4).length : Int) < num (l.take 4) 0) (hc : l.length ≤ cap) (hq : cap ≤ 9223372036854775807) (hn : ao = none → cap = 0) (hl : l.length ≤ 140737488351232) (hb : Bytes w ao l) :
    Calls Tryd.prog 57 #[.slice ao l.length cap] w fun e w' => ∃ v, e = .returned (.tuple #[v, .slice (pieceA (pieceA ao 4 cap) (num (l.take 4) 0).toNat (cap - 4)) (l.length - 4 - (num (l.take 4) 0).toNat) (cap - 4 - (num (l.take 4) 0).toNat), .int .i64 0]) ∧ RowT w' v ((l.drop 4).take (num (l.take 4) 0).toNat) ∧ Below w.heap.size w w' := by
  have c := readNumber_any 4 4 rfl l ao cap w (by omega) (by decide) hc hq hb
  have hr := RowV.rest 4 (by omega) hc hq hn hb
  have hns := num_small (l.take 4) 4 (by decide) (by rw [List.length_take]; omega)
  obtain ⟨N, hN⟩ : ∃ N : Nat, num (l.take 4) 0 = N := ⟨(num (l.take 4) 0).toNat, by omega⟩
  rw [hN] at c h hns ⊢
  rw [Int.toNat_natCast]
  obtain ⟨UV, hUV⟩ : ∃ UV, Value.slice (pieceA (pieceA ao 4 cap) N (cap - 4)) (l.length - 4 - N) (cap - 4 - N) = UV := ⟨_, rfl⟩
  rw [hUV]
  obtain ⟨a1, k1, e1, g1, g2, g3, g4⟩ := hr
  obtain ⟨L, hL⟩ : ∃ L, l.drop 4 = L := ⟨_, rfl⟩
  have hLl : L.length = l.length - 4 := by rw [← hL, List.length_drop]
  rw [hL] at e1 g1 g4 h ⊢
  rw [e1] at c
  obtain ⟨ea, en, ek⟩ := Value.slice.inj e1
  rw [ea, en, ek] at hUV
  clear ea en ek
  have hNL : N ≤ L.length := by omega
  have hLm : L.length ≤ 140737488351232 := by omega
  generalize l.length = n at *
  have s0 := fun W => slice_first a1 L.length k1 N (by omega) W
  have s1 := fun W => slice_last a1 L.length k1 N hNL W
  have htl : (L.take N).length = N := by rw [List.length_take]; omega
  have cC := fun W (hB : Bytes W a1 (L.take N)) => bytesClone_any (L.take N) a1 k1 W (by omega) (by omega) g3 hB
  rw [htl] at cC
  have g5 := bytes_front g4 N
  have hR := fun W (hB : Bytes W a1 L) => RowV.rest N hNL g1 g2 g3 hB
  have hI : ¬ (L.length : Int) < N := by omega
  clear hb hc h4 hq hn hl hL hLl e1 hns hN g1 g2 g3
  generalize L.take N = PT at *
  generalize L.drop N = RT at *
  generalize L.length = m at *
  clear htl
  go_enter Tryd.func57, Tryd.ntmps57
  go_wp2_with fail
  refine c.mono ?_
  rintro e w1 ⟨rfl, hB1⟩
  clear c
  go_upto_region 6 with fail
  clear hI hNL hLm h
  have g5' := g5.keep hB1
  have g4' := g4.keep hB1
  clear g5 g4
  obtain ⟨a2, k2, e2, _⟩ := hR w1 g4'
  obtain ⟨m2, hm2⟩ : ∃ m2, RT.length = m2 := ⟨_, rfl⟩
  rw [hm2] at e2
  rw [e2] at s1 hUV
  subst hUV
  clear hm2 e2 hR
  generalize decide (m < N) = b18
  refine wp_region_facts' 9 (by kernel_rfl) (by kernel_rfl) (PartF a1 a2 m k1 N m2 k2 PT) (fun W => Below w1.heap.size w1 W) (fun W W' => Below W.heap.size W W') ?hC ?hF ?h0 ?hstep ?hdone
  case hC => exact fun W W' hc he => below_step hc hc.size he
  case hF => exact partF_keep
  case h0 => exact (Below.refl _ _).drew
  case hstep =>
    intro i hi vs a W K ha hc hd hu hK
    simp only [fillF, Act.put, List.take_succ_cons, List.take_zero, List.setIfInBounds_toArray, List.set_cons_zero, List.set_cons_succ] at ha
    subst ha
    rcases (show i = 0 ∨ i = 1 ∨ i = 2 ∨ i = 3 ∨ i = 4 ∨ i = 5 ∨ i = 6 ∨ i = 7 ∨ i = 8 by omega) with rfl | rfl | rfl | rfl | rfl | rfl | rfl | rfl | rfl
    · have u8 := hu 8 _ rfl (.inr (by kernel_rfl))
      simp only [slotOf] at u8
      simp only [u8] at hK ⊢
      refine wpOp_step rfl (fun K' hK' => ?_)
      go_simp
      exact hK' _ _ (hK _ _ rfl (Below.refl _ _))
    · refine wpOp_step rfl (fun K' hK' => ?_)
      go_simp
      exact hK' _ _ (hK _ _ rfl (Below.refl _ _))
    · have e0 : vs 0 = .slice a1 m k1 := hd 0 (by kernel_rfl)
      have e1 : vs 1 = .int .i64 (N : Int) := hd 1 (by kernel_rfl)
      simp only [e0, e1] at hK ⊢
      have q0 := s0 W
      refine wpOp_step rfl (fun K' hK' => ?_)
      go_simp
      exact hK' _ _ (hK _ _ rfl (Below.refl _ _))
    · have e2 : vs 2 = .slice a1 N k1 := hd 2 (by kernel_rfl)
      simp only [e2] at hK ⊢
      refine wpOp_step rfl (fun K' hK' => ?_)
      go_simp
      with_reducible refine (cC W (g5'.keep hc)).mono ?_
      rintro e w' ⟨v', rfl, ho, hb⟩
      exact hK' _ _ (hK _ _ ho.rowT hb)
    · have u8 := hu 8 _ rfl (.inr (by kernel_rfl))
      simp only [slotOf] at u8
      simp only [u8] at hK ⊢
      refine wpOp_step rfl (fun K' hK' => ?_)
      go_simp
      exact hK' _ _ (hK _ _ rfl (Below.refl _ _))
    · refine wpOp_step rfl (fun K' hK' => ?_)
      go_simp
      exact hK' _ _ (hK _ _ rfl (Below.refl _ _))
    · have e4 : vs 4 = .slice a1 m k1 := hd 4 (by kernel_rfl)
      have e5 : vs 5 = .int .i64 (N : Int) := hd 5 (by kernel_rfl)
      simp only [e4, e5] at hK ⊢
      have q1 := s1 W
      refine wpOp_step rfl (fun K' hK' => ?_)
      go_simp
      exact hK' _ _ (hK _ _ rfl (Below.refl _ _))
    · have y3 : RowT W (vs 3) PT := hd 3 (by kernel_rfl)
      refine wpOp_step rfl (fun K' hK' => ?_)
      go_simp
      exact hK' _ _ (hK _ _ y3 (Below.refl _ _))
    · have e6 : vs 6 = .slice a2 m2 k2 := hd 6 (by kernel_rfl)
      simp only [e6] at hK ⊢
      refine wpOp_step rfl (fun K' hK' => ?_)
      go_simp
      exact hK' _ _ (hK _ _ rfl (Below.refl _ _))
  case hdone =>
    intro vs a W ha hc hf
    simp only [fillF, Act.put, List.take_succ_cons, List.take_zero, List.setIfInBounds_toArray, List.set_cons_zero, List.set_cons_succ] at ha
    subst ha
    have f7 : RowT W (vs 7) PT := hf 7 (by decide)
    have f8 : vs 8 = .slice a2 m2 k2 := hf 8 (by decide)
    simp only [Nat.zero_add, Nat.reduceAdd, f8]
    have hBB := below_step hB1 hB1.size hc
    clear hf
    go_wp2_with fail
    go_ret3
    exact ⟨_, rfl, f7, hBB⟩
theorem RowV.part {w : World} {ao : Option Addr} {cap : Nat} {l : List UInt8} (N : Nat) (h4 : 4 ≤ l.length) (hN : N ≤ l.length - 4) (hc : l.length ≤ cap) (hq : cap ≤ 9223372036854775807) (hn : ao = none → cap = 0) (h : Bytes w ao l) : RowV w (.slice (pieceA (pieceA ao 4 cap) N (cap - 4)) (l.length - 4 - N) (cap - 4 - N)) ((l.drop 4).drop N) := by
  obtain ⟨a1, k1, e1, g1, g2, g3, g4⟩ := RowV.rest 4 h4 hc hq hn h
  obtain ⟨ea, en, ek⟩ := Value.slice.inj e1
  rw [ea, en, ek]
  exact RowV.rest N (by omega) g1 g2 g3 g4
end Go.Proofs.YtmldhnghfdhjmaaDoor

/-! CONTRACTS of package oracle's readTag, readParts, Parse. CONDITIONS: each theorem's own hypotheses. -/
namespace Go.Proofs.YtmldhnghfdhjmaaDoor
open Go.RowKit CodeMath Go.Proofs.YtmldhnghfdhjmaaDoor.FrameMath
set_option linter.unusedVariables false

set_option maxRecDepth 100000 in
theorem readTag_nil (ao : Option Addr) (cap : Nat) (w : World) :
    Calls Tryd.prog 39 #[.slice ao 0 cap] w fun e w' => e = .returned (.tuple #[.int .i64 0, .slice none 0 0, .int .i64 4]) ∧ Below w.heap.size w w' := by
  have c := readNumber_short 1 1 rfl [] ao cap w (by decide) (by decide)
  have hB := Below.refl w.heap.size w
  rw [show ([] : List UInt8).length = 0 from rfl] at c
  go_enter Tryd.func39, Tryd.ntmps39
  go_wp2_with fail
  refine c.mono ?_
  rintro e w1 ⟨rfl, rfl⟩
  go_wp2_with fail
  go_ret3
  exact ⟨rfl, hB⟩
theorem num_one (t : UInt8) (l : List UInt8) : num ((t :: l).take 1) 0 = (t.toNat : Int) := by
  rw [List.take_succ_cons, List.take_zero]
  simp [num]
set_option maxRecDepth 100000 in
set_option maxHeartbeats 1000000 in
theorem readTag_good (t : UInt8) (l : List UInt8) (ao : Option Addr) (cap n : Nat) (hn : l.length + 1 = n) (w : World) (hb : decide (1 ≤ (t.toNat : Int) ∧ (t.toNat : Int) ≤ 9) = true) (hc : n ≤ cap) (hq : cap ≤ 9223372036854775807) (hB : Bytes w ao (t :: l)) :
    Calls Tryd.prog 39 #[.slice ao n cap] w fun e w' => e = .returned (.tuple #[.int .i64 (t.toNat : Nat), .slice (pieceA ao 1 cap) (n - 1) (cap - 1), .int .i64 0]) ∧ Below w.heap.size w w' := by
  have hl : (t :: l).length = n := hn
  have c := readNumber_any 1 1 rfl (t :: l) ao cap w (by rw [hl]; omega) (by decide) (by rw [hl]; exact hc) hq hB
  rw [hl, num_one] at c
  have cT := fun W => isTag_any (t.toNat : Int) true hb W (by omega) (by have := byte_lt t; omega)
  have tb := byte_lt t
  generalize (t.toNat : Int) = T at *
  clear hb hB hl hn
  go_enter Tryd.func39, Tryd.ntmps39
  go_wp2_with fail
  refine c.mono ?_
  rintro e w1 ⟨rfl, hB⟩
  clear c
  go_wp2_with fail
  refine (cT _).mono ?_
  rintro e w2 ⟨rfl, rfl⟩
  go_wp2_with fail
  go_ret3
  exact ⟨rfl, hB⟩
set_option maxRecDepth 100000 in
set_option maxHeartbeats 1000000 in
theorem readTag_bad (t : UInt8) (l : List UInt8) (ao : Option Addr) (cap n : Nat) (hn : l.length + 1 = n) (w : World) (hb : decide (1 ≤ (t.toNat : Int) ∧ (t.toNat : Int) ≤ 9) = false) (hc : n ≤ cap) (hq : cap ≤ 9223372036854775807) (hB : Bytes w ao (t :: l)) :
    Calls Tryd.prog 39 #[.slice ao n cap] w fun e w' => e = .returned (.tuple #[.int .i64 0, .slice none 0 0, .int .i64 6]) ∧ Below w.heap.size w w' := by
  have hl : (t :: l).length = n := hn
  have c := readNumber_any 1 1 rfl (t :: l) ao cap w (by rw [hl]; omega) (by decide) (by rw [hl]; exact hc) hq hB
  rw [hl, num_one] at c
  have cT := fun W => isTag_any (t.toNat : Int) false hb W (by omega) (by have := byte_lt t; omega)
  have tb := byte_lt t
  generalize (t.toNat : Int) = T at *
  clear hb hB hl hn
  go_enter Tryd.func39, Tryd.ntmps39
  go_wp2_with fail
  refine c.mono ?_
  rintro e w1 ⟨rfl, hB⟩
  clear c
  go_wp2_with fail
  refine (cT _).mono ?_
  rintro e w2 ⟨rfl, rfl⟩
  go_wp2_with fail
  go_ret3
  exact ⟨rfl, hB⟩
set_option maxRecDepth 100000 in
set_option maxHeartbeats 4000000 in
theorem readParts_any (l : List UInt8) (ao : Option Addr) (cap : Nat) (w : World) (hc : l.length ≤ cap) (hq : cap ≤ 9223372036854775807) (hn : ao = none → cap = 0) (hl : l.length ≤ 140737488351232) (hB : Bytes w ao l) :
    Calls Tryd.prog 40 #[.slice ao l.length cap] w (PartsPost (partsR l) w) := by
  cases l with
  | nil =>
    have c := readNumber_short 1 1 rfl [] ao cap w (by decide) (by decide)
    have hB := Below.refl w.heap.size w
    rw [show ([] : List UInt8).length = 0 from rfl] at c ⊢
    go_enter Tryd.func40, Tryd.ntmps40
    go_wp2_with fail
    refine c.mono ?_
    rintro e w1 ⟨rfl, rfl⟩
    go_wp2_with fail
    go_ret3
    exact ⟨rfl, hB⟩
  | cons t l =>
    have c := readNumber_any 1 1 rfl (t :: l) ao cap w (by simp) (by decide) hc hq hB
    rw [num_one] at c
    have hr := RowV.rest 1 (by simp) hc hq hn hB
    rw [show (t :: l).drop 1 = l from rfl] at hr
    obtain ⟨a1, k1, e1, g1, g2, g3, g4⟩ := hr
    rw [e1] at c
    obtain ⟨n, hnn⟩ : ∃ n, (t :: l).length = n := ⟨_, rfl⟩
    have hll : l.length ≤ 140737488351232 := by simp at hl; omega
    obtain ⟨T, hT⟩ : ∃ T : Nat, t.toNat = T := ⟨_, rfl⟩
    have tb := byte_lt t
    obtain ⟨R, hR⟩ : ∃ R, partsR (t :: l) = R := ⟨_, rfl⟩
    rw [hR]
    change (if 8 < t.toNat then PR.err 1 else ofCut (cutN t.toNat l)) = R at hR
    rw [hT] at c tb hR
    rw [hnn] at c ⊢
    clear hnn hl hc hq hn hB e1 hT
    by_cases h8 : 8 < T
    · have hI : (8 : Int) < T := by omega
      rw [if_pos h8] at hR
      subst hR
      go_enter Tryd.func40, Tryd.ntmps40
      go_wp2_with fail
      refine c.mono ?_
      rintro e w1 ⟨rfl, hB⟩
      clear c
      go_wp2_with fail
      go_ret3
      exact ⟨rfl, hB⟩
    · have hI : ¬ (8 : Int) < T := by omega
      rw [if_neg h8] at hR
      have HR := Lib.hid hR
      have T8 : T ≤ 8 := by omega
      clear hR h8
      go_enter Tryd.func40, Tryd.ntmps40
      go_wp2_with fail
      refine c.mono ?_
      rintro e w1 ⟨rfl, hB1⟩
      clear c
      go_wp2_with fail
      have h0 : RowV w (.slice a1 l.length k1) l := ⟨a1, k1, rfl, g1, g2, g3, g4⟩
      generalize Value.slice a1 l.length k1 = u1 at h0 ⊢
      clear g1 g2 g3 g4
      go_loopw [2, 3, 19] (fun v u ix wr => ∃ (i : Nat) (acc : List (List UInt8)) (r : List UInt8), i ≤ T ∧ ix = .int .i64 i ∧ OwnL wr w.heap.size v acc ∧ RowV w u r ∧ Hid (cutN T l = apps acc (cutN (T - i) r)) ∧ Hid (acc.length = i) ∧ Hid (r.length ≤ 140737488351232) ∧ Below w.heap.size w wr) (fun _ _ ix _ => T - (intOf ix).toNat)
      case atStart => exact ⟨0, [], l, Nat.zero_le _, rfl, OwnL.nil _ _, h0, Lib.hid (by rw [apps_nil, Nat.sub_zero]), Lib.hid rfl, Lib.hid hll, hB1⟩
      case round =>
        obtain ⟨i, acc, r, hi, rfl, ho, hu, hcut, hal, hrl, hbr⟩ := hrel
        clear h0 hB1 hll
        obtain ⟨a2, k2, rfl, g1, g2, g3, g4w⟩ := hu
        have g4 := g4w.keep hbr
        by_cases hlt : i < T
        · have iI : (i : Int) < T := by omega
          obtain ⟨k, hk⟩ : ∃ k, T - i = k + 1 := ⟨T - i - 1, by omega⟩
          have hk' : T - (i + 1) = k := by omega
          have hcut' := hcut.out
          rw [hk, cutN_succ] at hcut'
          by_cases h4 : r.length < 4
          · have c := readPart_short r a2 k2 wr h4
            have e1 : cut1 r = none := by unfold cut1; rw [if_pos h4]
            rw [e1] at hcut'
            have HE : Hid (R = .err 4) := by have := HR.out; show _ = _; rw [← this, hcut']; rfl
            clear hcut hcut' hk hk' e1 h4 hlt HR
            generalize r.length = nr at *
            go_wp2_with fail
            refine c.mono ?_
            rintro e w2 ⟨rfl, hB2⟩
            clear c
            have hBB := below_step hbr hbr.size hB2
            go_wp2_with fail
            go_ret3
            rw [HE.out]
            exact ⟨rfl, hBB⟩
          · by_cases h5 : ((r.drop 4).length : Int) < num (r.take 4) 0
            · have c := readPart_long r a2 k2 wr h4 h5 g1 g2 g4
              have e1 : cut1 r = none := by unfold cut1; rw [if_neg h4, if_pos h5]
              rw [e1] at hcut'
              have HE : Hid (R = .err 4) := by have := HR.out; show _ = _; rw [← this, hcut']; rfl
              clear hcut hcut' hk hk' e1 h4 h5 hlt HR g4 g4w
              generalize r.length = nr at *
              go_wp2_with fail
              refine c.mono ?_
              rintro e w2 ⟨rfl, hB2⟩
              clear c
              have hBB := below_step hbr hbr.size hB2
              go_wp2_with fail
              go_ret3
              rw [HE.out]
              exact ⟨rfl, hBB⟩
            · have c := readPart_good r a2 k2 wr h4 h5 g1 g2 g3 hrl.out g4
              have e1 : cut1 r = some ((r.drop 4).take (num (r.take 4) 0).toNat, (r.drop 4).drop (num (r.take 4) 0).toNat) := by unfold cut1; rw [if_neg h4, if_neg h5]
              rw [e1] at hcut'
              simp only [apps_cons] at hcut'
              have hpt := RowV.part (num (r.take 4) 0).toNat (by omega) (by rw [List.length_drop] at h5; omega) g1 g2 g3 g4w
              have hrr : ((r.drop 4).drop (num (r.take 4) 0).toNat).length ≤ 140737488351232 := by have := hrl.out; simp; omega
              generalize (r.drop 4).take (num (r.take 4) 0).toNat = p at *
              generalize (r.drop 4).drop (num (r.take 4) 0).toNat = r' at *
              generalize Value.slice (pieceA (pieceA a2 4 k2) (num (r.take 4) 0).toNat (k2 - 4)) (r.length - 4 - (num (r.take 4) 0).toNat) (k2 - 4 - (num (r.take 4) 0).toNat) = u2 at *
              rw [← hk'] at hcut'
              have HC := Lib.hid hcut'
              have HL : Hid ((acc ++ [p]).length = i + 1) := by have := hal.out; show _ = _; rw [List.length_append, this]; rfl
              have hac : acc.length ≤ 1000000 := by have := hal.out; omega
              have HLT := Lib.hid hlt
              have HRR := Lib.hid hrr
              clear hcut hcut' hk hk' e1 h4 h5 hlt g4 g4w hal hrl hrr
              generalize r.length = nr at *
              go_wp2_with fail
              refine c.mono ?_
              rintro e w2 ⟨v2, rfl, hv2, hB2⟩
              clear c
              have hBB := below_step hbr hbr.size hB2
              have ho2 := ho.keep hB2
              have hs2 := hBB.size
              clear ho hB2 hbr
              obtain ⟨av, nv, kv, rfl⟩ : ∃ av nv kv, v2 = .slice av nv kv := by obtain ⟨av, kv, e, _⟩ := hv2; exact ⟨_, _, _, e⟩
              go_wp2_with (first
                | (at_builtin; refine wpList_append_line rfl _ _ rfl w.heap.size _ _ rfl ho2 _ p _ rfl rfl hv2 hac hs2 ?_; intro v5 w5 ho5 hb5)
                | fail)
              go_roundw
              case rel => exact ⟨i + 1, _, r', HLT.out, by go_num, ho5, hpt, HC, HL, HRR, hBB.trans hb5⟩
              case measure => have := HLT.out; simp [intOf]; omega
        · have iI : ¬ (i : Int) < T := by omega
          have hie : i = T := by omega
          have hcut' := hcut.out
          rw [hie, Nat.sub_self] at hcut'
          have e2 : apps acc (cutN 0 r) = .ok acc r := by show Cut.ok (acc ++ []) r = _; rw [List.append_nil]
          rw [e2] at hcut'
          have HE : Hid (R = .ok acc r) := by have := HR.out; show _ = _; rw [← this, hcut']; rfl
          have hu : RowV w (.slice a2 r.length k2) r := ⟨a2, k2, rfl, g1, g2, g3, g4w⟩
          generalize Value.slice a2 r.length k2 = u2 at hu ⊢
          clear hcut hcut' hie e2 HR hlt g1 g2 g3 g4 g4w
          go_wp2_with fail
          go_ret3
          rw [HE.out]
          exact ⟨_, _, rfl, ho, hu, hbr⟩
end Go.Proofs.YtmldhnghfdhjmaaDoor

/-! CONTRACT of package oracle's Parse. CONDITIONS: each theorem's own hypotheses. -/
namespace Go.Proofs.YtmldhnghfdhjmaaDoor
open Go.RowKit CodeMath Go.Proofs.YtmldhnghfdhjmaaDoor.FrameMath
set_option linter.unusedVariables false

/-- What parsing is, by its parts. -/
theorem parse_parts (t : UInt8) (l : List UInt8) (hs : ¬ 16777216 < (t :: l).length) (ht : ¬ (t.toNat < 1 ∨ 9 < t.toNat)) : parse (t :: l) = match partsR l with
    | .err e => .err e
    | .ok ps r => if r = [] then .ok t.toNat ps else .err 3 := by
  unfold parse
  rw [if_neg hs]
  simp only []
  rw [if_neg ht]
  cases l with
  | nil => rfl
  | cons n l =>
    simp only [partsR]
    by_cases h8 : 8 < n.toNat
    · rw [if_pos h8, if_pos h8]
    · rw [if_neg h8, if_neg h8]
      cases cutN n.toNat l with
      | short => rfl
      | ok ps r => rfl
set_option maxRecDepth 100000 in
set_option maxHeartbeats 2000000 in
theorem Parse_any (l : List UInt8) (ao : Option Addr) (cap : Nat) (w : World) (hc : l.length ≤ cap) (hq : cap ≤ 9223372036854775807) (hn : ao = none → cap = 0) (hl : l.length ≤ 140737488351232) (hB : Bytes w ao l) :
    Calls Tryd.prog 17 #[.slice ao l.length cap] w (ParsePost (parse l) w) := by
  by_cases hs : 16777216 < l.length
  · have hsI : (16777216 : Int) < l.length := by omega
    have e : parse l = .err 1 := by unfold parse; rw [if_pos hs]
    rw [e]
    have hBB := Below.refl w.heap.size w
    clear e hl hc hB hs
    generalize l.length = n at *
    go_enter Tryd.func17, Tryd.ntmps17
    go_wp2_with fail
    go_ret3
    exact ⟨rfl, hBB⟩
  · cases l with
    | nil =>
      have c := readTag_nil ao cap w
      rw [show parse [] = .err 4 from rfl, show ([] : List UInt8).length = 0 from rfl]
      clear hs hc hl hB
      go_enter Tryd.func17, Tryd.ntmps17
      go_wp2_with fail
      refine c.mono ?_
      rintro e w1 ⟨rfl, hB⟩
      go_wp2_with fail
      go_ret3
      exact ⟨rfl, hB⟩
    | cons t l =>
      obtain ⟨n, hnn⟩ : ∃ n, (t :: l).length = n := ⟨_, rfl⟩
      have hn1 : l.length + 1 = n := hnn
      have nI : ¬ (16777216 : Int) < n := by omega
      by_cases ht : t.toNat < 1 ∨ 9 < t.toNat
      · have e : parse (t :: l) = .err 6 := by unfold parse; rw [if_neg hs]; simp only []; rw [if_pos ht]
        have c := readTag_bad t l ao cap n hn1 w (by simp; omega) (by omega) hq hB
        rw [e, hnn]
        clear e hs ht hnn hn1 hc hl hB
        go_enter Tryd.func17, Tryd.ntmps17
        go_wp2_with fail
        refine c.mono ?_
        rintro e w1 ⟨rfl, hB⟩
        go_wp2_with fail
        go_ret3
        exact ⟨rfl, hB⟩
      · have e := parse_parts t l hs ht
        have c := readTag_good t l ao cap n hn1 w (by simp; omega) (by omega) hq hB
        have hr := RowV.rest 1 (by simp) hc hq hn hB
        rw [show (t :: l).drop 1 = l from rfl, hnn] at hr
        obtain ⟨a1, k1, e1, g1, g2, g3, g4⟩ := hr
        rw [e1] at c
        have cP := fun W hb => readParts_any l a1 k1 W g1 g2 g3 (by omega) hb
        obtain ⟨T, hT⟩ : ∃ T : Nat, t.toNat = T := ⟨_, rfl⟩
        obtain ⟨R, hR⟩ : ∃ R, parse (t :: l) = R := ⟨_, rfl⟩
        rw [hT] at c e
        rw [hnn, hR]
        rw [hR] at e
        clear hR hT ht hs hnn hn1 hc hl hB e1 g1 g2 g3
        generalize l.length = m at *
        cases hp : partsR l with
        | err q =>
          rw [hp] at e cP
          simp only [] at e
          subst e
          have q0 : q ≠ 0 := by
            unfold partsR at hp
            intro h0
            subst h0
            split at hp
            · cases hp
            · split at hp
              · cases hp
              · unfold ofCut at hp
                split at hp <;> cases hp
          clear hp
          go_enter Tryd.func17, Tryd.ntmps17
          go_wp2_with fail
          refine c.mono ?_
          rintro e w1 ⟨rfl, hB1⟩
          clear c
          have c := cP w1 (g4.keep hB1)
          clear cP g4
          go_wp2_with fail
          refine c.mono ?_
          rintro e w2 ⟨rfl, hB2⟩
          clear c
          have hBB := below_step hB1 hB1.size hB2
          go_wp2_with fail
          go_ret3
          exact ⟨rfl, hBB⟩
        | ok ps r =>
          rw [hp] at e cP
          simp only [] at e
          have HE := Lib.hid e
          clear hp e
          go_enter Tryd.func17, Tryd.ntmps17
          go_wp2_with fail
          refine c.mono ?_
          rintro e' w1 ⟨rfl, hB1⟩
          clear c
          have c := cP w1 (g4.keep hB1)
          clear cP g4
          go_wp2_with fail
          refine c.mono ?_
          rintro e' w2 ⟨v2, u2, rfl, ho2, hu2, hB2⟩
          clear c
          have hBB := below_step hB1 hB1.size hB2
          have ho : OwnL w2 w.heap.size v2 ps := ho2.base hB1.size
          obtain ⟨a3, k3, rfl, _⟩ := hu2
          clear ho2
          cases r with
          | nil =>
            have e := HE.out
            rw [if_pos rfl] at e
            subst e
            clear HE
            rw [show ([] : List UInt8).length = 0 from rfl]
            go_wp2_with fail
            go_ret3
            exact ⟨_, rfl, ho, hBB⟩
          | cons x r =>
            have e := HE.out
            rw [if_neg (by simp)] at e
            subst e
            clear HE
            obtain ⟨q, hq'⟩ : ∃ q, (x :: r).length = q := ⟨_, rfl⟩
            have hqI : (0 : Int) < q := by have : (x :: r).length = r.length + 1 := rfl; omega
            rw [hq']
            clear hq'
            go_wp2_with fail
            go_ret3
            exact ⟨rfl, hBB⟩
end Go.Proofs.YtmldhnghfdhjmaaDoor
