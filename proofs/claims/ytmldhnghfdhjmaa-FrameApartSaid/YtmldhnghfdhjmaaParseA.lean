/-
  CONTRACTS of package numeral's Of, bytes.Clone, and package oracle's readers.
  CONDITIONS: each theorem's own hypotheses.
-/
import Derived.Test.YtmldhnghfdhjmaaRowT
import Derived.Test.YtmldhnghfdhjmaaPiece
import Derived.Test.YtmldhnghfdhjmaaFrameQ
import Derived.Laws.BitsAllLaws
import Derived.Test.YtmldhnghfdhjmaaRegDet
import Derived.Deep.Cut
import Derived.Lib.LazyBuf
namespace Go.Proofs.Ytmldhnghfdhjmaa
open Go.RowKit CodeMath Go.Proofs.Ytmldhnghfdhjmaa.FrameMath
set_option linter.unusedVariables false

theorem or_byteP (N : Int) (c : UInt8) (h0 : 0 ≤ N) (h1 : N < two56) : bits .or .u64 (N * 256) c.toNat = N * 256 + c.toNat := by
  unfold two56 at h1
  have hc := byte_lt c
  rw [u64_or _ _ (by omega) (by omega) (by omega) (by omega)]
  rw [nat_join 8 _ _ (by omega) (by simp; omega)]
  omega
set_option maxRecDepth 100000 in
set_option maxHeartbeats 1000000 in
theorem numOf_any (l : List UInt8) (ao : Option Addr) (cap : Nat) (w : World) (hb : Bytes w ao l) (h8 : l.length ≤ 8) :
    Calls Try.prog 29 #[.slice ao l.length cap] w fun e w' => e = .returned (.int .u64 (num l 0)) ∧ w = w' := by
  obtain ⟨n, hn⟩ : ∃ n, l.length = n := ⟨_, rfl⟩
  have hget : ∀ t c, l[t]? = some c → ∃ a o, ao = some ⟨a, o, none⟩ ∧ w.cell? ⟨a, o + t, none⟩ = some (.int .u8 c.toNat) := fun t c hc => by
    rcases hb with h | ⟨a, o, h, _, h3⟩
    · rw [h] at hc; simp at hc
    · exact ⟨a, o, h, h3 t c hc⟩
  rw [hn] at h8 ⊢
  have nI : (n : Int) ≤ 8 := by omega
  have HN := Lib.hid hn
  clear hn hb
  go_enter Try.func29, Try.ntmps29
  go_wp2_with fail
  go_loopw [3, 8] (fun x i wr => ∃ t : Nat, t ≤ n ∧ i = .int .i64 t ∧ x = .int .u64 (num (l.take t) 0) ∧ wr = w) (fun _ i _ => n - (intOf i).toNat)
  case atStart => exact ⟨0, Nat.zero_le _, rfl, rfl, rfl⟩
  case round =>
    obtain ⟨t, ht, rfl, rfl, rfl⟩ := hrel
    by_cases h1 : t < n
    · have tI : (t : Int) < n := by omega
      have htl : t < l.length := by rw [HN.out]; exact h1
      obtain ⟨a, o, rfl, hg⟩ := hget t l[t] (List.getElem?_eq_getElem htl)
      have hnt := num_take l t l[t] (l.drop (t + 1)) (List.drop_eq_getElem_cons htl)
      have HNT := Lib.hid hnt
      have hn7 := num7 l t (by omega)
      have hor := Lib.hid (or_byteP (num (l.take t) 0) l[t] hn7.1 hn7.2)
      have hc := byte_lt l[t]
      obtain ⟨c, hcc⟩ : ∃ c, l[t] = c := ⟨_, rfl⟩
      rw [hcc] at hg HNT hor hc
      obtain ⟨N, hN⟩ : ∃ N, num (l.take t) 0 = N := ⟨_, rfl⟩
      obtain ⟨N2, hN2⟩ : ∃ N2, num (l.take (t + 1)) 0 = N2 := ⟨_, rfl⟩
      rw [hN] at HNT hn7 hor ⊢
      rw [hN2] at HNT
      have hn0 := hn7.1
      have hn1 : N ≤ 72057594037927935 := by have := hn7.2; unfold two56 at this; omega
      have HN2 := Lib.hid hN2
      have H1 := Lib.hid h1
      clear hN hN2 hn7 hnt hget htl h1 hcc
      go_wp2_with fail
      go_roundw
      case rel => exact ⟨t + 1, H1.out, by go_num, by rw [hor.out, HN2.out, HNT.out], by first | rfl | trivial⟩
      case measure => have := H1.out; simp [intOf]; omega
    · have tI : ¬ (t : Int) < n := by omega
      have hl : l.take t = l := List.take_of_length_le (by rw [HN.out]; omega)
      rw [hl]
      clear hget hl h1
      go_wp2_with fail
      go_ret
      exact ⟨rfl, by first | rfl | trivial⟩

/-- The rest of a slice, and its front. -/
theorem RowV.rest {w : World} {ao : Option Addr} {cap : Nat} {l : List UInt8} (k : Nat) (hk : k ≤ l.length) (hc : l.length ≤ cap) (hq : cap ≤ 9223372036854775807) (hn : ao = none → cap = 0) (h : Bytes w ao l) : RowV w (.slice (pieceA ao k cap) (l.length - k) (cap - k)) (l.drop k) := by
  refine ⟨_, _, by rw [List.length_drop], by rw [List.length_drop]; omega, by omega, fun hh => ?_, ?_⟩
  · unfold pieceA at hh
    split at hh
    · omega
    · cases ao with
      | none => have := hn rfl; omega
      | some a => cases hh
  · have := piece_bytes ao l cap k l.length hc w h
    rwa [List.take_of_length_le (by rw [List.length_drop]; omega)] at this
theorem bytes_front {w : World} {ao : Option Addr} {l : List UInt8} (h : Bytes w ao l) (n : Nat) : Bytes w ao (l.take n) := by
  rcases h with h | ⟨a, o, h, h2, h3⟩
  · left; rw [h]; simp
  · exact .inr ⟨a, o, h, h2, fun j x hx => h3 j x (by rw [List.getElem?_take] at hx; split at hx <;> simp_all)⟩
set_option maxRecDepth 100000 in
theorem readNumber_short (k : Nat) (kI : Int) (hkI : kI = k) (l : List UInt8) (ao : Option Addr) (cap : Nat) (w : World) (hk : l.length < k) (hk8 : k ≤ 8) :
    Calls Try.prog 27 #[.slice ao l.length cap, .int .i64 kI] w fun e w' => e = .returned (.tuple #[.int .i64 0, .slice none 0 0, .int .i64 4]) ∧ w = w' := by
  have h1 : (l.length : Int) < kI := by omega
  clear hkI hk
  generalize l.length = n at *
  go_enter Try.func27, Try.ntmps27
  go_wp2_with fail
  go_ret3
  exact ⟨rfl, by first | rfl | trivial⟩
theorem num_small (l : List UInt8) (k : Nat) (hk : k ≤ 4) (hl : l.length = k) : 0 ≤ num l 0 ∧ num l 0 ≤ 4294967295 := by
  have h := num_range l 0
  have h2 : (256 : Int) ^ l.length ≤ 256 ^ 4 := by
    have := Nat.pow_le_pow_right (n := 256) (by decide) (show l.length ≤ 4 by omega)
    have h3 : ((256 ^ l.length : Nat) : Int) ≤ ((256 ^ 4 : Nat) : Int) := Int.ofNat_le.2 this
    rw [Int.natCast_pow, Int.natCast_pow] at h3
    exact h3
  have e : (256 : Int) ^ 4 = 4294967296 := by decide
  rw [e] at h2
  omega
set_option maxRecDepth 100000 in
set_option maxHeartbeats 1000000 in
theorem readNumber_any (k : Nat) (kI : Int) (hkI : kI = k) (l : List UInt8) (ao : Option Addr) (cap : Nat) (w : World) (hk : k ≤ l.length) (hk8 : k ≤ 4) (hc : l.length ≤ cap) (hq : cap ≤ 9223372036854775807) (hb : Bytes w ao l) :
    Calls Try.prog 27 #[.slice ao l.length cap, .int .i64 kI] w fun e w' => e = .returned (.tuple #[.int .i64 (num (l.take k) 0), .slice (pieceA ao k cap) (l.length - k) (cap - k), .int .i64 0]) ∧ Below w.heap.size w w' := by
  have h1 : ¬ (l.length : Int) < kI := by omega
  have htk : (l.take k).length = k := by rw [List.length_take]; omega
  have cN := fun W h => numOf_any (l.take k) ao cap W h (by omega)
  rw [htk] at cN
  have hf := bytes_front hb k
  have hns := num_small (l.take k) k hk8 htk
  have s0 := fun W => slice_first ao l.length cap k (by omega) W
  have s1 := fun W => slice_last ao l.length cap k hk W
  subst hkI
  generalize num (l.take k) 0 = N at *
  generalize l.length = n at *
  have hn0 := hns.1
  have hn1 := hns.2
  have wN : IntKind.i64.wrap N = N := by
    simp [IntKind.wrap, IntKind.bits, IntKind.signed]
    omega
  clear hk htk hns hc
  go_enter Try.func27, Try.ntmps27
  go_upto_region 3 with fail
  refine wp_region_det 10 (by kernel_rfl) (by kernel_rfl) (by kernel_rfl) ?_
  simp only [List.take_succ_cons, List.take_zero, List.drop_succ_cons, List.drop_zero]
  repeat (first
    | (apply wpDet_plain _ rfl; (focus (intro W hW; go_simp; with_reducible refine (cN W (hf.keep hW)).mono ?_; rintro e w' ⟨rfl, rfl⟩; exact ⟨rfl, Below.refl _ _⟩)); simp only [Act.put, List.setIfInBounds_toArray, List.set_cons_zero, List.set_cons_succ])
    | (apply wpDet_plain _ rfl; (focus (intro W hW; have q0 := s0 W; have q1 := s1 W; go_simp; exact ⟨rfl, Below.refl _ _⟩)); simp only [Act.put, List.setIfInBounds_toArray, List.set_cons_zero, List.set_cons_succ]))
  refine wpDet_nil ?_
  intro W9 hW9
  go_wp2_with fail
  go_ret3
  exact ⟨rfl, hW9⟩
set_option maxRecDepth 100000 in
set_option maxHeartbeats 1000000 in
theorem bytesClone_any (l : List UInt8) (ao : Option Addr) (cap : Nat) (w : World) (hc : l.length ≤ cap) (hl : l.length ≤ 140737488351232) (hn : ao = none → cap = 0) (hb : Bytes w ao l) :
    Calls Try.prog 30 #[.slice ao l.length cap] w fun e w' => ∃ v, e = .returned v ∧ OwnB w' w.heap.size v l ∧ Below w.heap.size w w' := by
  cases ao with
  | none =>
    have h0 := hn rfl
    have hl0 : l = [] := List.eq_nil_of_length_eq_zero (by omega)
    subst hl0
    subst h0
    have hO : OwnB w w.heap.size (.slice none 0 0) [] := World.ownsRow_nil _ _ _ _
    have hB := Below.refl w.heap.size w
    have hq : ∀ W, (binOp .eql 23 (.slice none 0 0) (.slice none 0 0)).run Try.prog W = .ok (.bool true) W := fun W => Lib.run_eql_slice_nil W _ _ none 0 0 0 0 Try.underlying23
    go_enter Try.func30, Try.ntmps30
    go_wp2_with fail
    go_ret
    exact ⟨_, rfl, hO, hB⟩
  | some a =>
    have o1 := ownB_fresh w w.heap.size (Nat.le_refl _)
    have b1 : Below w.heap.size w (w.alloc (.cells #[] 5)) := (Below.refl _ _).alloc (Nat.le_refl _) _
    have hb1 := hb.keep b1
    clear hb
    have hq : ∀ W n c, (binOp .eql 23 (.slice (some a) n c) (.slice none 0 0)).run Try.prog W = .ok (.bool false) W := fun W n c => Lib.run_eql_slice_nil W _ _ (some a) n c 0 0 Try.underlying23
    go_enter Try.func30, Try.ntmps30
    go_wp2_with (first
      | (at_builtin; refine wpList_append_came rfl _ _ rfl w.heap.size _ _ rfl o1 l (some a) cap rfl hb1 (fun h => by cases h) (by simpa using hl) b1.size ?_; intro v5 w5 ho5 hb5)
      | fail)
    go_ret
    exact ⟨_, rfl, ho5, b1.trans hb5⟩
end Go.Proofs.Ytmldhnghfdhjmaa
