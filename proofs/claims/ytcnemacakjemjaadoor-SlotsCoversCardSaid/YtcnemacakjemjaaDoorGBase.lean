/-
  MERGED: StrA, BigK, ByMax, OwnB, Num, FrameMath, Lines, FrameP, FrameQ.
  CONDITIONS: each theorem's own hypotheses.
-/
import Derived.Test.YtcnemacakjemjaaDoorProg
import Derived.Test.YtcnemacakjemjaaDoorCodeMath
import Derived.WalkKit
import Derived.WalkLawsBesides
import Derived.WalkMore
import Derived.Below
import Derived.Lib.Hide
import Derived.Lib.Bytealg
import Derived.Laws.Externs
import Derived.Laws.Cover2
import Derived.IntWalk
import Derived.Laws.BitsAllLaws
import Derived.Lib.PathFns
import Derived.Laws.Strings2
import Derived.Laws.Strings3
import Derived.OwnWalk
import Derived.Laws.OwnMore
import Derived.Laws.AppendOwn
import Derived.Laws.AppendOwnNone
import Derived.Laws.MakeOwn

/-! STRINGS AND BYTES at a call: where bytes lie, cuts, conversions; the reference's number and big. CONDITIONS: each theorem's own hypotheses. -/
namespace Go.Proofs.YtcnemacakjemjaaDoor
open Go.RowKit CodeMath
set_option linter.unusedVariables false

theorem bytes_eq {s t : ByteArray} (h : s.data.toList = t.data.toList) : s = t := by
  rw [← Lib.mk_data s, ← Lib.mk_data t, h]

theorem num_snoc : ∀ (l : List UInt8) (a : Int) (c : UInt8), num (l ++ [c]) a = num l a * 256 + c.toNat
  | [], a, c => rfl
  | x :: l, a, c => by simp only [List.cons_append, num]; exact num_snoc l _ c

theorem num_take (l : List UInt8) (t : Nat) (c : UInt8) (r : List UInt8) (h : l.drop t = c :: r) : num (l.take (t + 1)) 0 = num (l.take t) 0 * 256 + c.toNat := by
  have ht : t < l.length := by
    have := congrArg List.length h
    simp at this; omega
  rw [List.drop_eq_getElem_cons ht] at h
  simp only [List.cons.injEq] at h
  rw [List.take_succ_eq_append_getElem ht, h.1, num_snoc]

def two56 : Int := 72057594037927936

set_option maxRecDepth 100000 in
theorem num7 (l : List UInt8) (t : Nat) (ht : t ≤ 7) : 0 ≤ num (l.take t) 0 ∧ num (l.take t) 0 < two56 := by
  have h := num_range (l.take t) 0
  have h2 : (256 : Int) ^ (l.take t).length ≤ 256 ^ 7 := by
    have : (l.take t).length ≤ 7 := by rw [List.length_take]; omega
    have := Nat.pow_le_pow_right (n := 256) (by decide) this
    have h3 : ((256 ^ (l.take t).length : Nat) : Int) ≤ ((256 ^ 7 : Nat) : Int) := Int.ofNat_le.2 this
    rw [Int.natCast_pow, Int.natCast_pow] at h3
    exact h3
  have e : (256 : Int) ^ 7 = two56 := by decide
  rw [e] at h2
  omega

/-- A slice of bytes, wherever it lies. -/
def Bytes (w : World) (ao : Option Addr) (l : List UInt8) : Prop := l = [] ∨ ∃ a o, ao = some ⟨a, o, none⟩ ∧ a < w.heap.size ∧ ∀ j x, l[j]? = some x → w.cell? ⟨a, o + j, none⟩ = some (.int .u8 x.toNat)

theorem Bytes.keep {w w1 : World} {ao : Option Addr} {l : List UInt8} (h : Bytes w ao l) (hb : Below w.heap.size w w1) : Bytes w1 ao l := by
  rcases h with h | ⟨a, o, h1, h2, h3⟩
  · exact .inl h
  · exact .inr ⟨a, o, h1, Nat.lt_of_lt_of_le h2 hb.size, fun j x hx => (hb.cell (p := ⟨a, o + j, none⟩) h2).trans (h3 j x hx)⟩

theorem bytes_string {w : World} {ao : Option Addr} {cap : Nat} {l : List UInt8} (h : Bytes w ao l) : (convert 37 9 (.slice ao l.length cap)).run Tryd.prog w = .ok (.string ⟨l.toArray⟩) w := by
  rcases h with rfl | ⟨a, o, rfl, h2, h3⟩
  · cases ao with
    | none => exact run_convert_bytes_nil w 37 5 Tryd.underlying37 Tryd.underlying5 0 cap 9 Tryd.underlying9
    | some a => exact run_convert_bytes_back w 37 9 5 a cap [] Tryd.underlying37 Tryd.underlying5 Tryd.underlying9 (fun j hj => by simp at hj)
  · refine run_convert_bytes_back w 37 9 5 ⟨a, o, none⟩ cap l Tryd.underlying37 Tryd.underlying5 Tryd.underlying9 (fun j hj => ?_)
    have := h3 j l[j] (List.getElem?_eq_getElem hj)
    have e : (⟨a, o, none⟩ : Addr).add j = ⟨a, o + j, none⟩ := by unfold Addr.add; split <;> simp_all
    rw [e]; exact this

/-- A string of these bytes. -/
def str (l : List UInt8) : ByteArray := ⟨l.toArray⟩

theorem str_data (l : List UInt8) : (str l).data.toList = l := rfl

theorem str_size (l : List UInt8) : (str l).size = l.length := by simp [str, ByteArray.size]

theorem str_toList (l : List UInt8) : (str l).toList = l := by rw [Lib.toList_data]; rfl

theorem str_eq (s : ByteArray) : s = str s.data.toList := by cases s; simp [str]

theorem str_get (l : List UInt8) (j : Nat) (h : j < (str l).size) : (str l)[j] = l[j]'(by rw [str_size] at h; exact h) := rfl

theorem str_extract (l : List UInt8) (i j : Nat) (h : i ≤ j) : (str l).extract i j = str ((l.drop i).take (j - i)) := by
  apply bytes_eq
  show ((str l).extract i j).data.toList = _
  rw [str_data, ByteArray.data_extract, Array.toList_extract]
  simp [str, List.extract]

theorem str_append (l m : List UInt8) : str l ++ str m = str (l ++ m) := by
  apply bytes_eq
  simp [str]

/-- s[i:j], a cut of a string. -/
theorem cut_str (l : List UInt8) (i j : Nat) (x y : Int) (hx : x = i) (hy : y = j) (h1 : i ≤ j) (h2 : j ≤ l.length) (w : World) :
    (Instr.slice 9 (.string (str l)) (some (.int .i64 x)) (some (.int .i64 y)) none).run Tryd.prog w = .ok (.string (str ((l.drop i).take (j - i)))) w := by
  subst hx hy
  have h := run_slice_string (P := Tryd.prog) w 9 (str l) .i64 .i64 (i : Int) (j : Int) Tryd.underlying9 (by omega) (by omega) (by rw [str_size]; omega)
  rw [h, Int.toNat_natCast, Int.toNat_natCast, str_extract l i j h1]

theorem str1_append (c : UInt8) (l : List UInt8) : str [c] ++ str l = str (c :: l) := by rw [str_append]; rfl

theorem div256 (n : Int) (t : Nat) : n / 256 ^ t / 256 = n / 256 ^ (t + 1) := by
  have := @Int.ediv_ediv n (256 ^ t) 256
  have h := pow_pos' t
  rw [if_neg (by omega)] at this
  rw [Int.pow_succ]; omega

theorem div_range (n : Int) (t : Nat) (h0 : 0 ≤ n) (h1 : n ≤ 18446744073709551615) : 0 ≤ n / 256 ^ t ∧ n / 256 ^ t ≤ 18446744073709551615 :=
  ⟨Int.ediv_nonneg h0 (Int.le_of_lt (pow_pos' t)), Int.le_trans (Int.ediv_le_self _ h0) h1⟩

theorem conv1x (W : World) (g : Nat) (x : Int) (c : UInt8) (hg : g = W.heap.size) (hx : x = (c.toNat : Int)) : (convert 37 9 (.slice (some ⟨g, 0, none⟩) 1 1)).run Tryd.prog (W.alloc (.cells #[.int .u8 x] 5)) = .ok (.string (str [c])) (W.alloc (.cells #[.int .u8 x] 5)) := by
  subst hg hx
  exact run_convert_bytes_back (P := Tryd.prog) _ 37 9 5 ⟨W.heap.size, 0, none⟩ 1 [c] Tryd.underlying37 Tryd.underlying5 Tryd.underlying9 (fun j hj => by
    obtain rfl : j = 0 := by simp at hj; exact hj
    show (W.alloc (.cells #[.int .u8 (c.toNat : Int)] 5)).cell? ⟨W.heap.size, 0, none⟩ = _
    rw [World.cell?_alloc_new]
    rfl)

theorem conv1 (W : World) (q : Int) : (convert 37 9 (.slice (some ⟨W.heap.size, 0, none⟩) 1 1)).run Tryd.prog (W.alloc (.cells #[.int .u8 (q % 256)] 5)) = .ok (.string (str [lowB q])) (W.alloc (.cells #[.int .u8 (q % 256)] 5)) :=
  conv1x W _ _ (lowB q) rfl (lowB_toNat q).symm

set_option maxRecDepth 100000 in
set_option maxHeartbeats 1000000 in
theorem big_any (n : Int) (w : World) (h0 : 0 ≤ n) (h1 : n ≤ 18446744073709551615) :
    Calls Tryd.prog 49 #[.int .u64 n, .int .i64 8] w fun e w' => e = .returned (.string (str (be n 8))) ∧ Below w.heap.size w w' := by
  go_enter Tryd.func49, Tryd.ntmps49
  go_wp2
  go_loopw [0, 5, 7] (fun x s i wr => ∃ (t : Nat) (q : Int), t ≤ 8 ∧ i = .int .i64 t ∧ Hid (q = n / 256 ^ t) ∧ x = .int .u64 q ∧ s = .string (str (be n t)) ∧ Below w.heap.size w wr) (fun _ _ i _ => 8 - (intOf i).toNat)
  case atStart => exact ⟨0, n, Nat.zero_le _, rfl, Lib.hid (by simp), rfl, rfl, Below.refl _ _⟩
  case round =>
    obtain ⟨t, q, ht, rfl, hq, rfl, rfl, hbw⟩ := hrel
    have hr := div_range n t h0 h1
    rw [← hq.out] at hr
    have q0 := hr.1
    have q1 := hr.2
    by_cases h8 : t < 8
    · obtain ⟨S, hS⟩ : ∃ S, str (be n t) = S := ⟨_, rfl⟩
      rw [hS]
      have hcv := conv1 wr q
      have happ : str [lowB q] ++ S = str (be n (t + 1)) := by
        rw [← hS, hq.out]; exact str1_append _ _
      have hsz : ¬ 9223372036854775807 < (str [lowB q]).size + S.size := by rw [← hS, str_size, str_size, be_length]; simp; omega
      obtain ⟨B, hB⟩ : ∃ B, str [lowB q] = B := ⟨_, rfl⟩
      obtain ⟨S2, hS2⟩ : ∃ S2, str (be n (t + 1)) = S2 := ⟨_, rfl⟩
      rw [hB] at hcv happ hsz
      rw [hS2] at happ
      have HS2 := Lib.hid hS2
      have hq2 : Hid (q / 256 = n / 256 ^ (t + 1)) := by have := hq.out; show q / 256 = _; rw [this, div256]
      clear hS hB hS2
      go_wp2
      go_roundw
      case rel => exact ⟨t + 1, q / 256, by omega, by go_num, hq2, rfl, by rw [HS2.out], hbw.alloc hbw.size _⟩
      case measure => simp [intOf]; omega
    · have ht8 : t = 8 := by omega
      subst ht8
      go_wp2
      go_ret
      exact ⟨rfl, hbw⟩

/-- []byte(s). -/
theorem bytesOf (l : List UInt8) (w : World) : ∃ cap W1, (convert 9 37 (.string (str l))).run Tryd.prog w = .ok (.slice (some ⟨w.heap.size, 0, none⟩) l.length cap) W1 ∧ Bytes W1 (some ⟨w.heap.size, 0, none⟩) l ∧ Below w.heap.size w W1 := by
  have hcv := run_bytes_of_string (P := Tryd.prog) w 9 37 5 (str l) Tryd.underlying9 Tryd.underlying37 Tryd.underlying5
  have hsz := str_size l
  generalize hcap : grownCap w (str l).size 0 5 = cap at hcv
  refine ⟨_, _, hcv.trans (by rw [hsz]), .inr ⟨w.heap.size, 0, rfl, by simp, fun j x hx => ?_⟩, (Below.refl w.heap.size w).drew.alloc (Nat.le_refl _) _⟩
  have hj : j < l.length := (List.getElem?_eq_some_iff.1 hx).1
  have h := World.cell?_alloc_mark w.drew (bytesRow (str l) cap) 5 ((bytesRow (str l) cap).size, (bytesRow (str l) cap).size + 1) j
  have e : w.drew.heap.size = w.heap.size := rfl
  rw [e] at h
  rw [Nat.zero_add, h, bytesRow_at (str l) cap j (by show j < (str l).size; rw [hsz]; exact hj)]
  have : (str l).data[j]'(by show j < (str l).size; rw [hsz]; exact hj) = x := by
    have := (List.getElem?_eq_some_iff.1 hx).2
    rw [← this]; rfl
  rw [this]

set_option maxRecDepth 100000 in
set_option maxHeartbeats 1000000 in
theorem number_any (l : List UInt8) (w : World) (h8 : l.length ≤ 8) :
    Calls Tryd.prog 65 #[.string (str l)] w fun e w' => e = .returned (.int .u64 (num l 0)) ∧ w = w' := by
  have hsz := str_size l
  obtain ⟨s, hs⟩ : ∃ s, str l = s := ⟨_, rfl⟩
  rw [hs] at hsz ⊢
  obtain ⟨n, hn⟩ : ∃ n, l.length = n := ⟨_, rfl⟩
  rw [hn] at hsz h8
  have hget : ∀ j (h : j < s.size) (h' : j < l.length), s[j] = l[j] := by subst hs; exact fun j h h' => rfl
  have HSZ := Lib.hid hsz
  have HN := Lib.hid hn
  clear hs hsz hn
  go_enter Tryd.func65, Tryd.ntmps65
  go_wp2
  go_loopw [3, 4] (fun x i wr => ∃ t : Nat, t ≤ n ∧ i = .int .i64 t ∧ x = .int .u64 (num (l.take t) 0) ∧ wr = w) (fun _ i _ => n - (intOf i).toNat)
  case atStart => exact ⟨0, Nat.zero_le _, rfl, rfl, rfl⟩
  case round =>
    obtain ⟨t, ht, rfl, rfl, rfl⟩ := hrel
    by_cases h1 : t < n
    · have hts : t < s.size := by rw [HSZ.out]; exact h1
      have htl : t < l.length := by rw [HN.out]; exact h1
      have hg := hget t hts htl
      have hnt := num_take l t l[t] (l.drop (t + 1)) (List.drop_eq_getElem_cons htl)
      rw [← hg] at hnt
      have HNT := Lib.hid hnt
      have hn7 := num7 l t (by omega)
      have hc := byte_lt s[t]
      obtain ⟨N, hN⟩ : ∃ N, num (l.take t) 0 = N := ⟨_, rfl⟩
      obtain ⟨N2, hN2⟩ : ∃ N2, num (l.take (t + 1)) 0 = N2 := ⟨_, rfl⟩
      rw [hN] at HNT hn7 ⊢
      rw [hN2] at HNT
      have hn0 := hn7.1
      have hn1 : N ≤ 72057594037927935 := by have := hn7.2; unfold two56 at this; omega
      have HN2 := Lib.hid hN2
      clear hN hN2 hn7 hnt hg hget htl
      go_wp2
      go_roundw
      case rel => exact ⟨t + 1, by omega, by go_num, by rw [HN2.out, HNT.out], by first | rfl | trivial⟩
      case measure => simp [intOf]; omega
    · have hge : ¬ t < s.size := by rw [HSZ.out]; exact h1
      have hl : l.take t = l := List.take_of_length_le (by rw [HN.out]; omega)
      rw [hl]
      clear hget hl
      go_wp2
      go_ret
      exact ⟨rfl, by first | rfl | trivial⟩

end Go.Proofs.YtcnemacakjemjaaDoor

/-! CONTRACT of the reference's big of any size. CONDITIONS: each theorem's own hypotheses. -/
namespace Go.Proofs.YtcnemacakjemjaaDoor
open Go.RowKit CodeMath
set_option linter.unusedVariables false

set_option maxRecDepth 100000 in
set_option maxHeartbeats 1000000 in
theorem big_k (n : Int) (k : Nat) (kI : Int) (hkI : kI = k) (w : World) (h0 : 0 ≤ n) (h1 : n ≤ 18446744073709551615) (hk : k ≤ 8) :
    Calls Tryd.prog 49 #[.int .u64 n, .int .i64 kI] w fun e w' => e = .returned (.string (str (be n k))) ∧ Below w.heap.size w w' := by
  subst hkI
  go_enter Tryd.func49, Tryd.ntmps49
  go_wp2
  go_loopw [0, 5, 7] (fun x s i wr => ∃ (t : Nat) (q : Int), t ≤ k ∧ i = .int .i64 t ∧ Hid (q = n / 256 ^ t) ∧ x = .int .u64 q ∧ s = .string (str (be n t)) ∧ Below w.heap.size w wr) (fun _ _ i _ => k - (intOf i).toNat)
  case atStart => exact ⟨0, n, Nat.zero_le _, rfl, Lib.hid (by simp), rfl, rfl, Below.refl _ _⟩
  case round =>
    obtain ⟨t, q, ht, rfl, hq, rfl, rfl, hbw⟩ := hrel
    have hr := div_range n t h0 h1
    rw [← hq.out] at hr
    have q0 := hr.1
    have q1 := hr.2
    by_cases h8 : t < k
    · obtain ⟨S, hS⟩ : ∃ S, str (be n t) = S := ⟨_, rfl⟩
      rw [hS]
      have hcv := conv1 wr q
      have happ : str [lowB q] ++ S = str (be n (t + 1)) := by
        rw [← hS, hq.out]; exact str1_append _ _
      have hsz : ¬ 9223372036854775807 < (str [lowB q]).size + S.size := by rw [← hS, str_size, str_size, be_length]; simp; omega
      obtain ⟨B, hB⟩ : ∃ B, str [lowB q] = B := ⟨_, rfl⟩
      obtain ⟨S2, hS2⟩ : ∃ S2, str (be n (t + 1)) = S2 := ⟨_, rfl⟩
      rw [hB] at hcv happ hsz
      rw [hS2] at happ
      have HS2 := Lib.hid hS2
      have hq2 : Hid (q / 256 = n / 256 ^ (t + 1)) := by have := hq.out; show q / 256 = _; rw [this, div256]
      have tI : (t : Int) < k := by omega
      clear hS hB hS2
      go_wp2
      go_roundw
      case rel => exact ⟨t + 1, q / 256, by omega, by go_num, hq2, rfl, by rw [HS2.out], hbw.alloc hbw.size _⟩
      case measure => simp [intOf]; omega
    · have ht8 : t = k := by omega
      have tI : ¬ ((t : Int) < k) := by omega
      have HT := Lib.hid ht8
      clear ht8 h8 hq hr
      go_wp2
      go_ret
      exact ⟨by rw [HT.out]; rfl, hbw⟩
end Go.Proofs.YtcnemacakjemjaaDoor

/-! CONVERSIONS of strings to bytes: where what is new lies. CONDITIONS: each theorem's own hypotheses. -/
namespace Go.Proofs.YtcnemacakjemjaaDoor
open Go.RowKit CodeMath
set_option linter.unusedVariables false
set_option maxRecDepth 100000

/-- Bytes of one's own from the start of a block. -/
def Pads (W : World) (g : Nat) (l : List UInt8) : Prop := g < W.heap.size ∧ ∀ j c, l[j]? = some c → W.cell? ⟨g, j, none⟩ = some (.int .u8 c.toNat) ∧ W.frozen? ⟨g, j, none⟩ = false
theorem Pads.set {W : World} {g : Nat} {l : List UInt8} (h : Pads W g l) (i : Nat) (c : UInt8) : Pads (W.setCell ⟨g, i, none⟩ (.int .u8 c.toNat)) g (l.set i c) := by
  refine ⟨by simpa using h.1, fun j x hx => ?_⟩
  by_cases hij : i = j
  · subst hij
    have hi : i < l.length := by have := (List.getElem?_eq_some_iff.1 hx).1; simpa using this
    rw [List.getElem?_set_self hi] at hx
    cases hx
    obtain ⟨h1, h2⟩ := h.2 i _ (List.getElem?_eq_getElem hi)
    exact ⟨World.cell?_setCell_same _ _ _ h1, by rw [World.frozen?_setCell]; exact h2⟩
  · rw [List.getElem?_set_ne hij] at hx
    obtain ⟨h1, h2⟩ := h.2 j x hx
    exact ⟨by rw [World.cell?_setCell_other _ _ _ _ (fun e => hij (by cases e; rfl))]; exact h1, by rw [World.frozen?_setCell]; exact h2⟩
theorem Pads.bytes {W : World} {g : Nat} {l : List UInt8} (h : Pads W g l) : Bytes W (some ⟨g, 0, none⟩) l :=
  .inr ⟨g, 0, rfl, h.1, fun j x hx => by rw [Nat.zero_add]; exact (h.2 j x hx).1⟩
theorem bytesOf_own (l : List UInt8) (w : World) : ∃ cap W1, (convert 9 37 (.string (str l))).run Tryd.prog w = .ok (.slice (some ⟨w.heap.size, 0, none⟩) l.length cap) W1 ∧ Pads W1 w.heap.size l ∧ Below w.heap.size w W1 ∧ l.length ≤ cap := by
  have hcv := run_bytes_of_string (P := Tryd.prog) w 9 37 5 (str l) Tryd.underlying9 Tryd.underlying37 Tryd.underlying5
  have hsz := str_size l
  have hge : l.length ≤ grownCap w (str l).size 0 5 := by rw [← hsz]; exact Nat.le_of_lt_succ (by have := grownCap_ge w (str l).size 0 5; omega)
  generalize hcap : grownCap w (str l).size 0 5 = cap at hcv hge
  refine ⟨_, _, hcv.trans (by rw [hsz]), ⟨by simp, fun j x hx => ?_⟩, (Below.refl w.heap.size w).drew.alloc (Nat.le_refl _) _, hge⟩
  have hj : j < l.length := (List.getElem?_eq_some_iff.1 hx).1
  have h := World.cell?_alloc_mark w.drew (bytesRow (str l) cap) 5 ((bytesRow (str l) cap).size, (bytesRow (str l) cap).size + 1) j
  have hf := World.frozen?_alloc_mark w.drew (bytesRow (str l) cap) 5 (bytesRow (str l) cap).size ((bytesRow (str l) cap).size + 1) j
  have e : w.drew.heap.size = w.heap.size := rfl
  rw [e] at h hf
  have hb : j < (bytesRow (str l) cap).size := by
    have := bytesRow_at (str l) cap j (by show j < (str l).size; rw [hsz]; exact hj)
    exact (Array.getElem?_eq_some_iff.1 this).1
  refine ⟨?_, ?_⟩
  · rw [h, bytesRow_at (str l) cap j (by show j < (str l).size; rw [hsz]; exact hj)]
    have : (str l).data[j]'(by show j < (str l).size; rw [hsz]; exact hj) = x := by
      have := (List.getElem?_eq_some_iff.1 hx).2
      rw [← this]; rfl
    rw [this]
  · rw [hf]; simp; omega
theorem bytesOf_max (l : List UInt8) (w : World) (hl : l.length ≤ 9223372036854775807) : ∃ cap W1, (convert 9 37 (.string (str l))).run Tryd.prog w = .ok (.slice (some ⟨w.heap.size, 0, none⟩) l.length cap) W1 ∧ Bytes W1 (some ⟨w.heap.size, 0, none⟩) l ∧ Below w.heap.size w W1 ∧ l.length ≤ cap ∧ cap ≤ 9223372036854775807 := by
  obtain ⟨cap, W1, hcv, h1, h2, h3⟩ := bytesOf_own l w
  refine ⟨cap, W1, hcv, h1.bytes, h2, h3, ?_⟩
  have hcv' := run_bytes_of_string (P := Tryd.prog) w 9 37 5 (str l) Tryd.underlying9 Tryd.underlying37 Tryd.underlying5
  have hle := grownCap_le_maxLen w (str l).size 0 5 (by rw [str_size]; exact hl)
  rw [hcv] at hcv'
  have : cap = grownCap w (str l).size 0 5 := by
    injection hcv' with e1 e2
    injection e1 with e3 e4 e5
  rw [this]; exact hle
end Go.Proofs.YtcnemacakjemjaaDoor

/-! SLICES OF BYTES of a call's own (for seats without stage 2's functions: the same names as in CodeA: never both in one seat). CONDITIONS: each theorem's own hypotheses. -/
namespace Go.Proofs.YtcnemacakjemjaaDoor
open Go.RowKit CodeMath
set_option linter.unusedVariables false

/-- Bytes as cells. -/
def cellsB (l : List UInt8) : List Value := l.map fun x => .int .u8 x.toNat
theorem cellsB_length (l : List UInt8) : (cellsB l).length = l.length := by simp [cellsB]
theorem cellsB_append (l m : List UInt8) : cellsB (l ++ m) = cellsB l ++ cellsB m := by simp [cellsB]
/-- A slice of bytes of the call's own. -/
def OwnB (w : World) (base : Nat) (v : Value) (l : List UInt8) : Prop := w.ownsRow base 5 1 v l.length (cellsB l)
theorem infoB : (Tryd.prog.info? 5).map (fun i => (i.zero, i.size, i.bytes)) = some (some (.int .u8 0), 1, 1) := by kernel_rfl

theorem grown_trans {a b c : World} {row : Option Nat} (h : a.grownBy b row) (k : b.grownBy c row) : a.grownBy c row :=
  ⟨k.os.trans h.os, k.tape.trans h.tape, k.output.trans h.output, Nat.le_trans h.size k.size, fun i hi hn => (k.block i (Nat.lt_of_lt_of_le hi h.size) hn).trans (h.block i hi hn)⟩
theorem addr_zero (b : Nat) : (⟨b, 0, none⟩ : Addr).add 0 = ⟨b, 0, none⟩ := by simp [Addr.add]
/-- append(b, c), one byte. -/
theorem wpList_append_byte {ops : Array Oper} {rest : List Oper} {o : Oper} {a : Act} {Q : Exit → Act → World → Prop} {w : World} (hgd : o.guard = none) (s x : Operand)
    (ho : o.op = .call { callee := .builtin .append, args := #[s, x], argTypes := #[37, 37] }) (base : Nat) (v : Value) (l : List UInt8) (hs : a.eval s = v) (hown : OwnB w base v l)
    (c : Int) (b : UInt8) (m : Nat) (hx : a.eval x = .slice (some ⟨m, 0, none⟩) 1 1) (hm : m = w.heap.size) (hc : c = b.toNat) (hl : l.length ≤ 1000000) (hb : base ≤ w.heap.size)
    (h : ∀ v' w', OwnB w' base v' (l ++ [b]) → Below base w w' → w.grownBy w' v.ownBlock → wpList Tryd.prog ops Q rest (a.put o.dst v') w') : wpList Tryd.prog ops Q (o :: rest) a (w.alloc (.cells #[.int .u8 c] 5)) := by
  subst hm
  obtain ⟨i0, hi, hz0, hz1, hz2⟩ := info_parts infoB
  refine wpList_append_own _ hgd s x 37 ho base 5 i0 (.int .u8 0) 1 1 Tryd.underlying37 hi hz0 hz1 hz2 rfl (by decide) v l.length (cellsB l) hs (World.ownsRow.alloc hown _) ⟨w.heap.size, 0, none⟩ 1 1 [.int .u8 c] hx rfl ?_ ?_ (by unfold maxLen; omega) (by omega) (by simp; omega) ?_
  · intro j u hj
    match j, hj with
    | 0, hj =>
      simp at hj; subst hj
      rw [addr_zero, World.cell?_alloc_new]
      rfl
  · intro u hu
    simp at hu; subst hu; rfl
  · intro v' w' h1 h2 _
    refine h v' w' ?_ ?_ (grown_trans (World.grownBy_alloc w _ _) h2)
    · unfold OwnB
      rw [cellsB_append, List.length_append]
      show w'.ownsRow base 5 1 v' (l.length + 1) (cellsB l ++ [.int .u8 b.toNat])
      rw [← hc]; exact h1
    · exact ((Below.refl base w).alloc hb _).grown h2 (by simp; omega) (fun k hk => (hown.lt k hk).1)

/-- append(b, c, d), two bytes. -/
theorem wpList_append_two {ops : Array Oper} {rest : List Oper} {o : Oper} {a : Act} {Q : Exit → Act → World → Prop} {w : World} (hgd : o.guard = none) (s x : Operand)
    (ho : o.op = .call { callee := .builtin .append, args := #[s, x], argTypes := #[37, 37] }) (base : Nat) (v : Value) (l : List UInt8) (hs : a.eval s = v) (hown : OwnB w base v l)
    (c d : Int) (b e : UInt8) (m : Nat) (hx : a.eval x = .slice (some ⟨m, 0, none⟩) 2 2) (hm : m = w.heap.size) (hc : c = b.toNat) (hd : d = e.toNat) (hl : l.length ≤ 1000000) (hb : base ≤ w.heap.size)
    (h : ∀ v' w', OwnB w' base v' (l ++ [b, e]) → Below base w w' → w.grownBy w' v.ownBlock → wpList Tryd.prog ops Q rest (a.put o.dst v') w') : wpList Tryd.prog ops Q (o :: rest) a (w.alloc (.cells #[.int .u8 c, .int .u8 d] 5)) := by
  subst hm
  obtain ⟨i0, hi, hz0, hz1, hz2⟩ := info_parts infoB
  refine wpList_append_own _ hgd s x 37 ho base 5 i0 (.int .u8 0) 1 1 Tryd.underlying37 hi hz0 hz1 hz2 rfl (by decide) v l.length (cellsB l) hs (World.ownsRow.alloc hown _) ⟨w.heap.size, 0, none⟩ 2 2 [.int .u8 c, .int .u8 d] hx rfl ?_ ?_ (by unfold maxLen; omega) (by omega) (by simp; omega) ?_
  · intro j u hj
    match j, hj with
    | 0, hj =>
      simp at hj; subst hj
      rw [addr_zero, World.cell?_alloc_new]
      rfl
    | 1, hj =>
      simp at hj; subst hj
      rw [show (⟨w.heap.size, 0, none⟩ : Addr).add 1 = ⟨w.heap.size, 1, none⟩ by simp [Addr.add], World.cell?_alloc_new]
      rfl
  · intro u hu
    simp at hu; rcases hu with rfl | rfl <;> rfl
  · intro v' w' h1 h2 _
    refine h v' w' ?_ ?_ (grown_trans (World.grownBy_alloc w _ _) h2)
    · unfold OwnB
      rw [cellsB_append, List.length_append]
      show w'.ownsRow base 5 1 v' (l.length + 2) (cellsB l ++ [.int .u8 b.toNat, .int .u8 e.toNat])
      rw [← hc, ← hd]; exact h1
    · exact ((Below.refl base w).alloc hb _).grown h2 (by simp; omega) (fun k hk => (hown.lt k hk).1)


theorem below_step {B : Nat} {a b c : World} (h : Below B a b) (hB : B ≤ b.heap.size) (k : Below b.heap.size b c) : Below B a c := h.trans (k.mono hB)
theorem OwnB.keep {w w1 : World} {base : Nat} {v : Value} {l : List UInt8} (h : OwnB w base v l) (hb : Below w.heap.size w w1) : OwnB w1 base v l :=
  World.ownsRow.kept (row := none) h ⟨hb.os, hb.tape, hb.output, hb.size, fun k hk _ => hb.block k hk⟩ (by cases v.ownBlock <;> simp)
/-- What is owned are bytes. -/
theorem OwnB.bytes {w : World} {base g cap : Nat} {l : List UInt8} (h : OwnB w base (.slice (some ⟨g, 0, none⟩) l.length cap) l) : Bytes w (some ⟨g, 0, none⟩) l := by
  refine .inr ⟨g, 0, rfl, (h.lt g rfl).2, fun j x hx => ?_⟩
  have hj : j < l.length := (List.getElem?_eq_some_iff.1 hx).1
  have := World.ownsRow.cellAt h j (by omega)
  rw [Nat.zero_add, this]
  unfold cellsB
  rw [List.getElem?_map, hx]
  rfl
theorem bytes_lit (w : World) (x : Int) (c : UInt8) (hx : x = c.toNat) (T : TypeId) : Bytes (w.alloc (.cells #[.int .u8 x] T)) (some ⟨w.heap.size, 0, none⟩) [c] := by
  subst hx
  refine .inr ⟨w.heap.size, 0, rfl, by simp, fun j y hy => ?_⟩
  obtain rfl : j = 0 := by have := (List.getElem?_eq_some_iff.1 hy).1; simp at this; exact this
  simp at hy; subst hy
  rw [World.cell?_alloc_new]
  rfl
/-- append(s, x...), x bytes that came in. -/
theorem wpList_append_came {ops : Array Oper} {rest : List Oper} {o : Oper} {a : Act} {Q : Exit → Act → World → Prop} {w : World} (hgd : o.guard = none) (s x : Operand)
    (ho : o.op = .call { callee := .builtin .append, args := #[s, x], argTypes := #[37, 37] }) (base : Nat) (v : Value) (l : List UInt8) (hs : a.eval s = v) (hown : OwnB w base v l)
    (m : List UInt8) (ao : Option Addr) (cap : Nat) (hx : a.eval x = .slice ao m.length cap) (h2 : Bytes w ao m) (hn : ao = none → cap = 0) (hl : l.length + m.length ≤ 140737488351232) (hb : base ≤ w.heap.size)
    (h : ∀ v' w', OwnB w' base v' (l ++ m) → Below base w w' → wpList Tryd.prog ops Q rest (a.put o.dst v') w') : wpList Tryd.prog ops Q (o :: rest) a w := by
  obtain ⟨i0, hi, hz0, hz1, hz2⟩ := info_parts infoB
  cases ao with
  | none =>
    obtain rfl : cap = 0 := hn rfl
    have hm : m = [] := by
      rcases h2 with h | ⟨_, _, h, _⟩
      · exact h
      · cases h
    subst hm
    refine wpList_append_own_none hgd s x 37 ho base 5 i0 1 Tryd.underlying37 hi v l.length (cellsB l) hs hown hx (h v w ?_ (Below.refl _ _))
    rw [List.append_nil]; exact hown
  | some ad =>
    refine wpList_append_own _ hgd s x 37 ho base 5 i0 (.int .u8 0) 1 1 Tryd.underlying37 hi hz0 hz1 hz2 rfl (by decide) v l.length (cellsB l) hs hown ad m.length cap (cellsB m) hx (by rw [cellsB_length, Nat.mul_one]) ?_ ?_ (by unfold maxLen; omega) (by omega) hb ?_
    · intro j u hj
      rcases h2 with h | ⟨p, q, h, _, hc⟩
      · rw [h] at hj; simp [cellsB] at hj
      · simp only [Option.some.injEq] at h
        subst h
        unfold cellsB at hj
        rw [List.getElem?_map] at hj
        cases hv : m[j]? with
        | none => rw [hv] at hj; cases hj
        | some c =>
          rw [hv] at hj
          simp only [Option.map_some, Option.some.injEq] at hj
          rw [← hj, show (⟨p, q, none⟩ : Addr).add j = ⟨p, q + j, none⟩ by unfold Addr.add; split <;> simp_all]
          exact hc j c hv
    · intro u hu
      obtain ⟨x, _, rfl⟩ := List.mem_map.1 hu
      rfl
    · intro v' w' h1 hg _
      refine h v' w' ?_ ((Below.refl base w).grown hg hb (fun k hk => (hown.lt k hk).1))
      unfold OwnB
      rw [cellsB_append, List.length_append]
      exact h1
theorem ownB_fresh (w : World) (base : Nat) (hb : base ≤ w.heap.size) : OwnB (w.alloc (.cells #[] 5)) base (.slice (some ⟨w.heap.size, 0, none⟩) 0 0) [] :=
  World.ownsRow_lit w #[] 0 hb (by unfold maxLen; omega) rfl
end Go.Proofs.YtcnemacakjemjaaDoor

/-! CONTRACT of package numeral's Append (for seats without stage 2's functions: the same names as in CodeA: never both in one seat). CONDITIONS: each theorem's own hypotheses. -/
namespace Go.Proofs.YtcnemacakjemjaaDoor
open Go.RowKit CodeMath
set_option linter.unusedVariables false

/-- append(b, c), one byte. -/
theorem wpList_append_one {ops : Array Oper} {rest : List Oper} {o : Oper} {a : Act} {Q : Exit → Act → World → Prop} {w : World} (hgd : o.guard = none) (s x : Operand)
    (ho : o.op = .call { callee := .builtin .append, args := #[s, x], argTypes := #[37, 37] }) (base : Nat) (v : Value) (l : List UInt8) (hs : a.eval s = v) (hown : OwnB w base v l)
    (c : Int) (b : UInt8) (m : Nat) (hx : a.eval x = .slice (some ⟨m, 0, none⟩) 1 1) (hm : m = w.heap.size) (hc : c = b.toNat) (hl : l.length ≤ 1099511627776) (hb : base ≤ w.heap.size)
    (h : ∀ v' w', OwnB w' base v' (l ++ [b]) → Below base w w' → w.grownBy w' v.ownBlock → wpList Tryd.prog ops Q rest (a.put o.dst v') w') : wpList Tryd.prog ops Q (o :: rest) a (w.alloc (.cells #[.int .u8 c] 5)) := by
  subst hm
  obtain ⟨i0, hi, hz0, hz1, hz2⟩ := info_parts infoB
  refine wpList_append_own _ hgd s x 37 ho base 5 i0 (.int .u8 0) 1 1 Tryd.underlying37 hi hz0 hz1 hz2 rfl (by decide) v l.length (cellsB l) hs (World.ownsRow.alloc hown _) ⟨w.heap.size, 0, none⟩ 1 1 [.int .u8 c] hx rfl ?_ ?_ (by unfold maxLen; omega) (by omega) (by simp; omega) ?_
  · intro j u hj
    match j, hj with
    | 0, hj =>
      simp at hj; subst hj
      rw [addr_zero, World.cell?_alloc_new]
      rfl
  · intro u hu
    simp at hu; subst hu; rfl
  · intro v' w' h1 h2 _
    refine h v' w' ?_ ?_ (grown_trans (World.grownBy_alloc w _ _) h2)
    · unfold OwnB
      rw [cellsB_append, List.length_append]
      show w'.ownsRow base 5 1 v' (l.length + 1) (cellsB l ++ [.int .u8 b.toNat])
      rw [← hc]; exact h1
    · exact ((Below.refl base w).alloc hb _).grown h2 (by simp; omega) (fun k hk => (hown.lt k hk).1)

theorem shifted (n : Int) (j : Nat) : n / 2 ^ (8 * j) % 256 = ((lowB (n / 256 ^ j)).toNat : Int) := by
  rw [lowB_toNat, Int.pow_mul]; rfl

set_option maxRecDepth 100000 in
set_option maxHeartbeats 2000000 in
theorem numAppend_any (n : Int) (h0 : 0 ≤ n) (h1 : n ≤ 18446744073709551615) (k : Nat) (kI : Int) (hkI : kI = k) (hk8 : k ≤ 8) (base : Nat) (v : Value) (l : List UInt8) (w : World) (hown : OwnB w base v l) (hb : base ≤ w.heap.size) (hl : l.length ≤ 1099511627000) :
    Calls Tryd.prog 54 #[v, .int .u64 n, .int .i64 kI] w fun e w' => ∃ v', e = .returned v' ∧ OwnB w' base v' (l ++ be n k) ∧ Below base w w' := by
  have k0 : 0 ≤ kI := by omega
  have k1 : kI ≤ 8 := by omega
  go_enter Tryd.func54, Tryd.ntmps54
  go_wp2
  go_loopw [0, 9] (fun u i wr => ∃ (t : Nat) (pre : List UInt8), t ≤ k ∧ i = .int .i64 t ∧ Hid (pre ++ be n (k - t) = be n k) ∧ Hid (pre.length = t) ∧ OwnB wr base u (l ++ pre) ∧ Below base w wr) (fun _ i _ => k - (intOf i).toNat)
  case atStart => exact ⟨0, [], by omega, rfl, rfl, rfl, by simpa using hown, Below.refl _ _⟩
  case round =>
    obtain ⟨t, pre, ht, rfl, hp, hpl, ho, hbw⟩ := hrel
    by_cases htk : t < k
    · have hI : (t : Int) < kI := by omega
      obtain ⟨j, hj⟩ : ∃ j, k - t = j + 1 := ⟨k - t - 1, by omega⟩
      have hj' : k - (t + 1) = j := by omega
      have hjI : kI - 1 - (t : Int) = j := by omega
      have h8 : j < 8 := by omega
      have hp2 : Hid ((pre ++ [lowB (n / 256 ^ j)]) ++ be n (k - (t + 1)) = be n k) := by
        have := hp.out
        show _ = _
        rw [← this, hj, hj']; simp [be]
      have hpl2 : Hid ((pre ++ [lowB (n / 256 ^ j)]).length = t + 1) := by
        have := hpl.out
        show _ = _
        rw [List.length_append, this]; simp
      have hll : (l ++ pre).length ≤ 1099511627776 := by have := hpl.out; simp; omega
      have hbb : base ≤ wr.heap.size := by have := hbw.size; omega
      have hst : (t : Int) ≤ 8 := by omega
      have HT := Lib.hid htk
      have HKK := Lib.hid hkI
      clear hp hpl hown hb hj hj' ht htk hkI
      go_wp2_with (first | (at_builtin; refine wpList_append_one rfl _ _ rfl base _ _ rfl ho _ (lowB (n / 256 ^ j)) _ rfl (by first | rfl | simp) (shifted n j) hll hbb ?_; intro v' w1 ho1 hb1 hg1) | go_in)
      go_roundw
      case rel => exact ⟨t + 1, _, HT.out, by go_num, hp2, hpl2, by rw [← List.append_assoc]; exact ho1, hbw.trans hb1⟩
      case measure => have := HT.out; simp [intOf]; omega
    · have hI : ¬ ((t : Int) < kI) := by omega
      have hte : t = k := by omega
      have hp' := hp.out
      rw [hte, Nat.sub_self] at hp'
      have hq : pre = be n k := by simpa [be] using hp'
      subst hq
      clear hp hp' hpl hte htk
      go_wp2
      go_ret
      exact ⟨_, rfl, ho, hbw⟩
end Go.Proofs.YtcnemacakjemjaaDoor

/-! PLAIN MATHEMATICS of frames: parts under a tag as bytes, and back. CONDITIONS: each theorem's own hypotheses. -/
namespace Go.Proofs.YtcnemacakjemjaaDoor.FrameMath
open CodeMath
set_option linter.unusedVariables false

/-- A part: its length in four bytes, and its bytes. -/
def piece (p : List UInt8) : List UInt8 := be p.length 4 ++ p
def pieces : List (List UInt8) → List UInt8
  | [] => []
  | p :: ps => piece p ++ pieces ps
def frame (t : Nat) (ps : List (List UInt8)) : List UInt8 := lowB t :: lowB ps.length :: pieces ps
/-- How many bytes a frame has. -/
def total : List (List UInt8) → Nat
  | [] => 0
  | p :: ps => 4 + p.length + total ps
theorem piece_length (p : List UInt8) : (piece p).length = 4 + p.length := by
  unfold piece; rw [List.length_append, be_length]
theorem pieces_length : ∀ ps, (pieces ps).length = total ps
  | [] => rfl
  | p :: ps => by
    show (piece p ++ pieces ps).length = _
    rw [List.length_append, piece_length, pieces_length ps]; rfl
theorem frame_length (t : Nat) (ps : List (List UInt8)) : (frame t ps).length = 2 + total ps := by
  unfold frame; rw [List.length_cons, List.length_cons, pieces_length]; omega
theorem pieces_append : ∀ ps qs, pieces (ps ++ qs) = pieces ps ++ pieces qs
  | [], qs => rfl
  | p :: ps, qs => by
    show piece p ++ pieces (ps ++ qs) = (piece p ++ pieces ps) ++ pieces qs
    rw [pieces_append ps qs, List.append_assoc]
theorem total_append : ∀ ps qs, total (ps ++ qs) = total ps + total qs
  | [], qs => by simp [total]
  | p :: ps, qs => by
    show 4 + p.length + total (ps ++ qs) = 4 + p.length + total ps + total qs
    rw [total_append ps qs]; omega
theorem total_mem : ∀ ps p, p ∈ ps → 4 + p.length ≤ total ps
  | [], p, h => by cases h
  | q :: ps, p, h => by
    show _ ≤ 4 + q.length + total ps
    rcases List.mem_cons.1 h with rfl | h
    · omega
    · have := total_mem ps p h; omega
theorem total_take : ∀ (ps : List (List UInt8)) (j : Nat), total (ps.take j) ≤ total ps
  | [], j => by simp [total]
  | p :: ps, 0 => by simp [total]
  | p :: ps, j + 1 => by
    show 4 + p.length + total (ps.take j) ≤ 4 + p.length + total ps
    have := total_take ps j; omega

/-- What parsing answers: an error, or parts and what is behind. -/
inductive Cut where
  | short
  | ok (ps : List (List UInt8)) (r : List UInt8)
def cons (p : List UInt8) : Cut → Cut
  | .short => .short
  | .ok ps r => .ok (p :: ps) r
def cutN : Nat → List UInt8 → Cut
  | 0, l => .ok [] l
  | n + 1, l => if l.length < 4 then .short else
      if ((l.drop 4).length : Int) < num (l.take 4) 0 then .short else
        cons ((l.drop 4).take (num (l.take 4) 0).toNat) (cutN n ((l.drop 4).drop (num (l.take 4) 0).toNat))
inductive Res where
  | err (e : Int)
  | ok (t : Nat) (ps : List (List UInt8))
def endRes (t : Nat) : Cut → Res
  | .short => .err 4
  | .ok ps r => if r = [] then .ok t ps else .err 3
def parse (l : List UInt8) : Res :=
  if 16777216 < l.length then .err 1 else
    match l with
    | [] => .err 4
    | t :: l => if t.toNat < 1 ∨ 9 < t.toNat then .err 6 else
      match l with
      | [] => .err 4
      | n :: l => if 8 < n.toNat then .err 1 else endRes t.toNat (cutN n.toNat l)

theorem num_be4 (n : Nat) (h : n < 4294967296) : num (be n 4) 0 = n := by
  rw [num_be]
  have e : (256 : Int) ^ 4 = 4294967296 := by decide
  rw [e]; omega
theorem cutN_pieces : ∀ (ps : List (List UInt8)) (r : List UInt8), (∀ p ∈ ps, p.length < 4294967296) → cutN ps.length (pieces ps ++ r) = .ok ps r
  | [], r, _ => rfl
  | p :: ps, r, h => by
    have hp := h p (by simp)
    have hl : (be (p.length : Int) 4).length = 4 := be_length _ _
    have e : pieces (p :: ps) ++ r = be p.length 4 ++ (p ++ (pieces ps ++ r)) := by
      show (be p.length 4 ++ p ++ pieces ps) ++ r = _
      simp only [List.append_assoc]
    have t4 : (be (p.length : Int) 4 ++ (p ++ (pieces ps ++ r))).take 4 = be p.length 4 := by
      rw [List.take_append_of_le_length (by omega), List.take_of_length_le (by omega)]
    have d4 : (be (p.length : Int) 4 ++ (p ++ (pieces ps ++ r))).drop 4 = p ++ (pieces ps ++ r) := by
      rw [List.drop_append_of_le_length (by omega), List.drop_of_length_le (by omega), List.nil_append]
    rw [e]
    show (if _ then _ else _) = _
    rw [if_neg (by rw [List.length_append, hl]; omega), t4, d4, num_be4 _ hp, if_neg (by rw [List.length_append]; omega), Int.toNat_natCast, List.take_append_of_le_length (Nat.le_refl _), List.take_of_length_le (Nat.le_refl _), List.drop_append_of_le_length (Nat.le_refl _), List.drop_of_length_le (Nat.le_refl _), List.nil_append, cutN_pieces ps r (fun q hq => h q (List.mem_cons_of_mem _ hq))]
    rfl
theorem lowB_nat (n : Nat) (h : n < 256) : (lowB n).toNat = n := by
  have := lowB_toNat n
  omega
/-- A FRAME IS TAKEN APART AS IT WAS PUT TOGETHER. -/
theorem parse_frame (t : Nat) (ps : List (List UInt8)) (t0 : 1 ≤ t) (t1 : t ≤ 9) (hn : ps.length ≤ 8) (hl : 2 + total ps ≤ 16777216) : parse (frame t ps) = .ok t ps := by
  have ht := lowB_nat t (by omega)
  have hk := lowB_nat ps.length (by omega)
  unfold parse
  rw [if_neg (by rw [frame_length]; omega)]
  unfold frame
  simp only []
  rw [if_neg (by omega), if_neg (by omega), hk, ht]
  have := cutN_pieces ps [] (fun p hp => by have := total_mem ps p hp; omega)
  rw [List.append_nil] at this
  rw [this]
  rfl
theorem cutN_ok : ∀ (n : Nat) (l : List UInt8) (ps : List (List UInt8)) (r : List UInt8), cutN n l = .ok ps r → ps.length = n ∧ pieces ps ++ r = l
  | 0, l, ps, r, h => by
    cases h; exact ⟨rfl, rfl⟩
  | n + 1, l, ps, r, h => by
    unfold cutN at h
    by_cases h4 : l.length < 4
    · rw [if_pos h4] at h; cases h
    · rw [if_neg h4] at h
      by_cases h5 : ((l.drop 4).length : Int) < num (l.take 4) 0
      · rw [if_pos h5] at h; cases h
      · rw [if_neg h5] at h
        cases hc : cutN n ((l.drop 4).drop (num (l.take 4) 0).toNat) with
        | short => rw [hc] at h; cases h
        | ok qs r' =>
          rw [hc] at h
          obtain ⟨h1, h2⟩ := cutN_ok n _ qs r' hc
          cases h
          have hlt : (l.take 4).length = 4 := by rw [List.length_take]; omega
          have hr := num_range (l.take 4) 0
          have hb := be_num (l.take 4) 0
          rw [hlt] at hb
          refine ⟨by rw [List.length_cons, h1], ?_⟩
          show (be _ 4 ++ _ ++ pieces qs) ++ r = l
          have hlen : (((l.drop 4).take (num (l.take 4) 0).toNat).length : Int) = num (l.take 4) 0 := by
            rw [List.length_take]; omega
          rw [hlen, hb, List.append_assoc, List.append_assoc, h2, List.take_append_drop, List.take_append_drop]
theorem endRes_ok {t u : Nat} {c : Cut} {ps : List (List UInt8)} (h : endRes t c = .ok u ps) : t = u ∧ c = .ok ps [] := by
  cases c with
  | short => cases h
  | ok qs r =>
    unfold endRes at h
    by_cases hr : r = []
    · simp only [if_pos hr] at h
      cases h; exact ⟨rfl, by rw [hr]⟩
    · simp only [if_neg hr] at h
      cases h
/-- WHAT IS TAKEN APART IS PUT TOGETHER JUST SO. -/
theorem frame_parse (l : List UInt8) (t : Nat) (ps : List (List UInt8)) (h : parse l = .ok t ps) : frame t ps = l ∧ 1 ≤ t ∧ t ≤ 9 ∧ ps.length ≤ 8 ∧ 2 + total ps ≤ 16777216 := by
  unfold parse at h
  by_cases h1 : 16777216 < l.length
  · rw [if_pos h1] at h; cases h
  · rw [if_neg h1] at h
    cases l with
    | nil => cases h
    | cons c l =>
      simp only [] at h
      by_cases h2 : c.toNat < 1 ∨ 9 < c.toNat
      · rw [if_pos h2] at h; cases h
      · rw [if_neg h2] at h
        cases l with
        | nil => cases h
        | cons n l =>
          simp only [] at h
          by_cases h3 : 8 < n.toNat
          · rw [if_pos h3] at h; cases h
          · rw [if_neg h3] at h
            obtain ⟨e1, e2⟩ := endRes_ok h
            obtain ⟨e3, e4⟩ := cutN_ok _ _ _ _ e2
            subst e1
            rw [List.append_nil] at e4
            have b1 : lowB (c.toNat : Nat) = c := by apply byte_eq; rw [lowB_toNat]; have := byte_lt c; omega
            have b2 : lowB (ps.length : Nat) = n := by rw [e3]; apply byte_eq; rw [lowB_toNat]; have := byte_lt n; omega
            have ef : frame c.toNat ps = c :: n :: l := by unfold frame; rw [b1, b2, e4]
            refine ⟨ef, by omega, by omega, by omega, ?_⟩
            have := congrArg List.length ef
            rw [frame_length] at this
            omega
/-- NO FRAME BEGINS WITH ANOTHER ONE. -/
theorem frame_apart (t u : Nat) (ps qs : List (List UInt8)) (x y : List UInt8) (ht : t < 256) (hu : u < 256) (hp : ps.length < 256) (hq : qs.length < 256) (hps : ∀ p ∈ ps, p.length < 4294967296) (hqs : ∀ p ∈ qs, p.length < 4294967296) (h : frame t ps ++ x = frame u qs ++ y) : t = u ∧ ps = qs ∧ x = y := by
  unfold frame at h
  simp only [List.cons_append, List.cons.injEq] at h
  obtain ⟨h1, h2, h3⟩ := h
  have e1 := lowB_nat t ht
  have e2 := lowB_nat u hu
  have e3 := lowB_nat ps.length hp
  have e4 := lowB_nat qs.length hq
  rw [h1] at e1
  rw [h2] at e3
  have el : ps.length = qs.length := by omega
  have c1 := cutN_pieces ps x hps
  have c2 := cutN_pieces qs y hqs
  rw [h3, el, c2] at c1
  cases c1
  exact ⟨by omega, rfl, rfl⟩
theorem take_same (a b : List UInt8) (h : a.take (min a.length b.length) = b.take (min a.length b.length)) : ∃ x y, a ++ x = b ++ y := by
  rcases Nat.le_total a.length b.length with hl | hl
  · rw [Nat.min_eq_left hl, List.take_of_length_le (Nat.le_refl _)] at h
    exact ⟨b.drop a.length, [], by rw [List.append_nil]; exact (congrArg (· ++ b.drop a.length) h).trans (List.take_append_drop _ _)⟩
  · rw [Nat.min_eq_right hl, List.take_of_length_le (Nat.le_refl _)] at h
    exact ⟨[], a.drop b.length, by rw [List.append_nil]; exact ((congrArg (· ++ a.drop b.length) h).symm.trans (List.take_append_drop _ _)).symm⟩
end Go.Proofs.YtcnemacakjemjaaDoor.FrameMath

/-! SLICES OF LINES of bytes, and package oracle's frameBytes. CONDITIONS: each theorem's own hypotheses. -/
namespace Go.Proofs.YtcnemacakjemjaaDoor
open Go.RowKit CodeMath
set_option linter.unusedVariables false

/-- A slice of slices of bytes, wherever they lie. -/
def Lines (w : World) (ap : Option Addr) (rows : List (List UInt8)) : Prop := rows = [] ∨ ∃ a o, ap = some ⟨a, o, none⟩ ∧ a < w.heap.size ∧ ∀ i l, rows[i]? = some l → ∃ ao cap, w.cell? ⟨a, o + i, none⟩ = some (.slice ao l.length cap) ∧ l.length ≤ cap ∧ cap ≤ 9223372036854775807 ∧ (ao = none → cap = 0) ∧ Bytes w ao l
theorem Lines.keep {w w1 : World} {ap : Option Addr} {rows : List (List UInt8)} (h : Lines w ap rows) (hb : Below w.heap.size w w1) : Lines w1 ap rows := by
  rcases h with h | ⟨a, o, h1, h2, h3⟩
  · exact .inl h
  · refine .inr ⟨a, o, h1, Nat.lt_of_lt_of_le h2 hb.size, fun i l hi => ?_⟩
    obtain ⟨ao, cap, k1, k2, k3, k4, k5⟩ := h3 i l hi
    exact ⟨ao, cap, (hb.cell (p := ⟨a, o + i, none⟩) h2).trans k1, k2, k3, k4, k5.keep hb⟩
/-- How many bytes the frame of the first rows has. -/
def weigh (rows : List (List UInt8)) : Nat → Nat
  | 0 => 2
  | i + 1 => weigh rows i + (4 + (rows.getD i []).length)
theorem weigh_le (rows : List (List UInt8)) (B : Nat) (hB : ∀ l ∈ rows, l.length ≤ B) : ∀ i, weigh rows i ≤ 2 + i * (4 + B)
  | 0 => by simp [weigh]
  | i + 1 => by
    have ih := weigh_le rows B hB i
    have : (rows.getD i []).length ≤ B := by
      rw [List.getD_eq_getElem?_getD]
      cases h : rows[i]? with
      | none => simp
      | some l => exact hB l (List.mem_of_getElem? h)
    simp only [weigh, Nat.succ_mul]
    omega
set_option maxRecDepth 100000 in
set_option maxHeartbeats 2000000 in
theorem frameBytes_any (rows : List (List UInt8)) (ap : Option Addr) (capp : Nat) (w : World) (hl : Lines w ap rows) (hn : rows.length ≤ 1000) (hB : ∀ l ∈ rows, l.length ≤ 140737488351232) :
    Calls Tryd.prog 46 #[.slice ap rows.length capp] w fun e w' => e = .returned (.int .i64 (weigh rows rows.length : Nat)) ∧ w = w' := by
  obtain ⟨n, hnn⟩ : ∃ n, rows.length = n := ⟨_, rfl⟩
  have hw := weigh_le rows _ hB
  obtain ⟨R, hR⟩ : ∃ R : Nat, weigh rows rows.length = R := ⟨_, rfl⟩
  rw [hR, hnn]
  rw [hnn] at hn hR
  have nI : (n : Int) ≤ 1000 := by omega
  have HR := Lib.hid hR
  have HN := Lib.hid hnn
  have HW := Lib.hid hw
  clear hR hnn hw
  go_enter Tryd.func46, Tryd.ntmps46
  go_wp2_with fail
  go_loopw [3, 8] (fun s ix wr => ∃ i : Nat, i ≤ n ∧ ix = .int .i64 i ∧ s = .int .i64 (weigh rows i : Nat) ∧ wr = w) (fun _ ix _ => n - (intOf ix).toNat)
  case atStart => exact ⟨0, Nat.zero_le _, rfl, rfl, rfl⟩
  case round =>
    obtain ⟨i, hi, rfl, rfl, rfl⟩ := hrel
    have b1 := HW.out i
    have b2 := HW.out (i + 1)
    by_cases hlt : i < n
    · have iI : (i : Int) < n := by omega
      obtain ⟨l, hl'⟩ : ∃ l, rows[i]? = some l := ⟨_, List.getElem?_eq_getElem (by rw [HN.out]; exact hlt)⟩
      rcases hl with h0 | ⟨a, o, rfl, h2, h3⟩
      · rw [h0] at hl'; simp at hl'
      · obtain ⟨al, cl, k1, k2, k3, k4, k5⟩ := h3 i l hl'
        have hg : rows.getD i [] = l := by rw [List.getD_eq_getElem?_getD, hl']; rfl
        have e : ((weigh rows (i + 1) : Nat) : Int) = (weigh rows i : Nat) + (4 + (l.length : Int)) := by
          simp only [weigh, hg]; omega
        have lB := hB l (List.mem_of_getElem? hl')
        have m1 : i * (4 + 140737488351232) ≤ 1000 * (4 + 140737488351232) := Nat.mul_le_mul_right _ (by omega)
        obtain ⟨q, hq⟩ : ∃ q, weigh rows i = q := ⟨_, rfl⟩
        have hqb : q ≤ 140737488351240002 := by rw [← hq]; omega
        rw [hq] at e ⊢
        have E := Lib.hid e
        have qI : (q : Int) ≤ 140737488351240002 := by omega
        have lI : (l.length : Int) ≤ 140737488351232 := by omega
        have HI := Lib.hid hlt
        clear b1 b2 m1 hq e hg hl' h3 hlt hqb
        go_wp2_with fail
        go_roundw
        case rel => exact ⟨i + 1, HI.out, by go_num, by rw [E.out], by first | rfl | trivial⟩
        case measure => have := HI.out; simp [intOf]; omega
    · have iI : ¬ ((i : Int) < n) := by omega
      have hie : i = n := by omega
      rw [hie, HR.out]
      clear hie hlt b1 b2
      go_wp2_with fail
      go_ret
      exact ⟨rfl, by first | rfl | trivial⟩
end Go.Proofs.YtcnemacakjemjaaDoor

/-! CONTRACT of package oracle's frame. CONDITIONS: each theorem's own hypotheses. -/
namespace Go.Proofs.YtcnemacakjemjaaDoor
open Go.RowKit CodeMath Go.Proofs.YtcnemacakjemjaaDoor.FrameMath
set_option linter.unusedVariables false

theorem take_next (rows : List (List UInt8)) (i : Nat) (l : List UInt8) (h : rows[i]? = some l) : rows.take (i + 1) = rows.take i ++ [l] := by
  have hi := (List.getElem?_eq_some_iff.1 h).1
  rw [List.take_succ_eq_append_getElem hi, (List.getElem?_eq_some_iff.1 h).2]
theorem weigh_total (rows : List (List UInt8)) : ∀ i, i ≤ rows.length → weigh rows i = 2 + total (rows.take i)
  | 0, _ => by simp [weigh, total]
  | i + 1, h => by
    obtain ⟨l, hl⟩ : ∃ l, rows[i]? = some l := ⟨_, List.getElem?_eq_getElem (by omega)⟩
    rw [take_next rows i l hl, total_append]
    simp only [weigh, total]
    rw [weigh_total rows i (by omega), List.getD_eq_getElem?_getD, hl]
    simp only [Option.getD_some]
    omega
theorem pieces_next (rows : List (List UInt8)) (i : Nat) (l : List UInt8) (h : rows[i]? = some l) (x : List UInt8) : x ++ pieces (rows.take (i + 1)) = (x ++ pieces (rows.take i) ++ be l.length 4) ++ l := by
  rw [take_next rows i l h, pieces_append]
  simp [pieces, piece]
theorem be_one (n : Nat) : be (n : Int) 1 = [lowB n] := by simp [be]
set_option maxRecDepth 100000 in
set_option maxHeartbeats 2000000 in
theorem frameP_any (t : Nat) (tI : Int) (htI : tI = t) (ht : t ≤ 255) (rows : List (List UInt8)) (ap : Option Addr) (capp : Nat) (w : World) (hl : Lines w ap rows) (hn : rows.length ≤ 255) (hW : 2 + total rows ≤ 16777216) :
    Calls Tryd.prog 47 #[.int .i64 tI, .slice ap rows.length capp] w fun e w' => ∃ v', e = .returned v' ∧ OwnB w' w.heap.size v' (frame t rows) ∧ Below w.heap.size w w' := by
  subst htI
  have hB : ∀ l ∈ rows, l.length ≤ 16777216 := fun l h => by have := total_mem rows l h; omega
  have cF := fun W h1 => frameBytes_any rows ap capp W h1 (by omega) (fun l h => by have := hB l h; omega)
  obtain ⟨n, hnn⟩ : ∃ n, rows.length = n := ⟨_, rfl⟩
  obtain ⟨R, hR⟩ : ∃ R : Nat, weigh rows rows.length = R := ⟨_, rfl⟩
  have hRb : R ≤ 16777216 := by rw [← hR, weigh_total rows _ (Nat.le_refl _), List.take_length]; exact hW
  rw [hR, hnn] at cF
  have hfr : frame t rows = (lowB t :: lowB n :: []) ++ pieces rows := by unfold frame; rw [hnn]; rfl
  rw [hfr, hnn]
  rw [hnn] at hn
  have HN := Lib.hid hnn
  clear hR hnn hfr
  obtain ⟨i0, hi, hz0, hz1, hz2⟩ := info_parts infoB
  obtain ⟨w1, hmk, hown, hg1⟩ := run_make_own (P := Tryd.prog) w w.heap.size 37 5 i0 (.int .u8 0) 1 Tryd.underlying37 hi hz0 hz1 .i64 .i64 R (by rw [hz2]; omega) (by unfold maxLen; omega) (Nat.le_refl _)
  have ho1 : OwnB w1 w.heap.size (.slice (some ⟨w.heap.size, 0, none⟩) 0 R) [] := hown
  have hb1 : Below w.heap.size w w1 := (Below.refl _ _).grown hg1 (Nat.le_refl _) (fun k h => by cases h)
  have hs1 : w.heap.size ≤ w1.heap.size := hb1.size
  have c2 := numAppend_any (t : Int) (by omega) (by omega) 1 1 rfl (by decide) w.heap.size _ [] w1 ho1 hs1 (by decide)
  have c3 := fun v W h1 h2 => numAppend_any (n : Int) (by omega) (by omega) 1 1 rfl (by decide) w.heap.size v [lowB t] W h1 h2 (by simp)
  rw [be_one, List.nil_append] at c2
  rw [be_one] at c3
  have tI0 : (t : Int) ≤ 255 := by omega
  have nI0 : (n : Int) ≤ 255 := by omega
  clear hi hz0 hz1 hz2 hown ho1
  go_enter Tryd.func47, Tryd.ntmps47
  go_wp2_with (first
    | (go_at_call 46; refine (cF _ hl).mono ?_; rintro e w0 ⟨rfl, rfl⟩; clear cF)
    | (go_at_call 54; (first | (with_reducible refine c2.mono ?_; clear c2; rintro e w2 ⟨v2, rfl, ho2, hb2⟩; have hb2' := hb2; have hs2 : w.heap.size ≤ w2.heap.size := Nat.le_trans hs1 hb2.size) | (with_reducible refine (c3 _ _ ho2 hs2).mono ?_; clear c3; rintro e w3 ⟨v3, rfl, ho3, hb3⟩)))
    | fail)
  clear hs1 hs2 ho2 hb2 hmk hg1
  have hb13 : Below w.heap.size w w3 := hb1.trans (hb2'.trans hb3)
  have HO := Lib.hid ho3
  clear ho3 hb1 hb2' hb3
  go_loopw [5, 22] (fun s ix wr => ∃ i : Nat, i ≤ n ∧ ix = .int .i64 i ∧ Hid (OwnB wr w.heap.size s ((lowB t :: lowB n :: []) ++ pieces (rows.take i))) ∧ Below w.heap.size w wr) (fun _ ix _ => n - (intOf ix).toNat)
  case atStart => exact ⟨0, Nat.zero_le _, rfl, by rw [List.take_zero]; exact HO, hb13⟩
  case round =>
    obtain ⟨i, hi, rfl, ho, hbr⟩ := hrel
    clear HO hb13
    by_cases hlt : i < n
    · have iI : (i : Int) < n := by omega
      obtain ⟨l, hl'⟩ : ∃ l, rows[i]? = some l := ⟨_, List.getElem?_eq_getElem (by rw [HN.out]; exact hlt)⟩
      rcases hl with h0 | ⟨a, o, rfl, h2, h3⟩
      · rw [h0] at hl'; simp at hl'
      · obtain ⟨al, cl, k1', k2, k3, k4, k5⟩ := h3 i l hl'
        have k1 : wr.cell? ⟨a, o + i, none⟩ = some (.slice al l.length cl) := (hbr.cell (p := ⟨a, o + i, none⟩) h2).trans k1'
        clear k1'
        have hnx := pieces_next rows i l hl' [lowB t, lowB n]
        have hlb := hB l (List.mem_of_getElem? hl')
        have hpl : ([lowB t, lowB n] ++ pieces (rows.take i)).length ≤ 16777218 := by
          rw [List.length_append, pieces_length]; have := total_take rows i; simp; omega
        obtain ⟨X, hX⟩ : ∃ X, [lowB t, lowB n] ++ pieces (rows.take i) = X := ⟨_, rfl⟩
        rw [hX] at hnx hpl ho
        have hge : w.heap.size ≤ wr.heap.size := hbr.size
        have c4 := numAppend_any (l.length : Int) (by omega) (by omega) 4 4 rfl (by decide) w.heap.size _ X wr ho.out hge (by omega)
        have lI : (l.length : Int) ≤ 16777216 := by omega
        have HX := Lib.hid hnx
        have HI := Lib.hid hlt
        have hl4 : (X ++ be (l.length : Int) 4).length + l.length ≤ 140737488351232 := by rw [List.length_append, be_length]; omega
        clear hX hnx h3 hl' hlt ho
        go_wp2_with (first
          | (go_at_call 54; refine c4.mono ?_; clear c4; rintro e w4 ⟨v4, rfl, ho4, hb4⟩; have k6 := k5.keep (hbr.trans hb4))
          | (at_builtin; refine wpList_append_came rfl _ _ rfl w.heap.size _ _ rfl ho4 l al cl rfl k6 k4 hl4 (Nat.le_trans hge hb4.size) ?_; intro v5 w5 ho5 hb5))
        go_roundw
        case rel => exact ⟨i + 1, HI.out, by go_num, by rw [HX.out]; exact Lib.hid ho5, hbr.trans (hb4.trans hb5)⟩
        case measure => have := HI.out; simp [intOf]; omega
    · have iI : ¬ ((i : Int) < n) := by omega
      have hie : i = n := by omega
      rw [hie, ← HN.out, List.take_length, HN.out] at ho
      have ho' := ho.out
      clear hie hlt ho
      go_wp2_with fail
      go_ret
      exact ⟨_, rfl, ho', hbr⟩
end Go.Proofs.YtcnemacakjemjaaDoor

/-! CONTRACTS of package oracle's isTag and Frame. CONDITIONS: each theorem's own hypotheses. -/
namespace Go.Proofs.YtcnemacakjemjaaDoor
open Go.RowKit CodeMath Go.Proofs.YtcnemacakjemjaaDoor.FrameMath
set_option linter.unusedVariables false

set_option maxRecDepth 100000 in
theorem isTag_any (t : Int) (b : Bool) (hb : decide (1 ≤ t ∧ t ≤ 9) = b) (w : World) (t0 : -9223372036854775808 ≤ t) (t1 : t ≤ 9223372036854775807) :
    Calls Tryd.prog 45 #[.int .i64 t] w fun e w' => e = .returned (.bool b) ∧ w = w' := by
  by_cases h1 : 1 ≤ t
  · by_cases h9 : t ≤ 9
    · have hb' : b = true := by rw [← hb]; simp [h1, h9]
      clear hb
      subst hb'
      go_enter Tryd.func45, Tryd.ntmps45
      go_wp2_with fail
      go_ret
      exact ⟨rfl, by first | rfl | trivial⟩
    · have hb' : b = false := by rw [← hb]; simp [h9]
      clear hb
      subst hb'
      go_enter Tryd.func45, Tryd.ntmps45
      go_wp2_with fail
      go_ret
      exact ⟨rfl, by first | rfl | trivial⟩
  · have hb' : b = false := by rw [← hb]; simp [h1]
    clear hb
    subst hb'
    go_enter Tryd.func45, Tryd.ntmps45
    go_wp2_with fail
    go_ret
    exact ⟨rfl, by first | rfl | trivial⟩
set_option maxRecDepth 100000 in
set_option maxHeartbeats 2000000 in
theorem Frame_badTag (t : Int) (ht : ¬ (1 ≤ t ∧ t ≤ 9)) (vp : Value) (w : World) (t0 : -9223372036854775808 ≤ t) (t1 : t ≤ 9223372036854775807) :
    Calls Tryd.prog 39 #[.int .i64 t, vp] w fun e w' => e = .returned (.tuple #[.slice none 0 0, .int .i64 6]) ∧ w = w' := by
  have cT := fun W => isTag_any t false (by simpa using ht) W t0 t1
  clear ht
  go_enter Tryd.func39, Tryd.ntmps39
  go_wp2_with (first
    | (go_at_call 45; refine (cT _).mono ?_; rintro e w1 ⟨rfl, rfl⟩; clear cT)
    | fail)
  go_ret2
  exact ⟨rfl, by first | rfl | trivial⟩
set_option maxRecDepth 100000 in
set_option maxHeartbeats 2000000 in
theorem Frame_many (t : Int) (ht : 1 ≤ t ∧ t ≤ 9) (ap : Option Addr) (n capp : Nat) (hn : 8 < n) (hn1 : n ≤ 9223372036854775807) (w : World) :
    Calls Tryd.prog 39 #[.int .i64 t, .slice ap n capp] w fun e w' => e = .returned (.tuple #[.slice none 0 0, .int .i64 1]) ∧ w = w' := by
  have cT := fun W => isTag_any t true (by simpa using ht) W (by omega) (by omega)
  have nI : (8 : Int) < n := by omega
  clear ht
  go_enter Tryd.func39, Tryd.ntmps39
  go_wp2_with (first
    | (go_at_call 45; refine (cT _).mono ?_; rintro e w1 ⟨rfl, rfl⟩; clear cT)
    | fail)
  go_ret2
  exact ⟨rfl, by first | rfl | trivial⟩
set_option maxRecDepth 100000 in
set_option maxHeartbeats 2000000 in
theorem Frame_big (t : Int) (ht : 1 ≤ t ∧ t ≤ 9) (rows : List (List UInt8)) (ap : Option Addr) (capp : Nat) (hn : rows.length ≤ 8) (hW : 16777216 < 2 + total rows) (w : World) (hl : Lines w ap rows) (hB : ∀ l ∈ rows, l.length ≤ 140737488351232) :
    Calls Tryd.prog 39 #[.int .i64 t, .slice ap rows.length capp] w fun e w' => e = .returned (.tuple #[.slice none 0 0, .int .i64 1]) ∧ w = w' := by
  have cT := fun W => isTag_any t true (by simpa using ht) W (by omega) (by omega)
  have cF := fun W h => frameBytes_any rows ap capp W h (by omega) hB
  obtain ⟨R, hR⟩ : ∃ R : Nat, weigh rows rows.length = R := ⟨_, rfl⟩
  have hRb : 16777216 < R := by rw [← hR, weigh_total rows _ (Nat.le_refl _), List.take_length]; exact hW
  rw [hR] at cF
  obtain ⟨n, hnn⟩ : ∃ n, rows.length = n := ⟨_, rfl⟩
  rw [hnn] at cF hn ⊢
  have nI : ¬ ((8 : Int) < n) := by omega
  have rI : (16777216 : Int) < R := by omega
  clear ht hR hnn hW hB
  go_enter Tryd.func39, Tryd.ntmps39
  go_wp2_with (first
    | (go_at_call 45; refine (cT _).mono ?_; rintro e w1 ⟨rfl, rfl⟩; clear cT)
    | (go_at_call 46; refine (cF _ hl).mono ?_; rintro e w2 ⟨rfl, rfl⟩; clear cF)
    | fail)
  go_ret2
  exact ⟨rfl, by first | rfl | trivial⟩
set_option maxRecDepth 100000 in
set_option maxHeartbeats 2000000 in
theorem Frame_good (t : Nat) (ht0 : 1 ≤ t) (ht : t ≤ 9) (rows : List (List UInt8)) (ap : Option Addr) (capp : Nat) (hn : rows.length ≤ 8) (hW : 2 + total rows ≤ 16777216) (w : World) (hl : Lines w ap rows) :
    Calls Tryd.prog 39 #[.int .i64 t, .slice ap rows.length capp] w fun e w' => ∃ v', e = .returned (.tuple #[v', .int .i64 0]) ∧ OwnB w' w.heap.size v' (frame t rows) ∧ Below w.heap.size w w' := by
  have cT := fun W => isTag_any (t : Int) true (by simp; omega) W (by omega) (by omega)
  have cF := fun W h => frameBytes_any rows ap capp W h (by omega) (fun l h => by have := total_mem rows l h; omega)
  have cP := fun W h => frameP_any t t rfl (by omega) rows ap capp W h (by omega) hW
  obtain ⟨R, hR⟩ : ∃ R : Nat, weigh rows rows.length = R := ⟨_, rfl⟩
  have hRb : R ≤ 16777216 := by rw [← hR, weigh_total rows _ (Nat.le_refl _), List.take_length]; exact hW
  rw [hR] at cF
  obtain ⟨n, hnn⟩ : ∃ n, rows.length = n := ⟨_, rfl⟩
  rw [hnn] at cF cP hn ⊢
  have nI : ¬ ((8 : Int) < n) := by omega
  have rI : ¬ ((16777216 : Int) < R) := by omega
  generalize frame t rows = FR at cP ⊢
  clear ht ht0 hR hnn hW
  go_enter Tryd.func39, Tryd.ntmps39
  go_wp2_with (first
    | (go_at_call 45; refine (cT _).mono ?_; rintro e w1 ⟨rfl, rfl⟩; clear cT)
    | (go_at_call 46; refine (cF _ hl).mono ?_; rintro e w2 ⟨rfl, rfl⟩; clear cF)
    | (go_at_call 47; refine (cP _ hl).mono ?_; rintro e w3 ⟨v3, rfl, ho3, hb3⟩; clear cP)
    | fail)
  go_ret2
  exact ⟨_, rfl, ho3, hb3⟩
end Go.Proofs.YtcnemacakjemjaaDoor
