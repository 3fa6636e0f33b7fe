/-
  STRINGS AND BYTES at a call: where bytes lie, cuts, conversions; the reference's number and big.
  CONDITIONS: each theorem's own hypotheses.
-/
import Derived.Test.YtmldhnghfdhjmaaDoorProg
import Derived.Test.YtmldhnghfdhjmaaDoorCodeMath
import Derived.WalkKit
import Derived.WalkLawsBesides
import Derived.WalkMore
import Derived.Below
import Derived.Lib.Hide
import Derived.Lib.Bytealg
import Derived.Laws.Externs
import Derived.Laws.Cover2
import Derived.IntWalk
import Derived.Laws.BitsAllLaws
import Derived.Lib.PathFns
import Derived.Laws.Strings2
import Derived.Laws.Strings3
namespace Go.Proofs.YtmldhnghfdhjmaaDoor
open Go.RowKit CodeMath
set_option linter.unusedVariables false

theorem bytes_eq {s t : ByteArray} (h : s.data.toList = t.data.toList) : s = t := by
  rw [← Lib.mk_data s, ← Lib.mk_data t, h]

theorem num_snoc : ∀ (l : List UInt8) (a : Int) (c : UInt8), num (l ++ [c]) a = num l a * 256 + c.toNat
  | [], a, c => rfl
  | x :: l, a, c => by simp only [List.cons_append, num]; exact num_snoc l _ c

theorem num_take (l : List UInt8) (t : Nat) (c : UInt8) (r : List UInt8) (h : l.drop t = c :: r) : num (l.take (t + 1)) 0 = num (l.take t) 0 * 256 + c.toNat := by
  have ht : t < l.length := by
    have := congrArg List.length h
    simp at this; omega
  rw [List.drop_eq_getElem_cons ht] at h
  simp only [List.cons.injEq] at h
  rw [List.take_succ_eq_append_getElem ht, h.1, num_snoc]

def two56 : Int := 72057594037927936

set_option maxRecDepth 100000 in
theorem num7 (l : List UInt8) (t : Nat) (ht : t ≤ 7) : 0 ≤ num (l.take t) 0 ∧ num (l.take t) 0 < two56 := by
  have h := num_range (l.take t) 0
  have h2 : (256 : Int) ^ (l.take t).length ≤ 256 ^ 7 := by
    have : (l.take t).length ≤ 7 := by rw [List.length_take]; omega
    have := Nat.pow_le_pow_right (n := 256) (by decide) this
    have h3 : ((256 ^ (l.take t).length : Nat) : Int) ≤ ((256 ^ 7 : Nat) : Int) := Int.ofNat_le.2 this
    rw [Int.natCast_pow, Int.natCast_pow] at h3
    exact h3
  have e : (256 : Int) ^ 7 = two56 := by decide
  rw [e] at h2
  omega

/-- A slice of bytes, wherever it lies. -/
def Bytes (w : World) (ao : Option Addr) (l : List UInt8) : Prop := l = [] ∨ ∃ a o, ao = some ⟨a, o, none⟩ ∧ a < w.heap.size ∧ ∀ j x, l[j]? = some x → w.cell? ⟨a, o + j, none⟩ = some (.int .u8 x.toNat)

theorem Bytes.keep {w w1 : World} {ao : Option Addr} {l : List UInt8} (h : Bytes w ao l) (hb : Below w.heap.size w w1) : Bytes w1 ao l := by
  rcases h with h | ⟨a, o, h1, h2, h3⟩
  · exact .inl h
  · exact .inr ⟨a, o, h1, Nat.lt_of_lt_of_le h2 hb.size, fun j x hx => (hb.cell (p := ⟨a, o + j, none⟩) h2).trans (h3 j x hx)⟩

theorem bytes_string {w : World} {ao : Option Addr} {cap : Nat} {l : List UInt8} (h : Bytes w ao l) : (convert 23 9 (.slice ao l.length cap)).run Tryd.prog w = .ok (.string ⟨l.toArray⟩) w := by
  rcases h with rfl | ⟨a, o, rfl, h2, h3⟩
  · cases ao with
    | none => exact run_convert_bytes_nil w 23 5 Tryd.underlying23 Tryd.underlying5 0 cap 9 Tryd.underlying9
    | some a => exact run_convert_bytes_back w 23 9 5 a cap [] Tryd.underlying23 Tryd.underlying5 Tryd.underlying9 (fun j hj => by simp at hj)
  · refine run_convert_bytes_back w 23 9 5 ⟨a, o, none⟩ cap l Tryd.underlying23 Tryd.underlying5 Tryd.underlying9 (fun j hj => ?_)
    have := h3 j l[j] (List.getElem?_eq_getElem hj)
    have e : (⟨a, o, none⟩ : Addr).add j = ⟨a, o + j, none⟩ := by unfold Addr.add; split <;> simp_all
    rw [e]; exact this

/-- A string of these bytes. -/
def str (l : List UInt8) : ByteArray := ⟨l.toArray⟩

theorem str_data (l : List UInt8) : (str l).data.toList = l := rfl

theorem str_size (l : List UInt8) : (str l).size = l.length := by simp [str, ByteArray.size]

theorem str_toList (l : List UInt8) : (str l).toList = l := by rw [Lib.toList_data]; rfl

theorem str_eq (s : ByteArray) : s = str s.data.toList := by cases s; simp [str]

theorem str_get (l : List UInt8) (j : Nat) (h : j < (str l).size) : (str l)[j] = l[j]'(by rw [str_size] at h; exact h) := rfl

theorem str_extract (l : List UInt8) (i j : Nat) (h : i ≤ j) : (str l).extract i j = str ((l.drop i).take (j - i)) := by
  apply bytes_eq
  show ((str l).extract i j).data.toList = _
  rw [str_data, ByteArray.data_extract, Array.toList_extract]
  simp [str, List.extract]

theorem str_append (l m : List UInt8) : str l ++ str m = str (l ++ m) := by
  apply bytes_eq
  simp [str]

/-- s[i:j], a cut of a string. -/
theorem cut_str (l : List UInt8) (i j : Nat) (x y : Int) (hx : x = i) (hy : y = j) (h1 : i ≤ j) (h2 : j ≤ l.length) (w : World) :
    (Instr.slice 9 (.string (str l)) (some (.int .i64 x)) (some (.int .i64 y)) none).run Tryd.prog w = .ok (.string (str ((l.drop i).take (j - i)))) w := by
  subst hx hy
  have h := run_slice_string (P := Tryd.prog) w 9 (str l) .i64 .i64 (i : Int) (j : Int) Tryd.underlying9 (by omega) (by omega) (by rw [str_size]; omega)
  rw [h, Int.toNat_natCast, Int.toNat_natCast, str_extract l i j h1]

theorem str1_append (c : UInt8) (l : List UInt8) : str [c] ++ str l = str (c :: l) := by rw [str_append]; rfl

theorem div256 (n : Int) (t : Nat) : n / 256 ^ t / 256 = n / 256 ^ (t + 1) := by
  have := @Int.ediv_ediv n (256 ^ t) 256
  have h := pow_pos' t
  rw [if_neg (by omega)] at this
  rw [Int.pow_succ]; omega

theorem div_range (n : Int) (t : Nat) (h0 : 0 ≤ n) (h1 : n ≤ 18446744073709551615) : 0 ≤ n / 256 ^ t ∧ n / 256 ^ t ≤ 18446744073709551615 :=
  ⟨Int.ediv_nonneg h0 (Int.le_of_lt (pow_pos' t)), Int.le_trans (Int.ediv_le_self _ h0) h1⟩

theorem conv1x (W : World) (g : Nat) (x : Int) (c : UInt8) (hg : g = W.heap.size) (hx : x = (c.toNat : Int)) : (convert 23 9 (.slice (some ⟨g, 0, none⟩) 1 1)).run Tryd.prog (W.alloc (.cells #[.int .u8 x] 5)) = .ok (.string (str [c])) (W.alloc (.cells #[.int .u8 x] 5)) := by
  subst hg hx
  exact run_convert_bytes_back (P := Tryd.prog) _ 23 9 5 ⟨W.heap.size, 0, none⟩ 1 [c] Tryd.underlying23 Tryd.underlying5 Tryd.underlying9 (fun j hj => by
    obtain rfl : j = 0 := by simp at hj; exact hj
    show (W.alloc (.cells #[.int .u8 (c.toNat : Int)] 5)).cell? ⟨W.heap.size, 0, none⟩ = _
    rw [World.cell?_alloc_new]
    rfl)

theorem conv1 (W : World) (q : Int) : (convert 23 9 (.slice (some ⟨W.heap.size, 0, none⟩) 1 1)).run Tryd.prog (W.alloc (.cells #[.int .u8 (q % 256)] 5)) = .ok (.string (str [lowB q])) (W.alloc (.cells #[.int .u8 (q % 256)] 5)) :=
  conv1x W _ _ (lowB q) rfl (lowB_toNat q).symm

set_option maxRecDepth 100000 in
set_option maxHeartbeats 1000000 in
theorem big_any (n : Int) (w : World) (h0 : 0 ≤ n) (h1 : n ≤ 18446744073709551615) :
    Calls Tryd.prog 35 #[.int .u64 n, .int .i64 8] w fun e w' => e = .returned (.string (str (be n 8))) ∧ Below w.heap.size w w' := by
  go_enter Tryd.func35, Tryd.ntmps35
  go_wp2
  go_loopw [0, 5, 7] (fun x s i wr => ∃ (t : Nat) (q : Int), t ≤ 8 ∧ i = .int .i64 t ∧ Hid (q = n / 256 ^ t) ∧ x = .int .u64 q ∧ s = .string (str (be n t)) ∧ Below w.heap.size w wr) (fun _ _ i _ => 8 - (intOf i).toNat)
  case atStart => exact ⟨0, n, Nat.zero_le _, rfl, Lib.hid (by simp), rfl, rfl, Below.refl _ _⟩
  case round =>
    obtain ⟨t, q, ht, rfl, hq, rfl, rfl, hbw⟩ := hrel
    have hr := div_range n t h0 h1
    rw [← hq.out] at hr
    have q0 := hr.1
    have q1 := hr.2
    by_cases h8 : t < 8
    · obtain ⟨S, hS⟩ : ∃ S, str (be n t) = S := ⟨_, rfl⟩
      rw [hS]
      have hcv := conv1 wr q
      have happ : str [lowB q] ++ S = str (be n (t + 1)) := by
        rw [← hS, hq.out]; exact str1_append _ _
      have hsz : ¬ 9223372036854775807 < (str [lowB q]).size + S.size := by rw [← hS, str_size, str_size, be_length]; simp; omega
      obtain ⟨B, hB⟩ : ∃ B, str [lowB q] = B := ⟨_, rfl⟩
      obtain ⟨S2, hS2⟩ : ∃ S2, str (be n (t + 1)) = S2 := ⟨_, rfl⟩
      rw [hB] at hcv happ hsz
      rw [hS2] at happ
      have HS2 := Lib.hid hS2
      have hq2 : Hid (q / 256 = n / 256 ^ (t + 1)) := by have := hq.out; show q / 256 = _; rw [this, div256]
      clear hS hB hS2
      go_wp2
      go_roundw
      case rel => exact ⟨t + 1, q / 256, by omega, by go_num, hq2, rfl, by rw [HS2.out], hbw.alloc hbw.size _⟩
      case measure => simp [intOf]; omega
    · have ht8 : t = 8 := by omega
      subst ht8
      go_wp2
      go_ret
      exact ⟨rfl, hbw⟩

/-- []byte(s). -/
theorem bytesOf (l : List UInt8) (w : World) : ∃ cap W1, (convert 9 23 (.string (str l))).run Tryd.prog w = .ok (.slice (some ⟨w.heap.size, 0, none⟩) l.length cap) W1 ∧ Bytes W1 (some ⟨w.heap.size, 0, none⟩) l ∧ Below w.heap.size w W1 := by
  have hcv := run_bytes_of_string (P := Tryd.prog) w 9 23 5 (str l) Tryd.underlying9 Tryd.underlying23 Tryd.underlying5
  have hsz := str_size l
  generalize hcap : grownCap w (str l).size 0 5 = cap at hcv
  refine ⟨_, _, hcv.trans (by rw [hsz]), .inr ⟨w.heap.size, 0, rfl, by simp, fun j x hx => ?_⟩, (Below.refl w.heap.size w).drew.alloc (Nat.le_refl _) _⟩
  have hj : j < l.length := (List.getElem?_eq_some_iff.1 hx).1
  have h := World.cell?_alloc_mark w.drew (bytesRow (str l) cap) 5 ((bytesRow (str l) cap).size, (bytesRow (str l) cap).size + 1) j
  have e : w.drew.heap.size = w.heap.size := rfl
  rw [e] at h
  rw [Nat.zero_add, h, bytesRow_at (str l) cap j (by show j < (str l).size; rw [hsz]; exact hj)]
  have : (str l).data[j]'(by show j < (str l).size; rw [hsz]; exact hj) = x := by
    have := (List.getElem?_eq_some_iff.1 hx).2
    rw [← this]; rfl
  rw [this]

set_option maxRecDepth 100000 in
set_option maxHeartbeats 1000000 in
theorem number_any (l : List UInt8) (w : World) (h8 : l.length ≤ 8) :
    Calls Tryd.prog 84 #[.string (str l)] w fun e w' => e = .returned (.int .u64 (num l 0)) ∧ w = w' := by
  have hsz := str_size l
  obtain ⟨s, hs⟩ : ∃ s, str l = s := ⟨_, rfl⟩
  rw [hs] at hsz ⊢
  obtain ⟨n, hn⟩ : ∃ n, l.length = n := ⟨_, rfl⟩
  rw [hn] at hsz h8
  have hget : ∀ j (h : j < s.size) (h' : j < l.length), s[j] = l[j] := by subst hs; exact fun j h h' => rfl
  have HSZ := Lib.hid hsz
  have HN := Lib.hid hn
  clear hs hsz hn
  go_enter Tryd.func84, Tryd.ntmps84
  go_wp2
  go_loopw [3, 4] (fun x i wr => ∃ t : Nat, t ≤ n ∧ i = .int .i64 t ∧ x = .int .u64 (num (l.take t) 0) ∧ wr = w) (fun _ i _ => n - (intOf i).toNat)
  case atStart => exact ⟨0, Nat.zero_le _, rfl, rfl, rfl⟩
  case round =>
    obtain ⟨t, ht, rfl, rfl, rfl⟩ := hrel
    by_cases h1 : t < n
    · have hts : t < s.size := by rw [HSZ.out]; exact h1
      have htl : t < l.length := by rw [HN.out]; exact h1
      have hg := hget t hts htl
      have hnt := num_take l t l[t] (l.drop (t + 1)) (List.drop_eq_getElem_cons htl)
      rw [← hg] at hnt
      have HNT := Lib.hid hnt
      have hn7 := num7 l t (by omega)
      have hc := byte_lt s[t]
      obtain ⟨N, hN⟩ : ∃ N, num (l.take t) 0 = N := ⟨_, rfl⟩
      obtain ⟨N2, hN2⟩ : ∃ N2, num (l.take (t + 1)) 0 = N2 := ⟨_, rfl⟩
      rw [hN] at HNT hn7 ⊢
      rw [hN2] at HNT
      have hn0 := hn7.1
      have hn1 : N ≤ 72057594037927935 := by have := hn7.2; unfold two56 at this; omega
      have HN2 := Lib.hid hN2
      clear hN hN2 hn7 hnt hg hget htl
      go_wp2
      go_roundw
      case rel => exact ⟨t + 1, by omega, by go_num, by rw [HN2.out, HNT.out], by first | rfl | trivial⟩
      case measure => simp [intOf]; omega
    · have hge : ¬ t < s.size := by rw [HSZ.out]; exact h1
      have hl : l.take t = l := List.take_of_length_le (by rw [HN.out]; omega)
      rw [hl]
      clear hget hl
      go_wp2
      go_ret
      exact ⟨rfl, by first | rfl | trivial⟩

end Go.Proofs.YtmldhnghfdhjmaaDoor
