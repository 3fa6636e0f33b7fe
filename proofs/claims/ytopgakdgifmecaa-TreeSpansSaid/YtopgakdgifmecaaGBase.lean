/-
  MERGED: StrA, BigK, ByMax, OwnB, Num, FrameMath, Lines, FrameP, FrameQ.
  CONDITIONS: each theorem's own hypotheses.
-/
import Derived.Test.YtopgakdgifmecaaProg
import Derived.Test.YtopgakdgifmecaaCodeMath
import Derived.WalkKit
import Derived.WalkLawsBesides
import Derived.WalkMore
import Derived.Below
import Derived.Lib.Hide
import Derived.Lib.Bytealg
import Derived.Laws.Externs
import Derived.Laws.Cover2
import Derived.IntWalk
import Derived.Laws.BitsAllLaws
import Derived.Lib.PathFns
import Derived.Laws.Strings2
import Derived.Laws.Strings3
import Derived.OwnWalk
import Derived.Laws.OwnMore
import Derived.Laws.AppendOwn
import Derived.Laws.AppendOwnNone
import Derived.Laws.MakeOwn

/-! STRINGS AND BYTES at a call: where bytes lie, cuts, conversions; the reference's number and big. CONDITIONS: each theorem's own hypotheses. -/
namespace Go.Proofs.Ytopgakdgifmecaa
open Go.RowKit CodeMath
set_option linter.unusedVariables false

theorem bytes_eq {s t : ByteArray} (h : s.data.toList = t.data.toList) : s = t := by
  rw [← Lib.mk_data s, ← Lib.mk_data t, h]

theorem num_snoc : ∀ (l : List UInt8) (a : Int) (c : UInt8), num (l ++ [c]) a = num l a * 256 + c.toNat
  | [], a, c => rfl
  | x :: l, a, c => by simp only [List.cons_append, num]; exact num_snoc l _ c

theorem num_take (l : List UInt8) (t : Nat) (c : UInt8) (r : List UInt8) (h : l.drop t = c :: r) : num (l.take (t + 1)) 0 = num (l.take t) 0 * 256 + c.toNat := by
  have ht : t < l.length := by
    have := congrArg List.length h
    simp at this; omega
  rw [List.drop_eq_getElem_cons ht] at h
  simp only [List.cons.injEq] at h
  rw [List.take_succ_eq_append_getElem ht, h.1, num_snoc]

def two56 : Int := 72057594037927936

set_option maxRecDepth 100000 in
theorem num7 (l : List UInt8) (t : Nat) (ht : t ≤ 7) : 0 ≤ num (l.take t) 0 ∧ num (l.take t) 0 < two56 := by
  have h := num_range (l.take t) 0
  have h2 : (256 : Int) ^ (l.take t).length ≤ 256 ^ 7 := by
    have : (l.take t).length ≤ 7 := by rw [List.length_take]; omega
    have := Nat.pow_le_pow_right (n := 256) (by decide) this
    have h3 : ((256 ^ (l.take t).length : Nat) : Int) ≤ ((256 ^ 7 : Nat) : Int) := Int.ofNat_le.2 this
    rw [Int.natCast_pow, Int.natCast_pow] at h3
    exact h3
  have e : (256 : Int) ^ 7 = two56 := by decide
  rw [e] at h2
  omega

/-- A slice of bytes, wherever it lies. -/
def Bytes (w : World) (ao : Option Addr) (l : List UInt8) : Prop := l = [] ∨ ∃ a o, ao = some ⟨a, o, none⟩ ∧ a < w.heap.size ∧ ∀ j x, l[j]? = some x → w.cell? ⟨a, o + j, none⟩ = some (.int .u8 x.toNat)

theorem Bytes.keep {w w1 : World} {ao : Option Addr} {l : List UInt8} (h : Bytes w ao l) (hb : Below w.heap.size w w1) : Bytes w1 ao l := by
  rcases h with h | ⟨a, o, h1, h2, h3⟩
  · exact .inl h
  · exact .inr ⟨a, o, h1, Nat.lt_of_lt_of_le h2 hb.size, fun j x hx => (hb.cell (p := ⟨a, o + j, none⟩) h2).trans (h3 j x hx)⟩

theorem bytes_string {w : World} {ao : Option Addr} {cap : Nat} {l : List UInt8} (h : Bytes w ao l) : (convert 55 9 (.slice ao l.length cap)).run Try.prog w = .ok (.string ⟨l.toArray⟩) w := by
  rcases h with rfl | ⟨a, o, rfl, h2, h3⟩
  · cases ao with
    | none => exact run_convert_bytes_nil w 55 5 Try.underlying55 Try.underlying5 0 cap 9 Try.underlying9
    | some a => exact run_convert_bytes_back w 55 9 5 a cap [] Try.underlying55 Try.underlying5 Try.underlying9 (fun j hj => by simp at hj)
  · refine run_convert_bytes_back w 55 9 5 ⟨a, o, none⟩ cap l Try.underlying55 Try.underlying5 Try.underlying9 (fun j hj => ?_)
    have := h3 j l[j] (List.getElem?_eq_getElem hj)
    have e : (⟨a, o, none⟩ : Addr).add j = ⟨a, o + j, none⟩ := by unfold Addr.add; split <;> simp_all
    rw [e]; exact this

/-- A string of these bytes. -/
def str (l : List UInt8) : ByteArray := ⟨l.toArray⟩

theorem str_data (l : List UInt8) : (str l).data.toList = l := rfl

theorem str_size (l : List UInt8) : (str l).size = l.length := by simp [str, ByteArray.size]

theorem str_toList (l : List UInt8) : (str l).toList = l := by rw [Lib.toList_data]; rfl

theorem str_eq (s : ByteArray) : s = str s.data.toList := by cases s; simp [str]

theorem str_get (l : List UInt8) (j : Nat) (h : j < (str l).size) : (str l)[j] = l[j]'(by rw [str_size] at h; exact h) := rfl

theorem str_extract (l : List UInt8) (i j : Nat) (h : i ≤ j) : (str l).extract i j = str ((l.drop i).take (j - i)) := by
  apply bytes_eq
  show ((str l).extract i j).data.toList = _
  rw [str_data, ByteArray.data_extract, Array.toList_extract]
  simp [str, List.extract]

theorem str_append (l m : List UInt8) : str l ++ str m = str (l ++ m) := by
  apply bytes_eq
  simp [str]

/-- s[i:j], a cut of a string. -/
theorem cut_str (l : List UInt8) (i j : Nat) (x y : Int) (hx : x = i) (hy : y = j) (h1 : i ≤ j) (h2 : j ≤ l.length) (w : World) :
    (Instr.slice 9 (.string (str l)) (some (.int .i64 x)) (some (.int .i64 y)) none).run Try.prog w = .ok (.string (str ((l.drop i).take (j - i)))) w := by
  subst hx hy
  have h := run_slice_string (P := Try.prog) w 9 (str l) .i64 .i64 (i : Int) (j : Int) Try.underlying9 (by omega) (by omega) (by rw [str_size]; omega)
  rw [h, Int.toNat_natCast, Int.toNat_natCast, str_extract l i j h1]

theorem str1_append (c : UInt8) (l : List UInt8) : str [c] ++ str l = str (c :: l) := by rw [str_append]; rfl

theorem div256 (n : Int) (t : Nat) : n / 256 ^ t / 256 = n / 256 ^ (t + 1) := by
  have := @Int.ediv_ediv n (256 ^ t) 256
  have h := pow_pos' t
  rw [if_neg (by omega)] at this
  rw [Int.pow_succ]; omega

theorem div_range (n : Int) (t : Nat) (h0 : 0 ≤ n) (h1 : n ≤ 18446744073709551615) : 0 ≤ n / 256 ^ t ∧ n / 256 ^ t ≤ 18446744073709551615 :=
  ⟨Int.ediv_nonneg h0 (Int.le_of_lt (pow_pos' t)), Int.le_trans (Int.ediv_le_self _ h0) h1⟩

theorem conv1x (W : World) (g : Nat) (x : Int) (c : UInt8) (hg : g = W.heap.size) (hx : x = (c.toNat : Int)) : (convert 55 9 (.slice (some ⟨g, 0, none⟩) 1 1)).run Try.prog (W.alloc (.cells #[.int .u8 x] 5)) = .ok (.string (str [c])) (W.alloc (.cells #[.int .u8 x] 5)) := by
  subst hg hx
  exact run_convert_bytes_back (P := Try.prog) _ 55 9 5 ⟨W.heap.size, 0, none⟩ 1 [c] Try.underlying55 Try.underlying5 Try.underlying9 (fun j hj => by
    obtain rfl : j = 0 := by simp at hj; exact hj
    show (W.alloc (.cells #[.int .u8 (c.toNat : Int)] 5)).cell? ⟨W.heap.size, 0, none⟩ = _
    rw [World.cell?_alloc_new]
    rfl)

theorem conv1 (W : World) (q : Int) : (convert 55 9 (.slice (some ⟨W.heap.size, 0, none⟩) 1 1)).run Try.prog (W.alloc (.cells #[.int .u8 (q % 256)] 5)) = .ok (.string (str [lowB q])) (W.alloc (.cells #[.int .u8 (q % 256)] 5)) :=
  conv1x W _ _ (lowB q) rfl (lowB_toNat q).symm

/-- []byte(s). -/
theorem bytesOf (l : List UInt8) (w : World) : ∃ cap W1, (convert 9 55 (.string (str l))).run Try.prog w = .ok (.slice (some ⟨w.heap.size, 0, none⟩) l.length cap) W1 ∧ Bytes W1 (some ⟨w.heap.size, 0, none⟩) l ∧ Below w.heap.size w W1 := by
  have hcv := run_bytes_of_string (P := Try.prog) w 9 55 5 (str l) Try.underlying9 Try.underlying55 Try.underlying5
  have hsz := str_size l
  generalize hcap : grownCap w (str l).size 0 5 = cap at hcv
  refine ⟨_, _, hcv.trans (by rw [hsz]), .inr ⟨w.heap.size, 0, rfl, by simp, fun j x hx => ?_⟩, (Below.refl w.heap.size w).drew.alloc (Nat.le_refl _) _⟩
  have hj : j < l.length := (List.getElem?_eq_some_iff.1 hx).1
  have h := World.cell?_alloc_mark w.drew (bytesRow (str l) cap) 5 ((bytesRow (str l) cap).size, (bytesRow (str l) cap).size + 1) j
  have e : w.drew.heap.size = w.heap.size := rfl
  rw [e] at h
  rw [Nat.zero_add, h, bytesRow_at (str l) cap j (by show j < (str l).size; rw [hsz]; exact hj)]
  have : (str l).data[j]'(by show j < (str l).size; rw [hsz]; exact hj) = x := by
    have := (List.getElem?_eq_some_iff.1 hx).2
    rw [← this]; rfl
  rw [this]

end Go.Proofs.Ytopgakdgifmecaa

/-! CONTRACT of the reference's big of any size. CONDITIONS: each theorem's own hypotheses. -/
namespace Go.Proofs.Ytopgakdgifmecaa
open Go.RowKit CodeMath
set_option linter.unusedVariables false

end Go.Proofs.Ytopgakdgifmecaa

/-! CONVERSIONS of strings to bytes: where what is new lies. CONDITIONS: each theorem's own hypotheses. -/
namespace Go.Proofs.Ytopgakdgifmecaa
open Go.RowKit CodeMath
set_option linter.unusedVariables false
set_option maxRecDepth 100000

/-- Bytes of one's own from the start of a block. -/
def Pads (W : World) (g : Nat) (l : List UInt8) : Prop := g < W.heap.size ∧ ∀ j c, l[j]? = some c → W.cell? ⟨g, j, none⟩ = some (.int .u8 c.toNat) ∧ W.frozen? ⟨g, j, none⟩ = false
theorem Pads.set {W : World} {g : Nat} {l : List UInt8} (h : Pads W g l) (i : Nat) (c : UInt8) : Pads (W.setCell ⟨g, i, none⟩ (.int .u8 c.toNat)) g (l.set i c) := by
  refine ⟨by simpa using h.1, fun j x hx => ?_⟩
  by_cases hij : i = j
  · subst hij
    have hi : i < l.length := by have := (List.getElem?_eq_some_iff.1 hx).1; simpa using this
    rw [List.getElem?_set_self hi] at hx
    cases hx
    obtain ⟨h1, h2⟩ := h.2 i _ (List.getElem?_eq_getElem hi)
    exact ⟨World.cell?_setCell_same _ _ _ h1, by rw [World.frozen?_setCell]; exact h2⟩
  · rw [List.getElem?_set_ne hij] at hx
    obtain ⟨h1, h2⟩ := h.2 j x hx
    exact ⟨by rw [World.cell?_setCell_other _ _ _ _ (fun e => hij (by cases e; rfl))]; exact h1, by rw [World.frozen?_setCell]; exact h2⟩
theorem Pads.bytes {W : World} {g : Nat} {l : List UInt8} (h : Pads W g l) : Bytes W (some ⟨g, 0, none⟩) l :=
  .inr ⟨g, 0, rfl, h.1, fun j x hx => by rw [Nat.zero_add]; exact (h.2 j x hx).1⟩
theorem bytesOf_own (l : List UInt8) (w : World) : ∃ cap W1, (convert 9 55 (.string (str l))).run Try.prog w = .ok (.slice (some ⟨w.heap.size, 0, none⟩) l.length cap) W1 ∧ Pads W1 w.heap.size l ∧ Below w.heap.size w W1 ∧ l.length ≤ cap := by
  have hcv := run_bytes_of_string (P := Try.prog) w 9 55 5 (str l) Try.underlying9 Try.underlying55 Try.underlying5
  have hsz := str_size l
  have hge : l.length ≤ grownCap w (str l).size 0 5 := by rw [← hsz]; exact Nat.le_of_lt_succ (by have := grownCap_ge w (str l).size 0 5; omega)
  generalize hcap : grownCap w (str l).size 0 5 = cap at hcv hge
  refine ⟨_, _, hcv.trans (by rw [hsz]), ⟨by simp, fun j x hx => ?_⟩, (Below.refl w.heap.size w).drew.alloc (Nat.le_refl _) _, hge⟩
  have hj : j < l.length := (List.getElem?_eq_some_iff.1 hx).1
  have h := World.cell?_alloc_mark w.drew (bytesRow (str l) cap) 5 ((bytesRow (str l) cap).size, (bytesRow (str l) cap).size + 1) j
  have hf := World.frozen?_alloc_mark w.drew (bytesRow (str l) cap) 5 (bytesRow (str l) cap).size ((bytesRow (str l) cap).size + 1) j
  have e : w.drew.heap.size = w.heap.size := rfl
  rw [e] at h hf
  have hb : j < (bytesRow (str l) cap).size := by
    have := bytesRow_at (str l) cap j (by show j < (str l).size; rw [hsz]; exact hj)
    exact (Array.getElem?_eq_some_iff.1 this).1
  refine ⟨?_, ?_⟩
  · rw [h, bytesRow_at (str l) cap j (by show j < (str l).size; rw [hsz]; exact hj)]
    have : (str l).data[j]'(by show j < (str l).size; rw [hsz]; exact hj) = x := by
      have := (List.getElem?_eq_some_iff.1 hx).2
      rw [← this]; rfl
    rw [this]
  · rw [hf]; simp; omega
theorem bytesOf_max (l : List UInt8) (w : World) (hl : l.length ≤ 9223372036854775807) : ∃ cap W1, (convert 9 55 (.string (str l))).run Try.prog w = .ok (.slice (some ⟨w.heap.size, 0, none⟩) l.length cap) W1 ∧ Bytes W1 (some ⟨w.heap.size, 0, none⟩) l ∧ Below w.heap.size w W1 ∧ l.length ≤ cap ∧ cap ≤ 9223372036854775807 := by
  obtain ⟨cap, W1, hcv, h1, h2, h3⟩ := bytesOf_own l w
  refine ⟨cap, W1, hcv, h1.bytes, h2, h3, ?_⟩
  have hcv' := run_bytes_of_string (P := Try.prog) w 9 55 5 (str l) Try.underlying9 Try.underlying55 Try.underlying5
  have hle := grownCap_le_maxLen w (str l).size 0 5 (by rw [str_size]; exact hl)
  rw [hcv] at hcv'
  have : cap = grownCap w (str l).size 0 5 := by
    injection hcv' with e1 e2
    injection e1 with e3 e4 e5
  rw [this]; exact hle
end Go.Proofs.Ytopgakdgifmecaa

/-! SLICES OF BYTES of a call's own (for seats without stage 2's functions: the same names as in CodeA: never both in one seat). CONDITIONS: each theorem's own hypotheses. -/
namespace Go.Proofs.Ytopgakdgifmecaa
open Go.RowKit CodeMath
set_option linter.unusedVariables false

/-- Bytes as cells. -/
def cellsB (l : List UInt8) : List Value := l.map fun x => .int .u8 x.toNat
theorem cellsB_length (l : List UInt8) : (cellsB l).length = l.length := by simp [cellsB]
theorem cellsB_append (l m : List UInt8) : cellsB (l ++ m) = cellsB l ++ cellsB m := by simp [cellsB]
/-- A slice of bytes of the call's own. -/
def OwnB (w : World) (base : Nat) (v : Value) (l : List UInt8) : Prop := w.ownsRow base 5 1 v l.length (cellsB l)
theorem infoB : (Try.prog.info? 5).map (fun i => (i.zero, i.size, i.bytes)) = some (some (.int .u8 0), 1, 1) := by kernel_rfl

theorem grown_trans {a b c : World} {row : Option Nat} (h : a.grownBy b row) (k : b.grownBy c row) : a.grownBy c row :=
  ⟨k.os.trans h.os, k.tape.trans h.tape, k.output.trans h.output, Nat.le_trans h.size k.size, fun i hi hn => (k.block i (Nat.lt_of_lt_of_le hi h.size) hn).trans (h.block i hi hn)⟩
theorem addr_zero (b : Nat) : (⟨b, 0, none⟩ : Addr).add 0 = ⟨b, 0, none⟩ := by simp [Addr.add]
/-- append(b, c), one byte. -/
theorem wpList_append_byte {ops : Array Oper} {rest : List Oper} {o : Oper} {a : Act} {Q : Exit → Act → World → Prop} {w : World} (hgd : o.guard = none) (s x : Operand)
    (ho : o.op = .call { callee := .builtin .append, args := #[s, x], argTypes := #[55, 55] }) (base : Nat) (v : Value) (l : List UInt8) (hs : a.eval s = v) (hown : OwnB w base v l)
    (c : Int) (b : UInt8) (m : Nat) (hx : a.eval x = .slice (some ⟨m, 0, none⟩) 1 1) (hm : m = w.heap.size) (hc : c = b.toNat) (hl : l.length ≤ 1000000) (hb : base ≤ w.heap.size)
    (h : ∀ v' w', OwnB w' base v' (l ++ [b]) → Below base w w' → w.grownBy w' v.ownBlock → wpList Try.prog ops Q rest (a.put o.dst v') w') : wpList Try.prog ops Q (o :: rest) a (w.alloc (.cells #[.int .u8 c] 5)) := by
  subst hm
  obtain ⟨i0, hi, hz0, hz1, hz2⟩ := info_parts infoB
  refine wpList_append_own _ hgd s x 55 ho base 5 i0 (.int .u8 0) 1 1 Try.underlying55 hi hz0 hz1 hz2 rfl (by decide) v l.length (cellsB l) hs (World.ownsRow.alloc hown _) ⟨w.heap.size, 0, none⟩ 1 1 [.int .u8 c] hx rfl ?_ ?_ (by unfold maxLen; omega) (by omega) (by simp; omega) ?_
  · intro j u hj
    match j, hj with
    | 0, hj =>
      simp at hj; subst hj
      rw [addr_zero, World.cell?_alloc_new]
      rfl
  · intro u hu
    simp at hu; subst hu; rfl
  · intro v' w' h1 h2 _
    refine h v' w' ?_ ?_ (grown_trans (World.grownBy_alloc w _ _) h2)
    · unfold OwnB
      rw [cellsB_append, List.length_append]
      show w'.ownsRow base 5 1 v' (l.length + 1) (cellsB l ++ [.int .u8 b.toNat])
      rw [← hc]; exact h1
    · exact ((Below.refl base w).alloc hb _).grown h2 (by simp; omega) (fun k hk => (hown.lt k hk).1)

/-- append(b, c, d), two bytes. -/
theorem wpList_append_two {ops : Array Oper} {rest : List Oper} {o : Oper} {a : Act} {Q : Exit → Act → World → Prop} {w : World} (hgd : o.guard = none) (s x : Operand)
    (ho : o.op = .call { callee := .builtin .append, args := #[s, x], argTypes := #[55, 55] }) (base : Nat) (v : Value) (l : List UInt8) (hs : a.eval s = v) (hown : OwnB w base v l)
    (c d : Int) (b e : UInt8) (m : Nat) (hx : a.eval x = .slice (some ⟨m, 0, none⟩) 2 2) (hm : m = w.heap.size) (hc : c = b.toNat) (hd : d = e.toNat) (hl : l.length ≤ 1000000) (hb : base ≤ w.heap.size)
    (h : ∀ v' w', OwnB w' base v' (l ++ [b, e]) → Below base w w' → w.grownBy w' v.ownBlock → wpList Try.prog ops Q rest (a.put o.dst v') w') : wpList Try.prog ops Q (o :: rest) a (w.alloc (.cells #[.int .u8 c, .int .u8 d] 5)) := by
  subst hm
  obtain ⟨i0, hi, hz0, hz1, hz2⟩ := info_parts infoB
  refine wpList_append_own _ hgd s x 55 ho base 5 i0 (.int .u8 0) 1 1 Try.underlying55 hi hz0 hz1 hz2 rfl (by decide) v l.length (cellsB l) hs (World.ownsRow.alloc hown _) ⟨w.heap.size, 0, none⟩ 2 2 [.int .u8 c, .int .u8 d] hx rfl ?_ ?_ (by unfold maxLen; omega) (by omega) (by simp; omega) ?_
  · intro j u hj
    match j, hj with
    | 0, hj =>
      simp at hj; subst hj
      rw [addr_zero, World.cell?_alloc_new]
      rfl
    | 1, hj =>
      simp at hj; subst hj
      rw [show (⟨w.heap.size, 0, none⟩ : Addr).add 1 = ⟨w.heap.size, 1, none⟩ by simp [Addr.add], World.cell?_alloc_new]
      rfl
  · intro u hu
    simp at hu; rcases hu with rfl | rfl <;> rfl
  · intro v' w' h1 h2 _
    refine h v' w' ?_ ?_ (grown_trans (World.grownBy_alloc w _ _) h2)
    · unfold OwnB
      rw [cellsB_append, List.length_append]
      show w'.ownsRow base 5 1 v' (l.length + 2) (cellsB l ++ [.int .u8 b.toNat, .int .u8 e.toNat])
      rw [← hc, ← hd]; exact h1
    · exact ((Below.refl base w).alloc hb _).grown h2 (by simp; omega) (fun k hk => (hown.lt k hk).1)


theorem below_step {B : Nat} {a b c : World} (h : Below B a b) (hB : B ≤ b.heap.size) (k : Below b.heap.size b c) : Below B a c := h.trans (k.mono hB)
theorem OwnB.keep {w w1 : World} {base : Nat} {v : Value} {l : List UInt8} (h : OwnB w base v l) (hb : Below w.heap.size w w1) : OwnB w1 base v l :=
  World.ownsRow.kept (row := none) h ⟨hb.os, hb.tape, hb.output, hb.size, fun k hk _ => hb.block k hk⟩ (by cases v.ownBlock <;> simp)
/-- What is owned are bytes. -/
theorem OwnB.bytes {w : World} {base g cap : Nat} {l : List UInt8} (h : OwnB w base (.slice (some ⟨g, 0, none⟩) l.length cap) l) : Bytes w (some ⟨g, 0, none⟩) l := by
  refine .inr ⟨g, 0, rfl, (h.lt g rfl).2, fun j x hx => ?_⟩
  have hj : j < l.length := (List.getElem?_eq_some_iff.1 hx).1
  have := World.ownsRow.cellAt h j (by omega)
  rw [Nat.zero_add, this]
  unfold cellsB
  rw [List.getElem?_map, hx]
  rfl
theorem bytes_lit (w : World) (x : Int) (c : UInt8) (hx : x = c.toNat) (T : TypeId) : Bytes (w.alloc (.cells #[.int .u8 x] T)) (some ⟨w.heap.size, 0, none⟩) [c] := by
  subst hx
  refine .inr ⟨w.heap.size, 0, rfl, by simp, fun j y hy => ?_⟩
  obtain rfl : j = 0 := by have := (List.getElem?_eq_some_iff.1 hy).1; simp at this; exact this
  simp at hy; subst hy
  rw [World.cell?_alloc_new]
  rfl
/-- append(s, x...), x bytes that came in. -/
theorem wpList_append_came {ops : Array Oper} {rest : List Oper} {o : Oper} {a : Act} {Q : Exit → Act → World → Prop} {w : World} (hgd : o.guard = none) (s x : Operand)
    (ho : o.op = .call { callee := .builtin .append, args := #[s, x], argTypes := #[55, 55] }) (base : Nat) (v : Value) (l : List UInt8) (hs : a.eval s = v) (hown : OwnB w base v l)
    (m : List UInt8) (ao : Option Addr) (cap : Nat) (hx : a.eval x = .slice ao m.length cap) (h2 : Bytes w ao m) (hn : ao = none → cap = 0) (hl : l.length + m.length ≤ 140737488351232) (hb : base ≤ w.heap.size)
    (h : ∀ v' w', OwnB w' base v' (l ++ m) → Below base w w' → wpList Try.prog ops Q rest (a.put o.dst v') w') : wpList Try.prog ops Q (o :: rest) a w := by
  obtain ⟨i0, hi, hz0, hz1, hz2⟩ := info_parts infoB
  cases ao with
  | none =>
    obtain rfl : cap = 0 := hn rfl
    have hm : m = [] := by
      rcases h2 with h | ⟨_, _, h, _⟩
      · exact h
      · cases h
    subst hm
    refine wpList_append_own_none hgd s x 55 ho base 5 i0 1 Try.underlying55 hi v l.length (cellsB l) hs hown hx (h v w ?_ (Below.refl _ _))
    rw [List.append_nil]; exact hown
  | some ad =>
    refine wpList_append_own _ hgd s x 55 ho base 5 i0 (.int .u8 0) 1 1 Try.underlying55 hi hz0 hz1 hz2 rfl (by decide) v l.length (cellsB l) hs hown ad m.length cap (cellsB m) hx (by rw [cellsB_length, Nat.mul_one]) ?_ ?_ (by unfold maxLen; omega) (by omega) hb ?_
    · intro j u hj
      rcases h2 with h | ⟨p, q, h, _, hc⟩
      · rw [h] at hj; simp [cellsB] at hj
      · simp only [Option.some.injEq] at h
        subst h
        unfold cellsB at hj
        rw [List.getElem?_map] at hj
        cases hv : m[j]? with
        | none => rw [hv] at hj; cases hj
        | some c =>
          rw [hv] at hj
          simp only [Option.map_some, Option.some.injEq] at hj
          rw [← hj, show (⟨p, q, none⟩ : Addr).add j = ⟨p, q + j, none⟩ by unfold Addr.add; split <;> simp_all]
          exact hc j c hv
    · intro u hu
      obtain ⟨x, _, rfl⟩ := List.mem_map.1 hu
      rfl
    · intro v' w' h1 hg _
      refine h v' w' ?_ ((Below.refl base w).grown hg hb (fun k hk => (hown.lt k hk).1))
      unfold OwnB
      rw [cellsB_append, List.length_append]
      exact h1
theorem ownB_fresh (w : World) (base : Nat) (hb : base ≤ w.heap.size) : OwnB (w.alloc (.cells #[] 5)) base (.slice (some ⟨w.heap.size, 0, none⟩) 0 0) [] :=
  World.ownsRow_lit w #[] 0 hb (by unfold maxLen; omega) rfl
end Go.Proofs.Ytopgakdgifmecaa

/-! CONTRACT of package numeral's Append (for seats without stage 2's functions: the same names as in CodeA: never both in one seat). CONDITIONS: each theorem's own hypotheses. -/
namespace Go.Proofs.Ytopgakdgifmecaa
open Go.RowKit CodeMath
set_option linter.unusedVariables false

/-- append(b, c), one byte. -/
theorem wpList_append_one {ops : Array Oper} {rest : List Oper} {o : Oper} {a : Act} {Q : Exit → Act → World → Prop} {w : World} (hgd : o.guard = none) (s x : Operand)
    (ho : o.op = .call { callee := .builtin .append, args := #[s, x], argTypes := #[55, 55] }) (base : Nat) (v : Value) (l : List UInt8) (hs : a.eval s = v) (hown : OwnB w base v l)
    (c : Int) (b : UInt8) (m : Nat) (hx : a.eval x = .slice (some ⟨m, 0, none⟩) 1 1) (hm : m = w.heap.size) (hc : c = b.toNat) (hl : l.length ≤ 1099511627776) (hb : base ≤ w.heap.size)
    (h : ∀ v' w', OwnB w' base v' (l ++ [b]) → Below base w w' → w.grownBy w' v.ownBlock → wpList Try.prog ops Q rest (a.put o.dst v') w') : wpList Try.prog ops Q (o :: rest) a (w.alloc (.cells #[.int .u8 c] 5)) := by
  subst hm
  obtain ⟨i0, hi, hz0, hz1, hz2⟩ := info_parts infoB
  refine wpList_append_own _ hgd s x 55 ho base 5 i0 (.int .u8 0) 1 1 Try.underlying55 hi hz0 hz1 hz2 rfl (by decide) v l.length (cellsB l) hs (World.ownsRow.alloc hown _) ⟨w.heap.size, 0, none⟩ 1 1 [.int .u8 c] hx rfl ?_ ?_ (by unfold maxLen; omega) (by omega) (by simp; omega) ?_
  · intro j u hj
    match j, hj with
    | 0, hj =>
      simp at hj; subst hj
      rw [addr_zero, World.cell?_alloc_new]
      rfl
  · intro u hu
    simp at hu; subst hu; rfl
  · intro v' w' h1 h2 _
    refine h v' w' ?_ ?_ (grown_trans (World.grownBy_alloc w _ _) h2)
    · unfold OwnB
      rw [cellsB_append, List.length_append]
      show w'.ownsRow base 5 1 v' (l.length + 1) (cellsB l ++ [.int .u8 b.toNat])
      rw [← hc]; exact h1
    · exact ((Below.refl base w).alloc hb _).grown h2 (by simp; omega) (fun k hk => (hown.lt k hk).1)

theorem shifted (n : Int) (j : Nat) : n / 2 ^ (8 * j) % 256 = ((lowB (n / 256 ^ j)).toNat : Int) := by
  rw [lowB_toNat, Int.pow_mul]; rfl

end Go.Proofs.Ytopgakdgifmecaa

/-! PLAIN MATHEMATICS of frames: parts under a tag as bytes, and back. CONDITIONS: each theorem's own hypotheses. -/
namespace Go.Proofs.Ytopgakdgifmecaa.FrameMath
open CodeMath
set_option linter.unusedVariables false

/-- A part: its length in four bytes, and its bytes. -/
def piece (p : List UInt8) : List UInt8 := be p.length 4 ++ p
def pieces : List (List UInt8) → List UInt8
  | [] => []
  | p :: ps => piece p ++ pieces ps
def frame (t : Nat) (ps : List (List UInt8)) : List UInt8 := lowB t :: lowB ps.length :: pieces ps
/-- How many bytes a frame has. -/
def total : List (List UInt8) → Nat
  | [] => 0
  | p :: ps => 4 + p.length + total ps
theorem piece_length (p : List UInt8) : (piece p).length = 4 + p.length := by
  unfold piece; rw [List.length_append, be_length]
theorem pieces_length : ∀ ps, (pieces ps).length = total ps
  | [] => rfl
  | p :: ps => by
    show (piece p ++ pieces ps).length = _
    rw [List.length_append, piece_length, pieces_length ps]; rfl
theorem frame_length (t : Nat) (ps : List (List UInt8)) : (frame t ps).length = 2 + total ps := by
  unfold frame; rw [List.length_cons, List.length_cons, pieces_length]; omega
theorem pieces_append : ∀ ps qs, pieces (ps ++ qs) = pieces ps ++ pieces qs
  | [], qs => rfl
  | p :: ps, qs => by
    show piece p ++ pieces (ps ++ qs) = (piece p ++ pieces ps) ++ pieces qs
    rw [pieces_append ps qs, List.append_assoc]
theorem total_append : ∀ ps qs, total (ps ++ qs) = total ps + total qs
  | [], qs => by simp [total]
  | p :: ps, qs => by
    show 4 + p.length + total (ps ++ qs) = 4 + p.length + total ps + total qs
    rw [total_append ps qs]; omega
theorem total_mem : ∀ ps p, p ∈ ps → 4 + p.length ≤ total ps
  | [], p, h => by cases h
  | q :: ps, p, h => by
    show _ ≤ 4 + q.length + total ps
    rcases List.mem_cons.1 h with rfl | h
    · omega
    · have := total_mem ps p h; omega
theorem total_take : ∀ (ps : List (List UInt8)) (j : Nat), total (ps.take j) ≤ total ps
  | [], j => by simp [total]
  | p :: ps, 0 => by simp [total]
  | p :: ps, j + 1 => by
    show 4 + p.length + total (ps.take j) ≤ 4 + p.length + total ps
    have := total_take ps j; omega

/-- What parsing answers: an error, or parts and what is behind. -/
inductive Cut where
  | short
  | ok (ps : List (List UInt8)) (r : List UInt8)
def cons (p : List UInt8) : Cut → Cut
  | .short => .short
  | .ok ps r => .ok (p :: ps) r
def cutN : Nat → List UInt8 → Cut
  | 0, l => .ok [] l
  | n + 1, l => if l.length < 4 then .short else
      if ((l.drop 4).length : Int) < num (l.take 4) 0 then .short else
        cons ((l.drop 4).take (num (l.take 4) 0).toNat) (cutN n ((l.drop 4).drop (num (l.take 4) 0).toNat))
inductive Res where
  | err (e : Int)
  | ok (t : Nat) (ps : List (List UInt8))
def endRes (t : Nat) : Cut → Res
  | .short => .err 4
  | .ok ps r => if r = [] then .ok t ps else .err 3
def parse (l : List UInt8) : Res :=
  if 16777216 < l.length then .err 1 else
    match l with
    | [] => .err 4
    | t :: l => if t.toNat < 1 ∨ 9 < t.toNat then .err 6 else
      match l with
      | [] => .err 4
      | n :: l => if 8 < n.toNat then .err 1 else endRes t.toNat (cutN n.toNat l)

theorem num_be4 (n : Nat) (h : n < 4294967296) : num (be n 4) 0 = n := by
  rw [num_be]
  have e : (256 : Int) ^ 4 = 4294967296 := by decide
  rw [e]; omega
theorem cutN_pieces : ∀ (ps : List (List UInt8)) (r : List UInt8), (∀ p ∈ ps, p.length < 4294967296) → cutN ps.length (pieces ps ++ r) = .ok ps r
  | [], r, _ => rfl
  | p :: ps, r, h => by
    have hp := h p (by simp)
    have hl : (be (p.length : Int) 4).length = 4 := be_length _ _
    have e : pieces (p :: ps) ++ r = be p.length 4 ++ (p ++ (pieces ps ++ r)) := by
      show (be p.length 4 ++ p ++ pieces ps) ++ r = _
      simp only [List.append_assoc]
    have t4 : (be (p.length : Int) 4 ++ (p ++ (pieces ps ++ r))).take 4 = be p.length 4 := by
      rw [List.take_append_of_le_length (by omega), List.take_of_length_le (by omega)]
    have d4 : (be (p.length : Int) 4 ++ (p ++ (pieces ps ++ r))).drop 4 = p ++ (pieces ps ++ r) := by
      rw [List.drop_append_of_le_length (by omega), List.drop_of_length_le (by omega), List.nil_append]
    rw [e]
    show (if _ then _ else _) = _
    rw [if_neg (by rw [List.length_append, hl]; omega), t4, d4, num_be4 _ hp, if_neg (by rw [List.length_append]; omega), Int.toNat_natCast, List.take_append_of_le_length (Nat.le_refl _), List.take_of_length_le (Nat.le_refl _), List.drop_append_of_le_length (Nat.le_refl _), List.drop_of_length_le (Nat.le_refl _), List.nil_append, cutN_pieces ps r (fun q hq => h q (List.mem_cons_of_mem _ hq))]
    rfl
theorem lowB_nat (n : Nat) (h : n < 256) : (lowB n).toNat = n := by
  have := lowB_toNat n
  omega
/-- A FRAME IS TAKEN APART AS IT WAS PUT TOGETHER. -/
theorem parse_frame (t : Nat) (ps : List (List UInt8)) (t0 : 1 ≤ t) (t1 : t ≤ 9) (hn : ps.length ≤ 8) (hl : 2 + total ps ≤ 16777216) : parse (frame t ps) = .ok t ps := by
  have ht := lowB_nat t (by omega)
  have hk := lowB_nat ps.length (by omega)
  unfold parse
  rw [if_neg (by rw [frame_length]; omega)]
  unfold frame
  simp only []
  rw [if_neg (by omega), if_neg (by omega), hk, ht]
  have := cutN_pieces ps [] (fun p hp => by have := total_mem ps p hp; omega)
  rw [List.append_nil] at this
  rw [this]
  rfl
theorem cutN_ok : ∀ (n : Nat) (l : List UInt8) (ps : List (List UInt8)) (r : List UInt8), cutN n l = .ok ps r → ps.length = n ∧ pieces ps ++ r = l
  | 0, l, ps, r, h => by
    cases h; exact ⟨rfl, rfl⟩
  | n + 1, l, ps, r, h => by
    unfold cutN at h
    by_cases h4 : l.length < 4
    · rw [if_pos h4] at h; cases h
    · rw [if_neg h4] at h
      by_cases h5 : ((l.drop 4).length : Int) < num (l.take 4) 0
      · rw [if_pos h5] at h; cases h
      · rw [if_neg h5] at h
        cases hc : cutN n ((l.drop 4).drop (num (l.take 4) 0).toNat) with
        | short => rw [hc] at h; cases h
        | ok qs r' =>
          rw [hc] at h
          obtain ⟨h1, h2⟩ := cutN_ok n _ qs r' hc
          cases h
          have hlt : (l.take 4).length = 4 := by rw [List.length_take]; omega
          have hr := num_range (l.take 4) 0
          have hb := be_num (l.take 4) 0
          rw [hlt] at hb
          refine ⟨by rw [List.length_cons, h1], ?_⟩
          show (be _ 4 ++ _ ++ pieces qs) ++ r = l
          have hlen : (((l.drop 4).take (num (l.take 4) 0).toNat).length : Int) = num (l.take 4) 0 := by
            rw [List.length_take]; omega
          rw [hlen, hb, List.append_assoc, List.append_assoc, h2, List.take_append_drop, List.take_append_drop]
theorem endRes_ok {t u : Nat} {c : Cut} {ps : List (List UInt8)} (h : endRes t c = .ok u ps) : t = u ∧ c = .ok ps [] := by
  cases c with
  | short => cases h
  | ok qs r =>
    unfold endRes at h
    by_cases hr : r = []
    · simp only [if_pos hr] at h
      cases h; exact ⟨rfl, by rw [hr]⟩
    · simp only [if_neg hr] at h
      cases h
/-- WHAT IS TAKEN APART IS PUT TOGETHER JUST SO. -/
theorem frame_parse (l : List UInt8) (t : Nat) (ps : List (List UInt8)) (h : parse l = .ok t ps) : frame t ps = l ∧ 1 ≤ t ∧ t ≤ 9 ∧ ps.length ≤ 8 ∧ 2 + total ps ≤ 16777216 := by
  unfold parse at h
  by_cases h1 : 16777216 < l.length
  · rw [if_pos h1] at h; cases h
  · rw [if_neg h1] at h
    cases l with
    | nil => cases h
    | cons c l =>
      simp only [] at h
      by_cases h2 : c.toNat < 1 ∨ 9 < c.toNat
      · rw [if_pos h2] at h; cases h
      · rw [if_neg h2] at h
        cases l with
        | nil => cases h
        | cons n l =>
          simp only [] at h
          by_cases h3 : 8 < n.toNat
          · rw [if_pos h3] at h; cases h
          · rw [if_neg h3] at h
            obtain ⟨e1, e2⟩ := endRes_ok h
            obtain ⟨e3, e4⟩ := cutN_ok _ _ _ _ e2
            subst e1
            rw [List.append_nil] at e4
            have b1 : lowB (c.toNat : Nat) = c := by apply byte_eq; rw [lowB_toNat]; have := byte_lt c; omega
            have b2 : lowB (ps.length : Nat) = n := by rw [e3]; apply byte_eq; rw [lowB_toNat]; have := byte_lt n; omega
            have ef : frame c.toNat ps = c :: n :: l := by unfold frame; rw [b1, b2, e4]
            refine ⟨ef, by omega, by omega, by omega, ?_⟩
            have := congrArg List.length ef
            rw [frame_length] at this
            omega
/-- NO FRAME BEGINS WITH ANOTHER ONE. -/
theorem frame_apart (t u : Nat) (ps qs : List (List UInt8)) (x y : List UInt8) (ht : t < 256) (hu : u < 256) (hp : ps.length < 256) (hq : qs.length < 256) (hps : ∀ p ∈ ps, p.length < 4294967296) (hqs : ∀ p ∈ qs, p.length < 4294967296) (h : frame t ps ++ x = frame u qs ++ y) : t = u ∧ ps = qs ∧ x = y := by
  unfold frame at h
  simp only [List.cons_append, List.cons.injEq] at h
  obtain ⟨h1, h2, h3⟩ := h
  have e1 := lowB_nat t ht
  have e2 := lowB_nat u hu
  have e3 := lowB_nat ps.length hp
  have e4 := lowB_nat qs.length hq
  rw [h1] at e1
  rw [h2] at e3
  have el : ps.length = qs.length := by omega
  have c1 := cutN_pieces ps x hps
  have c2 := cutN_pieces qs y hqs
  rw [h3, el, c2] at c1
  cases c1
  exact ⟨by omega, rfl, rfl⟩
theorem take_same (a b : List UInt8) (h : a.take (min a.length b.length) = b.take (min a.length b.length)) : ∃ x y, a ++ x = b ++ y := by
  rcases Nat.le_total a.length b.length with hl | hl
  · rw [Nat.min_eq_left hl, List.take_of_length_le (Nat.le_refl _)] at h
    exact ⟨b.drop a.length, [], by rw [List.append_nil]; exact (congrArg (· ++ b.drop a.length) h).trans (List.take_append_drop _ _)⟩
  · rw [Nat.min_eq_right hl, List.take_of_length_le (Nat.le_refl _)] at h
    exact ⟨[], a.drop b.length, by rw [List.append_nil]; exact ((congrArg (· ++ a.drop b.length) h).symm.trans (List.take_append_drop _ _)).symm⟩
end Go.Proofs.Ytopgakdgifmecaa.FrameMath

/-! SLICES OF LINES of bytes, and package oracle's frameBytes. CONDITIONS: each theorem's own hypotheses. -/
namespace Go.Proofs.Ytopgakdgifmecaa
open Go.RowKit CodeMath
set_option linter.unusedVariables false

/-- A slice of slices of bytes, wherever they lie. -/
def Lines (w : World) (ap : Option Addr) (rows : List (List UInt8)) : Prop := rows = [] ∨ ∃ a o, ap = some ⟨a, o, none⟩ ∧ a < w.heap.size ∧ ∀ i l, rows[i]? = some l → ∃ ao cap, w.cell? ⟨a, o + i, none⟩ = some (.slice ao l.length cap) ∧ l.length ≤ cap ∧ cap ≤ 9223372036854775807 ∧ (ao = none → cap = 0) ∧ Bytes w ao l
theorem Lines.keep {w w1 : World} {ap : Option Addr} {rows : List (List UInt8)} (h : Lines w ap rows) (hb : Below w.heap.size w w1) : Lines w1 ap rows := by
  rcases h with h | ⟨a, o, h1, h2, h3⟩
  · exact .inl h
  · refine .inr ⟨a, o, h1, Nat.lt_of_lt_of_le h2 hb.size, fun i l hi => ?_⟩
    obtain ⟨ao, cap, k1, k2, k3, k4, k5⟩ := h3 i l hi
    exact ⟨ao, cap, (hb.cell (p := ⟨a, o + i, none⟩) h2).trans k1, k2, k3, k4, k5.keep hb⟩
/-- How many bytes the frame of the first rows has. -/
def weigh (rows : List (List UInt8)) : Nat → Nat
  | 0 => 2
  | i + 1 => weigh rows i + (4 + (rows.getD i []).length)
theorem weigh_le (rows : List (List UInt8)) (B : Nat) (hB : ∀ l ∈ rows, l.length ≤ B) : ∀ i, weigh rows i ≤ 2 + i * (4 + B)
  | 0 => by simp [weigh]
  | i + 1 => by
    have ih := weigh_le rows B hB i
    have : (rows.getD i []).length ≤ B := by
      rw [List.getD_eq_getElem?_getD]
      cases h : rows[i]? with
      | none => simp
      | some l => exact hB l (List.mem_of_getElem? h)
    simp only [weigh, Nat.succ_mul]
    omega
end Go.Proofs.Ytopgakdgifmecaa

/-! CONTRACT of package oracle's frame. CONDITIONS: each theorem's own hypotheses. -/
namespace Go.Proofs.Ytopgakdgifmecaa
open Go.RowKit CodeMath Go.Proofs.Ytopgakdgifmecaa.FrameMath
set_option linter.unusedVariables false

theorem take_next (rows : List (List UInt8)) (i : Nat) (l : List UInt8) (h : rows[i]? = some l) : rows.take (i + 1) = rows.take i ++ [l] := by
  have hi := (List.getElem?_eq_some_iff.1 h).1
  rw [List.take_succ_eq_append_getElem hi, (List.getElem?_eq_some_iff.1 h).2]
theorem weigh_total (rows : List (List UInt8)) : ∀ i, i ≤ rows.length → weigh rows i = 2 + total (rows.take i)
  | 0, _ => by simp [weigh, total]
  | i + 1, h => by
    obtain ⟨l, hl⟩ : ∃ l, rows[i]? = some l := ⟨_, List.getElem?_eq_getElem (by omega)⟩
    rw [take_next rows i l hl, total_append]
    simp only [weigh, total]
    rw [weigh_total rows i (by omega), List.getD_eq_getElem?_getD, hl]
    simp only [Option.getD_some]
    omega
theorem pieces_next (rows : List (List UInt8)) (i : Nat) (l : List UInt8) (h : rows[i]? = some l) (x : List UInt8) : x ++ pieces (rows.take (i + 1)) = (x ++ pieces (rows.take i) ++ be l.length 4) ++ l := by
  rw [take_next rows i l h, pieces_append]
  simp [pieces, piece]
theorem be_one (n : Nat) : be (n : Int) 1 = [lowB n] := by simp [be]
end Go.Proofs.Ytopgakdgifmecaa

/-! CONTRACTS of package oracle's isTag and Frame. CONDITIONS: each theorem's own hypotheses. -/
namespace Go.Proofs.Ytopgakdgifmecaa
open Go.RowKit CodeMath Go.Proofs.Ytopgakdgifmecaa.FrameMath
set_option linter.unusedVariables false

end Go.Proofs.Ytopgakdgifmecaa
