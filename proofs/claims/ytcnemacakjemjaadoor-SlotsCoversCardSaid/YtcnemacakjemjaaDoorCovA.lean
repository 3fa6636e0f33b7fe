/-
  BOOLS in memory; CONTRACTS of slices.Index and slices.Contains at them, of the reference's count, of bytes.Clone.
  CONDITIONS: each theorem's own hypotheses.
-/
import Derived.Test.YtcnemacakjemjaaDoorCovP
import Derived.Test.YtcnemacakjemjaaDoorGRefS
import Derived.Test.YtcnemacakjemjaaDoorSlotK
namespace Go.Proofs.YtcnemacakjemjaaDoor
open Go.RowKit CodeMath Go.Proofs.YtcnemacakjemjaaDoor.FrameMath
set_option linter.unusedVariables false
set_option maxRecDepth 100000

/-- Bools at an address. -/
def Bools (W : World) (ao : Option Addr) (o : List Bool) : Prop := o = [] ∨ ∃ a k, ao = some ⟨a, k, none⟩ ∧ a < W.heap.size ∧ ∀ (i : Nat) (b : Bool), o[i]? = some b → W.cell? ⟨a, k + i, none⟩ = some (.bool b)
theorem Bools.keep {W W' : World} {ao : Option Addr} {o : List Bool} (h : Bools W ao o) (hb : Below W.heap.size W W') : Bools W' ao o := by
  rcases h with h | ⟨a, k, h1, h2, h3⟩
  · exact .inl h
  · exact .inr ⟨a, k, h1, Nat.lt_of_lt_of_le h2 hb.size, fun i b hi => (hb.cell (p := ⟨a, k + i, none⟩) h2).trans (h3 i b hi)⟩
def pieceO (ao : Option Addr) (lo cap : Nat) : Option Addr := if cap = lo then ao else ao.map (·.add (lo * 1))
theorem sliceO_first (ao : Option Addr) (n cap m : Nat) (hm : m ≤ cap) (W : World) : (Instr.slice 23 (.slice ao n cap) none (some (.int .i64 (m : Int))) none).run Tryd.prog W = .ok (.slice ao m cap) W := by
  have hs : (sizeOf (Tryd.prog.elem 23)).run Tryd.prog W = .ok 1 W := by kernel_rfl
  have h := run_slice_h (P := Tryd.prog) W 23 ao n cap (by kernel_rfl) .i64 (m : Int) (by omega) (by omega)
  rw [h, hs, Int.toNat_natCast]
  simp only [Result.andThen, sliced, Nat.sub_zero]
  cases ao with
  | none => simp
  | some a => simp [Addr.add]
theorem sliceO_last (ao : Option Addr) (n cap lo : Nat) (h1 : lo ≤ n) (W : World) : (Instr.slice 23 (.slice ao n cap) (some (.int .i64 (lo : Int))) none none).run Tryd.prog W = .ok (.slice (pieceO ao lo cap) (n - lo) (cap - lo)) W := by
  have hs : (sizeOf (Tryd.prog.elem 23)).run Tryd.prog W = .ok 1 W := by kernel_rfl
  have h := run_slice_l (P := Tryd.prog) W 23 ao n cap (by kernel_rfl) .i64 (lo : Int) (by omega) (by omega)
  rw [h, hs, Int.toNat_natCast]
  rfl
theorem sliceO_mid (ao : Option Addr) (n cap lo hi : Nat) (x y : Int) (hx : x = (lo : Int)) (hy : y = (hi : Int)) (h1 : lo ≤ hi) (h2 : hi ≤ cap) (W : World) : (Instr.slice 23 (.slice ao n cap) (some (.int .i64 x)) (some (.int .i64 y)) none).run Tryd.prog W = .ok (.slice (pieceO ao lo cap) (hi - lo) (cap - lo)) W := by
  subst hx hy
  have hs : (sizeOf (Tryd.prog.elem 23)).run Tryd.prog W = .ok 1 W := by kernel_rfl
  have h := run_slice_lh (P := Tryd.prog) W 23 ao n cap (by kernel_rfl) .i64 .i64 (lo : Int) (hi : Int) (by omega) (by omega) (by omega)
  rw [h, hs, Int.toNat_natCast, Int.toNat_natCast]
  rfl
theorem Bools.take {W : World} {ao : Option Addr} {l : List Bool} (h : Bools W ao l) (k : Nat) : Bools W ao (l.take k) := by
  rcases h with h | ⟨a, o, h1, h2, h3⟩
  · left; rw [h]; simp
  · exact .inr ⟨a, o, h1, h2, fun i x hx => h3 i x (by rw [List.getElem?_take] at hx; split at hx <;> simp_all)⟩
theorem Bools.drop {W : World} {ao : Option Addr} {l : List Bool} (h : Bools W ao l) (k cap : Nat) (hc : l.length ≤ cap) : Bools W (pieceO ao k cap) (l.drop k) := by
  unfold pieceO
  split
  · left; exact List.drop_of_length_le (by omega)
  · rcases h with h | ⟨a, o, h1, h2, h3⟩
    · left; rw [h]; simp
    · subst h1
      refine .inr ⟨a, o + k, ?_, h2, fun i x hx => ?_⟩
      · simp [Addr.add]
      · rw [List.getElem?_drop] at hx
        have := h3 _ x hx
        rw [show o + k + i = o + (k + i) by omega]
        exact this
/-- Where the first true one stands. -/
def idxO : List Bool → Nat → Int
  | [], _ => -1
  | true :: _, k => k
  | false :: o, k => idxO o (k + 1)
theorem idxO_drop : ∀ (o : List Bool) (i k : Nat), (∀ j, j < i → o[j]? = some false) → idxO (o.drop i) (k + i) = idxO o k
  | o, 0, k, h => by simp
  | [], i + 1, k, h => by have := h 0 (by omega); simp at this
  | b :: o, i + 1, k, h => by
    have h0 := h 0 (by omega)
    simp only [List.getElem?_cons_zero, Option.some.injEq] at h0
    subst h0
    show idxO (o.drop i) (k + (i + 1)) = idxO o (k + 1)
    rw [← idxO_drop o i (k + 1) (fun j hj => by have := h (j + 1) (by omega); simpa using this)]
    congr 1
    omega
theorem idxO_yes : ∀ (o : List Bool) (k : Nat), (0 ≤ idxO o k ↔ o.contains true = true) ∧ idxO o k < k + o.length + 1
  | [], k => by simp [idxO]; omega
  | true :: o, k => by simp [idxO]; omega
  | false :: o, k => by
    have := idxO_yes o (k + 1)
    simp only [idxO, List.length_cons]
    refine ⟨by rw [this.1]; simp, by omega⟩
set_option maxHeartbeats 1000000 in
theorem indexO_any (o : List Bool) (ao : Option Addr) (cap : Nat) (w : World) (ho : o.length ≤ 9223372036854775807) (hO : Bools w ao o) :
    Calls Tryd.prog 19 #[.slice ao o.length cap, .bool true] w fun e w' => e = .returned (.int .i64 (idxO o 0)) ∧ w = w' := by
  obtain ⟨n, hn⟩ : ∃ n, o.length = n := ⟨_, rfl⟩
  obtain ⟨X, hX⟩ : ∃ X, idxO o 0 = X := ⟨_, rfl⟩
  have HX := Lib.hid hX
  have HN := Lib.hid hn
  rw [hX, hn]
  rw [hn] at ho
  have nI : (n : Int) ≤ 9223372036854775807 := by omega
  have hget : ∀ i b, o[i]? = some b → ∃ a k, ao = some ⟨a, k, none⟩ ∧ w.cell? ⟨a, k + i, none⟩ = some (.bool b) := fun i b hi => by
    rcases hO with h | ⟨a, k, h1, h2, h3⟩
    · rw [h] at hi; simp at hi
    · exact ⟨a, k, h1, h3 i b hi⟩
  have HG := Lib.hid hget
  clear hX hn hO hget ho
  go_enter Tryd.func19, Tryd.ntmps19
  go_wp2_with fail
  go_loop [8] (fun ix => ∃ i : Nat, i ≤ n ∧ ix = .int .i64 i ∧ Hid (∀ j, j < i → o[j]? = some false)) (fun ix => n - (intOf ix).toNat)
  case atStart => exact ⟨0, Nat.zero_le _, rfl, Lib.hid (fun j hj => by omega)⟩
  case round =>
    obtain ⟨i, hi, rfl, hf⟩ := hrel
    by_cases hlt : i < n
    · have iI : (i : Int) < n := by omega
      obtain ⟨b, hb⟩ : ∃ b, o[i]? = some b := ⟨_, List.getElem?_eq_getElem (by rw [HN.out]; exact hlt)⟩
      obtain ⟨a, k, rfl, hc⟩ := HG.out i b hb
      have H1 := Lib.hid hlt
      cases b with
      | true =>
        have hXi : Hid (X = (i : Int)) := by
          show _ = _
          have h1 := idxO_drop o i 0 hf.out
          rw [HX.out] at h1
          rw [← h1, List.drop_eq_getElem_cons (by rw [HN.out]; exact hlt), (List.getElem?_eq_some_iff.1 hb).2]
          show ((0 + i : Nat) : Int) = _
          rw [Nat.zero_add]
        clear hb hlt hf
        go_wp2_with fail
        go_ret
        exact ⟨by rw [hXi.out]; rfl, rfl⟩
      | false =>
        have hn2 : Hid (∀ j, j < i + 1 → o[j]? = some false) := fun j hj => by
          rcases Nat.lt_or_ge j i with h | h
          · exact hf.out j h
          · obtain rfl : j = i := by omega
            exact hb
        clear hb hlt hf
        go_wp2_with fail
        go_round
        case rel => exact ⟨i + 1, H1.out, by go_num, hn2⟩
        case measure => have := H1.out; simp [intOf]; omega
    · have iI : ¬ (i : Int) < n := by omega
      have hXi : Hid (X = -1) := by
        show _ = _
        have h1 := idxO_drop o i 0 hf.out
        rw [HX.out] at h1
        rw [← h1, List.drop_of_length_le (by rw [HN.out]; omega)]
        rfl
      clear hlt hf
      go_wp2_with fail
      go_ret
      exact ⟨by rw [hXi.out]; rfl, rfl⟩
theorem containsO_any (o : List Bool) (ao : Option Addr) (cap : Nat) (w : World) (ho : o.length ≤ 9223372036854775807) (hO : Bools w ao o) :
    Calls Tryd.prog 9 #[.slice ao o.length cap, .bool true] w fun e w' => e = .returned (.bool (o.contains true)) ∧ w = w' := by
  have c := indexO_any o ao cap w ho hO
  have hy := (idxO_yes o 0).1
  have hb : Hid (decide (0 ≤ idxO o 0) = o.contains true) := by
    show _ = _
    cases h : o.contains true with
    | true => exact decide_eq_true (hy.2 h)
    | false => exact decide_eq_false (fun h1 => by rw [hy.1 h1] at h; cases h)
  generalize idxO o 0 = X at *
  generalize o.contains true = B at *
  generalize o.length = n at *
  clear hy hO ho
  go_enter Tryd.func9, Tryd.ntmps9
  go_wp2_with fail
  refine c.mono ?_
  rintro e w1 ⟨rfl, rfl⟩
  clear c
  go_wp2_with fail
  go_ret
  exact ⟨by rw [← hb.out]; rfl, rfl⟩
set_option maxHeartbeats 1000000 in
theorem count_any (o : List Bool) (ao : Option Addr) (cap : Nat) (w : World) (ho : o.length ≤ 9223372036854775807) (hO : Bools w ao o) :
    Calls Tryd.prog 24 #[.slice ao o.length cap] w fun e w' => e = .returned (.int .i64 (o.count true : Nat)) ∧ w = w' := by
  obtain ⟨n, hn⟩ : ∃ n, o.length = n := ⟨_, rfl⟩
  obtain ⟨X, hX⟩ : ∃ X, o.count true = X := ⟨_, rfl⟩
  have HX := Lib.hid hX
  have HN := Lib.hid hn
  rw [hX, hn]
  rw [hn] at ho
  have nI : (n : Int) ≤ 9223372036854775807 := by omega
  have hget : ∀ i b, o[i]? = some b → ∃ a k, ao = some ⟨a, k, none⟩ ∧ w.cell? ⟨a, k + i, none⟩ = some (.bool b) := fun i b hi => by
    rcases hO with h | ⟨a, k, h1, h2, h3⟩
    · rw [h] at hi; simp at hi
    · exact ⟨a, k, h1, h3 i b hi⟩
  have HG := Lib.hid hget
  clear hX hn hO hget ho
  go_enter Tryd.func24, Tryd.ntmps24
  go_wp2_with fail
  go_loop [3, 8] (fun cx ix => ∃ i c : Nat, i ≤ n ∧ ix = .int .i64 i ∧ cx = .int .i64 c ∧ c ≤ i ∧ Hid ((o.take i).count true = c)) (fun _ ix => n - (intOf ix).toNat)
  case atStart => exact ⟨0, 0, Nat.zero_le _, rfl, rfl, Nat.le_refl _, Lib.hid rfl⟩
  case round =>
    obtain ⟨i, c, hi, rfl, rfl, hci, hf⟩ := hrel
    by_cases hlt : i < n
    · have iI : (i : Int) < n := by omega
      have cI : (c : Int) ≤ i := by omega
      obtain ⟨b, hb⟩ : ∃ b, o[i]? = some b := ⟨_, List.getElem?_eq_getElem (by rw [HN.out]; exact hlt)⟩
      obtain ⟨a, k, rfl, hc⟩ := HG.out i b hb
      have H1 := Lib.hid hlt
      have H2 := Lib.hid hci
      have hn2 : Hid ((o.take (i + 1)).count true = c + (if b then 1 else 0)) := by
        show _ = _
        rw [List.take_succ_eq_append_getElem (by rw [HN.out]; exact hlt), List.count_append, hf.out, (List.getElem?_eq_some_iff.1 hb).2]
        cases b <;> rfl
      clear hb hlt hf hci
      cases b with
      | true =>
        go_wp2_with fail
        go_round
        case rel => exact ⟨i + 1, c + 1, H1.out, by go_num, by go_num, by have := H2.out; omega, hn2⟩
        case measure => have := H1.out; simp [intOf]; omega
      | false =>
        go_wp2_with fail
        go_round
        case rel => exact ⟨i + 1, c, H1.out, by go_num, rfl, by have := H2.out; omega, hn2⟩
        case measure => have := H1.out; simp [intOf]; omega
    · have iI : ¬ (i : Int) < n := by omega
      have hXi : Hid (X = c) := by
        show _ = _
        have h1 := hf.out
        rw [List.take_of_length_le (by rw [HN.out]; omega), HX.out] at h1
        exact h1
      clear hlt hf
      go_wp2_with fail
      go_ret
      exact ⟨by rw [hXi.out]; rfl, rfl⟩
/-- Bytes of the call's own as a row of single bytes. -/
theorem OwnB.rowU {w : World} {base : Nat} {v : Value} {l : List UInt8} (h : OwnB w base v l) : RowU w v l := by
  rcases h.2 with ⟨rfl, h0⟩ | ⟨g, cap, cur, rfl, h1, h2, h3, h4, h5, h6⟩
  · exact ⟨none, 0, by rw [h0], by omega, by omega, fun _ => rfl, .inl (List.eq_nil_of_length_eq_zero h0)⟩
  · refine ⟨_, cap, rfl, h3, by unfold maxLen at h4; omega, (fun h => by cases h), .inr ⟨g, cur, _, rfl, h2, fun j x hx => ?_⟩⟩
    have hj : j < l.length := (List.getElem?_eq_some_iff.1 hx).1
    have e : (cellsB l)[j]? = some (.int .u8 x.toNat) := by unfold cellsB; rw [List.getElem?_map, hx]; rfl
    rw [← h6, List.getElem?_take_of_lt (by omega)] at e
    simpa using e
set_option maxHeartbeats 1000000 in
theorem cloneB_any (l : List UInt8) (u : Value) (w : World) (hu : RowV w u l) (hl : l.length ≤ 140737488351232) :
    Calls Tryd.prog 20 #[u] w fun e w' => ∃ v, e = .returned v ∧ RowU w' v l ∧ Below w.heap.size w w' := by
  obtain ⟨ao, cap, rfl, hc, hq, hn, hB⟩ := hu
  cases ao with
  | none =>
    obtain rfl : cap = 0 := hn rfl
    obtain rfl : l = [] := List.eq_nil_of_length_eq_zero (by omega)
    have hz : RowU w (.slice none 0 0) [] := RowU.nil w
    have hnil : ∀ W, (binOp .eql 37 (.slice none 0 0) (.slice none 0 0)).run Tryd.prog W = .ok (.bool true) W := fun W => Lib.run_eql_slice_nil W _ _ none 0 0 0 0 Tryd.underlying37
    clear hc hq hn hB
    go_enter Tryd.func20, Tryd.ntmps20
    go_wp2_with fail
    go_ret
    exact ⟨_, rfl, hz, Below.refl _ _⟩
  | some p =>
    have hba : ∀ o, Below w.heap.size w (w.alloc o) := fun o => (Below.refl _ _).alloc (Nat.le_refl _) o
    have hnil : ∀ W n c, (binOp .eql 37 (.slice (some p) n c) (.slice none 0 0)).run Tryd.prog W = .ok (.bool false) W := fun W n c => Lib.run_eql_slice_nil W _ _ (some p) n c 0 0 Tryd.underlying37
    have ho : OwnB (w.alloc (.cells #[] 5)) w.heap.size (.slice (some ⟨w.heap.size, 0, none⟩) 0 0) [] := World.ownsRow_lit w #[] 0 (Nat.le_refl _) (by unfold maxLen; omega) rfl
    have hd2 : ∀ o, Bytes (w.alloc o) (some p) l := fun o => hB.keep (hba o)
    obtain ⟨n, hnn⟩ : ∃ n, l.length = n := ⟨_, rfl⟩
    have HL : Hid (([] : List UInt8).length + l.length ≤ 140737488351232) := by show _ ≤ _; simp; omega
    have HN := Lib.hid hnn
    rw [hnn]
    clear hnn hl hB hc hq
    go_enter Tryd.func20, Tryd.ntmps20
    go_wp2_with (first
      | (at_builtin; refine wpList_append_came rfl _ _ rfl w.heap.size _ _ rfl ho l (some p) cap (by rw [HN.out]; rfl) (hd2 _) (fun h => by cases h) HL.out (hba _).size ?_; intro v5 w5 ho5 hb5)
      | fail)
    go_ret
    exact ⟨_, rfl, ho5.rowU, (hba _).trans hb5⟩
end Go.Proofs.YtcnemacakjemjaaDoor
