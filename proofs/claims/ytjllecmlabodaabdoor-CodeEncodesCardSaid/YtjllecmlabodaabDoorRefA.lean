/-
  CONTRACTS of the reference's small functions that read bytes: downs, number, flipped.
  CONDITIONS: each theorem's own hypotheses.
-/
import Derived.Test.YtjllecmlabodaabDoorCodeI
import Derived.Lib.PathFns
import Derived.Laws.Strings2
import Derived.Laws.Strings3
namespace Go.Proofs.YtjllecmlabodaabDoor
open Go.RowKit CodeMath
set_option linter.unusedVariables false

/-- A string of these bytes. -/
def str (l : List UInt8) : ByteArray := ⟨l.toArray⟩
theorem str_data (l : List UInt8) : (str l).data.toList = l := rfl
theorem str_size (l : List UInt8) : (str l).size = l.length := by simp [str, ByteArray.size]
theorem str_toList (l : List UInt8) : (str l).toList = l := by rw [Lib.toList_data]; rfl
theorem str_eq (s : ByteArray) : s = str s.data.toList := by cases s; simp [str]
theorem str_get (l : List UInt8) (j : Nat) (h : j < (str l).size) : (str l)[j] = l[j]'(by rw [str_size] at h; exact h) := rfl
theorem str_extract (l : List UInt8) (i j : Nat) (h : i ≤ j) : (str l).extract i j = str ((l.drop i).take (j - i)) := by
  apply bytes_eq
  show ((str l).extract i j).data.toList = _
  rw [str_data, ByteArray.data_extract, Array.toList_extract]
  simp [str, List.extract]
theorem str_append (l m : List UInt8) : str l ++ str m = str (l ++ m) := by
  apply bytes_eq
  simp [str]

/-- s[i:j], a cut of a string. -/
theorem cut_str (l : List UInt8) (i j : Nat) (x y : Int) (hx : x = i) (hy : y = j) (h1 : i ≤ j) (h2 : j ≤ l.length) (w : World) :
    (Instr.slice 9 (.string (str l)) (some (.int .i64 x)) (some (.int .i64 y)) none).run Tryd.prog w = .ok (.string (str ((l.drop i).take (j - i)))) w := by
  subst hx hy
  have h := run_slice_string (P := Tryd.prog) w 9 (str l) .i64 .i64 (i : Int) (j : Int) Tryd.underlying9 (by omega) (by omega) (by rw [str_size]; omega)
  rw [h, Int.toNat_natCast, Int.toNat_natCast, str_extract l i j h1]
theorem downs_bool (down : Int) (i : Nat) (p : Int) (hp : p = 2 ^ i) (hi : i ≤ 8) : (bits .and .i64 down p != 0) = dn down i := by
  subst hp
  rw [and_pow down i hi]
  unfold dn
  have : (2 : Int) ^ i ≠ 0 := by have : (0 : Int) < 2 ^ i := Int.pow_pos (by decide); omega
  split
  · rename_i h; rw [decide_eq_true h]; simpa using this
  · rename_i h; rw [decide_eq_false h]; rfl
theorem downs_any (down : Int) (i : Nat) (hi : i ≤ 5) (w : World) :
    Calls Tryd.prog 28 #[.int .i64 down, .int .i64 i] w fun e w' => e = .returned (.bool (dn down i)) ∧ w = w' := by
  have h0 := Lib.hid (downs_bool down 0 1 rfl (by decide))
  have h1 := Lib.hid (downs_bool down 1 2 rfl (by decide))
  have h2 := Lib.hid (downs_bool down 2 4 rfl (by decide))
  have h3 := Lib.hid (downs_bool down 3 8 rfl (by decide))
  have h4 := Lib.hid (downs_bool down 4 16 rfl (by decide))
  have h5 := Lib.hid (downs_bool down 5 32 rfl (by decide))
  rcases (show i = 0 ∨ i = 1 ∨ i = 2 ∨ i = 3 ∨ i = 4 ∨ i = 5 by omega) with rfl | rfl | rfl | rfl | rfl | rfl
  all_goals
    go_enter Tryd.func28, Tryd.ntmps28
    go_wp2
    go_ret
    exact ⟨rb (by first | exact h0.out | exact h1.out | exact h2.out | exact h3.out | exact h4.out | exact h5.out), rfl⟩

set_option maxRecDepth 100000 in
set_option maxHeartbeats 1000000 in
theorem number_any (l : List UInt8) (w : World) (h8 : l.length ≤ 8) :
    Calls Tryd.prog 51 #[.string (str l)] w fun e w' => e = .returned (.int .u64 (num l 0)) ∧ w = w' := by
  have hsz := str_size l
  obtain ⟨s, hs⟩ : ∃ s, str l = s := ⟨_, rfl⟩
  rw [hs] at hsz ⊢
  obtain ⟨n, hn⟩ : ∃ n, l.length = n := ⟨_, rfl⟩
  rw [hn] at hsz h8
  have hget : ∀ j (h : j < s.size) (h' : j < l.length), s[j] = l[j] := by subst hs; exact fun j h h' => rfl
  have HSZ := Lib.hid hsz
  have HN := Lib.hid hn
  clear hs hsz hn
  go_enter Tryd.func51, Tryd.ntmps51
  go_wp2
  go_loopw [3, 4] (fun x i wr => ∃ t : Nat, t ≤ n ∧ i = .int .i64 t ∧ x = .int .u64 (num (l.take t) 0) ∧ wr = w) (fun _ i _ => n - (intOf i).toNat)
  case atStart => exact ⟨0, Nat.zero_le _, rfl, rfl, rfl⟩
  case round =>
    obtain ⟨t, ht, rfl, rfl, rfl⟩ := hrel
    by_cases h1 : t < n
    · have hts : t < s.size := by rw [HSZ.out]; exact h1
      have htl : t < l.length := by rw [HN.out]; exact h1
      have hg := hget t hts htl
      have hnt := num_take l t l[t] (l.drop (t + 1)) (List.drop_eq_getElem_cons htl)
      rw [← hg] at hnt
      have HNT := Lib.hid hnt
      have hn7 := num7 l t (by omega)
      have hc := byte_lt s[t]
      obtain ⟨N, hN⟩ : ∃ N, num (l.take t) 0 = N := ⟨_, rfl⟩
      obtain ⟨N2, hN2⟩ : ∃ N2, num (l.take (t + 1)) 0 = N2 := ⟨_, rfl⟩
      rw [hN] at HNT hn7 ⊢
      rw [hN2] at HNT
      have hn0 := hn7.1
      have hn1 : N ≤ 72057594037927935 := by have := hn7.2; unfold two56 at this; omega
      have HN2 := Lib.hid hN2
      clear hN hN2 hn7 hnt hg hget htl
      go_wp2
      go_roundw
      case rel => exact ⟨t + 1, by omega, by go_num, by rw [HN2.out, HNT.out], by first | rfl | trivial⟩
      case measure => simp [intOf]; omega
    · have hge : ¬ t < s.size := by rw [HSZ.out]; exact h1
      have hl : l.take t = l := List.take_of_length_le (by rw [HN.out]; omega)
      rw [hl]
      clear hget hl
      go_wp2
      go_ret
      exact ⟨rfl, by first | rfl | trivial⟩

set_option maxRecDepth 100000 in
set_option maxHeartbeats 2000000 in
theorem flipped_any (l : List UInt8) (w : World) (hl : l.length ≤ 9223372036854775807) :
    Calls Tryd.prog 29 #[.string (str l)] w fun e w' => e = .returned (.string (str (turnL true l))) ∧ Below w.heap.size w w' := by
  have hcv := run_bytes_of_string (P := Tryd.prog) w 9 23 5 (str l) Tryd.underlying9 Tryd.underlying23 Tryd.underlying5
  have hsz := str_size l
  generalize hcap : grownCap w (str l).size 0 5 = cap at hcv
  have hcell0 : ∀ j x, l[j]? = some x → (w.drew.alloc (.cells (bytesRow (str l) cap) 5 ((bytesRow (str l) cap).size, (bytesRow (str l) cap).size + 1))).cell? ⟨w.heap.size, j, none⟩ = some (.int .u8 x.toNat) := fun j x hx => by
    have hj : j < l.length := (List.getElem?_eq_some_iff.1 hx).1
    have h := World.cell?_alloc_mark w.drew (bytesRow (str l) cap) 5 ((bytesRow (str l) cap).size, (bytesRow (str l) cap).size + 1) j
    have e : w.drew.heap.size = w.heap.size := rfl
    rw [e] at h
    rw [h, bytesRow_at (str l) cap j (by show j < (str l).size; rw [hsz]; exact hj)]
    have : (str l).data[j]'(by show j < (str l).size; rw [hsz]; exact hj) = x := by
      have := (List.getElem?_eq_some_iff.1 hx).2
      rw [← this]; rfl
    rw [this]
  have hfr0 : ∀ j, j < l.length → (w.drew.alloc (.cells (bytesRow (str l) cap) 5 ((bytesRow (str l) cap).size, (bytesRow (str l) cap).size + 1))).frozen? ⟨w.heap.size, j, none⟩ = false := fun j hj => by
    have h := World.frozen?_alloc_mark w.drew (bytesRow (str l) cap) 5 (bytesRow (str l) cap).size ((bytesRow (str l) cap).size + 1) j
    have e : w.drew.heap.size = w.heap.size := rfl
    rw [e] at h
    have hb : j < (bytesRow (str l) cap).size := by
      unfold bytesRow
      have : (str l).data.size = l.length := hsz
      simp [this]; omega
    rw [h]
    simp; omega
  have hbw0 : Below w.heap.size w (w.drew.alloc (.cells (bytesRow (str l) cap) 5 ((bytesRow (str l) cap).size, (bytesRow (str l) cap).size + 1))) := (Below.refl w.heap.size w).drew.alloc (Nat.le_refl _) _
  generalize w.drew.alloc (.cells (bytesRow (str l) cap) 5 ((bytesRow (str l) cap).size, (bytesRow (str l) cap).size + 1)) = W1 at hcv hcell0 hfr0 hbw0
  obtain ⟨n, hn⟩ : ∃ n, l.length = n := ⟨_, rfl⟩
  rw [hsz, hn] at hcv
  rw [hn] at hfr0 hl
  have HN := Lib.hid hn
  have HC := Lib.hid hcell0
  have HF := Lib.hid hfr0
  obtain ⟨s, hs⟩ : ∃ s, str l = s := ⟨_, rfl⟩
  rw [hs] at hcv ⊢
  obtain ⟨g, hg⟩ : ∃ g, w.heap.size = g := ⟨_, rfl⟩
  rw [hg] at hcv hbw0 ⊢
  have HG := Lib.hid hg
  clear hn hs hg hcap hsz hcell0 hfr0
  go_enter Tryd.func29, Tryd.ntmps29
  go_wp2
  go_loopw [9] (fun i wr => ∃ k : Nat, k ≤ n ∧ i = .int .i64 k ∧ Hid (∀ j x, (turnL true (l.take k) ++ l.drop k)[j]? = some x → wr.cell? ⟨g, j, none⟩ = some (.int .u8 x.toNat)) ∧ Hid (∀ j, j < n → wr.frozen? ⟨g, j, none⟩ = false) ∧ Below g w wr) (fun i _ => n - (intOf i).toNat)
  case atStart => exact ⟨0, Nat.zero_le _, rfl, (by
      show ∀ j x, _
      have h1 := HC.out
      rw [HG.out] at h1
      simpa [turnL] using h1), (by have := HF.out; rw [HG.out] at this; exact this), hbw0⟩
  case round =>
    obtain ⟨k, hk, rfl, hc, hf, hbw⟩ := hrel
    by_cases h1 : k < n
    · have hkl : k < l.length := by rw [HN.out]; exact h1
      have hmid : (turnL true (l.take k) ++ l.drop k)[k]? = some l[k] := by
        rw [List.getElem?_append_right (by rw [turnL_length, List.length_take]; omega), turnL_length, List.length_take, List.getElem?_drop]
        rw [show k + (k - min k l.length) = k by omega, List.getElem?_eq_getElem hkl]
      have hck := hc.out k _ hmid
      have hfk := hf.out k h1
      have hnew : Hid (∀ j x, (turnL true (l.take (k + 1)) ++ l.drop (k + 1))[j]? = some x → (wr.setCell ⟨g, k, none⟩ (.int .u8 (255 - (l[k].toNat : Int)))).cell? ⟨g, j, none⟩ = some (.int .u8 x.toNat)) := by
        intro j x hx
        rw [List.take_succ_eq_append_getElem hkl, turnL_append] at hx
        by_cases hjk : j = k
        · subst hjk
          rw [List.append_assoc, List.getElem?_append_right (by rw [turnL_length, List.length_take]; omega), turnL_length, List.length_take, show j - min j l.length = 0 by omega] at hx
          simp only [turnL, List.map_cons, List.map_nil, List.cons_append, List.nil_append, List.getElem?_cons_zero, Option.some.injEq] at hx
          rw [World.cell?_setCell_same' _ _ _ (by rw [hck]; rfl), ← hx]
          show some (Value.int .u8 (255 - (l[j].toNat : Int))) = some (.int .u8 ((turnB true l[j]).toNat : Int))
          have := byte_lt l[j]
          have e := sub255 l[j]
          simp only [turnB, if_true]
          rw [e]
          congr 2
          omega
        · have hold : (turnL true (l.take k) ++ l.drop k)[j]? = some x := by
            rcases Nat.lt_or_ge j k with h | h
            · rw [List.append_assoc, List.getElem?_append_left (by rw [turnL_length, List.length_take]; omega)] at hx
              rw [List.getElem?_append_left (by rw [turnL_length, List.length_take]; omega)]
              exact hx
            · rw [List.append_assoc, List.getElem?_append_right (by rw [turnL_length, List.length_take]; omega), List.getElem?_append_right (by simp [turnL]; omega)] at hx
              rw [List.getElem?_append_right (by rw [turnL_length, List.length_take]; omega)]
              rw [List.getElem?_drop] at hx ⊢
              rw [← hx]
              congr 1
              simp [turnL]
              omega
          rw [World.cell?_setCell_other _ _ _ _ (by intro e; simp only [Addr.mk.injEq] at e; omega)]
          exact hc.out j x hold
      have hx := byte_lt l[k]
      generalize l[k] = x at hck hnew hx
      have hgg : g ≤ (⟨g, k, none⟩ : Addr).block := Nat.le_refl _
      clear hmid hc hcv
      go_wp2
      go_roundw
      case rel => exact ⟨k + 1, by omega, by go_num, hnew, (by
        show ∀ j, j < n → _
        intro j hj
        have := hf.out j hj
        rw [World.frozen?_setCell]
        exact this), hbw.setCell hgg _⟩
      case measure => simp [intOf]; omega
    · have hkn : k = n := by omega
      have hc' := hc.out
      rw [hkn, List.take_of_length_le (by rw [HN.out]; omega), List.drop_of_length_le (by rw [HN.out]; omega), List.append_nil] at hc'
      have hback := run_convert_bytes_back (P := Tryd.prog) wr 23 9 5 ⟨g, 0, none⟩ cap (turnL true l) Tryd.underlying23 Tryd.underlying5 Tryd.underlying9 (fun j hj => by
        have e : (⟨g, 0, none⟩ : Addr).add j = ⟨g, j, none⟩ := by unfold Addr.add; split <;> simp_all
        rw [e]
        exact hc' j _ (List.getElem?_eq_getElem hj))
      rw [turnL_length, HN.out] at hback
      have hstr : (⟨(turnL true l).toArray⟩ : ByteArray) = str (turnL true l) := rfl
      rw [hstr] at hback
      obtain ⟨S, hS⟩ : ∃ S, str (turnL true l) = S := ⟨_, rfl⟩
      rw [hS] at hback
      have HS := Lib.hid hS
      clear hc hc' hkn hcv hstr hS
      go_wp2
      go_ret
      exact ⟨by rw [HS.out]; rfl, hbw⟩
end Go.Proofs.YtjllecmlabodaabDoor
