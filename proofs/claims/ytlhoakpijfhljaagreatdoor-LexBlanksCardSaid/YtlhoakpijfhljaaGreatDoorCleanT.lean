/-
  CONTRACT of chirographkeep's clean at any bound; and where a text so made may be parted.
  CONDITIONS: each theorem's own hypotheses.
-/
import Derived.Test.YtlhoakpijfhljaaGreatDoorRawA
import Derived.Test.YtlhoakpijfhljaaGreatDoorStr0
namespace Go.Proofs.YtlhoakpijfhljaaGreatDoor
open Go.RowKit
set_option linter.unusedVariables false

def CleanTo (m : Nat) (w : World) (e : Ending) (w' : World) : Prop := ∃ (t : ByteArray) (rs : List Int), e = .returned (.string t) ∧ Hid (t.data.toList = rs.flatMap encL) ∧ t.size ≤ m ∧ Below w.heap.size w w'
set_option maxRecDepth 1000000 in
set_option maxHeartbeats 1000000 in
theorem cleanTo_any (s : ByteArray) (m : Nat) (M : Int) (hM : M = m) (hm : m ≤ 1000000) (w : World) : Calls Tryz.prog 14 #[.string s, .int .i64 M] w (CleanTo m w) := by
  have HMM := Lib.hid hM
  have hM1 : M ≤ 1000000 := by omega
  have hM0 : 0 ≤ M := by omega
  clear hM
  go_enter Tryz.func14, Tryz.ntmps14
  go_wp2
  go_loopw [5] (fun o wr => ∃ (pos : Nat) (rs : List Int) (out : ByteArray), wr = w.iter s pos ∧ o = .string out ∧ Hid (out.data.toList = rs.flatMap encL) ∧ out.size ≤ m) (fun _ wr => s.size - wr.iterPos w.heap.size)
  case atStart => exact ⟨0, [], _, rfl, rfl, rfl, Nat.zero_le _⟩
  case round =>
    obtain ⟨pos, rs, out, rfl, rfl, ho, hs⟩ := hrel
    by_cases hp : pos < s.size
    · have hnx : ∀ ty, (Instr.next (.pointer (some ⟨w.heap.size, 0, none⟩)) true ty).run Tryz.prog (w.iter s pos) = _ := fun ty => run_next_any w s pos ty hp
      have hwd := width_pos' s pos hp
      generalize (Utf8.decode s pos).1 = r at hnx
      generalize (Utf8.decode s pos).2 = d at hnx hwd
      have hE4 := encL_size r
      unfold encL at hE4
      rw [← Lib.size_eq] at hE4
      have hOE : Hid ((out ++ Utf8.encode r).data.toList = (rs ++ [(r : Int)]).flatMap encL) := by
        show _ = _
        rw [List.flatMap_append, ← ho.out]
        simp [encL]
      obtain ⟨E, hE⟩ : ∃ E, Utf8.encode r = E := ⟨_, rfl⟩
      rw [hE] at hE4 hOE
      by_cases hl : out.size + 4 ≤ m
      · have hl1 : (out.size : Int) + 4 ≤ M := by have := HMM.out; omega
        have HL := Lib.hid hl
        clear hl
        go_wp2
        go_roundw
        case rel => exact ⟨pos + d, rs ++ [(r : Int)], out ++ E, rfl, rfl, hOE, by have := HL.out; simp; omega⟩
        case measure => simp; omega
      · have hl1 : M < (out.size : Int) + 4 := by have := HMM.out; omega
        clear hl
        go_wp2
        go_ret
        exact ⟨out, rs, rfl, ho, hs, below_iter w s _⟩
    · have hnx : ∀ ty, (Instr.next (.pointer (some ⟨w.heap.size, 0, none⟩)) true ty).run Tryz.prog (w.iter s pos) = _ := fun ty => run_next_end w s pos ty hp
      go_wp2
      go_ret
      exact ⟨out, rs, rfl, ho, hs, below_iter w s pos⟩

/-! ### where such a text may be parted -/
def contB (c : UInt8) : Bool := decide (128 ≤ c.toNat) && decide (c.toNat < 192)
theorem enc_pos (r : Int) : 1 ≤ (encL r).length := by
  obtain ⟨c, hc, he⟩ := encL_cases r
  rw [he]; repeat' split
  all_goals simp
theorem enc_cont (r : Int) (j : Nat) (x : UInt8) (h0 : 0 < j) (hx : (encL r)[j]? = some x) : contB x = true := by
  obtain ⟨c, hc, he⟩ := encL_cases r
  rw [he] at hx
  have key : ∀ m : Nat, m < 64 → contB (UInt8.ofNat (128 + m)) = true := by
    intro m hm
    unfold contB
    rw [ofNat_toNat (128 + m) (by omega)]
    simp; omega
  split at hx
  · rcases j with _ | j
    · omega
    · simp at hx
  · split at hx
    · rcases j with _ | _ | j
      · omega
      · simp only [Nat.zero_add, List.getElem?_cons_succ, List.getElem?_cons_zero, Option.some.injEq] at hx
        rw [← hx]; exact key _ (by omega)
      · simp at hx
    · split at hx
      · rcases j with _ | _ | _ | j
        · omega
        · simp only [Nat.zero_add, List.getElem?_cons_succ, List.getElem?_cons_zero, Option.some.injEq] at hx
          rw [← hx]; exact key _ (by omega)
        · simp only [Nat.zero_add, List.getElem?_cons_succ, List.getElem?_cons_zero, Option.some.injEq] at hx
          rw [← hx]; exact key _ (by omega)
        · simp at hx
      · rcases j with _ | _ | _ | _ | j
        · omega
        · simp only [Nat.zero_add, List.getElem?_cons_succ, List.getElem?_cons_zero, Option.some.injEq] at hx
          rw [← hx]; exact key _ (by omega)
        · simp only [Nat.zero_add, List.getElem?_cons_succ, List.getElem?_cons_zero, Option.some.injEq] at hx
          rw [← hx]; exact key _ (by omega)
        · simp only [Nat.zero_add, List.getElem?_cons_succ, List.getElem?_cons_zero, Option.some.injEq] at hx
          rw [← hx]; exact key _ (by omega)
        · simp at hx
theorem flat_part : ∀ (rs : List Int) (k : Nat), k ≤ (rs.flatMap encL).length → (k = 0 ∨ ∀ x : UInt8, (rs.flatMap encL)[k]? = some x → contB x = false) → ∃ (a b : List Int), (rs.flatMap encL).take k = a.flatMap encL ∧ (rs.flatMap encL).drop k = b.flatMap encL
  | [], k, h, _ => ⟨[], [], by simp, by simp⟩
  | r :: rs, k, h, hk => by
    rcases Nat.eq_zero_or_pos k with rfl | h0
    · exact ⟨[], r :: rs, by simp, by simp⟩
    · rw [List.flatMap_cons] at h hk ⊢
      rw [List.length_append] at h
      by_cases hlt : k < (encL r).length
      · exfalso
        have hx : (encL r ++ rs.flatMap encL)[k]? = some (encL r)[k] := by rw [List.getElem?_append_left hlt]; exact List.getElem?_eq_getElem hlt
        have h1 := enc_cont r k _ h0 (List.getElem?_eq_getElem hlt)
        rcases hk with hk | hk
        · omega
        · rw [hk _ hx] at h1; cases h1
      · obtain ⟨a, b, e1, e2⟩ := flat_part rs (k - (encL r).length) (by omega) (by
          rcases Nat.eq_zero_or_pos (k - (encL r).length) with hz | hz
          · exact .inl hz
          · right
            intro x hx
            rcases hk with hk | hk
            · omega
            · exact hk x (by rw [List.getElem?_append_right (by omega)]; exact hx))
        refine ⟨r :: a, b, ?_, ?_⟩
        · rw [List.take_append, List.take_of_length_le (by omega), e1, List.flatMap_cons]
        · rw [List.drop_append, List.drop_of_length_le (by omega), List.nil_append, e2]
theorem flat_valid_app : ∀ (rs : List Int) (t : List UInt8), Lib.validD (rs.flatMap encL ++ t) = Lib.validD t
  | [], t => rfl
  | r :: rs, t => by rw [List.flatMap_cons, List.append_assoc, enc_valid]; exact flat_valid_app rs t
theorem valid_mark (t : List UInt8) : Lib.validD (39 :: t) = Lib.validD t := by
  have e : encL 39 = [39] := by decide +kernel
  have := enc_valid 39 t
  rw [e] at this; exact this
/-- A text with two marks put in where it may be parted. -/
theorem marked (rs : List Int) (k : Nat) (hk : k ≤ (rs.flatMap encL).length) (hp : k = 0 ∨ ∀ x : UInt8, (rs.flatMap encL)[k]? = some x → contB x = false) (t : List UInt8) (ht : t = (rs.flatMap encL).take k ++ [39, 39] ++ (rs.flatMap encL).drop k) :
    Lib.validD t = true ∧ Lib.validD (t ++ [195]) = false ∧ t.length = (rs.flatMap encL).length + 2 := by
  obtain ⟨a, b, e1, e2⟩ := flat_part rs k hk hp
  have e : ∀ z, t ++ z = a.flatMap encL ++ (39 :: 39 :: (b.flatMap encL ++ z)) := by
    intro z; rw [ht, e1, e2]; simp
  refine ⟨?_, ?_, ?_⟩
  · have := e []
    rw [List.append_nil] at this
    rw [this, flat_valid_app, valid_mark, valid_mark, flat_valid_app]; rfl
  · rw [e, flat_valid_app, valid_mark, valid_mark, flat_valid_app]; decide +kernel
  · rw [ht]; simp; omega
end Go.Proofs.YtlhoakpijfhljaaGreatDoor
