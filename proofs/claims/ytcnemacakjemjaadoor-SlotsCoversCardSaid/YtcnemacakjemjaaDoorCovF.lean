/-
  CONTRACTS of the reference's rests, uncovered.
  CONDITIONS: each theorem's own hypotheses.
-/
import Derived.Test.YtcnemacakjemjaaDoorCovE
namespace Go.Proofs.YtcnemacakjemjaaDoor
open Go.RowKit CodeMath Go.Proofs.YtcnemacakjemjaaDoor.FrameMath
set_option linter.unusedVariables false
set_option maxRecDepth 100000

abbrev OptB := Option (List UInt8)
theorem sliceL_headZ (ap : Option Addr) (n cap k : Nat) (hk : k ≤ cap) (W : World) : (Instr.slice 24 (.slice ap n cap) none (some (.int .i64 (k : Int))) none).run Tryd.prog W = .ok (.slice ap k cap) W := by
  have hs : (sizeOf (Tryd.prog.elem 24)).run Tryd.prog W = .ok 1 W := by kernel_rfl
  have h := run_slice_h (P := Tryd.prog) W 24 ap n cap (by kernel_rfl) .i64 (k : Int) (by omega) (by omega)
  rw [h, hs, Int.toNat_natCast]
  simp only [Result.andThen, sliced, Nat.sub_zero]
  cases ap with
  | none => simp
  | some a => simp [Addr.add]
def pieceL (ap : Option Addr) (k cap : Nat) : Option Addr := if cap = k then ap else ap.map (·.add (k * 1))
theorem sliceL_tailZ (ap : Option Addr) (n cap k : Nat) (hk : k ≤ n) (W : World) : (Instr.slice 24 (.slice ap n cap) (some (.int .i64 (k : Int))) none none).run Tryd.prog W = .ok (.slice (pieceL ap k cap) (n - k) (cap - k)) W := by
  have hs : (sizeOf (Tryd.prog.elem 24)).run Tryd.prog W = .ok 1 W := by kernel_rfl
  have h := run_slice_l (P := Tryd.prog) W 24 ap n cap (by kernel_rfl) .i64 (k : Int) (by omega) (by omega)
  rw [h, hs, Int.toNat_natCast]
  rfl
theorem linesTake {w : World} {ap : Option Addr} {rows : List (List UInt8)} (h : Lines w ap rows) (k : Nat) : Lines w ap (rows.take k) := by
  rcases h with h | ⟨a, o, h1, h2, h3⟩
  · left; rw [h]; simp
  · exact .inr ⟨a, o, h1, h2, fun i x hx => h3 i x (by rw [List.getElem?_take] at hx; split at hx <;> simp_all)⟩
theorem linesDrop {w : World} {ap : Option Addr} {rows : List (List UInt8)} (h : Lines w ap rows) (k cap : Nat) (hc : rows.length ≤ cap) : Lines w (pieceL ap k cap) (rows.drop k) := by
  unfold pieceL
  split
  · left; exact List.drop_of_length_le (by omega)
  · rcases h with h | ⟨a, o, h1, h2, h3⟩
    · left; rw [h]; simp
    · subst h1
      refine .inr ⟨a, o + k * 1, ?_, h2, fun i x hx => ?_⟩
      · by_cases hk : k = 0
        · subst hk; rfl
        · simp [Addr.add, hk]
      · rw [List.getElem?_drop] at hx
        have := h3 _ x hx
        rw [show o + k * 1 + i = o + (k + i) by omega]
        exact this
theorem resN_small : ∀ (h : Nat) (o : List Bool), resN h o ≤ 2 ^ h
  | 0, o => by unfold resN; split <;> simp
  | h + 1, o => by
    unfold resN
    split
    · have h1 := resN_small h (o.take (2 ^ h))
      have h2 := resN_small h (o.drop (2 ^ h))
      rw [Nat.pow_succ]; omega
    · exact Nat.pow_pos (by decide)
def CallU (X : Option (List UInt8)) (v : Value) (w : World) : Prop := match X with
  | none => ∃ u : Value, v = .tuple #[u, .bool false]
  | some x => ∃ u, v = .tuple #[u, .bool true] ∧ RowV w u x
def HeadU (X : Option (List UInt8)) (v : Value) (w : World) : Prop := match X with
  | none => True
  | some x => RowV w v x
def FlagU (X : Option (List UInt8)) (v : Value) : Prop := match X with
  | none => v = .bool false
  | some x => v = .bool true
theorem callU_keep {X : Option (List UInt8)} {v : Value} {w w' : World} (h : CallU X v w) (hb : Below w.heap.size w w') : CallU X v w' := by
  cases X with
  | none => exact h
  | some x => obtain ⟨u, h1, h2⟩ := h; exact ⟨u, h1, h2.keep hb⟩
theorem headU_keep {X : Option (List UInt8)} {v : Value} {w w' : World} (h : HeadU X v w) (hb : Below w.heap.size w w') : HeadU X v w' := by
  cases X with
  | none => exact trivial
  | some x => exact RowV.keep h hb
def UncPost (X : Option (List UInt8)) (w : World) (e : Ending) (w' : World) : Prop := (match X with
  | none => ∃ v, e = .returned (.tuple #[v, .bool false])
  | some x => ∃ v, e = .returned (.tuple #[v, .bool true]) ∧ RowV w' v x) ∧ Below w.heap.size w w'
theorem uncR_none (m : Int) (h : Nat) (o : List Bool) (S : List Sl) (R : List (List UInt8)) (hc : o.contains true = false) : uncR m h o S R = R.head? := by
  cases h with
  | zero => unfold uncR; rw [hc]; rfl
  | succ h => unfold uncR; rw [hc]; rfl
def joinU (m : Int) (X1 X2 : Option (List UInt8)) : Option (List UInt8) := match X1 with
  | none => none
  | some a => match X2 with
    | none => none
    | some b => match digR m 2 [a, b] with
      | .err _ => none
      | .ok x => some x
theorem unc_join (m : Int) (X1 X2 : Option (List UInt8)) : (if true = true then (match X1 with
      | none => none
      | some a => match X2 with
        | none => none
        | some b => match digR m 2 [a, b] with
          | .err _ => none
          | .ok x => some x)
    else (none : Option (List UInt8))) = joinU m X1 X2 := rfl
theorem joinU_right (m : Int) (X1 : Option (List UInt8)) : joinU m X1 none = none := by cases X1 <;> rfl
theorem joinU_err {m : Int} {a b : List UInt8} {c : Int} (h : digR m 2 [a, b] = .err c) : joinU m (some a) (some b) = none := by simp only [joinU, h]
theorem joinU_ok {m : Int} {a b x : List UInt8} (h : digR m 2 [a, b] = .ok x) : joinU m (some a) (some b) = some x := by simp only [joinU, h]
theorem uncR_len (m : Int) : ∀ (h : Nat) (o : List Bool) (S : List Sl) (R : List (List UInt8)) (B : Nat), 16777300 ≤ B → (∀ r ∈ R, r.length ≤ B) → ∀ x, uncR m h o S R = some x → x.length ≤ B
  | h, o, S, R, B, hB, hR, x, he => by
    cases hc : o.contains true with
    | false =>
      rw [uncR_none m h o S R hc] at he
      cases R with
      | nil => cases he
      | cons r R => cases he; exact hR _ (by simp)
    | true =>
      cases h with
      | zero =>
        unfold uncR at he
        rw [hc] at he
        simp only [if_true] at he
        cases S with
        | nil => cases he
        | cons s S =>
          simp only at he
          cases hl : leafR m s.f s.s s.d with
          | err e => rw [hl] at he; cases he
          | ok b =>
            rw [hl] at he
            cases he
            have := leafR_length _ _ _ _ _ hl; omega
      | succ h =>
        have e : uncR m (h + 1) o S R = joinU m (uncR m h (o.take (2 ^ h)) (S.take ((o.take (2 ^ h)).count true)) (R.take (resN h (o.take (2 ^ h))))) (uncR m h (o.drop (2 ^ h)) (S.drop ((o.take (2 ^ h)).count true)) (R.drop (resN h (o.take (2 ^ h))))) := by
          show (if o.contains true then _ else _) = _
          rw [hc]
          exact unc_join m _ _
        rw [e] at he
        generalize uncR m h (o.take (2 ^ h)) (S.take ((o.take (2 ^ h)).count true)) (R.take (resN h (o.take (2 ^ h)))) = X1 at he
        generalize uncR m h (o.drop (2 ^ h)) (S.drop ((o.take (2 ^ h)).count true)) (R.drop (resN h (o.take (2 ^ h)))) = X2 at he
        cases X1 with
        | none => cases he
        | some a =>
          cases X2 with
          | none => cases he
          | some b =>
            cases hd : digR m 2 [a, b] with
            | err c => rw [joinU_err hd] at he; cases he
            | ok y => rw [joinU_ok hd] at he; cases he; have := digR_len hd; omega
def UncF (m : Int) (g n k co : Nat) (ao : Option Addr) (sl cS rl cR n1 n2 : Nat) (aS aR ao2 : Option Addr) (co2 : Nat) (aS2 : Option Addr) (nS2 cS2 : Nat) (aR2 : Option Addr) (nR2 cR2 : Nat) (X : OptB) : Nat → Value → World → Prop
  | 0, v, _ => v = .int .i64 m
  | 1, v, _ => v = .slice ao n co
  | 2, v, _ => v = .int .i64 (k : Int)
  | 3, v, _ => v = .slice ao2 k co2
  | 4, v, _ => v = .pointer (some ⟨g, 0, none⟩)
  | 5, v, _ => v = .slice aS sl cS
  | 6, v, _ => v = .int .i64 (n1 : Int)
  | 7, v, _ => v = .slice aS2 nS2 cS2
  | 8, v, _ => v = .pointer (some ⟨g, 1, none⟩)
  | 9, v, _ => v = .slice aR rl cR
  | 10, v, _ => v = .int .i64 (n2 : Int)
  | 11, v, _ => v = .slice aR2 nR2 cR2
  | 12, v, _ => v = .agg #[.slice aS2 nS2 cS2, .slice aR2 nR2 cR2]
  | 13, v, w => CallU X v w
  | 14, v, w => CallU X v w
  | 15, v, w => HeadU X v w
  | 16, v, w => FlagU X v
  | 17, v, w => HeadU X v w
  | _, _, _ => True
theorem uncF_keep {m : Int} {g n k co : Nat} {ao : Option Addr} {sl cS rl cR n1 n2 : Nat} {aS aR ao2 : Option Addr} {co2 : Nat} {aS2 : Option Addr} {nS2 cS2 : Nat} {aR2 : Option Addr} {nR2 cR2 : Nat} {X : OptB} (i : Nat) (v : Value) (w w' : World) (h : UncF m g n k co ao sl cS rl cR n1 n2 aS aR ao2 co2 aS2 nS2 cS2 aR2 nR2 cR2 X i v w) (he : Below w.heap.size w w') : UncF m g n k co ao sl cS rl cR n1 n2 aS aR ao2 co2 aS2 nS2 cS2 aR2 nR2 cR2 X i v w' := by
  unfold UncF at *
  split at h <;> (try exact h) <;> (try exact trivial)
  · exact callU_keep h he
  · exact callU_keep h he
  · exact headU_keep h he
  · exact headU_keep h he

end Go.Proofs.YtcnemacakjemjaaDoor
