/-
  CONTRACTS of the laws' some and partsOf: raw things as parts.
  CONDITIONS: each theorem's own hypotheses.
-/
import Derived.Test.YtcnemacakjemjaaDoorRaws
import Derived.Test.YtcnemacakjemjaaDoorByMaxT
import Derived.Test.YtcnemacakjemjaaDoorGBase
import Derived.Deep.Cut
namespace Go.Proofs.YtcnemacakjemjaaDoor
open Go.RowKit CodeMath
set_option linter.unusedVariables false

/-- A raw thing's text, cut. -/
def R.cut (r : R) (q : Nat) : List UInt8 := r.s.data.toList.take q
def partsL (l : List R) : List (List UInt8) := (l.take 8).map (R.cut · 30)
theorem partsL_length (l : List R) : (partsL l).length ≤ 8 := by unfold partsL; simp; omega
theorem partsL_each (l : List R) : ∀ p ∈ partsL l, p.length ≤ 30 := by
  intro p hp
  obtain ⟨r, _, rfl⟩ := List.mem_map.1 hp
  unfold R.cut; rw [List.length_take]; omega
theorem total_each : ∀ (ps : List (List UInt8)) (B : Nat), (∀ p ∈ ps, p.length ≤ B) → FrameMath.total ps ≤ ps.length * (4 + B)
  | [], B, h => by simp [FrameMath.total]
  | p :: ps, B, h => by
    have h1 := total_each ps B (fun q hq => h q (List.mem_cons_of_mem _ hq))
    have h2 := h p (by simp)
    simp only [FrameMath.total, List.length_cons, Nat.succ_mul]
    omega
theorem partsL_total (l : List R) : FrameMath.total (partsL l) ≤ 272 := by
  have h1 := total_each (partsL l) 30 (partsL_each l)
  have h2 := partsL_length l
  have h3 : (partsL l).length * (4 + 30) ≤ 8 * (4 + 30) := Nat.mul_le_mul_right _ h2
  omega
theorem cut_head (s : ByteArray) (q : Nat) (x : Int) (hx : x = (q : Int)) (hq : q ≤ s.size) (W : World) : (Instr.slice 9 (.string s) none (some (.int .i64 x)) none).run Tryd.prog W = .ok (.string (str (s.data.toList.take q))) W := by
  subst hx
  rw [run_slice_string_h (P := Tryd.prog) W 9 s Tryd.underlying9 .i64 (q : Int) (by omega) (by omega)]
  have : s.extract 0 (q : Int).toNat = str (s.data.toList.take q) := by
    have h := str_extract s.data.toList 0 q (Nat.zero_le _)
    rw [← str_eq s] at h
    rw [Int.toNat_natCast, h, List.drop_zero, Nat.sub_zero]
  rw [this]
end Go.Proofs.YtcnemacakjemjaaDoor
