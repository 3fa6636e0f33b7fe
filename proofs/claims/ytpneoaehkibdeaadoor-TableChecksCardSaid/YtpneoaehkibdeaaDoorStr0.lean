/-
  STRINGS by their bytes, and cuts of them.
  CONDITIONS: each theorem's own hypotheses.
-/
import Derived.Test.YtpneoaehkibdeaaDoorValA
import Derived.Lib.PathFns
import Derived.Laws.Strings2
import Derived.Laws.Strings3
namespace Go.Proofs.YtpneoaehkibdeaaDoor
open Go.RowKit
set_option linter.unusedVariables false

theorem bytes_eq {s t : ByteArray} (h : s.data.toList = t.data.toList) : s = t := by
  rw [← Lib.mk_data s, ← Lib.mk_data t, h]
/-- A string of these bytes. -/
def str (l : List UInt8) : ByteArray := ⟨l.toArray⟩
theorem str_data (l : List UInt8) : (str l).data.toList = l := rfl
theorem str_size (l : List UInt8) : (str l).size = l.length := by simp [str, ByteArray.size]
theorem str_toList (l : List UInt8) : (str l).toList = l := by rw [Lib.toList_data]; rfl
theorem str_eq (s : ByteArray) : s = str s.data.toList := by cases s; simp [str]
theorem str_inj {l m : List UInt8} (h : str l = str m) : l = m := by have := congrArg (fun s => s.data.toList) h; simpa [str] using this
theorem str_extract (l : List UInt8) (i j : Nat) (h : i ≤ j) : (str l).extract i j = str ((l.drop i).take (j - i)) := by
  apply bytes_eq
  show ((str l).extract i j).data.toList = _
  rw [str_data, ByteArray.data_extract, Array.toList_extract]
  simp [str, List.extract]
theorem str_append (l m : List UInt8) : str l ++ str m = str (l ++ m) := by
  apply bytes_eq
  simp [str]
/-- s[i:j], a cut of a string. -/
theorem cut_str (l : List UInt8) (i j : Nat) (x y : Int) (hx : x = i) (hy : y = j) (h1 : i ≤ j) (h2 : j ≤ l.length) (w : World) :
    (Instr.slice 9 (.string (str l)) (some (.int .i64 x)) (some (.int .i64 y)) none).run Tryd.prog w = .ok (.string (str ((l.drop i).take (j - i)))) w := by
  subst hx hy
  have h := run_slice_string (P := Tryd.prog) w 9 (str l) .i64 .i64 (i : Int) (j : Int) Tryd.underlying9 (by omega) (by omega) (by rw [str_size]; omega)
  rw [h, Int.toNat_natCast, Int.toNat_natCast, str_extract l i j h1]
/-- s[:j]. -/
theorem head_str (l : List UInt8) (j : Nat) (y : Int) (hy : y = j) (h2 : j ≤ l.length) (w : World) :
    (Instr.slice 9 (.string (str l)) none (some (.int .i64 y)) none).run Tryd.prog w = .ok (.string (str (l.take j))) w := by
  subst hy
  have h := run_slice_string_to_if (P := Tryd.prog) w 9 (str l) .i64 (j : Int) Tryd.underlying9
  rw [h, if_pos ⟨by omega, by rw [str_size]; omega⟩, Int.toNat_natCast, str_extract l 0 j (Nat.zero_le _)]
  simp
/-- s[k:]. -/
theorem drop_str (l : List UInt8) (k : Nat) (x : Int) (hx : x = k) (hk : k ≤ l.length) (w : World) : (Instr.slice 9 (.string (str l)) (some (.int .i64 x)) none none).run Tryd.prog w = .ok (.string (str (l.drop k))) w := by
  subst hx
  have h := run_slice_string_from_if (P := Tryd.prog) w 9 (str l) .i64 (k : Int) Tryd.underlying9
  rw [h, if_pos ⟨by omega, by rw [str_size]; omega⟩, Int.toNat_natCast, str_size, str_extract _ _ _ hk]
  rw [List.take_of_length_le (by rw [List.length_drop]; omega)]
end Go.Proofs.YtpneoaehkibdeaaDoor
