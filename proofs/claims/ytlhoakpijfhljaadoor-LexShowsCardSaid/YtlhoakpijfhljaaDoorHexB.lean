/-
  CONTRACT of internal/strconv's formatBits at base 16.
  CONDITIONS: each theorem's own hypotheses; math/bits's deBruijn64tab holds 4 at 15 ('DB').
-/
import Derived.Test.YtlhoakpijfhljaaDoorHexP
import Derived.Laws.BitsAllLaws
namespace Go.Proofs.YtlhoakpijfhljaaDoor
open Go.RowKit
set_option linter.unusedVariables false
set_option maxRecDepth 100000

theorem and_15 (u : Nat) (h : u < 18446744073709551616) : bits .and .u64 (u : Int) 15 = ((u % 16 : Nat) : Int) := by
  have := u64_and_nat u 15 h (by decide)
  rw [show ((15 : Nat) : Int) = 15 from rfl] at this
  rw [this, show u &&& 15 = u % 16 from Nat.and_two_pow_sub_one_eq_mod u 4]
def S36 : ByteArray := ⟨#[48, 49, 50, 51, 52, 53, 54, 55, 56, 57, 97, 98, 99, 100, 101, 102, 103, 104, 105, 106, 107, 108, 109, 110, 111, 112, 113, 114, 115, 116, 117, 118, 119, 120, 121, 122]⟩
theorem dig_eq (u : Nat) (h : u < 16) (h' : u < S36.size) : S36[u] = hexD u := by
  have : ∀ v : Fin 16, S36[v.val]'(Nat.lt_of_lt_of_le v.isLt (by decide)) = hexD v.val := by decide
  exact this ⟨u, h⟩
theorem slice_65 (b k : Nat) (hk : k < 65) (W : World) : (Instr.sliceAt 95 (.pointer (some ⟨b, 0, none⟩)) (some (.int .i64 (k : Int))) none none).run Tryd.prog W = .ok (.slice (some ⟨b, k, none⟩) (65 - k) (65 - k)) W := by
  have h := run_sliceAt_array_l (P := Tryd.prog) W 95 ⟨b, 0, none⟩ (by kernel_rfl) .i64 (k : Int) (by omega) (by show (k : Int) ≤ ((65 : Nat) : Int); omega)
  rw [h]
  have hs : (sizeOf (Tryd.prog.elem 95)).run Tryd.prog W = .ok 1 W := by kernel_rfl
  have hl : Tryd.prog.arrayLen 95 = 65 := by kernel_rfl
  rw [hs, hl]
  have hne : ¬ (65 = k) := by omega
  simp [Result.andThen, slicedAt, hne, Addr.add]
  omega
theorem put_digit {cs : List Value} {j : Nat} {t : List UInt8} {d : UInt8} (hl : cs.length = 65) (hj : j + 1 ≤ 65) (h : cs.drop (j + 1) = Lib.byteCells t) : (cs.set j (.int .u8 (d.toNat : Int))).drop j = Lib.byteCells (d :: t) := by
  rw [List.drop_eq_getElem_cons (by rw [List.length_set]; omega), List.getElem_set_self, List.drop_set_of_lt (by omega), h]
  rfl
set_option maxHeartbeats 4000000 in
theorem fmtBits_16 (u0 : Nat) (w : World) (hu : u0 < 18446744073709551616) (hD : ∀ W, Below w.heap.size w W → DB W) :
    Calls Tryd.prog 57 #[.slice none 0 0, .int .u64 u0, .int .i64 16, .bool false, .bool false] w fun e w' => e = .returned (.tuple #[.slice none 0 0, .string (str (hexTo 15 u0 []))]) ∧ Below w.heap.size w w' := by
  obtain ⟨OUT, hOUT⟩ : ∃ OUT, hexTo 15 u0 [] = OUT := ⟨_, rfl⟩
  rw [hOUT]
  obtain ⟨Z, hZ⟩ : ∃ Z, (Lib.byteCells (List.replicate 65 0)).toArray = Z := ⟨_, rfl⟩
  have zv : ∀ W, (zeroValue 95).run Tryd.prog W = .ok (.agg Z) W := fun W => by rw [← hZ]; kernel_rfl
  obtain ⟨w2, hw2⟩ : ∃ w2, w.alloc (.cells Z 95) = w2 := ⟨_, rfl⟩
  have hb2 : Below w.heap.size w w2 := by rw [← hw2]; exact (Below.refl _ _).alloc (Nat.le_refl _) _
  have z2 : Blk w2 w.heap.size 95 Z.toList := by rw [← hw2]; exact Blk.new w Z _
  have hZl : Z.toList.length = 65 := by rw [← hZ]; simp [Lib.byteCells]
  have HS0 : Hid (∃ cs t, Blk w2 w.heap.size 95 cs ∧ cs.length = 65 ∧ cs.drop 65 = Lib.byteCells t ∧ OUT = hexTo (65 - 50) u0 t) := Lib.hid ⟨_, [], z2, hZl, List.drop_of_length_le (by omega), hOUT.symm⟩
  have HB2 := Lib.hid hb2
  have HU0 : Hid (u0 < 16 ^ (65 - 49)) := Lib.hid (by simpa using hu)
  have cP := fun W => isPow_16 W
  have cT := fun W hW => tz_16 W (hD W hW)
  have ct := cT w2 hb2
  clear hOUT hZ hZl z2 cT hD
  go_enter Tryd.func57, Tryd.ntmps57
  go_upto_region 4 with fail
  try rw [hw2]
  clear hw2 zv
  go_wp2_with fail
  refine (cP _).mono ?_
  rintro e w3 ⟨rfl, rfl⟩
  clear cP
  go_wp2_with fail
  refine ct.mono ?_
  rintro e w3 ⟨rfl, rfl⟩
  clear ct
  go_wp2_with fail
  go_loopw [1, 13] (fun uv iv wr => ∃ u i : Nat, uv = .int .u64 u ∧ iv = .int .i64 i ∧ 50 ≤ i ∧ i ≤ 65 ∧ u < 18446744073709551616 ∧ Hid (u < 16 ^ (i - 49)) ∧ Hid (∃ cs t, Blk wr w.heap.size 95 cs ∧ cs.length = 65 ∧ cs.drop i = Lib.byteCells t ∧ OUT = hexTo (i - 50) u t) ∧ Hid (Below w.heap.size w wr)) (fun _ iv _ => (intOf iv).toNat)
  case atStart => exact ⟨u0, 65, rfl, rfl, by omega, by omega, hu, HU0, HS0, HB2⟩
  case round =>
    obtain ⟨u, i, rfl, rfl, hi, hi2, hu2, hui, hst, hbw⟩ := hrel
    clear HU0 HS0 HB2
    obtain ⟨cs, t, hz, hcl, hcd, hou⟩ := hst.out
    obtain ⟨j, rfl⟩ : ∃ j, i = j + 1 := ⟨i - 1, by omega⟩
    have hj : j < cs.length := by omega
    have hold := hz.cell (j := j) (List.getElem?_eq_getElem hj)
    have hfr := hz.free j
    have e1 : ((j + 1 : Nat) : Int) - 1 = (j : Int) := by omega
    have ha := and_15 u hu2
    generalize cs[j] = old at *
    have HZ := Lib.hid hz
    have HCL := Lib.hid hcl
    have HCD := Lib.hid hcd
    have HOU := Lib.hid hou
    clear hst hz hcl hcd hou hj
    by_cases h16 : u < 16
    · have i16 : ¬ (16 : Int) ≤ (u : Int) := by omega
      have hsl := slice_65 w.heap.size j (by omega)
      have hz2 : Blk (wr.setCell ⟨w.heap.size, j, none⟩ (.int .u8 (S36[u]'(by have : S36.size = 36 := rfl; omega)).toNat)) w.heap.size 95 (cs.set j (.int .u8 (hexD u).toNat)) := by
        rw [dig_eq u h16]; exact HZ.out.set j _
      have hdrop := put_digit (d := hexD u) HCL.out hi2 HCD.out
      have hO : OUT = hexD u :: t := by
        have := HOU.out
        rw [this]
        cases j + 1 - 50 with
        | zero => rfl
        | succ f => simp only [hexTo]; rw [if_pos h16]
      have hlt : t.length + 1 = 65 - j := by
        have := congrArg List.length hdrop
        rw [List.length_drop, List.length_set, HCL.out, Lib.byteCells_length] at this
        simpa using this.symm
      have hcv : ∀ W, W = wr.setCell ⟨w.heap.size, j, none⟩ (.int .u8 (S36[u]'(by have : S36.size = 36 := rfl; omega)).toNat) → (convert 28 9 (.slice (some ⟨w.heap.size, j, none⟩) (65 - j) (65 - j))).run Tryd.prog W = .ok (.string (str OUT)) W := by
        rintro W rfl
        have := run_convert_bytes_back (P := Tryd.prog) (wr.setCell ⟨w.heap.size, j, none⟩ (.int .u8 (S36[u]'(by have : S36.size = 36 := rfl; omega)).toNat)) 28 9 5 ⟨w.heap.size, j, none⟩ (65 - j) OUT Tryd.underlying28 Tryd.underlying5 Tryd.underlying9 (fun q hq => by
          have hq' := hq
          rw [hO, List.length_cons] at hq'
          have e : (⟨w.heap.size, j, none⟩ : Addr).add q = ⟨w.heap.size, j + q, none⟩ := by
            unfold Addr.add; split <;> simp_all
          rw [e]
          refine hz2.cell ?_
          have e2 : (cs.set j (.int .u8 (hexD u).toNat))[j + q]? = ((cs.set j (.int .u8 (hexD u).toNat)).drop j)[q]? := by rw [List.getElem?_drop]
          rw [e2, hdrop]
          simp only [hO]
          unfold Lib.byteCells
          rw [List.getElem?_map, List.getElem?_eq_getElem (by rw [← hO]; exact hq)]
          rfl)
        rw [show OUT.length = 65 - j by rw [hO]; simpa using hlt] at this
        exact this
      have hb9 : Below w.heap.size w (wr.setCell ⟨w.heap.size, j, none⟩ (.int .u8 (S36[u]'(by have : S36.size = 36 := rfl; omega)).toNat)) := hbw.out.setCell (p := ⟨w.heap.size, j, none⟩) (Nat.le_refl _) _
      have HO := Lib.hid hO
      clear hdrop hlt hO hz2 HOU HCD hui
      have hcv2 := hcv _ rfl
      clear hcv
      unfold S36 at hcv2
      go_wp2_with fail
      go_ret2
      exact ⟨rfl, hb9⟩
    · have i16 : (16 : Int) ≤ (u : Int) := by omega
      have hu16 : u / 16 < 18446744073709551616 := by omega
      have hj50 : 50 ≤ j := by
        refine Classical.byContradiction fun h => ?_
        have := hui.out
        rw [show j + 1 - 49 = 1 by omega] at this
        omega
      have HU2 : Hid (u / 16 < 16 ^ (j - 49)) := by
        show _ < _
        have := hui.out
        rw [show j + 1 - 49 = j - 49 + 1 by omega, Nat.pow_succ] at this
        omega
      have hm16 : u % 16 < 16 := by omega
      have HST : Hid (∃ cs' t', Blk (wr.setCell ⟨w.heap.size, j, none⟩ (.int .u8 (S36[u % 16]'(by have : S36.size = 36 := rfl; omega)).toNat)) w.heap.size 95 cs' ∧ cs'.length = 65 ∧ cs'.drop j = Lib.byteCells t' ∧ OUT = hexTo (j - 50) (u / 16) t') := Lib.hid (by
        refine ⟨cs.set j (.int .u8 (hexD (u % 16)).toNat), hexD (u % 16) :: t, ?_, by rw [List.length_set]; exact HCL.out, put_digit HCL.out hi2 HCD.out, ?_⟩
        · rw [dig_eq (u % 16) hm16]; exact HZ.out.set j _
        · rw [HOU.out, show j + 1 - 50 = j - 50 + 1 by omega]
          simp only [hexTo]; rw [if_neg h16])
      have hb9 := Lib.hid (hbw.out.setCell (p := ⟨w.heap.size, j, none⟩) (Nat.le_refl _) (.int .u8 (S36[u % 16]'(by have : S36.size = 36 := rfl; omega)).toNat))
      clear HOU HCD hui
      go_wp2_with fail
      go_roundw
      case rel => exact ⟨u / 16, j, by rw [show ((u / 16 : Nat) : Int) = (u : Int) / 16 by omega], rfl, hj50, by omega, hu16, HU2, HST, hb9⟩
      case measure => simp [intOf]
end Go.Proofs.YtlhoakpijfhljaaDoor
