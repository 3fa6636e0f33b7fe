/-
  CONTRACTS of the reference's isSign and TokenFault.
  CONDITIONS: each theorem's own hypotheses; unicode/utf8's two tables hold what their initialisers lay ('Tabs').
-/
import Derived.Test.YtlhoakpijfhljaaDoorLexC
namespace Go.Proofs.YtlhoakpijfhljaaDoor
open Go.RowKit
set_option linter.unusedVariables false
set_option maxRecDepth 100000

def refSigns : List (List UInt8) := [[40], [41], [44], [46], [61], [60], [62], [60, 61], [62, 61], [60, 62], [43], [45], [42], [47], [124, 124], [59]]
theorem refSigns_has (l : List UInt8) : refSigns.contains l = signB l := by
  have h1 : ∀ x ∈ refSigns, x ∈ signsL := by decide
  have h2 : ∀ x ∈ signsL, x ∈ refSigns := by decide
  unfold signB
  rw [Bool.eq_iff_iff, List.contains_iff_mem, List.contains_iff_mem]
  exact ⟨h1 l, h2 l⟩
theorem refSigns_small : ∀ x ∈ refSigns, x.length ≤ 2 := by decide
set_option maxHeartbeats 2000000 in
theorem isSignRef_any (l : List UInt8) (w : World) :
    Calls Tryd.prog 26 #[.string (str l)] w fun e w' => e = .returned (.bool (signB l)) ∧ Below w.heap.size w w' := by
  obtain ⟨w2, hw2⟩ : ∃ w2, w.alloc (.cells #[.string ⟨#[40]⟩, .string ⟨#[41]⟩, .string ⟨#[44]⟩, .string ⟨#[46]⟩, .string ⟨#[61]⟩, .string ⟨#[60]⟩, .string ⟨#[62]⟩, .string ⟨#[60, 61]⟩, .string ⟨#[62, 61]⟩, .string ⟨#[60, 62]⟩, .string ⟨#[43]⟩, .string ⟨#[45]⟩, .string ⟨#[42]⟩, .string ⟨#[47]⟩, .string ⟨#[124, 124]⟩, .string ⟨#[59]⟩] 9) = w2 := ⟨_, rfl⟩
  have hb2 : Below w.heap.size w w2 := by rw [← hw2]; exact (Below.refl _ _).alloc (Nat.le_refl _) _
  have hcell : ∀ i x, refSigns[i]? = some x → w2.cell? ⟨w.heap.size, i, none⟩ = some (.string (str x)) := by
    intro i x hx
    rw [← hw2, World.cell?_alloc_new]
    have hi : i < 16 := (List.getElem?_eq_some_iff.1 hx).1
    have e : (#[.string ⟨#[40]⟩, .string ⟨#[41]⟩, .string ⟨#[44]⟩, .string ⟨#[46]⟩, .string ⟨#[61]⟩, .string ⟨#[60]⟩, .string ⟨#[62]⟩, .string ⟨#[60, 61]⟩, .string ⟨#[62, 61]⟩, .string ⟨#[60, 62]⟩, .string ⟨#[43]⟩, .string ⟨#[45]⟩, .string ⟨#[42]⟩, .string ⟨#[47]⟩, .string ⟨#[124, 124]⟩, .string ⟨#[59]⟩] : Array Value) = (strsV refSigns).toArray := rfl
    rw [e]
    simpa using strsV_get hx
  have hstr := fun x => str_beq l x
  obtain ⟨B, hB⟩ : ∃ B, signB l = B := ⟨_, rfl⟩
  rw [hB]
  rw [← refSigns_has] at hB
  have HB := Lib.hid hB
  have HC := Lib.hid hcell
  have HS := Lib.hid hstr
  generalize str l = s at *
  clear hB hcell hstr
  go_enter Tryd.func26, Tryd.ntmps26
  go_upto_region 2 with fail
  try rw [hw2]
  clear hw2
  go_loopw [7] (fun ix wr => ∃ i : Nat, i ≤ 16 ∧ ix = .int .i64 i ∧ Hid (l ∉ refSigns.take i) ∧ wr = w2) (fun ix _ => 16 - (intOf ix).toNat)
  case atStart => exact ⟨0, Nat.zero_le _, rfl, Lib.hid (by simp), rfl⟩
  case round =>
    obtain ⟨i, hi, rfl, hA, rfl⟩ := hrel
    by_cases h1 : i < 16
    · have iI : (i : Int) < 16 := by omega
      obtain ⟨x, hx⟩ : ∃ x, refSigns[i]? = some x := ⟨_, List.getElem?_eq_getElem h1⟩
      obtain ⟨hi2, hxx⟩ := List.getElem?_eq_some_iff.1 hx
      have q1 := HC.out i x hx
      have q2 := HS.out x
      by_cases hp : l = x
      · have HE : Hid (B = true) := by show _ = _; rw [← HB.out, List.contains_iff_mem, hp]; exact List.mem_of_getElem? hx
        have q3 : (s.toList == (str x).toList) = true := by rw [q2]; simpa using hp
        generalize str x = X at *
        clear q2 hx hp hxx hi2
        go_wp2_with fail
        go_ret
        exact ⟨by rw [HE.out]; rfl, hb2⟩
      · have HE : Hid (l ∉ refSigns.take (i + 1)) := by
          show l ∉ _
          rw [List.take_succ_eq_append_getElem hi2, List.mem_append]
          rintro (h | h)
          · exact hA.out h
          · simp only [List.mem_singleton] at h; exact hp (h.trans hxx)
        have q3 : (s.toList == (str x).toList) = false := by rw [q2]; simpa using hp
        generalize str x = X at *
        clear q2 hx hp hxx hi2
        go_wp2_with fail
        go_roundw
        case rel => exact ⟨i + 1, h1, by go_num, HE, by first | rfl | trivial⟩
        case measure => simp [intOf]; omega
    · have iI : ¬ (i : Int) < 16 := by omega
      obtain rfl : i = 16 := by omega
      have HE : Hid (B = false) := by
        show _ = _
        rw [← HB.out]
        have := hA.out
        rw [List.take_of_length_le (by decide)] at this
        simpa using this
      go_wp2_with fail
      go_ret
      exact ⟨by rw [HE.out]; rfl, hb2⟩

theorem hqq_of {w w3 : World} {k i b k2 i2 b2 : Int} {s s2 : ByteArray} (hw3 : (w.alloc (.cells #[.int .i64 k, .string s, .int .i64 i, .int .u64 b] 33)).alloc (.cells #[.int .i64 k2, .string s2, .int .i64 i2, .int .u64 b2] 33) = w3) : Below w.heap.size w w3 ∧ (∀ W, Below w3.heap.size w3 W → W.cell? ⟨w.heap.size, 0, none⟩ = some (.int .i64 k) ∧ W.cell? ⟨w.heap.size, 1, none⟩ = some (.string s) ∧ W.cell? ⟨w.heap.size, 2, none⟩ = some (.int .i64 i) ∧ W.cell? ⟨w.heap.size, 3, none⟩ = some (.int .u64 b)) ∧ (∀ W, Below w3.heap.size w3 W → W.cell? ⟨w.heap.size + 1, 0, none⟩ = some (.int .i64 k2) ∧ W.cell? ⟨w.heap.size + 1, 1, none⟩ = some (.string s2) ∧ W.cell? ⟨w.heap.size + 1, 2, none⟩ = some (.int .i64 i2) ∧ W.cell? ⟨w.heap.size + 1, 3, none⟩ = some (.int .u64 b2)) := by
  subst hw3
  refine ⟨((Below.refl _ _).alloc (Nat.le_refl _) _).alloc (by simp) _, fun W hW => ⟨?_, ?_, ?_, ?_⟩, fun W hW => ⟨?_, ?_, ?_, ?_⟩⟩
  · exact (hW.cell (p := ⟨w.heap.size, 0, none⟩) (by simp; omega)).trans (by simp)
  · exact (hW.cell (p := ⟨w.heap.size, 1, none⟩) (by simp; omega)).trans (by simp)
  · exact (hW.cell (p := ⟨w.heap.size, 2, none⟩) (by simp; omega)).trans (by simp)
  · exact (hW.cell (p := ⟨w.heap.size, 3, none⟩) (by simp; omega)).trans (by simp)
  · exact (hW.cell (p := ⟨w.heap.size + 1, 0, none⟩) (by simp)).trans (by simp)
  · exact (hW.cell (p := ⟨w.heap.size + 1, 1, none⟩) (by simp)).trans (by simp)
  · exact (hW.cell (p := ⟨w.heap.size + 1, 2, none⟩) (by simp)).trans (by simp)
  · exact (hW.cell (p := ⟨w.heap.size + 1, 3, none⟩) (by simp)).trans (by simp)
theorem fault_other (k i b : Int) (s : ByteArray) (w : World) (h1 : (k == 1) = false) (h2 : (k == 2) = false) (h3 : (k == 3) = false) (h4 : (k == 4) = false) (h5 : (k == 5) = false) (h6 : (k == 6) = false) :
    Calls Tryd.prog 12 #[.agg #[.int .i64 k, .string s, .int .i64 i, .int .u64 b]] w fun e w' => e = .returned (.int .i64 2) ∧ Below w.heap.size w w' := by
  go_enter Tryd.func12, Tryd.ntmps12
  go_wp2_with fail
  go_ret
  exact ⟨rfl, ((Below.refl _ _).alloc (Nat.le_refl _) _).alloc (by simp) _⟩
set_option maxHeartbeats 8000000 in
theorem fault_name (i b : Int) (l : List UInt8) (w : World) (hl : l.length ≤ 9223372036854775807) :
    Calls Tryd.prog 12 #[.agg #[.int .i64 1, .string (str l), .int .i64 i, .int .u64 b]] w fun e w' => e = .returned (.int .i64 (tokC 1 l i b)) ∧ Below w.heap.size w w' := by
  have hsz := str_size l
  have hse : (str l).toList.isEmpty = l.isEmpty := by rw [str_toList]
  have hee : (str l).toList.isEmpty = true → (str l).toList = [] := fun h => by simpa using h
  have cX := fun W => isNameRef_any l W hl
  obtain ⟨R, hR⟩ : ∃ R, tokC 1 l i b = R := ⟨_, rfl⟩
  rw [hR]
  have HR := Lib.hid hR
  unfold tokC tooL ownT goodT at HR
  rw [← hse] at HR
  rw [if_neg (by decide), if_pos (Or.inl rfl), if_pos rfl] at HR
  generalize nameB l = B at *
  generalize str l = s at *
  obtain ⟨L, hL⟩ : ∃ L, decide (8 < l.length) = L := ⟨_, rfl⟩
  rw [hL] at HR
  have hLI : decide ((8 : Int) < (s.size : Int)) = L := by rw [← hL, hsz, Bool.eq_iff_iff]; simp; omega
  have hLI2 : (L = true → (8 : Int) < (s.size : Int)) ∧ (L = false → ¬ (8 : Int) < (s.size : Int)) := by rw [← hLI]; simp
  clear hL hLI
  clear hl hsz
  clear hR hse
  obtain ⟨w3, hw3⟩ : ∃ w3, (w.alloc (.cells #[.int .i64 1, .string s, .int .i64 i, .int .u64 b] 33)).alloc (.cells #[.int .i64 1, .string s, .int .i64 0, .int .u64 0] 33) = w3 := ⟨_, rfl⟩
  obtain ⟨hb3, hq, hu⟩ := hqq_of hw3
  have HQ := Lib.hid hq
  have HU := Lib.hid hu
  obtain ⟨p0, p1, p2, p3⟩ := hq w3 (Below.refl _ _)
  obtain ⟨r0, r1, r2, r3⟩ := hu w3 (Below.refl _ _)
  clear hq hu
  cases B <;> cases L <;> cases hi : (i == 0) <;> cases hb : (b == 0)
  all_goals
    clear hee
    obtain ⟨hT1, hT2⟩ := hLI2
    first
      | (have iL := hT1 rfl)
      | (have iL := hT2 rfl)
    clear hT1 hT2
    go_enter Tryd.func12, Tryd.ntmps12
    go_upto_region 9 with fail
    try rw [hw3]
    clear hw3
    go_wp2_with fail
    refine (cX _).mono ?_
    rintro e w4 ⟨rfl, rfl⟩
    have hbb := hb3
    clear cX
    clear hb3
    go_wp2_with fail
    go_ret
    refine ⟨?_, hbb⟩
    rw [← HR.out]
    first
      | rfl
      | (simp [*]; done)
      | (simp_all; done)
end Go.Proofs.YtlhoakpijfhljaaDoor
