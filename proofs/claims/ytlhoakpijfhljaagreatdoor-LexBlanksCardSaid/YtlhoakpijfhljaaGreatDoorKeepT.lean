/-
  CONTRACT of chirographkeep's sameTokens over tokens that are the same; a token of no kind; texts of tokens that are not long.
  CONDITIONS: each theorem's own hypotheses.
-/
import Derived.Test.YtlhoakpijfhljaaGreatDoorCutH
import Derived.Test.YtlhoakpijfhljaaGreatDoorLexC
namespace Go.Proofs.YtlhoakpijfhljaaGreatDoor
open Go.RowKit
set_option linter.unusedVariables false
set_option maxRecDepth 100000

theorem below_dq {B : Nat} {a w : World} (h : Below B a w) : ∀ q, Below B a (w.drewN q)
  | 0 => h
  | q + 1 => (below_dq h q).drew
set_option maxHeartbeats 2000000 in
theorem keepTokens_some (l : List Tok) (a o cap a' o' cap' : Nat) (w : World) (hc : l.length ≤ 9223372036854775807) (ha : a < w.heap.size) (ha' : a' < w.heap.size)
    (hl : ∀ j t, l[j]? = some t → w.cell? ⟨a, o + j * 4, none⟩ = some (.int .i64 t.k) ∧ w.cell? ⟨a, o + j * 4 + 1, none⟩ = some (.string (str t.s)) ∧ w.cell? ⟨a, o + j * 4 + 2, none⟩ = some (.int .i64 t.i) ∧ w.cell? ⟨a, o + j * 4 + 3, none⟩ = some (.int .u64 t.b))
    (hl' : ∀ j t, l[j]? = some t → w.cell? ⟨a', o' + j * 4, none⟩ = some (.int .i64 t.k) ∧ w.cell? ⟨a', o' + j * 4 + 1, none⟩ = some (.string (str t.s)) ∧ w.cell? ⟨a', o' + j * 4 + 2, none⟩ = some (.int .i64 t.i) ∧ w.cell? ⟨a', o' + j * 4 + 3, none⟩ = some (.int .u64 t.b)) :
    Calls Tryz.prog 10 #[.slice (some ⟨a, o, none⟩) l.length cap, .slice (some ⟨a', o', none⟩) l.length cap'] w fun e w' => e = .returned (.bool true) ∧ Below w.heap.size w w' := by
  obtain ⟨n, hn⟩ : ∃ n, l.length = n := ⟨_, rfl⟩
  rw [hn] at hc ⊢
  have HN := Lib.hid hn
  have HL := Lib.hid hl
  have HL' := Lib.hid hl'
  clear hn hl hl'
  go_enter Tryz.func10, Tryz.ntmps10
  go_wp2
  go_loopw [13] (fun i wr => ∃ j : Nat, j ≤ n ∧ i = .int .i64 j ∧ Below w.heap.size w wr) (fun i _ => n - (intOf i).toNat)
  case atStart => exact ⟨0, Nat.zero_le _, rfl, Below.refl _ _⟩
  case round =>
    obtain ⟨j, hj, rfl, hbw⟩ := hrel
    by_cases h1 : j < n
    · have hlt : j < l.length := by have := HN.out; omega
      obtain ⟨v, hv⟩ : ∃ v, l[j]? = some v := ⟨l[j], List.getElem?_eq_getElem hlt⟩
      obtain ⟨c0, c1, c2, c3⟩ := HL.out j v hv
      have d0 := (hbw.cell (p := ⟨a, o + j * 4, none⟩) ha).trans c0
      have d1 := (hbw.cell (p := ⟨a, o + j * 4 + 1, none⟩) ha).trans c1
      have d2 := (hbw.cell (p := ⟨a, o + j * 4 + 2, none⟩) ha).trans c2
      have d3 := (hbw.cell (p := ⟨a, o + j * 4 + 3, none⟩) ha).trans c3
      clear c0 c1 c2 c3
      obtain ⟨c0, c1, c2, c3⟩ := HL'.out j v hv
      have d0' := (hbw.cell (p := ⟨a', o' + j * 4, none⟩) ha').trans c0
      have d1' := (hbw.cell (p := ⟨a', o' + j * 4 + 1, none⟩) ha').trans c1
      have d2' := (hbw.cell (p := ⟨a', o' + j * 4 + 2, none⟩) ha').trans c2
      have d3' := (hbw.cell (p := ⟨a', o' + j * 4 + 3, none⟩) ha').trans c3
      obtain ⟨tk, ts, ti, tb⟩ := v
      simp only at d0 d1 d2 d3 d0' d1' d2' d3'
      generalize str ts = S at *
      clear c0 c1 c2 c3 hv
      go_wp2_with fail
      go_quiet (fail)
      go_wp2
      go_roundw
      case rel => exact ⟨j + 1, by omega, by go_num, below_dq hbw _⟩
      case measure => simp [intOf]; omega
    · go_wp2
      go_ret
      exact ⟨rfl, hbw⟩
theorem keepTokens_nil (ao ao' : Option Addr) (cap cap' : Nat) (w : World) :
    Calls Tryz.prog 10 #[.slice ao 0 cap, .slice ao' 0 cap'] w fun e w' => e = .returned (.bool true) ∧ Below w.heap.size w w' := by
  go_enter Tryz.func10, Tryz.ntmps10
  go_wp2
  refine wp_loop_rounds 1 ?_
  rw [rounds_succ]
  go_wp2
  go_ret
  exact ⟨rfl, Below.refl _ _⟩
theorem keepTokens_any (l : List Tok) (ao ao' : Option Addr) (cap cap' : Nat) (w : World) (hc : l.length ≤ 9223372036854775807) (hl : Toks w ao l) (hl' : Toks w ao' l) :
    Calls Tryz.prog 10 #[.slice ao l.length cap, .slice ao' l.length cap'] w fun e w' => e = .returned (.bool true) ∧ Below w.heap.size w w' := by
  rcases hl with rfl | ⟨a, o, rfl, ha, h1⟩
  · exact keepTokens_nil ao ao' cap cap' w
  · rcases hl' with rfl | ⟨a', o', rfl, ha', h1'⟩
    · exact keepTokens_nil _ ao' cap cap' w
    · exact keepTokens_some l a o cap a' o' cap' w hc ha ha' h1 h1'
theorem check_none (w : World) (hT : Tabs w) (hS : SW w) : Calls Tryz.prog 15 #[.agg #[.int .i64 0, .string ⟨#[]⟩, .int .i64 0, .int .u64 0]] w fun e w' => e = .returned (.int .i64 2) ∧ Below w.heap.size w w' :=
  lexCheck_any 0 0 0 [] w (by decide) (by decide) (by simp) hT hS
end Go.Proofs.YtlhoakpijfhljaaGreatDoor
