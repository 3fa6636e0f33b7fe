/-
  THE WALK of the law 'chirographlaw.LexCuts'.
  CONDITIONS: what 'Env' says.
-/
import Derived.Test.YtncllcfdmiaopaaGreatDoorCutT
namespace Go.Proofs.YtncllcfdmiaopaaGreatDoor
open Go.RowKit
set_option linter.unusedVariables false
set_option maxRecDepth 100000

theorem below_dq {B : Nat} {a w : World} (h : Below B a w) : ∀ q, Below B a (w.drewN q)
  | 0 => h
  | q + 1 => (below_dq h q).drew
set_option maxHeartbeats 2000000 in
theorem sameTokens_some (l : List Tok) (a o cap a' o' cap' : Nat) (w : World) (hc : l.length ≤ 9223372036854775807) (ha : a < w.heap.size) (ha' : a' < w.heap.size)
    (hl : ∀ j t, l[j]? = some t → w.cell? ⟨a, o + j * 4, none⟩ = some (.int .i64 t.k) ∧ w.cell? ⟨a, o + j * 4 + 1, none⟩ = some (.string (str t.s)) ∧ w.cell? ⟨a, o + j * 4 + 2, none⟩ = some (.int .i64 t.i) ∧ w.cell? ⟨a, o + j * 4 + 3, none⟩ = some (.int .u64 t.b))
    (hl' : ∀ j t, l[j]? = some t → w.cell? ⟨a', o' + j * 4, none⟩ = some (.int .i64 t.k) ∧ w.cell? ⟨a', o' + j * 4 + 1, none⟩ = some (.string (str t.s)) ∧ w.cell? ⟨a', o' + j * 4 + 2, none⟩ = some (.int .i64 t.i) ∧ w.cell? ⟨a', o' + j * 4 + 3, none⟩ = some (.int .u64 t.b)) :
    Calls Tryz.prog 11 #[.slice (some ⟨a, o, none⟩) l.length cap, .slice (some ⟨a', o', none⟩) l.length cap'] w fun e w' => e = .returned (.bool true) ∧ Below w.heap.size w w' := by
  obtain ⟨n, hn⟩ : ∃ n, l.length = n := ⟨_, rfl⟩
  rw [hn] at hc ⊢
  have HN := Lib.hid hn
  have HL := Lib.hid hl
  have HL' := Lib.hid hl'
  clear hn hl hl'
  go_enter Tryz.func11, Tryz.ntmps11
  go_wp2
  go_loopw [13] (fun i wr => ∃ j : Nat, j ≤ n ∧ i = .int .i64 j ∧ Below w.heap.size w wr) (fun i _ => n - (intOf i).toNat)
  case atStart => exact ⟨0, Nat.zero_le _, rfl, Below.refl _ _⟩
  case round =>
    obtain ⟨j, hj, rfl, hbw⟩ := hrel
    by_cases h1 : j < n
    · have hlt : j < l.length := by have := HN.out; omega
      obtain ⟨v, hv⟩ : ∃ v, l[j]? = some v := ⟨l[j], List.getElem?_eq_getElem hlt⟩
      obtain ⟨c0, c1, c2, c3⟩ := HL.out j v hv
      have d0 := (hbw.cell (p := ⟨a, o + j * 4, none⟩) ha).trans c0
      have d1 := (hbw.cell (p := ⟨a, o + j * 4 + 1, none⟩) ha).trans c1
      have d2 := (hbw.cell (p := ⟨a, o + j * 4 + 2, none⟩) ha).trans c2
      have d3 := (hbw.cell (p := ⟨a, o + j * 4 + 3, none⟩) ha).trans c3
      clear c0 c1 c2 c3
      obtain ⟨c0, c1, c2, c3⟩ := HL'.out j v hv
      have d0' := (hbw.cell (p := ⟨a', o' + j * 4, none⟩) ha').trans c0
      have d1' := (hbw.cell (p := ⟨a', o' + j * 4 + 1, none⟩) ha').trans c1
      have d2' := (hbw.cell (p := ⟨a', o' + j * 4 + 2, none⟩) ha').trans c2
      have d3' := (hbw.cell (p := ⟨a', o' + j * 4 + 3, none⟩) ha').trans c3
      obtain ⟨tk, ts, ti, tb⟩ := v
      simp only at d0 d1 d2 d3 d0' d1' d2' d3'
      generalize str ts = S at *
      clear c0 c1 c2 c3 hv
      go_wp2_with fail
      go_quiet (fail)
      go_wp2
      go_roundw
      case rel => exact ⟨j + 1, by omega, by go_num, below_dq hbw _⟩
      case measure => simp [intOf]; omega
    · go_wp2
      go_ret
      exact ⟨rfl, hbw⟩
theorem sameTokens_nil (ao ao' : Option Addr) (cap cap' : Nat) (w : World) :
    Calls Tryz.prog 11 #[.slice ao 0 cap, .slice ao' 0 cap'] w fun e w' => e = .returned (.bool true) ∧ Below w.heap.size w w' := by
  go_enter Tryz.func11, Tryz.ntmps11
  go_wp2
  refine wp_loop_rounds 1 ?_
  rw [rounds_succ]
  go_wp2
  go_ret
  exact ⟨rfl, Below.refl _ _⟩
theorem sameTokens_any (l : List Tok) (ao ao' : Option Addr) (cap cap' : Nat) (w : World) (hc : l.length ≤ 9223372036854775807) (hl : Toks w ao l) (hl' : Toks w ao' l) :
    Calls Tryz.prog 11 #[.slice ao l.length cap, .slice ao' l.length cap'] w fun e w' => e = .returned (.bool true) ∧ Below w.heap.size w w' := by
  rcases hl with rfl | ⟨a, o, rfl, ha, h1⟩
  · exact sameTokens_nil ao ao' cap cap' w
  · rcases hl' with rfl | ⟨a', o', rfl, ha', h1'⟩
    · exact sameTokens_nil _ ao' cap cap' w
    · exact sameTokens_some l a o cap a' o' cap' w hc ha ha' h1 h1'
/-- What two cuts of one text leave is the same. -/
theorem same_cuts (R : CR) (w1 w2 : World) (b1 b2 : Nat) (a a' : Option Addr) (n k n' k' : Nat) (p c p' c' : Int) (h1 : CutOk R w1 b1 (.slice a n k) p c) (h2 : CutOk R w2 b2 (.slice a' n' k') p' c') (hb : Below w1.heap.size w1 w2) :
    p = p' ∧ c = c' ∧ Calls Tryz.prog 11 #[.slice a n k, .slice a' n' k'] w2 fun e w' => e = .returned (.bool true) ∧ Below w2.heap.size w2 w' := by
  cases R with
  | err q e =>
    obtain ⟨e1, rfl, rfl, _⟩ := h1
    obtain ⟨e2, rfl, rfl, _⟩ := h2
    cases e1; cases e2
    exact ⟨rfl, rfl, sameTokens_nil _ _ _ _ _⟩
  | ok l =>
    obtain ⟨o1, rfl, rfl⟩ := h1
    obtain ⟨o2, rfl, rfl⟩ := h2
    obtain ⟨x1, y1, e1, g1, g2, t1⟩ := (o1.keep hb).toks
    obtain ⟨x2, y2, e2, g3, g4, t2⟩ := o2.toks
    cases e1; cases e2
    exact ⟨rfl, rfl, sameTokens_any l _ _ _ _ _ (by omega) t1 t2⟩
set_option maxHeartbeats 2000000 in
theorem lexCuts_walk (s : ByteArray) (w : World) (hE : Env w) (hs : s.size ≤ 9223372036854775807) :
    Calls Tryz.prog 3 #[.string s] w fun e w' => e = .returned (.bool true) ∧ Below w.heap.size w w' := by
  obtain ⟨l, rfl⟩ : ∃ l, s = str l := ⟨_, str_eq s⟩
  rw [str_size] at hs
  have cC := cut_any l w hs hE
  have cT := fun W hW => tokensOf_any l W hs (hE.keep hW)
  unfold CutPost at cC cT
  generalize cutR l = R at *
  generalize str l = s at *
  have CT := Lib.hid cT
  clear hs hE cT
  go_enter Tryz.func3, Tryz.ntmps3
  go_wp2_with fail
  refine cC.mono ?_
  rintro e w1 ⟨a, n, k, p, c, rfl, h1, hb1⟩
  have ct := CT.out w1 hb1
  clear cC CT
  go_wp2_with fail
  refine ct.mono ?_
  rintro e w2 ⟨a', n', k', p', c', rfl, h2, hb2⟩
  obtain ⟨rfl, rfl, hS⟩ := same_cuts R w1 w2 _ _ a a' n k n' k' p c p' c' h1.out h2.out hb2
  have hb02 := below_stepL hb1 hb1.size hb2
  have e1 : (c == c) = true := by simp
  have e2 : (p == p) = true := by simp
  clear ct h1 h2
  go_wp2_with fail
  refine hS.mono ?_
  rintro e w3 ⟨rfl, hb3⟩
  have hbb := below_stepL hb02 hb02.size hb3
  clear hS
  go_wp2_with fail
  go_ret
  exact ⟨by first | rfl | simp, hbb⟩
end Go.Proofs.YtncllcfdmiaopaaGreatDoor
