/-
  THE WALK of the law 'chirographkeep.LexFixed'.
  CONDITIONS: what 'Env' and 'SEnv' say.
-/
import Derived.Test.YtncllcfdmiaopaaGreatDoorBackC
import Derived.Test.YtncllcfdmiaopaaGreatDoorShowU
import Derived.Test.YtncllcfdmiaopaaGreatDoorCutG
namespace Go.Proofs.YtncllcfdmiaopaaGreatDoor
open Go.RowKit
set_option linter.unusedVariables false
set_option maxRecDepth 100000

theorem below_dq {B : Nat} {a w : World} (h : Below B a w) : ∀ q, Below B a (w.drewN q)
  | 0 => h
  | q + 1 => (below_dq h q).drew
set_option maxHeartbeats 2000000 in
theorem keepTokens_some (l : List Tok) (a o cap a' o' cap' : Nat) (w : World) (hc : l.length ≤ 9223372036854775807) (ha : a < w.heap.size) (ha' : a' < w.heap.size)
    (hl : ∀ j t, l[j]? = some t → w.cell? ⟨a, o + j * 4, none⟩ = some (.int .i64 t.k) ∧ w.cell? ⟨a, o + j * 4 + 1, none⟩ = some (.string (str t.s)) ∧ w.cell? ⟨a, o + j * 4 + 2, none⟩ = some (.int .i64 t.i) ∧ w.cell? ⟨a, o + j * 4 + 3, none⟩ = some (.int .u64 t.b))
    (hl' : ∀ j t, l[j]? = some t → w.cell? ⟨a', o' + j * 4, none⟩ = some (.int .i64 t.k) ∧ w.cell? ⟨a', o' + j * 4 + 1, none⟩ = some (.string (str t.s)) ∧ w.cell? ⟨a', o' + j * 4 + 2, none⟩ = some (.int .i64 t.i) ∧ w.cell? ⟨a', o' + j * 4 + 3, none⟩ = some (.int .u64 t.b)) :
    Calls Tryz.prog 14 #[.slice (some ⟨a, o, none⟩) l.length cap, .slice (some ⟨a', o', none⟩) l.length cap'] w fun e w' => e = .returned (.bool true) ∧ Below w.heap.size w w' := by
  obtain ⟨n, hn⟩ : ∃ n, l.length = n := ⟨_, rfl⟩
  rw [hn] at hc ⊢
  have HN := Lib.hid hn
  have HL := Lib.hid hl
  have HL' := Lib.hid hl'
  clear hn hl hl'
  go_enter Tryz.func14, Tryz.ntmps14
  go_wp2
  go_loopw [13] (fun i wr => ∃ j : Nat, j ≤ n ∧ i = .int .i64 j ∧ Below w.heap.size w wr) (fun i _ => n - (intOf i).toNat)
  case atStart => exact ⟨0, Nat.zero_le _, rfl, Below.refl _ _⟩
  case round =>
    obtain ⟨j, hj, rfl, hbw⟩ := hrel
    by_cases h1 : j < n
    · have hlt : j < l.length := by have := HN.out; omega
      obtain ⟨v, hv⟩ : ∃ v, l[j]? = some v := ⟨l[j], List.getElem?_eq_getElem hlt⟩
      obtain ⟨c0, c1, c2, c3⟩ := HL.out j v hv
      have d0 := (hbw.cell (p := ⟨a, o + j * 4, none⟩) ha).trans c0
      have d1 := (hbw.cell (p := ⟨a, o + j * 4 + 1, none⟩) ha).trans c1
      have d2 := (hbw.cell (p := ⟨a, o + j * 4 + 2, none⟩) ha).trans c2
      have d3 := (hbw.cell (p := ⟨a, o + j * 4 + 3, none⟩) ha).trans c3
      clear c0 c1 c2 c3
      obtain ⟨c0, c1, c2, c3⟩ := HL'.out j v hv
      have d0' := (hbw.cell (p := ⟨a', o' + j * 4, none⟩) ha').trans c0
      have d1' := (hbw.cell (p := ⟨a', o' + j * 4 + 1, none⟩) ha').trans c1
      have d2' := (hbw.cell (p := ⟨a', o' + j * 4 + 2, none⟩) ha').trans c2
      have d3' := (hbw.cell (p := ⟨a', o' + j * 4 + 3, none⟩) ha').trans c3
      obtain ⟨tk, ts, ti, tb⟩ := v
      simp only at d0 d1 d2 d3 d0' d1' d2' d3'
      generalize str ts = S at *
      clear c0 c1 c2 c3 hv
      go_wp2_with fail
      go_quiet (fail)
      go_wp2
      go_roundw
      case rel => exact ⟨j + 1, by omega, by go_num, below_dq hbw _⟩
      case measure => simp [intOf]; omega
    · go_wp2
      go_ret
      exact ⟨rfl, hbw⟩
theorem keepTokens_nil (ao ao' : Option Addr) (cap cap' : Nat) (w : World) :
    Calls Tryz.prog 14 #[.slice ao 0 cap, .slice ao' 0 cap'] w fun e w' => e = .returned (.bool true) ∧ Below w.heap.size w w' := by
  go_enter Tryz.func14, Tryz.ntmps14
  go_wp2
  refine wp_loop_rounds 1 ?_
  rw [rounds_succ]
  go_wp2
  go_ret
  exact ⟨rfl, Below.refl _ _⟩
theorem keepTokens_any (l : List Tok) (ao ao' : Option Addr) (cap cap' : Nat) (w : World) (hc : l.length ≤ 9223372036854775807) (hl : Toks w ao l) (hl' : Toks w ao' l) :
    Calls Tryz.prog 14 #[.slice ao l.length cap, .slice ao' l.length cap'] w fun e w' => e = .returned (.bool true) ∧ Below w.heap.size w w' := by
  rcases hl with rfl | ⟨a, o, rfl, ha, h1⟩
  · exact keepTokens_nil ao ao' cap cap' w
  · rcases hl' with rfl | ⟨a', o', rfl, ha', h1'⟩
    · exact keepTokens_nil _ ao' cap cap' w
    · exact keepTokens_some l a o cap a' o' cap' w hc ha ha' h1 h1'
theorem num_int {d : List UInt8} {t : Tok} {n : Nat} (h : numR d = .ok t n) : 0 ≤ t.i ∧ t.i ≤ 9223372036854775807 := by
  unfold numR at h
  split at h
  · cases h
  · split at h
    · cases h
    · cases h; exact ⟨by simp, by simp only; omega⟩
theorem read_int (l : List UInt8) (t : Tok) (n : Nat) (h : readR l = .ok t n) : 0 ≤ t.i ∧ t.i ≤ 9223372036854775807 := by
  cases l with
  | nil => cases h
  | cons c r =>
    simp only [readR] at h
    split at h
    · cases h; exact ⟨by simp, by simp⟩
    split at h
    · cases h; exact ⟨by simp, by simp⟩
    split at h
    · exact num_int h
    split at h
    · unfold quoteP at h
      cases he : endQ ((c :: r).drop 1) 1 with
      | none => rw [he] at h; cases h
      | some p => rw [he] at h; cases h; exact ⟨by simp, by simp⟩
    split at h
    · unfold realP at h
      cases he : hexF 16 ((c :: r).drop 1) 0 with
      | err e => rw [he] at h; cases h
      | ok b => rw [he] at h; cases h; exact ⟨by simp, by simp⟩
    · cases h; exact ⟨by simp, by simp⟩
theorem first_fit {l : List UInt8} {t : Tok} {n : Nat} (hl : l.length ≤ 9223372036854775807) (h : firstR l = .ok t n) : FitT t ∧ okT t = 0 := by
  cases l with
  | nil => cases h
  | cons c r =>
    have he := first_eq (c :: r) (by simp)
    rw [h] at he
    cases hq : readR (c :: r) with
    | err e => rw [hq] at he; cases he
    | ok u m =>
      rw [hq] at he
      simp only at he
      split at he
      · rename_i h0
        cases he
        obtain ⟨a1, a2, a3⟩ := read_fits _ _ _ hq
        obtain ⟨b1, b2⟩ := read_int _ _ _ hq
        exact ⟨⟨a1, a2, by omega, b2, by omega⟩, h0⟩
      · cases he
theorem cut_fit : ∀ (f : Nat) (l : List UInt8) (p : Nat) (acc m : List Tok), l.length ≤ 9223372036854775807 → (∀ t ∈ acc, FitT t ∧ okT t = 0) → acc.length ≤ 100 → cutF f l p acc = .ok m → (∀ t ∈ m, FitT t ∧ okT t = 0) ∧ m.length ≤ 100
  | 0, l, p, acc, m, hl, ha, hn, h => by cases h; exact ⟨ha, hn⟩
  | f + 1, l, p, acc, m, hl, ha, hn, h => by
    simp only [cutF] at h
    split at h
    · split at h
      · cases h
      · rename_i h100
        cases hq : firstR (l.drop p) with
        | err e => rw [hq] at h; cases h
        | ok t n =>
          rw [hq] at h
          have ht := first_fit (by rw [List.length_drop]; omega) hq
          refine cut_fit f l _ (acc ++ [t]) m hl (fun u hu => ?_) (by rw [List.length_append, List.length_singleton]; omega) h
          rw [List.mem_append, List.mem_singleton] at hu
          rcases hu with hu | rfl
          · exact ha u hu
          · exact ht
    · cases h; exact ⟨ha, hn⟩
theorem cut_errs : ∀ (f : Nat) (l : List UInt8) (p : Nat) (acc : List Tok) (q : Nat) (e : Int), cutF f l p acc = .err q e → q ≤ l.length
  | 0, l, p, acc, q, e, h => by cases h
  | f + 1, l, p, acc, q, e, h => by
    simp only [cutF] at h
    split at h
    · rename_i hp
      split at h
      · cases h; omega
      · cases hq : firstR (l.drop p) with
        | err x => rw [hq] at h; cases h; omega
        | ok t n => rw [hq] at h; exact cut_errs f l _ _ q e h
    · cases h
theorem cutR_err {l : List UInt8} {q : Nat} {e : Int} (h : cutR l = .err q e) : q ≤ l.length := by
  unfold cutR at h
  split at h
  · cases h; omega
  · exact cut_errs _ _ _ _ _ _ h
theorem cutR_ok {l : List UInt8} {m : List Tok} (h : cutR l = .ok m) : (∀ t ∈ m, FitT t ∧ okT t = 0) ∧ m.length ≤ 100 := by
  unfold cutR at h
  split at h
  · cases h
  · exact cut_fit _ l _ [] m (by omega) (by simp) (by simp) h
theorem check_none (w : World) (hT : Tabs w) (hS : SW w) : Calls Tryz.prog 15 #[.agg #[.int .i64 0, .string ⟨#[]⟩, .int .i64 0, .int .u64 0]] w fun e w' => e = .returned (.int .i64 2) ∧ Below w.heap.size w w' :=
  lexCheck_any 0 0 0 [] w (by decide) (by decide) (by simp) hT hS
set_option maxHeartbeats 8000000 in
theorem lexFixed_walk (s : ByteArray) (w : World) (hE : Env w) (hSE : SEnv w) (hs : s.size ≤ 9223372036854775807) :
    Calls Tryz.prog 5 #[.string s] w fun e w' => e = .returned (.bool true) ∧ Below w.heap.size w w' := by
  obtain ⟨l, rfl⟩ : ∃ l, s = str l := ⟨_, str_eq s⟩
  have hsz := str_size l
  rw [str_size] at hs
  have cC := cut_any l w hs hE
  have herr := fun q e => cutR_err (l := l) (q := q) (e := e)
  have hokk := fun m => cutR_ok (l := l) (m := m)
  unfold CutPost at cC
  generalize cutR l = R at *
  generalize str l = s at *
  have HE := Lib.hid hE
  have HSE := Lib.hid hSE
  have HERR := Lib.hid herr
  have HOK := Lib.hid hokk
  generalize l.length = n at *
  have hsI : (s.size : Int) = (n : Int) := by omega
  clear hE hSE herr hokk hsz
  go_enter Tryz.func5, Tryz.ntmps5
  go_wp2_with fail
  refine cC.mono ?_
  rintro e w1 ⟨a, an, k, p, c, rfl, h1, hb1⟩
  clear cC
  cases R with
  | err q e =>
    obtain ⟨hv, rfl, rfl, hc0⟩ := h1.out
    cases hv
    have hq := HERR.out q c rfl
    have hx1 : (c != 0) = true := by simpa using hc0
    have hqI : (q : Int) ≤ (s.size : Int) := by omega
    have ck := check_none w1 (tabs_below HE.out.tabs hb1) (HE.out.sw.keep hb1 (Nat.le_refl _))
    clear HERR HOK h1 hc0 hq hsI
    go_wp2_with fail
    refine ck.mono ?_
    rintro e w2 ⟨rfl, hb2⟩
    have hbb := below_stepL hb1 hb1.size hb2
    clear ck
    go_wp2_with fail
    go_ret
    exact ⟨by first | rfl | trivial, hbb⟩
  | ok m =>
    obtain ⟨ho, rfl, rfl⟩ := h1.out
    obtain ⟨hfit, h100⟩ := HOK.out m rfl
    obtain ⟨ao, cap, hv, g1, g2, ht⟩ := ho.toks
    cases hv
    have hlen := g1
    have HFIT := Lib.hid hfit
    have HT := Lib.hid ht
    have hE1 := Lib.hid (HE.out.keep hb1)
    have hSE1 := Lib.hid (HSE.out.keep hb1)
    have HB1 := Lib.hid hb1
    have hcut := cut_show m hfit h100
    have hgood := show_good (l := m) (by omega) (fun u hu => (hfit u hu).2)
    have HCUT := Lib.hid hcut
    have HGOOD := Lib.hid hgood
    have cSh := fun W hW hTk => show_any m a k W ((hSE1.out).keep hW) (fun t h => (HFIT.out t h).1) (by omega) hTk
    obtain ⟨N, hN⟩ : ∃ N, m.length = N := ⟨_, rfl⟩
    rw [hN] at h100 cSh g1
    simp only [hN]
    have HN := Lib.hid hN
    have CSH := Lib.hid cSh
    clear HERR HOK h1 ho hfit ht hcut hgood hb1 hsI hN hlen HE HSE cSh
    go_wp2_with fail
    go_loopw [37] (fun i wr => ∃ j : Nat, j ≤ N ∧ i = .int .i64 j ∧ Hid (Below w1.heap.size w1 wr)) (fun i _ => N - (intOf i).toNat)
    case atStart => exact ⟨0, Nat.zero_le _, rfl, Lib.hid (Below.refl _ _)⟩
    case round =>
      obtain ⟨j, hj, rfl, hbw⟩ := hrel
      by_cases hlt : j < N
      · have iI : (j : Int) < (N : Int) := by omega
        have hjl : j < m.length := by rw [HN.out]; exact hlt
        obtain ⟨t, htj⟩ : ∃ t, m[j]? = some t := ⟨m[j], List.getElem?_eq_getElem hjl⟩
        obtain ⟨hft, hok⟩ := HFIT.out t (List.mem_of_getElem? htj)
        rcases HT.out with h0 | ⟨a, o, rfl, ha, hcl⟩
        · rw [h0] at hjl; simp at hjl
        obtain ⟨x0, x1, x2, x3⟩ := hcl j t htj
        have d0 := (hbw.out.cell (p := ⟨a, o + j * 4, none⟩) ha).trans x0
        have d1 := (hbw.out.cell (p := ⟨a, o + j * 4 + 1, none⟩) ha).trans x1
        have d2 := (hbw.out.cell (p := ⟨a, o + j * 4 + 2, none⟩) ha).trans x2
        have d3 := (hbw.out.cell (p := ⟨a, o + j * 4 + 3, none⟩) ha).trans x3
        have cC := fun W hW => lexCheck_any t.k t.i t.b t.s W hft.1 hft.2.1 hft.2.2.2.2 (hSE1.out.keep hW).tabs (hSE1.out.keep hW).sw
        have hok2 : tokC t.k t.s t.i t.b = 0 := hok
        simp only [hok2] at cC
        obtain ⟨tk, ts, ti, tb⟩ := t
        simp only at d0 d1 d2 d3 cC
        generalize str ts = S at *
        have hbA : Below wr.heap.size wr (wr.alloc (.cells #[.int .i64 tk, .string S, .int .i64 ti, .int .u64 tb] 34)) := (Below.refl _ _).alloc (Nat.le_refl _) _
        obtain ⟨wa, hwa⟩ : ∃ wa, wr.alloc (.cells #[.int .i64 tk, .string S, .int .i64 ti, .int .u64 tb] 34) = wa := ⟨_, rfl⟩
        have zT : Blk wa wr.heap.size 34 [.int .i64 tk, .string S, .int .i64 ti, .int .u64 tb] := by rw [← hwa]; exact Blk.new wr #[.int .i64 tk, .string S, .int .i64 ti, .int .u64 tb] _
        rw [hwa] at hbA
        have hb0a := below_stepL hbw.out hbw.out.size hbA
        have cc := cC wa hb0a
        clear x0 x1 x2 x3 hcl htj hft hok hok2 cC hjl HT HCUT HGOOD CSH
        go_upto_region 7 with fail
        try rw [hwa]
        clear hwa d0 d1 d2 d3 hbA hbw
        generalize wr.heap.size = g at *
        have p0 := zT.cell (j := 0) rfl
        have p1 := zT.cell (j := 1) rfl
        have p2 := zT.cell (j := 2) rfl
        have p3 := zT.cell (j := 3) rfl
        go_wp2_with fail
        refine cc.mono ?_
        rintro e w3 ⟨rfl, hb3⟩
        have hb03 := Lib.hid (below_stepL hb0a hb0a.size hb3)
        clear cc p0 p1 p2 p3 zT hb3 hb0a
        go_wp2_with fail
        go_roundw
        case rel => exact ⟨j + 1, by omega, by go_num, hb03⟩
        case measure => simp [intOf]; omega
      · have iI : ¬ (j : Int) < (N : Int) := by omega
        have cs := CSH.out wr hbw.out (HT.out.keep hbw.out)
        rw [HGOOD.out] at cs
        unfold ShowPost at cs
        have hbw0 := Lib.hid (below_stepL HB1.out HB1.out.size hbw.out)
        by_cases h3 : 300 < (textT m).length
        · rw [if_pos h3] at cs
          clear CSH HGOOD HCUT HFIT HT
          go_wp2_with fail
          refine cs.mono ?_
          rintro e w3 ⟨u, f, rfl, hsh, hb3⟩
          obtain ⟨rfl, rfl, _⟩ := hsh.out
          have hb13 := below_stepL hbw.out hbw.out.size hb3
          have c2 := cut_any [] w3 (by simp) (hE1.out.keep hb13)
          unfold CutPost at c2
          have c2 : Calls Tryz.prog 9 #[.string ⟨#[]⟩] w3 _ := c2
          have hb03 := below_stepL hbw0.out hbw0.out.size hb3
          clear cs hsh hb3
          go_wp2_with fail
          refine c2.mono ?_
          rintro e w4 ⟨a4, n4, k4, p4, c4, rfl, _, hb4⟩
          have hb14 := below_stepL hb13 hb13.size hb4
          have hb04 := below_stepL hb03 hb03.size hb4
          have ck := check_none w4 (tabs_below hE1.out.tabs hb14) (hE1.out.sw.keep hb14 (Nat.le_refl _))
          clear c2 hb4 hb13 hb03
          go_wp2_with fail
          refine ck.mono ?_
          rintro e w5 ⟨rfl, hb5⟩
          have hbb := below_stepL hb04 hb04.size hb5
          clear ck
          go_wp2_with fail
          go_ret
          exact ⟨by first | rfl | trivial, hbb⟩
        · rw [if_neg h3] at cs
          have hct := HCUT.out (by omega)
          have htk := HT.out
          clear CSH HGOOD HCUT HFIT
          go_wp2_with fail
          refine cs.mono ?_
          rintro e w3 ⟨u, f, rfl, hsh, hb3⟩
          obtain ⟨rfl, rfl⟩ := hsh.out
          have hb13 := below_stepL hbw.out hbw.out.size hb3
          have c2 := cut_any (textT m) w3 (by omega) (hE1.out.keep hb13)
          rw [hct] at c2
          unfold CutPost at c2
          have hb03 := below_stepL hbw0.out hbw0.out.size hb3
          generalize str (textT m) = U at *
          clear cs hsh hb3 hct
          go_wp2_with fail
          refine c2.mono ?_
          rintro e w4 ⟨a4, n4, k4, p4, c4, rfl, h4, hb4⟩
          obtain ⟨ho4, rfl, rfl⟩ := h4.out
          obtain ⟨ao4, cap4, hv4, g4, g5, ht4⟩ := ho4.toks
          cases hv4
          have hb14 := below_stepL hb13 hb13.size hb4
          have hb04 := below_stepL hb03 hb03.size hb4
          have ck := check_none w4 (tabs_below hE1.out.tabs hb14) (hE1.out.sw.keep hb14 (Nat.le_refl _))
          have HT4 := Lib.hid ht4
          have HB14 := Lib.hid hb14
          have HB04 := Lib.hid hb04
          rw [HN.out]
          clear c2 hb4 hb13 hb03 h4 ho4 ht4 htk hb14 hb04
          go_wp2_with fail
          refine ck.mono ?_
          rintro e w5 ⟨rfl, hb5⟩
          have hb15 := below_stepL HB14.out HB14.out.size hb5
          have hb05 := below_stepL HB04.out HB04.out.size hb5
          have kt := keepTokens_any m a a4 k k4 w5 (by omega) (HT.out.keep hb15) (HT4.out.keep hb5)
          rw [HN.out] at kt
          clear ck hb5
          go_wp2_with fail
          refine kt.mono ?_
          rintro e w6 ⟨rfl, hb6⟩
          have hbb := below_stepL hb05 hb05.size hb6
          clear kt
          go_wp2_with fail
          go_ret
          exact ⟨by first | rfl | trivial, hbb⟩
end Go.Proofs.YtncllcfdmiaopaaGreatDoor
