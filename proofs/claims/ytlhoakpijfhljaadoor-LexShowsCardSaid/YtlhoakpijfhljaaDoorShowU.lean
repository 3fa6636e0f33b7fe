/-
  CONTRACT of package lex's Show.
  CONDITIONS: each theorem's own hypotheses; what 'SEnv' says.
-/
import Derived.Test.YtlhoakpijfhljaaDoorShowT
namespace Go.Proofs.YtlhoakpijfhljaaDoor
open Go.RowKit
set_option linter.unusedVariables false
set_option maxRecDepth 100000

def ShOk (R : SR) (s : ByteArray) (c : Int) : Prop := match R with
  | .err e => s = ⟨#[]⟩ ∧ c = e ∧ e ≠ 0
  | .ok t => s = str t ∧ c = 0
def ShowPost (R : SR) (w : World) (e : Ending) (w' : World) : Prop := ∃ s c, e = .returned (.tuple #[.string s, .int .i64 c]) ∧ Hid (ShOk R s c) ∧ Below w.heap.size w w'
theorem take_next {l : List Tok} {j : Nat} {t : Tok} (h : l[j]? = some t) : l.take (j + 1) = l.take j ++ [t] := by
  obtain ⟨hj, e⟩ := List.getElem?_eq_some_iff.1 h
  rw [List.take_succ_eq_append_getElem hj, e]
theorem show_bad {l : List Tok} {j : Nat} {t : Tok} (h1 : ¬ 100 < l.length) (h : l[j]? = some t) (ha : ∀ u ∈ l.take j, okT u = 0) (hb : okT t ≠ 0) : showR l = .err (okT t) := by
  obtain ⟨hj, e⟩ := List.getElem?_eq_some_iff.1 h
  have hl : l = l.take j ++ t :: l.drop (j + 1) := by
    rw [← e, ← List.drop_eq_getElem_cons hj, List.take_append_drop]
  have hf : l.find? (fun t => okT t != 0) = some t := by
    rw [hl, List.find?_append, List.find?_eq_none.2 (fun u hu => by simpa using ha u hu), List.find?_cons_of_pos (by simpa using hb)]
    rfl
  unfold showR
  rw [if_neg h1, hf]
theorem show_good {l : List Tok} (h1 : ¬ 100 < l.length) (ha : ∀ u ∈ l, okT u = 0) : showR l = if 300 < (textT l).length then .err 1 else .ok (textT l) := by
  have hf : l.find? (fun t => okT t != 0) = none := List.find?_eq_none.2 (fun u hu => by simpa using ha u hu)
  unfold showR
  rw [if_neg h1, hf]
set_option maxHeartbeats 8000000 in
theorem show_any (l : List Tok) (ao : Option Addr) (cap : Nat) (w : World) (hE : SEnv w) (hF : ∀ t ∈ l, FitT t) (hc : l.length ≤ 9223372036854775807) (hT : Toks w ao l) :
    Calls Tryd.prog 4 #[.slice ao l.length cap] w (ShowPost (showR l) w) := by
  obtain ⟨R, hR⟩ : ∃ R, showR l = R := ⟨_, rfl⟩
  rw [hR]
  unfold ShowPost
  obtain ⟨n, hn⟩ : ∃ n, l.length = n := ⟨_, rfl⟩
  by_cases h100 : 100 < n
  · have HRR : Hid (R = .err 1) := by show _ = _; rw [← hR]; unfold showR; rw [if_pos (by omega)]
    rw [hn] at hc ⊢
    have i1 : (100 : Int) < (n : Int) := by omega
    clear hR hE hF hT hn h100
    go_enter Tryd.func4, Tryd.ntmps4
    go_wp2_with fail
    go_ret2
    exact ⟨_, _, rfl, Lib.hid (by rw [HRR.out]; exact ⟨rfl, rfl, by decide⟩), Below.refl _ _⟩
  · have i1 : ¬ (100 : Int) < (n : Int) := by omega
    have hn100 : n ≤ 100 := by omega
    have hbad := fun j t h => show_bad (l := l) (j := j) (t := t) (by omega) h
    have hgood := fun h => show_good (l := l) (by omega) h
    rw [hR] at hbad hgood
    have htl := fun (j : Nat) (h : ∀ u ∈ l.take j, okT u = 0) => textT_len (l.take j) (fun u hu => ⟨hF u (List.mem_of_mem_take hu), h u hu⟩)
    rw [hn] at hc ⊢
    have HN := Lib.hid hn
    have HBAD := Lib.hid hbad
    have HGOOD := Lib.hid hgood
    have HTL := Lib.hid htl
    have HE := Lib.hid hE
    have HF := Lib.hid hF
    have HT := Lib.hid hT
    obtain ⟨w2, hw2⟩ : ∃ w2, w.alloc (.cells #[.pointer none, .slice none 0 0] 30) = w2 := ⟨_, rfl⟩
    have hb2 : Below w.heap.size w w2 := by rw [← hw2]; exact (Below.refl _ _).alloc (Nat.le_refl _) _
    have z2 : Bld w2 w.heap.size w.heap.size (textT (l.take 0)) := by rw [← hw2]; exact Bld.fresh w
    have hlt2 : w.heap.size < w2.heap.size := by rw [← hw2]; simp
    have HB2 := Lib.hid hb2
    have HZ2 := Lib.hid z2
    have HA2 : Hid (∀ u ∈ l.take 0, okT u = 0) := Lib.hid (by simp)
    clear hR hbad hgood htl hE hF hT hb2 z2 hn h100
    go_enter Tryd.func4, Tryd.ntmps4
    go_upto_region 4 with fail
    try rw [hw2]
    clear hw2
    go_wp2_with fail
    go_loopw [13] (fun i wr => ∃ j : Nat, j ≤ n ∧ i = .int .i64 j ∧ Hid (Bld wr w.heap.size w.heap.size (textT (l.take j))) ∧ Hid (∀ u ∈ l.take j, okT u = 0) ∧ Hid (Below w.heap.size w wr) ∧ w.heap.size < wr.heap.size) (fun i _ => n - (intOf i).toNat)
    case atStart => exact ⟨0, Nat.zero_le _, rfl, HZ2, HA2, HB2, hlt2⟩
    case round =>
      obtain ⟨j, hj, rfl, hz, hal, hbw, hltw⟩ := hrel
      clear HZ2 HA2 HB2 hlt2
      by_cases hlt : j < n
      · have iI : (j : Int) < (n : Int) := by omega
        have hjl : j < l.length := by rw [HN.out]; exact hlt
        obtain ⟨t, ht⟩ : ∃ t, l[j]? = some t := ⟨l[j], List.getElem?_eq_getElem hjl⟩
        have hft := HF.out t (List.mem_of_getElem? ht)
        rcases HT.out with h0 | ⟨a, o, rfl, ha, hcl⟩
        · rw [h0] at hjl; simp at hjl
        obtain ⟨x0, x1, x2, x3⟩ := hcl j t ht
        have d0 := (hbw.out.cell (p := ⟨a, o + j * 4, none⟩) ha).trans x0
        have d1 := (hbw.out.cell (p := ⟨a, o + j * 4 + 1, none⟩) ha).trans x1
        have d2 := (hbw.out.cell (p := ⟨a, o + j * 4 + 2, none⟩) ha).trans x2
        have d3 := (hbw.out.cell (p := ⟨a, o + j * 4 + 3, none⟩) ha).trans x3
        have hnext := take_next ht
        have htx : textT (l.take (j + 1)) = (if j = 0 then textT (l.take j) else textT (l.take j) ++ [32]) ++ shT t := by
          rw [hnext]
          by_cases hj0 : j = 0
          · subst hj0; simp [textT]
          · rw [if_neg hj0]
            refine textT_snoc _ _ (fun e => ?_)
            have h5 := congrArg List.length e
            rw [List.length_take, List.length_nil] at h5
            have := HN.out
            omega
        have hlen := HTL.out j hal.out
        rw [List.length_take] at hlen
        have hok1 : okT t = 0 → ∀ u ∈ l.take (j + 1), okT u = 0 := fun h u hu => by
          rw [hnext, List.mem_append] at hu
          rcases hu with hu | hu
          · exact hal.out u hu
          · rw [List.mem_singleton] at hu; rw [hu]; exact h
        have cC := fun W hW => lexCheck_any t.k t.i t.b t.s W hft.1 hft.2.1 hft.2.2.2.2 (HE.out.keep hW).tabs (HE.out.keep hW).sw
        have cS := fun W h hW => shown_any t W hft h (HE.out.keep hW)
        have hsl := fun h => shT_len t hft h
        have hbadt := HBAD.out j t ht hal.out
        obtain ⟨C, hC⟩ : ∃ C, okT t = C := ⟨_, rfl⟩
        rw [hC] at hbadt hok1 hsl cS
        have hC2 : tokC t.k t.s t.i t.b = C := hC
        simp only [hC2] at cC
        obtain ⟨tk, ts, ti, tb⟩ := t
        simp only at d0 d1 d2 d3 cC cS
        obtain ⟨SH, hSH⟩ : ∃ SH, shT ⟨tk, ts, ti, tb⟩ = SH := ⟨_, rfl⟩
        rw [hSH] at htx hsl cS
        generalize str ts = S at *
        have hbA : Below wr.heap.size wr (wr.alloc (.cells #[.int .i64 tk, .string S, .int .i64 ti, .int .u64 tb] 33)) := (Below.refl _ _).alloc (Nat.le_refl _) _
        obtain ⟨wa, hwa⟩ : ∃ wa, wr.alloc (.cells #[.int .i64 tk, .string S, .int .i64 ti, .int .u64 tb] 33) = wa := ⟨_, rfl⟩
        have zT : Blk wa wr.heap.size 33 [.int .i64 tk, .string S, .int .i64 ti, .int .u64 tb] := by rw [← hwa]; exact Blk.new wr #[.int .i64 tk, .string S, .int .i64 ti, .int .u64 tb] _
        rw [hwa] at hbA
        have hb0a := below_stepL hbw.out hbw.out.size hbA
        have za := hz.out.below hbA
        have hsa : w.heap.size < wa.heap.size := Nat.lt_of_lt_of_le hltw hbA.size
        have HTX := Lib.hid htx
        have hgn0 : Hid (wr.heap.size ≠ w.heap.size) := Lib.hid (by omega)
        have HOK := Lib.hid hok1
        have HSL := Lib.hid hsl
        have HBT := Lib.hid hbadt
        have HZA := Lib.hid za
        have cc := cC wa hb0a
        clear x0 x1 x2 x3 hcl ht hft hnext htx hok1 hsl hbadt hC hC2 hSH cC hz hal hjl za HT HF
        go_upto_region 7 with fail
        try rw [hwa]
        clear hwa d0 d1 d2 d3 hbA hbw hltw
        have hgne : wr.heap.size ≠ w.heap.size := hgn0.out
        generalize wr.heap.size = g at *
        have p0 := zT.cell (j := 0) rfl
        have p1 := zT.cell (j := 1) rfl
        have p2 := zT.cell (j := 2) rfl
        have p3 := zT.cell (j := 3) rfl
        by_cases h0 : C = 0
        · subst h0
          have HOK2 := Lib.hid (HOK.out rfl)
          have hsh := HSL.out rfl
          clear HBT HSL HOK
          go_wp2_with fail
          refine cc.mono ?_
          rintro e w3 ⟨rfl, hb3⟩
          have zT3 := zT.call hb3
          have hb03 := below_stepL hb0a hb0a.size hb3
          have z3 := HZA.out.below hb3
          have hs3 : w.heap.size < w3.heap.size := Nat.lt_of_lt_of_le hsa hb3.size
          clear cc p0 p1 p2 p3 zT hb3 hb0a hsa HZA
          by_cases hj0 : j = 0
          · have ij : ¬ (0 : Int) < (j : Int) := by omega
            have hE2 : textT (l.take (j + 1)) = textT (l.take j) ++ SH := by rw [HTX.out, if_pos hj0]
            have HE2 := Lib.hid hE2
            have p0 := zT3.cell (j := 0) rfl
            have p1 := zT3.cell (j := 1) rfl
            have p2 := zT3.cell (j := 2) rfl
            have p3 := zT3.cell (j := 3) rfl
            have cs := cS w3 trivial hb03
            clear HTX hE2 cS
            go_wp2_with fail
            refine cs.mono ?_
            rintro e w5 ⟨rfl, hb5⟩
            have z5 := z3.below hb5
            have hb05 := below_stepL hb03 hb03.size hb5
            have cW := writeString_any w.heap.size w.heap.size _ SH w5 z5 (by first | omega | (simp; omega)) (by omega) hb05.size
            have hs5 : w.heap.size < w5.heap.size := Nat.lt_of_lt_of_le hs3 hb5.size
            clear cs p0 p1 p2 p3 hb5 z5
            go_wp2_with fail
            refine cW.mono ?_
            rintro e w6 ⟨rfl, z6, hb6⟩
            have hb06 := Lib.hid (hb05.trans hb6)
            have hs6 : w.heap.size < w6.heap.size := Nat.lt_of_lt_of_le hs5 hb6.size
            have HZ6 : Hid (Bld w6 w.heap.size w.heap.size (textT (l.take (j + 1)))) := by rw [HE2.out]; exact Lib.hid z6
            clear cW z6 hb6 hb05
            go_wp2_with fail
            go_roundw
            case rel => exact ⟨j + 1, by omega, by go_num, HZ6, HOK2, hb06, hs6⟩
            case measure => simp [intOf]; omega
          · have ij : (0 : Int) < (j : Int) := by omega
            have hE2 : textT (l.take (j + 1)) = textT (l.take j) ++ [32] ++ SH := by rw [HTX.out, if_neg hj0]
            have HE2 := Lib.hid hE2
            have cB := writeByte_any w.heap.size w.heap.size (textT (l.take j)) 32 w3 z3 (by omega) (by omega)
            clear HTX hE2 z3
            go_wp2_with fail
            refine cB.mono ?_
            rintro e w4 ⟨rfl, z4, hb4, ho4⟩
            have zT4 : Blk w4 g 33 [.int .i64 tk, .string S, .int .i64 ti, .int .u64 tb] := ho4 g _ zT3 (fun e1 => hgne (Option.some.inj e1)) (fun _ _ e1 => by cases e1)
            have hb04 := hb03.trans hb4
            have p0 := zT4.cell (j := 0) rfl
            have p1 := zT4.cell (j := 1) rfl
            have p2 := zT4.cell (j := 2) rfl
            have p3 := zT4.cell (j := 3) rfl
            have cs := cS w4 trivial hb04
            have hs4 : w.heap.size < w4.heap.size := Nat.lt_of_lt_of_le hs3 hb4.size
            clear cB cS hb03 hb4 ho4 zT3 hs3
            go_wp2_with fail
            refine cs.mono ?_
            rintro e w5 ⟨rfl, hb5⟩
            have z5 := z4.below hb5
            have hb05 := below_stepL hb04 hb04.size hb5
            have cW := writeString_any w.heap.size w.heap.size _ SH w5 z5 (by first | omega | (simp; omega)) (by omega) hb05.size
            have hs5 : w.heap.size < w5.heap.size := Nat.lt_of_lt_of_le hs4 hb5.size
            clear cs p0 p1 p2 p3 hb5 z5
            go_wp2_with fail
            refine cW.mono ?_
            rintro e w6 ⟨rfl, z6, hb6⟩
            have hb06 := Lib.hid (hb05.trans hb6)
            have hs6 : w.heap.size < w6.heap.size := Nat.lt_of_lt_of_le hs5 hb6.size
            have HZ6 : Hid (Bld w6 w.heap.size w.heap.size (textT (l.take (j + 1)))) := by rw [HE2.out]; exact Lib.hid z6
            clear cW z6 hb6 hb05
            go_wp2_with fail
            go_roundw
            case rel => exact ⟨j + 1, by omega, by go_num, HZ6, HOK2, hb06, hs6⟩
            case measure => simp [intOf]; omega
        · have hx1 : (C != 0) = true := by simpa using h0
          have HRR : Hid (R = .err C) := Lib.hid (HBT.out h0)
          have HX := Lib.hid h0
          clear HBT HSL HOK HTX h0 HZA cS
          go_wp2_with fail
          refine cc.mono ?_
          rintro e w3 ⟨rfl, hb3⟩
          have hb03 := below_stepL hb0a hb0a.size hb3
          clear cc
          go_wp2_with fail
          go_ret2
          exact ⟨_, _, rfl, Lib.hid (by rw [HRR.out]; exact ⟨rfl, rfl, HX.out⟩), hb03⟩
      · have iI : ¬ (j : Int) < (n : Int) := by omega
        obtain rfl : j = n := by omega
        have htk : l.take j = l := List.take_of_length_le (by rw [HN.out]; exact Nat.le_refl _)
        have hz0 := hz.out
        have hal0 := hal.out
        rw [htk] at hz0 hal0
        have hg := HGOOD.out hal0
        have cL := builderLen_any w.heap.size w.heap.size _ wr hz0
        have cS := builderString_any w.heap.size w.heap.size _ wr hz0 hbw.out.size
        generalize textT l = TX at *
        by_cases h3 : 300 < TX.length
        · rw [if_pos h3] at hg
          have HRR := Lib.hid hg
          have i3 : (300 : Int) < (TX.length : Int) := by omega
          clear hg hz0 hal0 hz hal htk cS h3
          go_wp2_with fail
          refine cL.mono ?_
          rintro e w3 ⟨rfl, rfl⟩
          clear cL
          go_wp2_with fail
          go_ret2
          exact ⟨_, _, rfl, Lib.hid (by rw [HRR.out]; exact ⟨rfl, rfl, by decide⟩), hbw.out⟩
        · rw [if_neg h3] at hg
          have HRR := Lib.hid hg
          have i3 : ¬ (300 : Int) < (TX.length : Int) := by omega
          clear hg hz0 hal0 hz hal htk h3
          go_wp2_with fail
          refine cL.mono ?_
          rintro e w3 ⟨rfl, rfl⟩
          clear cL
          go_wp2_with fail
          refine cS.mono ?_
          rintro e w3 ⟨rfl, hb3⟩
          have hb03 := hbw.out.trans hb3
          clear cS
          go_wp2_with fail
          go_ret2
          exact ⟨_, _, rfl, Lib.hid (by rw [HRR.out]; exact ⟨rfl, rfl⟩), hb03⟩
end Go.Proofs.YtlhoakpijfhljaaDoor
