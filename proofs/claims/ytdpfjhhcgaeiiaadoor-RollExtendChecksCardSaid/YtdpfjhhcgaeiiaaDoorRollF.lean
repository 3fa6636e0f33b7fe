/-
  CONTRACTS of package roll's digester: inclusion.
  CONDITIONS: package sum's roundWords hold what their initialiser lays ('KW').
-/
import Derived.Test.YtdpfjhhcgaeiiaaDoorRollC
import Derived.Test.YtdpfjhhcgaeiiaaDoorRollQ
namespace Go.Proofs.YtdpfjhhcgaeiiaaDoor
open Go.RowKit CodeMath Go.Proofs.YtdpfjhhcgaeiiaaDoor.FrameMath
set_option linter.unusedVariables false
set_option maxRecDepth 100000

theorem grown_below {w w1 w2 : World} {P : Nat} (h : w.grownBy w1 (some P)) (hb : Below w.heap.size w1 w2) : w.grownBy w2 (some P) :=
  ⟨hb.os.trans h.os, hb.tape.trans h.tape, hb.output.trans h.output, Nat.le_trans h.size hb.size, fun k hk hn => (hb.block k hk).trans (h.block k hk hn)⟩
theorem incP_one (m : Int) (h : Nat) (l : List (List UInt8)) (i : Nat) (hl : l.length ≤ 1) : incP m h l i = [] := by
  cases h with
  | zero => rfl
  | succ h => show (if l.length ≤ 1 then [] else _) = _; rw [if_pos hl]
set_option maxHeartbeats 8000000 in
theorem inclusion_any (g : Nat) (m e : Int) (m0 : -9223372036854775808 ≤ m) (m1 : m ≤ 9223372036854775807) : ∀ (h : Nat) (l : List (List UInt8)) (i : Nat) (ap : Option Addr) (cap : Nat) (w : World), l.length ≤ 2 ^ h → l.length ≤ 64 → i < l.length → l.length ≤ cap → cap ≤ 9223372036854775807 → (∀ x ∈ l, x.length ≤ 140737488351232) → (e ≠ 0 ∨ ∃ z, rollR m l = .ok z) → Lines w ap l → KW w → DigW w g m e →
    Calls Tryd.prog 75 #[.pointer (some ⟨g, 0, none⟩), .slice ap l.length cap, .int .i64 (i : Int)] w (IncPost g w.heap.size m e l.length (incP m h l i) w)
  | h, l, i, ap, cap, w, hh, h64, hi, hc, hq, hB, hz, hl, hT, hD => by
    by_cases h2 : 2 ≤ l.length
    · cases h with
      | zero => simp at hh; omega
      | succ h =>
        have hgl := hD.lt
        obtain ⟨z1, z2⟩ := parts_ok h2 hz
        have hf3 := hf_lt h2
        have hfu := hf_fuel h2 hh
        have cP := fun W => parts_any ap l.length cap h2 h64 hc hq W
        have lt1 : (l.take (hf l.length)).length = hf l.length := by rw [List.length_take]; omega
        have ld1 : (l.drop (hf l.length)).length = l.length - hf l.length := by rw [List.length_drop]
        have hlA := hl.take (hf l.length)
        have hlB := hl.drop (hf l.length) l.length rfl
        by_cases hik : i < hf l.length
        · have cI := fun W hl hT hD => inclusion_any g m e m0 m1 h (l.take (hf l.length)) i ap (hf l.length) W (by omega) (by omega) (by omega) (by omega) (by omega) (fun x hx => hB x (List.mem_of_mem_take hx)) z1 hl hT hD
          have cR := fun W hl hT hD => rootD_any g m m0 m1 _ (l.drop (hf l.length)) (pieceA ap (hf l.length) l.length) (l.length - hf l.length) e W (Nat.le_refl _) (by omega) (by omega) (by omega) (fun x hx => hB x (List.mem_of_mem_drop hx)) hl hT hD
          obtain ⟨b, hb, hb0⟩ := st_part z2
          rw [hb] at cR
          rw [lt1] at cI
          rw [ld1] at cR
          have HT := Lib.hid (show e = 0 → incP m (h + 1) l i = incP m h (l.take (hf l.length)) i ++ [b] from fun he => by
            simp only [incP]
            rw [if_neg (by omega), if_pos hik, hb0 he])
          generalize incP m (h + 1) l i = T at *
          generalize incP m h (l.take (hf l.length)) i = T1 at *
          have hikI : (i : Int) < (hf l.length : Int) := by omega
          have hneI : ¬ (l.length : Int) = 1 := by omega
          have HR2 := Lib.hid (show l.length - hf l.length < l.length ∧ hf l.length < l.length ∧ l.length ≤ 64 by omega)
          generalize pieceA ap (hf l.length) l.length = ap2 at *
          generalize l.length - hf l.length = r2 at *
          generalize hf l.length = r1 at *
          generalize l.length = n at *
          clear hB hf3 lt1 ld1 hh h64 h2 hl hz z1 z2 hb hb0 hi hfu hik
          go_enter Tryd.func75, Tryd.ntmps75
          go_wp2_with fail
          refine (cP _).mono ?_
          rintro ex w1 ⟨rfl, hb1⟩
          have hD1 := hD.keep hb1
          have hT1 := hT.keep hb1 (Nat.le_refl _)
          have hlA1 := hlA.keep hb1
          have hlB1 := hlB.keep hb1
          have hg1 := mv_below (P := g) hb1
          clear cP hlA hlB hT hD
          go_wp2_with fail
          refine (cI _ hlA1 hT1 hD1).mono ?_
          rintro ex w2 ⟨v2, rows, rfl, ho2, hrl, hr0, hD2, hg2⟩
          have hT2 := hT1.moved hD1 hg2
          have hl2 := hlB1.moved hD1 hg2
          have hg3 := grown_trans hg1 hg2
          have hs2 : w.heap.size ≤ w2.heap.size := Nat.le_trans hb1.size hg2.size
          have ho2' := ho2.base hb1.size
          clear cI hlA1 hlB1 hT1 hD1 hg1 hg2 ho2 hb1
          obtain ⟨ao2, ca2, rfl, _⟩ := ho2'.lines
          go_wp2_with fail
          refine (cR _ hl2 hT2 hD2).mono ?_
          rintro ex w3 ⟨v3, rfl, hr3, hD3, hg4⟩
          have ho3 := ho2'.moved hD2 hg4
          have hg5 := grown_trans hg3 hg4
          have hs3 : w.heap.size ≤ w3.heap.size := Nat.le_trans hs2 hg4.size
          clear cR hl2 hT2 hD2 hg3 hg4 ho2' hs2
          obtain ⟨a3, n3, k3, rfl⟩ : ∃ a n k, v3 = .slice a n k := by obtain ⟨a, k, e, _⟩ := hr3; exact ⟨_, _, _, e⟩
          have HR := Lib.hid hrl
          generalize hrn : rows.length = rn at *
          have HRE := Lib.hid hrn
          clear hrl hrn
          go_wp2_with (first
            | (at_builtin; refine wpList_append_line rfl _ _ rfl w.heap.size _ rows rfl ho3 _ b _ rfl rfl hr3 (by have := HRE.out; have := HR.out; have := HR2.out; omega) hs3 ?_; intro v5 w5 ho5 hb5)
            | fail)
          have hD5 : DigW w5 g m e := Blk.keep hD3 hb5 hgl
          have hg6 := grown_below hg5 hb5
          go_ret
          refine ⟨_, _, rfl, ho5, ?_, fun he => ?_, hD5, hg6⟩
          · rw [List.length_append, HRE.out]; have := HR.out; have := HR2.out; simp; omega
          · rw [HT.out he, hr0 he]
        · have cI := fun W hl hT hD => inclusion_any g m e m0 m1 h (l.drop (hf l.length)) (i - hf l.length) (pieceA ap (hf l.length) l.length) (l.length - hf l.length) W (by omega) (by omega) (by omega) (by omega) (by omega) (fun x hx => hB x (List.mem_of_mem_drop hx)) z2 hl hT hD
          have cR := fun W hl hT hD => rootD_any g m m0 m1 _ (l.take (hf l.length)) ap (hf l.length) e W (Nat.le_refl _) (by omega) (by omega) (by omega) (fun x hx => hB x (List.mem_of_mem_take hx)) hl hT hD
          obtain ⟨b, hb, hb0⟩ := st_part z1
          have hsub2 : ((i - hf l.length : Nat) : Int) = (i : Int) - (hf l.length : Int) := by omega
          rw [hb] at cR
          rw [ld1, hsub2] at cI
          rw [lt1] at cR
          have HT := Lib.hid (show e = 0 → incP m (h + 1) l i = incP m h (l.drop (hf l.length)) (i - hf l.length) ++ [b] from fun he => by
            simp only [incP]
            rw [if_neg (by omega), if_neg hik, hb0 he])
          generalize incP m (h + 1) l i = T at *
          generalize incP m h (l.drop (hf l.length)) (i - hf l.length) = T1 at *
          have hikI : ¬ (i : Int) < (hf l.length : Int) := by omega
          have hfI : (hf l.length : Int) ≤ 64 := by omega
          have hiI : (i : Int) ≤ 64 := by omega
          have hneI : ¬ (l.length : Int) = 1 := by omega
          have HR2 := Lib.hid (show l.length - hf l.length < l.length ∧ hf l.length < l.length ∧ l.length ≤ 64 by omega)
          generalize pieceA ap (hf l.length) l.length = ap2 at *
          generalize l.length - hf l.length = r2 at *
          generalize hf l.length = r1 at *
          generalize l.length = n at *
          clear hB hf3 lt1 ld1 hh h64 h2 hl hz z1 z2 hb hb0 hi hfu hik hsub2
          go_enter Tryd.func75, Tryd.ntmps75
          go_wp2_with fail
          refine (cP _).mono ?_
          rintro ex w1 ⟨rfl, hb1⟩
          have hD1 := hD.keep hb1
          have hT1 := hT.keep hb1 (Nat.le_refl _)
          have hlA1 := hlA.keep hb1
          have hlB1 := hlB.keep hb1
          have hg1 := mv_below (P := g) hb1
          clear cP hlA hlB hT hD
          go_wp2_with fail
          refine (cI _ hlB1 hT1 hD1).mono ?_
          rintro ex w2 ⟨v2, rows, rfl, ho2, hrl, hr0, hD2, hg2⟩
          have hT2 := hT1.moved hD1 hg2
          have hl2 := hlA1.moved hD1 hg2
          have hg3 := grown_trans hg1 hg2
          have hs2 : w.heap.size ≤ w2.heap.size := Nat.le_trans hb1.size hg2.size
          have ho2' := ho2.base hb1.size
          clear cI hlA1 hlB1 hT1 hD1 hg1 hg2 ho2 hb1
          obtain ⟨ao2, ca2, rfl, _⟩ := ho2'.lines
          go_wp2_with fail
          refine (cR _ hl2 hT2 hD2).mono ?_
          rintro ex w3 ⟨v3, rfl, hr3, hD3, hg4⟩
          have ho3 := ho2'.moved hD2 hg4
          have hg5 := grown_trans hg3 hg4
          have hs3 : w.heap.size ≤ w3.heap.size := Nat.le_trans hs2 hg4.size
          clear cR hl2 hT2 hD2 hg3 hg4 ho2' hs2
          obtain ⟨a3, n3, k3, rfl⟩ : ∃ a n k, v3 = .slice a n k := by obtain ⟨a, k, e, _⟩ := hr3; exact ⟨_, _, _, e⟩
          have HR := Lib.hid hrl
          generalize hrn : rows.length = rn at *
          have HRE := Lib.hid hrn
          clear hrl hrn
          go_wp2_with (first
            | (at_builtin; refine wpList_append_line rfl _ _ rfl w.heap.size _ rows rfl ho3 _ b _ rfl rfl hr3 (by have := HRE.out; have := HR.out; have := HR2.out; omega) hs3 ?_; intro v5 w5 ho5 hb5)
            | fail)
          have hD5 : DigW w5 g m e := Blk.keep hD3 hb5 hgl
          have hg6 := grown_below hg5 hb5
          go_ret
          refine ⟨_, _, rfl, ho5, ?_, fun he => ?_, hD5, hg6⟩
          · rw [List.length_append, HRE.out]; have := HR.out; have := HR2.out; simp; omega
          · rw [HT.out he, hr0 he]
    · have h1 : l.length = 1 := by omega
      rw [incP_one m h l i (by omega), h1]
      rw [h1] at hc
      have ho := OwnL.nil w w.heap.size
      clear hB hz hl hT h2 hh h64 hi hc hq
      go_enter Tryd.func75, Tryd.ntmps75
      go_wp2_with fail
      go_ret
      exact ⟨_, [], rfl, ho, by simp, fun _ => rfl, hD, mv_refl _ _⟩
end Go.Proofs.YtdpfjhhcgaeiiaaDoor
