/-
  THE WALKS of the laws 'chirographkeep.FrameBack', 'FrameFixed'.
  CONDITIONS: each theorem's own hypotheses.
-/
import Derived.Test.YtmldhnghfdhjmaaParseD
import Derived.Test.YtmldhnghfdhjmaaPartsK
import Derived.Test.YtmldhnghfdhjmaaListsK
import Derived.Test.YtmldhnghfdhjmaaPicked
namespace Go.Proofs.Ytmldhnghfdhjmaa
open Go.RowKit CodeMath Go.Proofs.Ytmldhnghfdhjmaa.FrameMath
set_option linter.unusedVariables false

theorem tag_of (tag : Int) : ∃ t : Nat, 1 ≤ t ∧ t ≤ 9 ∧ 1 + tag % 9 = (t : Int) := by
  have h1 := Int.emod_nonneg tag (show (9 : Int) ≠ 0 by decide)
  have h2 := Int.emod_lt_of_pos tag (show (0 : Int) < 9 by decide)
  exact ⟨(1 + tag % 9).toNat, by omega, by omega, by omega⟩
set_option maxRecDepth 100000 in
set_option maxHeartbeats 2000000 in
theorem frameBack_walk (tag : Int) (l : List R) (ao : Option Addr) (cap : Nat) (w : World) (t0 : -9223372036854775808 ≤ tag) (t1 : tag ≤ 9223372036854775807) (hc : l.length ≤ cap) (hq : cap ≤ 9223372036854775807) (hR : Raws w ao l) :
    Calls Try.prog 5 #[.int .i64 tag, .slice ao l.length cap] w fun e w' => e = .returned (.bool true) ∧ Below w.heap.size w w' := by
  have cP := fun W => picked_any tag 9 W (by decide) (by decide) t0 t1
  have cK := partsK_any l ao cap w hc hq hR
  obtain ⟨t, h1, h9, ht⟩ := tag_of tag
  obtain ⟨k, hk⟩ : ∃ k, tag % 9 = k := ⟨_, rfl⟩
  rw [hk] at cP ht
  have hk0 : 0 ≤ k := by omega
  have hk1 : k ≤ 8 := by omega
  have ps8 := partsL_length l
  have pst := partsL_total l
  generalize partsL l = ps at *
  have hW : 2 + total ps ≤ 16777216 := by omega
  have cF := fun ap cp W h => Frame_good t h1 h9 ps ap cp ps8 hW W h
  have hpf := parse_frame t ps h1 h9 ps8 hW
  have hfl := frame_length t ps
  have cA := fun ao cap W a b c d => Parse_any (frame t ps) ao cap W a b c (by rw [hfl]; omega) d
  rw [hpf] at cA
  clear hfl
  generalize frame t ps = F at *
  clear hk pst hpf hR hW
  generalize l.length = n at *
  go_enter Try.func5, Try.ntmps5
  go_wp2_with fail
  refine (cP _).mono ?_
  rintro e w1 ⟨rfl, rfl⟩
  clear cP
  go_wp2_with fail
  refine cK.mono ?_
  rintro e w2 ⟨v2, rfl, ho2, hb2⟩
  clear cK
  obtain ⟨a2, k2, rfl, g1, g2, g3, g4⟩ := ho2.lines
  have cF' := cF a2 k2 w2 g4
  clear cF ht hk0 hk1
  have psm : ps.length ≤ 9223372036854775807 := by omega
  have HPS := Lib.hid psm
  obtain ⟨m, hm⟩ : ∃ m, ps.length = m := ⟨_, rfl⟩
  rw [hm] at cF' ps8 g1 ⊢
  have HM := Lib.hid hm
  clear hm psm
  go_wp2_with fail
  refine cF'.mono ?_
  rintro e w3 ⟨v3, rfl, ho3, hb3⟩
  clear cF'
  have hbb3 := below_step hb2 hb2.size hb3
  have hr3 := ho3.rowT.row
  obtain ⟨a3, k3, rfl, i1, i2, i3, i4⟩ := hr3
  have cA' := cA a3 k3 w3 i1 i2 i3 i4
  clear cA
  generalize F.length = fl at *
  go_wp2_with fail
  refine cA'.mono ?_
  rintro e w4 ⟨v4, rfl, ho4, hb4⟩
  clear cA'
  have hbb4 := below_step hbb3 hbb3.size hb4
  obtain ⟨a4, k4, rfl, j1, j2, j3, j4⟩ := ho4.lines
  have g5 := (g4.keep hb3).keep hb4
  have cL := keepLists_any ps ps a2 a4 k2 k4 w4 g5 j4 HPS.out HPS.out
  rw [decide_eq_true rfl, HM.out] at cL
  rw [HM.out] at j1 ⊢
  go_wp2_with fail
  refine cL.mono ?_
  rintro e w5 ⟨rfl, hb5⟩
  have hbb5 := below_step hbb4 hbb4.size hb5
  go_wp2_with fail
  go_ret
  exact ⟨rfl, hbb5⟩
end Go.Proofs.Ytmldhnghfdhjmaa
