/-
  THE WALK of the law 'chirographkeep.OpenTells'.
  CONDITIONS: package sum's roundWords hold what their initialiser lays ('KW').
-/
import Derived.Test.YtmldhnghfdhjmaaDoorDigA
import Derived.Test.YtmldhnghfdhjmaaDoorGParse
import Derived.Test.YtmldhnghfdhjmaaDoorPartsK
import Derived.Test.YtmldhnghfdhjmaaDoorListsK
import Derived.Test.YtmldhnghfdhjmaaDoorPicked
namespace Go.Proofs.YtmldhnghfdhjmaaDoor
open Go.RowKit CodeMath Go.Proofs.YtmldhnghfdhjmaaDoor.FrameMath
set_option linter.unusedVariables false

theorem tag_of (tag : Int) : ∃ t : Nat, 1 ≤ t ∧ t ≤ 9 ∧ 1 + tag % 9 = (t : Int) := by
  have h1 := Int.emod_nonneg tag (show (9 : Int) ≠ 0 by decide)
  have h2 := Int.emod_lt_of_pos tag (show (0 : Int) < 9 by decide)
  exact ⟨(1 + tag % 9).toNat, by omega, by omega, by omega⟩
theorem digR_good (m : Int) (hm : m = 1 ∨ m = 2) (t : Nat) (h1 : 1 ≤ t) (h9 : t ≤ 9) (ps : List (List UInt8)) (h8 : ps.length ≤ 8) (hW : 2 + total ps ≤ 16777216) : digR m t ps = .ok (digB m t ps) := by
  unfold digR
  have e : isMode m = true := by unfold isMode; simpa using hm
  rw [if_neg (by rw [e]; decide), if_neg (by omega), if_neg (by omega), Int.toNat_natCast]
set_option maxRecDepth 100000 in
set_option maxHeartbeats 2000000 in
theorem openTells_walk (tag : Int) (l : List R) (ao : Option Addr) (cap : Nat) (w : World) (hT : KW w) (t0 : -9223372036854775808 ≤ tag) (t1 : tag ≤ 9223372036854775807) (hc : l.length ≤ cap) (hq : cap ≤ 9223372036854775807) (hR : Raws w ao l) :
    Calls Tryd.prog 5 #[.int .i64 tag, .slice ao l.length cap] w fun e w' => e = .returned (.bool true) ∧ Below w.heap.size w w' := by
  have cP := fun W => picked_any tag 9 W (by decide) (by decide) t0 t1
  have cK := partsK_any l ao cap w hc hq hR
  obtain ⟨t, h1, h9, ht⟩ := tag_of tag
  obtain ⟨k, hk⟩ : ∃ k, tag % 9 = k := ⟨_, rfl⟩
  rw [hk] at cP ht
  have hk0 : 0 ≤ k := by omega
  have hk1 : k ≤ 8 := by omega
  have ps8 := partsL_length l
  have pst := partsL_total l
  generalize partsL l = ps at *
  have hW : 2 + total ps ≤ 16777216 := by omega
  have hB : ∀ p ∈ ps, p.length ≤ 140737488351232 := fun p h => by have := total_mem ps p h; omega
  have cO := fun ap cp W h hk => Digest_any 2 (t : Int) ps ap cp W (by decide) (by decide) (by omega) (by omega) (by omega) hB h hk
  have cH := fun ap cp W h hk => Digest_any 1 (t : Int) ps ap cp W (by decide) (by decide) (by omega) (by omega) (by omega) hB h hk
  rw [digR_good 2 (.inr rfl) t h1 h9 ps ps8 hW, show digB 2 t ps = frame t ps from rfl] at cO
  rw [digR_good 1 (.inl rfl) t h1 h9 ps ps8 hW, show digB 1 t ps = ShaMath.sha (frame t ps) from rfl] at cH
  have hsl : (ShaMath.sha (frame t ps)).length = 32 := ShaMath.sha_length _
  generalize ShaMath.sha (frame t ps) = H at *
  have hpf := parse_frame t ps h1 h9 ps8 hW
  have hfl := frame_length t ps
  have cA := fun ao cap W a b c d => Parse_any (frame t ps) ao cap W a b c (by rw [hfl]; omega) d
  rw [hpf] at cA
  clear hfl
  generalize frame t ps = F at *
  clear hk pst hpf hR hW hB
  generalize l.length = n at *
  go_enter Tryd.func5, Tryd.ntmps5
  go_wp2_with fail
  refine (cP _).mono ?_
  rintro e w1 ⟨rfl, rfl⟩
  clear cP
  go_wp2_with fail
  refine cK.mono ?_
  rintro e w2 ⟨v2, rfl, ho2, hb2⟩
  clear cK
  obtain ⟨a2, k2, rfl, g1, g2, g3, g4⟩ := ho2.lines
  have c := cO a2 k2 w2 g4 (hT.keep hb2 (Nat.le_refl _))
  clear cO ht hk0 hk1 g1 g2 g3 ho2
  have psm : ps.length ≤ 9223372036854775807 := by omega
  have HPS := Lib.hid psm
  obtain ⟨m, hm⟩ : ∃ m, ps.length = m := ⟨_, rfl⟩
  rw [hm] at c cH ps8 ⊢
  have HM := Lib.hid hm
  clear hm psm
  go_wp2_with fail
  refine c.mono ?_
  rintro e w3 ⟨v3, rfl, hr3, hb3⟩
  clear c
  have hbb3 := below_step hb2 hb2.size hb3
  have c := cH a2 k2 w3 (g4.keep hb3) (hT.keep hbb3 (Nat.le_refl _))
  clear cH
  obtain ⟨a3, k3, rfl, i1, i2, i3, i4⟩ := hr3.row
  have cA' := fun W h => cA a3 k3 W i1 i2 i3 h
  clear cA i1 i2 i3 hr3
  generalize F.length = fl at *
  go_wp2_with fail
  refine c.mono ?_
  rintro e w4 ⟨v4, rfl, hr4, hb4⟩
  clear c
  have hbb4 := below_step hbb3 hbb3.size hb4
  have c := cA' w4 (i4.keep hb4)
  clear cA' i4
  obtain ⟨a4, k4, rfl, _⟩ := hr4.row
  rw [hsl]
  clear hr4 hsl
  go_wp2_with fail
  refine c.mono ?_
  rintro e w5 ⟨v5, rfl, ho5, hb5⟩
  clear c
  have hbb5 := below_step hbb4 hbb4.size hb5
  obtain ⟨a5, k5, rfl, j1, j2, j3, j4⟩ := ho5.lines
  have g5 := ((g4.keep hb3).keep hb4).keep hb5
  have cL := keepLists_any ps ps a2 a5 k2 k5 w5 g5 j4 HPS.out HPS.out
  rw [decide_eq_true rfl, HM.out] at cL
  rw [HM.out]
  clear j1 j2 j3 j4 g5 g4 ho5
  go_wp2_with fail
  refine cL.mono ?_
  rintro e w6 ⟨rfl, hb6⟩
  have hbb6 := below_step hbb5 hbb5.size hb6
  go_wp2_with fail
  go_ret
  exact ⟨rfl, hbb6⟩
end Go.Proofs.YtmldhnghfdhjmaaDoor
